import Derived.Lib.BufSteps
import Derived.Lib.ItoaLen
import Derived.Lib.Strings
import Derived.WalkKit
import Derived.WalkSpells
import Derived.WalkLawsBesides
import Derived.Deep.QuietTactic
import Derived.Deep.RegionHeld3
import Derived.Deep.RegionWith
import Derived.Deep.OwnRows
import Derived.Laws.LoneSync
import Derived.Below
import Derived.Laws.IdiomStrings
import Derived.BigQuiet
import Derived.Deep.RegionLaw
import Derived.Lib.Builder
import Derived.Lib.FrozenHead
import Derived.Lib.OthersKept
import Derived.Lib.UnsafeStr
import Derived.Laws.Externs
import Derived.Shelf.RegionOpenPlain
import Derived.Shelf.Small.Wraps
import Derived.Shelf.LaysM
import Derived.Shelf.Strconv.Itoa3
import Derived.Shelf.Strings.Search2
import Derived.Shelf.Strings.Count
import Derived.Shelf.Strings.LastIndex
import Derived.Shelf.Strings.Prefix
import Derived.Deep.DeepCutAuto
import Derived.Lib.SmallJoins
import Derived.Lib.ItoaMem
import Derived.Lib.AppendIntMem
import Derived.Deep.DeepHandedRow
import Derived.Deep.DeepWitnessRowRef
import Derived.ChangeArms
import Derived.DataElems
import Derived.SevenTiedAt
import Derived.OpenShut
import Derived.SizedLaws
import Derived.ProofKit
import Derived.Deep.Slices
import Derived.Deep.RegionHeldLaw
import Derived.Lib.OwnKind
import Derived.OwnWalk
import Derived.Laws.AppendOwnNone
import Derived.Test.YtdkboifpdodonaaDoorRows
import Derived.Test.YtdkboifpdodonaaDoorTie
import Derived.Test.YtdkboifpdodonaaDoorCards
set_option linter.unusedSimpArgs false
/-
  The document's own decimal.
-/
namespace Go.Proofs.YtdkboifpdodonaaDoor
open Go.RowKit Go.Deep
set_option maxRecDepth 100000

theorem hid {q : Prop} (h : q) : Hid q := h

/-- a string of these bytes. -/
abbrev str (l : List UInt8) : Value := .string ⟨l.toArray⟩


theorem str_add (a b : List UInt8) : (⟨a.toArray⟩ : ByteArray) ++ ⟨b.toArray⟩ = ⟨(a ++ b).toArray⟩ := by
  apply ByteArray.ext
  simp


end Go.Proofs.YtdkboifpdodonaaDoor
/-
  Clauses: when they are formed, and their text: plain mathematics.
-/
namespace PureCnf
open Go.Lib




theorem take_snoc {α : Type} (l : List α) (k : Nat) (h : k < l.length) : l.take (k + 1) = l.take k ++ [l[k]] := List.take_succ_eq_append_getElem h


/-! ### the text -/


end PureCnf
/-
  Bytes that a call owns: appends, and their text.
-/
namespace Go.Proofs.YtdkboifpdodonaaDoor
open Go.RowKit Go.Deep PureCnf
set_option maxRecDepth 100000

theorem info5 : (Tryd.prog.info? 5).map (fun i => (i.zero, i.size, i.bytes)) = some (some (.int .u8 0), 1, 1) := by kernel_rfl

theorem add_zero_addr (g j : Nat) : (⟨g, 0, none⟩ : Addr).add j = ⟨g, j, none⟩ := by
  unfold Addr.add
  split <;> simp_all
theorem cell_row {w : World} {b : Nat} {c : Array Value} {t : TypeId} {fz : Nat × Nat} (h : w.heap[b]? = some (.cells c t fz)) (i : Nat) : w.cell? ⟨b, i, none⟩ = c[i]? := by simp [World.cell?, h]









theorem sum_text {A D : List UInt8} {W : World} (h : A.length + D.length ≤ 9223372036854775807) : (Op.stringOp .add ⟨A.toArray⟩ ⟨D.toArray⟩).run Tryd.prog W = .ok (str (A ++ D)) W := by
  rw [run_string_add_sum _ ⟨A.toArray⟩ ⟨D.toArray⟩ h, str_add]

end Go.Proofs.YtdkboifpdodonaaDoor
/-
  strings.Builder as the landed writer's field: copyCheck, WriteString, String.
-/
namespace Go.Proofs.YtdkboifpdodonaaDoor
open Go.RowKit Go.Deep PureCnf
set_option maxRecDepth 100000

theorem mixedD : Tryd.prog.follows Departure.mixedOrders = true := by kernel_rfl
theorem size86 : (Tryd.prog.info? 86).map (·.size) = some 2 := by kernel_rfl
theorem lies86 : liesAt Tryd.prog Tryd.prog.depth 88 (2 / Tryd.prog.cellsOf 88) 0 86 1 = true := by kernel_rfl
theorem cells5 : Tryd.prog.cellsOf 5 = 1 := by kernel_rfl

/-- a text in the making: the writer's box at b, its bytes from B on. -/
abbrev Wr (B b : Nat) (p : Value) (T : List UInt8) (w : World) : Prop := Lib.BuilderAtF 88 5 B b p (Lib.byteCells T) w

set_option maxHeartbeats 1000000 in
theorem check_fresh (b : Nat) (w : World) (h0 : w.cell? ⟨b, 0, none⟩ = some (.pointer none)) (hsh : w.shape? b = some (88, 2)) (hfz : w.frozen? ⟨b, 0, none⟩ = false) :
    Calls Tryd.prog 95 #[.pointer (some ⟨b, 0, none⟩)] w fun e w' => e = .returned (.tuple #[]) ∧ w' = w.setCell ⟨b, 0, none⟩ (.pointer (some ⟨b, 0, none⟩)) := by
  obtain ⟨j, hj, hjs⟩ := Option.map_eq_some_iff.1 size86
  go_enter Tryd.func95, Tryd.ntmps95
  go_wp2
  rw [Lib.run_to_unsafe w ⟨b, 0, none⟩ Tryd.underlying84 Tryd.underlying176 hj (by rw [hjs]; decide) hsh (Nat.zero_lt_succ 1)]
  simp only [Result.andThen]
  rw [Oper.upon_value]
  go_wp2
  rw [run_callFunc_extern Tryd.func123 (by kernel_rfl) (by kernel_rfl) (by kernel_rfl) (e := Extern.AbiNoEscape.same) (by kernel_rfl)]
  rw [Lib.run_noEscape]
  simp only [Result.andThen]
  rw [Oper.upon_value]
  go_wp2
  rw [Lib.run_from_unsafe w ⟨b, 0, none⟩ Tryd.underlying176 Tryd.underlying84 hj hsh lies86]
  simp only [Result.andThen]
  rw [Oper.upon_value]
  go_wp2
  go_end0
  exact ⟨rfl, rfl⟩

set_option maxHeartbeats 1000000 in
theorem check_used (b : Nat) (w : World) (h0 : w.cell? ⟨b, 0, none⟩ = some (.pointer (some ⟨b, 0, none⟩))) :
    Calls Tryd.prog 95 #[.pointer (some ⟨b, 0, none⟩)] w fun e w' => e = .returned (.tuple #[]) ∧ w' = w := by
  obtain ⟨j, hj, _⟩ := Option.map_eq_some_iff.1 size86
  go_enter Tryd.func95, Tryd.ntmps95
  go_wp2
  rw [Lib.run_neq_ptr_same w _ Tryd.underlying84 hj]
  go_wp2
  go_end0
  exact ⟨rfl, rfl⟩
/-- either of the two states of a builder. -/
abbrev IsWr (B b : Nat) (T : List UInt8) (w : World) : Prop := Lib.IsBuilderF 88 5 B b (Lib.byteCells T) w
theorem check_any (B b : Nat) (T : List UInt8) (w : World) (h : IsWr B b T w) :
    Calls Tryd.prog 95 #[.pointer (some ⟨b, 0, none⟩)] w fun e w' => e = .returned (.tuple #[]) ∧ Wr B b (.pointer (some ⟨b, 0, none⟩)) T w' ∧ Below B w w' ∧ Lib.OthersKept 5 (some b) w w' := by
  rcases h with h | h
  · refine (check_fresh b w h.cell0 h.shape h.frozen0).mono ?_
    rintro e w' ⟨rfl, rfl⟩
    exact ⟨rfl, h.used _, (Below.refl B w).setCell (p := ⟨b, 0, none⟩) h.1 _, (Lib.OthersKept.refl _ _ w).setCell ⟨b, 0, none⟩ rfl _⟩
  · refine (check_used b w h.cell0).mono ?_
    rintro e w' ⟨rfl, rfl⟩
    exact ⟨rfl, h, Below.refl B _, Lib.OthersKept.refl _ _ _⟩

set_option maxHeartbeats 1000000 in
theorem write_any (B b : Nat) (T : List UInt8) (X : List UInt8) (w : World) (h : IsWr B b T w) (hlen : T.length + X.length ≤ 140737488355328) (hBw : B ≤ w.heap.size) :
    Calls Tryd.prog 70 #[.pointer (some ⟨b, 0, none⟩), str X] w fun e w' => (∃ y, e = .returned y) ∧ IsWr B b (T ++ X) w' ∧ Below B w w' ∧ Lib.OthersKept 5 (some b) w w' := by
  obtain ⟨i0, hi, hz0, hz1, hz2⟩ := info_parts info5
  have HC := hid (check_any B b T w h)
  clear h
  go_enter Tryd.func70, Tryd.ntmps70
  go_wp2_with (go_at_call 95; refine HC.out.mono ?_)
  rintro e w1 ⟨rfl, h1, hb1, hk1⟩
  obtain ⟨hB, v, hbk, hown, hne⟩ := h1
  have hsz1 := hb1.size
  have c0 : w1.cell? ⟨b, 0, none⟩ = some (.pointer (some ⟨b, 0, none⟩)) := by rw [Lib.cell_of_heap hbk]; rfl
  have c1 : w1.cell? ⟨b, 1, none⟩ = some v := by rw [Lib.cell_of_heap hbk]; rfl
  rw [Lib.byteCells_length] at hown
  have HOW := hid hown
  have HNE := hid hne
  have HBK := hid hbk
  have HB1 := hid hb1
  have HK1 := hid hk1
  clear hown hne hbk hb1 hk1
  go_wp2_with (at_builtin; refine Lib.wpList_append_own_stringF _ rfl _ _ 50 9 rfl B 5 i0 Tryd.underlying50 Tryd.underlying9 hi hz0 hz1 hz2 _ _ _ rfl HOW.out ⟨X.toArray⟩ rfl ?c3 ?c4 ?c5 ?_)
  case c3 => show T.length + X.toArray.size ≤ maxLen; unfold maxLen; simp; omega
  case c4 => show T.length + X.toArray.size ≤ 140737488355328; simpa using hlen
  case c5 => omega
  intro v' w2 hown' hgrow _
  have hlt : b < w1.heap.size := (Array.getElem?_eq_some_iff.1 HBK.out).1
  have hb2 : w2.heap[b]? = some (.cells #[.pointer (some ⟨b, 0, none⟩), v] 88 (0, 0)) := by
    rw [hgrow.block b hlt (fun e => HNE.out e.symm)]
    exact HBK.out
  have d0 : w2.cell? ⟨b, 0, none⟩ = some (.pointer (some ⟨b, 0, none⟩)) := by rw [Lib.cell_of_heap hb2]; rfl
  have d1 : w2.cell? ⟨b, 1, none⟩ = some v := by rw [Lib.cell_of_heap hb2]; rfl
  have f1 : w2.frozen? ⟨b, 1, none⟩ = false := Lib.frozen_of_heap hb2 1
  obtain ⟨ao, n', cap, rfl⟩ : ∃ ao n' cap, v' = .slice ao n' cap := by
    rcases hown'.2 with ⟨hv, _⟩ | ⟨g, cap, cur, fz, hv, _⟩
    · exact ⟨_, _, _, hv⟩
    · exact ⟨_, _, _, hv⟩
  have FIN : Hid (IsWr B b (T ++ X) (w2.setCell ⟨b, 1, none⟩ (.slice ao n' cap)) ∧ Below B w (w2.setCell ⟨b, 1, none⟩ (.slice ao n' cap)) ∧ Lib.OthersKept 5 (some b) w (w2.setCell ⟨b, 1, none⟩ (.slice ao n' cap))) := by
    refine ⟨.inr ?_, (HB1.out.grown hgrow (by omega) (fun k hk => (HOW.out.lt k hk).1)).setCell (p := ⟨b, 1, none⟩) hB _, (HK1.out.grown hgrow (Lib.ownsRowF_kind HOW.out)).setCell ⟨b, 1, none⟩ rfl _⟩
    have e : Lib.byteCells (T ++ X) = Lib.byteCells T ++ Lib.strCells ⟨X.toArray⟩ := by rw [Lib.byteCells_append]; rfl
    refine Lib.BuilderAtF.put (T := 88) (e := 5) hB hb2 (bs' := Lib.byteCells (T ++ X)) ?_ (by decide)
    have el : (Lib.byteCells T ++ Lib.strCells ⟨X.toArray⟩).length = T.length + (⟨X.toArray⟩ : ByteArray).size := by rw [List.length_append, Lib.byteCells_length, Lib.strCells_length]
    rw [e, el]
    exact hown'
  clear hown' hgrow hb2
  go_wp2
  go_ret2
  exact ⟨⟨_, rfl⟩, FIN.out⟩

set_option maxHeartbeats 1000000 in
theorem string_any (B b : Nat) (T : List UInt8) (w : World) (h : IsWr B b T w) (h0 : T ≠ []) :
    Calls Tryd.prog 49 #[.pointer (some ⟨b, 0, none⟩)] w fun e w' => e = .returned (str T) ∧ Below B w w' := by
  obtain ⟨p, hB, v, hbk, hown, hne⟩ : ∃ p, Wr B b p T w := by
    rcases h with h | h
    · exact ⟨_, h⟩
    · exact ⟨_, h⟩
  have hl0 : T.length ≠ 0 := by simpa using h0
  rw [Lib.byteCells_length] at hown
  obtain ⟨g, cap, cur, fz, rfl, hbg, hg, hfz, hnc, hcm, hcs, htake⟩ : ∃ g cap cur fz, v = .slice (some ⟨g, 0, none⟩) T.length cap ∧ B ≤ g ∧ w.heap[g]? = some (.cells cur 5 fz) ∧ fz.2 ≤ T.length * 1 ∧ T.length ≤ cap ∧ cap ≤ maxLen ∧ cur.size = cap * 1 ∧ cur.toList.take (T.length * 1) = Lib.byteCells T := by
    rcases hown.2 with ⟨_, hz⟩ | ⟨g, cap, cur, fz, hv, r⟩
    · exact absurd hz hl0
    · exact ⟨g, cap, cur, fz, hv, r⟩
  have c1 : w.drew.cell? ⟨b, 1, none⟩ = some (.slice (some ⟨g, 0, none⟩) T.length cap) := by
    have : w.drew.heap[b]? = some (.cells #[p, .slice (some ⟨g, 0, none⟩) T.length cap] 88 (0, 0)) := hbk
    rw [Lib.cell_of_heap this]; rfl
  have hSD : (Builtin.unsafeSliceData_ #[50] 138 #[.slice (some ⟨g, 0, none⟩) T.length cap]).run Tryd.prog w.drew = .ok (.pointer (some ⟨g, 0, none⟩)) w.drew :=
    Lib.run_unsafeSliceData_row _ _ _ _ _ _ (by omega)
  have hUS : (Builtin.unsafeString_ #[138, 3] 9 #[.pointer (some ⟨g, 0, none⟩), .int .i64 T.length]).run Tryd.prog w.drew = .ok (.string ⟨T.toArray⟩) (w.drew.freeze ⟨g, 0, none⟩ T.length) := by
    refine Lib.run_unsafeString_row w.drew 138 3 9 5 Tryd.underlying138 cells5 g cur.size (by have hg' : w.drew.heap[g]? = some (.cells cur 5 fz) := hg; simp [World.shape?, hg']) T h0 (by omega) (by unfold maxLen at hcm; omega) ?_
    intro j x hx
    have := hown.cells (g := g) rfl j (.int .u8 x.toNat) (by simp [Lib.byteCells, hx])
    exact this
  have mixed := mixedD
  have HF := hid (Lib.below_freeze (Below.drew (Below.refl B w)) (p := ⟨g, 0, none⟩) hbg T.length)
  clear hown hne hbk hg htake hfz hcm hcs hB h
  go_enter Tryd.func49, Tryd.ntmps49
  go_wp2
  go_region_o
  all_goals (go_wp2; go_ret; exact ⟨rfl, HF.out⟩)
end Go.Proofs.YtdkboifpdodonaaDoor
/-
  The landed writer's put.
-/
namespace Go.Proofs.YtdkboifpdodonaaDoor
open Go.RowKit Go.Deep PureCnf
set_option maxRecDepth 100000

/-- texts that lie in a row of their own. -/
def Parts (w : World) (g : Nat) (ps : List (List UInt8)) : Prop := w.heap[g]? = some (.cells (ps.map str).toArray 9 (0, 0))
theorem Parts.kept {w w' : World} {g b : Nat} {ps : List (List UInt8)} (h : Parts w g ps) (hk : Lib.OthersKept 5 (some b) w w') (hg : g ≠ b) : Parts w' g ps := hk g _ h (fun e => hg (Option.some.inj e)) (fun c fz e => by simp at e)

set_option maxHeartbeats 1000000 in
theorem put_any (B b g : Nat) (T : List UInt8) (ps : List (List UInt8)) (w : World) (h : IsWr B b T w) (hp : Parts w g ps) (hg : g ≠ b) (hlen : T.length + ps.flatten.length ≤ 140737488355328) (hn : ps.length ≤ 1000) (hBw : B ≤ w.heap.size) :
    Calls Tryd.prog 47 #[.pointer (some ⟨b, 0, none⟩), .slice (some ⟨g, 0, none⟩) ps.length ps.length] w fun e w' => e = .returned (.tuple #[]) ∧ IsWr B b (T ++ ps.flatten) w' ∧ Below B w w' ∧ Lib.OthersKept 5 (some b) w w' := by
  have HH := hid h
  have HP := hid hp
  clear h hp
  go_enter Tryd.func47, Tryd.ntmps47
  go_wp2_with fail
  go_loopw [8] (fun iv W => ∃ j : Nat, iv = .int .i64 j ∧ j ≤ ps.length ∧ Hid (IsWr B b (T ++ (ps.take j).flatten) W ∧ Below B w W ∧ Lib.OthersKept 5 (some b) w W ∧ Parts W g ps)) (fun iv _ => ps.length - (intOf iv).toNat)
  case atStart => exact ⟨0, rfl, Nat.zero_le _, by simpa using HH.out, Below.refl _ _, Lib.OthersKept.refl _ _ _, HP.out⟩
  case round =>
    obtain ⟨j, rfl, hj, HQ⟩ := hrel
    by_cases hlt : j < ps.length
    · obtain ⟨q1, q2, q3, q4⟩ := HQ.out
      have c0 : wr.cell? ⟨g, j, none⟩ = some (str ps[j]) := by rw [cell_row q4]; simp [hlt]
      have hfl : (ps.take (j + 1)).flatten = (ps.take j).flatten ++ ps[j] := by rw [take_snoc ps j hlt, List.flatten_append]; simp only [List.flatten_cons, List.flatten_nil, List.append_nil]
      have hle : (ps.take (j + 1)).flatten.length ≤ ps.flatten.length := by
        have : ps.flatten = (ps.take (j + 1)).flatten ++ (ps.drop (j + 1)).flatten := by rw [← List.flatten_append, List.take_append_drop]
        rw [this, List.length_append]; omega
      rw [hfl, List.length_append] at hle
      have HW := hid (write_any B b _ ps[j] wr q1 (by rw [List.length_append]; omega) (by have := q2.size; omega))
      obtain ⟨X, hX⟩ : ∃ X, X = ps[j] := ⟨_, rfl⟩
      rw [← hX] at HW c0 hfl
      have HFL := hid hfl
      have HQ2 := hid q2
      have HQ3 := hid q3
      have HQ4 := hid q4
      clear q1 q2 q3 q4 HQ hX hfl hle HH HP
      go_wp2_with fail
      refine HW.out.mono ?_
      rintro e w2 ⟨⟨y, rfl⟩, r1, r2, r3⟩
      have R1 := hid r1
      have R2 := hid (HQ2.out.trans (r2.mono (Nat.le_refl _)))
      have R3 := hid (HQ3.out.trans r3)
      have R4 := hid (HQ4.out.kept r3 hg)
      clear r1 r2 r3
      go_wp2_with fail
      go_roundw
      case rel => exact ⟨j + 1, by go_num, hlt, by rw [HFL.out, ← List.append_assoc]; exact R1.out, R2.out, R3.out, R4.out⟩
      case measure => simp [intOf]; omega
    · obtain rfl : j = ps.length := by omega
      obtain ⟨q1, q2, q3, q4⟩ := HQ.out
      rw [List.take_length] at q1
      have FIN : Hid (IsWr B b (T ++ ps.flatten) wr ∧ Below B w wr ∧ Lib.OthersKept 5 (some b) w wr) := ⟨q1, q2, q3⟩
      clear q1 q2 q3 q4 HQ
      go_wp2_with fail
      go_end0
      exact ⟨rfl, FIN.out⟩
end Go.Proofs.YtdkboifpdodonaaDoor
/-
  DERIVED: THE SHELF's CONTRACTS AT THIS DUMP, IN PLAIN WORDS (tools/lay-plain.mjs out of 'YtdkboifpdodonaaDoorShelf.lean', which tools/lay-shelf.mjs wrote): THE SAME DECLARATIONS UNDER THE SAME NAMES: 'import', 'namespace', 'open', 'def', 'theorem' AND NOTHING ELSE: no command of the shelf's: FOR A HAND-IN. Each laying: the table of numbers ('.._ren') and one theorem, a field a fact of the dump's own or the kernel's comparison; each contract: ONE APPLICATION.
-/
namespace Go.Proofs
open Go.Shelf
def Tryd.laysM171_ren : Go.Shelf.Ren := ⟨fun | 171 => 48 | 243 => 71 | 246 => 96 | 283 => 124 | 284 => 125 | 285 => 126 | 286 => 127 | 129 => 145 | 317 => 144 | 318 => 146 | 319 => 147 | 320 => 148 | 337 => 153 | 338 => 154 | n => n, fun | 3 => 3 | 9 => 9 | 2 => 2 | 4 => 4 | 171 => 178 | 0 => 0 | 53 => 179 | 37 => 50 | 5 => 5 | 173 => 182 | 212 => 196 | 51 => 186 | 20 => 20 | 213 => 197 | 46 => 184 | 232 => 204 | 233 => 205 | n => n, fun | 17 => 2 | 18 => 5 | 19 => 6 | n => n⟩
theorem Tryd.laysM171 : Go.Proofs.LaysM.n171 Tryd.prog Tryd.laysM171_ren := {
  mixed := by kernel_rfl
  f129 := Tryd.func145.trans (congrArg some (by kernel_rfl))
  f171 := Tryd.func48.trans (congrArg some (by kernel_rfl))
  f243 := Tryd.func71.trans (congrArg some (by kernel_rfl))
  f246 := Tryd.func96.trans (congrArg some (by kernel_rfl))
  f283 := Tryd.func124.trans (congrArg some (by kernel_rfl))
  f284 := Tryd.func125.trans (congrArg some (by kernel_rfl))
  f285 := Tryd.func126.trans (congrArg some (by kernel_rfl))
  f286 := Tryd.func127.trans (congrArg some (by kernel_rfl))
  f317 := Tryd.func144.trans (congrArg some (by kernel_rfl))
  f318 := Tryd.func146.trans (congrArg some (by kernel_rfl))
  f319 := Tryd.func147.trans (congrArg some (by kernel_rfl))
  f320 := Tryd.func148.trans (congrArg some (by kernel_rfl))
  f337 := Tryd.func153.trans (congrArg some (by kernel_rfl))
  f338 := Tryd.func154.trans (congrArg some (by kernel_rfl))
  t0 := Tryd.underlying0
  a0 := Tryd.isAgg0
  z0 := Tryd.sizeOf0
  v0 := Tryd.zeroValue0
  t2 := Tryd.underlying2
  a2 := Tryd.isAgg2
  z2 := Tryd.sizeOf2
  v2 := Tryd.zeroValue2
  t3 := Tryd.underlying3
  a3 := Tryd.isAgg3
  z3 := Tryd.sizeOf3
  v3 := Tryd.zeroValue3
  t4 := Tryd.underlying4
  a4 := Tryd.isAgg4
  z4 := Tryd.sizeOf4
  v4 := Tryd.zeroValue4
  t5 := Tryd.underlying5
  a5 := Tryd.isAgg5
  z5 := Tryd.sizeOf5
  v5 := Tryd.zeroValue5
  t9 := Tryd.underlying9
  a9 := Tryd.isAgg9
  z9 := Tryd.sizeOf9
  v9 := Tryd.zeroValue9
  t20 := Tryd.underlying20
  a20 := Tryd.isAgg20
  z20 := Tryd.sizeOf20
  v20 := Tryd.zeroValue20
  t37 := Tryd.underlying50
  a37 := Tryd.isAgg50
  z37 := Tryd.sizeOf50
  v37 := Tryd.zeroValue50
  t46 := Tryd.underlying184
  a46 := Tryd.isAgg184
  z46 := Tryd.sizeOf184
  v46 := Tryd.zeroValue184
  t51 := Tryd.underlying186
  a51 := Tryd.isAgg186
  z51 := Tryd.sizeOf186
  v51 := Tryd.zeroValue186
  t53 := Tryd.underlying179
  a53 := Tryd.isAgg179
  z53 := Tryd.sizeOf179
  v53 := Tryd.zeroValue179
  t171 := Tryd.underlying178
  a171 := Tryd.isAgg178
  z171 := Tryd.sizeOf178
  v171 := Tryd.zeroValue178
  t173 := Tryd.underlying182
  a173 := Tryd.isAgg182
  z173 := Tryd.sizeOf182
  v173 := Tryd.zeroValue182
  t212 := Tryd.underlying196
  a212 := Tryd.isAgg196
  z212 := Tryd.sizeOf196
  v212 := Tryd.zeroValue196
  t213 := Tryd.underlying197
  a213 := Tryd.isAgg197
  z213 := Tryd.sizeOf197
  t232 := Tryd.underlying204
  a232 := Tryd.isAgg204
  z232 := Tryd.sizeOf204
  v232 := Tryd.zeroValue204
  t233 := Tryd.underlying205
  a233 := Tryd.isAgg205
  z233 := Tryd.sizeOf205
  v233 := Tryd.zeroValue205
  g17 := by kernel_rfl
  g18 := by kernel_rfl
  g19 := by kernel_rfl
  i0 := by kernel_rfl
  i2 := by kernel_rfl
  i3 := by kernel_rfl
  i4 := by kernel_rfl
  i5 := by kernel_rfl
  i9 := by kernel_rfl
  i20 := by kernel_rfl
  i37 := by kernel_rfl
  i46 := by kernel_rfl
  i51 := by kernel_rfl
  i53 := by kernel_rfl
  i171 := by kernel_rfl
  i173 := by kernel_rfl
  i212 := by kernel_rfl
  i232 := by kernel_rfl
  i233 := by kernel_rfl
  m17 := by kernel_rfl
  m18 := by kernel_rfl
  m19 := by kernel_rfl }
open Go.RowKit Go.Sort Go.Lib in
theorem Tryd.strconv_Itoa (n : Int) (h0 : -9223372036854775808 ≤ n) (h1 : n ≤ 9223372036854775807) (w : World) (htab : Lib.TabIs Tryd.prog w "internal/strconv.uint64pow10" .u64 Lib.pow10Tab) :
    Calls Tryd.prog 48 #[.int .i64 n] w fun e w' => e = .returned (.string ⟨(Lib.itoa n).toArray⟩) ∧ ∃ k os, w' = grow (w.drewN k) os := Any.strconv_Itoa Tryd.laysM171 n h0 h1 w htab
end Go.Proofs
/-
  The document's own PrintCnf.
-/
namespace Go.Proofs.YtdkboifpdodonaaDoor
open Go.RowKit Go.Deep PureCnf
set_option maxRecDepth 100000



theorem below_cell {B b o : Nat} {w w' : World} {x : Value} (hb : Below B w w') (hlt : b < B) (h : w.cell? ⟨b, o, none⟩ = some x) : w'.cell? ⟨b, o, none⟩ = some x := (hb.cell (p := ⟨b, o, none⟩) hlt).trans h



end Go.Proofs.YtdkboifpdodonaaDoor
/-
  sameInts, sameCnf, of lists that are the same.
-/
namespace Go.Proofs.YtdkboifpdodonaaDoor
open Go.RowKit Go.Deep PureCnf
set_option maxRecDepth 100000



theorem Below.drewN' {B : Nat} {w w' : World} (h : Below B w w') (n : Nat) : Below B w (w'.drewN n) := ⟨h.os, h.tape, h.output, h.size, h.block⟩

end Go.Proofs.YtdkboifpdodonaaDoor
/-
  FormulaWrites: the law, over contracts of the program's own PrintCnf and FormedCnf.
-/
namespace Go.Proofs.YtdkboifpdodonaaDoor
open Go.RowKit Go.Deep PureCnf
set_option maxRecDepth 100000





/-- the library's table of powers of ten lies there. -/
def Tab (w : World) : Prop := Lib.TabIs Tryd.prog w "internal/strconv.uint64pow10" .u64 Lib.pow10Tab
theorem Tab.below {w W : World} (h : Tab w) (hb : Below w.heap.size w W) : Tab W := Joins.tab_stays (g := 2) (by kernel_rfl) h hb (Nat.le_refl _)


theorem unfrozen_row {w : World} {b : Nat} {c : Array Value} {t : TypeId} (h : w.heap[b]? = some (.cells c t (0, 0))) (i : Nat) : w.frozen? ⟨b, i, none⟩ = false := by simp [World.frozen?, h]


end Go.Proofs.YtdkboifpdodonaaDoor
/-
  strconv.Itoa; FormedCnf of the landed program.
-/
namespace Go.Proofs.YtdkboifpdodonaaDoor
open Go.RowKit Go.Deep PureCnf
set_option maxRecDepth 100000

theorem itoa_any (n : Int) (h0 : -9223372036854775808 ≤ n) (h1 : n ≤ 9223372036854775807) (w : World) (hT : Tab w) :
    Calls Tryd.prog 48 #[.int .i64 n] w fun e w' => e = .returned (str (Lib.itoa n)) ∧ Below w.heap.size w w' := by
  refine (Tryd.strconv_Itoa n h0 h1 w hT).mono ?_
  rintro e w' ⟨rfl, k, os, rfl⟩
  exact ⟨rfl, Lib.below_grow _ _ (Nat.le_refl _) k os⟩
theorem IsWr.on {B b : Nat} {T : List UInt8} {w w' : World} (h : IsWr B b T w) (hb : Below w.heap.size w w') : IsWr B b T w' := by
  have one : ∀ p, Wr B b p T w → Wr B b p T w' := by
    rintro p ⟨hB, v, hk, ho, hne⟩
    refine ⟨hB, v, (hb.block b (Array.getElem?_eq_some_iff.1 hk).1).trans hk, ⟨ho.1, ?_⟩, hne⟩
    rcases ho.2 with hn | ⟨g, cap, cur, fz, hv, hB', hg, r⟩
    · exact .inl hn
    · exact .inr ⟨g, cap, cur, fz, hv, hB', (hb.block g (Array.getElem?_eq_some_iff.1 hg).1).trans hg, r⟩
  rcases h with h | h
  · exact .inl (one _ h)
  · exact .inr (one _ h)

/-! ### FormedCnf -/


end Go.Proofs.YtdkboifpdodonaaDoor
/-
  The landed program's writeClauses.
-/
namespace Go.Proofs.YtdkboifpdodonaaDoor
open Go.RowKit Go.Deep PureCnf
set_option maxRecDepth 100000

theorem isWr_new {w : World} : IsWr w.heap.size w.heap.size [] (w.alloc (Obj.cells #[.pointer none, .slice none 0 0] 88)) :=
  .inl ⟨Nat.le_refl _, .slice none 0 0, heap_alloc_new w _, ⟨by simp [Lib.byteCells], .inl ⟨rfl, by simp [Lib.byteCells]⟩⟩, by simp [Value.ownBlock]⟩

end Go.Proofs.YtdkboifpdodonaaDoor
/-
  PrintCnf of the landed program.
-/
namespace Go.Proofs.YtdkboifpdodonaaDoor
open Go.RowKit Go.Deep PureCnf
set_option maxRecDepth 100000

theorem within_any (X : List UInt8) (w : World) (hX : X.length ≤ 2199023255552) :
    Calls Tryd.prog 24 #[str X] w fun e w' => e = .returned (.tuple #[str (if X.length ≤ 1048576 then X else []), .int .i64 (if X.length ≤ 1048576 then 0 else 5)]) ∧ w' = w := by
  by_cases h : X.length ≤ 1048576
  · rw [if_pos h, if_pos h]
    have h2 : ¬ (1048576 : Int) < (X.length : Int) := by omega
    clear h
    go_enter Tryd.func24, Tryd.ntmps24
    go_wp2
    go_ret2
    exact ⟨rfl, rfl⟩
  · rw [if_neg h, if_neg h]
    have h2 : (1048576 : Int) < (X.length : Int) := by omega
    clear h
    go_enter Tryd.func24, Tryd.ntmps24
    go_wp2
    go_ret2
    exact ⟨rfl, rfl⟩


end Go.Proofs.YtdkboifpdodonaaDoor
/-
  Rows: clauses that came in, opened; the table of powers of ten.
-/
namespace Go.Proofs.YtdkboifpdodonaaDoor
open Go.ChangeShapes Go.WideShapes Go.ChangeAt Go.RowKit Go.Deep
set_option maxRecDepth 100000

theorem own : ownKnob Tryd.prog.godebug = none := by kernel_rfl
theorem laidOut : laidOutB Tryd.prog = true := by kernel_rfl

section
variable {H : Type} {enc : TypeId × Value → H} {W : World} {spare : Nat → Bool} {held : Bool}


end

theorem pow10_is : (Rows.laid_internal_strconv_uint64pow10 : DataW Unit) = Lib.tabData .u64 Lib.pow10Tab := by kernel_rfl
theorem tab_of_laid {W : World} (h0 : laidMetH Tryd.prog [("math/bits.deBruijn32tab", Rows.laid_math_bits_deBruijn32tab), ("math/bits.deBruijn64tab", Rows.laid_math_bits_deBruijn64tab), ("internal/strconv.uint64pow10", Rows.laid_internal_strconv_uint64pow10)] W) : Tab W := by
  have h : laidMet Tryd.prog [("math/bits.deBruijn32tab", Rows.laid_math_bits_deBruijn32tab), ("math/bits.deBruijn64tab", Rows.laid_math_bits_deBruijn64tab), ("internal/strconv.uint64pow10", Rows.laid_internal_strconv_uint64pow10)] W := h0
  obtain ⟨ps, hl, _⟩ := h
  obtain ⟨_, _, _, _, _, _, _, _, _, _, h2, _⟩ := hl
  obtain ⟨_, _, _, _, _, _, _, _, _, _, h3, _⟩ := h2
  obtain ⟨g', t', cs, fuel, p, q, hg', ht', hvar, hd, _, _⟩ := h3
  obtain rfl : 2 = g' := Option.some.inj ((show Tryd.prog.globalNamed "internal/strconv.uint64pow10" = some 2 by kernel_rfl).symm.trans hg')
  obtain rfl : 196 = t' := Option.some.inj ((show (Tryd.prog.globals[2]?).map (·.type) = some 196 by kernel_rfl).symm.trans ht')
  rw [pow10_is] at hd
  unfold Tab Lib.TabIs
  rw [hvar, ← Lib.cells_of_tab Tryd.underlying196 Tryd.underlying179 (by kernel_rfl) (by kernel_rfl) hd]
end Go.Proofs.YtdkboifpdodonaaDoor
/-
  A formula's text: tokens, and what is read by one stack: plain mathematics.
-/
namespace PureForm
open PureCnf









/-! ### the stack -/
abbrev Nd := Int × Int

def bindsN (op : Nat) : Nat := if op = 6 then 5 else if op = 8 then 4 else if op = 7 then 3 else if op = 9 then 2 else 1






end PureForm
/-
  Trees of formulas: their list, their text by items, and what is read of it: plain mathematics.
-/
namespace PureForm
open PureCnf Go.Lib

structure Tr where
  nd : Nd
  ar : Fin 4
  kid : Fin ar.val → Tr

def Tr.lf (x : Nd) : Tr := ⟨x, ⟨0, by decide⟩, fun i => absurd i.isLt (Nat.not_lt_zero _)⟩
def Tr.un (x : Nd) (a : Tr) : Tr := ⟨x, ⟨1, by decide⟩, fun _ => a⟩
def Tr.bi (x : Nd) (a b : Tr) : Tr := ⟨x, ⟨2, by decide⟩, fun i => if i.val = 0 then a else b⟩
def Tr.te (x : Nd) (a b c : Tr) : Tr := ⟨x, ⟨3, by decide⟩, fun i => if i.val = 0 then a else if i.val = 1 then b else c⟩

theorem Tr.ind {motive : Tr → Prop} (lf : ∀ x, motive (.lf x)) (un : ∀ x a, motive a → motive (.un x a)) (bi : ∀ x a b, motive a → motive b → motive (.bi x a b))
    (te : ∀ x a b c, motive a → motive b → motive c → motive (.te x a b c)) (t : Tr) : motive t := by
  induction t with
  | mk x n kid ih =>
    obtain ⟨n, hn⟩ := n
    match n, hn, kid, ih with
    | 0, _, kid, ih =>
      have e : kid = fun i => absurd i.isLt (Nat.not_lt_zero _) := funext fun i => absurd i.isLt (Nat.not_lt_zero _)
      rw [e]
      exact lf x
    | 1, _, kid, ih =>
      have e : kid = fun _ => kid ⟨0, by simp⟩ := funext fun i => congrArg kid (Fin.ext (by have := i.isLt; simp only at this; show i.val = 0; omega))
      rw [e]
      exact un x _ (ih _)
    | 2, _, kid, ih =>
      have e : kid = fun i => if i.val = 0 then kid ⟨0, by simp⟩ else kid ⟨1, by simp⟩ := funext fun i => by
        have hi := i.isLt
        simp only at hi
        split
        · next h => exact congrArg kid (Fin.ext h)
        · next h => exact congrArg kid (Fin.ext (by show i.val = 1; omega))
      rw [e]
      exact bi x _ _ (ih _) (ih _)
    | 3, _, kid, ih =>
      have e : kid = fun i => if i.val = 0 then kid ⟨0, by simp⟩ else if i.val = 1 then kid ⟨1, by simp⟩ else kid ⟨2, by simp⟩ := funext fun i => by
        have hi := i.isLt
        simp only at hi
        split
        · next h => exact congrArg kid (Fin.ext h)
        · split
          · next h => exact congrArg kid (Fin.ext h)
          · next h0 h1 => exact congrArg kid (Fin.ext (by show i.val = 2; omega))
      rw [e]
      exact te x _ _ _ (ih _) (ih _) (ih _)
    | n + 4, hn, _, _ => omega
theorem Tr.cas {motive : Tr → Prop} (lf : ∀ x, motive (.lf x)) (un : ∀ x a, motive (.un x a)) (bi : ∀ x a b, motive (.bi x a b))
    (te : ∀ x a b c, motive (.te x a b c)) (t : Tr) : motive t := Tr.ind lf (fun x a _ => un x a) (fun x a b _ _ => bi x a b) (fun x a b c _ _ _ => te x a b c) t

/-- a function by recursion over a tree, told kind by kind. -/
def Tr.fold {α : Type} (lf : Nd → α) (un : Nd → Tr → α → α) (bi : Nd → Tr → Tr → α → α → α) (te : Nd → Tr → Tr → Tr → α → α → α → α) : Tr → α
  | ⟨x, ⟨0, _⟩, _⟩ => lf x
  | ⟨x, ⟨1, _⟩, k⟩ => un x (k ⟨0, by simp⟩) (Tr.fold lf un bi te (k ⟨0, by simp⟩))
  | ⟨x, ⟨2, _⟩, k⟩ => bi x (k ⟨0, by simp⟩) (k ⟨1, by simp⟩) (Tr.fold lf un bi te (k ⟨0, by simp⟩)) (Tr.fold lf un bi te (k ⟨1, by simp⟩))
  | ⟨x, ⟨_ + 3, _⟩, k⟩ => te x (k ⟨0, by simp⟩) (k ⟨1, by simp⟩) (k ⟨2, by simp⟩) (Tr.fold lf un bi te (k ⟨0, by simp⟩)) (Tr.fold lf un bi te (k ⟨1, by simp⟩)) (Tr.fold lf un bi te (k ⟨2, by simp⟩))
section
variable {α : Type} {lf : Nd → α} {un : Nd → Tr → α → α} {bi : Nd → Tr → Tr → α → α → α} {te : Nd → Tr → Tr → Tr → α → α → α → α}
theorem Tr.fold_lf (x : Nd) : Tr.fold lf un bi te (.lf x) = lf x := rfl
theorem Tr.fold_un (x : Nd) (a : Tr) : Tr.fold lf un bi te (.un x a) = un x a (Tr.fold lf un bi te a) := rfl
theorem Tr.fold_bi (x : Nd) (a b : Tr) : Tr.fold lf un bi te (.bi x a b) = bi x a b (Tr.fold lf un bi te a) (Tr.fold lf un bi te b) := rfl
theorem Tr.fold_te (x : Nd) (a b c : Tr) : Tr.fold lf un bi te (.te x a b c) = te x a b c (Tr.fold lf un bi te a) (Tr.fold lf un bi te b) (Tr.fold lf un bi te c) := rfl
end
def Tr.root (t : Tr) : Nd := t.nd
theorem Tr.root_lf (x : Nd) : (Tr.lf x).root = x := rfl
theorem Tr.root_un (x : Nd) (a : Tr) : (Tr.un x a).root = x := rfl
theorem Tr.root_bi (x : Nd) (a b : Tr) : (Tr.bi x a b).root = x := rfl
theorem Tr.root_te (x : Nd) (a b c : Tr) : (Tr.te x a b c).root = x := rfl
def Tr.post : Tr → List Nd := Tr.fold (fun x => [x]) (fun x _ a => a ++ [x]) (fun x _ _ a b => a ++ b ++ [x]) (fun x _ _ _ a b c => a ++ b ++ c ++ [x])
theorem Tr.post_lf (x : Nd) : (Tr.lf x).post = [x] := rfl
theorem Tr.post_un (x : Nd) (a : Tr) : (Tr.un x a).post = a.post ++ [x] := rfl
theorem Tr.post_bi (x : Nd) (a b : Tr) : (Tr.bi x a b).post = a.post ++ b.post ++ [x] := rfl
theorem Tr.post_te (x : Nd) (a b c : Tr) : (Tr.te x a b c).post = a.post ++ b.post ++ c.post ++ [x] := rfl
def isQ (o : Int) : Bool := decide (o = 4 ∨ o = 5)
def two (o : Int) : Bool := decide (6 ≤ o ∧ o ≤ 10)
def Tr.good : Tr → Prop := Tr.fold (fun x => (x.1 = 1 ∧ (x.2 = 0 ∨ x.2 = 1)) ∨ (x.1 = 2 ∧ 0 ≤ x.2 ∧ x.2 < 65536)) (fun x _ a => ((x.1 = 3 ∧ x.2 = 0) ∨ (isQ x.1 = true ∧ 0 ≤ x.2 ∧ x.2 < 65536)) ∧ a) (fun x _ _ a b => (two x.1 = true ∧ x.2 = 0) ∧ a ∧ b) (fun x _ _ _ a b c => (x.1 = 11 ∧ x.2 = 0) ∧ a ∧ b ∧ c)

def bindsI (o : Int) : Nat := if o = 6 then 5 else if o = 8 then 4 else if o = 7 then 3 else if o = 9 then 2 else 1
def firstB (op r : Int) : Bool := two r && (op != 10 && (if op = 9 then (r == 9 || r == 10) else decide (bindsI r < bindsI op)))
def secondB (op r : Int) : Bool := two r && (if op = 9 ∨ op = 10 then r == 10 else decide (bindsI r ≤ bindsI op))
/-- are brackets printed? -/
def brk (br last : Bool) (o : Int) : Bool := br || (isQ o && !last)

/-- bytes, and the token that they are. -/
abbrev Item := List UInt8 × Nat × Nat
def signI (op : Int) : Item :=
  if op = 6 then ([32, 38, 32], 7, 6) else if op = 8 then ([32, 94, 32], 7, 8) else if op = 7 then ([32, 124, 32], 7, 7) else if op = 9 then ([32, 45, 62, 32], 7, 9) else ([32, 60, 45, 62, 32], 7, 10)
def varI (n : Int) : Item := (120 :: decDigits n.toNat, 3, n.toNat)
def constI (n : Int) : Item := if n = 1 then ([116, 114, 117, 101], 2, 1) else ([102, 97, 108, 115, 101], 2, 0)
def quantI (op : Int) : Item := if op = 4 then ([101, 120, 105, 115, 116, 115, 32], 5, 4) else ([102, 111, 114, 97, 108, 108, 32], 5, 5)
def notI : Item := ([33], 4, 0)
def openI : Item := ([40], 8, 0)
def closeI : Item := ([41], 9, 0)
def commaI : Item := ([44, 32], 10, 0)
def colonI : Item := ([58, 32], 11, 0)
def iteI : Item := ([105, 116, 101], 6, 131)

def sepI (q : Int) : List Item := if q = 0 then [] else [colonI]
/-- in brackets or not. -/
def wrapI (b : Bool) (l : List Item) : List Item := if b = true then openI :: l ++ [closeI] else l
/-- the text of a tree; q: the quantifier right around it (0: none), whose variables have been printed; last: nothing but a closing bracket, a comma or the end follows. -/
def Tr.its : Tr → Int → Bool → List Item := Tr.fold (fun x q _ => sepI q ++ [if x.1 = 1 then constI x.2 else varI x.2])
  (fun x a i q last => if isQ x.1 = true then (if x.1 = q then commaI :: varI x.2 :: i q true else sepI q ++ quantI x.1 :: varI x.2 :: i x.1 true)
    else sepI q ++ notI :: wrapI (brk (two a.root.1) last a.root.1) (i 0 (brk (two a.root.1) last a.root.1 || last)))
  (fun x a b i j q last => sepI q ++ wrapI (brk (firstB x.1 a.root.1) false a.root.1) (i 0 (brk (firstB x.1 a.root.1) false a.root.1 || false)) ++
      signI x.1 :: wrapI (brk (secondB x.1 b.root.1) last b.root.1) (j 0 (brk (secondB x.1 b.root.1) last b.root.1 || last)))
  (fun _ _ _ _ i j k q _ => sepI q ++ iteI :: openI :: i 0 true ++ commaI :: j 0 true ++ commaI :: k 0 true ++ [closeI])
theorem Tr.its_lf (x : Nd) (q : Int) (last : Bool) : (Tr.lf x).its q last = sepI q ++ [if x.1 = 1 then constI x.2 else varI x.2] := rfl
theorem Tr.its_un (x : Nd) (a : Tr) (q : Int) (last : Bool) : (Tr.un x a).its q last =
    if isQ x.1 = true then (if x.1 = q then commaI :: varI x.2 :: a.its q true else sepI q ++ quantI x.1 :: varI x.2 :: a.its x.1 true)
    else sepI q ++ notI :: wrapI (brk (two a.root.1) last a.root.1) (a.its 0 (brk (two a.root.1) last a.root.1 || last)) := rfl
theorem Tr.its_bi (x : Nd) (a b : Tr) (q : Int) (last : Bool) : (Tr.bi x a b).its q last =
    sepI q ++ wrapI (brk (firstB x.1 a.root.1) false a.root.1) (a.its 0 (brk (firstB x.1 a.root.1) false a.root.1 || false)) ++
      signI x.1 :: wrapI (brk (secondB x.1 b.root.1) last b.root.1) (b.its 0 (brk (secondB x.1 b.root.1) last b.root.1 || last)) := rfl
theorem Tr.its_te (x : Nd) (a b c : Tr) (q : Int) (last : Bool) : (Tr.te x a b c).its q last = sepI q ++ iteI :: openI :: a.its 0 true ++ commaI :: b.its 0 true ++ commaI :: c.its 0 true ++ [closeI] := rfl

def wrapN (b : Bool) (n : Nat) : Nat := if b = true then n + 1 else n
/-- how many brackets and prefixes are open at most. -/
def Tr.need : Tr → Bool → Nat := Tr.fold (fun _ _ => 0)
  (fun x a i last => if isQ x.1 = true then i true + 1 else wrapN (brk (two a.root.1) last a.root.1) (i (brk (two a.root.1) last a.root.1 || last)) + 1)
  (fun x a b i j last => max (wrapN (brk (firstB x.1 a.root.1) false a.root.1) (i (brk (firstB x.1 a.root.1) false a.root.1 || false))) (wrapN (brk (secondB x.1 b.root.1) last b.root.1) (j (brk (secondB x.1 b.root.1) last b.root.1 || last))))
  (fun _ _ _ _ i j k _ => max (max (i true) (j true)) (k true) + 1)
theorem Tr.need_lf (x : Nd) (last : Bool) : (Tr.lf x).need last = 0 := rfl
theorem Tr.need_un (x : Nd) (a : Tr) (last : Bool) : (Tr.un x a).need last = if isQ x.1 = true then a.need true + 1 else wrapN (brk (two a.root.1) last a.root.1) (a.need (brk (two a.root.1) last a.root.1 || last)) + 1 := rfl
theorem Tr.need_bi (x : Nd) (a b : Tr) (last : Bool) : (Tr.bi x a b).need last = max (wrapN (brk (firstB x.1 a.root.1) false a.root.1) (a.need (brk (firstB x.1 a.root.1) false a.root.1 || false))) (wrapN (brk (secondB x.1 b.root.1) last b.root.1) (b.need (brk (secondB x.1 b.root.1) last b.root.1 || last))) := rfl
theorem Tr.need_te (x : Nd) (a b c : Tr) (last : Bool) : (Tr.te x a b c).need last = max (max (a.need true) (b.need true)) (c.need true) + 1 := rfl

def textOf (l : List Item) : List UInt8 := l.flatMap (·.1)

/-! ### what waits behind a tree's tokens -/



end PureForm
/-
  A tree's tokens, read by the stack: plain mathematics.
-/
namespace PureForm
open PureCnf Go.Lib

theorem two_cases {o : Int} (h : two o = true) : o = 6 ∨ o = 7 ∨ o = 8 ∨ o = 9 ∨ o = 10 := by simp [two] at h; omega



/-! ### tokens -/




theorem post_pos (t : Tr) : 0 < t.post.length := by cases t using Tr.cas <;> simp [Tr.post_lf, Tr.post_un, Tr.post_bi, Tr.post_te] <;> omega






end PureForm
/-
  A text by items is cut into just these tokens: plain mathematics.
-/
namespace PureForm
open PureCnf Go.Lib



theorem textOf_append (a b : List Item) : textOf (a ++ b) = textOf a ++ textOf b := by simp [textOf]
theorem textOf_cons (a : Item) (b : List Item) : textOf (a :: b) = a.1 ++ textOf b := by simp [textOf]

/-! ### one token -/






/-! ### all tokens -/

end PureForm
/-
  A formula printed and read is the same: plain mathematics.
-/
namespace PureForm
open PureCnf Go.Lib






/-- the text of a tree. -/
def Tr.text (t : Tr) : List UInt8 := textOf (t.its 0 true)

end PureForm
/-
  A list of nodes is one tree, or none; formed, printed, named variables: plain mathematics.
-/
namespace PureForm
open PureCnf Go.Lib

/-- may a node have these numbers? -/
def nodeB (x : Nd) : Bool :=
  if x.1 = 1 then decide (x.2 = 0 ∨ x.2 = 1)
  else if x.1 = 2 ∨ x.1 = 4 ∨ x.1 = 5 then decide (0 ≤ x.2 ∧ x.2 < 65536)
  else decide ((x.1 = 3 ∨ (6 ≤ x.1 ∧ x.1 ≤ 11)) ∧ x.2 = 0)
/-- a node joins the trees so far, the last on top. -/
def joinT (x : Nd) (st : List Tr) : Option (List Tr) :=
  if nodeB x = true then
    (if x.1 = 1 ∨ x.1 = 2 then some (.lf x :: st)
     else if x.1 ≤ 5 then (match st with
       | a :: t => some (.un x a :: t)
       | [] => none)
     else if x.1 ≤ 10 then (match st with
       | b :: a :: t => some (.bi x a b :: t)
       | _ => none)
     else (match st with
       | c :: b :: a :: t => some (.te x a b c :: t)
       | _ => none))
  else none
def build : List Nd → List Tr → Option (List Tr)
  | [], st => some st
  | x :: r, st => (joinT x st).bind (build r)



def postAll (st : List Tr) : List Nd := st.reverse.flatMap Tr.post
theorem postAll_cons (t : Tr) (st : List Tr) : postAll (t :: st) = postAll st ++ t.post := by simp [postAll]
theorem build_inv (f : List Nd) : ∀ (st st' : List Tr), (∀ t ∈ st, t.good) → build f st = some st' → postAll st' = postAll st ++ f ∧ ∀ t ∈ st', t.good := by
  induction f with
  | nil =>
    intro st st' h e
    rw [build] at e
    cases e
    exact ⟨by simp, h⟩
  | cons x r ih =>
    intro st st' h e
    obtain ⟨o, v⟩ := x
    rw [build, Option.bind_eq_some_iff] at e
    obtain ⟨s1, ej, e⟩ := e
    rw [joinT.eq_def] at ej
    split at ej
    · next hn =>
      have hn' : nodeB (o, v) = true := hn
      unfold nodeB at hn'
      simp only at hn' ej
      split at ej
      · next h12 =>
        cases ej
        have hg : (Tr.lf (o, v)).good := by
          rcases h12 with rfl | rfl
          · exact .inl ⟨rfl, by simpa using hn'⟩
          · exact .inr ⟨rfl, by simpa using hn'⟩
        obtain ⟨e1, e2⟩ := ih _ _ (fun t ht => by
          rcases List.mem_cons.1 ht with rfl | ht
          · exact hg
          · exact h t ht) e
        refine ⟨?_, e2⟩
        rw [e1, postAll_cons]
        simp [Tr.post_lf, Tr.post_un, Tr.post_bi, Tr.post_te]
      · next h12 =>
        split at ej
        · next h5 =>
          split at ej
          · next a t =>
            cases ej
            have hx : (o = 3 ∧ v = 0) ∨ (isQ o = true ∧ 0 ≤ v ∧ v < 65536) := by
              by_cases h45 : o = 4 ∨ o = 5
              · right
                rw [if_neg (by omega), if_pos (by omega)] at hn'
                exact ⟨by simp [isQ, h45], by simpa using hn'⟩
              · left
                rw [if_neg (by omega), if_neg (by omega)] at hn'
                have := of_decide_eq_true hn'
                omega
            obtain ⟨e1, e2⟩ := ih _ _ (fun s hs => by
              rcases List.mem_cons.1 hs with rfl | hs
              · exact ⟨hx, h a (List.mem_cons_self ..)⟩
              · exact h s (List.mem_cons_of_mem _ hs)) e
            refine ⟨?_, e2⟩
            rw [e1, postAll_cons, postAll_cons]
            simp [Tr.post_lf, Tr.post_un, Tr.post_bi, Tr.post_te]
          · cases ej
        · next h5 =>
          have hv : v = 0 := by
            rw [if_neg (by omega), if_neg (by omega)] at hn'
            exact (of_decide_eq_true hn').2
          have ho : 6 ≤ o ∧ o ≤ 11 := by
            rw [if_neg (by omega), if_neg (by omega)] at hn'
            have := (of_decide_eq_true hn').1
            omega
          split at ej
          · next h10 =>
            split at ej
            · next b a t =>
              cases ej
              obtain ⟨e1, e2⟩ := ih _ _ (fun s hs => by
                rcases List.mem_cons.1 hs with rfl | hs
                · exact ⟨⟨by simp [two]; omega, hv⟩, h a (List.mem_cons_of_mem _ (List.mem_cons_self ..)), h b (List.mem_cons_self ..)⟩
                · exact h s (List.mem_cons_of_mem _ (List.mem_cons_of_mem _ hs))) e
              refine ⟨?_, e2⟩
              rw [e1, postAll_cons, postAll_cons, postAll_cons]
              simp [Tr.post_lf, Tr.post_un, Tr.post_bi, Tr.post_te]
            · cases ej
          · next h10 =>
            split at ej
            · next c b a t =>
              cases ej
              obtain ⟨e1, e2⟩ := ih _ _ (fun s hs => by
                rcases List.mem_cons.1 hs with rfl | hs
                · exact ⟨⟨by show o = 11; omega, hv⟩, h a (List.mem_cons_of_mem _ (List.mem_cons_of_mem _ (List.mem_cons_self ..))), h b (List.mem_cons_of_mem _ (List.mem_cons_self ..)), h c (List.mem_cons_self ..)⟩
                · exact h s (List.mem_cons_of_mem _ (List.mem_cons_of_mem _ (List.mem_cons_of_mem _ hs)))) e
              refine ⟨?_, e2⟩
              rw [e1, postAll_cons, postAll_cons, postAll_cons, postAll_cons]
              simp [Tr.post_lf, Tr.post_un, Tr.post_bi, Tr.post_te]
            · cases ej
    · cases ej

/-- the one tree of a list. -/
def treeOf (f : List Nd) : Option Tr := match build f [] with
  | some [t] => some t
  | _ => none
theorem treeOf_some {f : List Nd} {t : Tr} (h : treeOf f = some t) : t.good ∧ t.post = f := by
  unfold treeOf at h
  split at h
  · next s hs =>
    cases h
    obtain ⟨e1, e2⟩ := build_inv f [] [t] (fun _ hx => by cases hx) hs
    refine ⟨e2 t (List.mem_cons_self ..), ?_⟩
    simpa [postAll] using e1
  · cases h

/-- P13.3. -/
def formedF (f : List Nd) : Bool := match treeOf f with
  | some t => decide (f.length ≤ 65536 ∧ t.need true ≤ 64)
  | none => false
/-- P13.2: the text, 134: no formula, 5: too long. -/
def printF (f : List Nd) : Except Nat (List UInt8) := match treeOf f with
  | some t => if f.length ≤ 65536 ∧ t.need true ≤ 64 then (if t.text.length ≤ 1048576 then .ok t.text else .error 5) else .error 134
  | none => .error 134
end PureForm
/-
  The landed program's trees: which kind of node a tree is.
-/
namespace Go.Proofs.YtdkboifpdodonaaDoor
open Go.RowKit Go.Deep PureCnf PureForm
set_option maxRecDepth 100000

theorem ta147_hit (v : Value) (x : TypeId) (w : World) : (Instr.typeAssert (.iface 147 v) x 147 true).run Tryd.prog w = .ok (.tuple #[v, .bool true]) w := by
  simp [Instr.typeAssert, run_underlying Tryd.underlying147]
theorem ta147_miss (t : TypeId) (h : t ≠ 147) (v : Value) (x : TypeId) (w : World) : (Instr.typeAssert (.iface t v) x 147 true).run Tryd.prog w = .ok (.tuple #[.agg #[.int .i64 0], .bool false]) w := by
  simp [Instr.typeAssert, run_underlying Tryd.underlying147, h, Tryd.zeroValue147]
theorem ta149_hit (v : Value) (x : TypeId) (w : World) : (Instr.typeAssert (.iface 149 v) x 149 true).run Tryd.prog w = .ok (.tuple #[v, .bool true]) w := by
  simp [Instr.typeAssert, run_underlying Tryd.underlying149]
theorem ta149_miss (t : TypeId) (h : t ≠ 149) (v : Value) (x : TypeId) (w : World) : (Instr.typeAssert (.iface t v) x 149 true).run Tryd.prog w = .ok (.tuple #[.agg #[.int .i64 0], .bool false]) w := by
  simp [Instr.typeAssert, run_underlying Tryd.underlying149, h, Tryd.zeroValue149]
theorem ta120_hit (v : Value) (x : TypeId) (w : World) : (Instr.typeAssert (.iface 120 v) x 120 true).run Tryd.prog w = .ok (.tuple #[v, .bool true]) w := by
  simp [Instr.typeAssert, run_underlying Tryd.underlying120]
theorem ta120_miss (t : TypeId) (h : t ≠ 120) (v : Value) (x : TypeId) (w : World) : (Instr.typeAssert (.iface t v) x 120 true).run Tryd.prog w = .ok (.tuple #[.agg #[.nilIface], .bool false]) w := by
  simp [Instr.typeAssert, run_underlying Tryd.underlying120, h, Tryd.zeroValue120]
theorem ta122_hit (v : Value) (x : TypeId) (w : World) : (Instr.typeAssert (.iface 122 v) x 122 true).run Tryd.prog w = .ok (.tuple #[v, .bool true]) w := by
  simp [Instr.typeAssert, run_underlying Tryd.underlying122]
theorem ta122_miss (t : TypeId) (h : t ≠ 122) (v : Value) (x : TypeId) (w : World) : (Instr.typeAssert (.iface t v) x 122 true).run Tryd.prog w = .ok (.tuple #[.agg #[.int .i64 0, .int .i64 0, .nilIface], .bool false]) w := by
  simp [Instr.typeAssert, run_underlying Tryd.underlying122, h, Tryd.zeroValue122]
theorem ta124_hit (v : Value) (x : TypeId) (w : World) : (Instr.typeAssert (.iface 124 v) x 124 true).run Tryd.prog w = .ok (.tuple #[v, .bool true]) w := by
  simp [Instr.typeAssert, run_underlying Tryd.underlying124]
theorem ta124_miss (t : TypeId) (h : t ≠ 124) (v : Value) (x : TypeId) (w : World) : (Instr.typeAssert (.iface t v) x 124 true).run Tryd.prog w = .ok (.tuple #[.agg #[.int .i64 0, .nilIface, .nilIface], .bool false]) w := by
  simp [Instr.typeAssert, run_underlying Tryd.underlying124, h, Tryd.zeroValue124]
theorem ta126_hit (v : Value) (x : TypeId) (w : World) : (Instr.typeAssert (.iface 126 v) x 126 true).run Tryd.prog w = .ok (.tuple #[v, .bool true]) w := by
  simp [Instr.typeAssert, run_underlying Tryd.underlying126]
theorem ta126_miss (t : TypeId) (h : t ≠ 126) (v : Value) (x : TypeId) (w : World) : (Instr.typeAssert (.iface t v) x 126 true).run Tryd.prog w = .ok (.tuple #[.agg #[.nilIface, .nilIface, .nilIface], .bool false]) w := by
  simp [Instr.typeAssert, run_underlying Tryd.underlying126, h, Tryd.zeroValue126]
end Go.Proofs.YtdkboifpdodonaaDoor
/-
  The landed program's trees as values; binding, sides, brackets.
-/
namespace Go.Proofs.YtdkboifpdodonaaDoor
open Go.RowKit Go.Deep PureCnf PureForm
set_option maxRecDepth 100000

/-- a tree, as the landed program holds it. -/
def tv : Tr → Value := Tr.fold (fun x => if x.1 = 1 then .iface 147 (.agg #[.int .i64 x.2]) else .iface 149 (.agg #[.int .i64 x.2]))
  (fun x _ a => if x.1 = 3 then .iface 120 (.agg #[a]) else .iface 122 (.agg #[.int .i64 x.1, .int .i64 x.2, a]))
  (fun x _ _ a b => .iface 124 (.agg #[.int .i64 x.1, a, b])) (fun _ _ _ _ a b c => .iface 126 (.agg #[a, b, c]))
theorem tv_lf (x : Nd) : tv (.lf x) = if x.1 = 1 then .iface 147 (.agg #[.int .i64 x.2]) else .iface 149 (.agg #[.int .i64 x.2]) := rfl
theorem tv_un (x : Nd) (a : Tr) : tv (.un x a) = if x.1 = 3 then .iface 120 (.agg #[tv a]) else .iface 122 (.agg #[.int .i64 x.1, .int .i64 x.2, tv a]) := rfl
theorem tv_bi (x : Nd) (a b : Tr) : tv (.bi x a b) = .iface 124 (.agg #[.int .i64 x.1, tv a, tv b]) := rfl
theorem tv_te (x : Nd) (a b c : Tr) : tv (.te x a b c) = .iface 126 (.agg #[tv a, tv b, tv c]) := rfl

set_option maxHeartbeats 400000 in
theorem binding_any (o : Int) (w : World) (h : two o = true) : Calls Tryd.prog 107 #[.int .i64 o] w fun e w' => e = .returned (.int .i64 (bindsI o : Nat)) ∧ w' = w := by
  rcases two_cases h with rfl | rfl | rfl | rfl | rfl
  all_goals
    go_enter Tryd.func107, Tryd.ntmps107
    go_wp2
    go_ret
    exact ⟨rfl, rfl⟩

/-- a spot. -/
abbrev spotV (least : Int) (fol : Bool) : Value := .agg #[.int .i64 least, .bool fol]
/-- is a tree in brackets there? -/
def brkT (t : Tr) (least : Int) (fol : Bool) : Bool := (two t.root.1 && decide ((bindsI t.root.1 : Int) < least)) || (isQ t.root.1 && fol)

theorem below_box (w : World) (o : Obj) : Below w.heap.size w (w.alloc o) := (Below.refl _ _).alloc (Nat.le_refl _) _

set_option maxHeartbeats 1000000 in
theorem brackets_other (k : TypeId) (hk1 : k ≠ 124) (hk2 : k ≠ 122) (v : Value) (least : Int) (fol : Bool) (w : World) :
    Calls Tryd.prog 82 #[spotV least fol, .iface k v] w fun e w' => e = .returned (.bool false) ∧ Below w.heap.size w w' := by
  have m1 := fun x W => ta124_miss k hk1 v x W
  have m2 := fun x W => ta122_miss k hk2 v x W
  have HB := hid (below_box w (Obj.cells #[.int .i64 least, .bool fol] 106))
  clear hk1 hk2
  go_enter Tryd.func82, Tryd.ntmps82
  go_wp2
  go_ret
  exact ⟨rfl, HB.out⟩
theorem tv_form (t : Tr) : ∃ k u, tv t = .iface k u := by
  cases t using Tr.cas with
  | lf x => (first | rw [tv_lf] | rw [tv_un]); split <;> exact ⟨_, _, rfl⟩
  | un x a => (first | rw [tv_lf] | rw [tv_un]); split <;> exact ⟨_, _, rfl⟩
  | bi x a b => exact ⟨_, _, rfl⟩
  | te x a b c => exact ⟨_, _, rfl⟩

set_option maxHeartbeats 1000000 in
theorem brackets_quant (o n : Int) (k : TypeId) (u : Value) (least : Int) (fol : Bool) (w : World) :
    Calls Tryd.prog 82 #[spotV least fol, .iface 122 (.agg #[.int .i64 o, .int .i64 n, .iface k u])] w fun e w' => e = .returned (.bool fol) ∧ Below w.heap.size w w' := by
  have m1 := fun x W => ta124_miss 122 (by decide) (.agg #[.int .i64 o, .int .i64 n, .iface k u]) x W
  have m2 := fun x W => ta122_hit (.agg #[.int .i64 o, .int .i64 n, .iface k u]) x W
  obtain ⟨WA, hWA⟩ : ∃ WA, WA = (w.alloc (Obj.cells #[.int .i64 least, .bool fol] 106)).alloc (Obj.cells #[.int .i64 o, .int .i64 n, .iface k u] 122) := ⟨_, rfl⟩
  have HB : Hid (Below w.heap.size w WA) := by show Below _ _ _; rw [hWA]; exact (below_box _ _).alloc (by simp) _
  have r0 : WA.heap[w.heap.size]? = some (.cells #[.int .i64 least, .bool fol] 106 (0, 0)) := by rw [hWA]; exact (Below.heap_alloc _ _ _ (by simp)).trans (heap_alloc_new w _)
  have c0 := fun j => cell_row r0 j
  have HWA := hid hWA
  clear hWA r0
  go_enter Tryd.func82, Tryd.ntmps82
  go_wp2_with (rw [← HWA.out])
  go_ret
  exact ⟨rfl, HB.out⟩
set_option maxHeartbeats 1000000 in
theorem brackets_two (o : Int) (h : two o = true) (k k2 : TypeId) (u u2 : Value) (least : Int) (fol : Bool) (w : World) :
    Calls Tryd.prog 82 #[spotV least fol, .iface 124 (.agg #[.int .i64 o, .iface k u, .iface k2 u2])] w fun e w' => e = .returned (.bool (decide ((bindsI o : Int) < least))) ∧ Below w.heap.size w w' := by
  have m1 := fun x W => ta124_hit (.agg #[.int .i64 o, .iface k u, .iface k2 u2]) x W
  obtain ⟨WA, hWA⟩ : ∃ WA, WA = (w.alloc (Obj.cells #[.int .i64 least, .bool fol] 106)).alloc (Obj.cells #[.int .i64 o, .iface k u, .iface k2 u2] 124) := ⟨_, rfl⟩
  have HB : Hid (Below w.heap.size w WA) := by show Below _ _ _; rw [hWA]; exact (below_box _ _).alloc (by simp) _
  have r0 : WA.heap[w.heap.size]? = some (.cells #[.int .i64 least, .bool fol] 106 (0, 0)) := by rw [hWA]; exact (Below.heap_alloc _ _ _ (by simp)).trans (heap_alloc_new w _)
  have r1 : WA.heap[w.heap.size + 1]? = some (.cells #[.int .i64 o, .iface k u, .iface k2 u2] 124 (0, 0)) := by
    have := heap_alloc_new (w.alloc (Obj.cells #[.int .i64 least, .bool fol] 106)) (Obj.cells #[.int .i64 o, .iface k u, .iface k2 u2] 124)
    rw [hWA]; simpa using this
  have c0 := fun j => cell_row r0 j
  have c1 := fun j => cell_row r1 j
  have HBI := fun W => hid (binding_any o W h)
  have HWA := hid hWA
  clear hWA r0 r1 h
  go_enter Tryd.func82, Tryd.ntmps82
  go_wp2_with (rw [← HWA.out])
  go_region_held3 (fun W' => W'.cell? ⟨w.heap.size, 0, none⟩ = some (.int .i64 least) ∧ W'.cell? ⟨w.heap.size + 1, 0, none⟩ = some (.int .i64 o)) (go_keep) (first | (go_at_call 107; refine (HBI _).out.mono ?_; rintro e w' ⟨rfl, rfl⟩))
  all_goals
    go_wp2
    go_ret
    exact ⟨rfl, HB.out.drew⟩
end Go.Proofs.YtdkboifpdodonaaDoor
/-
  How long the text of a tree is at most, and how deep it goes: plain mathematics.
-/
namespace PureForm
open PureCnf Go.Lib

theorem digits_le {n : Int} (h0 : 0 ≤ n) (h : n < 65536) : (decDigits n.toNat).length ≤ 21 := by
  have := itoa_length_le n (by omega) (by omega)
  obtain ⟨m, rfl⟩ : ∃ m : Nat, n = m := ⟨n.toNat, by omega⟩
  rw [itoa_nonneg] at this
  exact this
theorem len_var {n : Int} (h0 : 0 ≤ n) (h : n < 65536) : (varI n).1.length ≤ 22 := by
  have := digits_le h0 h
  simp only [varI, List.length_cons]
  omega
theorem len_sep (q : Int) : (textOf (sepI q)).length ≤ 2 := by
  unfold sepI; split <;> simp [textOf, colonI]
theorem len_wrap (b : Bool) (l : List Item) : (textOf (wrapI b l)).length ≤ (textOf l).length + 2 := by
  unfold wrapI; split <;> simp [textOf, openI, closeI]
theorem len_sign (o : Int) : (signI o).1.length ≤ 5 := by
  unfold signI; split
  · simp
  · split
    · simp
    · split
      · simp
      · split <;> simp
theorem len_const (n : Int) : (constI n).1.length ≤ 5 := by
  unfold constI; split <;> simp
theorem len_quant (o : Int) : (quantI o).1.length ≤ 7 := by
  unfold quantI; split <;> simp

theorem text_len (t : Tr) : t.good → ∀ q last, (textOf (t.its q last)).length ≤ 32 * t.post.length := by
  induction t using Tr.ind with
  | lf x =>
    intro h q last
    have h1 := len_sep q
    simp only [Tr.its_lf, Tr.its_un, Tr.its_bi, Tr.its_te, Tr.post_lf, Tr.post_un, Tr.post_bi, Tr.post_te, textOf_append, List.length_append, textOf_cons, List.length_cons, List.length_nil]
    split
    · have := len_const x.2
      simp [textOf] at h1 ⊢; omega
    · next hx =>
      rcases h with h | h
      · exact absurd h.1 hx
      · have := len_var h.2.1 h.2.2
        simp [textOf] at h1 ⊢; omega
  | un x a ih =>
    rintro ⟨hx, ha⟩ q last
    have h1 := len_sep q
    (first | rw [Tr.its_un] | rw [Tr.its_bi] | rw [Tr.its_te] | rw [Tr.its_lf])
    simp only [Tr.post_lf, Tr.post_un, Tr.post_bi, Tr.post_te, List.length_append, List.length_cons, List.length_nil]
    split
    · next hq =>
      have hv := len_var (n := x.2) (by rcases hx with h | h <;> omega) (by rcases hx with h | h <;> omega)
      split
      · have := ih ha q true
        simp only [textOf_cons, List.length_append, commaI, List.length_cons, List.length_nil]
        omega
      · have := ih ha x.1 true
        have h2 := len_quant x.1
        simp only [textOf_append, textOf_cons, List.length_append]
        omega
    · have h2 := len_wrap (brk (two a.root.1) last a.root.1) (a.its 0 (brk (two a.root.1) last a.root.1 || last))
      have := ih ha 0 (brk (two a.root.1) last a.root.1 || last)
      simp only [textOf_append, textOf_cons, List.length_append, notI, List.length_cons, List.length_nil]
      omega
  | bi x a b iha ihb =>
    rintro ⟨hx, ha, hb⟩ q last
    have h1 := len_sep q
    have h2 := len_sign x.1
    have h3 := len_wrap (brk (firstB x.1 a.root.1) false a.root.1) (a.its 0 (brk (firstB x.1 a.root.1) false a.root.1 || false))
    have h4 := len_wrap (brk (secondB x.1 b.root.1) last b.root.1) (b.its 0 (brk (secondB x.1 b.root.1) last b.root.1 || last))
    have h5 := iha ha 0 (brk (firstB x.1 a.root.1) false a.root.1 || false)
    have h6 := ihb hb 0 (brk (secondB x.1 b.root.1) last b.root.1 || last)
    simp only [Tr.its_lf, Tr.its_un, Tr.its_bi, Tr.its_te, Tr.post_lf, Tr.post_un, Tr.post_bi, Tr.post_te, textOf_append, textOf_cons, List.length_append, List.length_cons, List.length_nil]
    omega
  | te x a b c iha ihb ihc =>
    rintro ⟨hx, ha, hb, hc⟩ q last
    have h1 := len_sep q
    have h2 := iha ha 0 true
    have h3 := ihb hb 0 true
    have h4 := ihc hc 0 true
    simp only [Tr.its_lf, Tr.its_un, Tr.its_bi, Tr.its_te, Tr.post_lf, Tr.post_un, Tr.post_bi, Tr.post_te, List.cons_append, textOf_append, textOf_cons, List.length_append, List.length_cons, List.length_nil, iteI, openI, commaI, closeI]
    simp only [textOf, List.flatMap_nil, List.length_nil] at h1 h2 h3 h4 ⊢
    omega

theorem wrapN_le (b : Bool) (n : Nat) : wrapN b n ≤ n + 1 := by unfold wrapN; split <;> omega
theorem need_le (t : Tr) : ∀ last, t.need last ≤ 2 * t.post.length := by
  induction t using Tr.ind with
  | lf x => intro last; simp [Tr.need_lf, Tr.need_un, Tr.need_bi, Tr.need_te]
  | un x a ih =>
    intro last
    (first | rw [Tr.need_un] | rw [Tr.need_bi] | rw [Tr.need_te] | rw [Tr.need_lf])
    simp only [Tr.post_lf, Tr.post_un, Tr.post_bi, Tr.post_te, List.length_append, List.length_cons, List.length_nil]
    split
    · have := ih true; omega
    · have h1 := wrapN_le (brk (two a.root.1) last a.root.1) (a.need (brk (two a.root.1) last a.root.1 || last))
      have := ih (brk (two a.root.1) last a.root.1 || last)
      omega
  | bi x a b iha ihb =>
    intro last
    have h1 := wrapN_le (brk (firstB x.1 a.root.1) false a.root.1) (a.need (brk (firstB x.1 a.root.1) false a.root.1 || false))
    have h2 := wrapN_le (brk (secondB x.1 b.root.1) last b.root.1) (b.need (brk (secondB x.1 b.root.1) last b.root.1 || last))
    have h3 := iha (brk (firstB x.1 a.root.1) false a.root.1 || false)
    have h4 := ihb (brk (secondB x.1 b.root.1) last b.root.1 || last)
    simp only [Tr.need_lf, Tr.need_un, Tr.need_bi, Tr.need_te, Tr.post_lf, Tr.post_un, Tr.post_bi, Tr.post_te, List.length_append, List.length_cons, List.length_nil]
    omega
  | te x a b c iha ihb ihc =>
    intro last
    have h1 := iha true
    have h2 := ihb true
    have h3 := ihc true
    simp only [Tr.need_lf, Tr.need_un, Tr.need_bi, Tr.need_te, Tr.post_lf, Tr.post_un, Tr.post_bi, Tr.post_te, List.length_append, List.length_cons, List.length_nil]
    omega

/-- a tree that is no quantifier of the one around it is printed behind a colon. -/
theorem its_sep (t : Tr) (q : Int) (h0 : q ≠ 0) (hr : t.root.1 ≠ q) (last : Bool) : t.its q last = colonI :: t.its 0 last := by
  have hs : sepI q = [colonI] := by unfold sepI; rw [if_neg h0]
  have hs0 : sepI 0 = [] := rfl
  cases t using Tr.cas with
  | lf x => simp [Tr.its_lf, Tr.its_un, Tr.its_bi, Tr.its_te, hs, hs0]
  | un x a =>
    have hr' : x.1 ≠ q := hr
    (first | rw [Tr.its_un, Tr.its_un, hs, hs0] | rw [Tr.its_bi, Tr.its_bi, hs, hs0] | rw [Tr.its_te, Tr.its_te, hs, hs0] | rw [Tr.its_lf, Tr.its_lf, hs, hs0])
    by_cases hx : isQ x.1 = true
    · rw [if_pos hx, if_pos hx, if_neg hr', if_neg (by intro h; rw [h] at hx; exact absurd hx (by decide))]
      simp
    · rw [if_neg hx, if_neg hx]
      simp
  | bi x a b => simp [Tr.its_lf, Tr.its_un, Tr.its_bi, Tr.its_te, hs, hs0]
  | te x a b c => simp [Tr.its_lf, Tr.its_un, Tr.its_bi, Tr.its_te, hs, hs0]
end PureForm
/-
  The landed program's sides, brackets, nest over a tree.
-/
namespace Go.Proofs.YtdkboifpdodonaaDoor
open Go.RowKit Go.Deep PureCnf PureForm
set_option maxRecDepth 100000

theorem not_q {o : Int} (h : two o = true) : isQ o = false := by
  rcases two_cases h with rfl | rfl | rfl | rfl | rfl <;> rfl
theorem brackets_any (t : Tr) (ht : t.good) (least : Int) (fol : Bool) (w : World) :
    Calls Tryd.prog 82 #[spotV least fol, tv t] w fun e w' => e = .returned (.bool (brkT t least fol)) ∧ Below w.heap.size w w' := by
  cases t using Tr.cas with
  | lf x =>
    obtain ⟨o, n⟩ := x
    rcases ht with ⟨h1, _⟩ | ⟨h1, _⟩
    · simp only at h1
      subst h1
      exact brackets_other 147 (by decide) (by decide) _ least fol w
    · simp only at h1
      subst h1
      exact brackets_other 149 (by decide) (by decide) _ least fol w
  | un x a =>
    obtain ⟨o, n⟩ := x
    obtain ⟨hx, _⟩ := ht
    rcases hx with ⟨h1, h2⟩ | ⟨h1, _⟩
    · simp only at h1 h2
      subst h1 h2
      exact brackets_other 120 (by decide) (by decide) _ least fol w
    · obtain ⟨k, u, e⟩ := tv_form a
      have h45 : o = 4 ∨ o = 5 := by simpa [isQ] using h1
      have e1 : tv (.un (o, n) a) = .iface 122 (.agg #[.int .i64 o, .int .i64 n, .iface k u]) := by
        (first | rw [tv_un, if_neg (by simp; omega), e] | rw [tv_bi, if_neg (by simp; omega), e] | rw [tv_te, if_neg (by simp; omega), e] | rw [tv_lf, if_neg (by simp; omega), e])
      have e2 : brkT (.un (o, n) a) least fol = fol := by
        have : two o = false := by rcases h45 with rfl | rfl <;> rfl
        simp [brkT, Tr.root_lf, Tr.root_un, Tr.root_bi, Tr.root_te, this, show isQ o = true from h1]
      rw [e1, e2]
      exact brackets_quant o n k u least fol w
  | bi x a b =>
    obtain ⟨o, n⟩ := x
    obtain ⟨⟨h1, _⟩, _, _⟩ := ht
    obtain ⟨k, u, e⟩ := tv_form a
    obtain ⟨k2, u2, e'⟩ := tv_form b
    have e1 : tv (.bi (o, n) a b) = .iface 124 (.agg #[.int .i64 o, .iface k u, .iface k2 u2]) := by (first | rw [tv_un, e, e'] | rw [tv_bi, e, e'] | rw [tv_te, e, e'] | rw [tv_lf, e, e'])
    have e2 : brkT (.bi (o, n) a b) least fol = decide ((bindsI o : Int) < least) := by
      unfold brkT
      show (two o && decide ((bindsI o : Int) < least) || isQ o && fol) = _
      rw [show two o = true from h1, not_q h1]
      cases decide ((bindsI o : Int) < least) <;> rfl
    rw [e1, e2]
    exact brackets_two o h1 k k2 u u2 least fol w
  | te x a b c =>
    obtain ⟨o, n⟩ := x
    obtain ⟨⟨h1, _⟩, _⟩ := ht
    simp only at h1
    subst h1
    exact brackets_other 126 (by decide) (by decide) _ least fol w

/-- where an operand stands. -/
def leastF (o : Int) : Int := if o = 9 then (bindsI o : Int) + 1 else bindsI o
def leastS (o : Int) : Int := if o = 9 then bindsI o else (bindsI o : Int) + 1
set_option maxHeartbeats 1000000 in
theorem sides_any (o : Int) (h : two o = true) (fol : Bool) (w : World) :
    Calls Tryd.prog 108 #[.int .i64 o, .bool fol] w fun e w' => e = .returned (.tuple #[spotV (leastF o) true, spotV (leastS o) fol]) ∧ Below w.heap.size w w' := by
  obtain ⟨WA, hWA⟩ : ∃ WA, WA = (w.alloc (Obj.cells #[.int .i64 0, .bool false] 106)).alloc (Obj.cells #[.int .i64 0, .bool false] 106) := ⟨_, rfl⟩
  have HB : Hid (Below w.heap.size w WA) := by show Below _ _ _; rw [hWA]; exact (below_box _ _).alloc (by simp) _
  have r0 : WA.heap[w.heap.size]? = some (.cells #[.int .i64 0, .bool false] 106 (0, 0)) := by rw [hWA]; exact (Below.heap_alloc _ _ _ (by simp)).trans (heap_alloc_new w _)
  have r1 : WA.heap[w.heap.size + 1]? = some (.cells #[.int .i64 0, .bool false] 106 (0, 0)) := by
    have := heap_alloc_new (w.alloc (Obj.cells #[.int .i64 0, .bool false] 106)) (Obj.cells #[.int .i64 0, .bool false] 106)
    rw [hWA]; simpa using this
  have c0 := fun j => cell_row r0 j
  have c1 := fun j => cell_row r1 j
  have f0 := fun j => unfrozen_row r0 j
  have f1 := fun j => unfrozen_row r1 j
  have HBI := hid (binding_any o WA h)
  have HWA := hid hWA
  clear hWA r0 r1
  rcases two_cases h with rfl | rfl | rfl | rfl | rfl
  all_goals
    clear h
    go_enter Tryd.func108, Tryd.ntmps108
    go_wp2_with (first | (rw [← HWA.out]) | (go_at_call 107; refine HBI.out.mono ?_; rintro e w' ⟨rfl, rfl⟩))
    exact bodyPost_ret (v := .tuple #[spotV (leastF _) true, spotV (leastS _) fol]) (by simp [results, Tryd.results108, go_sem, c0, c1, leastF, leastS, bindsI]; exact IntWalk.wrap64_in _ ⟨by omega, by omega⟩) rfl ⟨rfl, (((HB.out.setCell (p := ⟨w.heap.size, 0, none⟩) (by simp) _).setCell (p := ⟨w.heap.size, 1, none⟩) (by simp) _).setCell (p := ⟨w.heap.size + 1, 0, none⟩) (by simp) _).setCell (p := ⟨w.heap.size + 1, 1, none⟩) (by simp) _⟩

/-- what nestBare answers of a tree. -/
def NestB (t : Tr) : Prop := ∀ (fol : Bool) (w : World), Calls Tryd.prog 83 #[tv t, .bool fol] w fun e w' => e = .returned (.int .i64 (t.need (!fol) : Nat)) ∧ Below w.heap.size w w'
set_option maxHeartbeats 1000000 in
theorem nest_any (t : Tr) (ht : t.good) (hn : t.post.length ≤ 1000000) (H : NestB t) (least : Int) (fol : Bool) (w : World) :
    Calls Tryd.prog 57 #[tv t, spotV least fol] w fun e w' => e = .returned (.int .i64 (wrapN (brkT t least fol) (t.need (brkT t least fol || !fol)) : Nat)) ∧ Below w.heap.size w w' := by
  obtain ⟨WA, hWA⟩ : ∃ WA, WA = w.alloc (Obj.cells #[.int .i64 least, .bool fol] 106) := ⟨_, rfl⟩
  have hB : Below w.heap.size w WA := by rw [hWA]; exact below_box _ _
  have r0 : WA.heap[w.heap.size]? = some (.cells #[.int .i64 least, .bool fol] 106 (0, 0)) := by rw [hWA]; exact heap_alloc_new w _
  have c0 := fun j => cell_row r0 j
  have HBR := hid (brackets_any t ht least fol WA)
  have HN := fun f W => hid (H f W)
  have n1 := need_le t true
  have n2 := need_le t (!fol)
  have HWA := hid hWA
  have HB := hid hB
  have HR0 := hid r0
  obtain ⟨k, u, e⟩ := tv_form t
  rw [e] at HBR ⊢
  simp only [e] at HN
  clear hWA hB r0 H e ht
  cases hb : brkT t least fol with
  | true =>
    rw [hb] at HBR
    have HN1 := fun W => HN false W
    simp only [Bool.not_false] at HN1
    obtain ⟨m, hm⟩ : ∃ m, m = t.need true := ⟨_, rfl⟩
    simp only [← hm] at HN1 n1
    have HG : Hid (wrapN true (t.need (true || !fol)) = m + 1) := by show _ = _; rw [Bool.true_or, ← hm]; rfl
    clear hb HN n2 hm
    go_enter Tryd.func57, Tryd.ntmps57
    go_wp2_with (first | (rw [← HWA.out]) | (go_at_call 82; refine HBR.out.mono ?_; rintro e w1 ⟨rfl, b1⟩; have HB1 := hid (HB.out.trans (b1.mono HB.out.size)); clear b1) | (go_at_call 83; refine (HN1 _).out.mono ?_; rintro e w2 ⟨rfl, b2⟩; have HB2 := hid (HB1.out.trans (b2.mono HB1.out.size)); clear b2))
    go_ret
    rw [HG.out]
    refine ⟨?_, HB2.out⟩
    rw [show (1 : Int) + (m : Int) = ((m + 1 : Nat) : Int) by omega]
    rfl
  | false =>
    rw [hb] at HBR
    have HN1 := fun W => HN fol W
    have HG : Hid (wrapN false (t.need (false || !fol)) = t.need (!fol)) := rfl
    clear hb HN n1
    go_enter Tryd.func57, Tryd.ntmps57
    go_wp2_with (first | (rw [← HWA.out]) | (go_at_call 82; refine HBR.out.mono ?_; rintro e w1 ⟨rfl, b1⟩; have HB1 := hid (HB.out.trans (b1.mono HB.out.size)); have r1 := (b1.block _ (Array.getElem?_eq_some_iff.1 HR0.out).1).trans HR0.out; have c1 := fun j => cell_row r1 j; clear b1 r1) | (go_at_call 83; refine (HN1 _).out.mono ?_; rintro e w2 ⟨rfl, b2⟩; have HB2 := hid (HB1.out.trans (b2.mono HB1.out.size)); clear b2))
    go_ret
    rw [HG.out]
    exact ⟨rfl, HB2.out⟩
end Go.Proofs.YtdkboifpdodonaaDoor
