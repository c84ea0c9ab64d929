import Derived.Test.YtdkboifpdodonacGreatDoorZ06
set_option linter.unusedSimpArgs false
/-
 strings.Builder as the landed writer's field: copyCheck, WriteString, String.
-/
namespace Go.Proofs.YtdkboifpdodonacGreatDoor
open Go.RowKit Go.Deep PureCnf
set_option maxRecDepth 100000

theorem mixedD : Tryz.prog.follows Departure.mixedOrders = true := by kernel_rfl
theorem size86 : (Tryz.prog.info? 121).map (·.size) = some 2 := by kernel_rfl
theorem lies86 : liesAt Tryz.prog Tryz.prog.depth 123 (2 / Tryz.prog.cellsOf 123) 0 121 1 = true := by kernel_rfl
theorem cells5 : Tryz.prog.cellsOf 5 = 1 := by kernel_rfl

/-- a text in the making: the writer's box at b, its bytes from B on. -/
abbrev Wr (B b : Nat) (p : Value) (T : List UInt8) (w : World) : Prop := Lib.BuilderAtF 123 5 B b p (Lib.byteCells T) w

set_option maxHeartbeats 1000000 in
theorem check_fresh (b : Nat) (w : World) (h0 : w.cell? ⟨b, 0, none⟩ = some (.pointer none)) (hsh : w.shape? b = some (123, 2)) (hfz : w.frozen? ⟨b, 0, none⟩ = false) :
  Calls Tryz.prog 111 #[.pointer (some ⟨b, 0, none⟩)] w fun e w' => e = .returned (.tuple #[]) ∧ w' = w.setCell ⟨b, 0, none⟩ (.pointer (some ⟨b, 0, none⟩)) := by
 obtain ⟨j, hj, hjs⟩ := Option.map_eq_some_iff.1 size86
 go_enter Tryz.func111, Tryz.ntmps111
 go_wp2
 rw [Lib.run_to_unsafe w ⟨b, 0, none⟩ Tryz.underlying118 Tryz.underlying179 hj (by rw [hjs]; decide) hsh (Nat.zero_lt_succ 1)]
 simp only [Result.andThen]
 rw [Oper.upon_value]
 go_wp2
 rw [run_callFunc_extern Tryz.func117 (by kernel_rfl) (by kernel_rfl) (by kernel_rfl) (e := Extern.AbiNoEscape.same) (by kernel_rfl)]
 rw [Lib.run_noEscape]
 simp only [Result.andThen]
 rw [Oper.upon_value]
 go_wp2
 rw [Lib.run_from_unsafe w ⟨b, 0, none⟩ Tryz.underlying179 Tryz.underlying118 hj hsh lies86]
 simp only [Result.andThen]
 rw [Oper.upon_value]
 go_wp2
 go_end0
 exact ⟨rfl, rfl⟩

set_option maxHeartbeats 1000000 in
theorem check_used (b : Nat) (w : World) (h0 : w.cell? ⟨b, 0, none⟩ = some (.pointer (some ⟨b, 0, none⟩))) :
  Calls Tryz.prog 111 #[.pointer (some ⟨b, 0, none⟩)] w fun e w' => e = .returned (.tuple #[]) ∧ w' = w := by
 obtain ⟨j, hj, _⟩ := Option.map_eq_some_iff.1 size86
 go_enter Tryz.func111, Tryz.ntmps111
 go_wp2
 rw [Lib.run_neq_ptr_same w _ Tryz.underlying118 hj]
 go_wp2
 go_end0
 exact ⟨rfl, rfl⟩
/-- either of the two states of a builder. -/
abbrev IsWr (B b : Nat) (T : List UInt8) (w : World) : Prop := Lib.IsBuilderF 123 5 B b (Lib.byteCells T) w
theorem check_any (B b : Nat) (T : List UInt8) (w : World) (h : IsWr B b T w) :
  Calls Tryz.prog 111 #[.pointer (some ⟨b, 0, none⟩)] w fun e w' => e = .returned (.tuple #[]) ∧ Wr B b (.pointer (some ⟨b, 0, none⟩)) T w' ∧ Below B w w' ∧ Lib.OthersKept 5 (some b) w w' := by
 rcases h with h | h
 ·refine (check_fresh b w h.cell0 h.shape h.frozen0).mono ?_
  rintro e w' ⟨rfl, rfl⟩
  exact ⟨rfl, h.used _, (Below.refl B w).setCell (p := ⟨b, 0, none⟩) h.1 _, (Lib.OthersKept.refl _ _ w).setCell ⟨b, 0, none⟩ rfl _⟩
 ·refine (check_used b w h.cell0).mono ?_
  rintro e w' ⟨rfl, rfl⟩
  exact ⟨rfl, h, Below.refl B _, Lib.OthersKept.refl _ _ _⟩

set_option maxHeartbeats 1000000 in
theorem write_any (B b : Nat) (T : List UInt8) (X : List UInt8) (w : World) (h : IsWr B b T w) (hlen : T.length + X.length ≤ 140737488355328) (hBw : B ≤ w.heap.size) :
  Calls Tryz.prog 93 #[.pointer (some ⟨b, 0, none⟩), str X] w fun e w' => (∃ y, e = .returned y) ∧ IsWr B b (T ++ X) w' ∧ Below B w w' ∧ Lib.OthersKept 5 (some b) w w' := by
 obtain ⟨i0, hi, hz0, hz1, hz2⟩ := info_parts info5
 have HC := hid (check_any B b T w h)
 clear h
 go_enter Tryz.func93, Tryz.ntmps93
 go_wp2_with (go_at_call 111; refine HC.out.mono ?_)
 rintro e w1 ⟨rfl, h1, hb1, hk1⟩
 obtain ⟨hB, v, hbk, hown, hne⟩ := h1
 have hsz1 := hb1.size
 have c0 : w1.cell? ⟨b, 0, none⟩ = some (.pointer (some ⟨b, 0, none⟩)) := by rw [Lib.cell_of_heap hbk]; rfl
 have c1 : w1.cell? ⟨b, 1, none⟩ = some v := by rw [Lib.cell_of_heap hbk]; rfl
 rw [Lib.byteCells_length] at hown
 have HOW := hid hown
 have HNE := hid hne
 have HBK := hid hbk
 have HB1 := hid hb1
 have HK1 := hid hk1
 clear hown hne hbk hb1 hk1
 go_wp2_with (at_builtin; refine Lib.wpList_append_own_stringF _ rfl _ _ 119 9 rfl B 5 i0 Tryz.underlying119 Tryz.underlying9 hi hz0 hz1 hz2 _ _ _ rfl HOW.out ⟨X.toArray⟩ rfl ?c3 ?c4 ?c5 ?_)
 case c3 => show T.length + X.toArray.size ≤ maxLen; unfold maxLen; simp; omega
 case c4 => show T.length + X.toArray.size ≤ 140737488355328; simpa using hlen
 case c5 => omega
 intro v' w2 hown' hgrow _
 have hlt : b < w1.heap.size := (Array.getElem?_eq_some_iff.1 HBK.out).1
 have hb2 : w2.heap[b]? = some (.cells #[.pointer (some ⟨b, 0, none⟩), v] 123 (0, 0)) := by
  rw [hgrow.block b hlt (fun e => HNE.out e.symm)]
  exact HBK.out
 have d0 : w2.cell? ⟨b, 0, none⟩ = some (.pointer (some ⟨b, 0, none⟩)) := by rw [Lib.cell_of_heap hb2]; rfl
 have d1 : w2.cell? ⟨b, 1, none⟩ = some v := by rw [Lib.cell_of_heap hb2]; rfl
 have f1 : w2.frozen? ⟨b, 1, none⟩ = false := Lib.frozen_of_heap hb2 1
 obtain ⟨ao, n', cap, rfl⟩ : ∃ ao n' cap, v' = .slice ao n' cap := by
  rcases hown'.2 with ⟨hv, _⟩ | ⟨g, cap, cur, fz, hv, _⟩
  ·exact ⟨_, _, _, hv⟩
  ·exact ⟨_, _, _, hv⟩
 have FIN : Hid (IsWr B b (T ++ X) (w2.setCell ⟨b, 1, none⟩ (.slice ao n' cap)) ∧ Below B w (w2.setCell ⟨b, 1, none⟩ (.slice ao n' cap)) ∧ Lib.OthersKept 5 (some b) w (w2.setCell ⟨b, 1, none⟩ (.slice ao n' cap))) := by
  refine ⟨.inr ?_, (HB1.out.grown hgrow (by omega) (fun k hk => (HOW.out.lt k hk).1)).setCell (p := ⟨b, 1, none⟩) hB _, (HK1.out.grown hgrow (Lib.ownsRowF_kind HOW.out)).setCell ⟨b, 1, none⟩ rfl _⟩
  have e : Lib.byteCells (T ++ X) = Lib.byteCells T ++ Lib.strCells ⟨X.toArray⟩ := by rw [Lib.byteCells_append]; rfl
  refine Lib.BuilderAtF.put (T := 123) (e := 5) hB hb2 (bs' := Lib.byteCells (T ++ X)) ?_ (by decide)
  have el : (Lib.byteCells T ++ Lib.strCells ⟨X.toArray⟩).length = T.length + (⟨X.toArray⟩ : ByteArray).size := by rw [List.length_append, Lib.byteCells_length, Lib.strCells_length]
  rw [e, el]
  exact hown'
 clear hown' hgrow hb2
 go_wp2
 go_ret2
 exact ⟨⟨_, rfl⟩, FIN.out⟩

set_option maxHeartbeats 1000000 in
theorem string_any (B b : Nat) (T : List UInt8) (w : World) (h : IsWr B b T w) (h0 : T ≠ []) :
  Calls Tryz.prog 53 #[.pointer (some ⟨b, 0, none⟩)] w fun e w' => e = .returned (str T) ∧ Below B w w' := by
 obtain ⟨p, hB, v, hbk, hown, hne⟩ : ∃ p, Wr B b p T w := by
  rcases h with h | h
  ·exact ⟨_, h⟩
  ·exact ⟨_, h⟩
 have hl0 : T.length ≠ 0 := by simpa using h0
 rw [Lib.byteCells_length] at hown
 obtain ⟨g, cap, cur, fz, rfl, hbg, hg, hfz, hnc, hcm, hcs, htake⟩ : ∃ g cap cur fz, v = .slice (some ⟨g, 0, none⟩) T.length cap ∧ B ≤ g ∧ w.heap[g]? = some (.cells cur 5 fz) ∧ fz.2 ≤ T.length * 1 ∧ T.length ≤ cap ∧ cap ≤ maxLen ∧ cur.size = cap * 1 ∧ cur.toList.take (T.length * 1) = Lib.byteCells T := by
  rcases hown.2 with ⟨_, hz⟩ | ⟨g, cap, cur, fz, hv, r⟩
  ·exact absurd hz hl0
  ·exact ⟨g, cap, cur, fz, hv, r⟩
 have c1 : w.drew.cell? ⟨b, 1, none⟩ = some (.slice (some ⟨g, 0, none⟩) T.length cap) := by
  have : w.drew.heap[b]? = some (.cells #[p, .slice (some ⟨g, 0, none⟩) T.length cap] 123 (0, 0)) := hbk
  rw [Lib.cell_of_heap this]; rfl
 have hSD : (Builtin.unsafeSliceData_ #[119] 147 #[.slice (some ⟨g, 0, none⟩) T.length cap]).run Tryz.prog w.drew = .ok (.pointer (some ⟨g, 0, none⟩)) w.drew :=
  Lib.run_unsafeSliceData_row _ _ _ _ _ _ (by omega)
 have hUS : (Builtin.unsafeString_ #[147, 3] 9 #[.pointer (some ⟨g, 0, none⟩), .int .i64 T.length]).run Tryz.prog w.drew = .ok (.string ⟨T.toArray⟩) (w.drew.freeze ⟨g, 0, none⟩ T.length) := by
  refine Lib.run_unsafeString_row w.drew 147 3 9 5 Tryz.underlying147 cells5 g cur.size (by have hg' : w.drew.heap[g]? = some (.cells cur 5 fz) := hg; simp [World.shape?, hg']) T h0 (by omega) (by unfold maxLen at hcm; omega) ?_
  intro j x hx
  have := hown.cells (g := g) rfl j (.int .u8 x.toNat) (by simp [Lib.byteCells, hx])
  exact this
 have mixed := mixedD
 have HF := hid (Lib.below_freeze (Below.drew (Below.refl B w)) (p := ⟨g, 0, none⟩) hbg T.length)
 clear hown hne hbk hg htake hfz hcm hcs hB h
 go_enter Tryz.func53, Tryz.ntmps53
 go_wp2
 go_region_o
 all_goals (go_wp2; go_ret; exact ⟨rfl, HF.out⟩)

end Go.Proofs.YtdkboifpdodonacGreatDoor
/-
 The landed writer's put.
-/
namespace Go.Proofs.YtdkboifpdodonacGreatDoor
open Go.RowKit Go.Deep PureCnf
set_option maxRecDepth 100000

/-- texts that lie in a row of their own. -/
def Parts (w : World) (g : Nat) (ps : List (List UInt8)) : Prop := w.heap[g]? = some (.cells (ps.map str).toArray 9 (0, 0))
theorem Parts.kept {w w' : World} {g b : Nat} {ps : List (List UInt8)} (h : Parts w g ps) (hk : Lib.OthersKept 5 (some b) w w') (hg : g ≠ b) : Parts w' g ps := hk g _ h (fun e => hg (Option.some.inj e)) (fun c fz e => by simp at e)

set_option maxHeartbeats 1000000 in
theorem put_any (B b g : Nat) (T : List UInt8) (ps : List (List UInt8)) (w : World) (h : IsWr B b T w) (hp : Parts w g ps) (hg : g ≠ b) (hlen : T.length + ps.flatten.length ≤ 140737488355328) (hn : ps.length ≤ 1000) (hBw : B ≤ w.heap.size) :
  Calls Tryz.prog 71 #[.pointer (some ⟨b, 0, none⟩), .slice (some ⟨g, 0, none⟩) ps.length ps.length] w fun e w' => e = .returned (.tuple #[]) ∧ IsWr B b (T ++ ps.flatten) w' ∧ Below B w w' ∧ Lib.OthersKept 5 (some b) w w' := by
 have HH := hid h
 have HP := hid hp
 clear h hp
 go_enter Tryz.func71, Tryz.ntmps71
 go_wp2_with fail
 go_loopw [8] (fun iv W => ∃ j : Nat, iv = .int .i64 j ∧ j ≤ ps.length ∧ Hid (IsWr B b (T ++ (ps.take j).flatten) W ∧ Below B w W ∧ Lib.OthersKept 5 (some b) w W ∧ Parts W g ps)) (fun iv _ => ps.length - (intOf iv).toNat)
 case atStart => exact ⟨0, rfl, Nat.zero_le _, by simpa using HH.out, Below.refl _ _, Lib.OthersKept.refl _ _ _, HP.out⟩
 case round =>
  obtain ⟨j, rfl, hj, HQ⟩ := hrel
  by_cases hlt : j < ps.length
  ·obtain ⟨q1, q2, q3, q4⟩ := HQ.out
   have c0 : wr.cell? ⟨g, j, none⟩ = some (str ps[j]) := by rw [cell_row q4]; simp [hlt]
   have hfl : (ps.take (j + 1)).flatten = (ps.take j).flatten ++ ps[j] := by rw [take_snoc ps j hlt, List.flatten_append]; simp only [List.flatten_cons, List.flatten_nil, List.append_nil]
   have hle : (ps.take (j + 1)).flatten.length ≤ ps.flatten.length := by
    have : ps.flatten = (ps.take (j + 1)).flatten ++ (ps.drop (j + 1)).flatten := by rw [← List.flatten_append, List.take_append_drop]
    rw [this, List.length_append]; omega
   rw [hfl, List.length_append] at hle
   have HW := hid (write_any B b _ ps[j] wr q1 (by rw [List.length_append]; omega) (by have := q2.size; omega))
   obtain ⟨X, hX⟩ : ∃ X, X = ps[j] := ⟨_, rfl⟩
   rw [← hX] at HW c0 hfl
   have HFL := hid hfl
   have HQ2 := hid q2
   have HQ3 := hid q3
   have HQ4 := hid q4
   clear q1 q2 q3 q4 HQ hX hfl hle HH HP
   go_wp2_with fail
   refine HW.out.mono ?_
   rintro e w2 ⟨⟨y, rfl⟩, r1, r2, r3⟩
   have R1 := hid r1
   have R2 := hid (HQ2.out.trans (r2.mono (Nat.le_refl _)))
   have R3 := hid (HQ3.out.trans r3)
   have R4 := hid (HQ4.out.kept r3 hg)
   clear r1 r2 r3
   go_wp2_with fail
   go_roundw
   case rel => exact ⟨j + 1, by go_num, hlt, by rw [HFL.out, ← List.append_assoc]; exact R1.out, R2.out, R3.out, R4.out⟩
   case measure => simp [intOf]; omega
  ·obtain rfl : j = ps.length := by omega
   obtain ⟨q1, q2, q3, q4⟩ := HQ.out
   rw [List.take_length] at q1
   have FIN : Hid (IsWr B b (T ++ ps.flatten) wr ∧ Below B w wr ∧ Lib.OthersKept 5 (some b) w wr) := ⟨q1, q2, q3⟩
   clear q1 q2 q3 q4 HQ
   go_wp2_with fail
   go_end0
   exact ⟨rfl, FIN.out⟩

end Go.Proofs.YtdkboifpdodonacGreatDoor
/-
 DERIVED: THE SHELF's CONTRACTS AT THIS DUMP, IN PLAIN WORDS (tools/lay-plain.mjs out of 'YtdkboifpdodonacGreatDoorShelf.lean', which tools/lay-shelf.mjs wrote): THE SAME DECLARATIONS UNDER THE SAME NAMES: 'import', 'namespace', 'open', 'def', 'theorem' AND NOTHING ELSE: no command of the shelf's: FOR A HAND-IN. Each laying: the table of numbers ('.._ren') and one theorem, a field a fact of the dump's own or the kernel's comparison; each contract: ONE APPLICATION.
-/
namespace Go.Proofs
open Go.Shelf
def Tryz.lays103_ren : Go.Shelf.Ren := ⟨fun | 103 => 78 | 210 => 107 | 206 => 80 | n => n, fun | 9 => 9 | 4 => 4 | 24 => 153 | 3 => 3 | n => n, fun | n => n⟩
theorem Tryz.lays103 : Go.Proofs.Lays.n103 Tryz.prog Tryz.lays103_ren := {
 mixed := by kernel_rfl
 f103 := Tryz.func78.trans (congrArg some (by kernel_rfl))
 f206 := Tryz.func80.trans (congrArg some (by kernel_rfl))
 f210 := Tryz.func107.trans (congrArg some (by kernel_rfl))
 t3 := Tryz.underlying3
 a3 := Tryz.isAgg3
 z3 := Tryz.sizeOf3
 v3 := Tryz.zeroValue3
 t4 := Tryz.underlying4
 a4 := Tryz.isAgg4
 z4 := Tryz.sizeOf4
 v4 := Tryz.zeroValue4
 t9 := Tryz.underlying9
 a9 := Tryz.isAgg9
 z9 := Tryz.sizeOf9
 v9 := Tryz.zeroValue9
 t24 := Tryz.underlying153
 a24 := Tryz.isAgg153
 z24 := Tryz.sizeOf153
 v24 := Tryz.zeroValue153 }
open Go.RowKit in
/-- strings.CutPrefix: "CutPrefix returns s without the provided leading prefix string and reports whether it found the prefix. If s doesn't start with prefix, CutPrefix returns s, false. If prefix is the empty string, CutPrefix returns s, true.": IT RETURNS '(Lib.trimPrefix s p, Lib.hasPrefix s p)'; the world is as it was. (LAID: no walk: one application.) -/
theorem Tryz.strings_CutPrefix (s p : ByteArray) (w : World) :
  Calls Tryz.prog 78 #[.string s, .string p] w fun e w' => e = .returned (.tuple #[.string ⟨(Lib.trimPrefix s.data.toList p.data.toList).toArray⟩, .bool (Lib.hasPrefix s.data.toList p.data.toList)]) ∧ w' = w := Any.strings_CutPrefix Tryz.lays103 s p w
def Tryz.laysM171_ren : Go.Shelf.Ren := ⟨fun | 171 => 110 | 243 => 116 | 246 => 119 | 283 => 124 | 284 => 125 | 285 => 126 | 286 => 127 | 129 => 131 | 317 => 130 | 318 => 132 | 319 => 133 | 320 => 134 | 337 => 135 | 338 => 136 | n => n, fun | 3 => 3 | 9 => 9 | 2 => 2 | 4 => 4 | 171 => 187 | 0 => 0 | 53 => 188 | 37 => 119 | 5 => 5 | 173 => 191 | 212 => 194 | 51 => 175 | 20 => 20 | 213 => 195 | 46 => 172 | 232 => 198 | 233 => 199 | n => n, fun | 17 => 4 | 18 => 5 | 19 => 6 | n => n⟩
theorem Tryz.laysM171 : Go.Proofs.LaysM.n171 Tryz.prog Tryz.laysM171_ren := {
 mixed := by kernel_rfl
 f129 := Tryz.func131.trans (congrArg some (by kernel_rfl))
 f171 := Tryz.func110.trans (congrArg some (by kernel_rfl))
 f243 := Tryz.func116.trans (congrArg some (by kernel_rfl))
 f246 := Tryz.func119.trans (congrArg some (by kernel_rfl))
 f283 := Tryz.func124.trans (congrArg some (by kernel_rfl))
 f284 := Tryz.func125.trans (congrArg some (by kernel_rfl))
 f285 := Tryz.func126.trans (congrArg some (by kernel_rfl))
 f286 := Tryz.func127.trans (congrArg some (by kernel_rfl))
 f317 := Tryz.func130.trans (congrArg some (by kernel_rfl))
 f318 := Tryz.func132.trans (congrArg some (by kernel_rfl))
 f319 := Tryz.func133.trans (congrArg some (by kernel_rfl))
 f320 := Tryz.func134.trans (congrArg some (by kernel_rfl))
 f337 := Tryz.func135.trans (congrArg some (by kernel_rfl))
 f338 := Tryz.func136.trans (congrArg some (by kernel_rfl))
 t0 := Tryz.underlying0
 a0 := Tryz.isAgg0
 z0 := Tryz.sizeOf0
 v0 := Tryz.zeroValue0
 t2 := Tryz.underlying2
 a2 := Tryz.isAgg2
 z2 := Tryz.sizeOf2
 v2 := Tryz.zeroValue2
 t3 := Tryz.underlying3
 a3 := Tryz.isAgg3
 z3 := Tryz.sizeOf3
 v3 := Tryz.zeroValue3
 t4 := Tryz.underlying4
 a4 := Tryz.isAgg4
 z4 := Tryz.sizeOf4
 v4 := Tryz.zeroValue4
 t5 := Tryz.underlying5
 a5 := Tryz.isAgg5
 z5 := Tryz.sizeOf5
 v5 := Tryz.zeroValue5
 t9 := Tryz.underlying9
 a9 := Tryz.isAgg9
 z9 := Tryz.sizeOf9
 v9 := Tryz.zeroValue9
 t20 := Tryz.underlying20
 a20 := Tryz.isAgg20
 z20 := Tryz.sizeOf20
 v20 := Tryz.zeroValue20
 t37 := Tryz.underlying119
 a37 := Tryz.isAgg119
 z37 := Tryz.sizeOf119
 v37 := Tryz.zeroValue119
 t46 := Tryz.underlying172
 a46 := Tryz.isAgg172
 z46 := Tryz.sizeOf172
 v46 := Tryz.zeroValue172
 t51 := Tryz.underlying175
 a51 := Tryz.isAgg175
 z51 := Tryz.sizeOf175
 v51 := Tryz.zeroValue175
 t53 := Tryz.underlying188
 a53 := Tryz.isAgg188
 z53 := Tryz.sizeOf188
 v53 := Tryz.zeroValue188
 t171 := Tryz.underlying187
 a171 := Tryz.isAgg187
 z171 := Tryz.sizeOf187
 v171 := Tryz.zeroValue187
 t173 := Tryz.underlying191
 a173 := Tryz.isAgg191
 z173 := Tryz.sizeOf191
 v173 := Tryz.zeroValue191
 t212 := Tryz.underlying194
 a212 := Tryz.isAgg194
 z212 := Tryz.sizeOf194
 v212 := Tryz.zeroValue194
 t213 := Tryz.underlying195
 a213 := Tryz.isAgg195
 z213 := Tryz.sizeOf195
 t232 := Tryz.underlying198
 a232 := Tryz.isAgg198
 z232 := Tryz.sizeOf198
 v232 := Tryz.zeroValue198
 t233 := Tryz.underlying199
 a233 := Tryz.isAgg199
 z233 := Tryz.sizeOf199
 v233 := Tryz.zeroValue199
 g17 := by kernel_rfl
 g18 := by kernel_rfl
 g19 := by kernel_rfl
 i0 := by kernel_rfl
 i2 := by kernel_rfl
 i3 := by kernel_rfl
 i4 := by kernel_rfl
 i5 := by kernel_rfl
 i9 := by kernel_rfl
 i20 := by kernel_rfl
 i37 := by kernel_rfl
 i46 := by kernel_rfl
 i51 := by kernel_rfl
 i53 := by kernel_rfl
 i171 := by kernel_rfl
 i173 := by kernel_rfl
 i212 := by kernel_rfl
 i232 := by kernel_rfl
 i233 := by kernel_rfl
 m17 := by kernel_rfl
 m18 := by kernel_rfl
 m19 := by kernel_rfl }
open Go.RowKit Go.Sort Go.Lib in
/-- strconv.Itoa: "Itoa is equivalent to FormatInt(int64(i), 10).": i's DECIMAL NUMERAL ('Lib.itoa': a '-' where i is negative, then the digits), FOR EVERY int. The world behind the call: the world before it, new blocks behind the heap (the library's 'var a [24]byte'), draws. (LAID: no walk: one application.) -/
theorem Tryz.strconv_Itoa (n : Int) (h0 : -9223372036854775808 ≤ n) (h1 : n ≤ 9223372036854775807) (w : World) (htab : Lib.TabIs Tryz.prog w "internal/strconv.uint64pow10" .u64 Lib.pow10Tab) :
  Calls Tryz.prog 110 #[.int .i64 n] w fun e w' => e = .returned (.string ⟨(Lib.itoa n).toArray⟩) ∧ ∃ k os, w' = grow (w.drewN k) os := Any.strconv_Itoa Tryz.laysM171 n h0 h1 w htab
def Tryz.lays219_ren : Go.Shelf.Ren := ⟨fun | 219 => 76 | 217 => 102 | 225 => 103 | 224 => 104 | 267 => 105 | 266 => 114 | 314 => 115 | n => n, fun | 9 => 9 | 3 => 3 | 4 => 4 | 5 => 5 | 46 => 172 | 146 => 176 | 51 => 175 | n => n, fun | 1 => 1 | n => n⟩
theorem Tryz.lays219 : Go.Proofs.Lays.n219 Tryz.prog Tryz.lays219_ren := {
 mixed := by kernel_rfl
 f217 := Tryz.func102.trans (congrArg some (by kernel_rfl))
 f219 := Tryz.func76.trans (congrArg some (by kernel_rfl))
 f224 := Tryz.func104.trans (congrArg some (by kernel_rfl))
 f225 := Tryz.func103.trans (congrArg some (by kernel_rfl))
 f266 := Tryz.func114.trans (congrArg some (by kernel_rfl))
 f267 := Tryz.func105.trans (congrArg some (by kernel_rfl))
 f314 := Tryz.func115.trans (congrArg some (by kernel_rfl))
 t3 := Tryz.underlying3
 a3 := Tryz.isAgg3
 z3 := Tryz.sizeOf3
 v3 := Tryz.zeroValue3
 t4 := Tryz.underlying4
 a4 := Tryz.isAgg4
 z4 := Tryz.sizeOf4
 v4 := Tryz.zeroValue4
 t5 := Tryz.underlying5
 a5 := Tryz.isAgg5
 z5 := Tryz.sizeOf5
 v5 := Tryz.zeroValue5
 t9 := Tryz.underlying9
 a9 := Tryz.isAgg9
 z9 := Tryz.sizeOf9
 v9 := Tryz.zeroValue9
 t46 := Tryz.underlying172
 a46 := Tryz.isAgg172
 z46 := Tryz.sizeOf172
 v46 := Tryz.zeroValue172
 t51 := Tryz.underlying175
 a51 := Tryz.isAgg175
 z51 := Tryz.sizeOf175
 v51 := Tryz.zeroValue175
 t146 := Tryz.underlying176
 a146 := Tryz.isAgg176
 z146 := Tryz.sizeOf176
 v146 := Tryz.zeroValue176
 g1 := by kernel_rfl }
open Go.RowKit Go.Lib in
/-- internal/stringslite.Index (what strings.Index calls) AT A substr OF ONE BYTE c: IT RETURNS 'Lib.indexByte s c'; the world is as it was. (LAID: no walk: one application.) -/
theorem Tryz.stringslite_Index_one (s : ByteArray) (c : UInt8) (w : World) :
  Calls Tryz.prog 76 #[.string s, .string ⟨#[c]⟩] w fun e w' => e = .returned (.int .i64 (Lib.indexByte s.data.toList c)) ∧ w' = w := Any.stringslite_Index_one Tryz.lays219 s c w
def Tryz.lays138_ren : Go.Shelf.Ren := ⟨fun | 138 => 65 | 195 => 81 | 218 => 82 | 143 => 83 | 219 => 76 | 217 => 102 | 225 => 103 | 224 => 104 | 267 => 105 | 266 => 114 | 314 => 115 | n => n, fun | 9 => 9 | 3 => 3 | 4 => 4 | 5 => 5 | 0 => 0 | 46 => 172 | 146 => 176 | 51 => 175 | n => n, fun | 1 => 1 | n => n⟩
theorem Tryz.lays138 : Go.Proofs.Lays.n138 Tryz.prog Tryz.lays138_ren := {
 mixed := by kernel_rfl
 f138 := Tryz.func65.trans (congrArg some (by kernel_rfl))
 f143 := Tryz.func83.trans (congrArg some (by kernel_rfl))
 f195 := Tryz.func81.trans (congrArg some (by kernel_rfl))
 f217 := Tryz.func102.trans (congrArg some (by kernel_rfl))
 f218 := Tryz.func82.trans (congrArg some (by kernel_rfl))
 f219 := Tryz.func76.trans (congrArg some (by kernel_rfl))
 f224 := Tryz.func104.trans (congrArg some (by kernel_rfl))
 f225 := Tryz.func103.trans (congrArg some (by kernel_rfl))
 f266 := Tryz.func114.trans (congrArg some (by kernel_rfl))
 f267 := Tryz.func105.trans (congrArg some (by kernel_rfl))
 f314 := Tryz.func115.trans (congrArg some (by kernel_rfl))
 t0 := Tryz.underlying0
 a0 := Tryz.isAgg0
 z0 := Tryz.sizeOf0
 v0 := Tryz.zeroValue0
 t3 := Tryz.underlying3
 a3 := Tryz.isAgg3
 z3 := Tryz.sizeOf3
 v3 := Tryz.zeroValue3
 t4 := Tryz.underlying4
 a4 := Tryz.isAgg4
 z4 := Tryz.sizeOf4
 v4 := Tryz.zeroValue4
 t5 := Tryz.underlying5
 a5 := Tryz.isAgg5
 z5 := Tryz.sizeOf5
 v5 := Tryz.zeroValue5
 t9 := Tryz.underlying9
 a9 := Tryz.isAgg9
 z9 := Tryz.sizeOf9
 v9 := Tryz.zeroValue9
 t46 := Tryz.underlying172
 a46 := Tryz.isAgg172
 z46 := Tryz.sizeOf172
 v46 := Tryz.zeroValue172
 t51 := Tryz.underlying175
 a51 := Tryz.isAgg175
 z51 := Tryz.sizeOf175
 v51 := Tryz.zeroValue175
 t146 := Tryz.underlying176
 a146 := Tryz.isAgg176
 z146 := Tryz.sizeOf176
 v146 := Tryz.zeroValue176
 g1 := by kernel_rfl }
open Go.RowKit Go.Lib in
/-- strings.Count AT A substr OF ONE BYTE ('hp'): "Count counts the number of non-overlapping instances of substr in s.": IT RETURNS 'Lib.countByte s (that byte)'; the world is as it was. ✋ NO CONTRACT HERE YET at an empty substr (utf8.RuneCountInString) or at a longer one (a loop over strings.Index). (LAID: no walk: one application.) -/
theorem Tryz.strings_Count_one (s : ByteArray) (c : UInt8) (w : World) :
  Calls Tryz.prog 65 #[.string s, .string ⟨#[c]⟩] w fun e w' => e = .returned (.int .i64 (Lib.countByte s.data.toList c)) ∧ w' = w := Any.strings_Count_one Tryz.lays138 s c w
def Tryz.lays148_ren : Go.Shelf.Ren := ⟨fun | 148 => 66 | 222 => 84 | 223 => 85 | 269 => 108 | n => n, fun | 9 => 9 | 3 => 3 | 4 => 4 | 5 => 5 | 146 => 176 | 51 => 175 | 46 => 172 | n => n, fun | n => n⟩
theorem Tryz.lays148 : Go.Proofs.Lays.n148 Tryz.prog Tryz.lays148_ren := {
 mixed := by kernel_rfl
 f148 := Tryz.func66.trans (congrArg some (by kernel_rfl))
 f222 := Tryz.func84.trans (congrArg some (by kernel_rfl))
 f223 := Tryz.func85.trans (congrArg some (by kernel_rfl))
 f269 := Tryz.func108.trans (congrArg some (by kernel_rfl))
 t3 := Tryz.underlying3
 a3 := Tryz.isAgg3
 z3 := Tryz.sizeOf3
 v3 := Tryz.zeroValue3
 t4 := Tryz.underlying4
 a4 := Tryz.isAgg4
 z4 := Tryz.sizeOf4
 v4 := Tryz.zeroValue4
 t5 := Tryz.underlying5
 a5 := Tryz.isAgg5
 z5 := Tryz.sizeOf5
 v5 := Tryz.zeroValue5
 t9 := Tryz.underlying9
 a9 := Tryz.isAgg9
 z9 := Tryz.sizeOf9
 v9 := Tryz.zeroValue9
 t46 := Tryz.underlying172
 a46 := Tryz.isAgg172
 z46 := Tryz.sizeOf172
 v46 := Tryz.zeroValue172
 t51 := Tryz.underlying175
 a51 := Tryz.isAgg175
 z51 := Tryz.sizeOf175
 v51 := Tryz.zeroValue175
 t146 := Tryz.underlying176
 a146 := Tryz.isAgg176
 z146 := Tryz.sizeOf176
 v146 := Tryz.zeroValue176 }
open Go.RowKit Go.Lib in
/-- strings.LastIndex AT A substr OF ONE BYTE (as in 'strings.LastIndex(path, "/")'): the last place of that byte, or -1. (LAID: no walk: one application.) -/
theorem Tryz.strings_LastIndex_one (s sub : ByteArray) (h1 : sub.size = 1) (hs : s.size < 4611686018427387904) (w : World) :
  Calls Tryz.prog 66 #[.string s, .string sub] w fun e w' => e = .returned (.int .i64 (Lib.lastIndexByte s ((sub[0]'(by omega)).toNat : Int))) ∧ w' = w := Any.strings_LastIndex_one Tryz.lays148 s sub h1 hs w
def Tryz.lays99_ren : Go.Shelf.Ren := ⟨fun | 99 => 63 | 206 => 80 | n => n, fun | 9 => 9 | 4 => 4 | 3 => 3 | n => n, fun | n => n⟩
theorem Tryz.lays99 : Go.Proofs.Lays.n99 Tryz.prog Tryz.lays99_ren := {
 mixed := by kernel_rfl
 f99 := Tryz.func63.trans (congrArg some (by kernel_rfl))
 f206 := Tryz.func80.trans (congrArg some (by kernel_rfl))
 t3 := Tryz.underlying3
 a3 := Tryz.isAgg3
 z3 := Tryz.sizeOf3
 v3 := Tryz.zeroValue3
 t4 := Tryz.underlying4
 a4 := Tryz.isAgg4
 z4 := Tryz.sizeOf4
 v4 := Tryz.zeroValue4
 t9 := Tryz.underlying9
 a9 := Tryz.isAgg9
 z9 := Tryz.sizeOf9
 v9 := Tryz.zeroValue9 }
open Go.RowKit Go.Lib in
/-- strings.HasPrefix: "HasPrefix reports whether the string s begins with prefix.": IT RETURNS 'Lib.hasPrefix s prefix'; the world is as it was. (LAID: no walk: one application.) -/
theorem Tryz.strings_HasPrefix (s p : ByteArray) (w : World) :
  Calls Tryz.prog 63 #[.string s, .string p] w fun e w' => e = .returned (.bool (Lib.hasPrefix s.data.toList p.data.toList)) ∧ w' = w := Any.strings_HasPrefix Tryz.lays99 s p w
def Tryz.lays197_ren : Go.Shelf.Ren := ⟨fun | 197 => 94 | 260 => 112 | n => n, fun | 9 => 9 | 21 => 21 | 3 => 3 | 4 => 4 | 5 => 5 | 105 => 167 | 119 => 181 | 0 => 0 | 46 => 172 | 139 => 184 | 138 => 183 | n => n, fun | 3 => 2 | 4 => 3 | n => n⟩
theorem Tryz.lays197 : Go.Proofs.Lays.n197 Tryz.prog Tryz.lays197_ren := {
 mixed := by kernel_rfl
 f197 := Tryz.func94.trans (congrArg some (by kernel_rfl))
 f260 := Tryz.func112.trans (congrArg some (by kernel_rfl))
 t0 := Tryz.underlying0
 a0 := Tryz.isAgg0
 z0 := Tryz.sizeOf0
 v0 := Tryz.zeroValue0
 t3 := Tryz.underlying3
 a3 := Tryz.isAgg3
 z3 := Tryz.sizeOf3
 v3 := Tryz.zeroValue3
 t4 := Tryz.underlying4
 a4 := Tryz.isAgg4
 z4 := Tryz.sizeOf4
 v4 := Tryz.zeroValue4
 t5 := Tryz.underlying5
 a5 := Tryz.isAgg5
 z5 := Tryz.sizeOf5
 v5 := Tryz.zeroValue5
 t9 := Tryz.underlying9
 a9 := Tryz.isAgg9
 z9 := Tryz.sizeOf9
 v9 := Tryz.zeroValue9
 t21 := Tryz.underlying21
 a21 := Tryz.isAgg21
 z21 := Tryz.sizeOf21
 v21 := Tryz.zeroValue21
 t46 := Tryz.underlying172
 a46 := Tryz.isAgg172
 z46 := Tryz.sizeOf172
 v46 := Tryz.zeroValue172
 t105 := Tryz.underlying167
 a105 := Tryz.isAgg167
 z105 := Tryz.sizeOf167
 v105 := Tryz.zeroValue167
 t119 := Tryz.underlying181
 a119 := Tryz.isAgg181
 z119 := Tryz.sizeOf181
 t138 := Tryz.underlying183
 a138 := Tryz.isAgg183
 z138 := Tryz.sizeOf183
 v138 := Tryz.zeroValue183
 t139 := Tryz.underlying184
 a139 := Tryz.isAgg184
 z139 := Tryz.sizeOf184
 v139 := Tryz.zeroValue184
 g3 := by kernel_rfl
 g4 := by kernel_rfl }
open Go.RowKit Go.Lib in
/-- **unicode/utf8.DecodeRuneInString AT EVERY STRING.** (LAID: no walk: one application.) -/
theorem Tryz.utf8_DecodeRuneInString (s : ByteArray) (w : World) (hT : Lib.Utf8Tabs 2 3 w) :
  Calls Tryz.prog 94 #[.string s] w fun e w' => e = .returned (.tuple #[.int .i32 (Lib.decodeGo s).1, .int .i64 (Lib.decodeGo s).2]) ∧ Below w.heap.size w w' := Any.utf8_DecodeRuneInString Tryz.lays197 s w hT
end Go.Proofs
/-
 strconv.Itoa; FormedCnf of the landed program.
-/
namespace Go.Proofs.YtdkboifpdodonacGreatDoor
open Go.RowKit Go.Deep PureCnf
set_option maxRecDepth 100000

theorem itoa_any (n : Int) (h0 : -9223372036854775808 ≤ n) (h1 : n ≤ 9223372036854775807) (w : World) (hT : Tab w) :
  Calls Tryz.prog 110 #[.int .i64 n] w fun e w' => e = .returned (str (Lib.itoa n)) ∧ Below w.heap.size w w' := by
 refine (Tryz.strconv_Itoa n h0 h1 w hT).mono ?_
 rintro e w' ⟨rfl, k, os, rfl⟩
 exact ⟨rfl, Lib.below_grow _ _ (Nat.le_refl _) k os⟩
theorem IsWr.on {B b : Nat} {T : List UInt8} {w w' : World} (h : IsWr B b T w) (hb : Below w.heap.size w w') : IsWr B b T w' := by
 have one : ∀ p, Wr B b p T w → Wr B b p T w' := by
  rintro p ⟨hB, v, hk, ho, hne⟩
  refine ⟨hB, v, (hb.block b (Array.getElem?_eq_some_iff.1 hk).1).trans hk, ⟨ho.1, ?_⟩, hne⟩
  rcases ho.2 with hn | ⟨g, cap, cur, fz, hv, hB', hg, r⟩
  ·exact .inl hn
  ·exact .inr ⟨g, cap, cur, fz, hv, hB', (hb.block g (Array.getElem?_eq_some_iff.1 hg).1).trans hg, r⟩
 rcases h with h | h
 ·exact .inl (one _ h)
 ·exact .inr (one _ h)

/-! ### FormedCnf -/
end Go.Proofs.YtdkboifpdodonacGreatDoor
/-
 The landed writer of formulas: what a piece writes; names, signs; an operand over its bare tree.
-/
namespace Go.Proofs.YtdkboifpdodonacGreatDoor
open Go.RowKit Go.Deep PureCnf PureForm
set_option maxRecDepth 100000

theorem Tab.low {w W : World} {B : Nat} (h : Tab w) (hb : Below B w W) (hB : 5 ≤ B) : Tab W := by
 unfold Tab Lib.TabIs at h ⊢
 exact var?_below (g := 4) hb (by kernel_rfl) (by omega) h
/-- a text has been written behind T. -/
structure Wrote (B b : Nat) (T X : List UInt8) (w W : World) : Prop where
 is : IsWr B b (T ++ X) W
 low : Below B w W
 kept : Lib.OthersKept 5 (some b) w W
theorem Wrote.trans {B b : Nat} {T X Y : List UInt8} {w W V : World} (h : Wrote B b T X w W) (k : Wrote B b (T ++ X) Y W V) : Wrote B b T (X ++ Y) w V :=
 ⟨by rw [← List.append_assoc]; exact k.is, h.low.trans k.low, h.kept.trans k.kept⟩
theorem IsWr.lt {B b : Nat} {T : List UInt8} {w : World} (h : IsWr B b T w) : b < w.heap.size := by
 rcases h with h | h
 ·obtain ⟨_, v, hk, _⟩ := h
  exact (Array.getElem?_eq_some_iff.1 hk).1
 ·obtain ⟨_, v, hk, _⟩ := h
  exact (Array.getElem?_eq_some_iff.1 hk).1
theorem kept_low {b : Nat} {w W : World} (h : Below w.heap.size w W) : Lib.OthersKept 5 (some b) w W := fun g _ hg _ _ => (h.block g (Array.getElem?_eq_some_iff.1 hg).1).trans hg
/-- what only grows the heap writes nothing. -/
theorem Wrote.grow {B b : Nat} {T X : List UInt8} {w V W : World} (hb : Below w.heap.size w V) (hB : B ≤ w.heap.size) (h : Wrote B b T X V W) : Wrote B b T X w W :=
 ⟨h.is, (hb.mono hB).trans h.low, (kept_low hb).trans h.kept⟩
/-- a box lies on while something is written. -/
theorem Wrote.box {B b : Nat} {T X : List UInt8} {w W : World} (h : Wrote B b T X w W) {g : Nat} {c : Array Value} {t : TypeId} (hg : w.heap[g]? = some (.cells c t (0, 0))) (hb : g ≠ b) (ht : t ≠ 5) : W.heap[g]? = some (.cells c t (0, 0)) :=
 h.kept g _ hg (fun e => hb (Option.some.inj e)) (fun c fz e => by simp at e; exact ht e.2.1)

/-- put of a row of texts that has just been built. -/
theorem put_row (B b : Nat) (T : List UInt8) (ps : List (List UInt8)) (W : World) (h : IsWr B b T W) (hlen : T.length + ps.flatten.length ≤ 140737488355328) (hn : ps.length ≤ 1000) (hB : B ≤ W.heap.size) :
  Calls Tryz.prog 71 #[.pointer (some ⟨b, 0, none⟩), .slice (some ⟨W.heap.size, 0, none⟩) ps.length ps.length] (W.alloc (Obj.cells (ps.map str).toArray 9)) fun e w' => e = .returned (.tuple #[]) ∧ Wrote B b T ps.flatten W w' := by
 have hb := h.lt
 have b1 : Below W.heap.size W (W.alloc (Obj.cells (ps.map str).toArray 9)) := below_box _ _
 refine (put_any B b W.heap.size T ps _ (h.on b1) (heap_alloc_new W _) (by omega) hlen hn (Nat.le_trans hB b1.size)).mono ?_
 rintro e w' ⟨rfl, q1, q2, q3⟩
 exact ⟨rfl, Wrote.grow b1 hB ⟨q1, q2, q3⟩⟩
theorem put_one (B b : Nat) (T X : List UInt8) (W : World) (h : IsWr B b T W) (hlen : T.length + X.length ≤ 140737488355328) (hB : B ≤ W.heap.size) :
  Calls Tryz.prog 71 #[.pointer (some ⟨b, 0, none⟩), .slice (some ⟨W.heap.size, 0, none⟩) 1 1] (W.alloc (Obj.cells #[str X] 9)) fun e w' => e = .returned (.tuple #[]) ∧ Wrote B b T X W w' := by
 have := put_row B b T [X] W h (by simpa using hlen) (by simp) hB
 simpa using this
theorem put_two (B b : Nat) (T X Y : List UInt8) (W : World) (h : IsWr B b T W) (hlen : T.length + (X ++ Y).length ≤ 140737488355328) (hB : B ≤ W.heap.size) :
  Calls Tryz.prog 71 #[.pointer (some ⟨b, 0, none⟩), .slice (some ⟨W.heap.size, 0, none⟩) 2 2] (W.alloc (Obj.cells #[str X, str Y] 9)) fun e w' => e = .returned (.tuple #[]) ∧ Wrote B b T (X ++ Y) W w' := by
 have := put_row B b T [X, Y] W h (by simpa using hlen) (by simp) hB
 simpa using this
theorem put_three (B b : Nat) (T X Y Z : List UInt8) (W : World) (h : IsWr B b T W) (hlen : T.length + (X ++ (Y ++ Z)).length ≤ 140737488355328) (hB : B ≤ W.heap.size) :
  Calls Tryz.prog 71 #[.pointer (some ⟨b, 0, none⟩), .slice (some ⟨W.heap.size, 0, none⟩) 3 3] (W.alloc (Obj.cells #[str X, str Y, str Z] 9)) fun e w' => e = .returned (.tuple #[]) ∧ Wrote B b T (X ++ (Y ++ Z)) W w' := by
 have := put_row B b T [X, Y, Z] W h (by simpa using hlen) (by simp) hB
 simpa using this

theorem name_any (n : Int) (h0 : 0 ≤ n) (h1 : n < 65536) (w : World) (hT : Tab w) :
  Calls Tryz.prog 89 #[.int .i64 n] w fun e w' => e = .returned (str (varI n).1) ∧ Below w.heap.size w w' := by
 have HI := hid (itoa_any n (by omega) (by omega) w hT)
 have hle := Lib.itoa_length_le n (by omega) (by omega)
 have HV : Hid ((varI n).1 = [120] ++ Lib.itoa n) := by show _ = _; unfold varI Lib.itoa; rw [if_neg (by omega)]; rfl
 obtain ⟨D, hD⟩ : ∃ D, D = Lib.itoa n := ⟨_, rfl⟩
 rw [← hD] at HI HV hle
 have hs := fun W => sum_text (A := [120]) (D := D) (W := W) (by simp; omega)
 clear hD hT
 rw [HV.out]
 go_enter Tryz.func89, Tryz.ntmps89
 go_wp2_with (go_at_call 110; refine HI.out.mono ?_; rintro e w1 ⟨rfl, b1⟩; have B1 := hid b1; clear b1)
 go_ret
 exact ⟨rfl, B1.out⟩
def boolT (b : Bool) : List UInt8 := if b = true then [116, 114, 117, 101] else [102, 97, 108, 115, 101]
theorem fbool_in (b : Bool) (w : World) : Calls Tryz.prog 109 #[.bool b] w fun e w' => e = .returned (str (boolT b)) ∧ w' = w := by
 cases b
 all_goals
  go_enter Tryz.func109, Tryz.ntmps109
  go_wp2
  go_ret
  exact ⟨rfl, rfl⟩
theorem fbool_any (b : Bool) (w : World) : Calls Tryz.prog 88 #[.bool b] w fun e w' => e = .returned (str (boolT b)) ∧ w' = w := by
 have H := fun W => hid (fbool_in b W)
 go_enter Tryz.func88, Tryz.ntmps88
 go_wp2_with (go_at_call 109; refine (H _).out.mono ?_; rintro e w1 ⟨rfl, rfl⟩)
 go_ret
 exact ⟨rfl, rfl⟩
def quantT (o : Int) : List UInt8 := if o = 4 then [101, 120, 105, 115, 116, 115] else [102, 111, 114, 97, 108, 108]
theorem quant_any (o : Int) (ho : o = 4 ∨ o = 5) (w : World) : Calls Tryz.prog 90 #[.int .i64 o] w fun e w' => e = .returned (str (quantT o)) ∧ w' = w := by
 rcases ho with rfl | rfl
 all_goals
  go_enter Tryz.func90, Tryz.ntmps90
  go_wp2
  go_ret
  exact ⟨rfl, rfl⟩
def signT (o : Int) : List UInt8 := if o = 6 then [38] else if o = 8 then [94] else if o = 7 then [124] else if o = 9 then [45, 62] else [60, 45, 62]
theorem sign_any (o : Int) (ho : two o = true) (w : World) : Calls Tryz.prog 92 #[.int .i64 o] w fun e w' => e = .returned (str (signT o)) ∧ w' = w := by
 rcases two_cases ho with rfl | rfl | rfl | rfl | rfl
 all_goals
  go_enter Tryz.func92, Tryz.ntmps92
  go_wp2
  go_ret
  exact ⟨rfl, rfl⟩

/-- the text of a tree without brackets around it. -/
abbrev bareX (t : Tr) (fol : Bool) : List UInt8 := textOf (t.its 0 (!fol))
/-- the text of a tree at a spot. -/
def operX (t : Tr) (least : Int) (fol : Bool) : List UInt8 := textOf (wrapI (brkT t least fol) (t.its 0 (brkT t least fol || !fol)))
def BareC (t : Tr) : Prop := ∀ (fol : Bool) (B b : Nat) (T : List UInt8) (w : World), IsWr B b T w → B ≤ w.heap.size → 5 ≤ B → Tab w → T.length + (bareX t fol).length ≤ 140737488355328 →
 Calls Tryz.prog 70 #[.pointer (some ⟨b, 0, none⟩), tv t, .bool fol] w fun e w' => e = .returned (.tuple #[]) ∧ Wrote B b T (bareX t fol) w w'
def OperC (t : Tr) : Prop := ∀ (least : Int) (fol : Bool) (B b : Nat) (T : List UInt8) (w : World), IsWr B b T w → B ≤ w.heap.size → 5 ≤ B → Tab w → T.length + (operX t least fol).length ≤ 140737488355328 →
 Calls Tryz.prog 52 #[.pointer (some ⟨b, 0, none⟩), tv t, spotV least fol] w fun e w' => e = .returned (.tuple #[]) ∧ Wrote B b T (operX t least fol) w w'

set_option maxHeartbeats 1000000 in
theorem oper_any (t : Tr) (ht : t.good) (H : BareC t) : OperC t := by
 intro least fol B b T w hw hB h3 hT hlen
 obtain ⟨WA, hWA⟩ : ∃ WA, WA = w.alloc (Obj.cells #[.int .i64 least, .bool fol] 117) := ⟨_, rfl⟩
 have hBA : Below w.heap.size w WA := by rw [hWA]; exact below_box _ _
 have r0 : WA.heap[w.heap.size]? = some (.cells #[.int .i64 least, .bool fol] 117 (0, 0)) := by rw [hWA]; exact heap_alloc_new w _
 have c0 := fun j => cell_row r0 j
 have HBR := hid (brackets_any t ht least fol WA)
 have HR0 := hid r0
 have HW := hid hw
 have HTB := hid hT
 have HBA := hid hBA
 have HWA := hid hWA
 obtain ⟨k, u, e⟩ := tv_form t
 rw [e] at HBR ⊢
 clear hWA hBA r0 hT hw
 cases hb : brkT t least fol with
 | true =>
  rw [hb] at HBR
  have HX : Hid (operX t least fol = [40] ++ (bareX t false ++ [41])) := by
   show _ = _
   unfold operX wrapI bareX textOf
   rw [hb, if_pos rfl]
   simp [openI, closeI]
  have hl2 := hlen
  rw [HX.out] at hl2
  simp only [List.length_append, List.length_cons, List.length_nil] at hl2
  have H84 : Hid (∀ W, IsWr B b (T ++ [40]) W → B ≤ W.heap.size → Tab W → Calls Tryz.prog 70 #[.pointer (some ⟨b, 0, none⟩), .iface k u, .bool false] W fun e w' => e = .returned (.tuple #[]) ∧ Wrote B b (T ++ [40]) (bareX t false) W w') := fun W h1 h2 h4 => by
   have := H false B b (T ++ [40]) W h1 h2 h3 h4 (by simp only [List.length_append, List.length_cons, List.length_nil]; omega)
   rwa [e] at this
  obtain ⟨X, hX⟩ : ∃ X, X = bareX t false := ⟨_, rfl⟩
  rw [← hX] at HX H84 hl2
  rw [HX.out]
  clear hX hb H hlen e ht
  go_enter Tryz.func52, Tryz.ntmps52
  go_wp2_with (first
   | (rw [← HWA.out])
   | (go_at_call 68; refine HBR.out.mono ?_; rintro e w1 ⟨rfl, b1⟩; have B1 := hid (HBA.out.trans (b1.mono HBA.out.size)); have HP1 := hid (put_one B b T [40] w1 (HW.out.on B1.out) (by simp; omega) (Nat.le_trans hB B1.out.size)); clear b1)
   | (have q := Q3; clear q; go_at_call 71; refine HP1.out.mono ?_; rintro e w2 ⟨rfl, q2⟩; have Q2 := hid q2; clear q2 HP1)
   | (go_at_call 71; refine HP1.out.mono ?_; rintro e w2 ⟨rfl, q2⟩; have Q2 := hid (Wrote.grow B1.out hB q2); have HC := hid (H84.out w2 Q2.out.is (Nat.le_trans hB Q2.out.low.size) (HTB.out.low Q2.out.low h3)); clear q2 HP1)
   | (go_at_call 70; refine HC.out.mono ?_; rintro e w3 ⟨rfl, q3⟩; have Q3 := hid (Q2.out.trans q3); have HP1 := hid (put_one B b (T ++ ([40] ++ X)) [41] w3 Q3.out.is (by simp; omega) (Nat.le_trans hB Q3.out.low.size)); clear q3 HC Q2))
  have R := Q3.out.trans Q2.out
  go_end0
  exact ⟨rfl, by simpa [List.append_assoc] using R⟩
 | false =>
  rw [hb] at HBR
  have HX : Hid (operX t least fol = bareX t fol) := by
   show _ = _
   unfold operX wrapI
   rw [hb]
   rfl
  have hl2 := hlen
  rw [HX.out] at hl2
  have H84 : Hid (∀ W, IsWr B b T W → B ≤ W.heap.size → Tab W → Calls Tryz.prog 70 #[.pointer (some ⟨b, 0, none⟩), .iface k u, .bool fol] W fun e w' => e = .returned (.tuple #[]) ∧ Wrote B b T (bareX t fol) W w') := fun W h1 h2 h4 => by
   have := H fol B b T W h1 h2 h3 h4 hl2
   rwa [e] at this
  rw [HX.out]
  clear hb H hlen e ht hl2
  go_enter Tryz.func52, Tryz.ntmps52
  go_wp2_with (first
   | (rw [← HWA.out])
   | (go_at_call 68; refine HBR.out.mono ?_; rintro e w1 ⟨rfl, b1⟩; have B1 := hid (HBA.out.trans (b1.mono HBA.out.size)); have r1 := (b1.block _ (Array.getElem?_eq_some_iff.1 HR0.out).1).trans HR0.out; have c1 := fun j => cell_row r1 j; have HC := hid (H84.out w1 (HW.out.on B1.out) (Nat.le_trans hB B1.out.size) (HTB.out.below B1.out)); clear b1 r1)
   | (go_at_call 70; refine HC.out.mono ?_; rintro e w3 ⟨rfl, q3⟩; have Q3 := hid (Wrote.grow B1.out hB q3); clear q3 HC))
  exact bodyPost_ret (results_none rfl _ _ _) rfl ⟨rfl, Q3.out⟩

end Go.Proofs.YtdkboifpdodonacGreatDoor
/-
 The landed writer of formulas: a bare tree, kind by kind.
-/
namespace Go.Proofs.YtdkboifpdodonacGreatDoor
open Go.RowKit Go.Deep PureCnf PureForm
set_option maxRecDepth 100000

set_option maxHeartbeats 1000000 in
theorem bare_const (n : Int) (hn : n = 0 ∨ n = 1) : BareC (.lf (1, n)) := by
 intro fol B b T w hw hB h3 hT hlen
 have HX : Hid (bareX (.lf (1, n)) fol = boolT (n == 1)) := by
  show _ = _
  rcases hn with rfl | rfl <;> rfl
 rw [HX.out] at hlen ⊢
 show Calls Tryz.prog 70 #[.pointer (some ⟨b, 0, none⟩), .iface 139 (.agg #[.int .i64 n]), .bool fol] w _
 have m1 := fun x W => ta139_hit (.agg #[.int .i64 n]) x W
 obtain ⟨WA, hWA⟩ : ∃ WA, WA = w.alloc (Obj.cells #[.int .i64 n] 139) := ⟨_, rfl⟩
 have hBA : Below w.heap.size w WA := by rw [hWA]; exact below_box _ _
 have r0 : WA.heap[w.heap.size]? = some (.cells #[.int .i64 n] 139 (0, 0)) := by rw [hWA]; exact heap_alloc_new w _
 have c0 := fun j => cell_row r0 j
 have HF := hid (fbool_any (n == 1) WA)
 have HP := hid (put_one B b T (boolT (n == 1)) WA (hw.on hBA) hlen (Nat.le_trans hB hBA.size))
 have HBA := hid hBA
 have HWA := hid hWA
 obtain ⟨X, hX⟩ : ∃ X, X = boolT (n == 1) := ⟨_, rfl⟩
 rw [← hX] at HF HP ⊢
 clear hWA hBA r0 hT hw hX hn HX
 go_enter Tryz.func70, Tryz.ntmps70
 go_wp2_with (first
  | (rw [← HWA.out])
  | (go_at_call 88; refine HF.out.mono ?_; rintro e w1 ⟨rfl, rfl⟩)
  | (go_at_call 71; refine HP.out.mono ?_; rintro e w2 ⟨rfl, q2⟩; have Q2 := hid (Wrote.grow HBA.out hB q2); clear q2))
 go_end0
 exact ⟨rfl, Q2.out⟩
set_option maxHeartbeats 1000000 in
theorem bare_var (n : Int) (h0 : 0 ≤ n) (h1 : n < 65536) : BareC (.lf (2, n)) := by
 intro fol B b T w hw hB h3 hT hlen
 have HX : Hid (bareX (.lf (2, n)) fol = (varI n).1) := by
  show textOf ([] ++ [if (2 : Int) = 1 then constI n else varI n]) = _
  rw [if_neg (by decide)]
  simp [textOf]
 rw [HX.out] at hlen ⊢
 show Calls Tryz.prog 70 #[.pointer (some ⟨b, 0, none⟩), .iface 141 (.agg #[.int .i64 n]), .bool fol] w _
 have m0 := fun x W => ta139_miss 141 (by decide) (.agg #[.int .i64 n]) x W
 have m1 := fun x W => ta141_hit (.agg #[.int .i64 n]) x W
 obtain ⟨WA, hWA⟩ : ∃ WA, WA = w.alloc (Obj.cells #[.int .i64 n] 141) := ⟨_, rfl⟩
 have hBA : Below w.heap.size w WA := by rw [hWA]; exact below_box _ _
 have r0 : WA.heap[w.heap.size]? = some (.cells #[.int .i64 n] 141 (0, 0)) := by rw [hWA]; exact heap_alloc_new w _
 have c0 := fun j => cell_row r0 j
 have HF := hid (name_any n h0 h1 WA (hT.below hBA))
 have HW := hid hw
 have HBA := hid hBA
 have HWA := hid hWA
 obtain ⟨X, hX⟩ : ∃ X, X = (varI n).1 := ⟨_, rfl⟩
 rw [← hX] at HF hlen ⊢
 clear hWA hBA r0 hT hw hX HX
 go_enter Tryz.func70, Tryz.ntmps70
 go_wp2_with (first
  | (rw [← HWA.out])
  | (go_at_call 89; refine HF.out.mono ?_; rintro e w1 ⟨rfl, b1⟩; have B1 := hid (HBA.out.trans (b1.mono HBA.out.size)); have HP := hid (put_one B b T X w1 (HW.out.on B1.out) hlen (Nat.le_trans hB B1.out.size)); clear b1)
  | (go_at_call 71; refine HP.out.mono ?_; rintro e w2 ⟨rfl, q2⟩; have Q2 := hid (Wrote.grow B1.out hB q2); clear q2))
 go_end0
 exact ⟨rfl, Q2.out⟩
set_option maxHeartbeats 1000000 in
theorem bare_not (a : Tr) (HA : OperC a) : BareC (.un (3, 0) a) := by
 intro fol B b T w hw hB h3 hT hlen
 have HX : Hid (bareX (.un (3, 0) a) fol = [33] ++ operX a 6 fol) := by
  show textOf ((Tr.un (3, 0) a).its 0 (!fol)) = _
  have hb := brk_not a (!fol)
  rw [Bool.not_not] at hb
  unfold operX
  (first | rw [Tr.its_un, if_neg (by decide), ← hb] | rw [Tr.its_bi, if_neg (by decide), ← hb] | rw [Tr.its_te, if_neg (by decide), ← hb] | rw [Tr.its_lf, if_neg (by decide), ← hb])
  simp [textOf, notI, sepI]
 rw [HX.out] at hlen ⊢
 simp only [List.length_append, List.length_cons, List.length_nil] at hlen
 obtain ⟨k, u, e⟩ := tv_form a
 show Calls Tryz.prog 70 #[.pointer (some ⟨b, 0, none⟩), .iface 90 (.agg #[tv a]), .bool fol] w _
 have HO : Hid (∀ W, IsWr B b (T ++ [33]) W → B ≤ W.heap.size → Tab W → Calls Tryz.prog 52 #[.pointer (some ⟨b, 0, none⟩), .iface k u, spotV 6 fol] W fun e w' => e = .returned (.tuple #[]) ∧ Wrote B b (T ++ [33]) (operX a 6 fol) W w') := fun W h1 h2 h4 => by
  have := HA 6 fol B b (T ++ [33]) W h1 h2 h3 h4 (by simp only [List.length_append, List.length_cons, List.length_nil]; omega)
  rwa [e] at this
 rw [e]
 have m0 := fun x W => ta139_miss 90 (by decide) (.agg #[.iface k u]) x W
 have m1 := fun x W => ta141_miss 90 (by decide) (.agg #[.iface k u]) x W
 have m2 := fun x W => ta90_hit (.agg #[.iface k u]) x W
 obtain ⟨WA, hWA⟩ : ∃ WA, WA = w.alloc (Obj.cells #[.iface k u] 90) := ⟨_, rfl⟩
 have hBA : Below w.heap.size w WA := by rw [hWA]; exact below_box _ _
 have r0 : WA.heap[w.heap.size]? = some (.cells #[.iface k u] 90 (0, 0)) := by rw [hWA]; exact heap_alloc_new w _
 have HP := hid (put_one B b T [33] WA (hw.on hBA) (by simp; omega) (Nat.le_trans hB hBA.size))
 have hbl := hw.lt
 have HR0 := hid r0
 have HBA := hid hBA
 have HWA := hid hWA
 have HTB := hid hT
 obtain ⟨X, hX⟩ : ∃ X, X = operX a 6 fol := ⟨_, rfl⟩
 rw [← hX] at HO ⊢
 clear hWA hBA r0 hT hw hX HX HA e hlen
 go_enter Tryz.func70, Tryz.ntmps70
 go_wp2_with (first
  | (rw [← HWA.out])
  | (go_at_call 71; refine HP.out.mono ?_; rintro e w1 ⟨rfl, q1⟩; have r1 := q1.box HR0.out (by omega) (by decide); have c1 := fun j => cell_row r1 j; have Q1 := hid (Wrote.grow HBA.out hB q1); have HC := hid (HO.out w1 Q1.out.is (Nat.le_trans hB Q1.out.low.size) (HTB.out.low Q1.out.low h3)); clear q1 r1)
  | (go_at_call 52; refine HC.out.mono ?_; rintro e w2 ⟨rfl, q2⟩; have Q2 := hid (Q1.out.trans q2); clear q2))
 go_end0
 exact ⟨rfl, Q2.out⟩

/-- the text of a quantifier's variable and of what it speaks of. -/
def boundX (o n : Int) (a : Tr) : List UInt8 := (varI n).1 ++ textOf (a.its o true)
def BoundC (o n : Int) (a : Tr) : Prop := ∀ (B b : Nat) (T : List UInt8) (w : World), IsWr B b T w → B ≤ w.heap.size → 5 ≤ B → Tab w → T.length + (boundX o n a).length ≤ 140737488355328 →
 Calls Tryz.prog 91 #[.pointer (some ⟨b, 0, none⟩), .agg #[.int .i64 o, .int .i64 n, tv a]] w fun e w' => e = .returned (.tuple #[]) ∧ Wrote B b T (boundX o n a) w w'
set_option maxHeartbeats 1000000 in
theorem bare_quant (o n : Int) (ho : o = 4 ∨ o = 5) (a : Tr) (HA : BoundC o n a) : BareC (.un (o, n) a) := by
 intro fol B b T w hw hB h3 hT hlen
 have HX : Hid (bareX (.un (o, n) a) fol = (quantT o ++ [32]) ++ boundX o n a) := by
  show textOf ((Tr.un (o, n) a).its 0 (!fol)) = _
  unfold boundX
  rcases ho with rfl | rfl
  ·(first | rw [Tr.its_un, if_pos (by rfl), if_neg (by simp)] | rw [Tr.its_bi, if_pos (by rfl), if_neg (by simp)] | rw [Tr.its_te, if_pos (by rfl), if_neg (by simp)] | rw [Tr.its_lf, if_pos (by rfl), if_neg (by simp)])
   simp [textOf, quantI, quantT, sepI]
  ·(first | rw [Tr.its_un, if_pos (by rfl), if_neg (by simp)] | rw [Tr.its_bi, if_pos (by rfl), if_neg (by simp)] | rw [Tr.its_te, if_pos (by rfl), if_neg (by simp)] | rw [Tr.its_lf, if_pos (by rfl), if_neg (by simp)])
   simp [textOf, quantI, quantT, sepI]
 rw [HX.out] at hlen ⊢
 have hq : (quantT o ++ [32]).length = 7 := by rcases ho with rfl | rfl <;> rfl
 rw [List.length_append, hq] at hlen
 obtain ⟨k, u, e⟩ := tv_form a
 have e1 : tv (.un (o, n) a) = .iface 92 (.agg #[.int .i64 o, .int .i64 n, .iface k u]) := by (first | rw [tv_un, if_neg (by simp; omega), e] | rw [tv_bi, if_neg (by simp; omega), e] | rw [tv_te, if_neg (by simp; omega), e] | rw [tv_lf, if_neg (by simp; omega), e])
 rw [e1]
 have HO : Hid (∀ W, IsWr B b (T ++ (quantT o ++ [32])) W → B ≤ W.heap.size → Tab W → Calls Tryz.prog 91 #[.pointer (some ⟨b, 0, none⟩), .agg #[.int .i64 o, .int .i64 n, .iface k u]] W fun e w' => e = .returned (.tuple #[]) ∧ Wrote B b (T ++ (quantT o ++ [32])) (boundX o n a) W w') := fun W h1 h2 h4 => by
  have := HA B b (T ++ (quantT o ++ [32])) W h1 h2 h3 h4 (by rw [List.length_append, hq]; omega)
  rwa [e] at this
 have m0 := fun x W => ta139_miss 92 (by decide) (.agg #[.int .i64 o, .int .i64 n, .iface k u]) x W
 have m1 := fun x W => ta141_miss 92 (by decide) (.agg #[.int .i64 o, .int .i64 n, .iface k u]) x W
 have m2 := fun x W => ta90_miss 92 (by decide) (.agg #[.int .i64 o, .int .i64 n, .iface k u]) x W
 have m3 := fun x W => ta92_hit (.agg #[.int .i64 o, .int .i64 n, .iface k u]) x W
 obtain ⟨WA, hWA⟩ : ∃ WA, WA = w.alloc (Obj.cells #[.int .i64 o, .int .i64 n, .iface k u] 92) := ⟨_, rfl⟩
 have hBA : Below w.heap.size w WA := by rw [hWA]; exact below_box _ _
 have r0 : WA.heap[w.heap.size]? = some (.cells #[.int .i64 o, .int .i64 n, .iface k u] 92 (0, 0)) := by rw [hWA]; exact heap_alloc_new w _
 have c0 := fun j => cell_row r0 j
 have HP := hid (put_two B b T (quantT o) [32] WA (hw.on hBA) (by rw [hq]; omega) (Nat.le_trans hB hBA.size))
 have HQ := hid (quant_any o ho WA)
 have hbl := hw.lt
 have HR0 := hid r0
 have HBA := hid hBA
 have HWA := hid hWA
 have HTB := hid hT
 obtain ⟨Z, hZ⟩ : ∃ Z, Z = quantT o := ⟨_, rfl⟩
 obtain ⟨X, hX⟩ : ∃ X, X = boundX o n a := ⟨_, rfl⟩
 rw [← hX, ← hZ] at HO ⊢
 rw [← hZ] at HP HQ
 clear hWA hBA r0 hT hw hX HX HA e e1 hlen hZ hq ho
 go_enter Tryz.func70, Tryz.ntmps70
 go_wp2_with (first
  | (rw [← HWA.out])
  | (go_at_call 90; refine HQ.out.mono ?_; rintro e w' ⟨rfl, rfl⟩)
  | (go_at_call 71; refine HP.out.mono ?_; rintro e w1 ⟨rfl, q1⟩; have r1 := q1.box HR0.out (by omega) (by decide); have c1 := fun j => cell_row r1 j; have Q1 := hid (Wrote.grow HBA.out hB q1); have HC := hid (HO.out w1 Q1.out.is (Nat.le_trans hB Q1.out.low.size) (HTB.out.low Q1.out.low h3)); clear q1 r1)
  | (go_at_call 91; refine HC.out.mono ?_; rintro e w2 ⟨rfl, q2⟩; have Q2 := hid (Q1.out.trans q2); clear q2))
 go_end0
 exact ⟨rfl, Q2.out⟩

end Go.Proofs.YtdkboifpdodonacGreatDoor
