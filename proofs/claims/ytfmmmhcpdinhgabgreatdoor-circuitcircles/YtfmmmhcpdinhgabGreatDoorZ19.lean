import Derived.Test.YtfmmmhcpdinhgabGreatDoorZ18
/-
  The words of a line: the document's.
-/
namespace Go.Proofs.YtfmmmhcpdinhgabGreatDoor
open Go.RowKit Go.Deep PureNet
set_option maxRecDepth 100000

/-- a table of sixteen words, in memory. -/
structure OpsAt (W : World) (b : Nat) (T : Nat → ByteArray) : Prop where
  pos : b < W.heap.size
  word : ∀ k : Nat, k < 16 → W.cell? ⟨b, k, none⟩ = some (.string (T k))
theorem OpsAt.on {w W : World} {b : Nat} {T : Nat → ByteArray} (h : OpsAt w b T) (hb : Below w.heap.size w W) : OpsAt W b T := ⟨Nat.lt_of_lt_of_le h.pos hb.size, fun k hk => (hb.cell (p := ⟨b, k, none⟩) h.pos).trans (h.word k hk)⟩
/-- a line's name. -/
def nmAt (c : Net) (k : Int) : ByteArray := ((c.gates[k.toNat]?).map Ga.name).getD ⟨#[]⟩
/-- a line's words. -/
def wordsT (T : Nat → ByteArray) (c : Net) (g : Ga) : ByteArray :=
  if g.kind = 2 then ⟨#[103, 97, 116, 101, 32]⟩ ++ g.name ++ ⟨#[32]⟩ ++ T g.op.toNat ++ ⟨#[32]⟩ ++ nmAt c g.a ++ ⟨#[32]⟩ ++ nmAt c g.b
  else if g.kind = 3 then ⟨#[108, 97, 116, 99, 104, 32]⟩ ++ g.name ++ (if g.op = 1 then ⟨#[32, 49, 32]⟩ else ⟨#[32, 48, 32]⟩) ++ nmAt c g.a
  else if g.kind = 4 then ⟨#[109, 117, 120, 32]⟩ ++ g.name ++ ⟨#[32]⟩ ++ nmAt c g.a ++ ⟨#[32]⟩ ++ nmAt c g.b ++ ⟨#[32]⟩ ++ nmAt c g.c
  else ⟨#[105, 110, 112, 117, 116, 32]⟩ ++ g.name
theorem nm_at {W : World} {c : Net} {sg : Option Addr} (h : CellsAt W sg (gas c.gates)) (k : Int) (h0 : 0 ≤ k) (h1 : k < (c.gates.length : Int)) : ∃ (n b o : Nat), k = (n : Int) ∧ n < c.gates.length ∧ sg = some ⟨b, o, none⟩ ∧ b < W.heap.size ∧ W.cell? ⟨b, o + n * 6 + 1, none⟩ = some (.string (nmAt c k)) := by
  obtain ⟨n, rfl⟩ := Int.eq_ofNat_of_zero_le h0
  obtain ⟨g, hg⟩ : ∃ g, c.gates[n]? = some g := ⟨_, List.getElem?_eq_getElem (by omega)⟩
  obtain ⟨b, o, e, hb, _, hn, _⟩ := gate_at h n g hg
  refine ⟨n, b, o, rfl, by omega, e, hb, ?_⟩
  rw [hn]
  simp [nmAt, hg]

theorem below_dn {B : Nat} {w x : World} (h : Below B w x) (n : Nat) : Below B w (x.drewN n) := ⟨h.os, h.tape, h.output, h.size, fun k hk => h.block k hk⟩
set_option maxHeartbeats 4000000 in
theorem rwords_any (T : Nat → ByteArray) (c : Net) (sg so : Option Addr) (cg co : Nat) (g : Ga) (w : World) (hc : CirAt w c sg so) (ht : OpsAt w 0 T) (hnm : g.name.size ≤ 140737488351232) (hna : ∀ k, (nmAt c k).size ≤ 140737488351232) (hop : ∀ k, (T k).size ≤ 140737488351232)
    (h2 : g.kind = 2 → 0 ≤ g.op ∧ g.op < 16) (ha : g.kind = 2 ∨ g.kind = 3 ∨ g.kind = 4 → 0 ≤ g.a ∧ g.a < (c.gates.length : Int)) (hb : g.kind = 2 ∨ g.kind = 4 → 0 ≤ g.b ∧ g.b < (c.gates.length : Int)) (hcc : g.kind = 4 → 0 ≤ g.c ∧ g.c < (c.gates.length : Int)) :
    Calls Tryz.prog 23 #[cirV c sg cg so co, .agg (#[Value.int .i64 g.kind, Value.string g.name, Value.int .i64 g.op, Value.int .i64 g.a, Value.int .i64 g.b, Value.int .i64 g.c] : Array Value)] w fun e w' => e = .returned (.string (wordsT T c g)) ∧ Below w.heap.size w w' := by
  obtain ⟨x, hx⟩ : ∃ x, x = (w.alloc (Obj.cells (#[Value.string c.name, Value.slice sg c.gates.length cg, Value.slice so c.outs.length co] : Array Value) 25)).alloc (Obj.cells (#[Value.int .i64 g.kind, Value.string g.name, Value.int .i64 g.op, Value.int .i64 g.a, Value.int .i64 g.b, Value.int .i64 g.c] : Array Value) 42) := ⟨_, rfl⟩
  have s1 : (w.alloc (Obj.cells (#[Value.string c.name, Value.slice sg c.gates.length cg, Value.slice so c.outs.length co] : Array Value) 25)).heap.size = w.heap.size + 1 := by simp
  have R1 : x.heap[w.heap.size]? = some (.cells (#[Value.string c.name, Value.slice sg c.gates.length cg, Value.slice so c.outs.length co] : Array Value) 25 (0, 0)) := by rw [hx, Below.heap_alloc _ _ _ (by omega)]; exact heap_alloc_new w _
  have R2 : x.heap[w.heap.size + 1]? = some (.cells (#[Value.int .i64 g.kind, Value.string g.name, Value.int .i64 g.op, Value.int .i64 g.a, Value.int .i64 g.b, Value.int .i64 g.c] : Array Value) 42 (0, 0)) := by rw [hx, ← s1]; exact heap_alloc_new _ _
  have BX : Hid (Below w.heap.size w x) := by rw [hx]; exact ((Below.refl _ _).alloc (Nat.le_refl _) _).alloc (by omega) _
  have d1 := fun j => cell_row R1 j
  have d2 := fun j => cell_row R2 j
  have hb1 := (Array.getElem?_eq_some_iff.1 R1).1
  have hb2 := (Array.getElem?_eq_some_iff.1 R2).1
  have HC := hid (hc.below BX.out)
  have HT := hid (ht.on BX.out)
  have HX := hid hx
  clear hx s1 R1 R2 hc ht
  obtain ⟨kd, nm, op, ga, gb, gc⟩ := g
  dsimp only at h2 ha hb hcc d2 HX hnm ⊢
  have NA := hid hna
  clear hna
  by_cases k2 : kd = 2
  · subst k2
    obtain ⟨na, b, o, rfl, la, rfl, hbb, ca⟩ := nm_at HC.out.gates ga (ha (.inl rfl)).1 (ha (.inl rfl)).2
    obtain ⟨nb, b', o', rfl, lb, e, _, cb⟩ := nm_at HC.out.gates gb (hb (.inl rfl)).1 (hb (.inl rfl)).2
    cases e
    obtain ⟨no, rfl⟩ := Int.eq_ofNat_of_zero_le (h2 rfl).1
    have lo : no < 16 := by have := (h2 rfl).2; omega
    have cw := HT.out.word no lo
    have hp2 := HT.out.pos
    have zo := hop no
    have za := NA.out (na : Int)
    have zb := NA.out (nb : Int)
    clear h2 ha hb hcc HT HC hop NA
    go_enter Tryz.func23, Tryz.ntmps23
    go_wp2_with (rw [← HX.out])
    go_quiet (fail)
    go_wp2
    go_ret
    exact ⟨rfl, below_dn BX.out _⟩
  by_cases k3 : kd = 3
  · subst k3
    obtain ⟨na, b, o, rfl, la, rfl, hbb, ca⟩ := nm_at HC.out.gates ga (ha (.inr (.inl rfl))).1 (ha (.inr (.inl rfl))).2
    have za := NA.out (na : Int)
    clear h2 ha hb hcc HT HC hop NA k2
    by_cases h1 : op = 1
    · subst h1
      go_enter Tryz.func23, Tryz.ntmps23
      go_wp2_with (rw [← HX.out])
      go_quiet (fail)
      go_wp2
      go_ret
      exact ⟨rfl, below_dn BX.out _⟩
    · have HW : Hid (wordsT T c ⟨3, nm, op, (na : Int), gb, gc⟩ = ⟨#[108, 97, 116, 99, 104, 32]⟩ ++ nm ++ ⟨#[32, 48, 32]⟩ ++ nmAt c (na : Int)) := by
        show _ = _
        unfold wordsT
        simp [h1]
      go_enter Tryz.func23, Tryz.ntmps23
      go_wp2_with (rw [← HX.out])
      go_quiet (fail)
      go_wp2
      go_ret
      exact ⟨by rw [HW.out]; rfl, below_dn BX.out _⟩
  by_cases k4 : kd = 4
  · subst k4
    obtain ⟨na, b, o, rfl, la, rfl, hbb, ca⟩ := nm_at HC.out.gates ga (ha (.inr (.inr rfl))).1 (ha (.inr (.inr rfl))).2
    obtain ⟨nb, b', o', rfl, lb, e, _, cb⟩ := nm_at HC.out.gates gb (hb (.inr rfl)).1 (hb (.inr rfl)).2
    cases e
    obtain ⟨nc, b', o', rfl, lc, e, _, cc⟩ := nm_at HC.out.gates gc (hcc rfl).1 (hcc rfl).2
    cases e
    have za := NA.out (na : Int)
    have zb := NA.out (nb : Int)
    have zc := NA.out (nc : Int)
    clear h2 ha hb hcc HT HC hop NA k2 k3
    go_enter Tryz.func23, Tryz.ntmps23
    go_wp2_with (rw [← HX.out])
    go_quiet (fail)
    go_wp2
    go_ret
    exact ⟨rfl, below_dn BX.out _⟩
  · have HW : Hid (wordsT T c ⟨kd, nm, op, ga, gb, gc⟩ = ⟨#[105, 110, 112, 117, 116, 32]⟩ ++ nm) := by
      show _ = _
      unfold wordsT
      simp [k2, k3, k4]
    clear h2 ha hb hcc HT HC hop NA
    go_enter Tryz.func23, Tryz.ntmps23
    go_wp2_with (rw [← HX.out])
    go_ret
    exact ⟨by rw [HW.out]; rfl, BX.out⟩
end Go.Proofs.YtfmmmhcpdinhgabGreatDoor
/-
  Bytes that a call owns: appends, and their text.
-/
namespace Go.Proofs.YtfmmmhcpdinhgabGreatDoor
open Go.RowKit Go.Deep PureNet
set_option maxRecDepth 100000

theorem info5 : (Tryz.prog.info? 5).map (fun i => (i.zero, i.size, i.bytes)) = some (some (.int .u8 0), 1, 1) := by kernel_rfl










end Go.Proofs.YtfmmmhcpdinhgabGreatDoor
/-
  strings.Builder a block of its own: copyCheck, WriteString, String.
-/
namespace Go.Proofs.YtfmmmhcpdinhgabGreatDoor
open Go.RowKit Go.Deep PureNet
set_option maxRecDepth 100000

theorem mixedD : Tryz.prog.follows Departure.mixedOrders = true := by kernel_rfl
theorem size106 : (Tryz.prog.info? 59).map (·.size) = some 2 := by kernel_rfl
theorem lies59 : liesAt Tryz.prog Tryz.prog.depth 59 (2 / Tryz.prog.cellsOf 59) 0 59 1 = true := by kernel_rfl
theorem cells5 : Tryz.prog.cellsOf 5 = 1 := by kernel_rfl

/-- a text in the making: the writer's box at b, its bytes from B on. -/
abbrev Wr (B b : Nat) (p : Value) (T : List UInt8) (w : World) : Prop := Lib.BuilderAtF 59 5 B b p (Lib.byteCells T) w

set_option maxHeartbeats 1000000 in
theorem check_fresh (b : Nat) (w : World) (h0 : w.cell? ⟨b, 0, none⟩ = some (.pointer none)) (hsh : w.shape? b = some (59, 2)) (hfz : w.frozen? ⟨b, 0, none⟩ = false) :
    Calls Tryz.prog 72 #[.pointer (some ⟨b, 0, none⟩)] w fun e w' => e = .returned (.tuple #[]) ∧ w' = w.setCell ⟨b, 0, none⟩ (.pointer (some ⟨b, 0, none⟩)) := by
  obtain ⟨j, hj, hjs⟩ := Option.map_eq_some_iff.1 size106
  go_enter Tryz.func72, Tryz.ntmps72
  go_wp2
  rw [Lib.run_to_unsafe w ⟨b, 0, none⟩ Tryz.underlying57 Tryz.underlying134 hj (by rw [hjs]; decide) hsh (Nat.zero_lt_succ 1)]
  simp only [Result.andThen]
  rw [Oper.upon_value]
  go_wp2
  rw [run_callFunc_extern Tryz.func91 (by kernel_rfl) (by kernel_rfl) (by kernel_rfl) (e := Extern.AbiNoEscape.same) (by kernel_rfl)]
  rw [Lib.run_noEscape]
  simp only [Result.andThen]
  rw [Oper.upon_value]
  go_wp2
  rw [Lib.run_from_unsafe w ⟨b, 0, none⟩ Tryz.underlying134 Tryz.underlying57 hj hsh lies59]
  simp only [Result.andThen]
  rw [Oper.upon_value]
  go_wp2
  go_end0
  exact ⟨rfl, rfl⟩

set_option maxHeartbeats 1000000 in
theorem check_used (b : Nat) (w : World) (h0 : w.cell? ⟨b, 0, none⟩ = some (.pointer (some ⟨b, 0, none⟩))) :
    Calls Tryz.prog 72 #[.pointer (some ⟨b, 0, none⟩)] w fun e w' => e = .returned (.tuple #[]) ∧ w' = w := by
  obtain ⟨j, hj, _⟩ := Option.map_eq_some_iff.1 size106
  go_enter Tryz.func72, Tryz.ntmps72
  go_wp2
  rw [Lib.run_neq_ptr_same w _ Tryz.underlying57 hj]
  go_wp2
  go_end0
  exact ⟨rfl, rfl⟩
/-- either of the two states of a builder. -/
abbrev IsWr (B b : Nat) (T : List UInt8) (w : World) : Prop := Lib.IsBuilderF 59 5 B b (Lib.byteCells T) w
theorem check_any (B b : Nat) (T : List UInt8) (w : World) (h : IsWr B b T w) :
    Calls Tryz.prog 72 #[.pointer (some ⟨b, 0, none⟩)] w fun e w' => e = .returned (.tuple #[]) ∧ Wr B b (.pointer (some ⟨b, 0, none⟩)) T w' ∧ Below B w w' ∧ Lib.OthersKept 5 (some b) w w' := by
  rcases h with h | h
  · refine (check_fresh b w h.cell0 h.shape h.frozen0).mono ?_
    rintro e w' ⟨rfl, rfl⟩
    exact ⟨rfl, h.used _, (Below.refl B w).setCell (p := ⟨b, 0, none⟩) h.1 _, (Lib.OthersKept.refl _ _ w).setCell ⟨b, 0, none⟩ rfl _⟩
  · refine (check_used b w h.cell0).mono ?_
    rintro e w' ⟨rfl, rfl⟩
    exact ⟨rfl, h, Below.refl B _, Lib.OthersKept.refl _ _ _⟩

set_option maxHeartbeats 1000000 in
theorem write_any (B b : Nat) (T : List UInt8) (X : List UInt8) (w : World) (h : IsWr B b T w) (hlen : T.length + X.length ≤ 140737488355328) (hBw : B ≤ w.heap.size) :
    Calls Tryz.prog 42 #[.pointer (some ⟨b, 0, none⟩), str X] w fun e w' => (∃ y, e = .returned y) ∧ IsWr B b (T ++ X) w' ∧ Below B w w' ∧ Lib.OthersKept 5 (some b) w w' := by
  obtain ⟨i0, hi, hz0, hz1, hz2⟩ := info_parts info5
  have HC := hid (check_any B b T w h)
  clear h
  go_enter Tryz.func42, Tryz.ntmps42
  go_wp2_with (go_at_call 72; refine HC.out.mono ?_)
  rintro e w1 ⟨rfl, h1, hb1, hk1⟩
  obtain ⟨hB, v, hbk, hown, hne⟩ := h1
  have hsz1 := hb1.size
  have c0 : w1.cell? ⟨b, 0, none⟩ = some (.pointer (some ⟨b, 0, none⟩)) := by rw [Lib.cell_of_heap hbk]; rfl
  have c1 : w1.cell? ⟨b, 1, none⟩ = some v := by rw [Lib.cell_of_heap hbk]; rfl
  rw [Lib.byteCells_length] at hown
  have HOW := hid hown
  have HNE := hid hne
  have HBK := hid hbk
  have HB1 := hid hb1
  have HK1 := hid hk1
  clear hown hne hbk hb1 hk1
  go_wp2_with (at_builtin; refine Lib.wpList_append_own_stringF _ rfl _ _ 38 9 rfl B 5 i0 Tryz.underlying38 Tryz.underlying9 hi hz0 hz1 hz2 _ _ _ rfl HOW.out ⟨X.toArray⟩ rfl ?c3 ?c4 ?c5 ?_)
  case c3 => show T.length + X.toArray.size ≤ maxLen; unfold maxLen; simp; omega
  case c4 => show T.length + X.toArray.size ≤ 140737488355328; simpa using hlen
  case c5 => omega
  intro v' w2 hown' hgrow _
  have hlt : b < w1.heap.size := (Array.getElem?_eq_some_iff.1 HBK.out).1
  have hb2 : w2.heap[b]? = some (.cells #[.pointer (some ⟨b, 0, none⟩), v] 59 (0, 0)) := by
    rw [hgrow.block b hlt (fun e => HNE.out e.symm)]
    exact HBK.out
  have d0 : w2.cell? ⟨b, 0, none⟩ = some (.pointer (some ⟨b, 0, none⟩)) := by rw [Lib.cell_of_heap hb2]; rfl
  have d1 : w2.cell? ⟨b, 1, none⟩ = some v := by rw [Lib.cell_of_heap hb2]; rfl
  have f1 : w2.frozen? ⟨b, 1, none⟩ = false := Lib.frozen_of_heap hb2 1
  obtain ⟨ao, n', cap, rfl⟩ : ∃ ao n' cap, v' = .slice ao n' cap := by
    rcases hown'.2 with ⟨hv, _⟩ | ⟨g, cap, cur, fz, hv, _⟩
    · exact ⟨_, _, _, hv⟩
    · exact ⟨_, _, _, hv⟩
  have FIN : Hid (IsWr B b (T ++ X) (w2.setCell ⟨b, 1, none⟩ (.slice ao n' cap)) ∧ Below B w (w2.setCell ⟨b, 1, none⟩ (.slice ao n' cap)) ∧ Lib.OthersKept 5 (some b) w (w2.setCell ⟨b, 1, none⟩ (.slice ao n' cap))) := by
    refine ⟨.inr ?_, (HB1.out.grown hgrow (by omega) (fun k hk => (HOW.out.lt k hk).1)).setCell (p := ⟨b, 1, none⟩) hB _, (HK1.out.grown hgrow (Lib.ownsRowF_kind HOW.out)).setCell ⟨b, 1, none⟩ rfl _⟩
    have e : Lib.byteCells (T ++ X) = Lib.byteCells T ++ Lib.strCells ⟨X.toArray⟩ := by rw [Lib.byteCells_append]; rfl
    refine Lib.BuilderAtF.put (T := 59) (e := 5) hB hb2 (bs' := Lib.byteCells (T ++ X)) ?_ (by decide)
    have el : (Lib.byteCells T ++ Lib.strCells ⟨X.toArray⟩).length = T.length + (⟨X.toArray⟩ : ByteArray).size := by rw [List.length_append, Lib.byteCells_length, Lib.strCells_length]
    rw [e, el]
    exact hown'
  clear hown' hgrow hb2
  go_wp2
  go_ret2
  exact ⟨⟨_, rfl⟩, FIN.out⟩

set_option maxHeartbeats 1000000 in
theorem byte_any (B b : Nat) (T : List UInt8) (x : UInt8) (w : World) (h : IsWr B b T w) (hlen : T.length + 1 ≤ 140737488355328) (hBw : B ≤ w.heap.size) :
    Calls Tryz.prog 41 #[.pointer (some ⟨b, 0, none⟩), .int .u8 x.toNat] w fun e w' => (∃ y, e = .returned y) ∧ IsWr B b (T ++ [x]) w' ∧ Below B w w' ∧ Lib.OthersKept 5 (some b) w w' := by
  obtain ⟨i0, hi, hz0, hz1, hz2⟩ := info_parts info5
  have HC := hid (check_any B b T w h)
  clear h
  go_enter Tryz.func41, Tryz.ntmps41
  go_wp2_with (go_at_call 72; refine HC.out.mono ?_)
  rintro e w1 ⟨rfl, h1, hb1, hk1⟩
  obtain ⟨hB, v, hbk, hown, hne⟩ := h1
  have hsz1 := hb1.size
  have c0 : w1.cell? ⟨b, 0, none⟩ = some (.pointer (some ⟨b, 0, none⟩)) := by rw [Lib.cell_of_heap hbk]; rfl
  have c1 : w1.cell? ⟨b, 1, none⟩ = some v := by rw [Lib.cell_of_heap hbk]; rfl
  rw [Lib.byteCells_length] at hown
  obtain ⟨w2, hw2⟩ : ∃ w2, w2 = w1.alloc (.cells #[.int .u8 x.toNat] 5) := ⟨_, rfl⟩
  have hlt : b < w1.heap.size := (Array.getElem?_eq_some_iff.1 hbk).1
  have hg12 : w1.grownBy w2 none := by rw [hw2]; exact ⟨rfl, rfl, rfl, by simp, fun k hk _ => heap_alloc_old w1 _ hk⟩
  have hown2 : w2.ownsRowF B 5 1 v T.length (Lib.byteCells T) := hown.kept hg12 (by cases hv : v.ownBlock with
    | none => exact .inl rfl
    | some k => exact .inr (by simp))
  have hrow : w2.heap[w1.heap.size]? = some (.cells #[.int .u8 x.toNat] 5 (0, 0)) := by rw [hw2]; exact heap_alloc_new w1 _
  have hbk2 : w2.heap[b]? = some (.cells #[.pointer (some ⟨b, 0, none⟩), v] 59 (0, 0)) := (hg12.block b hlt (by simp)).trans hbk
  have hs2 : w2.heap.size = w1.heap.size + 1 := by rw [hw2]; simp
  have HW2 := hid hw2
  have HOW := hid hown2
  have HNE := hid hne
  have HBK := hid hbk2
  have HRW := hid hrow
  have HB1 : Hid (Below B w w2) := hb1.grown hg12 (by omega) (fun k hk => by cases hk)
  have HK1 : Hid (Lib.OthersKept 5 (some b) w w2) := by rw [hw2]; exact hk1.alloc _
  clear hown hown2 hne hbk hbk2 hb1 hk1 hrow hg12 hw2
  go_wp2_with (at_builtin; rw [← HW2.out]; refine wpList_append_ownF _ rfl _ _ 38 rfl B 5 i0 (.int .u8 0) 1 1 Tryz.underlying38 hi hz0 hz1 hz2 rfl (by decide) _ _ _ rfl HOW.out ⟨w1.heap.size, 0, none⟩ 1 1 [.int .u8 x.toNat] rfl rfl ?c1 ?c2 ?c3 ?c4 ?c5 ?_)
  case c1 =>
    intro j u hj
    rw [add_zero_addr, cell_row HRW.out]
    simpa using hj
  case c2 =>
    intro u hu
    simp only [List.mem_singleton] at hu
    subst hu
    rfl
  case c3 => unfold maxLen; omega
  case c4 => omega
  case c5 => omega
  intro v' w3 hown' hgrow _
  have hb2 : w3.heap[b]? = some (.cells #[.pointer (some ⟨b, 0, none⟩), v] 59 (0, 0)) := by
    rw [hgrow.block b (by omega) (fun e => HNE.out e.symm)]
    exact HBK.out
  have d0 : w3.cell? ⟨b, 0, none⟩ = some (.pointer (some ⟨b, 0, none⟩)) := by rw [Lib.cell_of_heap hb2]; rfl
  have d1 : w3.cell? ⟨b, 1, none⟩ = some v := by rw [Lib.cell_of_heap hb2]; rfl
  have f1 : w3.frozen? ⟨b, 1, none⟩ = false := Lib.frozen_of_heap hb2 1
  obtain ⟨ao, n', cap, rfl⟩ : ∃ ao n' cap, v' = .slice ao n' cap := by
    rcases hown'.2 with ⟨hv, _⟩ | ⟨g, cap, cur, fz, hv, _⟩
    · exact ⟨_, _, _, hv⟩
    · exact ⟨_, _, _, hv⟩
  have FIN : Hid (IsWr B b (T ++ [x]) (w3.setCell ⟨b, 1, none⟩ (.slice ao n' cap)) ∧ Below B w (w3.setCell ⟨b, 1, none⟩ (.slice ao n' cap)) ∧ Lib.OthersKept 5 (some b) w (w3.setCell ⟨b, 1, none⟩ (.slice ao n' cap))) := by
    refine ⟨.inr ?_, (HB1.out.grown hgrow (by omega) (fun k hk => (HOW.out.lt k hk).1)).setCell (p := ⟨b, 1, none⟩) hB _, (HK1.out.grown hgrow (Lib.ownsRowF_kind HOW.out)).setCell ⟨b, 1, none⟩ rfl _⟩
    have e : Lib.byteCells (T ++ [x]) = Lib.byteCells T ++ [.int .u8 x.toNat] := by rw [Lib.byteCells_append]; rfl
    refine Lib.BuilderAtF.put (T := 59) (e := 5) hB hb2 (bs' := Lib.byteCells (T ++ [x])) ?_ (by decide)
    have el : (Lib.byteCells T ++ [Value.int .u8 x.toNat]).length = T.length + 1 := by rw [List.length_append, Lib.byteCells_length]; rfl
    rw [e, el]
    exact hown'
  clear hown' hgrow hb2
  go_wp2
  go_ret
  exact ⟨⟨_, rfl⟩, FIN.out⟩

set_option maxHeartbeats 1000000 in
theorem string_any (B b : Nat) (T : List UInt8) (w : World) (h : IsWr B b T w) (h0 : T ≠ []) :
    Calls Tryz.prog 26 #[.pointer (some ⟨b, 0, none⟩)] w fun e w' => e = .returned (str T) ∧ Below B w w' := by
  obtain ⟨p, hB, v, hbk, hown, hne⟩ : ∃ p, Wr B b p T w := by
    rcases h with h | h
    · exact ⟨_, h⟩
    · exact ⟨_, h⟩
  have hl0 : T.length ≠ 0 := by simpa using h0
  rw [Lib.byteCells_length] at hown
  obtain ⟨g, cap, cur, fz, rfl, hbg, hg, hfz, hnc, hcm, hcs, htake⟩ : ∃ g cap cur fz, v = .slice (some ⟨g, 0, none⟩) T.length cap ∧ B ≤ g ∧ w.heap[g]? = some (.cells cur 5 fz) ∧ fz.2 ≤ T.length * 1 ∧ T.length ≤ cap ∧ cap ≤ maxLen ∧ cur.size = cap * 1 ∧ cur.toList.take (T.length * 1) = Lib.byteCells T := by
    rcases hown.2 with ⟨_, hz⟩ | ⟨g, cap, cur, fz, hv, r⟩
    · exact absurd hz hl0
    · exact ⟨g, cap, cur, fz, hv, r⟩
  have c1 : w.drew.cell? ⟨b, 1, none⟩ = some (.slice (some ⟨g, 0, none⟩) T.length cap) := by
    have : w.drew.heap[b]? = some (.cells #[p, .slice (some ⟨g, 0, none⟩) T.length cap] 59 (0, 0)) := hbk
    rw [Lib.cell_of_heap this]; rfl
  have hSD : (Builtin.unsafeSliceData_ #[38] 94 #[.slice (some ⟨g, 0, none⟩) T.length cap]).run Tryz.prog w.drew = .ok (.pointer (some ⟨g, 0, none⟩)) w.drew :=
    Lib.run_unsafeSliceData_row _ _ _ _ _ _ (by omega)
  have hUS : (Builtin.unsafeString_ #[94, 3] 9 #[.pointer (some ⟨g, 0, none⟩), .int .i64 T.length]).run Tryz.prog w.drew = .ok (.string ⟨T.toArray⟩) (w.drew.freeze ⟨g, 0, none⟩ T.length) := by
    refine Lib.run_unsafeString_row w.drew 94 3 9 5 Tryz.underlying94 cells5 g cur.size (by have hg' : w.drew.heap[g]? = some (.cells cur 5 fz) := hg; simp [World.shape?, hg']) T h0 (by omega) (by unfold maxLen at hcm; omega) ?_
    intro j x hx
    have := hown.cells (g := g) rfl j (.int .u8 x.toNat) (by simp [Lib.byteCells, hx])
    exact this
  have mixed := mixedD
  have HF := hid (Lib.below_freeze (Below.drew (Below.refl B w)) (p := ⟨g, 0, none⟩) hbg T.length)
  clear hown hne hbk hg htake hfz hcm hcs hB h
  go_enter Tryz.func26, Tryz.ntmps26
  go_wp2
  go_region_o
  all_goals (go_wp2; go_ret; exact ⟨rfl, HF.out⟩)
end Go.Proofs.YtfmmmhcpdinhgabGreatDoor
/-
  The landed put: a line of the text, its words with a blank between.
-/
namespace Go.Proofs.YtfmmmhcpdinhgabGreatDoor
open Go.RowKit Go.Deep PureNet
set_option maxRecDepth 100000

/-- words with a blank between. -/
def sepT : List (List UInt8) → List UInt8
  | [] => []
  | a :: t => a ++ t.flatMap (fun x => 32 :: x)
theorem sep_append (a b : List (List UInt8)) (ha : a ≠ []) : sepT (a ++ b) = sepT a ++ b.flatMap (fun x => 32 :: x) := by
  cases a with
  | nil => exact absurd rfl ha
  | cons x t => simp [sepT]
theorem sep_first (ws : List (List UInt8)) (x : List UInt8) (h : ws[0]? = some x) : sepT (ws.take 1) = x := by
  cases ws with
  | nil => simp at h
  | cons a t => simp at h; subst h; simp [sepT]
theorem sep_more (ws : List (List UInt8)) (i : Nat) (hi : 0 < i) (x : List UInt8) (h : ws[i]? = some x) : sepT (ws.take (i + 1)) = sepT (ws.take i) ++ [32] ++ x := by
  have hl := (List.getElem?_eq_some_iff.1 h).1
  rw [List.take_add_one, h, sep_append _ _ (by intro e; rw [List.take_eq_nil_iff] at e; rcases e with e | e; omega; rw [e] at hl; simp at hl)]
  simp
theorem sep_le (ws : List (List UInt8)) (i : Nat) (hi : 0 < i) (h0 : ws ≠ []) : (sepT (ws.take i)).length ≤ (sepT ws).length := by
  have h := sep_append (ws.take i) (ws.drop i) (by intro e; rw [List.take_eq_nil_iff] at e; rcases e with e | e; omega; exact h0 e)
  rw [List.take_append_drop] at h
  rw [h, List.length_append]
  omega

/-- words in memory. -/
structure WordsAt (W : World) (g : Nat) (ws : List (List UInt8)) : Prop where
  row : ∃ cur fz, W.heap[g]? = some (.cells cur 9 fz) ∧ ∀ (j : Nat) (x : List UInt8), ws[j]? = some x → cur[j]? = some (str x)
theorem WordsAt.kept {w W : World} {g b : Nat} {ws : List (List UInt8)} (h : WordsAt w g ws) (hk : Lib.OthersKept 5 (some b) w W) (hgb : g ≠ b) : WordsAt W g ws := by
  obtain ⟨cur, fz, hg, hc⟩ := h.row
  exact ⟨cur, fz, hk g _ hg (fun e => hgb (Option.some.inj e)) (fun c fz e => by cases e), hc⟩
theorem WordsAt.at {W : World} {g : Nat} {ws : List (List UInt8)} (h : WordsAt W g ws) (j : Nat) (x : List UInt8) (hx : ws[j]? = some x) : g < W.heap.size ∧ W.cell? ⟨g, j, none⟩ = some (str x) := by
  obtain ⟨cur, fz, hg, hc⟩ := h.row
  exact ⟨(Array.getElem?_eq_some_iff.1 hg).1, (cell_row hg j).trans (hc j x hx)⟩

set_option maxHeartbeats 4000000 in
theorem put_any (B b g c : Nat) (T : List UInt8) (ws : List (List UInt8)) (w : World) (h : IsWr B b T w) (hw : WordsAt w g ws) (hgb : g ≠ b) (h0 : ws ≠ []) (hn : ws.length ≤ 1099511627776) (hlen : T.length + (sepT ws).length + 1 ≤ 140737488355328) (hBw : B ≤ w.heap.size) :
    Calls Tryz.prog 24 #[.pointer (some ⟨b, 0, none⟩), .slice (some ⟨g, 0, none⟩) ws.length c] w fun e w' => (∃ y, e = .returned y) ∧ IsWr B b (T ++ sepT ws ++ [10]) w' ∧ Below B w w' ∧ Lib.OthersKept 5 (some b) w w' := by
  have HB := hid (fun (X : List UInt8) (x : UInt8) (W : World) (a1 : IsWr B b X W) (a2 : X.length + 1 ≤ 140737488355328) (a3 : B ≤ W.heap.size) => byte_any B b X x W a1 a2 a3)
  have HW := hid (fun (X Y : List UInt8) (W : World) (a1 : IsWr B b X W) (a2 : X.length + Y.length ≤ 140737488355328) (a3 : B ≤ W.heap.size) => write_any B b X Y W a1 a2 a3)
  have H0 : Hid (IsWr B b (T ++ sepT (ws.take 0)) w ∧ Below B w w ∧ Lib.OthersKept 5 (some b) w w ∧ WordsAt w g ws) := ⟨by simpa [sepT] using h, Below.refl _ _, Lib.OthersKept.refl _ _ _, hw⟩
  have HN0 := hid h0
  have HL := hid hlen
  clear h hw h0 hlen
  go_enter Tryz.func24, Tryz.ntmps24
  go_wp2
  go_loopw [8] (fun iv W => ∃ i : Nat, i ≤ ws.length ∧ iv = .int .i64 (i : Int) ∧ Hid (IsWr B b (T ++ sepT (ws.take i)) W ∧ Below B w W ∧ Lib.OthersKept 5 (some b) w W ∧ WordsAt W g ws)) (fun iv _ => ws.length - (intOf iv).toNat)
  case atStart => exact ⟨0, Nat.zero_le _, rfl, H0.out⟩
  case round =>
    obtain ⟨i, hi, rfl, HR⟩ := hrel
    clear H0
    have hsz := HR.out.2.1.size
    by_cases hlt : i < ws.length
    · obtain ⟨x, hx⟩ : ∃ x, ws[i]? = some x := ⟨_, List.getElem?_eq_getElem hlt⟩
      obtain ⟨hgl, hc0⟩ := HR.out.2.2.2.at i x hx
      have hle := sep_le ws (i + 1) (by omega) HN0.out
      by_cases hi0 : i = 0
      · subst hi0
        have HS := hid (sep_first ws x hx)
        have HE : Hid (T ++ sepT (ws.take 1) = (T ++ sepT (ws.take 0)) ++ x) := by
          show _ = _
          rw [HS.out]
          simp [sepT]
        have HC := hid (HW.out (T ++ sepT (ws.take 0)) x wr HR.out.1 (by have := congrArg List.length HE.out; have := HL.out; simp only [List.length_append] at *; simp only [Nat.zero_add] at hle; omega) (by omega))
        clear hx hle
        go_wp2_with (go_at_call 42; refine HC.out.mono ?_)
        rintro e w2 ⟨⟨y, rfl⟩, k1, k2, k3⟩
        have HF : Hid (IsWr B b (T ++ sepT (ws.take (0 + 1))) w2 ∧ Below B w w2 ∧ Lib.OthersKept 5 (some b) w w2 ∧ WordsAt w2 g ws) := ⟨by rw [Nat.zero_add, HE.out]; exact k1, HR.out.2.1.trans k2, HR.out.2.2.1.trans k3, HR.out.2.2.2.kept k3 hgb⟩
        clear k1 k2 k3 HR HC HE HS
        go_wp2
        exact ⟨⟨0 + 1, hlt, by go_num, HF.out⟩, by simp [intOf]; omega⟩
      · have HE : Hid (T ++ sepT (ws.take (i + 1)) = (T ++ sepT (ws.take i) ++ [32]) ++ x) := by
          show _ = _
          rw [sep_more ws i (by omega) x hx]
          simp
        have hE2 := congrArg List.length HE.out
        have HC := hid (HB.out (T ++ sepT (ws.take i)) 32 wr HR.out.1 (by have := HL.out; simp only [List.length_append, List.length_cons, List.length_nil] at *; omega) (by omega))
        have HC2 : Hid (∀ W, IsWr B b (T ++ sepT (ws.take i) ++ [32]) W → B ≤ W.heap.size → Calls Tryz.prog 42 #[.pointer (some ⟨b, 0, none⟩), str x] W fun e w' => (∃ y, e = .returned y) ∧ IsWr B b (T ++ sepT (ws.take i) ++ [32] ++ x) w' ∧ Below B W w' ∧ Lib.OthersKept 5 (some b) W w') := fun W a1 a2 => HW.out _ x W a1 (by have := HL.out; simp only [List.length_append, List.length_cons, List.length_nil] at *; omega) a2
        clear hx hle hE2
        go_wp2_with (go_at_call 41; refine HC.out.mono ?_)
        rintro e w2 ⟨⟨y, rfl⟩, k1, k2, k3⟩
        have hs2 := k2.size
        have HC3 := hid (HC2.out w2 k1 (by omega))
        have HK2 := hid k2
        have HK3 := hid k3
        clear k1 k2 k3 HC HC2
        go_wp2_with (go_at_call 42; refine HC3.out.mono ?_)
        rintro e w3 ⟨⟨y, rfl⟩, k1, k2, k3⟩
        have HF : Hid (IsWr B b (T ++ sepT (ws.take (i + 1))) w3 ∧ Below B w w3 ∧ Lib.OthersKept 5 (some b) w w3 ∧ WordsAt w3 g ws) := ⟨by rw [HE.out]; exact k1, (HR.out.2.1.trans HK2.out).trans k2, (HR.out.2.2.1.trans HK3.out).trans k3, (HR.out.2.2.2.kept HK3.out hgb).kept k3 hgb⟩
        clear k1 k2 k3 HR HE HC3 HK2 HK3
        go_wp2
        exact ⟨⟨i + 1, hlt, by go_num, HF.out⟩, by simp [intOf]; omega⟩
    · have hie : i = ws.length := by omega
      have HF : Hid (IsWr B b (T ++ sepT ws) wr) := by
        have h := HR.out.1
        rw [hie, List.take_length] at h
        exact h
      have HC := hid (HB.out (T ++ sepT ws) 10 wr HF.out (by have := HL.out; simp only [List.length_append] at *; omega) (by omega))
      subst hie
      go_wp2_with (go_at_call 41; refine HC.out.mono ?_)
      rintro e w2 ⟨⟨y, rfl⟩, k1, k2, k3⟩
      have HZ : Hid (IsWr B b (T ++ sepT ws ++ [10]) w2 ∧ Below B w w2 ∧ Lib.OthersKept 5 (some b) w w2) := ⟨k1, HR.out.2.1.trans k2, HR.out.2.2.1.trans k3⟩
      clear k1 k2 k3 HR HC HF
      go_wp2
      first | go_end0 | refine bodyPost_end (results_none rfl _ _ _) rfl ?_
      exact ⟨⟨_, rfl⟩, HZ.out⟩
end Go.Proofs.YtfmmmhcpdinhgabGreatDoor
/-
  strconv.Itoa of 0 and 1.
-/
namespace Go.Proofs.YtfmmmhcpdinhgabGreatDoor
open Go.RowKit Go.Deep PureNet
set_option maxRecDepth 100000

set_option maxHeartbeats 1000000 in
theorem small_0 (w : World) : Calls Tryz.prog 104 #[.int .i64 0] w fun e w' => e = .returned (str [48]) ∧ w' = w := by
  go_enter Tryz.func104, Tryz.ntmps104
  go_wp2
  go_ret
  exact ⟨rfl, rfl⟩
set_option maxHeartbeats 1000000 in
theorem small_1 (w : World) : Calls Tryz.prog 104 #[.int .i64 1] w fun e w' => e = .returned (str [49]) ∧ w' = w := by
  go_enter Tryz.func104, Tryz.ntmps104
  go_wp2
  go_ret
  exact ⟨rfl, rfl⟩
set_option maxHeartbeats 1000000 in
theorem format_0 (w : World) : Calls Tryz.prog 92 #[.int .i64 0, .int .i64 10] w fun e w' => e = .returned (str [48]) ∧ w' = w := by
  have H := hid (small_0 w)
  go_enter Tryz.func92, Tryz.ntmps92
  go_wp2_with (go_at_call 104; refine H.out.mono ?_; rintro e w' ⟨rfl, rfl⟩)
  go_ret
  exact ⟨rfl, rfl⟩
set_option maxHeartbeats 1000000 in
theorem format_1 (w : World) : Calls Tryz.prog 92 #[.int .i64 1, .int .i64 10] w fun e w' => e = .returned (str [49]) ∧ w' = w := by
  have H := hid (small_1 w)
  go_enter Tryz.func92, Tryz.ntmps92
  go_wp2_with (go_at_call 104; refine H.out.mono ?_; rintro e w' ⟨rfl, rfl⟩)
  go_ret
  exact ⟨rfl, rfl⟩
theorem itoa_0 (w : World) : Calls Tryz.prog 43 #[.int .i64 0] w fun e w' => e = .returned (str [48]) ∧ w' = w := by
  have H1 : Hid (Calls Tryz.prog 73 #[.int .i64 0] w fun e w' => e = .returned (str [48]) ∧ w' = w) := by
    have H := hid (format_0 w)
    show Calls _ _ _ _ _
    go_enter Tryz.func73, Tryz.ntmps73
    go_wp2_with (go_at_call 92; refine H.out.mono ?_; rintro e w' ⟨rfl, rfl⟩)
    go_ret
    exact ⟨rfl, rfl⟩
  go_enter Tryz.func43, Tryz.ntmps43
  go_wp2_with (go_at_call 73; refine H1.out.mono ?_; rintro e w' ⟨rfl, rfl⟩)
  go_ret
  exact ⟨rfl, rfl⟩
theorem itoa_1 (w : World) : Calls Tryz.prog 43 #[.int .i64 1] w fun e w' => e = .returned (str [49]) ∧ w' = w := by
  have H1 : Hid (Calls Tryz.prog 73 #[.int .i64 1] w fun e w' => e = .returned (str [49]) ∧ w' = w) := by
    have H := hid (format_1 w)
    show Calls _ _ _ _ _
    go_enter Tryz.func73, Tryz.ntmps73
    go_wp2_with (go_at_call 92; refine H.out.mono ?_; rintro e w' ⟨rfl, rfl⟩)
    go_ret
    exact ⟨rfl, rfl⟩
  go_enter Tryz.func43, Tryz.ntmps43
  go_wp2_with (go_at_call 73; refine H1.out.mono ?_; rintro e w' ⟨rfl, rfl⟩)
  go_ret
  exact ⟨rfl, rfl⟩
end Go.Proofs.YtfmmmhcpdinhgabGreatDoor
