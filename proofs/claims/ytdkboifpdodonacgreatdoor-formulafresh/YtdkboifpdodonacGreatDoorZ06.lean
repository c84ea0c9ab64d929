import Derived.Test.YtdkboifpdodonacGreatDoorZ05
set_option linter.unusedSimpArgs false
/-
 The landed program's operands: how many a node has, and whether its numbers fit.
-/
namespace Go.Proofs.YtdkboifpdodonacGreatDoor
open Go.RowKit Go.Deep PureCnf PureForm
set_option maxRecDepth 100000

/-- how many operands a node has. -/
def arI (o : Int) : Nat := if o = 3 ∨ o = 4 ∨ o = 5 then 1 else if 6 ≤ o ∧ o ≤ 10 then 2 else if o = 11 then 3 else 0
def isV (n : Int) : Bool := decide (0 ≤ n ∧ n < 65536)

theorem isVar_any (n : Int) (w : World) : Calls Tryz.prog 67 #[.int .i64 n] w fun e w' => e = .returned (.bool (isV n)) ∧ w' = w := by
 unfold isV
 by_cases h : 0 ≤ n
 ·by_cases h2 : n < 65536
  ·rw [decide_eq_true (And.intro h h2)]
   go_enter Tryz.func67, Tryz.ntmps67
   go_wp2
   go_ret
   exact ⟨rfl, rfl⟩
  ·rw [decide_eq_false (fun q => h2 q.2)]
   go_enter Tryz.func67, Tryz.ntmps67
   go_wp2
   go_ret
   exact ⟨rfl, rfl⟩
 ·rw [decide_eq_false (fun q => h q.1)]
  go_enter Tryz.func67, Tryz.ntmps67
  go_wp2
  go_ret
  exact ⟨rfl, rfl⟩

/-- a node, as the program holds it. -/
abbrev ndV (x : Nd) : Value := .agg #[.int .i64 x.1, .int .i64 x.2]
abbrev OpsSays (o n : Int) (w : World) : Prop := Calls Tryz.prog 49 #[.agg #[.int .i64 o, .int .i64 n]] w fun e w' => e = .returned (.tuple #[.int .i64 (arI o : Nat), .bool (nodeB (o, n))]) ∧ Below w.heap.size w w'

set_option maxHeartbeats 1000000 in
theorem ops_const (n : Int) (w : World) : OpsSays 1 n w := by
 obtain ⟨WA, hWA⟩ : ∃ WA, WA = w.alloc (Obj.cells #[.int .i64 1, .int .i64 n] 44) := ⟨_, rfl⟩
 have hB : Below w.heap.size w WA := by rw [hWA]; exact below_box _ _
 have r0 : WA.heap[w.heap.size]? = some (.cells #[.int .i64 1, .int .i64 n] 44 (0, 0)) := by rw [hWA]; exact heap_alloc_new w _
 have c0 := fun j => cell_row r0 j
 have HWA := hid hWA
 have HB := hid hB
 clear hWA hB r0
 have HG : Hid (nodeB (1, n) = (decide (n = 0) || decide (n = 1))) := by show _ = _; simp [nodeB]
 by_cases h0 : n = 0
 ·subst h0
  go_enter Tryz.func49, Tryz.ntmps49
  go_wp2_with (rw [← HWA.out])
  go_quiet (fail)
  go_wp2
  rw [HG.out]
  exact bodyPost_ret (v := .tuple #[.int .i64 0, .bool true]) (by simp [results, Tryz.results49, go_sem]) rfl ⟨rfl, Below.drewN' HB.out nq⟩
 ·have h1 : (n == 0) = false := by simpa using h0
  go_enter Tryz.func49, Tryz.ntmps49
  go_wp2_with (rw [← HWA.out])
  go_quiet (fail)
  go_wp2
  rw [HG.out]
  have h2 : (decide (n = 0) || decide (n = 1)) = (n == 1) := by rw [decide_eq_false h0, Bool.false_or]; rfl
  rw [h2]
  exact bodyPost_ret (v := .tuple #[.int .i64 0, .bool (n == 1)]) (by simp [results, Tryz.results49, go_sem]) rfl ⟨rfl, Below.drewN' HB.out nq⟩
set_option maxHeartbeats 1000000 in
theorem ops_var (o : Int) (ho : o = 2 ∨ o = 4 ∨ o = 5) (n : Int) (w : World) : OpsSays o n w := by
 obtain ⟨WA, hWA⟩ : ∃ WA, WA = w.alloc (Obj.cells #[.int .i64 o, .int .i64 n] 44) := ⟨_, rfl⟩
 have hB : Below w.heap.size w WA := by rw [hWA]; exact below_box _ _
 have r0 : WA.heap[w.heap.size]? = some (.cells #[.int .i64 o, .int .i64 n] 44 (0, 0)) := by rw [hWA]; exact heap_alloc_new w _
 have c0 := fun j => cell_row r0 j
 have HV := fun W => hid (isVar_any n W)
 have HWA := hid hWA
 have HB := hid hB
 have HG : Hid (nodeB (o, n) = isV n) := by show _ = _; rcases ho with rfl | rfl | rfl <;> simp [nodeB, isV]
 clear hWA hB r0
 unfold OpsSays
 rw [HG.out]
 rcases ho with rfl | rfl | rfl
 all_goals
  go_enter Tryz.func49, Tryz.ntmps49
  go_wp2_with (first | (rw [← HWA.out]) | (go_at_call 67; refine (HV _).out.mono ?_; rintro e w' ⟨rfl, rfl⟩))
  exact bodyPost_ret (v := .tuple #[.int .i64 (arI _ : Nat), .bool (isV n)]) (by simp [results, Tryz.results49, go_sem, arI]) rfl ⟨rfl, HB.out⟩
set_option maxHeartbeats 2000000 in
theorem ops_zero (o : Int) (ho : o = 3 ∨ o = 6 ∨ o = 7 ∨ o = 8 ∨ o = 9 ∨ o = 10 ∨ o = 11) (n : Int) (w : World) : OpsSays o n w := by
 obtain ⟨WA, hWA⟩ : ∃ WA, WA = w.alloc (Obj.cells #[.int .i64 o, .int .i64 n] 44) := ⟨_, rfl⟩
 have hB : Below w.heap.size w WA := by rw [hWA]; exact below_box _ _
 have r0 : WA.heap[w.heap.size]? = some (.cells #[.int .i64 o, .int .i64 n] 44 (0, 0)) := by rw [hWA]; exact heap_alloc_new w _
 have c0 := fun j => cell_row r0 j
 have HWA := hid hWA
 have HB := hid hB
 have HG : Hid (nodeB (o, n) = (n == 0)) := by show _ = _; rcases ho with rfl | rfl | rfl | rfl | rfl | rfl | rfl <;> simp [nodeB] <;> rfl
 clear hWA hB r0
 unfold OpsSays
 rw [HG.out]
 rcases ho with rfl | rfl | rfl | rfl | rfl | rfl | rfl
 all_goals
  go_enter Tryz.func49, Tryz.ntmps49
  go_wp2_with (rw [← HWA.out])
  go_quiet (fail)
  go_wp2
  exact bodyPost_ret (v := .tuple #[.int .i64 (arI _ : Nat), .bool (n == 0)]) (by simp [results, Tryz.results49, go_sem, arI]) rfl ⟨rfl, Below.drewN' HB.out nq⟩
set_option maxHeartbeats 1000000 in
theorem ops_none (o : Int) (ho : ¬ (1 ≤ o ∧ o ≤ 11)) (n : Int) (w : World) : OpsSays o n w := by
 obtain ⟨WA, hWA⟩ : ∃ WA, WA = w.alloc (Obj.cells #[.int .i64 o, .int .i64 n] 44) := ⟨_, rfl⟩
 have hB : Below w.heap.size w WA := by rw [hWA]; exact below_box _ _
 have r0 : WA.heap[w.heap.size]? = some (.cells #[.int .i64 o, .int .i64 n] 44 (0, 0)) := by rw [hWA]; exact heap_alloc_new w _
 have c0 := fun j => cell_row r0 j
 have HWA := hid hWA
 have HB := hid hB
 have HG : Hid (nodeB (o, n) = false ∧ arI o = 0) := by
  constructor
  ·simp only [nodeB]
   rw [if_neg (by omega), if_neg (by omega)]
   exact decide_eq_false (fun q => by omega)
  ·unfold arI
   rw [if_neg (by omega), if_neg (by omega), if_neg (by omega)]
 have n1 : (o == 1) = false := by simp; omega
 have n2 : (o == 2) = false := by simp; omega
 have n3 : (o == 3) = false := by simp; omega
 have n4 : (o == 4) = false := by simp; omega
 have n5 : (o == 5) = false := by simp; omega
 have n6 : (o == 6) = false := by simp; omega
 have n7 : (o == 7) = false := by simp; omega
 have n8 : (o == 8) = false := by simp; omega
 have n9 : (o == 9) = false := by simp; omega
 have n10 : (o == 10) = false := by simp; omega
 have n11 : (o == 11) = false := by simp; omega
 clear hWA hB r0
 unfold OpsSays
 rw [HG.out.1, HG.out.2]
 clear ho
 go_enter Tryz.func49, Tryz.ntmps49
 go_wp2_with (rw [← HWA.out])
 exact bodyPost_ret (v := .tuple #[.int .i64 0, .bool false]) (by simp [results, Tryz.results49, go_sem]) rfl ⟨rfl, HB.out⟩
theorem ops_any (x : Nd) (w : World) : Calls Tryz.prog 49 #[ndV x] w fun e w' => e = .returned (.tuple #[.int .i64 (arI x.1 : Nat), .bool (nodeB x)]) ∧ Below w.heap.size w w' := by
 obtain ⟨o, n⟩ := x
 by_cases h : 1 ≤ o ∧ o ≤ 11
 ·by_cases h1 : o = 1
  ·subst h1; exact ops_const n w
  ·by_cases h2 : o = 2 ∨ o = 4 ∨ o = 5
   ·exact ops_var o h2 n w
   ·exact ops_zero o (by omega) n w
 ·exact ops_none o h n w

end Go.Proofs.YtdkboifpdodonacGreatDoor
/-
 The landed program's plant: the tree of a node over its operands.
-/
namespace Go.Proofs.YtdkboifpdodonacGreatDoor
open Go.RowKit Go.Deep PureCnf PureForm
set_option maxRecDepth 100000

/-- a node over its operands. -/
def plantT (x : Nd) : List Tr → Tr
 | [] => .lf x
 | [a] => .un x a
 | [a, b] => .bi x a b
 | a :: b :: c :: _ => .te x a b c

set_option maxHeartbeats 1000000 in
theorem plant_leaf (o n : Int) (ho : o = 1 ∨ o = 2) (sa : Option Addr) (l c : Nat) (w : World) :
  Calls Tryz.prog 50 #[.agg #[.int .i64 o, .int .i64 n], .slice sa l c] w fun e w' => e = .returned (tv (.lf (o, n))) ∧ Below w.heap.size w w' := by
 obtain ⟨WA, hWA⟩ : ∃ WA, WA = w.alloc (Obj.cells #[.int .i64 o, .int .i64 n] 44) := ⟨_, rfl⟩
 have hB : Below w.heap.size w WA := by rw [hWA]; exact below_box _ _
 have r0 : WA.heap[w.heap.size]? = some (.cells #[.int .i64 o, .int .i64 n] 44 (0, 0)) := by rw [hWA]; exact heap_alloc_new w _
 have c0 := fun j => cell_row r0 j
 have HWA := hid hWA
 have HB := hid hB
 clear hWA hB r0
 rcases ho with rfl | rfl
 all_goals
  go_enter Tryz.func50, Tryz.ntmps50
  go_wp2_with (rw [← HWA.out])
  go_ret
  exact ⟨rfl, HB.out⟩
set_option maxHeartbeats 1000000 in
theorem plant_not (a : Tr) (g p c : Nat) (w : World) (hg : g < w.heap.size) (ha : w.cell? ⟨g, p, none⟩ = some (tv a)) :
  Calls Tryz.prog 50 #[.agg #[.int .i64 3, .int .i64 0], .slice (some ⟨g, p, none⟩) 1 c] w fun e w' => e = .returned (tv (.un (3, 0) a)) ∧ Below w.heap.size w w' := by
 obtain ⟨WA, hWA⟩ : ∃ WA, WA = w.alloc (Obj.cells #[.int .i64 3, .int .i64 0] 44) := ⟨_, rfl⟩
 have hB : Below w.heap.size w WA := by rw [hWA]; exact below_box _ _
 have r0 : WA.heap[w.heap.size]? = some (.cells #[.int .i64 3, .int .i64 0] 44 (0, 0)) := by rw [hWA]; exact heap_alloc_new w _
 have c0 := fun j => cell_row r0 j
 obtain ⟨k, u, e⟩ := tv_form a
 have c1 : WA.cell? ⟨g, p, none⟩ = some (.iface k u) := by rw [← e]; exact (hB.cell (p := ⟨g, p, none⟩) hg).trans ha
 have HG : Hid (tv (.un (3, 0) a) = .iface 90 (.agg #[.iface k u])) := by show _ = _; (first | rw [tv_un, if_pos rfl, e] | rw [tv_bi, if_pos rfl, e] | rw [tv_te, if_pos rfl, e] | rw [tv_lf, if_pos rfl, e])
 have HWA := hid hWA
 have HB := hid hB
 clear hWA hB r0 ha e
 rw [HG.out]
 go_enter Tryz.func50, Tryz.ntmps50
 go_wp2_with (rw [← HWA.out])
 go_ret
 exact ⟨rfl, HB.out⟩
set_option maxHeartbeats 1000000 in
theorem plant_quant (o n : Int) (ho : o = 4 ∨ o = 5) (a : Tr) (g p c : Nat) (w : World) (hg : g < w.heap.size) (ha : w.cell? ⟨g, p, none⟩ = some (tv a)) :
  Calls Tryz.prog 50 #[.agg #[.int .i64 o, .int .i64 n], .slice (some ⟨g, p, none⟩) 1 c] w fun e w' => e = .returned (tv (.un (o, n) a)) ∧ Below w.heap.size w w' := by
 obtain ⟨WA, hWA⟩ : ∃ WA, WA = w.alloc (Obj.cells #[.int .i64 o, .int .i64 n] 44) := ⟨_, rfl⟩
 have hB : Below w.heap.size w WA := by rw [hWA]; exact below_box _ _
 have r0 : WA.heap[w.heap.size]? = some (.cells #[.int .i64 o, .int .i64 n] 44 (0, 0)) := by rw [hWA]; exact heap_alloc_new w _
 have c0 := fun j => cell_row r0 j
 obtain ⟨k, u, e⟩ := tv_form a
 have c1 : WA.cell? ⟨g, p, none⟩ = some (.iface k u) := by rw [← e]; exact (hB.cell (p := ⟨g, p, none⟩) hg).trans ha
 have HG : Hid (tv (.un (o, n) a) = .iface 92 (.agg #[.int .i64 o, .int .i64 n, .iface k u])) := by show _ = _; (first | rw [tv_un, if_neg (by simp; omega), e] | rw [tv_bi, if_neg (by simp; omega), e] | rw [tv_te, if_neg (by simp; omega), e] | rw [tv_lf, if_neg (by simp; omega), e])
 have HWA := hid hWA
 have HB := hid hB
 clear hWA hB r0 ha e
 rw [HG.out]
 rcases ho with rfl | rfl
 all_goals
  go_enter Tryz.func50, Tryz.ntmps50
  go_wp2_with (rw [← HWA.out])
  go_quiet (fail)
  go_wp2
  go_ret
  exact ⟨rfl, Below.drewN' HB.out nq⟩
set_option maxHeartbeats 2000000 in
theorem plant_two (o : Int) (ho : two o = true) (a b : Tr) (g p c : Nat) (w : World) (hg : g < w.heap.size) (ha : w.cell? ⟨g, p, none⟩ = some (tv a)) (hb : w.cell? ⟨g, p + 1, none⟩ = some (tv b)) :
  Calls Tryz.prog 50 #[.agg #[.int .i64 o, .int .i64 0], .slice (some ⟨g, p, none⟩) 2 c] w fun e w' => e = .returned (tv (.bi (o, 0) a b)) ∧ Below w.heap.size w w' := by
 obtain ⟨WA, hWA⟩ : ∃ WA, WA = w.alloc (Obj.cells #[.int .i64 o, .int .i64 0] 44) := ⟨_, rfl⟩
 have hB : Below w.heap.size w WA := by rw [hWA]; exact below_box _ _
 have r0 : WA.heap[w.heap.size]? = some (.cells #[.int .i64 o, .int .i64 0] 44 (0, 0)) := by rw [hWA]; exact heap_alloc_new w _
 have c0 := fun j => cell_row r0 j
 obtain ⟨k, u, e⟩ := tv_form a
 obtain ⟨k2, u2, e2⟩ := tv_form b
 have c1 : WA.cell? ⟨g, p, none⟩ = some (.iface k u) := by rw [← e]; exact (hB.cell (p := ⟨g, p, none⟩) hg).trans ha
 have c2 : WA.cell? ⟨g, p + 1, none⟩ = some (.iface k2 u2) := by rw [← e2]; exact (hB.cell (p := ⟨g, p + 1, none⟩) hg).trans hb
 have HG : Hid (tv (.bi (o, 0) a b) = .iface 94 (.agg #[.int .i64 o, .iface k u, .iface k2 u2])) := by show _ = _; (first | rw [tv_un, e, e2] | rw [tv_bi, e, e2] | rw [tv_te, e, e2] | rw [tv_lf, e, e2])
 have HWA := hid hWA
 have HB := hid hB
 clear hWA hB r0 ha hb e e2
 rw [HG.out]
 rcases two_cases ho with rfl | rfl | rfl | rfl | rfl
 all_goals
  clear ho
  go_enter Tryz.func50, Tryz.ntmps50
  go_wp2_with (rw [← HWA.out])
  go_quiet (fail)
  go_wp2
  go_ret
  exact ⟨rfl, Below.drewN' HB.out nq⟩
set_option maxHeartbeats 2000000 in
theorem plant_three (a b d : Tr) (g p c : Nat) (w : World) (hg : g < w.heap.size) (ha : w.cell? ⟨g, p, none⟩ = some (tv a)) (hb : w.cell? ⟨g, p + 1, none⟩ = some (tv b)) (hd : w.cell? ⟨g, p + 2, none⟩ = some (tv d)) :
  Calls Tryz.prog 50 #[.agg #[.int .i64 11, .int .i64 0], .slice (some ⟨g, p, none⟩) 3 c] w fun e w' => e = .returned (tv (.te (11, 0) a b d)) ∧ Below w.heap.size w w' := by
 obtain ⟨WA, hWA⟩ : ∃ WA, WA = w.alloc (Obj.cells #[.int .i64 11, .int .i64 0] 44) := ⟨_, rfl⟩
 have hB : Below w.heap.size w WA := by rw [hWA]; exact below_box _ _
 have r0 : WA.heap[w.heap.size]? = some (.cells #[.int .i64 11, .int .i64 0] 44 (0, 0)) := by rw [hWA]; exact heap_alloc_new w _
 have c0 := fun j => cell_row r0 j
 obtain ⟨k, u, e⟩ := tv_form a
 obtain ⟨k2, u2, e2⟩ := tv_form b
 obtain ⟨k3, u3, e3⟩ := tv_form d
 have c1 : WA.cell? ⟨g, p, none⟩ = some (.iface k u) := by rw [← e]; exact (hB.cell (p := ⟨g, p, none⟩) hg).trans ha
 have c2 : WA.cell? ⟨g, p + 1, none⟩ = some (.iface k2 u2) := by rw [← e2]; exact (hB.cell (p := ⟨g, p + 1, none⟩) hg).trans hb
 have c3 : WA.cell? ⟨g, p + 2, none⟩ = some (.iface k3 u3) := by rw [← e3]; exact (hB.cell (p := ⟨g, p + 2, none⟩) hg).trans hd
 have HG : Hid (tv (.te (11, 0) a b d) = .iface 96 (.agg #[.iface k u, .iface k2 u2, .iface k3 u3])) := by show _ = _; (first | rw [tv_un, e, e2, e3] | rw [tv_bi, e, e2, e3] | rw [tv_te, e, e2, e3] | rw [tv_lf, e, e2, e3])
 have HWA := hid hWA
 have HB := hid hB
 clear hWA hB r0 ha hb hd e e2 e3
 rw [HG.out]
 go_enter Tryz.func50, Tryz.ntmps50
 go_wp2_with (rw [← HWA.out])
 go_quiet (fail)
 go_wp2
 go_ret
 exact ⟨rfl, Below.drewN' HB.out nq⟩

end Go.Proofs.YtdkboifpdodonacGreatDoor
/-
 A node joins the trees so far: the row of trees in memory; plant over it.
-/
namespace Go.Proofs.YtdkboifpdodonacGreatDoor
open Go.RowKit Go.Deep PureCnf PureForm
set_option maxRecDepth 100000

theorem join_eq (x : Nd) (st : List Tr) : joinT x st = if nodeB x = true ∧ arI x.1 ≤ st.length then some (plantT x (st.take (arI x.1)).reverse :: st.drop (arI x.1)) else none := by
 obtain ⟨o, n⟩ := x
 by_cases hn : nodeB (o, n) = true
 ·have ho : 1 ≤ o ∧ o ≤ 11 := by
   unfold nodeB at hn
   simp only at hn
   split at hn
   ·omega
   ·split at hn
    ·omega
    ·have := (of_decide_eq_true hn).1; omega
  rw [joinT.eq_def, if_pos hn]
  simp only [hn, true_and]
  by_cases h12 : o = 1 ∨ o = 2
  ·have ha : arI o = 0 := by unfold arI; rw [if_neg (by omega), if_neg (by omega), if_neg (by omega)]
   rw [if_pos h12, ha, if_pos (by omega)]
   rfl
  ·rw [if_neg h12]
   by_cases h5 : o ≤ 5
   ·have ha : arI o = 1 := by unfold arI; rw [if_pos (by omega)]
    rw [if_pos h5, ha]
    cases st with
    | nil => rfl
    | cons a t => rw [if_pos (by simp)]; rfl
   ·rw [if_neg h5]
    by_cases h10 : o ≤ 10
    ·have ha : arI o = 2 := by unfold arI; rw [if_neg (by omega), if_pos (by omega)]
     rw [if_pos h10, ha]
     match st with
     | [] => rfl
     | [a] => rfl
     | b :: a :: t => rw [if_pos (by simp)]; rfl
    ·have ha : arI o = 3 := by unfold arI; rw [if_neg (by omega), if_neg (by omega), if_pos (by omega)]
     rw [if_neg h10, ha]
     match st with
     | [] => rfl
     | [a] => rfl
     | [a, b] => rfl
     | c :: b :: a :: t => rw [if_pos (by simp)]; rfl
 ·rw [joinT.eq_def, if_neg hn, if_neg (fun h => hn h.1)]

theorem info56 : (Tryz.prog.info? 48).map (fun i => (i.zero, i.size, i.bytes)) = some (some .nilIface, 1, 16) := by kernel_rfl
/-- trees in memory, a cell each. -/
def ct (l : List Tr) : List Value := l.map tv
theorem ct_append (l m : List Tr) : ct (l ++ m) = ct l ++ ct m := by simp [ct]
theorem ct_length (l : List Tr) : (ct l).length = l.length := by simp [ct]
theorem tv_one (t : Tr) : (tv t).oneCell' = true := by
 obtain ⟨k, u, e⟩ := tv_form t
 rw [e]; rfl
theorem run_append_tree (w : World) (base : Nat) (ty : TypeId) (v : Value) (l : List Tr) (hown : w.ownsRow base 48 1 v l.length (ct l)) (ad : Addr) (x : Tr) (hu : w.cell? ad = some (tv x)) (hn : l.length ≤ 1099511627776) (hbase : base ≤ w.heap.size) :
  ∃ v' w', (Builtin.append_ #[112, 112] ty #[v, .slice (some ad) 1 1]).run Tryz.prog w = .ok v' w' ∧ w'.ownsRow base 48 1 v' (l ++ [x]).length (ct (l ++ [x])) ∧ w.grownBy w' v.ownBlock := by
 obtain ⟨i, hi, hz0, hz1, hz2⟩ := info_parts info56
 have hnews : ∀ j y, [tv x][j]? = some y → w.cell? (ad.add j) = some y := by
  intro j y hy
  cases j with
  | zero => simp at hy; subst hy; simpa [Addr.add] using hu
  | succ j => simp at hy
 have h1' : ∀ y ∈ [tv x], y.oneCell' = true := by intro y hy; simp at hy; subst hy; exact tv_one x
 obtain ⟨v', w', hr, ho, hg, _⟩ := run_append_own (P := Tryz.prog) w base 112 ty 48 i .nilIface 1 16 Tryz.underlying112 hi hz0 hz1 hz2 rfl (by decide) v l.length (ct l) hown ad 1 1 [tv x] rfl hnews h1' (by unfold maxLen; omega) (by omega) hbase
 refine ⟨v', w', hr, ?_, hg⟩
 rw [ct_append, List.length_append]
 exact ho
theorem own_take {w : World} {B e g cap n m : Nat} {xs : List Value} (h : w.ownsRow B e 1 (.slice (some ⟨g, 0, none⟩) n cap) n xs) (hm : m ≤ n) : w.ownsRow B e 1 (.slice (some ⟨g, 0, none⟩) m cap) m (xs.take m) := by
 obtain ⟨h1, h2⟩ := h
 rcases h2 with ⟨h0, _⟩ | ⟨g', cap', cur, hv, hg, hh, hn, hcap, hsz, htake⟩
 ·cases h0
 ·cases hv
  refine ⟨by rw [List.length_take]; omega, .inr ⟨g, cap, cur, rfl, hg, hh, by omega, hcap, hsz, ?_⟩⟩
  rw [← htake, List.take_take, Nat.min_eq_left (by omega), Nat.mul_one]
theorem own_forms {W : World} {B e size n : Nat} {v : Value} {xs : List Value} (h : W.ownsRow B e size v n xs) : (v = .slice none 0 0 ∧ n = 0) ∨ ∃ g c, v = .slice (some ⟨g, 0, none⟩) n c ∧ g < W.heap.size ∧ n ≤ c ∧ B ≤ g := by
 rcases h.2 with ⟨hv, h0⟩ | ⟨g, cap, cur, hv, hb, hh, hn, _⟩
 ·exact .inl ⟨hv, h0⟩
 ·exact .inr ⟨g, cap, hv, (Array.getElem?_eq_some_iff.1 hh).1, hn, hb⟩

theorem plant_any (x : Nd) (hx : nodeB x = true) (us : List Tr) (hu : us.length = arI x.1) (sa : Option Addr) (l c : Nat) (w : World)
  (h : us = [] ∨ ∃ g p, sa = some ⟨g, p, none⟩ ∧ l = us.length ∧ g < w.heap.size ∧ ∀ j (hj : j < us.length), w.cell? ⟨g, p + j, none⟩ = some (tv us[j])) :
  Calls Tryz.prog 50 #[ndV x, .slice sa l c] w fun e w' => e = .returned (tv (plantT x us)) ∧ Below w.heap.size w w' := by
 obtain ⟨o, n⟩ := x
 unfold nodeB at hx
 simp only at hx hu
 split at hx
 ·next h1 =>
  subst h1
  have : us = [] := List.eq_nil_of_length_eq_zero (by rw [hu]; rfl)
  subst this
  exact plant_leaf 1 n (.inl rfl) sa l c w
 ·split at hx
  ·next h1 h2 =>
   rcases h2 with rfl | h2
   ·have : us = [] := List.eq_nil_of_length_eq_zero (by rw [hu]; rfl)
    subst this
    exact plant_leaf 2 n (.inr rfl) sa l c w
   ·have ha : arI o = 1 := by unfold arI; rw [if_pos (by omega)]
    rw [ha] at hu
    match us, hu with
    | [a], _ =>
     rcases h with h | ⟨g, p, rfl, rfl, hg, hc⟩
     ·cases h
     ·exact plant_quant o n h2 a g p c w hg (hc 0 (by simp))
  ·next h1 h2 =>
   have hz := of_decide_eq_true hx
   obtain ⟨hz1, hz2⟩ := hz
   subst hz2
   rcases hz1 with rfl | hz1
   ·have ha : arI 3 = 1 := rfl
    rw [ha] at hu
    match us, hu with
    | [a], _ =>
     rcases h with h | ⟨g, p, rfl, rfl, hg, hc⟩
     ·cases h
     ·exact plant_not a g p c w hg (hc 0 (by simp))
   ·by_cases h11 : o = 11
    ·subst h11
     have ha : arI 11 = 3 := rfl
     rw [ha] at hu
     match us, hu with
     | [a, b, d], _ =>
      rcases h with h | ⟨g, p, rfl, rfl, hg, hc⟩
      ·cases h
      ·exact plant_three a b d g p c w hg (hc 0 (by simp)) (hc 1 (by simp)) (hc 2 (by simp))
    ·have ha : arI o = 2 := by unfold arI; rw [if_neg (by omega), if_pos (by omega)]
     rw [ha] at hu
     match us, hu with
     | [a, b], _ =>
      rcases h with h | ⟨g, p, rfl, rfl, hg, hc⟩
      ·cases h
      ·exact plant_two o (by simp [two]; omega) a b g p c w hg (hc 0 (by simp)) (hc 1 (by simp))

/-- nodes in memory. -/
structure NodesAt (W : World) (sa : Option Addr) (l : List Nd) : Prop where
 at_ : ∀ k (hk : k < l.length), ∃ g o, sa = some ⟨g, o, none⟩ ∧ g < W.heap.size ∧ W.cell? ⟨g, o + k * 2, none⟩ = some (.int .i64 l[k].1) ∧ W.cell? ⟨g, o + k * 2 + 1, none⟩ = some (.int .i64 l[k].2)
theorem NodesAt.below {w W : World} {sa : Option Addr} {l : List Nd} (h : NodesAt w sa l) (hb : Below w.heap.size w W) : NodesAt W sa l := ⟨fun k hk => by
 obtain ⟨g, o, e, hg, c0, c1⟩ := h.at_ k hk
 exact ⟨g, o, e, Nat.lt_of_lt_of_le hg hb.size, below_cell hb hg c0, below_cell hb hg c1⟩⟩

end Go.Proofs.YtdkboifpdodonacGreatDoor
/-
 The landed program's grow: the tree of a list.
-/
namespace Go.Proofs.YtdkboifpdodonacGreatDoor
open Go.RowKit Go.Deep PureCnf PureForm
set_option maxRecDepth 100000

/-- what grow answers. -/
def growV (f : List Nd) : Value := match treeOf f with
 | some t => if f.length ≤ 65536 ∧ t.need true ≤ 64 then .tuple #[tv t, .bool true] else .tuple #[.nilIface, .bool false]
 | none => .tuple #[.nilIface, .bool false]

theorem build_take {f : List Nd} {j : Nat} (hj : j < f.length) {st : List Tr} (h : build f [] = build (f.drop j) st) : build f [] = (joinT f[j] st).bind (build (f.drop (j + 1))) := by
 rw [h, List.drop_eq_getElem_cons hj, build]

theorem ar_le (o : Int) : arI o ≤ 3 := by
 unfold arI
 split
 ·omega
 ·split
  ·omega
  ·split <;> omega
theorem grow_none {f : List Nd} (h : build f [] = none) : growV f = .tuple #[.nilIface, .bool false] := by
 unfold growV treeOf
 rw [h]
theorem row_cell {W : World} {B g c n : Nat} {l : List Tr} (h : W.ownsRow B 48 1 (.slice (some ⟨g, 0, none⟩) n c) n (ct l)) (k : Nat) (hk : k < l.length) : W.cell? ⟨g, k, none⟩ = some (tv l[k]) := by
 have := h.cells (g := g) rfl k (tv l[k]) (by simp [ct, hk])
 rwa [add_zero_addr] at this

/-- append of one tree, in a region of whichever order (held). -/
theorem wp_tree {o : Oper} {a : Act} {w : World} {K : Act → World → Prop} {Q : Exit → Act → World → Prop} (sl x : Operand)
  (ho : o.op = .call { callee := .builtin .append, args := #[sl, x], argTypes := #[112, 112] }) (B : Nat) (v : Value) (l : List Tr) (y : Tr) (ad : Addr) (hs : a.eval sl = v) (hown : w.ownsRow B 48 1 v l.length (ct l)) (hx : a.eval x = .slice (some ad) 1 1)
  (hu : w.cell? ad = some (tv y)) (hn : l.length ≤ 1099511627776) (hB : B ≤ w.heap.size)
  (h : ∀ v' w', w'.ownsRow B 48 1 v' (l ++ [y]).length (ct (l ++ [y])) → w.grownBy w' v.ownBlock → K (a.put o.dst v') w') : Oper.wp Tryz.prog o a w K Q := by
 obtain ⟨v', w', hr, h1, h2⟩ := run_append_tree w B o.type v l hown ad y hu hn hB
 unfold Oper.wp execOp
 simp only [ho, resolve, invoke, builtin, Sem.run_bind, Sem.run_pure, Result.andThen_ok, List.map_toArray, List.map_cons, List.map_nil, hs, hx, hr]
 exact h v' w' h1 h2
theorem own_keep {w w' : World} {B e size n : Nat} {v : Value} {xs : List Value} (h : w.ownsRow B e size v n xs) (hb : Below w.heap.size w w') : w'.ownsRow B e size v n xs := by
 obtain ⟨h1, h2⟩ := h
 refine ⟨h1, ?_⟩
 rcases h2 with h0 | ⟨g, cap, cur, hv, hg, hh, hn⟩
 ·exact .inl h0
 ·exact .inr ⟨g, cap, cur, hv, hg, by rw [hb.block g (Array.getElem?_eq_some_iff.1 hh).1]; exact hh, hn⟩
theorem rev_split (st : List Tr) (m : Nat) : st.reverse = (st.drop m).reverse ++ (st.take m).reverse := by
 rw [← List.reverse_append, List.take_append_drop]

set_option maxHeartbeats 4000000 in
theorem grow_any (f : List Nd) (sf : Option Addr) (cf : Nat) (w : World) (hf : NodesAt w sf f) (hl : f.length ≤ 9223372036854775807) :
  Calls Tryz.prog 32 #[.slice sf f.length cf] w fun e w' => e = .returned (growV f) ∧ Below w.heap.size w w' := by
 by_cases hbig : 65536 < f.length
 ·have HV : Hid (growV f = .tuple #[.nilIface, .bool false]) := by
   show _ = _
   unfold growV
   split
   ·rw [if_neg (by omega)]
   ·rfl
  clear hf
  go_enter Tryz.func32, Tryz.ntmps32
  go_wp2
  exact bodyPost_ret (v := .tuple #[.nilIface, .bool false]) (by simp [results, Tryz.results32, go_sem]) rfl ⟨by rw [HV.out], Below.refl _ _⟩
 ·have HF := hid hf
  clear hf
  go_enter Tryz.func32, Tryz.ntmps32
  go_wp2
  go_loopw [4, 15] (fun gv iv W => ∃ (j : Nat) (st : List Tr) (sv : Option Addr) (cv : Nat), iv = .int .i64 j ∧ gv = .slice sv st.length cv ∧ j ≤ f.length ∧ st.length ≤ j ∧ Hid (build f [] = build (f.drop j) st ∧ W.ownsRow w.heap.size 48 1 (.slice sv st.length cv) st.length (ct st.reverse) ∧ Below w.heap.size w W)) (fun _ iv _ => f.length - (intOf iv).toNat)
  case atStart => exact ⟨0, [], none, 0, rfl, rfl, Nat.zero_le _, Nat.le_refl _, rfl, World.ownsRow_nil _ _ _ _, Below.refl _ _⟩
  case round =>
   obtain ⟨j, st, sv, cv, rfl, rfl, hj, hst, HP⟩ := hrel
   by_cases hlt : j < f.length
   ·obtain ⟨P1, P2, P3⟩ := HP.out
    obtain ⟨g, o, rfl, hg, d0, d1⟩ := HF.out.at_ j hlt
    have b0 := build_take hlt P1
    obtain ⟨x, hx⟩ : ∃ x, x = f[j] := ⟨_, rfl⟩
    rw [← hx] at d0 d1 b0
    have c0 := below_cell P3 hg d0
    have c1 := below_cell P3 hg d1
    obtain ⟨WA, hWA⟩ : ∃ W, W = wr.alloc (Obj.cells #[.int .i64 x.1, .int .i64 x.2] 44) := ⟨_, rfl⟩
    have tA : Below wr.heap.size wr WA := by rw [hWA]; exact (Below.refl _ _).alloc (Nat.le_refl _) _
    have rA : WA.heap[wr.heap.size]? = some (.cells #[.int .i64 x.1, .int .i64 x.2] 44 (0, 0)) := by rw [hWA]; exact heap_alloc_new wr _
    have cA := fun k => cell_row rA k
    have HOP := hid (ops_any x WA)
    have HWA := hid hWA
    have HB0 := hid b0
    have HTA := hid tA
    have HRA := hid rA
    clear hx d0 d1 b0 P1 hWA tA rA
    have hm3 := ar_le x.1
    have HJ := hid (join_eq x st)
    have HU : Hid (∀ us : List Tr, us.length = arI x.1 → nodeB x = true → ∀ (sa : Option Addr) (l c : Nat) (W : World), (us = [] ∨ ∃ g p, sa = some ⟨g, p, none⟩ ∧ l = us.length ∧ g < W.heap.size ∧ ∀ j (hj : j < us.length), W.cell? ⟨g, p + j, none⟩ = some (tv us[j])) → Calls Tryz.prog 50 #[ndV x, .slice sa l c] W fun e w' => e = .returned (tv (plantT x us)) ∧ Below W.heap.size W w') := fun us h1 h2 sa l c W h3 => plant_any x h2 us h1 sa l c W h3
    obtain ⟨m, hm⟩ : ∃ m, m = arI x.1 := ⟨_, rfl⟩
    rw [← hm] at HOP hm3 HJ HU
    clear hm
    cases hb : nodeB x with
    | false =>
     rw [hb] at HOP
     have HG : Hid (growV f = .tuple #[.nilIface, .bool false]) := grow_none (by rw [HB0.out, HJ.out, if_neg (by rw [hb]; simp)]; rfl)
     clear hb HU
     go_wp2_with (first | (rw [← HWA.out]) | (go_at_call 49; refine HOP.out.mono ?_; rintro e w2 ⟨rfl, b2⟩; have B2 := hid b2; clear b2))
     exact bodyPost_ret (v := .tuple #[.nilIface, .bool false]) (by simp [results, Tryz.results32, go_sem]) rfl ⟨by rw [HG.out], P3.trans ((HTA.out.trans (B2.out.mono HTA.out.size)).mono P3.size)⟩
    | true =>
     rw [hb] at HOP
     have HNB := hid hb
     by_cases hms : m ≤ st.length
     ·have hw0 : wrap64 ((st.length : Int) - (m : Int)) = ((st.length - m : Nat) : Int) := by rw [IntWalk.wrap64_in _ ⟨by omega, by omega⟩]; omega
      have hnn : ¬ (((st.length - m : Nat) : Int) < 0) := by omega
      clear hb
      obtain ⟨us, hus⟩ : ∃ us, us = (st.take m).reverse := ⟨_, rfl⟩
      have hul : us.length = m := by rw [hus, List.length_reverse, List.length_take]; omega
      have hjn : joinT x st = some (plantT x us :: st.drop m) := by rw [HJ.out, if_pos ⟨HNB.out, hms⟩, hus]
      have HB1 : Hid (build f [] = build (f.drop (j + 1)) (plantT x us :: st.drop m)) := by show _ = _; rw [HB0.out, hjn]; rfl
      have HRS : Hid ((plantT x us :: st.drop m).reverse = (st.drop m).reverse ++ [plantT x us]) := by show _ = _; simp
      have hnl : (plantT x us :: st.drop m).length ≤ j + 1 := by simp; omega
      have hrv := rev_split st m
      rw [← hus] at hrv
      obtain ⟨tk, tu, et⟩ := tv_form (plantT x us)
      have ET := hid et
      clear hjn hus HB0 HJ et
      rcases own_forms P2 with ⟨hv, h0⟩ | ⟨q, c, hv, hq, hqc, hqb⟩
      ·go_wp2_with (first | (rw [← HWA.out]) | (go_at_call 49; refine HOP.out.mono ?_; rintro e w2 ⟨rfl, b2⟩; have BR : Hid (Below wr.heap.size wr w2) := HTA.out.trans (b2.mono HTA.out.size); have r2 := (b2.block _ (Array.getElem?_eq_some_iff.1 HRA.out).1).trans HRA.out; have HX2 := hid (Array.getElem?_eq_some_iff.1 r2).1; have KB : Hid (∀ W, Below w2.heap.size w2 W → W.cell? ⟨wr.heap.size, 0, none⟩ = some (.int .i64 x.1) ∧ W.cell? ⟨wr.heap.size, 1, none⟩ = some (.int .i64 x.2)) := (fun W hW => by have r3 := (hW.block _ (Array.getElem?_eq_some_iff.1 r2).1).trans r2; exact ⟨cell_row r3 0, cell_row r3 1⟩); have BW : Hid (Below w.heap.size w w2) := P3.trans (BR.out.mono P3.size); clear b2 r2))
       simp only [Value.slice.injEq] at hv
       obtain ⟨rfl, _, rfl⟩ := hv
       have hst0 : st = [] := List.eq_nil_of_length_eq_zero h0
       subst hst0
       obtain rfl : m = 0 := by simpa using hms
       have hus0 : us = [] := List.eq_nil_of_length_eq_zero hul
       have HPL : Hid (∀ W, Below w2.heap.size w2 W → Calls Tryz.prog 50 #[ndV x, .slice none 0 0] W fun e w' => e = .returned (.iface tk tu) ∧ Below W.heap.size W w') := fun W _ => ET.out ▸ HU.out us hul HNB.out none 0 0 W (.inl hus0)
       have HOW : Hid (∀ W, Below w2.heap.size w2 W → W.ownsRow w.heap.size 48 1 (.slice none 0 0) (List.drop 0 ([] : List Tr)).reverse.length (ct (List.drop 0 ([] : List Tr)).reverse)) := fun W _ => World.ownsRow_nil _ _ _ _
       have HLT : Hid (∀ k, (Value.slice none 0 0).ownBlock = some k → w.heap.size ≤ k) := fun k hk => by cases hk
       have HNE : Hid ((Value.slice none 0 0).ownBlock ≠ some wr.heap.size) := by show _ ≠ _; simp [Value.ownBlock]
       have KG : Hid (∀ Y Z, Below w2.heap.size w2 Y → Y.grownBy Z (Value.slice none 0 0).ownBlock → Z.cell? ⟨wr.heap.size, 0, none⟩ = some (.int .i64 x.1) ∧ Z.cell? ⟨wr.heap.size, 1, none⟩ = some (.int .i64 x.2)) := fun Y Z hY hZ => by
        have hb := hZ.block wr.heap.size (Nat.lt_of_lt_of_le HX2.out hY.size) (fun e => HNE.out e.symm)
        obtain ⟨k0, k1⟩ := KB.out Y hY
        exact ⟨by rw [← k0]; unfold World.cell?; rw [hb], by rw [← k1]; unfold World.cell?; rw [hb]⟩
       refine wp_region_noPanic ?_
       refine wp_region_held_drew (S := fun W => W.cell? ⟨wr.heap.size, 0, none⟩ = some (.int .i64 x.1) ∧ W.cell? ⟨wr.heap.size, 1, none⟩ = some (.int .i64 x.2)) (by kernel_rfl) (KB.out _ (Below.refl _ _).drew) (fun hHeld => ?_)
       refine wpAnyH_take (i := 0) (v := ?_) (by simp only [List.getElem?_toArray, List.getElem?_cons_zero]; rfl) (by kernel_rfl) (by kernel_rfl) (by kernel_rfl) (fun _ _ _ h => h) (Or.inl ⟨by rfl, ?_⟩) (by assumption) ?_
       rotate_left 1
       ·intro w hSw; (try dsimp only at hSw); go_simp; (try with_reducible rfl)
       try simp only [Act.put, List.setIfInBounds_toArray, List.set_cons_zero, List.set_cons_succ]
       refine wpAnyH_take (i := 1) (v := ?_) (by simp only [List.getElem?_toArray, List.getElem?_cons_succ, List.getElem?_cons_zero]; rfl) (by kernel_rfl) (by kernel_rfl) (by kernel_rfl) (fun _ _ _ h => h) (Or.inl ⟨by rfl, ?_⟩) (by assumption) ?_
       rotate_left 1
       ·intro w hSw; (try dsimp only at hSw); go_simp; (try with_reducible rfl)
       try simp only [Act.put, List.setIfInBounds_toArray, List.set_cons_zero, List.set_cons_succ]
       refine wpAnyH_take (i := 2) (v := .slice none 0 0) (by simp only [List.getElem?_toArray, List.getElem?_cons_succ, List.getElem?_cons_zero]; rfl) (by kernel_rfl) (by kernel_rfl) (by kernel_rfl) (fun _ _ _ h => h) (Or.inl ⟨by rfl, ?_⟩) (by assumption) ?_
       ·intro w hSw; (try dsimp only at hSw); (try go_simp); (first | done | rfl | simp)
       try simp only [Act.put, List.setIfInBounds_toArray, List.set_cons_zero, List.set_cons_succ]
       refine wpAnyH_take (i := 3) (v := ?_) (by simp only [List.getElem?_toArray, List.getElem?_cons_succ, List.getElem?_cons_zero]; rfl) (by kernel_rfl) (by kernel_rfl) (by kernel_rfl) (fun _ _ _ h => h) (Or.inl ⟨by rfl, ?_⟩) (by assumption) ?_
       rotate_left 1
       ·intro w hSw; (try dsimp only at hSw); go_simp; (try with_reducible rfl)
       try simp only [Act.put, List.setIfInBounds_toArray, List.set_cons_zero, List.set_cons_succ]
       refine wpAnyH_take (i := 4) (v := ?_) (by simp only [List.getElem?_toArray, List.getElem?_cons_succ, List.getElem?_cons_zero]; rfl) (by kernel_rfl) (by kernel_rfl) (by kernel_rfl) (fun _ _ _ h => h) (Or.inl ⟨by rfl, ?_⟩) (by assumption) ?_
       rotate_left 1
       ·intro w hSw; (try dsimp only at hSw); go_simp; (try with_reducible rfl)
       try simp only [Act.put, List.setIfInBounds_toArray, List.set_cons_zero, List.set_cons_succ]
       refine wpAnyH_take (i := 5) (v := ?_) (by simp only [List.getElem?_toArray, List.getElem?_cons_succ, List.getElem?_cons_zero]; rfl) (by kernel_rfl) (by kernel_rfl) (by kernel_rfl) (fun _ _ _ h => h) (Or.inl ⟨by rfl, ?_⟩) (by assumption) ?_
       rotate_left 1
       ·intro w hSw; (try dsimp only at hSw); go_simp; (try with_reducible rfl)
       try simp only [Act.put, List.setIfInBounds_toArray, List.set_cons_zero, List.set_cons_succ]
       refine wpAnyH_take (i := 6) (v := .slice none 0 0) (by simp only [List.getElem?_toArray, List.getElem?_cons_succ, List.getElem?_cons_zero]; rfl) (by kernel_rfl) (by kernel_rfl) (by kernel_rfl) (fun _ _ _ h => h) (Or.inl ⟨by rfl, ?_⟩) (by assumption) ?_
       ·intro w hSw; (try dsimp only at hSw); (try go_simp); (first | done | rfl | simp)
       try simp only [Act.put, List.setIfInBounds_toArray, List.set_cons_zero, List.set_cons_succ]
       refine wpAnyH_ready (rs := [7]) (by kernel_rfl) (by simp) ?_
       refine AllReadyH.cons (by simp only [List.getElem?_toArray, List.getElem?_cons_succ, List.getElem?_cons_zero]; rfl) (fun K hK => ?_) AllReadyH.nil
       go_simp
       go_at_call 50
       refine Calls.mono (HPL.out _ (by exact (Below.refl _ _).drew)) ?_
       rintro e w4 ⟨rfl, b4⟩
       have B4 : Hid (Below w2.heap.size w2 w4) := (Below.refl _ _).drew.trans b4
       clear b4
       clear hHeld
       refine hK.out _ _ (KB.out _ B4.out) (fun hHeld => ?_)
       clear hK K
       try simp only [Act.put, List.setIfInBounds_toArray, List.set_cons_zero, List.set_cons_succ]
       refine wpAnyH_ready (rs := [8]) (by kernel_rfl) (by simp) ?_
       refine AllReadyH.cons (by simp only [List.getElem?_toArray, List.getElem?_cons_succ, List.getElem?_cons_zero]; rfl) (fun K hK => ?_) AllReadyH.nil
       go_simp
       obtain ⟨Y5, hY5⟩ : ∃ Y5, Y5 = w4.alloc (Obj.cells #[.iface tk tu] 48) := ⟨_, rfl⟩
       have e5 : (if x.1 = 0 then Y5 else Y5) = Y5 := by split <;> rfl
       clear e5
       rw [← hY5]
       have B5 : Hid (Below w2.heap.size w2 Y5) := by rw [hY5]; exact B4.out.alloc B4.out.size _
       have r5 : Y5.cell? ⟨w4.heap.size, 0, none⟩ = some (tv (plantT x us)) := by rw [ET.out, hY5, cell_row (heap_alloc_new w4 _)]; rfl
       clear hY5
       clear hHeld
       refine hK.out _ _ (KB.out _ B5.out) (fun hHeld => ?_)
       clear hK K
       try simp only [Act.put, List.setIfInBounds_toArray, List.set_cons_zero, List.set_cons_succ]
       refine wpAnyH_ready (rs := [9]) (by kernel_rfl) (by simp) ?_
       refine AllReadyH.cons (by simp only [List.getElem?_toArray, List.getElem?_cons_succ, List.getElem?_cons_zero]; rfl) (fun K hK => ?_) AllReadyH.nil
       skip
       refine wp_tree _ _ rfl w.heap.size (.slice none 0 0) (List.drop 0 ([] : List Tr)).reverse (plantT x us) ⟨w4.heap.size, 0, none⟩ rfl (HOW.out _ B5.out) rfl r5 (by rw [List.length_reverse, List.length_drop]; omega) (Nat.le_trans BW.out.size B5.out.size) ?_
       intro v6 w6 ho6 hg6
       have BW6 : Hid (Below w.heap.size w w6) := (BW.out.trans (B5.out.mono BW.out.size)).grown hg6 (Nat.le_trans BW.out.size B5.out.size) (fun k hk => HLT.out k hk)
       have HO6 := hid ho6
       have kc6 : w6.cell? ⟨wr.heap.size, 0, none⟩ = some (.int .i64 x.1) ∧ w6.cell? ⟨wr.heap.size, 1, none⟩ = some (.int .i64 x.2) := KG.out _ _ B5.out hg6
       clear ho6 hg6
       clear hHeld
       refine hK.out _ _ kc6 (fun hHeld => ?_)
       clear hK K
       try simp only [Act.put, List.setIfInBounds_toArray, List.set_cons_zero, List.set_cons_succ]
       refine wpAnyH_take (i := 10) (v := ?_) (by simp only [List.getElem?_toArray, List.getElem?_cons_succ, List.getElem?_cons_zero]; rfl) (by kernel_rfl) (by kernel_rfl) (by kernel_rfl) (fun _ _ _ h => h) (Or.inl ⟨by rfl, ?_⟩) (by assumption) ?_
       rotate_left 1
       ·intro w hSw; (try dsimp only at hSw); go_simp; (try with_reducible rfl)
       try simp only [Act.put, List.setIfInBounds_toArray, List.set_cons_zero, List.set_cons_succ]
       refine wpAnyH_done (by kernel_rfl) ?_ _
       refine NoPanic.normal ?_
       go_wp2
       go_roundw
       case rel => 
        obtain ⟨sx, cx, hsx⟩ : ∃ sx cx, v6 = .slice sx (plantT x us :: List.drop 0 ([] : List Tr)).length cx := by
         have hn6 : ((List.drop 0 ([] : List Tr)).reverse ++ [plantT x us]).length = (plantT x us :: List.drop 0 ([] : List Tr)).length := by simp
         rcases own_forms HO6.out with ⟨hv, h0⟩ | ⟨g, c, hv, _⟩
         ·exact ⟨none, 0, by rw [hv, ← hn6, h0]⟩
         ·exact ⟨_, _, by rw [hv, hn6]⟩
        subst hsx
        refine ⟨j + 1, plantT x us :: List.drop 0 ([] : List Tr), sx, cx, by go_num, rfl, hlt, hnl, HB1.out, ?_, BW6.out⟩
        rw [HRS.out]
        have h6 := HO6.out
        have hn6 : ((List.drop 0 ([] : List Tr)).reverse ++ [plantT x us]).length = (plantT x us :: List.drop 0 ([] : List Tr)).length := by simp
        rw [hn6] at h6
        exact h6
       case measure => simp [intOf]; omega
      ·simp only [Value.slice.injEq, true_and] at hv
       obtain ⟨rfl, rfl⟩ := hv
       go_wp2_with (first | (rw [← HWA.out]) | (go_at_call 49; refine HOP.out.mono ?_; rintro e w2 ⟨rfl, b2⟩; have BR : Hid (Below wr.heap.size wr w2) := HTA.out.trans (b2.mono HTA.out.size); have r2 := (b2.block _ (Array.getElem?_eq_some_iff.1 HRA.out).1).trans HRA.out; have HX2 := hid (Array.getElem?_eq_some_iff.1 r2).1; have KB : Hid (∀ W, Below w2.heap.size w2 W → W.cell? ⟨wr.heap.size, 0, none⟩ = some (.int .i64 x.1) ∧ W.cell? ⟨wr.heap.size, 1, none⟩ = some (.int .i64 x.2)) := (fun W hW => by have r3 := (hW.block _ (Array.getElem?_eq_some_iff.1 r2).1).trans r2; exact ⟨cell_row r3 0, cell_row r3 1⟩); have BW : Hid (Below w.heap.size w w2) := P3.trans (BR.out.mono P3.size); clear b2 r2))
       have P2w := own_keep P2 BR.out
       have hq2 : q < w2.heap.size := Nat.lt_of_lt_of_le hq BR.out.size
       have HOW : Hid (∀ W, Below w2.heap.size w2 W → W.ownsRow w.heap.size 48 1 (.slice (some ⟨q, 0, none⟩) (st.length - m) cv) (st.drop m).reverse.length (ct (st.drop m).reverse)) := fun W hW => by
        have h1 := own_take (own_keep P2w hW) (m := st.length - m) (by omega)
        have e1 : (ct st.reverse).take (st.length - m) = ct (st.drop m).reverse := by rw [hrv, ct_append, List.take_left' (by rw [ct_length, List.length_reverse, List.length_drop])]
        have e2 : (st.drop m).reverse.length = st.length - m := by rw [List.length_reverse, List.length_drop]
        rw [e1] at h1
        rw [e2]
        exact h1
       obtain ⟨pz, hpz⟩ : ∃ pz, pz = if cv = st.length - m then 0 else st.length - m := ⟨_, rfl⟩
       have HPC : ∀ W, Below w2.heap.size w2 W → (us = [] ∨ ∃ g p, (some ⟨q, pz, none⟩ : Option Addr) = some ⟨g, p, none⟩ ∧ m = us.length ∧ g < W.heap.size ∧ ∀ j (hj : j < us.length), W.cell? ⟨g, p + j, none⟩ = some (tv us[j])) := fun W hW => by
        by_cases hu0 : us = []
        ·exact .inl hu0
        have hm0 : 0 < m := by have := List.length_pos_iff.2 hu0; omega
        have hpz2 : pz = st.length - m := by rw [hpz, if_neg (by omega)]
        refine .inr ⟨q, pz, rfl, hul.symm, Nat.lt_of_lt_of_le hq2 hW.size, fun i hi => ?_⟩
        rw [hpz2]
        have h1 := row_cell (own_keep P2w hW) (st.length - m + i) (by rw [List.length_reverse]; omega)
        rw [h1]
        have e2 : (st.drop m).reverse.length = st.length - m := by rw [List.length_reverse, List.length_drop]
        have e3 : st.reverse[st.length - m + i]? = us[i]? := by rw [hrv, List.getElem?_append_right (by omega), e2, Nat.add_sub_cancel_left]
        rw [List.getElem?_eq_getElem (by rw [List.length_reverse]; omega), List.getElem?_eq_getElem hi] at e3
        rw [Option.some.inj e3]
       have HPL : Hid (∀ W, Below w2.heap.size w2 W → Calls Tryz.prog 50 #[ndV x, .slice (some ⟨q, pz, none⟩) m (cv - (st.length - m))] W fun e w' => e = .returned (.iface tk tu) ∧ Below W.heap.size W w') := fun W hW => ET.out ▸ HU.out us hul HNB.out _ _ _ W (HPC W hW)
       have HPZ := hid hpz
       clear HPC hpz
       have HLT : Hid (∀ k, (Value.slice (some ⟨q, 0, none⟩) (st.length - m) cv).ownBlock = some k → w.heap.size ≤ k) := fun k hk => by simp [Value.ownBlock] at hk; omega
       have HNE : Hid ((Value.slice (some ⟨q, 0, none⟩) (st.length - m) cv).ownBlock ≠ some wr.heap.size) := by show _ ≠ _; simp [Value.ownBlock]; omega
       have KG : Hid (∀ Y Z, Below w2.heap.size w2 Y → Y.grownBy Z (Value.slice (some ⟨q, 0, none⟩) (st.length - m) cv).ownBlock → Z.cell? ⟨wr.heap.size, 0, none⟩ = some (.int .i64 x.1) ∧ Z.cell? ⟨wr.heap.size, 1, none⟩ = some (.int .i64 x.2)) := fun Y Z hY hZ => by
        have hb := hZ.block wr.heap.size (Nat.lt_of_lt_of_le HX2.out hY.size) (fun e => HNE.out e.symm)
        obtain ⟨k0, k1⟩ := KB.out Y hY
        exact ⟨by rw [← k0]; unfold World.cell?; rw [hb], by rw [← k1]; unfold World.cell?; rw [hb]⟩
       refine wp_region_noPanic ?_
       refine wp_region_held_drew (S := fun W => W.cell? ⟨wr.heap.size, 0, none⟩ = some (.int .i64 x.1) ∧ W.cell? ⟨wr.heap.size, 1, none⟩ = some (.int .i64 x.2)) (by kernel_rfl) (KB.out _ (Below.refl _ _).drew) (fun hHeld => ?_)
       refine wpAnyH_take (i := 0) (v := ?_) (by simp only [List.getElem?_toArray, List.getElem?_cons_zero]; rfl) (by kernel_rfl) (by kernel_rfl) (by kernel_rfl) (fun _ _ _ h => h) (Or.inl ⟨by rfl, ?_⟩) (by assumption) ?_
       rotate_left 1
       ·intro w hSw; (try dsimp only at hSw); go_simp; (try with_reducible rfl)
       try simp only [Act.put, List.setIfInBounds_toArray, List.set_cons_zero, List.set_cons_succ]
       refine wpAnyH_take (i := 1) (v := ?_) (by simp only [List.getElem?_toArray, List.getElem?_cons_succ, List.getElem?_cons_zero]; rfl) (by kernel_rfl) (by kernel_rfl) (by kernel_rfl) (fun _ _ _ h => h) (Or.inl ⟨by rfl, ?_⟩) (by assumption) ?_
       rotate_left 1
       ·intro w hSw; (try dsimp only at hSw); go_simp; (try with_reducible rfl)
       try simp only [Act.put, List.setIfInBounds_toArray, List.set_cons_zero, List.set_cons_succ]
       refine wpAnyH_take (i := 2) (v := .slice (some ⟨q, 0, none⟩) (st.length - m) cv) (by simp only [List.getElem?_toArray, List.getElem?_cons_succ, List.getElem?_cons_zero]; rfl) (by kernel_rfl) (by kernel_rfl) (by kernel_rfl) (fun _ _ _ h => h) (Or.inl ⟨by rfl, ?_⟩) (by assumption) ?_
       ·intro w hSw; (try dsimp only at hSw); (try go_simp); ((try simp); (try omega))
       try simp only [Act.put, List.setIfInBounds_toArray, List.set_cons_zero, List.set_cons_succ]
       refine wpAnyH_take (i := 3) (v := ?_) (by simp only [List.getElem?_toArray, List.getElem?_cons_succ, List.getElem?_cons_zero]; rfl) (by kernel_rfl) (by kernel_rfl) (by kernel_rfl) (fun _ _ _ h => h) (Or.inl ⟨by rfl, ?_⟩) (by assumption) ?_
       rotate_left 1
       ·intro w hSw; (try dsimp only at hSw); go_simp; (try with_reducible rfl)
       try simp only [Act.put, List.setIfInBounds_toArray, List.set_cons_zero, List.set_cons_succ]
       refine wpAnyH_take (i := 4) (v := ?_) (by simp only [List.getElem?_toArray, List.getElem?_cons_succ, List.getElem?_cons_zero]; rfl) (by kernel_rfl) (by kernel_rfl) (by kernel_rfl) (fun _ _ _ h => h) (Or.inl ⟨by rfl, ?_⟩) (by assumption) ?_
       rotate_left 1
       ·intro w hSw; (try dsimp only at hSw); go_simp; (try with_reducible rfl)
       try simp only [Act.put, List.setIfInBounds_toArray, List.set_cons_zero, List.set_cons_succ]
       refine wpAnyH_take (i := 5) (v := ?_) (by simp only [List.getElem?_toArray, List.getElem?_cons_succ, List.getElem?_cons_zero]; rfl) (by kernel_rfl) (by kernel_rfl) (by kernel_rfl) (fun _ _ _ h => h) (Or.inl ⟨by rfl, ?_⟩) (by assumption) ?_
       rotate_left 1
       ·intro w hSw; (try dsimp only at hSw); go_simp; (try with_reducible rfl)
       try simp only [Act.put, List.setIfInBounds_toArray, List.set_cons_zero, List.set_cons_succ]
       refine wpAnyH_take (i := 6) (v := .slice (some ⟨q, pz, none⟩) m (cv - (st.length - m))) (by simp only [List.getElem?_toArray, List.getElem?_cons_succ, List.getElem?_cons_zero]; rfl) (by kernel_rfl) (by kernel_rfl) (by kernel_rfl) (fun _ _ _ h => h) (Or.inl ⟨by rfl, ?_⟩) (by assumption) ?_
       ·intro w hSw; (try dsimp only at hSw); (try go_simp); (rw [if_pos (by omega), HPZ.out, show st.length - (st.length - m) = m by omega]; split <;> rfl)
       try simp only [Act.put, List.setIfInBounds_toArray, List.set_cons_zero, List.set_cons_succ]
       refine wpAnyH_ready (rs := [7]) (by kernel_rfl) (by simp) ?_
       refine AllReadyH.cons (by simp only [List.getElem?_toArray, List.getElem?_cons_succ, List.getElem?_cons_zero]; rfl) (fun K hK => ?_) AllReadyH.nil
       go_simp
       go_at_call 50
       refine Calls.mono (HPL.out _ (by exact (Below.refl _ _).drew)) ?_
       rintro e w4 ⟨rfl, b4⟩
       have B4 : Hid (Below w2.heap.size w2 w4) := (Below.refl _ _).drew.trans b4
       clear b4
       clear hHeld
       refine hK.out _ _ (KB.out _ B4.out) (fun hHeld => ?_)
       clear hK K
       try simp only [Act.put, List.setIfInBounds_toArray, List.set_cons_zero, List.set_cons_succ]
       refine wpAnyH_ready (rs := [8]) (by kernel_rfl) (by simp) ?_
       refine AllReadyH.cons (by simp only [List.getElem?_toArray, List.getElem?_cons_succ, List.getElem?_cons_zero]; rfl) (fun K hK => ?_) AllReadyH.nil
       go_simp
       obtain ⟨Y5, hY5⟩ : ∃ Y5, Y5 = w4.alloc (Obj.cells #[.iface tk tu] 48) := ⟨_, rfl⟩
       have e5 : (if x.1 = 0 then Y5 else Y5) = Y5 := by split <;> rfl
       clear e5
       rw [← hY5]
       have B5 : Hid (Below w2.heap.size w2 Y5) := by rw [hY5]; exact B4.out.alloc B4.out.size _
       have r5 : Y5.cell? ⟨w4.heap.size, 0, none⟩ = some (tv (plantT x us)) := by rw [ET.out, hY5, cell_row (heap_alloc_new w4 _)]; rfl
       clear hY5
       clear hHeld
       refine hK.out _ _ (KB.out _ B5.out) (fun hHeld => ?_)
       clear hK K
       try simp only [Act.put, List.setIfInBounds_toArray, List.set_cons_zero, List.set_cons_succ]
       refine wpAnyH_ready (rs := [9]) (by kernel_rfl) (by simp) ?_
       refine AllReadyH.cons (by simp only [List.getElem?_toArray, List.getElem?_cons_succ, List.getElem?_cons_zero]; rfl) (fun K hK => ?_) AllReadyH.nil
       skip
       refine wp_tree _ _ rfl w.heap.size (.slice (some ⟨q, 0, none⟩) (st.length - m) cv) (st.drop m).reverse (plantT x us) ⟨w4.heap.size, 0, none⟩ rfl (HOW.out _ B5.out) rfl r5 (by rw [List.length_reverse, List.length_drop]; omega) (Nat.le_trans BW.out.size B5.out.size) ?_
       intro v6 w6 ho6 hg6
       have BW6 : Hid (Below w.heap.size w w6) := (BW.out.trans (B5.out.mono BW.out.size)).grown hg6 (Nat.le_trans BW.out.size B5.out.size) (fun k hk => HLT.out k hk)
       have HO6 := hid ho6
       have kc6 : w6.cell? ⟨wr.heap.size, 0, none⟩ = some (.int .i64 x.1) ∧ w6.cell? ⟨wr.heap.size, 1, none⟩ = some (.int .i64 x.2) := KG.out _ _ B5.out hg6
       clear ho6 hg6
       clear hHeld
       refine hK.out _ _ kc6 (fun hHeld => ?_)
       clear hK K
       try simp only [Act.put, List.setIfInBounds_toArray, List.set_cons_zero, List.set_cons_succ]
       refine wpAnyH_take (i := 10) (v := ?_) (by simp only [List.getElem?_toArray, List.getElem?_cons_succ, List.getElem?_cons_zero]; rfl) (by kernel_rfl) (by kernel_rfl) (by kernel_rfl) (fun _ _ _ h => h) (Or.inl ⟨by rfl, ?_⟩) (by assumption) ?_
       rotate_left 1
       ·intro w hSw; (try dsimp only at hSw); go_simp; (try with_reducible rfl)
       try simp only [Act.put, List.setIfInBounds_toArray, List.set_cons_zero, List.set_cons_succ]
       refine wpAnyH_done (by kernel_rfl) ?_ _
       refine NoPanic.normal ?_
       go_wp2
       go_roundw
       case rel => 
        obtain ⟨sx, cx, hsx⟩ : ∃ sx cx, v6 = .slice sx (plantT x us :: st.drop m).length cx := by
         have hn6 : ((st.drop m).reverse ++ [plantT x us]).length = (plantT x us :: st.drop m).length := by simp
         rcases own_forms HO6.out with ⟨hv, h0⟩ | ⟨g, c, hv, _⟩
         ·exact ⟨none, 0, by rw [hv, ← hn6, h0]⟩
         ·exact ⟨_, _, by rw [hv, hn6]⟩
        subst hsx
        refine ⟨j + 1, plantT x us :: st.drop m, sx, cx, by go_num, rfl, hlt, hnl, HB1.out, ?_, BW6.out⟩
        rw [HRS.out]
        have h6 := HO6.out
        have hn6 : ((st.drop m).reverse ++ [plantT x us]).length = (plantT x us :: st.drop m).length := by simp
        rw [hn6] at h6
        exact h6
       case measure => simp [intOf]; omega
     ·have hw0 : wrap64 ((st.length : Int) - (m : Int)) = (st.length : Int) - (m : Int) := IntWalk.wrap64_in _ ⟨by omega, by omega⟩
      have hneg : (st.length : Int) - (m : Int) < 0 := by omega
      have HG : Hid (growV f = .tuple #[.nilIface, .bool false]) := grow_none (by rw [HB0.out, HJ.out, if_neg (fun h => hms h.2)]; rfl)
      clear hb HU hms
      go_wp2_with (first | (rw [← HWA.out]) | (go_at_call 49; refine HOP.out.mono ?_; rintro e w2 ⟨rfl, b2⟩; have B2 := hid b2; clear b2))
      exact bodyPost_ret (v := .tuple #[.nilIface, .bool false]) (by simp [results, Tryz.results32, go_sem]) rfl ⟨by rw [HG.out], P3.trans ((HTA.out.trans (B2.out.mono HTA.out.size)).mono P3.size)⟩
   ·obtain ⟨P1, P2, P3⟩ := HP.out
    obtain rfl : j = f.length := by omega
    rw [List.drop_length, build] at P1
    have BW := hid P3
    by_cases h1 : st.length = 1
    ·obtain ⟨t, rfl⟩ : ∃ t, st = [t] := List.length_eq_one_iff.1 h1
     have htr : treeOf f = some t := by unfold treeOf; rw [P1]
     obtain ⟨hg, hp⟩ := treeOf_some htr
     have HV : Hid (growV f = if t.need true ≤ 64 then .tuple #[tv t, .bool true] else .tuple #[.nilIface, .bool false]) := by
      show _ = _
      unfold growV
      rw [htr]
      by_cases hn : t.need true ≤ 64
      ·simp only [if_pos hn]; rw [if_pos ⟨by omega, hn⟩]
      ·simp only [if_neg hn]; rw [if_neg (fun h => hn h.2)]
     have hne := need_le t true
     rw [hp] at hne
     have HN := fun W => hid (nest_top t hg (by rw [hp]; omega) W)
     rcases own_forms P2 with ⟨hv, h0⟩ | ⟨q, c, hv, hq, hqc, hqb⟩
     ·simp at h0
     ·simp only [Value.slice.injEq, true_and] at hv
      obtain ⟨rfl, rfl⟩ := hv
      have k0 := row_cell P2 0 (by simp)
      have k1 : ∀ W, Below wr.heap.size wr W → W.cell? ⟨q, 0, none⟩ = some (tv t) := fun W hW => (hW.cell (p := ⟨q, 0, none⟩) hq).trans k0
      obtain ⟨k, u, e⟩ := tv_form t
      rw [e] at HV
      simp only [e] at HN k1
      obtain ⟨n, hn⟩ : ∃ n, n = t.need true := ⟨_, rfl⟩
      rw [← hn] at HV hne
      simp only [← hn] at HN
      have k2 : wr.cell? ⟨q, 0, none⟩ = some (.iface k u) := k1 wr (Below.refl _ _)
      have K1 := hid k1
      clear hn e htr hg hp P1 P2 HP h1 k0 k1 hst P3
      by_cases h64 : n ≤ 64
      ·rw [if_pos h64] at HV
       have h65 : ¬ ((64 : Int) < (n : Int)) := by omega
       go_wp2_with (go_at_call 51; refine (HN _).out.mono ?_; rintro e w2 ⟨rfl, b2⟩; have B2 := hid b2; have k3 := K1.out w2 b2; clear b2)
       exact bodyPost_ret (v := .tuple #[.iface k u, .bool true]) (by simp [results, Tryz.results32, go_sem]) rfl ⟨by rw [HV.out], BW.out.trans (B2.out.mono BW.out.size)⟩
      ·rw [if_neg h64] at HV
       have h65 : (64 : Int) < (n : Int) := by omega
       go_wp2_with (go_at_call 51; refine (HN _).out.mono ?_; rintro e w2 ⟨rfl, b2⟩; have B2 := hid b2; have k3 := K1.out w2 b2; clear b2)
       exact bodyPost_ret (v := .tuple #[.nilIface, .bool false]) (by simp [results, Tryz.results32, go_sem]) rfl ⟨by rw [HV.out], BW.out.trans (B2.out.mono BW.out.size)⟩
    ·have HV : Hid (growV f = .tuple #[.nilIface, .bool false]) := by
      show _ = _
      unfold growV treeOf
      rw [P1]
      match st, h1 with
      | [], _ => rfl
      | [t], h1 => exact absurd rfl h1
      | a :: b :: r, _ => rfl
     have h2 : ((st.length : Int) != 1) = true := by simp; omega
     clear P1 P2 HP
     go_wp2
     exact bodyPost_ret (v := .tuple #[.nilIface, .bool false]) (by simp [results, Tryz.results32, go_sem]) rfl ⟨by rw [HV.out], BW.out⟩

end Go.Proofs.YtdkboifpdodonacGreatDoor
