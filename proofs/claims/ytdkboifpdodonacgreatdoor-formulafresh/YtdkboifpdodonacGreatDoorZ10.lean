import Derived.Test.YtdkboifpdodonacGreatDoorZ09
set_option linter.unusedSimpArgs false
/-
 The landed scanner: tokens of numbers, of single runes.
-/
namespace Go.Proofs.YtdkboifpdodonacGreatDoor
open Go.RowKit Go.Deep PureCnf PureForm
set_option maxRecDepth 100000

abbrev tokV (k n c a : Int) : Value := .agg #[.int .i64 k, .int .i64 n, .int .i64 c, .int .i64 a]
theorem below4 {w W : World} (h : Below w.heap.size w W) (v0 v1 v2 v3 : Value) : Below w.heap.size w ((((W.setCell ⟨w.heap.size, 0, none⟩ v0).setCell ⟨w.heap.size, 1, none⟩ v1).setCell ⟨w.heap.size, 2, none⟩ v2).setCell ⟨w.heap.size, 3, none⟩ v3) :=
 (((h.setCell (p := ⟨w.heap.size, 0, none⟩) (Nat.le_refl _) _).setCell (p := ⟨w.heap.size, 1, none⟩) (Nat.le_refl _) _).setCell (p := ⟨w.heap.size, 2, none⟩) (Nat.le_refl _) _).setCell (p := ⟨w.heap.size, 3, none⟩) (Nat.le_refl _) _

set_option maxHeartbeats 1000000 in
theorem ofNumber_any (k : Int) (s : ByteArray) (most : Nat) (w : World) (hs : s.size ≤ 1099511627776) (hm : most ≤ 1099511627776) :
  Calls Tryz.prog 99 #[.int .i64 k, .string s, .int .i64 (most : Int)] w fun e w' => e = .returned (if 0 ≤ numB s.data.toList most then tokV k (numB s.data.toList most) 0 0 else tokV 17 0 133 0) ∧ Below w.heap.size w w' := by
 obtain ⟨WA, hWA⟩ : ∃ WA, WA = w.alloc (Obj.cells #[.int .i64 0, .int .i64 0, .int .i64 0, .int .i64 0] 84) := ⟨_, rfl⟩
 have hB : Below w.heap.size w WA := by rw [hWA]; exact below_box _ _
 have r0 : WA.heap[w.heap.size]? = some (.cells #[.int .i64 0, .int .i64 0, .int .i64 0, .int .i64 0] 84 (0, 0)) := by rw [hWA]; exact heap_alloc_new w _
 have HN := hid (number33_any s most WA hs hm)
 have HR0 := hid r0
 have HB := hid hB
 have HWA := hid hWA
 clear hWA hB r0
 by_cases h0 : 0 ≤ numB s.data.toList most
 ·have e1 : numV s.data.toList most = numB s.data.toList most ∧ numY s.data.toList most = true := by unfold numV numY; simp [h0]
  rw [e1.1, e1.2] at HN
  simp only [if_pos h0]
  clear e1 h0
  obtain ⟨nn, hnn⟩ : ∃ nn, nn = numB s.data.toList most := ⟨_, rfl⟩
  rw [← hnn] at HN ⊢
  clear hnn
  go_enter Tryz.func99, Tryz.ntmps99
  go_wp2_with (first | (rw [← HWA.out]) | (go_at_call 79; refine HN.out.mono ?_; rintro e w1 ⟨rfl, b1⟩; have HB1 := hid (HB.out.trans (b1.mono HB.out.size)); have r1 := (b1.block _ (Array.getElem?_eq_some_iff.1 HR0.out).1).trans HR0.out; have c1 := fun j => cell_row r1 j; have f1 := fun j => unfrozen_row r1 j; clear b1 r1))
  exact bodyPost_ret (v := tokV k nn 0 0) (by simp [results, Tryz.results99, go_sem, c1]) rfl ⟨rfl, below4 HB1.out _ _ _ _⟩
 ·have e1 : numV s.data.toList most = 0 ∧ numY s.data.toList most = false := by unfold numV numY; simp [h0]
  rw [e1.1, e1.2] at HN
  simp only [if_neg h0]
  clear e1 h0
  go_enter Tryz.func99, Tryz.ntmps99
  go_wp2_with (first | (rw [← HWA.out]) | (go_at_call 79; refine HN.out.mono ?_; rintro e w1 ⟨rfl, b1⟩; have HB1 := hid (HB.out.trans (b1.mono HB.out.size)); have r1 := (b1.block _ (Array.getElem?_eq_some_iff.1 HR0.out).1).trans HR0.out; have c1 := fun j => cell_row r1 j; have f1 := fun j => unfrozen_row r1 j; clear b1 r1))
  exact bodyPost_ret (v := tokV 17 0 133 0) (by simp [results, Tryz.results99, go_sem, c1]) rfl ⟨rfl, below4 HB1.out _ _ _ _⟩

/-! ### single runes -/
set_option maxHeartbeats 400000 in
theorem ofRune_33 (w : World) : Calls Tryz.prog 100 #[.int .i32 33] w fun e w' => e = .returned (tokV 3 0 0 0) ∧ Below w.heap.size w w' := by
 obtain ⟨WA, hWA⟩ : ∃ WA, WA = w.alloc (Obj.cells #[.int .i64 0, .int .i64 0, .int .i64 0, .int .i64 0] 84) := ⟨_, rfl⟩
 have hB : Below w.heap.size w WA := by rw [hWA]; exact below_box _ _
 have r0 : WA.heap[w.heap.size]? = some (.cells #[.int .i64 0, .int .i64 0, .int .i64 0, .int .i64 0] 84 (0, 0)) := by rw [hWA]; exact heap_alloc_new w _
 have HR0 := hid r0
 have HB := hid hB
 have HWA := hid hWA
 have c0 := fun j => cell_row r0 j
 have f0 := fun j => unfrozen_row r0 j
 clear hWA hB r0
 go_enter Tryz.func100, Tryz.ntmps100
 go_wp2_with (rw [← HWA.out])
 exact bodyPost_ret (v := tokV 3 0 0 0) (by simp [results, Tryz.results100, go_sem, c0]) rfl ⟨rfl, below4 HB.out _ _ _ _⟩
set_option maxHeartbeats 400000 in
theorem ofRune_126 (w : World) : Calls Tryz.prog 100 #[.int .i32 126] w fun e w' => e = .returned (tokV 3 0 0 0) ∧ Below w.heap.size w w' := by
 obtain ⟨WA, hWA⟩ : ∃ WA, WA = w.alloc (Obj.cells #[.int .i64 0, .int .i64 0, .int .i64 0, .int .i64 0] 84) := ⟨_, rfl⟩
 have hB : Below w.heap.size w WA := by rw [hWA]; exact below_box _ _
 have r0 : WA.heap[w.heap.size]? = some (.cells #[.int .i64 0, .int .i64 0, .int .i64 0, .int .i64 0] 84 (0, 0)) := by rw [hWA]; exact heap_alloc_new w _
 have HR0 := hid r0
 have HB := hid hB
 have HWA := hid hWA
 have c0 := fun j => cell_row r0 j
 have f0 := fun j => unfrozen_row r0 j
 clear hWA hB r0
 go_enter Tryz.func100, Tryz.ntmps100
 go_wp2_with (rw [← HWA.out])
 exact bodyPost_ret (v := tokV 3 0 0 0) (by simp [results, Tryz.results100, go_sem, c0]) rfl ⟨rfl, below4 HB.out _ _ _ _⟩
set_option maxHeartbeats 400000 in
theorem ofRune_172 (w : World) : Calls Tryz.prog 100 #[.int .i32 172] w fun e w' => e = .returned (tokV 3 0 0 0) ∧ Below w.heap.size w w' := by
 obtain ⟨WA, hWA⟩ : ∃ WA, WA = w.alloc (Obj.cells #[.int .i64 0, .int .i64 0, .int .i64 0, .int .i64 0] 84) := ⟨_, rfl⟩
 have hB : Below w.heap.size w WA := by rw [hWA]; exact below_box _ _
 have r0 : WA.heap[w.heap.size]? = some (.cells #[.int .i64 0, .int .i64 0, .int .i64 0, .int .i64 0] 84 (0, 0)) := by rw [hWA]; exact heap_alloc_new w _
 have HR0 := hid r0
 have HB := hid hB
 have HWA := hid hWA
 have c0 := fun j => cell_row r0 j
 have f0 := fun j => unfrozen_row r0 j
 clear hWA hB r0
 go_enter Tryz.func100, Tryz.ntmps100
 go_wp2_with (rw [← HWA.out])
 exact bodyPost_ret (v := tokV 3 0 0 0) (by simp [results, Tryz.results100, go_sem, c0]) rfl ⟨rfl, below4 HB.out _ _ _ _⟩
set_option maxHeartbeats 400000 in
theorem ofRune_38 (w : World) : Calls Tryz.prog 100 #[.int .i32 38] w fun e w' => e = .returned (tokV 6 0 0 0) ∧ Below w.heap.size w w' := by
 obtain ⟨WA, hWA⟩ : ∃ WA, WA = w.alloc (Obj.cells #[.int .i64 0, .int .i64 0, .int .i64 0, .int .i64 0] 84) := ⟨_, rfl⟩
 have hB : Below w.heap.size w WA := by rw [hWA]; exact below_box _ _
 have r0 : WA.heap[w.heap.size]? = some (.cells #[.int .i64 0, .int .i64 0, .int .i64 0, .int .i64 0] 84 (0, 0)) := by rw [hWA]; exact heap_alloc_new w _
 have HR0 := hid r0
 have HB := hid hB
 have HWA := hid hWA
 have c0 := fun j => cell_row r0 j
 have f0 := fun j => unfrozen_row r0 j
 clear hWA hB r0
 go_enter Tryz.func100, Tryz.ntmps100
 go_wp2_with (rw [← HWA.out])
 exact bodyPost_ret (v := tokV 6 0 0 0) (by simp [results, Tryz.results100, go_sem, c0]) rfl ⟨rfl, below4 HB.out _ _ _ _⟩
set_option maxHeartbeats 400000 in
theorem ofRune_8743 (w : World) : Calls Tryz.prog 100 #[.int .i32 8743] w fun e w' => e = .returned (tokV 6 0 0 0) ∧ Below w.heap.size w w' := by
 obtain ⟨WA, hWA⟩ : ∃ WA, WA = w.alloc (Obj.cells #[.int .i64 0, .int .i64 0, .int .i64 0, .int .i64 0] 84) := ⟨_, rfl⟩
 have hB : Below w.heap.size w WA := by rw [hWA]; exact below_box _ _
 have r0 : WA.heap[w.heap.size]? = some (.cells #[.int .i64 0, .int .i64 0, .int .i64 0, .int .i64 0] 84 (0, 0)) := by rw [hWA]; exact heap_alloc_new w _
 have HR0 := hid r0
 have HB := hid hB
 have HWA := hid hWA
 have c0 := fun j => cell_row r0 j
 have f0 := fun j => unfrozen_row r0 j
 clear hWA hB r0
 go_enter Tryz.func100, Tryz.ntmps100
 go_wp2_with (rw [← HWA.out])
 exact bodyPost_ret (v := tokV 6 0 0 0) (by simp [results, Tryz.results100, go_sem, c0]) rfl ⟨rfl, below4 HB.out _ _ _ _⟩
set_option maxHeartbeats 400000 in
theorem ofRune_124 (w : World) : Calls Tryz.prog 100 #[.int .i32 124] w fun e w' => e = .returned (tokV 7 0 0 0) ∧ Below w.heap.size w w' := by
 obtain ⟨WA, hWA⟩ : ∃ WA, WA = w.alloc (Obj.cells #[.int .i64 0, .int .i64 0, .int .i64 0, .int .i64 0] 84) := ⟨_, rfl⟩
 have hB : Below w.heap.size w WA := by rw [hWA]; exact below_box _ _
 have r0 : WA.heap[w.heap.size]? = some (.cells #[.int .i64 0, .int .i64 0, .int .i64 0, .int .i64 0] 84 (0, 0)) := by rw [hWA]; exact heap_alloc_new w _
 have HR0 := hid r0
 have HB := hid hB
 have HWA := hid hWA
 have c0 := fun j => cell_row r0 j
 have f0 := fun j => unfrozen_row r0 j
 clear hWA hB r0
 go_enter Tryz.func100, Tryz.ntmps100
 go_wp2_with (rw [← HWA.out])
 exact bodyPost_ret (v := tokV 7 0 0 0) (by simp [results, Tryz.results100, go_sem, c0]) rfl ⟨rfl, below4 HB.out _ _ _ _⟩
set_option maxHeartbeats 400000 in
theorem ofRune_8744 (w : World) : Calls Tryz.prog 100 #[.int .i32 8744] w fun e w' => e = .returned (tokV 7 0 0 0) ∧ Below w.heap.size w w' := by
 obtain ⟨WA, hWA⟩ : ∃ WA, WA = w.alloc (Obj.cells #[.int .i64 0, .int .i64 0, .int .i64 0, .int .i64 0] 84) := ⟨_, rfl⟩
 have hB : Below w.heap.size w WA := by rw [hWA]; exact below_box _ _
 have r0 : WA.heap[w.heap.size]? = some (.cells #[.int .i64 0, .int .i64 0, .int .i64 0, .int .i64 0] 84 (0, 0)) := by rw [hWA]; exact heap_alloc_new w _
 have HR0 := hid r0
 have HB := hid hB
 have HWA := hid hWA
 have c0 := fun j => cell_row r0 j
 have f0 := fun j => unfrozen_row r0 j
 clear hWA hB r0
 go_enter Tryz.func100, Tryz.ntmps100
 go_wp2_with (rw [← HWA.out])
 exact bodyPost_ret (v := tokV 7 0 0 0) (by simp [results, Tryz.results100, go_sem, c0]) rfl ⟨rfl, below4 HB.out _ _ _ _⟩
set_option maxHeartbeats 400000 in
theorem ofRune_94 (w : World) : Calls Tryz.prog 100 #[.int .i32 94] w fun e w' => e = .returned (tokV 8 0 0 0) ∧ Below w.heap.size w w' := by
 obtain ⟨WA, hWA⟩ : ∃ WA, WA = w.alloc (Obj.cells #[.int .i64 0, .int .i64 0, .int .i64 0, .int .i64 0] 84) := ⟨_, rfl⟩
 have hB : Below w.heap.size w WA := by rw [hWA]; exact below_box _ _
 have r0 : WA.heap[w.heap.size]? = some (.cells #[.int .i64 0, .int .i64 0, .int .i64 0, .int .i64 0] 84 (0, 0)) := by rw [hWA]; exact heap_alloc_new w _
 have HR0 := hid r0
 have HB := hid hB
 have HWA := hid hWA
 have c0 := fun j => cell_row r0 j
 have f0 := fun j => unfrozen_row r0 j
 clear hWA hB r0
 go_enter Tryz.func100, Tryz.ntmps100
 go_wp2_with (rw [← HWA.out])
 exact bodyPost_ret (v := tokV 8 0 0 0) (by simp [results, Tryz.results100, go_sem, c0]) rfl ⟨rfl, below4 HB.out _ _ _ _⟩
set_option maxHeartbeats 400000 in
theorem ofRune_8853 (w : World) : Calls Tryz.prog 100 #[.int .i32 8853] w fun e w' => e = .returned (tokV 8 0 0 0) ∧ Below w.heap.size w w' := by
 obtain ⟨WA, hWA⟩ : ∃ WA, WA = w.alloc (Obj.cells #[.int .i64 0, .int .i64 0, .int .i64 0, .int .i64 0] 84) := ⟨_, rfl⟩
 have hB : Below w.heap.size w WA := by rw [hWA]; exact below_box _ _
 have r0 : WA.heap[w.heap.size]? = some (.cells #[.int .i64 0, .int .i64 0, .int .i64 0, .int .i64 0] 84 (0, 0)) := by rw [hWA]; exact heap_alloc_new w _
 have HR0 := hid r0
 have HB := hid hB
 have HWA := hid hWA
 have c0 := fun j => cell_row r0 j
 have f0 := fun j => unfrozen_row r0 j
 clear hWA hB r0
 go_enter Tryz.func100, Tryz.ntmps100
 go_wp2_with (rw [← HWA.out])
 exact bodyPost_ret (v := tokV 8 0 0 0) (by simp [results, Tryz.results100, go_sem, c0]) rfl ⟨rfl, below4 HB.out _ _ _ _⟩
set_option maxHeartbeats 400000 in
theorem ofRune_8594 (w : World) : Calls Tryz.prog 100 #[.int .i32 8594] w fun e w' => e = .returned (tokV 9 0 0 0) ∧ Below w.heap.size w w' := by
 obtain ⟨WA, hWA⟩ : ∃ WA, WA = w.alloc (Obj.cells #[.int .i64 0, .int .i64 0, .int .i64 0, .int .i64 0] 84) := ⟨_, rfl⟩
 have hB : Below w.heap.size w WA := by rw [hWA]; exact below_box _ _
 have r0 : WA.heap[w.heap.size]? = some (.cells #[.int .i64 0, .int .i64 0, .int .i64 0, .int .i64 0] 84 (0, 0)) := by rw [hWA]; exact heap_alloc_new w _
 have HR0 := hid r0
 have HB := hid hB
 have HWA := hid hWA
 have c0 := fun j => cell_row r0 j
 have f0 := fun j => unfrozen_row r0 j
 clear hWA hB r0
 go_enter Tryz.func100, Tryz.ntmps100
 go_wp2_with (rw [← HWA.out])
 exact bodyPost_ret (v := tokV 9 0 0 0) (by simp [results, Tryz.results100, go_sem, c0]) rfl ⟨rfl, below4 HB.out _ _ _ _⟩
set_option maxHeartbeats 400000 in
theorem ofRune_8596 (w : World) : Calls Tryz.prog 100 #[.int .i32 8596] w fun e w' => e = .returned (tokV 10 0 0 0) ∧ Below w.heap.size w w' := by
 obtain ⟨WA, hWA⟩ : ∃ WA, WA = w.alloc (Obj.cells #[.int .i64 0, .int .i64 0, .int .i64 0, .int .i64 0] 84) := ⟨_, rfl⟩
 have hB : Below w.heap.size w WA := by rw [hWA]; exact below_box _ _
 have r0 : WA.heap[w.heap.size]? = some (.cells #[.int .i64 0, .int .i64 0, .int .i64 0, .int .i64 0] 84 (0, 0)) := by rw [hWA]; exact heap_alloc_new w _
 have HR0 := hid r0
 have HB := hid hB
 have HWA := hid hWA
 have c0 := fun j => cell_row r0 j
 have f0 := fun j => unfrozen_row r0 j
 clear hWA hB r0
 go_enter Tryz.func100, Tryz.ntmps100
 go_wp2_with (rw [← HWA.out])
 exact bodyPost_ret (v := tokV 10 0 0 0) (by simp [results, Tryz.results100, go_sem, c0]) rfl ⟨rfl, below4 HB.out _ _ _ _⟩
set_option maxHeartbeats 400000 in
theorem ofRune_8707 (w : World) : Calls Tryz.prog 100 #[.int .i32 8707] w fun e w' => e = .returned (tokV 4 0 0 0) ∧ Below w.heap.size w w' := by
 obtain ⟨WA, hWA⟩ : ∃ WA, WA = w.alloc (Obj.cells #[.int .i64 0, .int .i64 0, .int .i64 0, .int .i64 0] 84) := ⟨_, rfl⟩
 have hB : Below w.heap.size w WA := by rw [hWA]; exact below_box _ _
 have r0 : WA.heap[w.heap.size]? = some (.cells #[.int .i64 0, .int .i64 0, .int .i64 0, .int .i64 0] 84 (0, 0)) := by rw [hWA]; exact heap_alloc_new w _
 have HR0 := hid r0
 have HB := hid hB
 have HWA := hid hWA
 have c0 := fun j => cell_row r0 j
 have f0 := fun j => unfrozen_row r0 j
 clear hWA hB r0
 go_enter Tryz.func100, Tryz.ntmps100
 go_wp2_with (rw [← HWA.out])
 exact bodyPost_ret (v := tokV 4 0 0 0) (by simp [results, Tryz.results100, go_sem, c0]) rfl ⟨rfl, below4 HB.out _ _ _ _⟩
set_option maxHeartbeats 400000 in
theorem ofRune_8704 (w : World) : Calls Tryz.prog 100 #[.int .i32 8704] w fun e w' => e = .returned (tokV 5 0 0 0) ∧ Below w.heap.size w w' := by
 obtain ⟨WA, hWA⟩ : ∃ WA, WA = w.alloc (Obj.cells #[.int .i64 0, .int .i64 0, .int .i64 0, .int .i64 0] 84) := ⟨_, rfl⟩
 have hB : Below w.heap.size w WA := by rw [hWA]; exact below_box _ _
 have r0 : WA.heap[w.heap.size]? = some (.cells #[.int .i64 0, .int .i64 0, .int .i64 0, .int .i64 0] 84 (0, 0)) := by rw [hWA]; exact heap_alloc_new w _
 have HR0 := hid r0
 have HB := hid hB
 have HWA := hid hWA
 have c0 := fun j => cell_row r0 j
 have f0 := fun j => unfrozen_row r0 j
 clear hWA hB r0
 go_enter Tryz.func100, Tryz.ntmps100
 go_wp2_with (rw [← HWA.out])
 exact bodyPost_ret (v := tokV 5 0 0 0) (by simp [results, Tryz.results100, go_sem, c0]) rfl ⟨rfl, below4 HB.out _ _ _ _⟩
set_option maxHeartbeats 400000 in
theorem ofRune_8868 (w : World) : Calls Tryz.prog 100 #[.int .i32 8868] w fun e w' => e = .returned (tokV 1 1 0 0) ∧ Below w.heap.size w w' := by
 obtain ⟨WA, hWA⟩ : ∃ WA, WA = w.alloc (Obj.cells #[.int .i64 0, .int .i64 0, .int .i64 0, .int .i64 0] 84) := ⟨_, rfl⟩
 have hB : Below w.heap.size w WA := by rw [hWA]; exact below_box _ _
 have r0 : WA.heap[w.heap.size]? = some (.cells #[.int .i64 0, .int .i64 0, .int .i64 0, .int .i64 0] 84 (0, 0)) := by rw [hWA]; exact heap_alloc_new w _
 have HR0 := hid r0
 have HB := hid hB
 have HWA := hid hWA
 have c0 := fun j => cell_row r0 j
 have f0 := fun j => unfrozen_row r0 j
 clear hWA hB r0
 go_enter Tryz.func100, Tryz.ntmps100
 go_wp2_with (rw [← HWA.out])
 exact bodyPost_ret (v := tokV 1 1 0 0) (by simp [results, Tryz.results100, go_sem, c0]) rfl ⟨rfl, below4 HB.out _ _ _ _⟩
set_option maxHeartbeats 400000 in
theorem ofRune_8869 (w : World) : Calls Tryz.prog 100 #[.int .i32 8869] w fun e w' => e = .returned (tokV 1 0 0 0) ∧ Below w.heap.size w w' := by
 obtain ⟨WA, hWA⟩ : ∃ WA, WA = w.alloc (Obj.cells #[.int .i64 0, .int .i64 0, .int .i64 0, .int .i64 0] 84) := ⟨_, rfl⟩
 have hB : Below w.heap.size w WA := by rw [hWA]; exact below_box _ _
 have r0 : WA.heap[w.heap.size]? = some (.cells #[.int .i64 0, .int .i64 0, .int .i64 0, .int .i64 0] 84 (0, 0)) := by rw [hWA]; exact heap_alloc_new w _
 have HR0 := hid r0
 have HB := hid hB
 have HWA := hid hWA
 have c0 := fun j => cell_row r0 j
 have f0 := fun j => unfrozen_row r0 j
 clear hWA hB r0
 go_enter Tryz.func100, Tryz.ntmps100
 go_wp2_with (rw [← HWA.out])
 exact bodyPost_ret (v := tokV 1 0 0 0) (by simp [results, Tryz.results100, go_sem, c0]) rfl ⟨rfl, below4 HB.out _ _ _ _⟩
set_option maxHeartbeats 400000 in
theorem ofRune_40 (w : World) : Calls Tryz.prog 100 #[.int .i32 40] w fun e w' => e = .returned (tokV 12 0 0 0) ∧ Below w.heap.size w w' := by
 obtain ⟨WA, hWA⟩ : ∃ WA, WA = w.alloc (Obj.cells #[.int .i64 0, .int .i64 0, .int .i64 0, .int .i64 0] 84) := ⟨_, rfl⟩
 have hB : Below w.heap.size w WA := by rw [hWA]; exact below_box _ _
 have r0 : WA.heap[w.heap.size]? = some (.cells #[.int .i64 0, .int .i64 0, .int .i64 0, .int .i64 0] 84 (0, 0)) := by rw [hWA]; exact heap_alloc_new w _
 have HR0 := hid r0
 have HB := hid hB
 have HWA := hid hWA
 have c0 := fun j => cell_row r0 j
 have f0 := fun j => unfrozen_row r0 j
 clear hWA hB r0
 go_enter Tryz.func100, Tryz.ntmps100
 go_wp2_with (rw [← HWA.out])
 exact bodyPost_ret (v := tokV 12 0 0 0) (by simp [results, Tryz.results100, go_sem, c0]) rfl ⟨rfl, below4 HB.out _ _ _ _⟩
set_option maxHeartbeats 400000 in
theorem ofRune_41 (w : World) : Calls Tryz.prog 100 #[.int .i32 41] w fun e w' => e = .returned (tokV 13 0 0 0) ∧ Below w.heap.size w w' := by
 obtain ⟨WA, hWA⟩ : ∃ WA, WA = w.alloc (Obj.cells #[.int .i64 0, .int .i64 0, .int .i64 0, .int .i64 0] 84) := ⟨_, rfl⟩
 have hB : Below w.heap.size w WA := by rw [hWA]; exact below_box _ _
 have r0 : WA.heap[w.heap.size]? = some (.cells #[.int .i64 0, .int .i64 0, .int .i64 0, .int .i64 0] 84 (0, 0)) := by rw [hWA]; exact heap_alloc_new w _
 have HR0 := hid r0
 have HB := hid hB
 have HWA := hid hWA
 have c0 := fun j => cell_row r0 j
 have f0 := fun j => unfrozen_row r0 j
 clear hWA hB r0
 go_enter Tryz.func100, Tryz.ntmps100
 go_wp2_with (rw [← HWA.out])
 exact bodyPost_ret (v := tokV 13 0 0 0) (by simp [results, Tryz.results100, go_sem, c0]) rfl ⟨rfl, below4 HB.out _ _ _ _⟩
set_option maxHeartbeats 400000 in
theorem ofRune_44 (w : World) : Calls Tryz.prog 100 #[.int .i32 44] w fun e w' => e = .returned (tokV 14 0 0 0) ∧ Below w.heap.size w w' := by
 obtain ⟨WA, hWA⟩ : ∃ WA, WA = w.alloc (Obj.cells #[.int .i64 0, .int .i64 0, .int .i64 0, .int .i64 0] 84) := ⟨_, rfl⟩
 have hB : Below w.heap.size w WA := by rw [hWA]; exact below_box _ _
 have r0 : WA.heap[w.heap.size]? = some (.cells #[.int .i64 0, .int .i64 0, .int .i64 0, .int .i64 0] 84 (0, 0)) := by rw [hWA]; exact heap_alloc_new w _
 have HR0 := hid r0
 have HB := hid hB
 have HWA := hid hWA
 have c0 := fun j => cell_row r0 j
 have f0 := fun j => unfrozen_row r0 j
 clear hWA hB r0
 go_enter Tryz.func100, Tryz.ntmps100
 go_wp2_with (rw [← HWA.out])
 exact bodyPost_ret (v := tokV 14 0 0 0) (by simp [results, Tryz.results100, go_sem, c0]) rfl ⟨rfl, below4 HB.out _ _ _ _⟩
set_option maxHeartbeats 400000 in
theorem ofRune_58 (w : World) : Calls Tryz.prog 100 #[.int .i32 58] w fun e w' => e = .returned (tokV 15 0 0 0) ∧ Below w.heap.size w w' := by
 obtain ⟨WA, hWA⟩ : ∃ WA, WA = w.alloc (Obj.cells #[.int .i64 0, .int .i64 0, .int .i64 0, .int .i64 0] 84) := ⟨_, rfl⟩
 have hB : Below w.heap.size w WA := by rw [hWA]; exact below_box _ _
 have r0 : WA.heap[w.heap.size]? = some (.cells #[.int .i64 0, .int .i64 0, .int .i64 0, .int .i64 0] 84 (0, 0)) := by rw [hWA]; exact heap_alloc_new w _
 have HR0 := hid r0
 have HB := hid hB
 have HWA := hid hWA
 have c0 := fun j => cell_row r0 j
 have f0 := fun j => unfrozen_row r0 j
 clear hWA hB r0
 go_enter Tryz.func100, Tryz.ntmps100
 go_wp2_with (rw [← HWA.out])
 exact bodyPost_ret (v := tokV 15 0 0 0) (by simp [results, Tryz.results100, go_sem, c0]) rfl ⟨rfl, below4 HB.out _ _ _ _⟩
set_option maxHeartbeats 800000 in
theorem ofRune_none (r : Int) (h33 : (r == 33) = false) (h126 : (r == 126) = false) (h172 : (r == 172) = false) (h38 : (r == 38) = false) (h8743 : (r == 8743) = false) (h124 : (r == 124) = false) (h8744 : (r == 8744) = false) (h94 : (r == 94) = false) (h8853 : (r == 8853) = false) (h8594 : (r == 8594) = false) (h8596 : (r == 8596) = false) (h8707 : (r == 8707) = false) (h8704 : (r == 8704) = false) (h8868 : (r == 8868) = false) (h8869 : (r == 8869) = false) (h40 : (r == 40) = false) (h41 : (r == 41) = false) (h44 : (r == 44) = false) (h58 : (r == 58) = false) (w : World) : Calls Tryz.prog 100 #[.int .i32 r] w fun e w' => e = .returned (tokV 17 0 130 0) ∧ Below w.heap.size w w' := by
 obtain ⟨WA, hWA⟩ : ∃ WA, WA = w.alloc (Obj.cells #[.int .i64 0, .int .i64 0, .int .i64 0, .int .i64 0] 84) := ⟨_, rfl⟩
 have hB : Below w.heap.size w WA := by rw [hWA]; exact below_box _ _
 have r0 : WA.heap[w.heap.size]? = some (.cells #[.int .i64 0, .int .i64 0, .int .i64 0, .int .i64 0] 84 (0, 0)) := by rw [hWA]; exact heap_alloc_new w _
 have HR0 := hid r0
 have HB := hid hB
 have HWA := hid hWA
 have c0 := fun j => cell_row r0 j
 have f0 := fun j => unfrozen_row r0 j
 clear hWA hB r0
 go_enter Tryz.func100, Tryz.ntmps100
 go_wp2_with (rw [← HWA.out])
 exact bodyPost_ret (v := tokV 17 0 130 0) (by simp [results, Tryz.results100, go_sem, c0]) rfl ⟨rfl, below4 HB.out _ _ _ _⟩
/-- the token of a rune. -/
def runeT (r : Nat) : Int × Int × Int :=
 if r = 33 then (3, 0, 0) else if r = 126 then (3, 0, 0) else if r = 172 then (3, 0, 0) else if r = 38 then (6, 0, 0) else if r = 8743 then (6, 0, 0) else if r = 124 then (7, 0, 0) else if r = 8744 then (7, 0, 0) else if r = 94 then (8, 0, 0) else if r = 8853 then (8, 0, 0) else if r = 8594 then (9, 0, 0) else if r = 8596 then (10, 0, 0) else if r = 8707 then (4, 0, 0) else if r = 8704 then (5, 0, 0) else if r = 8868 then (1, 1, 0) else if r = 8869 then (1, 0, 0) else if r = 40 then (12, 0, 0) else if r = 41 then (13, 0, 0) else if r = 44 then (14, 0, 0) else if r = 58 then (15, 0, 0) else (17, 0, 130)
theorem ofRune_any (r : Nat) (w : World) : Calls Tryz.prog 100 #[.int .i32 (r : Int)] w fun e w' => e = .returned (tokV (runeT r).1 (runeT r).2.1 (runeT r).2.2 0) ∧ Below w.heap.size w w' := by
 by_cases h33 : r = 33
 ·subst h33
  exact ofRune_33 w
 by_cases h126 : r = 126
 ·subst h126
  exact ofRune_126 w
 by_cases h172 : r = 172
 ·subst h172
  exact ofRune_172 w
 by_cases h38 : r = 38
 ·subst h38
  exact ofRune_38 w
 by_cases h8743 : r = 8743
 ·subst h8743
  exact ofRune_8743 w
 by_cases h124 : r = 124
 ·subst h124
  exact ofRune_124 w
 by_cases h8744 : r = 8744
 ·subst h8744
  exact ofRune_8744 w
 by_cases h94 : r = 94
 ·subst h94
  exact ofRune_94 w
 by_cases h8853 : r = 8853
 ·subst h8853
  exact ofRune_8853 w
 by_cases h8594 : r = 8594
 ·subst h8594
  exact ofRune_8594 w
 by_cases h8596 : r = 8596
 ·subst h8596
  exact ofRune_8596 w
 by_cases h8707 : r = 8707
 ·subst h8707
  exact ofRune_8707 w
 by_cases h8704 : r = 8704
 ·subst h8704
  exact ofRune_8704 w
 by_cases h8868 : r = 8868
 ·subst h8868
  exact ofRune_8868 w
 by_cases h8869 : r = 8869
 ·subst h8869
  exact ofRune_8869 w
 by_cases h40 : r = 40
 ·subst h40
  exact ofRune_40 w
 by_cases h41 : r = 41
 ·subst h41
  exact ofRune_41 w
 by_cases h44 : r = 44
 ·subst h44
  exact ofRune_44 w
 by_cases h58 : r = 58
 ·subst h58
  exact ofRune_58 w
 have e : runeT r = (17, 0, 130) := by
  unfold runeT
  rw [if_neg h33, if_neg h126, if_neg h172, if_neg h38, if_neg h8743, if_neg h124, if_neg h8744, if_neg h94, if_neg h8853, if_neg h8594, if_neg h8596, if_neg h8707, if_neg h8704, if_neg h8868, if_neg h8869, if_neg h40, if_neg h41, if_neg h44, if_neg h58]
 rw [e]
 exact ofRune_none r (by simp; omega) (by simp; omega) (by simp; omega) (by simp; omega) (by simp; omega) (by simp; omega) (by simp; omega) (by simp; omega) (by simp; omega) (by simp; omega) (by simp; omega) (by simp; omega) (by simp; omega) (by simp; omega) (by simp; omega) (by simp; omega) (by simp; omega) (by simp; omega) (by simp; omega) w

end Go.Proofs.YtdkboifpdodonacGreatDoor
/-
 The reader by rules, as it goes from token to token: plain mathematics.
-/
namespace PureRd
open PureCnf PureForm

/-- what a token's number may be. -/
structure Fair (t : PureForm.Tok) : Prop where
 op : t.kind = 7 → 6 ≤ t.n ∧ t.n ≤ 10
 quant : t.kind = 5 → t.n = 4 ∨ t.n = 5
 cst : t.kind = 2 → t.n ≤ 1
theorem word_fair (w : List UInt8) (p : Nat) : Fair (wordT w p) := by
 unfold wordT
 split
 ·exact ⟨by simp, by simp, by simp⟩
 ·split
  ·exact ⟨by simp, by simp, by simp⟩
  ·split
   ·exact ⟨by simp, by simp, by simp⟩
   ·split
    ·exact ⟨by simp, by simp, by simp⟩
    ·split
     ·exact ⟨by simp, by simp, by simp⟩
     ·split
      ·split
       ·exact ⟨by simp, by simp, by simp⟩
       ·exact ⟨by simp, by simp, by simp⟩
      ·exact ⟨by simp, by simp, by simp⟩
theorem sign_fair (l : List UInt8) (p : Nat) : ∀ (L : List (List UInt8 × Nat × Nat)), (∀ x ∈ L, (x.2.1 = 7 → 6 ≤ x.2.2 ∧ x.2.2 ≤ 10) ∧ (x.2.1 = 5 → x.2.2 = 4 ∨ x.2.2 = 5) ∧ (x.2.1 = 2 → x.2.2 ≤ 1)) → Fair (PureForm.signT l p L) := by
 intro L
 induction L with
 | nil => intro _; exact ⟨by simp [signT], by simp [signT], by simp [signT]⟩
 | cons x r ih =>
  intro h
  rw [signT]
  split
  ·obtain ⟨h1, h2, h3⟩ := h x (List.mem_cons_self ..)
   exact ⟨h1, h2, h3⟩
  ·exact ih (fun y hy => h y (List.mem_cons_of_mem _ hy))
theorem next_fair (l : List UInt8) (i : Nat) : Fair (nextT l i) := by
 unfold nextT
 split
 ·split
  ·exact word_fair _ _
  ·split
   ·split
    ·exact ⟨by simp, by simp, by simp; omega⟩
    ·exact ⟨by simp, by simp, by simp⟩
   ·exact sign_fair l _ signs (by decide)
 ·exact ⟨by simp, by simp, by simp⟩

/-! ### a token as the landed program has it -/
def kindL (t : PureForm.Tok) : Nat := if t.kind = 0 then 16 else if t.kind = 1 then 17 else if t.kind = 2 then 1 else if t.kind = 3 then 2 else if t.kind = 4 then 3 else if t.kind = 5 then t.n else if t.kind = 6 then 11 else if t.kind = 7 then t.n else t.kind + 4
def numL (t : PureForm.Tok) : Nat := if t.kind = 2 ∨ t.kind = 3 then t.n else 0
def codeL (t : PureForm.Tok) : Nat := if t.kind = 1 then t.n else 0
/-- the fault of a token. -/
def errc (t : PureForm.Tok) (c : Nat) : Nat := if t.kind = 1 then t.n else c

structure KindsL (t : PureForm.Tok) : Prop where
 k0 : kindL t = 16 ↔ t.kind = 0
 k1 : kindL t = 17 ↔ t.kind = 1
 k2 : kindL t = 1 ↔ t.kind = 2
 k3 : kindL t = 2 ↔ t.kind = 3
 k4 : kindL t = 3 ↔ t.kind = 4
 k5 : (kindL t = 4 ∨ kindL t = 5) ↔ t.kind = 5
 k6 : kindL t = 11 ↔ t.kind = 6
 k7 : (6 ≤ kindL t ∧ kindL t ≤ 10) ↔ t.kind = 7
 k8 : kindL t = 12 ↔ t.kind = 8
 k9 : kindL t = 13 ↔ t.kind = 9
 k10 : kindL t = 14 ↔ t.kind = 10
 k11 : kindL t = 15 ↔ t.kind = 11
 n5 : t.kind = 5 → kindL t = t.n
 n7 : t.kind = 7 → kindL t = t.n
theorem kinds_next (l : List UInt8) (i : Nat) : KindsL (nextT l i) := by
 have hf := next_fair l i
 have hk := (next_ok l i).kind
 have h7 := hf.op
 have h5 := hf.quant
 obtain ⟨t, ht⟩ : ∃ t, t = nextT l i := ⟨_, rfl⟩
 rw [← ht] at hk h7 h5 ⊢
 clear hf ht
 obtain ⟨k, n, a, e⟩ := t
 simp only at hk h7 h5
 have hc : k = 0 ∨ k = 1 ∨ k = 2 ∨ k = 3 ∨ k = 4 ∨ k = 5 ∨ k = 6 ∨ k = 7 ∨ k = 8 ∨ k = 9 ∨ k = 10 ∨ k = 11 := by omega
 rcases hc with rfl | rfl | rfl | rfl | rfl | rfl | rfl | rfl | rfl | rfl | rfl | rfl
 all_goals
  simp at h7 h5
  constructor <;> simp [kindL] <;> omega

/-! ### the reader between two tokens -/
structure Q where
 fault : Option (Nat × Nat)
 at_ : Nat
 opn : Nat
 made : Nat

variable {l : List UInt8}
/-- of a fault: the token that is looked at has it. -/
def Q.err (l : List UInt8) (q : Q) (c : Nat) : Q := { q with fault := some (errc (nextT l q.at_) c, (nextT l q.at_).at_) }
def Q.step (l : List UInt8) (q : Q) : Q := { q with at_ := (nextT l q.at_).end_ }
def Q.kind (l : List UInt8) (q : Q) : Nat := if q.fault = none then kindL (nextT l q.at_) else 17
def Q.num (l : List UInt8) (q : Q) : Nat := if q.fault = none then numL (nextT l q.at_) else 0
def Q.adv (l : List UInt8) (q : Q) : Q := if q.fault = none then q.step l else q
def Q.ref (l : List UInt8) (q : Q) (c : Nat) : Q := if q.fault = none then q.err l c else q
def Q.pass (l : List UInt8) (q : Q) (k : Nat) : Q := if q.kind l = k then q.adv l else q.ref l 131
def Q.passN (l : List UInt8) (q : Q) : Q := if q.fault = none then (if 65536 ≤ q.made then { q with made := q.made + 1 }.err l 8 else { q with made := q.made + 1 }.step l) else q
def Q.ent (l : List UInt8) (q : Q) : Q := if q.fault = none then (if 64 ≤ q.opn then { q with opn := q.opn + 1 }.err l 132 else { q with opn := q.opn + 1 }) else q
def Q.lev (q : Q) : Q := if q.fault = none then { q with opn := q.opn - 1 } else q

/-- a fault stays; without one the reader only goes on. -/
structure Mono (l : List UInt8) (d : Int) (q q' : Q) : Prop where
 dead : ∀ f, q.fault = some f → q'.fault = some f
 live : q'.fault = none → (q'.opn : Int) = q.opn + d ∧ q.at_ ≤ q'.at_ ∧ (q.at_ ≤ l.length → q'.at_ ≤ l.length)
theorem Mono.back {d : Int} {q q' : Q} (h : Mono l d q q') (hn : q'.fault = none) : q.fault = none := by
 cases hq : q.fault with
 | none => rfl
 | some f => have := h.dead f hq; rw [hn] at this; cases this
theorem Mono.refl (q : Q) : Mono l 0 q q := ⟨fun _ h => h, fun _ => ⟨by omega, Nat.le_refl _, fun h => h⟩⟩
theorem Mono.trans {d d' : Int} {q q' q'' : Q} (h : Mono l d q q') (h' : Mono l d' q' q'') : Mono l (d + d') q q'' := by
 refine ⟨fun f hf => h'.dead f (h.dead f hf), fun hn => ?_⟩
 obtain ⟨a1, a2, a3⟩ := h'.live hn
 obtain ⟨b1, b2, b3⟩ := h.live (h'.back hn)
 exact ⟨by omega, by omega, fun x => a3 (b3 x)⟩
theorem end_ge (l : List UInt8) (i : Nat) (hk : (nextT l i).kind ≠ 0) : i < (nextT l i).end_ ∧ (nextT l i).end_ ≤ l.length := (next_ok l i).end_ hk
theorem mono_step {q : Q} (hk : (nextT l q.at_).kind ≠ 0) : Mono l 0 q (q.step l) := by
 obtain ⟨h1, h2⟩ := end_ge l q.at_ hk
 exact ⟨fun f h => h, fun _ => ⟨by simp [Q.step], by simp [Q.step]; omega, fun _ => by simpa [Q.step] using h2⟩⟩
theorem mono_err {q : Q} {d : Int} (c : Nat) (q0 : Q) (h0 : q0.fault = none) : Mono l d q0 (q.err l c) := ⟨fun f h => (by rw [h0] at h; cases h), fun h => by simp [Q.err] at h⟩
theorem mono_adv {q : Q} (hk : q.fault = none → (nextT l q.at_).kind ≠ 0) : Mono l 0 q (q.adv l) := by
 unfold Q.adv
 split
 ·next h => exact mono_step (hk h)
 ·exact Mono.refl q
theorem mono_ref {q : Q} {c : Nat} : Mono l 0 q (q.ref l c) := by
 unfold Q.ref
 split
 ·next h => exact mono_err c q h
 ·exact Mono.refl q
theorem kind_live {q : Q} {k : Nat} (hk : k ≠ 17) (h : q.kind l = k) : q.fault = none ∧ kindL (nextT l q.at_) = k := by
 unfold Q.kind at h
 split at h
 ·next hf => exact ⟨hf, h⟩
 ·exact absurd h.symm hk
theorem kind_dead {q : Q} {f : Nat × Nat} (h : q.fault = some f) : q.kind l = 17 := by
 unfold Q.kind
 rw [h]
 rfl
theorem mono_pass {q : Q} {k : Nat} (hk : k ≠ 17) (hk2 : k ≠ 16) : Mono l 0 q (q.pass l k) := by
 unfold Q.pass
 split
 ·next h =>
  obtain ⟨h1, h2⟩ := kind_live hk h
  exact mono_adv (fun _ e => hk2 (by rw [← h2]; exact (kinds_next l q.at_).k0.2 e))
 ·exact mono_ref
theorem mono_passN {q : Q} (hk : q.fault = none → (nextT l q.at_).kind ≠ 0) : Mono l 0 q (q.passN l) := by
 unfold Q.passN
 split
 ·next h =>
  split
  ·exact mono_err _ q h
  ·obtain ⟨h1, h2⟩ := end_ge l q.at_ (hk h)
   exact ⟨fun f h => h, fun _ => ⟨by simp [Q.step], by simp [Q.step]; omega, fun _ => by simpa [Q.step] using h2⟩⟩
 ·exact Mono.refl q
theorem mono_ent {q : Q} : Mono l 1 q (q.ent l) := by
 unfold Q.ent
 split
 ·next h =>
  split
  ·exact mono_err _ q h
  ·exact ⟨fun f h => h, fun _ => ⟨by simp, Nat.le_refl _, fun h => h⟩⟩
 ·next h => exact ⟨fun f h => h, fun hn => absurd hn h⟩
theorem mono_lev {q : Q} (h1 : q.fault = none → 1 ≤ q.opn) : Mono l (-1) q q.lev := by
 unfold Q.lev
 split
 ·next h => exact ⟨fun f h => h, fun _ => ⟨by have := h1 h; simp; omega, Nat.le_refl _, fun h => h⟩⟩
 ·next h => exact ⟨fun f h => h, fun hn => absurd hn h⟩
theorem ent_at {q : Q} (h : (q.ent l).fault = none) : (q.ent l).at_ = q.at_ ∧ q.fault = none := by
 have hb := (mono_ent (l := l) (q := q)).back h
 unfold Q.ent at h ⊢
 rw [if_pos hb] at h ⊢
 split
 ·next h2 => rw [if_pos h2] at h; simp [Q.err] at h
 ·exact ⟨rfl, hb⟩

/-! ### what is known of the machine that reads by one stack -/
abbrev Ans := Except (Nat × Nat) (List Nd)
/-- the reader stands where the machine stands, or both have the same fault. -/
def K (l : List UInt8) (X : Ans) (q : Q) (S : PS → Prop) : Prop :=
 (∀ f, q.fault = some f → X = .error f) ∧ (q.fault = none → ∃ s, S s ∧ s.made = q.made ∧ X = runP s (toksFrom l q.at_))
theorem K.mono {X : Ans} {q : Q} {S S2 : PS → Prop} (h : K l X q S) (hs : q.fault = none → ∀ s, S s → S2 s) : K l X q S2 :=
 ⟨h.1, fun hn => by obtain ⟨s, a, b, c⟩ := h.2 hn; exact ⟨s, hs hn s a, b, c⟩⟩
theorem K.start {q : Q} {s : PS} (hq : q.fault = none) (hm : s.made = q.made) : K l (runP s (toksFrom l q.at_)) q (fun x => x = s) :=
 ⟨fun f h => (by rw [hq] at h; cases h), fun _ => ⟨s, rfl, hm, rfl⟩⟩
theorem K.lev {X : Ans} {q : Q} {S : PS → Prop} (h : K l X q S) : K l X q.lev S := by
 unfold Q.lev
 split
 ·next hn => exact ⟨fun f hf => by simp [hn] at hf, fun _ => h.2 hn⟩
 ·exact h
/-- a token that must be of a kind. -/
theorem K.pass {X : Ans} {q : Q} {S S2 : PS → Prop} {k : Nat} (h : K l X q S) (hk : k ≠ 17) (hk2 : k ≠ 16)
  (hy : q.fault = none → kindL (nextT l q.at_) = k → ∀ s, S s → ∃ s', stepP s (nextT l q.at_) = .ok (.inl s') ∧ s'.made = s.made ∧ S2 s')
  (hn : q.fault = none → kindL (nextT l q.at_) ≠ k → ∀ s, S s → stepP s (nextT l q.at_) = .error (errc (nextT l q.at_) 131)) : K l X (q.pass l k) S2 := by
 cases hq : q.fault with
 | some f =>
  have e : q.pass l k = q := by
   unfold Q.pass Q.ref
   rw [if_neg (by rw [kind_dead hq]; exact fun e => hk e.symm), if_neg (by rw [hq]; simp)]
  rw [e]
  exact ⟨h.1, fun hn => by rw [hq] at hn; cases hn⟩
 | none =>
  obtain ⟨s, a, b, c⟩ := h.2 hq
  have ek : q.kind l = kindL (nextT l q.at_) := by unfold Q.kind; rw [if_pos hq]
  unfold Q.pass
  split
  ·next e =>
   rw [ek] at e
   obtain ⟨s', d1, d2, d3⟩ := hy hq e s a
   have h0 : (nextT l q.at_).kind ≠ 0 := fun x => hk2 (by rw [← e]; exact (kinds_next l q.at_).k0.2 x)
   unfold Q.adv
   rw [if_pos hq]
   exact ⟨fun f hf => by simp [Q.step, hq] at hf, fun _ => ⟨s', d3, by simp [Q.step]; omega, by rw [c]; exact run_on h0 d1⟩⟩
  ·next e =>
   rw [ek] at e
   unfold Q.ref
   rw [if_pos hq]
   refine ⟨fun f hf => ?_, fun hx => by simp [Q.err] at hx⟩
   simp only [Q.err, Option.some.injEq] at hf
   rw [c, run_err (hn hq e s a), ← hf]
/-- a token that makes a node, no more. -/
theorem K.passN {X : Ans} {q : Q} {S S2 : PS → Prop} (h : K l X q S) (h0 : q.fault = none → (nextT l q.at_).kind ≠ 0) (h1 : q.fault = none → (nextT l q.at_).kind ≠ 1)
  (hy : q.fault = none → ∀ s, S s → s.made = q.made → (65536 ≤ s.made → stepP s (nextT l q.at_) = .error 8) ∧ (s.made < 65536 → ∃ s', stepP s (nextT l q.at_) = .ok (.inl s') ∧ s'.made = s.made + 1 ∧ S2 s')) : K l X (q.passN l) S2 := by
 unfold Q.passN
 split
 ·next hq =>
  obtain ⟨s, a, b, c⟩ := h.2 hq
  obtain ⟨d1, d2⟩ := hy hq s a b
  split
  ·next hm =>
   refine ⟨fun f hf => ?_, fun hx => by simp [Q.err] at hx⟩
   simp only [Q.err, Option.some.injEq] at hf
   rw [c, run_err (d1 (by omega)), ← hf]
   simp [errc, h1 hq]
  ·next hm =>
   obtain ⟨s', e1, e2, e3⟩ := d2 (by omega)
   exact ⟨fun f hf => by simp [Q.step, hq] at hf, fun _ => ⟨s', e3, by simp [Q.step]; omega, by rw [c]; exact run_on (h0 hq) e1⟩⟩
 ·next hq => exact ⟨h.1, fun hx => absurd hx hq⟩
/-- a token that opens and makes a node. -/
theorem K.entN {X : Ans} {q : Q} {S : PS → Prop} {w : Wt} {wn : Nat} (h : K l X q S) (h0 : q.fault = none → (nextT l q.at_).kind ≠ 0) (h1 : q.fault = none → (nextT l q.at_).kind ≠ 1)
  (hy : q.fault = none → ∀ s, S s → opnOf s.st = q.opn ∧ stepP s (nextT l q.at_) = opensP s w 1 wn) : K l X ((q.ent l).passN l) (fun s' => ∃ s, S s ∧ s' = { s with st := w :: s.st, made := s.made + 1, want := wn }) := by
 cases hq : q.fault with
 | some f =>
  have e : q.ent l = q := by unfold Q.ent; rw [if_neg (by rw [hq]; simp)]
  have e2 : q.passN l = q := by unfold Q.passN; rw [if_neg (by rw [hq]; simp)]
  rw [e, e2]
  exact ⟨h.1, fun hn => by rw [hq] at hn; cases hn⟩
 | none =>
  obtain ⟨s, a, b, c⟩ := h.2 hq
  obtain ⟨d1, d2⟩ := hy hq s a
  unfold Q.ent
  rw [if_pos hq]
  split
  ·next hm =>
   have e : ({ q with opn := q.opn + 1 }.err l 132).passN l = { q with opn := q.opn + 1 }.err l 132 := by
    conv => lhs; unfold Q.passN
    rw [if_neg (by simp [Q.err])]
   rw [e]
   refine ⟨fun f hf => ?_, fun hx => by simp [Q.err] at hx⟩
   simp only [Q.err, Option.some.injEq] at hf
   rw [c, run_err (e := 132) (by rw [d2]; unfold opensP; rw [if_pos (by omega)]), ← hf]
   simp [errc, h1 hq]
  ·next hm =>
   unfold Q.passN
   rw [if_pos hq]
   split
   ·next hm2 =>
    simp only at hm2
    refine ⟨fun f hf => ?_, fun hx => by simp [Q.err] at hx⟩
    simp only [Q.err, Option.some.injEq] at hf
    rw [c, run_err (e := 8) (by rw [d2]; unfold opensP; rw [if_neg (by omega), if_pos ⟨rfl, by omega⟩]), ← hf]
    simp [errc, h1 hq]
   ·next hm2 =>
    simp only at hm2
    refine ⟨fun f hf => by simp [Q.step, hq] at hf, fun _ => ⟨{ s with st := w :: s.st, made := s.made + 1, want := wn }, ⟨s, a, rfl⟩, by simp [Q.step]; omega, ?_⟩⟩
    rw [c, run_on (h0 hq) (by rw [d2]; unfold opensP; rw [if_neg (by omega), if_neg (by omega)])]
    rfl
/-- a bracket. -/
theorem K.entP {X : Ans} {q : Q} {S : PS → Prop} (h : K l X q S) (h8 : q.fault = none → (nextT l q.at_).kind = 8)
  (hy : q.fault = none → ∀ s, S s → opnOf s.st = q.opn ∧ s.want = 0) : K l X ((q.ent l).pass l 12) (fun s' => ∃ s, S s ∧ s' = { s with st := ⟨3, 0, 0⟩ :: s.st, want := 0 }) := by
 cases hq : q.fault with
 | some f =>
  have e : q.ent l = q := by unfold Q.ent; rw [if_neg (by rw [hq]; simp)]
  have e2 : q.pass l 12 = q := by
   unfold Q.pass Q.ref
   rw [if_neg (by rw [kind_dead hq]; decide), if_neg (by rw [hq]; simp)]
  rw [e, e2]
  exact ⟨h.1, fun hn => by rw [hq] at hn; cases hn⟩
 | none =>
  obtain ⟨s, a, b, c⟩ := h.2 hq
  obtain ⟨d1, d2⟩ := hy hq s a
  have k8 := h8 hq
  have hs : stepP s (nextT l q.at_) = opensP s ⟨3, 0, 0⟩ 0 0 := by
   unfold stepP
   rw [if_neg (by omega), if_pos d2, if_neg (by omega), if_neg (by omega), if_pos k8]
  unfold Q.ent
  rw [if_pos hq]
  split
  ·next hm =>
   have e : ({ q with opn := q.opn + 1 }.err l 132).pass l 12 = { q with opn := q.opn + 1 }.err l 132 := by
    conv => lhs; unfold Q.pass Q.ref
    rw [if_neg (by rw [kind_dead (f := (errc (nextT l q.at_) 132, (nextT l q.at_).at_)) rfl]; decide), if_neg (by simp [Q.err])]
   rw [e]
   refine ⟨fun f hf => ?_, fun hx => by simp [Q.err] at hx⟩
   simp only [Q.err, Option.some.injEq] at hf
   rw [c, run_err (e := 132) (by rw [hs]; unfold opensP; rw [if_pos (by omega)]), ← hf]
   simp [errc, k8]
  ·next hm =>
   have ek : ({ q with opn := q.opn + 1 } : Q).kind l = 12 := by
    unfold Q.kind; rw [if_pos hq]; exact (kinds_next l q.at_).k8.2 k8
   unfold Q.pass Q.adv
   rw [if_pos ek, if_pos hq]
   refine ⟨fun f hf => by simp [Q.step, hq] at hf, fun _ => ⟨{ s with st := ⟨3, 0, 0⟩ :: s.st, want := 0 }, ⟨s, a, rfl⟩, by simpa [Q.step] using b, ?_⟩⟩
   rw [c, run_on (by omega) (by rw [hs]; unfold opensP; rw [if_neg (by omega), if_neg (by omega)])]
   rfl
end PureRd
/-
 The landed scanner: signs, by runes and by bytes: plain mathematics.
-/
namespace Go.Proofs.YtdkboifpdodonacGreatDoor
open Go Go.RowKit Go.Deep PureCnf PureForm PureRd
set_option maxRecDepth 100000

theorem get_str (X : List UInt8) (k : Nat) (h : k < X.length) : (ByteArray.mk X.toArray).get! k = X[k] := by
 have hs : k < (ByteArray.mk X.toArray).size := by simpa [ByteArray.size] using h
 rw [get_in _ k hs]
 rfl
theorem size_str (X : List UInt8) : (ByteArray.mk X.toArray).size = X.length := by simp [ByteArray.size]
theorem dec3 {a b c : UInt8} {t : List UInt8} {r : Nat} (h : (Utf8.decode ⟨(a :: b :: c :: t).toArray⟩ 0).1 = r) (h1 : 2048 ≤ r) (h2 : r < 55296) : a.toNat = 224 + r / 4096 ∧ b.toNat = 128 + r / 64 % 64 ∧ c.toNat = 128 + r % 64 := by
 have g0 : (ByteArray.mk (a :: b :: c :: t).toArray).get! (0 + 0) = a := get_str _ 0 (by simp)
 have g1 : (ByteArray.mk (a :: b :: c :: t).toArray).get! (0 + 1) = b := get_str _ 1 (by simp)
 have g2 : (ByteArray.mk (a :: b :: c :: t).toArray).get! (0 + 2) = c := get_str _ 2 (by simp)
 have la := a.toNat_lt
 have lb := b.toNat_lt
 have lc := c.toNat_lt
 simp only [Utf8.decode, g0, g1, g2, Utf8.runeError] at h
 generalize hz : ((ByteArray.mk (a :: b :: c :: t).toArray).get! (0 + 3)).toNat = z at h
 split at h
 ·simp at h; omega
 ·split at h
  ·split at h
   ·simp at h; omega
   ·simp at h; omega
  ·split at h
   ·next hc =>
    simp at hc
    split at h
    ·simp at h; omega
    ·simp at h; omega
   ·split at h
    ·split at h
     ·next h4 => simp at h4 h; omega
     ·simp at h; omega
    ·simp at h; omega
theorem dec2 {a b : UInt8} {t : List UInt8} (h : (Utf8.decode ⟨(a :: b :: t).toArray⟩ 0).1 = 172) : a.toNat = 194 ∧ b.toNat = 172 := by
 have g0 : (ByteArray.mk (a :: b :: t).toArray).get! (0 + 0) = a := get_str _ 0 (by simp)
 have g1 : (ByteArray.mk (a :: b :: t).toArray).get! (0 + 1) = b := get_str _ 1 (by simp)
 have la := a.toNat_lt
 have lb := b.toNat_lt
 simp only [Utf8.decode, g0, g1, Utf8.runeError] at h
 generalize ((ByteArray.mk (a :: b :: t).toArray).get! (0 + 3)).toNat = z at h
 generalize ((ByteArray.mk (a :: b :: t).toArray).get! (0 + 2)).toNat = y at h
 repeat' split at h
 all_goals simp_all
 all_goals omega
theorem dec_one {a : UInt8} (ha : 128 ≤ a.toNat) : (Utf8.decode ⟨[a].toArray⟩ 0).1 = 65533 := by
 have g0 : (ByteArray.mk [a].toArray).get! (0 + 0) = a := get_str _ 0 (by simp)
 have hs : (ByteArray.mk [a].toArray).size = 1 := size_str [a]
 simp only [Utf8.decode, g0, hs, Utf8.runeError]
 rw [if_neg (by omega)]
 simp
theorem dec_two {a b : UInt8} (ha : 128 ≤ a.toNat) : (Utf8.decode ⟨[a, b].toArray⟩ 0).1 < 2048 ∨ (Utf8.decode ⟨[a, b].toArray⟩ 0).1 = 65533 := by
 have g0 : (ByteArray.mk [a, b].toArray).get! (0 + 0) = a := get_str _ 0 (by simp)
 have g1 : (ByteArray.mk [a, b].toArray).get! (0 + 1) = b := get_str _ 1 (by simp)
 have hs : (ByteArray.mk [a, b].toArray).size = 2 := size_str [a, b]
 simp only [Utf8.decode, g0, g1, hs, Utf8.runeError]
 rw [if_neg (by omega)]
 simp
 split
 ·split
  ·exact .inl (by omega)
  ·exact .inr rfl
 ·exact .inr rfl
/-- three bytes that make a rune. -/
theorem dec_three (a b c : UInt8) (t : List UInt8) (r : Nat) (ha : a.toNat / 16 = 14) (hb : b.toNat / 64 = 2) (hc : c.toNat / 64 = 2) (hr : r = a.toNat % 16 * 4096 + b.toNat % 64 * 64 + c.toNat % 64) (h1 : 2048 ≤ r) (h2 : r < 55296) : Utf8.decode ⟨(a :: b :: c :: t).toArray⟩ 0 = (r, 3) := by
 have g0 : (ByteArray.mk (a :: b :: c :: t).toArray).get! (0 + 0) = a := get_str _ 0 (by simp)
 have g1 : (ByteArray.mk (a :: b :: c :: t).toArray).get! (0 + 1) = b := get_str _ 1 (by simp)
 have g2 : (ByteArray.mk (a :: b :: c :: t).toArray).get! (0 + 2) = c := get_str _ 2 (by simp)
 have hs : (ByteArray.mk (a :: b :: c :: t).toArray).size = t.length + 3 := by rw [size_str]; rfl
 simp only [Utf8.decode, g0, g1, g2, hs]
 rw [if_neg (by omega), if_neg (by simp; omega), if_pos (by simp [ha, hb, hc]), if_pos (by simp [Utf8.valid]; omega), hr]
theorem dec_pair (t : List UInt8) : Utf8.decode ⟨((194 : UInt8) :: 172 :: t).toArray⟩ 0 = (172, 2) := by
 have g0 : (ByteArray.mk ((194 : UInt8) :: 172 :: t).toArray).get! (0 + 0) = 194 := get_str _ 0 (by simp)
 have g1 : (ByteArray.mk ((194 : UInt8) :: 172 :: t).toArray).get! (0 + 1) = 172 := get_str _ 1 (by simp)
 have hs : (ByteArray.mk ((194 : UInt8) :: 172 :: t).toArray).size = t.length + 2 := by rw [size_str]; rfl
 simp only [Utf8.decode, g0, g1, hs]
 simp

/-- the first sign that a text begins with. -/
def signX (X : List UInt8) (i : Nat) : List (List UInt8 × Nat × Nat) → PureForm.Tok
 | [] => ⟨1, 130, i, i + 1⟩
 | x :: r => if X.take x.1.length = x.1 then ⟨x.2.1, x.2.2, i, i + x.1.length⟩ else signX X i r
theorem signX_no {X : List UInt8} {i : Nat} {x : List UInt8 × Nat × Nat} {r : List (List UInt8 × Nat × Nat)} (h : X.take x.1.length ≠ x.1) : signX X i (x :: r) = signX X i r := by rw [signX, if_neg h]
theorem signT_X (l : List UInt8) (i : Nat) : ∀ L, PureForm.signT l i L = signX (l.drop i) i L
 | [] => rfl
 | x :: r => by rw [PureForm.signT, signX, signT_X l i r]

/-- a token as bytes tell it and as a rune tells it. -/
def Agree (T : PureForm.Tok) (p : Nat) (R : Nat × Nat) : Prop := (kindL T : Int) = (runeT R.1).1 ∧ (numL T : Int) = (runeT R.1).2.1 ∧ (codeL T : Int) = (runeT R.1).2.2 ∧ T.at_ = p ∧ (T.kind ≠ 1 → T.end_ = p + R.2)
theorem sign_low (c : UInt8) (t : List UInt8) (p : Nat) (hc : c.toNat < 128) (h3 : (c :: t).take 3 ≠ [60, 45, 62]) (h2 : (c :: t).take 2 ≠ [45, 62]) : Agree (signX (c :: t) p signs) p (c.toNat, 1) := by
 by_cases h33 : c = 33
 ·subst h33
  refine ⟨?_, ?_, ?_, ?_, ?_⟩ <;> simp [signX, signs, kindL, numL, codeL, runeT]
 by_cases h126 : c = 126
 ·subst h126
  refine ⟨?_, ?_, ?_, ?_, ?_⟩ <;> simp [signX, signs, kindL, numL, codeL, runeT]
 by_cases h38 : c = 38
 ·subst h38
  refine ⟨?_, ?_, ?_, ?_, ?_⟩ <;> simp [signX, signs, kindL, numL, codeL, runeT]
 by_cases h124 : c = 124
 ·subst h124
  refine ⟨?_, ?_, ?_, ?_, ?_⟩ <;> simp [signX, signs, kindL, numL, codeL, runeT]
 by_cases h94 : c = 94
 ·subst h94
  refine ⟨?_, ?_, ?_, ?_, ?_⟩ <;> simp [signX, signs, kindL, numL, codeL, runeT]
 by_cases h40 : c = 40
 ·subst h40
  refine ⟨?_, ?_, ?_, ?_, ?_⟩ <;> simp [signX, signs, kindL, numL, codeL, runeT]
 by_cases h41 : c = 41
 ·subst h41
  refine ⟨?_, ?_, ?_, ?_, ?_⟩ <;> simp [signX, signs, kindL, numL, codeL, runeT]
 by_cases h44 : c = 44
 ·subst h44
  refine ⟨?_, ?_, ?_, ?_, ?_⟩ <;> simp [signX, signs, kindL, numL, codeL, runeT]
 by_cases h58 : c = 58
 ·subst h58
  refine ⟨?_, ?_, ?_, ?_, ?_⟩ <;> simp [signX, signs, kindL, numL, codeL, runeT]
 have n194 : c ≠ 194 := fun e => by rw [e] at hc; exact absurd hc (by decide)
 have n226 : c ≠ 226 := fun e => by rw [e] at hc; exact absurd hc (by decide)
 have e1 : signX (c :: t) p signs = ⟨1, 130, p, p + 1⟩ := by
  have tk1 : ∀ k : UInt8, c ≠ k → ∀ n r, (c :: t).take (n + 1) ≠ k :: r := fun k hk n r e => by
   rw [List.take_succ_cons] at e
   exact hk (List.cons.inj e).1
  unfold signs
  refine Eq.trans (signX_no h3) ?_
  refine Eq.trans (signX_no h2) ?_
  refine Eq.trans (signX_no (tk1 33 h33 0 _)) ?_
  refine Eq.trans (signX_no (tk1 126 h126 0 _)) ?_
  refine Eq.trans (signX_no (tk1 38 h38 0 _)) ?_
  refine Eq.trans (signX_no (tk1 124 h124 0 _)) ?_
  refine Eq.trans (signX_no (tk1 94 h94 0 _)) ?_
  refine Eq.trans (signX_no (tk1 40 h40 0 _)) ?_
  refine Eq.trans (signX_no (tk1 41 h41 0 _)) ?_
  refine Eq.trans (signX_no (tk1 44 h44 0 _)) ?_
  refine Eq.trans (signX_no (tk1 58 h58 0 _)) ?_
  refine Eq.trans (signX_no (tk1 194 n194 1 _)) ?_
  refine Eq.trans (signX_no (tk1 226 n226 2 _)) ?_
  refine Eq.trans (signX_no (tk1 226 n226 2 _)) ?_
  refine Eq.trans (signX_no (tk1 226 n226 2 _)) ?_
  refine Eq.trans (signX_no (tk1 226 n226 2 _)) ?_
  refine Eq.trans (signX_no (tk1 226 n226 2 _)) ?_
  refine Eq.trans (signX_no (tk1 226 n226 2 _)) ?_
  refine Eq.trans (signX_no (tk1 226 n226 2 _)) ?_
  refine Eq.trans (signX_no (tk1 226 n226 2 _)) ?_
  refine Eq.trans (signX_no (tk1 226 n226 2 _)) ?_
  rfl
 have hv : ∀ k : Nat, k < 256 → c ≠ UInt8.ofNat k → c.toNat ≠ k := fun k hk h e => h (by rw [← e]; simp)
 have e2 : runeT c.toNat = (17, 0, 130) := by
  unfold runeT
  rw [if_neg (hv 33 (by decide) h33), if_neg (hv 126 (by decide) h126), if_neg (by omega), if_neg (hv 38 (by decide) h38), if_neg (by omega), if_neg (hv 124 (by decide) h124), if_neg (by omega), if_neg (hv 94 (by decide) h94), if_neg (by omega), if_neg (by omega), if_neg (by omega), if_neg (by omega), if_neg (by omega), if_neg (by omega), if_neg (by omega), if_neg (hv 40 (by decide) h40), if_neg (hv 41 (by decide) h41), if_neg (hv 44 (by decide) h44), if_neg (hv 58 (by decide) h58)]
 refine ⟨?_, ?_, ?_, ?_, ?_⟩
 all_goals simp [e1, e2, kindL, numL, codeL]
theorem sign_high (c : UInt8) (t : List UInt8) (p : Nat) (hc : 128 ≤ c.toNat) : Agree (signX (c :: t) p signs) p (Utf8.decode ⟨(c :: t).toArray⟩ 0) := by
 by_cases m172 : ∃ t2, t = 172 :: t2 ∧ c = 194
 ·obtain ⟨t2, rfl, rfl⟩ := m172
  rw [dec_pair]
  refine ⟨?_, ?_, ?_, ?_, ?_⟩ <;> simp [signX, signs, kindL, numL, codeL, runeT]
 by_cases m8743 : ∃ t2, t = 136 :: 167 :: t2 ∧ c = 226
 ·obtain ⟨t2, rfl, rfl⟩ := m8743
  rw [dec_three 226 136 167 t2 8743 (by decide) (by decide) (by decide) (by decide) (by decide) (by decide)]
  refine ⟨?_, ?_, ?_, ?_, ?_⟩ <;> simp [signX, signs, kindL, numL, codeL, runeT]
 by_cases m8744 : ∃ t2, t = 136 :: 168 :: t2 ∧ c = 226
 ·obtain ⟨t2, rfl, rfl⟩ := m8744
  rw [dec_three 226 136 168 t2 8744 (by decide) (by decide) (by decide) (by decide) (by decide) (by decide)]
  refine ⟨?_, ?_, ?_, ?_, ?_⟩ <;> simp [signX, signs, kindL, numL, codeL, runeT]
 by_cases m8853 : ∃ t2, t = 138 :: 149 :: t2 ∧ c = 226
 ·obtain ⟨t2, rfl, rfl⟩ := m8853
  rw [dec_three 226 138 149 t2 8853 (by decide) (by decide) (by decide) (by decide) (by decide) (by decide)]
  refine ⟨?_, ?_, ?_, ?_, ?_⟩ <;> simp [signX, signs, kindL, numL, codeL, runeT]
 by_cases m8594 : ∃ t2, t = 134 :: 146 :: t2 ∧ c = 226
 ·obtain ⟨t2, rfl, rfl⟩ := m8594
  rw [dec_three 226 134 146 t2 8594 (by decide) (by decide) (by decide) (by decide) (by decide) (by decide)]
  refine ⟨?_, ?_, ?_, ?_, ?_⟩ <;> simp [signX, signs, kindL, numL, codeL, runeT]
 by_cases m8596 : ∃ t2, t = 134 :: 148 :: t2 ∧ c = 226
 ·obtain ⟨t2, rfl, rfl⟩ := m8596
  rw [dec_three 226 134 148 t2 8596 (by decide) (by decide) (by decide) (by decide) (by decide) (by decide)]
  refine ⟨?_, ?_, ?_, ?_, ?_⟩ <;> simp [signX, signs, kindL, numL, codeL, runeT]
 by_cases m8707 : ∃ t2, t = 136 :: 131 :: t2 ∧ c = 226
 ·obtain ⟨t2, rfl, rfl⟩ := m8707
  rw [dec_three 226 136 131 t2 8707 (by decide) (by decide) (by decide) (by decide) (by decide) (by decide)]
  refine ⟨?_, ?_, ?_, ?_, ?_⟩ <;> simp [signX, signs, kindL, numL, codeL, runeT]
 by_cases m8704 : ∃ t2, t = 136 :: 128 :: t2 ∧ c = 226
 ·obtain ⟨t2, rfl, rfl⟩ := m8704
  rw [dec_three 226 136 128 t2 8704 (by decide) (by decide) (by decide) (by decide) (by decide) (by decide)]
  refine ⟨?_, ?_, ?_, ?_, ?_⟩ <;> simp [signX, signs, kindL, numL, codeL, runeT]
 by_cases m8868 : ∃ t2, t = 138 :: 164 :: t2 ∧ c = 226
 ·obtain ⟨t2, rfl, rfl⟩ := m8868
  rw [dec_three 226 138 164 t2 8868 (by decide) (by decide) (by decide) (by decide) (by decide) (by decide)]
  refine ⟨?_, ?_, ?_, ?_, ?_⟩ <;> simp [signX, signs, kindL, numL, codeL, runeT]
 by_cases m8869 : ∃ t2, t = 138 :: 165 :: t2 ∧ c = 226
 ·obtain ⟨t2, rfl, rfl⟩ := m8869
  rw [dec_three 226 138 165 t2 8869 (by decide) (by decide) (by decide) (by decide) (by decide) (by decide)]
  refine ⟨?_, ?_, ?_, ?_, ?_⟩ <;> simp [signX, signs, kindL, numL, codeL, runeT]
 have hlow : ∀ k : UInt8, k.toNat < 128 → c ≠ k := fun k hk e => by rw [e] at hc; omega
 have tk1 : ∀ k : UInt8, k.toNat < 128 → ∀ n r, (c :: t).take (n + 1) ≠ k :: r := fun k hk n r e => by
  rw [List.take_succ_cons] at e
  exact hlow k hk (List.cons.inj e).1
 have tk2 : (c :: t).take 2 ≠ [194, 172] := fun e => by
  rw [List.take_succ_cons] at e
  obtain ⟨e1, e2⟩ := List.cons.inj e
  cases t with
  | nil => simp at e2
  | cons b t => simp at e2; exact m172 ⟨t, by rw [e2], e1⟩
 have tk3 : ∀ x y z : UInt8, (¬ ∃ t2, t = y :: z :: t2 ∧ c = x) → (c :: t).take 3 ≠ [x, y, z] := fun x y z h e => by
  rw [List.take_succ_cons] at e
  obtain ⟨e1, e2⟩ := List.cons.inj e
  cases t with
  | nil => simp at e2
  | cons b t =>
   cases t with
   | nil => simp at e2
   | cons d t => simp at e2; exact h ⟨t, by rw [e2.1, e2.2], e1⟩
 have e1 : signX (c :: t) p signs = ⟨1, 130, p, p + 1⟩ := by
  unfold signs
  refine Eq.trans (signX_no (tk1 60 (by decide) 2 _)) ?_
  refine Eq.trans (signX_no (tk1 45 (by decide) 1 _)) ?_
  refine Eq.trans (signX_no (tk1 33 (by decide) 0 _)) ?_
  refine Eq.trans (signX_no (tk1 126 (by decide) 0 _)) ?_
  refine Eq.trans (signX_no (tk1 38 (by decide) 0 _)) ?_
  refine Eq.trans (signX_no (tk1 124 (by decide) 0 _)) ?_
  refine Eq.trans (signX_no (tk1 94 (by decide) 0 _)) ?_
  refine Eq.trans (signX_no (tk1 40 (by decide) 0 _)) ?_
  refine Eq.trans (signX_no (tk1 41 (by decide) 0 _)) ?_
  refine Eq.trans (signX_no (tk1 44 (by decide) 0 _)) ?_
  refine Eq.trans (signX_no (tk1 58 (by decide) 0 _)) ?_
  refine Eq.trans (signX_no tk2) ?_
  refine Eq.trans (signX_no (tk3 226 136 167 m8743)) ?_
  refine Eq.trans (signX_no (tk3 226 136 168 m8744)) ?_
  refine Eq.trans (signX_no (tk3 226 138 149 m8853)) ?_
  refine Eq.trans (signX_no (tk3 226 134 146 m8594)) ?_
  refine Eq.trans (signX_no (tk3 226 134 148 m8596)) ?_
  refine Eq.trans (signX_no (tk3 226 136 131 m8707)) ?_
  refine Eq.trans (signX_no (tk3 226 136 128 m8704)) ?_
  refine Eq.trans (signX_no (tk3 226 138 164 m8868)) ?_
  refine Eq.trans (signX_no (tk3 226 138 165 m8869)) ?_
  rfl
 have hh : 128 ≤ (Utf8.decode ⟨(c :: t).toArray⟩ 0).1 := (decode_high _ 0 (by rw [size_str]; simp) (by exact hc)).1
 have no3 : ∀ (r : Nat) (x y z : UInt8), 2048 ≤ r → r < 55296 → x.toNat = 224 + r / 4096 → y.toNat = 128 + r / 64 % 64 → z.toNat = 128 + r % 64 → (¬ ∃ t2, t = y :: z :: t2 ∧ c = x) → (Utf8.decode ⟨(c :: t).toArray⟩ 0).1 ≠ r := by
  intro r x y z h1 h2 hx hy hz hn e
  cases t with
  | nil => have := dec_one hc; omega
  | cons b t =>
   cases t with
   | nil => have := dec_two (b := b) hc; omega
   | cons d t =>
    obtain ⟨d1, d2, d3⟩ := dec3 e h1 h2
    refine hn ⟨t, ?_, UInt8.toNat_inj.1 (by omega)⟩
    rw [UInt8.toNat_inj.1 (show b.toNat = y.toNat by omega), UInt8.toNat_inj.1 (show d.toNat = z.toNat by omega)]
 have no2 : (Utf8.decode ⟨(c :: t).toArray⟩ 0).1 ≠ 172 := by
  intro e
  cases t with
  | nil => have := dec_one hc; omega
  | cons b t =>
   obtain ⟨d1, d2⟩ := dec2 e
   exact m172 ⟨t, by rw [UInt8.toNat_inj.1 (show b.toNat = (172 : UInt8).toNat from d2)], UInt8.toNat_inj.1 d1⟩
 have e2 : runeT (Utf8.decode ⟨(c :: t).toArray⟩ 0).1 = (17, 0, 130) := by
  unfold runeT
  rw [if_neg (by omega), if_neg (by omega), if_neg no2, if_neg (by omega), if_neg (no3 8743 226 136 167 (by decide) (by decide) rfl rfl rfl m8743), if_neg (by omega), if_neg (no3 8744 226 136 168 (by decide) (by decide) rfl rfl rfl m8744), if_neg (by omega), if_neg (no3 8853 226 138 149 (by decide) (by decide) rfl rfl rfl m8853), if_neg (no3 8594 226 134 146 (by decide) (by decide) rfl rfl rfl m8594), if_neg (no3 8596 226 134 148 (by decide) (by decide) rfl rfl rfl m8596), if_neg (no3 8707 226 136 131 (by decide) (by decide) rfl rfl rfl m8707), if_neg (no3 8704 226 136 128 (by decide) (by decide) rfl rfl rfl m8704), if_neg (no3 8868 226 138 164 (by decide) (by decide) rfl rfl rfl m8868), if_neg (no3 8869 226 138 165 (by decide) (by decide) rfl rfl rfl m8869), if_neg (by omega), if_neg (by omega), if_neg (by omega), if_neg (by omega)]
 refine ⟨?_, ?_, ?_, ?_, ?_⟩
 all_goals simp [e1, e2, kindL, numL, codeL]

end Go.Proofs.YtdkboifpdodonacGreatDoor
