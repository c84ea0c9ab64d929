/-
  The document's own wrong, head.
-/
import Derived.Test.YtdkboifpdodonaaB3
namespace Go.Proofs.Ytdkboifpdodonaa
open Go.RowKit Go.Deep PureCnf

def faultV (e : Int) (p : Nat × Nat) : Value := .agg #[.int .i64 e, .int .i64 (p.1 : Int), .int .i64 (p.2 : Int)]

set_option maxHeartbeats 1000000 in
theorem wrong_any (s : ByteArray) (c : Int) (i : Nat) (w : World) (hs : s.size ≤ 1048576) (hi : i ≤ s.size) :
    Calls Try.prog 10 #[.string s, .int .i64 c, .int .i64 (i : Int)] w fun e w' => e = .returned (.tuple #[cnfV 0 none 0 0 none 0 0, faultV c (spotN (s.data.toList.take i))]) ∧ Below w.heap.size w w' := by
  obtain ⟨WA, hWA⟩ : ∃ WA, WA = (w.alloc (Obj.cells #[.int .i64 0, .slice none 0 0, .slice none 0 0] 24 (0, 0))).alloc (Obj.cells #[.int .i64 0, .int .i64 0, .int .i64 0] 29 (0, 0)) := ⟨_, rfl⟩
  have HSP := hid (spot_any s i WA (by omega) hi)
  obtain ⟨line, hline⟩ : ∃ x, x = (spotN (s.data.toList.take i)).1 := ⟨_, rfl⟩
  obtain ⟨col, hcol⟩ : ∃ x, x = (spotN (s.data.toList.take i)).2 := ⟨_, rfl⟩
  unfold faultV
  rw [← hline, ← hcol] at HSP ⊢
  have hr0 : WA.heap[w.heap.size]? = some (.cells #[.int .i64 0, .slice none 0 0, .slice none 0 0] 24 (0, 0)) := by
    rw [hWA]; exact (Below.heap_alloc _ _ _ (by simp)).trans (heap_alloc_new w _)
  have hr1 : WA.heap[w.heap.size + 1]? = some (.cells #[.int .i64 0, .int .i64 0, .int .i64 0] 29 (0, 0)) := by
    have := heap_alloc_new (w.alloc (Obj.cells #[.int .i64 0, .slice none 0 0, .slice none 0 0] 24 (0, 0))) (Obj.cells #[.int .i64 0, .int .i64 0, .int .i64 0] 29 (0, 0))
    rw [hWA]; simpa using this
  have hz : WA.heap.size = w.heap.size + 2 := by rw [hWA]; simp
  have HB : Hid (Below w.heap.size w WA) := by rw [hWA]; exact ((Below.refl _ _).alloc (Nat.le_refl _) _).alloc (by simp) _
  have HWA := hid hWA
  have HR0 := hid hr0
  have HR1 := hid hr1
  clear hline hcol hWA hr0 hr1
  go_enter Try.func10, Try.ntmps10
  go_wp2_with (first
    | (rw [← HWA.out])
    | (go_at_call 19; refine HSP.out.mono ?_; rintro e w1 ⟨rfl, hb⟩; have HB1 := hid hb; clear hb))
  obtain ⟨W1, hW1⟩ : ∃ W1, W1 = w1.alloc (Obj.cells #[.int .i64 (line : Int), .int .i64 (col : Int)] 27 (0, 0)) := ⟨_, rfl⟩
  have hs1 := HB1.out.size
  have q0 : W1.heap[w.heap.size]? = some (.cells #[.int .i64 0, .slice none 0 0, .slice none 0 0] 24 (0, 0)) := by
    rw [hW1]; exact (Below.heap_alloc _ _ _ (by omega)).trans ((HB1.out.block _ (by omega)).trans HR0.out)
  have q1 : W1.heap[w.heap.size + 1]? = some (.cells #[.int .i64 0, .int .i64 0, .int .i64 0] 29 (0, 0)) := by
    rw [hW1]; exact (Below.heap_alloc _ _ _ (by omega)).trans ((HB1.out.block _ (by omega)).trans HR1.out)
  have q2 : W1.heap[w1.heap.size]? = some (.cells #[.int .i64 (line : Int), .int .i64 (col : Int)] 27 (0, 0)) := by
    rw [hW1]; exact heap_alloc_new w1 _
  have HB2 : Hid (Below w.heap.size w W1) := by rw [hW1]; exact (HB.out.trans (HB1.out.mono (by omega))).alloc (by omega) _
  rw [← hW1]
  have c0 := fun j => cell_row q0 j
  have c1 := fun j => cell_row q1 j
  have c2 := fun j => cell_row q2 j
  have f0 := fun j => unfrozen_row q0 j
  have f1 := fun j => unfrozen_row q1 j
  clear hW1 q0 q1 q2
  go_region
  all_goals
    go_wp2
  all_goals
    exact bodyPost_ret (v := .tuple #[cnfV 0 none 0 0 none 0 0, .agg #[.int .i64 c, .int .i64 (line : Int), .int .i64 (col : Int)]]) (by simp [results, Try.results10, go_sem, c0, c1]) rfl ⟨rfl, ((((((HB2.out.setCell (by simp) _).setCell (by simp) _).setCell (by simp) _).setCell (by simp) _).setCell (by simp) _).setCell (by simp) _).drew⟩
end Go.Proofs.Ytdkboifpdodonaa
