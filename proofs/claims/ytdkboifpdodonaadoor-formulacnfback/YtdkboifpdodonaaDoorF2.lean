/-
  The landed writer's put.
-/
import Derived.Test.YtdkboifpdodonaaDoorF1
namespace Go.Proofs.YtdkboifpdodonaaDoor
open Go.RowKit Go.Deep PureCnf
set_option maxRecDepth 100000

/-- texts that lie in a row of their own. -/
def Parts (w : World) (g : Nat) (ps : List (List UInt8)) : Prop := w.heap[g]? = some (.cells (ps.map str).toArray 9 (0, 0))
theorem Parts.kept {w w' : World} {g b : Nat} {ps : List (List UInt8)} (h : Parts w g ps) (hk : Lib.OthersKept 5 (some b) w w') (hg : g ≠ b) : Parts w' g ps := hk g _ h (fun e => hg (Option.some.inj e)) (fun c fz e => by simp at e)

set_option maxHeartbeats 1000000 in
theorem put_any (B b g : Nat) (T : List UInt8) (ps : List (List UInt8)) (w : World) (h : IsWr B b T w) (hp : Parts w g ps) (hg : g ≠ b) (hlen : T.length + ps.flatten.length ≤ 140737488355328) (hn : ps.length ≤ 1000) (hBw : B ≤ w.heap.size) :
    Calls Tryd.prog 47 #[.pointer (some ⟨b, 0, none⟩), .slice (some ⟨g, 0, none⟩) ps.length ps.length] w fun e w' => e = .returned (.tuple #[]) ∧ IsWr B b (T ++ ps.flatten) w' ∧ Below B w w' ∧ Lib.OthersKept 5 (some b) w w' := by
  have HH := hid h
  have HP := hid hp
  clear h hp
  go_enter Tryd.func47, Tryd.ntmps47
  go_wp2_with fail
  go_loopw [8] (fun iv W => ∃ j : Nat, iv = .int .i64 j ∧ j ≤ ps.length ∧ Hid (IsWr B b (T ++ (ps.take j).flatten) W ∧ Below B w W ∧ Lib.OthersKept 5 (some b) w W ∧ Parts W g ps)) (fun iv _ => ps.length - (intOf iv).toNat)
  case atStart => exact ⟨0, rfl, Nat.zero_le _, by simpa using HH.out, Below.refl _ _, Lib.OthersKept.refl _ _ _, HP.out⟩
  case round =>
    obtain ⟨j, rfl, hj, HQ⟩ := hrel
    by_cases hlt : j < ps.length
    · obtain ⟨q1, q2, q3, q4⟩ := HQ.out
      have c0 : wr.cell? ⟨g, j, none⟩ = some (str ps[j]) := by rw [cell_row q4]; simp [hlt]
      have hfl : (ps.take (j + 1)).flatten = (ps.take j).flatten ++ ps[j] := by rw [take_snoc ps j hlt, List.flatten_append]; simp only [List.flatten_cons, List.flatten_nil, List.append_nil]
      have hle : (ps.take (j + 1)).flatten.length ≤ ps.flatten.length := by
        have : ps.flatten = (ps.take (j + 1)).flatten ++ (ps.drop (j + 1)).flatten := by rw [← List.flatten_append, List.take_append_drop]
        rw [this, List.length_append]; omega
      rw [hfl, List.length_append] at hle
      have HW := hid (write_any B b _ ps[j] wr q1 (by rw [List.length_append]; omega) (by have := q2.size; omega))
      obtain ⟨X, hX⟩ : ∃ X, X = ps[j] := ⟨_, rfl⟩
      rw [← hX] at HW c0 hfl
      have HFL := hid hfl
      have HQ2 := hid q2
      have HQ3 := hid q3
      have HQ4 := hid q4
      clear q1 q2 q3 q4 HQ hX hfl hle HH HP
      go_wp2_with fail
      refine HW.out.mono ?_
      rintro e w2 ⟨⟨y, rfl⟩, r1, r2, r3⟩
      have R1 := hid r1
      have R2 := hid (HQ2.out.trans (r2.mono (Nat.le_refl _)))
      have R3 := hid (HQ3.out.trans r3)
      have R4 := hid (HQ4.out.kept r3 hg)
      clear r1 r2 r3
      go_wp2_with fail
      go_roundw
      case rel => exact ⟨j + 1, by go_num, hlt, by rw [HFL.out, ← List.append_assoc]; exact R1.out, R2.out, R3.out, R4.out⟩
      case measure => simp [intOf]; omega
    · obtain rfl : j = ps.length := by omega
      obtain ⟨q1, q2, q3, q4⟩ := HQ.out
      rw [List.take_length] at q1
      have FIN : Hid (IsWr B b (T ++ ps.flatten) wr ∧ Below B w wr ∧ Lib.OthersKept 5 (some b) w wr) := ⟨q1, q2, q3⟩
      clear q1 q2 q3 q4 HQ
      go_wp2_with fail
      go_end0
      exact ⟨rfl, FIN.out⟩
end Go.Proofs.YtdkboifpdodonaaDoor
