/-
  A string's bytes, made anew.
-/
import Derived.Test.YtfodpeiecmbojaaH6
import Derived.Lib.ConvBytes
namespace Go.Proofs.Ytfodpeiecmbojaa
open Go.RowKit Go.Deep PureCrc

theorem strOf_size (l : List Nat) : (strOf l).size = l.length := by
  have h := congrArg List.length (strOfNums_data (l.map fun x : Nat => (x : Int)))
  rw [List.length_map, List.length_map, Array.length_toList] at h
  exact h

theorem strOf_at (l : List Nat) (hlt : ∀ x ∈ l, x < 256) (j : Nat) (hj : j < l.length) : ((strOf l).data.toList.getD j 0).toNat = l[j] := by
  have hb := hlt _ (List.getElem_mem hj)
  rw [strOf, strOfNums_data]
  simp [List.getD, List.getElem?_eq_getElem hj]
  omega

theorem back_bytes (l : List Nat) (hlt : ∀ x ∈ l, x < 256) (W : World) :
    ∃ c W', (convert 9 22 (.string (strOf l))).run Try.prog W = .ok (.slice (some ⟨W.heap.size, 0, none⟩) l.length c) W' ∧ Came W' (some ⟨W.heap.size, 0, none⟩) l.length c l ∧ Touch [] W W' := by
  have hrun := Go.Lib.run_convert_string_bytes (P := Try.prog) W 9 22 5 (strOf l) Try.underlying9 Try.underlying22 Try.underlying5
  rw [strOf_size] at hrun
  refine ⟨_, _, hrun, ⟨rfl, ?_, hlt, fun _ => ⟨W.heap.size, 0, rfl, by rw [Go.Lib.bytesWorld_size]; omega, fun i hi => ?_⟩⟩, ⟨rfl, rfl, rfl, by rw [Go.Lib.bytesWorld_size]; omega, fun b hb _ => Go.Lib.bytesWorld_at_old W 5 _ b hb⟩⟩
  · have := grownCap_ge W l.length 0 5
    omega
  · rw [Nat.zero_add, Go.Lib.bytesWorld_cell W 5 (strOf l) i (by rw [strOf_size]; exact hi), strOf_at l hlt i hi]
end Go.Proofs.Ytfodpeiecmbojaa
