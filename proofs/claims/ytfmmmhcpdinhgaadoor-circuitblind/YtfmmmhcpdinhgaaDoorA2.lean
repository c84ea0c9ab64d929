/-
  The law's fit.
-/
import Derived.Test.YtfmmmhcpdinhgaaDoorA1
import Derived.Laws.CopyRow
import Derived.Laws.OwnMore
import Derived.Laws.Tables
import Derived.Laws.MakeOwn
namespace Go.Proofs.YtfmmmhcpdinhgaaDoor
open Go.RowKit Go.Deep PureNet
set_option maxRecDepth 100000

/-- just n truths of a list. -/
def fitL (l : List Bool) (n : Nat) : List Bool := l.take n ++ List.replicate (n - l.length) false
theorem fitL_len (l : List Bool) (n : Nat) : (fitL l n).length = n := by simp [fitL]; omega
theorem size4 : (Tryd.prog.info? 4).map (·.size) = some 1 := by kernel_rfl
theorem made_bits (n : Nat) : (madeCells #[Value.bool false] n).toList = bo (List.replicate n false) := by rw [toList_madeCells_one]; simp [bo]
theorem fitted (l : List Bool) (n : Nat) : (madeCells #[Value.bool false] n).toList.take 0 ++ bo (l.take n) ++ (madeCells #[Value.bool false] n).toList.drop (0 + (bo (l.take n)).length) = bo (fitL l n) := by
  rw [made_bits]
  simp only [bo, fitL, List.take_zero, List.nil_append, List.map_append, List.length_map, List.length_take, Nat.zero_add, List.map_replicate, List.drop_replicate, List.map_take]
  congr 2
  omega
theorem row_cells {W : World} {g : Nat} {xs : List Value} {t : TypeId} {fz : Nat × Nat} (h : W.heap[g]? = some (.cells xs.toArray t fz)) : CellsAt W (some ⟨g, 0, none⟩) xs := ⟨fun k x hx => ⟨g, 0, rfl, (Array.getElem?_eq_some_iff.1 h).1, by rw [cell_row h, Nat.zero_add]; simpa using hx⟩⟩

set_option maxHeartbeats 1000000 in
set_option maxRecDepth 100000 in
theorem fit_any (l : List Bool) (sa : Option Addr) (ca n : Nat) (w : World) (hs : CellsAt w sa (bo l)) (hca : sa = none → ca = 0) (hl : l.length ≤ 140737488351232) (hn : n ≤ 1048576) :
    Calls Tryd.prog 12 #[.slice sa l.length ca, .int .i64 (n : Int)] w fun e w' => e = .returned (.slice (some ⟨w.heap.size, 0, none⟩) n n) ∧ w'.heap[w.heap.size]? = some (.cells (bo (fitL l n)).toArray 4 (0, 0)) ∧ Below w.heap.size w w' := by
  have hmk : ∀ W : World, (Instr.makeSlice 29 (.int .i64 (n : Int)) (.int .i64 (n : Int))).run Tryd.prog W = .ok (.slice (some ⟨W.heap.size, 0, none⟩) n n) (W.alloc (.cells (madeCells #[.bool false] n) 4)) := fun W =>
    run_make_row' (P := Tryd.prog) 29 4 (.bool false) 1 Tryd.underlying29 info4 rfl .i64 .i64 n (by omega) (by omega) W
  cases sa with
  | none =>
    have h0 : l = [] := by
      cases l with
      | nil => rfl
      | cons x r =>
        obtain ⟨g, o, e, _⟩ := hs.at_ 0 (.bool x) (by simp [bo])
        cases e
    subst h0
    obtain rfl := hca rfl
    have hcp := run_copy_nil (P := Tryd.prog) (w.alloc (.cells (madeCells #[.bool false] n) 4)) 29 29 3 4 ⟨w.heap.size, 0, none⟩ n n Tryd.underlying29 (by rw [size4]; rfl)
    have HF : Hid ((madeCells #[Value.bool false] n) = (bo (fitL [] n)).toArray) := by show _ = _; apply Array.ext'; rw [made_bits]; simp [fitL]
    clear hs hca hl
    generalize hR : madeCells #[Value.bool false] n = R at *
    clear hR
    go_enter Tryd.func12, Tryd.ntmps12
    go_wp2
    go_ret
    exact ⟨rfl, by rw [← HF.out]; exact heap_alloc_new w _, (Below.refl _ _).alloc (Nat.le_refl _) _⟩
  | some ad =>
    have hlen : (bo (l.take n)).length = Nat.min l.length n := by simp [bo, Nat.min_comm]
    have hcp := run_copy_row (P := Tryd.prog) (w.alloc (.cells (madeCells #[.bool false] n) 4)) 29 29 3 4 w.heap.size 0 n n ad l.length ca (madeCells #[.bool false] n) 4 (bo (l.take n)) Tryd.underlying29 size4 (heap_alloc_new w _) hlen
      (fun j v hj => by
        have h1 : (bo l)[j]? = some v := by
          simp only [bo, List.getElem?_map, List.getElem?_take] at hj ⊢
          split at hj
          · exact hj
          · simp at hj
        obtain ⟨g, o, e, hg, c⟩ := hs.at_ j v h1
        cases e
        rw [add_plain]
        exact below_cell ((Below.refl _ _).alloc (Nat.le_refl _) _) hg c)
      (by rw [size_madeCells, hlen, Nat.zero_add]; exact Nat.min_le_right l.length n) (fun v hv => by simp only [bo, List.mem_map] at hv; obtain ⟨x, _, rfl⟩ := hv; rfl)
    rw [fitted] at hcp
    clear hs hca hlen
    generalize hR : madeCells #[Value.bool false] n = R at *
    clear hR
    go_enter Tryd.func12, Tryd.ntmps12
    go_wp2
    go_ret
    exact ⟨rfl, setRow_heap _ _ R _ 4 (0, 0) (heap_alloc_new w _), ⟨rfl, rfl, rfl, by simp, fun b hb => (setRow_other _ _ _ _ (by omega)).trans (Below.heap_alloc w _ b hb)⟩⟩
end Go.Proofs.YtfmmmhcpdinhgaaDoor
