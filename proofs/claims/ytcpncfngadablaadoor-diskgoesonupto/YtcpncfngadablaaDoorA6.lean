import Derived.Test.YtcpncfngadablaaDoorA5
import Derived.Deep.RegionWith
namespace Go.Proofs.YtcpncfngadablaaDoor
open Go.RowKit Go.Deep

section
variable {w : World} {E : Nat → Addr} {lo p mf mt : Nat} {D : DiskC}

theorem Rep.p_ne (R : Rep w lo p mf mt D) : p ≠ mt ∧ p ≠ mf ∧ mf ≠ mt := by
  have := R.apart
  simp [DiskC.foot] at this
  exact ⟨this.1.2.1, this.1.1, this.2.1.1⟩

/-- a number of the row has been set. -/
theorem Rep.setRow (R : Rep w lo p mf mt D) {w' : World} {D' : DiskC} (hB : D'.B = D.B) (he : D'.ents = D.ents) (hT : D'.T = D.T) (ht : Touch [p] w w') (hrow : w'.heap[p]? = some (.cells (dRow D' mf mt) 72 (0, 0))) : Rep w' lo p mf mt D' := by
  obtain ⟨n, h⟩ := R.troubles
  refine R.reset hB he hrow ⟨n, ?_⟩ (ht.mono (by simp))
  rw [hT]
  exact ownsMap_kept h (ht.block mt h.lt (by simp [R.p_ne.1.symm]))

set_option maxRecDepth 100000 in
set_option maxHeartbeats 400000 in
theorem use_any (R : Rep w lo p mf mt D) (n : Int) (h0 : 0 ≤ D.c.used) (h1 : D.c.used ≤ 1099511627776) (h2 : -1099511627776 ≤ n) (h3 : n ≤ 1099511627776) :
    Calls Tryd.prog 34 #[ptr p, .int .i64 n] w fun e w' => e = .returned (.tuple #[]) ∧ Rep w' lo p mf mt { D with c := { D.c with used := D.c.used + n, most := max D.c.most (D.c.used + n) } } ∧ Touch [p] w w' := by
  have k10 := R.cell 10
  have k11 := R.cell 11
  simp only [dRow] at k10 k11
  have f10 := R.unfrozen 10
  have f11 := R.unfrozen 11
  have hp := lt_of_block R.row
  go_enter Tryd.func34, Tryd.ntmps34
  go_wp2
  go_region
  go_wp2
  go_end0
  have ht : Touch [p] w ((w.setCell ⟨p, 10, none⟩ (.int .i64 (D.c.used + n))).setCell ⟨p, 11, none⟩ (.int .i64 (max D.c.most (D.c.used + n)))).drew :=
    (((Touch.refl [p] w).setCell (by simp) _).setCell (by simp) _).drew
  refine ⟨rfl, R.setRow rfl rfl rfl ht ?_, ht⟩
  show ((w.setCell _ _).setCell _ _).heap[p]? = _
  rw [heap_setCell_row (heap_setCell_row R.row 10 _) 11]
  rfl
end
end Go.Proofs.YtcpncfngadablaaDoor
