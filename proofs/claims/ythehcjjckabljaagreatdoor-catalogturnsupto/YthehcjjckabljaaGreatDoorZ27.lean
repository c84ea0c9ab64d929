import Derived.OpenShut
import Derived.Deep.DeepHandedRow
import Derived.Deep.DeepWitnessRowRef
import Derived.SevenTiedAt
import Derived.Test.YthehcjjckabljaaGreatDoorTie
import Derived.Test.YthehcjjckabljaaGreatDoorCards
import Derived.Test.YthehcjjckabljaaGreatDoorZ26
/-
  CatalogTurns: the row and its card.
-/
namespace Go.Proofs.YthehcjjckabljaaGreatDoor
open Go.ChangeShapes Go.WideShapes Go.ChangeAt Go.RowKit Go.Deep
set_option maxRecDepth 100000

/-- no parameter wants a stand-in. -/
theorem catalogTurns_plain (f : FuncId) (fn : Func) (hf : Tryz.pinned.checked.prog.funcNamed "strata/stratalaw17.CatalogTurns" = some f) (hfn : Tryz.pinned.checked.prog.funcs[f]? = some fn) :
    true = Tryz.pinned.checked.prog.looks [] ∧ ∀ (j : Nat) t, fn.params[j]? = some t → Tryz.pinned.checked.prog.wantsStandIn t = false := by
  obtain rfl : f = 4 := Option.some.inj ((show Tryz.prog.funcNamed "strata/stratalaw17.CatalogTurns" = some 4 by kernel_rfl).symm.trans hf) |>.symm
  obtain rfl : fn = Tryz.f4 := (Option.some.inj (Tryz.func4.symm.trans hfn)).symm
  refine ⟨by kernel_rfl, fun j t ht => ?_⟩
  rw [Tryz.params4] at ht
  have hm : t = 3 ∨ t = 31 := by
    have := Array.mem_of_getElem? ht
    simpa using this
  rcases hm with rfl | rfl
  · exact (show Tryz.prog.wantsStandIn 3 = false by kernel_rfl)
  · exact (show Tryz.prog.wantsStandIn 31 = false by kernel_rfl)

theorem catalogTurns_holds : Rows.CatalogTurnsUptoCardSaid :=
  Claim7.holds_tied_plain_at .later [] _ _ _ _ catalogTurns_said (fun _ h => by cases h) (by kernel_rfl) (fun _ h => by cases h) catalogTurnsUpto_row_tie rfl ⟨rfl, rfl⟩ (by kernel_rfl) rfl catalogTurns_plain (by kernel_rfl)
#print axioms catalogTurns_holds
end Go.Proofs.YthehcjjckabljaaGreatDoor
