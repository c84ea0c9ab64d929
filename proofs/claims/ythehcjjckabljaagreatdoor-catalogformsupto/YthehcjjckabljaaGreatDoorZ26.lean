import Derived.OpenShut
import Derived.Deep.DeepHandedRow
import Derived.Deep.DeepWitnessRowRef
import Derived.SevenTiedAt
import Derived.Test.YthehcjjckabljaaGreatDoorTie
import Derived.Test.YthehcjjckabljaaGreatDoorCards
import Derived.Test.YthehcjjckabljaaGreatDoorZ25
/-
  CatalogForms: the card.
-/
namespace Go.Proofs.YthehcjjckabljaaGreatDoor
open Go.ChangeShapes Go.WideShapes Go.ChangeAt Go.RowKit Go.Deep
set_option maxRecDepth 100000

/-- no parameter wants a stand-in. -/
theorem catalogForms_plain (f : FuncId) (fn : Func) (hf : Tryz.pinned.checked.prog.funcNamed "strata/stratalaw17.CatalogForms" = some f) (hfn : Tryz.pinned.checked.prog.funcs[f]? = some fn) :
    true = Tryz.pinned.checked.prog.looks [] ∧ ∀ (j : Nat) t, fn.params[j]? = some t → Tryz.pinned.checked.prog.wantsStandIn t = false := by
  obtain rfl : f = 3 := Option.some.inj ((show Tryz.prog.funcNamed "strata/stratalaw17.CatalogForms" = some 3 by kernel_rfl).symm.trans hf) |>.symm
  obtain rfl : fn = Tryz.f3 := (Option.some.inj (Tryz.func3.symm.trans hfn)).symm
  refine ⟨by kernel_rfl, fun j t ht => ?_⟩
  rw [Tryz.params3] at ht
  have hm : t = 26 := by
    have := Array.mem_of_getElem? ht
    simpa using this
  subst hm
  exact (show Tryz.prog.wantsStandIn 26 = false by kernel_rfl)

theorem catalogForms_holds : Rows.CatalogFormsUptoCardSaid :=
  Claim7.holds_tied_plain_at .later [] _ _ _ _ catalogForms_said (fun _ h => by cases h) (by kernel_rfl) (fun _ h => by cases h) catalogFormsUpto_row_tie rfl ⟨rfl, rfl⟩ (by kernel_rfl) rfl catalogForms_plain (by kernel_rfl)
#print axioms catalogForms_holds
end Go.Proofs.YthehcjjckabljaaGreatDoor
