import Derived.OpenShut
import Derived.Deep.DeepHandedRow
import Derived.Deep.DeepWitnessRowRef
import Derived.SevenTiedAt
import Derived.Test.YthehcjjckabljaaGreatDoorTie
import Derived.Test.YthehcjjckabljaaGreatDoorCards
import Derived.Test.YthehcjjckabljaaGreatDoorC33
namespace Go.Proofs.YthehcjjckabljaaGreatDoor
open Go.ChangeShapes Go.WideShapes Go.ChangeAt Go.RowKit Go.Deep
set_option maxRecDepth 100000
theorem catalogCommits_plain (f : FuncId) (fn : Func) (hf : Tryz.pinned.checked.prog.funcNamed "strata/stratalaw17.CatalogCommits" = some f) (hfn : Tryz.pinned.checked.prog.funcs[f]? = some fn) :
  true = Tryz.pinned.checked.prog.looks [] ∧ ∀ (j:Nat) t,fn.params[j]? = some t → Tryz.pinned.checked.prog.wantsStandIn t = false:=by
 obtain rfl : f = 7 := Option.some.inj ((show Tryz.prog.funcNamed "strata/stratalaw17.CatalogCommits" = some 7 by kernel_rfl).symm.trans hf) |>.symm
 obtain rfl:fn = Tryz.f7:=(Option.some.inj (Tryz.func7.symm.trans hfn)).symm
 refine ⟨by kernel_rfl,fun j t ht=>?_⟩
 rw [Tryz.params7] at ht
 have hm:t = 57 ∨ t = 26 ∨ t = 24:=by
  have:=Array.mem_of_getElem? ht
  simpa using this
 rcases hm with rfl | rfl | rfl
 ·exact (show Tryz.prog.wantsStandIn 57 = false by kernel_rfl)
 ·exact (show Tryz.prog.wantsStandIn 26 = false by kernel_rfl)
 ·exact (show Tryz.prog.wantsStandIn 24 = false by kernel_rfl)
theorem catalogCommits_holds:Rows.CatalogCommitsUptoCardSaid:=
 Claim7.holds_tied_plain_at .later [] _ _ _ _ catalogCommits_said (fun _ h=>by cases h) (by kernel_rfl) (fun _ h=>by cases h) catalogCommitsUpto_row_tie rfl ⟨rfl,rfl⟩ (by kernel_rfl) rfl catalogCommits_plain (by kernel_rfl)
#print axioms catalogCommits_holds
end Go.Proofs.YthehcjjckabljaaGreatDoor
