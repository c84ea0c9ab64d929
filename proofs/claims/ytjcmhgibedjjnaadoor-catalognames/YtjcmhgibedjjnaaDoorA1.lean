/-
  Sixteen's trailing zeros.
-/
import Derived.Test.YtjcmhgibedjjnaaDoorRows
import Derived.Lib.BufSteps
import Derived.Lib.Strings
import Derived.WalkKit
import Derived.WalkSpells
import Derived.WalkLawsBesides
import Derived.Deep.QuietTactic
import Derived.Deep.RegionWith
import Derived.Deep.RegionLaw
import Derived.Deep.DeepCutAuto
import Derived.Deep.OwnRows
import Derived.Laws.LoneSync
import Derived.OwnWalk
import Derived.Below
import Derived.Laws.IdiomStrings
namespace Go.Proofs.YtjcmhgibedjjnaaDoor
open Go.RowKit Go.Deep
set_option maxRecDepth 100000

theorem hid {q : Prop} (h : q) : Hid q := h
theorem Hid.out {q : Prop} (h : Hid q) : q := h
/-- the table's cell for sixteen. -/
def Tz (W : World) : Prop := W.cell? ⟨3, 15, none⟩ = some (.int .u8 4) ∧ 3 < W.heap.size
theorem Tz.on {w W : World} (h : Tz w) (hb : Below w.heap.size w W) : Tz W :=
  ⟨(hb.cell (p := ⟨3, 15, none⟩) h.2).trans h.1, Nat.lt_of_lt_of_le h.2 hb.size⟩
set_option maxHeartbeats 1000000 in
theorem tz64 (w : World) (h : Tz w) : Calls Tryd.prog 36 #[.int .u64 16] w fun e w' => e = .returned (.int .i64 4) ∧ w' = w := by
  have h1 := h.1
  have e1 : IntKind.u64.wrap (-16) = 18446744073709551600 := by decide +kernel
  have e2 : bits BinOp.and IntKind.u64 16 18446744073709551600 = 16 := by decide +kernel
  have e3 : IntKind.u64.wrap (16 * 285870213051353865) = 4573923408821661840 := by decide +kernel
  go_enter Tryd.func36, Tryd.ntmps36
  go_wp2
  go_ret
  exact ⟨rfl, rfl⟩
theorem tz (w : World) (h : Tz w) : Calls Tryd.prog 32 #[.int .u64 16] w fun e w' => e = .returned (.int .i64 4) ∧ w' = w := by
  have h1 := tz64 w h
  go_enter Tryd.func32, Tryd.ntmps32
  go_wp2_with (first | (go_at_call 36; refine h1.mono ?_; rintro e w2 ⟨rfl, rfl⟩))
  go_ret
  exact ⟨rfl, rfl⟩
theorem pow2 (w : World) : Calls Tryd.prog 31 #[.int .i64 16] w fun e w' => e = .returned (.bool true) ∧ w' = w := by
  go_enter Tryd.func31, Tryd.ntmps31
  go_wp2
  go_ret
  exact ⟨rfl, rfl⟩
end Go.Proofs.YtjcmhgibedjjnaaDoor
