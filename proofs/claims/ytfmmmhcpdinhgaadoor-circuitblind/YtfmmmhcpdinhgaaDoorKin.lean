/-
  The program's table of kinds in memory.
-/
import Derived.Test.YtfmmmhcpdinhgaaDoorG0
namespace Go.Proofs.YtfmmmhcpdinhgaaDoor
open Go.RowKit Go.Deep PureNet
set_option maxRecDepth 100000

def usesN (k : Nat) : Nat := if k = 2 then 2 else if k = 3 then 1 else if k = 4 then 3 else 0
def mostN (k : Nat) : Int := if k = 2 then 15 else if k = 3 then 1 else 0
/-- the table of kinds, in memory. -/
structure KindsAt (W : World) : Prop where
  pos : 0 < W.heap.size
  op : ∀ k : Nat, 1 ≤ k → k ≤ 4 → W.cell? ⟨0, k * 3 + 1, none⟩ = some (.int .i64 (mostN k))
  uses : ∀ k : Nat, 1 ≤ k → k ≤ 4 → W.cell? ⟨0, k * 3 + 2, none⟩ = some (.int .i64 (usesN k : Int))
theorem KindsAt.below {B : Nat} {w W : World} (h : KindsAt w) (hb : Below B w W) (hB : 0 < B) : KindsAt W :=
  ⟨Nat.lt_of_lt_of_le h.pos hb.size, fun k h1 h2 => (hb.cell (p := ⟨0, k * 3 + 1, none⟩) hB).trans (h.op k h1 h2), fun k h1 h2 => (hb.cell (p := ⟨0, k * 3 + 2, none⟩) hB).trans (h.uses k h1 h2)⟩
theorem KindsAt.on {w W : World} (h : KindsAt w) (hb : Below w.heap.size w W) : KindsAt W := h.below hb h.pos

end Go.Proofs.YtfmmmhcpdinhgaaDoor
