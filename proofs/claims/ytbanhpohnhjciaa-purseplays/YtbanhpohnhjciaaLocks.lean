import Derived.Test.YtbanhpohnhjciaaRows
import Derived.Conc.MuLone
import Derived.KernelRfl
namespace Go.Proofs.Ytbanhpohnhjciaa
abbrev muLink : Go.Conc.Locks.MuLink := { lock := 21, unlock := 22, ilock := 38, iunlock := 39, lockSlow := 48, unlockSlow := 51, disable := 44, enable := 46, acquire := 47, relMerge := 49, cas32 := 45, add32 := 50, tMutex := 54, tIMutex := 52, tPMutex := 47, tPIMutex := 72, tPI32 := 74, tUP := 76, tNoCopy := 49, tU32 := 50 }
theorem muLib : Go.Conc.Locks.MuLib Try.prog muLink :=
  ⟨Try.func21, Try.func22, Try.func38, Try.func39, Try.func44, Try.func46, Try.func47, Try.func49, Try.func45, Try.func50, Try.underlying52, Try.runUnderlying52, Try.sizeOf52, Try.isAgg52, Try.zeroValue52, Try.underlying54, Try.runUnderlying54, Try.sizeOf54, Try.isAgg54, Try.zeroValue54, Try.underlying47, Try.runUnderlying47, Try.sizeOf47, Try.isAgg47, Try.zeroValue47, Try.underlying72, Try.runUnderlying72, Try.sizeOf72, Try.isAgg72, Try.zeroValue72, Try.underlying74, Try.runUnderlying74, Try.sizeOf74, Try.isAgg74, Try.zeroValue74, Try.underlying76, Try.runUnderlying76, Try.sizeOf76, Try.isAgg76, Try.zeroValue76, Try.underlying49, Try.runUnderlying49, Try.sizeOf49, Try.isAgg49, Try.zeroValue49, Try.underlying21, Try.runUnderlying21, Try.sizeOf21, Try.isAgg21, Try.zeroValue21, (by kernel_rfl)⟩
end Go.Proofs.Ytbanhpohnhjciaa
