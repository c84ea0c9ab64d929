/-
  FormatUint by sixteen.
-/
import Derived.Test.YtjcmhgibedjjnaaDoorA2
namespace Go.Proofs.YtjcmhgibedjjnaaDoor
open Go.RowKit Go.Deep PureHex
set_option maxRecDepth 100000

set_option maxHeartbeats 1000000 in
theorem format12 (u : Nat) (hu : u < 18446744073709551616) (w : World) (h : Tz w) : Calls Tryd.prog 12 #[.int .u64 u, .int .i64 16] w fun e w' => e = .returned (str (hexN u)) ∧ Below w.heap.size w w' := by
  have B := hid (bits_any u hu w h)
  clear h
  go_enter Tryd.func12, Tryd.ntmps12
  go_wp2_with (first | (go_at_call 22; refine B.out.mono ?_; rintro e w2 ⟨rfl, b2⟩; have B2 := hid b2; clear b2))
  go_ret
  exact ⟨rfl, B2.out⟩
theorem format10 (u : Nat) (hu : u < 18446744073709551616) (w : World) (h : Tz w) : Calls Tryd.prog 10 #[.int .u64 u, .int .i64 16] w fun e w' => e = .returned (str (hexN u)) ∧ Below w.heap.size w w' := by
  have B := hid (format12 u hu w h)
  clear h
  go_enter Tryd.func10, Tryd.ntmps10
  go_wp2_with (first | (go_at_call 12; refine B.out.mono ?_; rintro e w2 ⟨rfl, b2⟩; have B2 := hid b2; clear b2))
  go_ret
  exact ⟨rfl, B2.out⟩
end Go.Proofs.YtjcmhgibedjjnaaDoor
