/-
  The names of numbers: the program's and the document's.
-/
import Derived.Test.YtjcmhgibedjjnaaDoorA3
import Derived.Test.YtjcmhgibedjjnaaDoorShelf
namespace Go.Proofs.YtjcmhgibedjjnaaDoor
open Go.RowKit Go.Deep PureHex
set_option maxRecDepth 100000

theorem str_add (a b : List UInt8) : (⟨a.toArray⟩ : ByteArray) ++ ⟨b.toArray⟩ = ⟨(a ++ b).toArray⟩ := by
  apply ByteArray.ext
  simp
theorem repeat_zeros (c : Nat) : Lib.repeatL [48] c = List.replicate c 48 := by
  induction c with
  | zero => rfl
  | succ c ih => rw [Lib.repeatL, ih]; rfl
theorem pad_any (x : Int) (c : Nat) (hx : x = (c : Int)) (hc : c ≤ 16) (W : World) : Calls Tryd.prog 11 #[.string ⟨#[48]⟩, .int .i64 x] W fun e w' => e = .returned (str (List.replicate c 48)) ∧ Below W.heap.size W w' := by
  subst hx
  have h := Tryd.strings_Repeat ⟨#[48]⟩ c W (by omega) (by show 1 * c ≤ _; omega)
  rw [← repeat_zeros]
  exact h
set_option maxHeartbeats 1000000 in
theorem padded_any (u : Nat) (hu : u < 18446744073709551616) (w : World) (h : Tz w) : Calls Tryd.prog 8 #[.int .u64 u] w fun e w' => e = .returned (str (hexW 16 u)) ∧ Below w.heap.size w w' := by
  have B := hid (format10 u hu w h)
  have hl := hexN_len 15 u hu
  have hp := hid (hex_pad 15 u hu)
  obtain ⟨s, hs⟩ : ∃ s, s = hexN u := ⟨_, rfl⟩
  rw [← hs] at B hl hp
  clear hs h
  have hsz : (⟨s.toArray⟩ : ByteArray).size = s.length := rfl
  have HP : Hid (∀ W, Calls Tryd.prog 11 #[.string ⟨#[48]⟩, .int .i64 (16 - (s.length : Int))] W fun e w' => e = .returned (str (List.replicate (16 - s.length) 48)) ∧ Below W.heap.size W w') := fun W => pad_any _ _ (by omega) (by omega) W
  go_enter Tryd.func8, Tryd.ntmps8
  go_wp2_with (first
    | (go_at_call 11; refine Calls.mono (HP.out _) ?_; rintro e w3 ⟨rfl, b3⟩; have B3 := hid b3; clear b3)
    | (go_at_call 10; refine B.out.mono ?_; rintro e w2 ⟨rfl, b2⟩; have B2 := hid b2; clear b2))
  go_ret
  refine ⟨?_, B2.out.trans (B3.out.mono B2.out.size)⟩
  exact congrArg (fun b => Ending.returned (Value.string b)) ((str_add (List.replicate (16 - s.length) 48) s).trans (congrArg (fun l : List UInt8 => (⟨l.toArray⟩ : ByteArray)) hp.out))
set_option maxHeartbeats 1000000 in
theorem file_any (u : Nat) (hu : u < 18446744073709551616) (w : World) (h : Tz w) : Calls Tryd.prog 4 #[.int .u64 u] w fun e w' => e = .returned (str ([100, 100, 45] ++ hexW 16 u)) ∧ Below w.heap.size w w' := by
  have B := hid (padded_any u hu w h)
  have hl := hexW_len 16 u
  obtain ⟨s, hs⟩ : ∃ s, s = hexW 16 u := ⟨_, rfl⟩
  rw [← hs] at B hl ⊢
  have hsz : (⟨s.toArray⟩ : ByteArray).size = 16 := hl
  clear hs h hl
  go_enter Tryd.func4, Tryd.ntmps4
  go_wp2_with (first
    | (go_at_call 8; refine B.out.mono ?_; rintro e w2 ⟨rfl, b2⟩; have B2 := hid b2; clear b2))
  go_ret
  exact ⟨congrArg (fun b => Ending.returned (Value.string b)) (str_add [100, 100, 45] s), B2.out⟩
set_option maxHeartbeats 1000000 in
theorem name_any (u : Nat) (hu : u < 18446744073709551616) (w : World) (h : Tz w) : Calls Tryd.prog 6 #[.int .u64 u] w fun e w' => e = .returned (str ([99, 97, 116, 45] ++ hexW 16 u)) ∧ Below w.heap.size w w' := by
  have B := hid (padded_any u hu w h)
  have hl := hexW_len 16 u
  obtain ⟨s, hs⟩ : ∃ s, s = hexW 16 u := ⟨_, rfl⟩
  rw [← hs] at B hl ⊢
  have hsz : (⟨s.toArray⟩ : ByteArray).size = 16 := hl
  clear hs h hl
  go_enter Tryd.func6, Tryd.ntmps6
  go_wp2_with (first
    | (go_at_call 8; refine B.out.mono ?_; rintro e w2 ⟨rfl, b2⟩; have B2 := hid b2; clear b2))
  go_ret
  exact ⟨congrArg (fun b => Ending.returned (Value.string b)) (str_add [99, 97, 116, 45] s), B2.out⟩
end Go.Proofs.YtjcmhgibedjjnaaDoor
