import Derived.Test.YtkielflmpodapaaA1
namespace Go.Proofs.Ytkielflmpodapaa
open Go.RowKit

theorem inner_form (l i : Int) : ∃ P E : Int, innerV l i = .tuple #[.int .u64 P, .int .i64 E] := by
  unfold innerV; split
  · exact ⟨_, _, rfl⟩
  · split <;> exact ⟨_, _, rfl⟩

theorem split_form (p : Int) : ∃ (l i : Int) (a b c : Bool), splitV p = .tuple #[.int .i64 l, .int .i64 i, .bool a, .bool b, .bool c] := by
  unfold splitV; split
  · exact ⟨_, _, _, _, _, rfl⟩
  · split
    · exact ⟨_, _, _, _, _, rfl⟩
    · split <;> exact ⟨_, _, _, _, _, rfl⟩

set_option maxHeartbeats 1000000 in
theorem pointers_any (l i p : Int) (v : Bool) (hl : l < 9223372036854775808 ∧ -9223372036854775808 ≤ l) (hi : i < 9223372036854775808 ∧ -9223372036854775808 ≤ i)
    (h0 : 0 ≤ p) (h1 : p < 18446744073709551616) (w : World) :
    Calls Try.prog 6 #[.agg #[.int .i64 l, .int .i64 i, .int .u64 p, .bool v]] w fun e w' =>
      e = .returned (.bool true) ∧ w' = w.alloc (.cells #[.int .i64 l, .int .i64 i, .int .u64 p, .bool v] 34) := by
  have HA := fun W => innerP l i W hl hi
  have HB := fun W => innerR l i W hl hi
  obtain ⟨P, E, hPE⟩ := inner_form l i
  rw [hPE] at HA HB
  have HC := fun W => leafP v W
  have HD := fun W => leafR v W
  obtain ⟨q, hq⟩ : ∃ q, q = leafN v := ⟨_, rfl⟩
  rw [← hq] at HC HD
  have HE := fun W => levelP p h0 h1 W
  have HF := fun W => levelR p h0 h1 W
  obtain ⟨L, hL⟩ : ∃ L, L = levelN p := ⟨_, rfl⟩
  rw [← hL] at HE HF
  have HG := fun W => splitP p h0 h1 W
  have HH := fun W => splitR p h0 h1 W
  obtain ⟨m, n, a, b, c, hs⟩ := split_form p
  rw [hs] at HG HH
  clear hPE hq hL hs hl hi h0 h1
  go_enter Try.func6, Try.ntmps6
  go_wp2_with (first
    | (go_at_call 19; refine (HH _).mono ?_; rintro _ _ ⟨rfl, rfl⟩)
    | (go_at_call 13; refine (HG _).mono ?_; rintro _ _ ⟨rfl, rfl⟩)
    | (go_at_call 18; refine (HF _).mono ?_; rintro _ _ ⟨rfl, rfl⟩)
    | (go_at_call 15; refine (HE _).mono ?_; rintro _ _ ⟨rfl, rfl⟩)
    | (go_at_call 17; refine (HD _).mono ?_; rintro _ _ ⟨rfl, rfl⟩)
    | (go_at_call 14; refine (HC _).mono ?_; rintro _ _ ⟨rfl, rfl⟩)
    | (go_at_call 16; refine (HB _).mono ?_; rintro _ _ ⟨rfl, rfl⟩)
    | (go_at_call 12; refine (HA _).mono ?_; rintro _ _ ⟨rfl, rfl⟩))
  go_ret
  exact ⟨rfl, rfl⟩

end Go.Proofs.Ytkielflmpodapaa
