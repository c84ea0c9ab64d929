/-
  sameInts, sameCnf, of lists that are the same.
-/
import Derived.Test.YtdkboifpdodonaaDoorA4
namespace Go.Proofs.YtdkboifpdodonaaDoor
open Go.RowKit Go.Deep PureCnf
set_option maxRecDepth 100000

theorem drewN_add (w : World) (a b : Nat) : (w.drewN a).drewN b = w.drewN (a + b) := by simp [World.drewN, Nat.add_assoc]

set_option maxHeartbeats 1000000 in
theorem sameInts_true (l : List Int) (sa sb : Option Addr) (ca cb : Nat) (w : World) (hn : l.length ≤ 9223372036854775807) (hA : IntsAt w sa l) (hB : IntsAt w sb l) :
    Calls Tryd.prog 29 #[.slice sa l.length ca, .slice sb l.length cb] w fun e w' => e = .returned (.bool true) ∧ ∃ n, w' = w.drewN n := by
  have HA := hid hA
  have HB := hid hB
  clear hA hB
  go_enter Tryd.func29, Tryd.ntmps29
  go_wp2
  go_loopw [5] (fun i W => ∃ k n : Nat, k ≤ l.length ∧ i = .int .i64 k ∧ W = w.drewN n) (fun i _ => l.length - (intOf i).toNat)
  case atStart => exact ⟨0, 0, Nat.zero_le _, rfl, rfl⟩
  case round =>
    obtain ⟨k, n, hk, rfl, rfl⟩ := hrel
    by_cases hlt : k < l.length
    · obtain ⟨a, rfl, ha, ca1⟩ := HA.out.at_ k hlt
      obtain ⟨b, rfl, hb, cb1⟩ := HB.out.at_ k hlt
      have f1 : (l[k] != l[k]) = false := by simp
      go_wp2
      go_quiet (fail)
      go_wp2
      exact ⟨⟨k + 1, _, hlt, by go_num, rfl⟩, by simp [intOf]; omega⟩
    · go_wp2
      go_ret
      exact ⟨rfl, _, rfl⟩

theorem IntsAt.drewN {w : World} {sa : Option Addr} {l : List Int} (h : IntsAt w sa l) (n : Nat) : IntsAt (w.drewN n) sa l := ⟨h.at_, h.wf⟩
theorem Below.drewN' {B : Nat} {w w' : World} (h : Below B w w') (n : Nat) : Below B w (w'.drewN n) := ⟨h.os, h.tape, h.output, h.size, h.block⟩

set_option maxHeartbeats 1000000 in
theorem sameCnf_true (V : Int) (E L : List Int) (se sl se' sl' : Option Addr) (ce cl ce' cl' : Nat) (w : World) (hnE : E.length ≤ 9223372036854775807) (hnL : L.length ≤ 9223372036854775807) (hE : IntsAt w se E) (hL : IntsAt w sl L) (hE' : IntsAt w se' E) (hL' : IntsAt w sl' L) :
    Calls Tryd.prog 11 #[cnfV V se E.length ce sl L.length cl, cnfV V se' E.length ce' sl' L.length cl'] w fun e w' => e = .returned (.bool true) ∧ Below w.heap.size w w' := by
  obtain ⟨w1, hw1⟩ : ∃ w1, w1 = w.alloc (Obj.cells #[.int .i64 V, .slice se E.length ce, .slice sl L.length cl] 24 (0, 0)) := ⟨_, rfl⟩
  obtain ⟨w2, hw2⟩ : ∃ w2, w2 = w1.alloc (Obj.cells #[.int .i64 V, .slice se' E.length ce', .slice sl' L.length cl'] 24 (0, 0)) := ⟨_, rfl⟩
  have HB : Hid (Below w.heap.size w w2) := by rw [hw2, hw1]; exact ((Below.refl _ _).alloc (Nat.le_refl _) _).alloc (by simp) _
  have hz : w1.heap.size = w.heap.size + 1 := by rw [hw1]; simp
  have hb1 : CnfBox w2 V E L se sl ce cl w.heap.size := by rw [hw2, hw1]; exact ⟨by simp, by simp, by simp⟩
  have hb2 : CnfBox w2 V E L se' sl' ce' cl' (w.heap.size + 1) := by rw [← hz, hw2]; exact ⟨by simp, by simp, by simp⟩
  obtain ⟨c0, c1, c2⟩ := hb1
  obtain ⟨d0, d1, d2⟩ := hb2
  have S1 := hid (fun n => sameInts_true E se se' ce ce' (w2.drewN n) hnE ((hE.below HB.out).drewN n) ((hE'.below HB.out).drewN n))
  have S2 := hid (fun n => sameInts_true L sl sl' cl cl' (w2.drewN n) hnL ((hL.below HB.out).drewN n) ((hL'.below HB.out).drewN n))
  have H1 := hid hw1
  have H2 := hid hw2
  have HZ := hid hz
  clear hE hL hE' hL' hw1 hw2
  go_enter Tryd.func11, Tryd.ntmps11
  go_wp2_with (first | (rw [← H2.out]) | (rw [← H1.out]))
  refine (S1.out 0).mono ?_
  rintro e w3 ⟨rfl, n, rfl⟩
  go_wp2_with fail
  refine (S2.out _).mono ?_
  rintro e w4 ⟨rfl, m, rfl⟩
  go_wp2
  go_ret
  exact ⟨rfl, ⟨HB.out.os, HB.out.tape, HB.out.output, HB.out.size, HB.out.block⟩⟩
end Go.Proofs.YtdkboifpdodonaaDoor
