/-
  FormedCnf of the landed program.
-/
import Derived.Test.YtdkboifpdodonaaDoorF3
namespace Go.Proofs.YtdkboifpdodonaaDoor
open Go.RowKit Go.Deep PureCnf
set_option maxRecDepth 100000

set_option maxHeartbeats 2000000 in
theorem formed8_no (V : Int) (E L : List Int) (se sl : Option Addr) (ce cl : Nat) (w : World) (hE : E.length ≤ 17592186044416) (hL : L.length ≤ 17592186044416) (h : sizesB V E L = false) :
    Calls Tryd.prog 8 #[cnfV V se E.length ce sl L.length cl] w fun e w' => e = .returned (.bool false) ∧ Below w.heap.size w w' := by
  have hb : Below w.heap.size w (w.alloc (Obj.cells #[.int .i64 V, .slice se E.length ce, .slice sl L.length cl] 24)) := (Below.refl _ _).alloc (Nat.le_refl _) _
  have HB := hid hb
  clear hb
  have hc : V < 0 ∨ (¬ V < 0 ∧ 65536 < V) ∨ (¬ V < 0 ∧ ¬ 65536 < V ∧ (65536 : Int) < E.length) ∨ (¬ V < 0 ∧ ¬ 65536 < V ∧ ¬ (65536 : Int) < E.length ∧ (1048576 : Int) < L.length) := by
    simp [sizesB] at h
    omega
  clear h
  rcases hc with h1 | ⟨h1, h2⟩ | ⟨h1, h2, h3⟩ | ⟨h1, h2, h3, h4⟩
  all_goals
    go_enter Tryd.func8, Tryd.ntmps8
    go_wp2_with fail
    go_ret
    exact ⟨rfl, HB.out⟩

set_option maxHeartbeats 4000000 in
theorem formed8_yes (V : Int) (E L : List Int) (se sl : Option Addr) (ce cl : Nat) (w : World) (h : sizesB V E L = true) (hE : IntsAt w se E) (hL : IntsAt w sl L) :
    Calls Tryd.prog 8 #[cnfV V se E.length ce sl L.length cl] w fun e w' => e = .returned (.bool (formedB V E L)) ∧ Below w.heap.size w w' := by
  obtain ⟨WA, hWA⟩ : ∃ WA, WA = w.alloc (Obj.cells #[.int .i64 V, .slice se E.length ce, .slice sl L.length cl] 24) := ⟨_, rfl⟩
  have hb : Below w.heap.size w WA := by rw [hWA]; exact (Below.refl _ _).alloc (Nat.le_refl _) _
  have rA : WA.heap[w.heap.size]? = some (.cells #[.int .i64 V, .slice se E.length ce, .slice sl L.length cl] 24 (0, 0)) := by rw [hWA]; exact heap_alloc_new w _
  have cA := fun j => cell_row rA j
  have HB := hid hb
  have HE := hid (hE.below hb)
  have HWA := hid hWA
  have hz : 0 ≤ V ∧ V ≤ 65536 ∧ E.length ≤ 65536 ∧ L.length ≤ 1048576 := by simpa [sizesB] using h
  obtain ⟨z1, z2, z3, z4⟩ := hz
  have HC := hid (contains_any V L sl cl w.heap.size WA ⟨z1, z2⟩ (by rw [cA]; rfl) (hL.below hb) z4)
  have HS := hid h
  clear hE hL h hb rA hWA
  go_enter Tryd.func8, Tryd.ntmps8
  go_wp2_with (rw [← HWA.out])
  go_loop [3, 29] (fun ev iv => ∃ k : Nat, k ≤ E.length ∧ iv = .int .i64 k ∧ ev = .int .i64 (lastOr 0 (E.take k)) ∧ Hid (mono 0 (E.take k) = true)) (fun _ iv => E.length - (intOf iv).toNat)
  case atStart => exact ⟨0, Nat.zero_le _, rfl, rfl, rfl⟩
  case round =>
    obtain ⟨k, hk, rfl, rfl, HM⟩ := hrel
    by_cases hlt : k < E.length
    · obtain ⟨a, rfl, ha, hr⟩ := HE.out.read hlt
      have c0 := hr WA (Below.refl _ _)
      obtain ⟨x, hx⟩ : ∃ x, x = E[k] := ⟨_, rfl⟩
      obtain ⟨m, hm⟩ : ∃ m, m = lastOr 0 (E.take k) := ⟨_, rfl⟩
      rw [← hx] at c0
      rw [← hm]
      by_cases hf : x < m
      · have HR : Hid (formedB V E L = false) := by
          show _ = _
          unfold formedB
          rw [mono_fall hlt (by rw [← hx, ← hm]; exact hf)]
          simp
        clear hx hm hr HM
        go_wp2_with fail
        go_ret
        rw [HR.out]
        exact ⟨rfl, HB.out⟩
      · have HR : Hid (mono 0 (E.take (k + 1)) = true ∧ lastOr 0 (E.take (k + 1)) = x) := by
          rw [hx]
          exact mono_on hlt HM.out (by rw [← hx, ← hm]; exact hf)
        clear hx hm hr HM
        go_wp2_with fail
        exact ⟨⟨k + 1, hlt, by go_num, by rw [HR.out.2], HR.out.1⟩, by simp [intOf]; omega⟩
    · have hE1 : E.take k = E := List.take_of_length_le (by omega)
      have HM1 : Hid (mono 0 E = true) := by have := HM.out; rw [hE1] at this; exact this
      rw [hE1]
      obtain ⟨m, hm⟩ : ∃ m, m = lastOr 0 E := ⟨_, rfl⟩
      rw [← hm]
      clear HM hE1
      by_cases hq : m = (L.length : Int)
      · have HR : Hid (formedB V E L = L.all (litB V)) := by
          show _ = _
          unfold formedB
          rw [HS.out, HM1.out, ← hm]
          simp [hq]
        subst hq
        clear hm
        go_wp2_with (go_at_call 26; refine HC.out.mono ?_; rintro e w' ⟨rfl, rfl⟩)
        go_ret
        refine ⟨?_, HB.out⟩
        rw [HR.out]
        simp
      · have HR : Hid (formedB V E L = false) := by
          show _ = _
          unfold formedB
          rw [HS.out, HM1.out, ← hm]
          simp [hq]
        have hq2 : (m == (L.length : Int)) = false := by simpa using hq
        clear hm hq
        go_wp2_with (go_at_call 26; refine HC.out.mono ?_; rintro e w' ⟨rfl, rfl⟩)
        go_ret
        rw [HR.out]
        exact ⟨rfl, HB.out⟩
theorem formeds_landed : Formeds 8 := fun V E L se sl ce cl w hV hE hL _ _ h1 h2 => by
  cases h : sizesB V E L with
  | false =>
    have : formedB V E L = false := by unfold formedB; rw [h]; rfl
    rw [this]
    exact formed8_no V E L se sl ce cl w hE hL h
  | true => exact formed8_yes V E L se sl ce cl w h h1 h2
end Go.Proofs.YtdkboifpdodonaaDoor
