/-
  PrintCnf of the landed program.
-/
import Derived.Test.YtdkboifpdodonaaDoorF5
namespace Go.Proofs.YtdkboifpdodonaaDoor
open Go.RowKit Go.Deep PureCnf
set_option maxRecDepth 100000

theorem within_any (X : List UInt8) (w : World) (hX : X.length ≤ 2199023255552) :
    Calls Tryd.prog 24 #[str X] w fun e w' => e = .returned (.tuple #[str (if X.length ≤ 1048576 then X else []), .int .i64 (if X.length ≤ 1048576 then 0 else 5)]) ∧ w' = w := by
  by_cases h : X.length ≤ 1048576
  · rw [if_pos h, if_pos h]
    have h2 : ¬ (1048576 : Int) < (X.length : Int) := by omega
    clear h
    go_enter Tryd.func24, Tryd.ntmps24
    go_wp2
    go_ret2
    exact ⟨rfl, rfl⟩
  · rw [if_neg h, if_neg h]
    have h2 : (1048576 : Int) < (X.length : Int) := by omega
    clear h
    go_enter Tryd.func24, Tryd.ntmps24
    go_wp2
    go_ret2
    exact ⟨rfl, rfl⟩

theorem litT_le {x : Int} (h0 : -9223372036854775808 ≤ x) (h1 : x ≤ 9223372036854775807) : (litT x).length ≤ 22 := by
  have := Lib.itoa_length_le x h0 h1
  unfold litT
  simp
  omega
theorem flat_le {l : List Int} (h : ∀ x ∈ l, (litT x).length ≤ 22) : (l.flatMap litT).length ≤ 22 * l.length := by
  induction l with
  | nil => simp
  | cons x t ih =>
    have h1 := h x (by simp)
    have h2 := ih (fun y hy => h y (by simp [hy]))
    simp only [List.flatMap_cons, List.length_append, List.length_cons]
    omega
theorem seg_le {L : List Int} (h : ∀ x ∈ L, (litT x).length ≤ 22) (i j : Nat) : (seg L i j).length ≤ 22 * L.length := by
  have h1 : (((L.take j).drop i).flatMap litT).length ≤ 22 * ((L.take j).drop i).length := flat_le (fun x hx => h x (List.mem_of_mem_take (List.mem_of_mem_drop hx)))
  have h2 : ((L.take j).drop i).length ≤ L.length := by simp; omega
  unfold seg
  omega
theorem body_le {L : List Int} (h : ∀ x ∈ L, (litT x).length ≤ 22) : ∀ (E : List Int) (a : Int), (bodyT L a E).length ≤ (22 * L.length + 2) * E.length := by
  intro E
  induction E with
  | nil => intro a; simp [bodyT]
  | cons e t ih =>
    intro a
    have h1 := seg_le h a.toNat e.toNat
    have h2 := ih e
    have e3 : (e :: t).length = t.length + 1 := rfl
    rw [e3, Nat.mul_add, bodyT, List.length_append, List.length_append]
    simp only [List.length_cons, List.length_nil]
    omega
theorem cnfT_le {V : Int} {E L : List Int} (h : formedB V E L = true) : (cnfT V E L).length ≤ 1099511627776 * 2 := by
  obtain ⟨⟨z1, z2, z3, z4⟩, _, _, hlit⟩ := formed_parts h
  have hx : ∀ x ∈ L, (litT x).length ≤ 22 := fun x hx => by
    obtain ⟨k, hk, rfl⟩ := List.getElem_of_mem hx
    have := hlit k hk
    exact litT_le (by omega) (by omega)
  have h1 := body_le hx E 0
  have h2 : (22 * L.length + 2) * E.length ≤ (22 * 1048576 + 2) * 65536 := Nat.mul_le_mul (by omega) z3
  have h3 := Lib.itoa_length_le V (by omega) (by omega)
  have h4 := Lib.itoa_length_le (E.length : Int) (by omega) (by omega)
  have e : Lib.itoa V = Lib.decDigits V.toNat := by
    have := itoa_nat V.toNat
    rwa [show ((V.toNat : Nat) : Int) = V by omega] at this
  rw [e] at h3
  rw [itoa_nat] at h4
  unfold cnfT headT
  simp only [List.length_append, List.length_cons, List.length_nil]
  omega

set_option maxHeartbeats 1000000 in
theorem prints_landed : PrintsT 7 := fun V E L se sl ce cl w hT hV hnE hnL hce hcl hE hL => by
  obtain ⟨WA, hWA⟩ : ∃ WA, WA = w.alloc (Obj.cells #[.int .i64 V, .slice se E.length ce, .slice sl L.length cl] 24) := ⟨_, rfl⟩
  have tA : Below w.heap.size w WA := by rw [hWA]; exact (Below.refl _ _).alloc (Nat.le_refl _) _
  have rA : WA.heap[w.heap.size]? = some (.cells #[.int .i64 V, .slice se E.length ce, .slice sl L.length cl] 24 (0, 0)) := by rw [hWA]; exact heap_alloc_new w _
  have cA := fun j => cell_row rA j
  have HF := hid (formeds_landed V E L se sl ce cl WA hV hnE hnL hce hcl (hE.below tA) (hL.below tA))
  have HTA := hid tA
  have HRA := hid rA
  have HWA := hid hWA
  have HT := hid (hT.below tA)
  have HE := hid (hE.below tA)
  have HL := hid (hL.below tA)
  clear hWA tA rA hT hE hL
  cases hfm : formedB V E L with
  | false =>
    have HO : Hid (printT V E L = [] ∧ printE V E L = 134) := by
      have e : printE V E L = 134 := by unfold printE; rw [hfm]; rfl
      exact ⟨by unfold printT; rw [e]; rfl, e⟩
    rw [hfm] at HF
    clear hfm
    go_enter Tryd.func7, Tryd.ntmps7
    go_wp2_with (first | (rw [← HWA.out]) | (go_at_call 8; refine HF.out.mono ?_; rintro e w1 ⟨rfl, b1⟩; have HB1 := hid (HTA.out.trans (b1.mono HTA.out.size)); clear b1))
    go_ret2
    rw [HO.out.1, HO.out.2]
    exact ⟨rfl, HB1.out⟩
  | true =>
    have hle := cnfT_le hfm
    have HO : Hid (printT V E L = (if (cnfT V E L).length ≤ 1048576 then cnfT V E L else []) ∧ printE V E L = (if (cnfT V E L).length ≤ 1048576 then 0 else 5)) := by
      have e : printE V E L = if (cnfT V E L).length ≤ 1048576 then 0 else 5 := by unfold printE; rw [hfm]; rfl
      refine ⟨?_, e⟩
      unfold printT
      rw [e]
      by_cases h : (cnfT V E L).length ≤ 1048576
      · simp [h]
      · simp [h]
    have HFM := hid hfm
    rw [hfm] at HF
    clear hfm
    obtain ⟨X, hX⟩ : ∃ X, X = cnfT V E L := ⟨_, rfl⟩
    rw [← hX] at HO hle
    have HX := hid hX
    clear hX
    go_enter Tryd.func7, Tryd.ntmps7
    go_wp2_with (first | (rw [← HWA.out]) | (go_at_call 8; refine HF.out.mono ?_; rintro e w1 ⟨rfl, b1⟩; have HB1 := hid (HTA.out.trans (b1.mono HTA.out.size)); have r1 := (b1.block _ (Array.getElem?_eq_some_iff.1 HRA.out).1).trans HRA.out; have c1 := fun j => cell_row r1 j; have HWC := hid (wclauses_any V E L se sl ce cl w1 (HT.out.below b1) (HE.out.below b1) (HL.out.below b1) hcl HFM.out); rw [← HX.out] at HWC; clear b1 r1 cA))
    refine HWC.out.mono ?_
    rintro e w2 ⟨rfl, b2⟩
    have HB2 := hid (HB1.out.trans (b2.mono HB1.out.size))
    have HWI := hid (within_any X w2 (by omega))
    clear b2 c1
    obtain ⟨Y, hY⟩ : ∃ Y, Y = (if X.length ≤ 1048576 then X else []) := ⟨_, rfl⟩
    obtain ⟨z, hz⟩ : ∃ z : Int, z = (if X.length ≤ 1048576 then 0 else 5) := ⟨_, rfl⟩
    rw [← hY, ← hz] at HWI HO
    clear hY hz
    go_wp2_with (go_at_call 24; refine HWI.out.mono ?_; rintro e w' ⟨rfl, rfl⟩)
    go_ret2
    rw [HO.out.1, HO.out.2]
    exact ⟨rfl, HB2.out⟩
end Go.Proofs.YtdkboifpdodonaaDoor
