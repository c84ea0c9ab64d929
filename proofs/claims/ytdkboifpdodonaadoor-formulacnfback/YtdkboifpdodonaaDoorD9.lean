/-
  The landed program's line.
-/
import Derived.Test.YtdkboifpdodonaaDoorD8
namespace Go.Proofs.YtdkboifpdodonaaDoor
open Go.RowKit Go.Deep PureCnf
set_option maxRecDepth 100000

theorem literal22_any {w0 W : World} {b : Nat} {V C : Int} {E L : List Int} {ve vl : Value} {bg : Bool} (h : Cl w0 W b V E L ve vl bg C) (X : List UInt8) (hX : X.length ≤ 1099511627776) (hV : 0 ≤ V ∧ V ≤ 65536) (hE : E.length ≤ 1048576) (hL : L.length ≤ 1048576) :
    Calls Tryd.prog 74 #[.pointer (some ⟨b, 0, none⟩), str X] W fun e W' => e = .returned (.int .i64 (litE V C E L X)) ∧ (∃ ve' vl', Cl w0 W' b V (litEs V C E L X) (litLs V C E L X) ve' vl' bg C) ∧ Keep b W W' := by
  by_cases hC : (E.length : Int) = C
  · exact literal_A h X hC
  have hr := numB_range (bare X) 2147483647
  by_cases hn : numB (bare X) 2147483647 = -1
  · exact literal_B1 h X hX hV hE hL hC hn
  obtain ⟨v, hv⟩ : ∃ v : Nat, numB (bare X) 2147483647 = v := ⟨(numB (bare X) 2147483647).toNat, by omega⟩
  by_cases hm : X.head? = some 45
  · by_cases h0 : v = 0
    · subst h0
      exact literal_B2 h X hX hV hE hL hC hv hm
    · have hf : litFine X = true := by rw [litFine_bare, hv, if_pos hm]; simp; omega
      have hq : litNum X = -(v : Int) := by rw [litNum_bare, hv, if_pos hm, if_pos (by omega)]
      by_cases hV2 : V < (v : Int)
      · exact literal_C h X hX hV hE hL hC v hv hf hV2 (.inr hq)
      · by_cases hLL : L.length = 1048576
        · exact literal_E h X hX hV hE hL hC v hv hf (by omega) (by omega) (.inr hq) hLL
        · exact literal_F h X hX hV hE hL hC v hv hf (by omega) (by omega) (by simpa using hm) hq hLL
  · have hf : litFine X = true := by rw [litFine_bare, hv, if_neg hm]; simp
    have hq : litNum X = (v : Int) := by rw [litNum_bare, hv, if_neg hm, if_pos (by omega)]
    by_cases h0 : v = 0
    · subst h0
      exact literal_D h X hX hV hE hL hC hv hm
    · by_cases hV2 : V < (v : Int)
      · exact literal_C h X hX hV hE hL hC v hv hf hV2 (.inl hq)
      · by_cases hLL : L.length = 1048576
        · exact literal_E h X hX hV hE hL hC v hv hf (by omega) (by omega) (.inl hq) hLL
        · exact literal_G h X hX hV hE hL hC v hv hf (by omega) (by omega) (by simpa using hm) hq hLL

/-- the words of a line behind the head: the fault (0: none) and its place; the lists. -/
def bRun (V C : Int) : List Piece → List Int → List Int → (Int × Nat) × List Int × List Int
  | [], E, L => ((0, 0), E, L)
  | p :: t, E, L => if litE V C E L p.w ≠ 0 then ((litE V C E L p.w, p.at_), E, L) else bRun V C t (litEs V C E L p.w) (litLs V C E L p.w)
theorem lit_count (V C : Int) (E L : List Int) (X : List UInt8) : (litEs V C E L X).length + (litLs V C E L X).length ≤ E.length + L.length + 1 := by
  unfold litEs litLs
  by_cases h : litE V C E L X = 0
  · by_cases h2 : litNum X = 0
    · rw [if_pos ⟨h, h2⟩, if_neg (by simp [h2])]; simp; omega
    · rw [if_neg (by simp [h2]), if_pos ⟨h, h2⟩]; simp; omega
  · rw [if_neg (by simp [h]), if_neg (by simp [h])]; omega
theorem bRun_drop {V C : Int} {l : List Piece} {j : Nat} {E L : List Int} (h : j < l.length) : bRun V C (l.drop j) E L = if litE V C E L l[j].w ≠ 0 then ((litE V C E L l[j].w, l[j].at_), E, L) else bRun V C (l.drop (j + 1)) (litEs V C E L l[j].w) (litLs V C E L l[j].w) := by
  rw [List.drop_eq_getElem_cons h, bRun]

set_option maxHeartbeats 1000000 in
theorem line_none {w0 W : World} {b B : Nat} {V C : Int} {E L : List Int} {ve vl v : Value} {bg : Bool} (h : Cl w0 W b V E L ve vl bg C) (hl : WRow W B v []) :
    Calls Tryd.prog 52 #[.pointer (some ⟨b, 0, none⟩), v] W fun e W' => e = .returned (.tuple #[.int .i64 0, .int .i64 0]) ∧ Cl w0 W' b V E L ve vl bg C := by
  obtain ⟨sa, ca, rfl⟩ := hl.form
  have HCL := hid h
  clear h hl
  go_enter Tryd.func52, Tryd.ntmps52
  go_wp2_with fail
  go_ret2
  exact ⟨rfl, HCL.out⟩

set_option maxHeartbeats 1000000 in
theorem line_head {w0 W : World} {b B : Nat} {E L : List Int} {ve vl v : Value} (l : List Piece) (h : Cl w0 W b 0 E L ve vl false 0) (hl : WRow W B v l) (hB : b < B) (hn : l.length ≤ 1099511627776) (h0 : 0 < l.length)
    (hw : ∀ p ∈ l, p.at_ + p.w.length ≤ 1099511627776) :
    Calls Tryd.prog 52 #[.pointer (some ⟨b, 0, none⟩), v] W fun e W' => e = .returned (.tuple #[.int .i64 (hOut l).1, .int .i64 ((hOut l).2 : Int)]) ∧
      ∃ V C, Cl w0 W' b V E L ve vl true C ∧ ((hOut l).1 = 0 → V = hV l l.length ∧ C = hC l l.length) := by
  obtain ⟨sa, ca, rfl⟩ := hl.form
  have c0 := fun j => cell_row h.row j
  have f0 := fun j => unfrozen_row h.row j
  have HH := hid (head21_any l (h.setB true) (hl.keep Keep.set hB) hB hn h0 hw)
  have hne : ((l.length : Int) == 0) = false := beq_eq_false_iff_ne.2 (by omega)
  clear h hl
  go_enter Tryd.func52, Tryd.ntmps52
  go_wp2_with fail
  refine HH.out.mono ?_
  rintro e w2 ⟨rfl, V, C, cl, hh⟩
  have CL := hid cl
  have HHH := hid hh
  clear cl hh c0 f0
  go_wp2_with fail
  go_ret2
  exact ⟨rfl, V, C, CL.out, HHH.out⟩

set_option maxHeartbeats 2000000 in
theorem line_body {w0 W : World} {b B : Nat} {V C : Int} {E L : List Int} {ve vl v : Value} (l : List Piece) (h : Cl w0 W b V E L ve vl true C) (hl : WRow W B v l) (hB : b < B) (h0 : 0 < l.length) (hV : 0 ≤ V ∧ V ≤ 65536) (hEL : E.length + L.length + l.length ≤ 1048576)
    (hw : ∀ p ∈ l, p.at_ + p.w.length ≤ 1099511627776) :
    Calls Tryd.prog 52 #[.pointer (some ⟨b, 0, none⟩), v] W fun e W' => e = .returned (.tuple #[.int .i64 (bRun V C l E L).1.1, .int .i64 ((bRun V C l E L).1.2 : Int)]) ∧
      ∃ ve' vl', Cl w0 W' b V (bRun V C l E L).2.1 (bRun V C l E L).2.2 ve' vl' true C := by
  obtain ⟨sa, ca, rfl⟩ := hl.form
  have c0 := fun j => cell_row h.row j
  have HCL := hid h
  have HWR := hid hl
  have hne : ((l.length : Int) == 0) = false := beq_eq_false_iff_ne.2 (by omega)
  have hn : l.length ≤ 1048576 := by omega
  clear h hl
  go_enter Tryd.func52, Tryd.ntmps52
  go_wp2_with fail
  clear c0
  go_loopw [27] (fun iv W1 => ∃ (j : Nat) (E1 L1 : List Int) (ve1 vl1 : Value), iv = .int .i64 j ∧ j ≤ l.length ∧ E1.length + L1.length ≤ E.length + L.length + j ∧ Hid (bRun V C l E L = bRun V C (l.drop j) E1 L1 ∧ Cl w0 W1 b V E1 L1 ve1 vl1 true C ∧ WRow W1 B (.slice sa l.length ca) l)) (fun iv _ => l.length - (intOf iv).toNat)
  case atStart => exact ⟨0, E, L, ve, vl, rfl, Nat.zero_le _, by omega, rfl, HCL.out, HWR.out⟩
  case round =>
    obtain ⟨j, E1, L1, ve1, vl1, rfl, hj, hcn, HP⟩ := hrel
    by_cases hlt : j < l.length
    · obtain ⟨P1, P2, P3⟩ := HP.out
      obtain ⟨g, c, hv, hg, c0, c1⟩ := P3.read hlt
      simp only [Value.slice.injEq, true_and] at hv
      obtain ⟨rfl, rfl⟩ := hv
      have hpw := hw _ (List.getElem_mem hlt)
      obtain ⟨X, hX⟩ : ∃ x, x = l[j].w := ⟨_, rfl⟩
      obtain ⟨at_, hat⟩ : ∃ x, x = l[j].at_ := ⟨_, rfl⟩
      have hdr := bRun_drop (V := V) (C := C) (E := E1) (L := L1) hlt
      rw [← hX, ← hat] at hdr hpw
      rw [← hX] at c0
      rw [← hat] at c1
      obtain ⟨WA, hWA⟩ : ∃ x, x = wr.alloc (Obj.cells #[.string ⟨X.toArray⟩, .int .i64 (at_ : Int)] 140) := ⟨_, rfl⟩
      have tA : Below wr.heap.size wr WA := by rw [hWA]; exact (Below.refl _ _).alloc (Nat.le_refl _) _
      have rA : WA.heap[wr.heap.size]? = some (.cells #[.string ⟨X.toArray⟩, .int .i64 (at_ : Int)] 140 (0, 0)) := by rw [hWA]; exact heap_alloc_new wr _
      have cA := fun k => cell_row rA k
      have HLT := hid (literal22_any (P2.on tA) X (by omega) hV (by omega) (by omega))
      have hct := lit_count V C E1 L1 X
      have hbs := P2.size
      have HRA := hid rA
      have HWR2 := hid (P3.keep (Keep.of_below tA) hB)
      have HWA := hid hWA
      have HPP := hid P1
      have HDR := hid hdr
      clear hX hat hdr P1 P2 P3 HP rA tA hWA HCL HWR
      go_wp2_with (rw [← HWA.out])
      refine HLT.out.mono ?_
      rintro e1 w2 ⟨rfl, ⟨ve2, vl2, cl2⟩, kp⟩
      have r2 := kp.block _ _ _ _ (show wr.heap.size ≠ b by omega) (by decide) HRA.out
      have HWR3 := hid (HWR2.out.keep kp hB)
      have CL2 := hid cl2
      have c2 := fun k => cell_row r2 k
      clear r2 kp cl2 HWR2 cA
      cases he : decide (litE V C E1 L1 X = 0) with
      | true =>
        have he0 : litE V C E1 L1 X = 0 := by simpa using he
        have HD2 : Hid (bRun V C l E L = bRun V C (l.drop (j + 1)) (litEs V C E1 L1 X) (litLs V C E1 L1 X)) := by
          show _ = _
          rw [HPP.out, HDR.out, if_neg (by simpa using he0)]
        rw [he0]
        clear he he0
        go_wp2_with fail
        go_roundw
        case rel => exact ⟨j + 1, _, _, _, _, by go_num, hlt, by omega, HD2.out, CL2.out, HWR3.out⟩
        case measure => simp [intOf]; omega
      | false =>
        have he0 : ¬ litE V C E1 L1 X = 0 := by simpa using he
        have HO : Hid (bRun V C l E L = ((litE V C E1 L1 X, at_), E1, L1)) := by
          show _ = _
          rw [HPP.out, HDR.out, if_pos he0]
        have hs := lit_err rfl he0
        rw [hs.1, hs.2] at CL2
        obtain ⟨z, hz⟩ : ∃ z, z = litE V C E1 L1 X := ⟨_, rfl⟩
        rw [← hz] at HO he0 ⊢
        have he1 : (z != 0) = true := by simpa using he0
        clear he hz he0 hs hct
        go_wp2_with fail
        go_quiet (fail)
        go_wp2_with fail
        go_ret2
        rw [HO.out]
        exact ⟨rfl, _, _, CL2.out.on (Below.drewN' (Below.refl _ _) _)⟩
    · obtain ⟨P1, P2, P3⟩ := HP.out
      obtain rfl : j = l.length := by omega
      have HO : Hid (bRun V C l E L = ((0, 0), E1, L1)) := by
        show _ = _
        rw [P1, List.drop_length, bRun]
      have CL2 := hid P2
      clear P1 P2 P3 HP
      go_wp2_with fail
      go_ret2
      rw [HO.out]
      exact ⟨rfl, _, _, CL2.out⟩
end Go.Proofs.YtdkboifpdodonaaDoor
