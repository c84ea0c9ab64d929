/-
  The landed program's headWord.
-/
import Derived.Test.YtdkboifpdodonaaDoorD6
namespace Go.Proofs.YtdkboifpdodonaaDoor
open Go.RowKit Go.Deep PureCnf
set_option maxRecDepth 100000

/-- what a word of the head is refused with. -/
def hwE (i : Nat) (X : List UInt8) : Int := if i = 0 then (if X = [112] then 0 else 135) else if i = 1 then (if X = [99, 110, 102] then 0 else 135) else if i = 2 ∨ i = 3 then amtE X 65536 else 135
def hwV (i : Nat) (X : List UInt8) (V : Int) : Int := if i = 2 then amtV X 65536 else V
def hwC (i : Nat) (X : List UInt8) (C : Int) : Int := if i = 3 then amtV X 65536 else C

theorem amount_list (X : List UInt8) (w : World) (hs : X.length ≤ 1099511627776) :
    Calls Tryd.prog 132 #[str X, .int .i64 65536] w fun e w' => e = .returned (.tuple #[.int .i64 (amtV X 65536), .int .i64 (amtE X 65536)]) ∧ Below w.heap.size w w' := amount_any ⟨X.toArray⟩ 65536 w (show X.toArray.size ≤ _ by simpa using hs)

set_option maxHeartbeats 1000000 in
theorem headWord_any {w0 W : World} {b : Nat} {V C : Int} {E L : List Int} {ve vl : Value} {bg : Bool} (h : Cl w0 W b V E L ve vl bg C) (i : Nat) (X : List UInt8) (hX : X.length ≤ 1099511627776) (hi : i ≤ 1099511627776) :
    Calls Tryd.prog 98 #[.pointer (some ⟨b, 0, none⟩), .int .i64 (i : Int), str X] W fun e W' => e = .returned (.int .i64 (hwE i X)) ∧ Cl w0 W' b (hwV i X V) E L ve vl bg (hwC i X C) ∧ Keep b W W' := by
  have HCL := hid h
  rcases (show i = 0 ∨ i = 1 ∨ i = 2 ∨ i = 3 ∨ 4 ≤ i by omega) with rfl | rfl | rfl | rfl | h4
  · by_cases hx : X = [112]
    · subst hx
      clear h
      go_enter Tryd.func98, Tryd.ntmps98
      go_wp2
      go_ret
      exact ⟨rfl, HCL.out, Keep.refl _ _⟩
    · have HE : Hid (hwE 0 X = 135) := by show _ = _; unfold hwE; rw [if_pos rfl, if_neg hx]
      have hx2 : (X == [112]) = false := by simpa using hx
      clear h hx
      go_enter Tryd.func98, Tryd.ntmps98
      go_wp2
      go_ret
      exact ⟨by rw [HE.out]; rfl, HCL.out, Keep.refl _ _⟩
  · by_cases hx : X = [99, 110, 102]
    · subst hx
      clear h
      go_enter Tryd.func98, Tryd.ntmps98
      go_wp2
      go_ret
      exact ⟨rfl, HCL.out, Keep.refl _ _⟩
    · have HE : Hid (hwE 1 X = 135) := by show _ = _; unfold hwE; rw [if_neg (by decide), if_pos rfl, if_neg hx]
      have hx2 : (X == [99, 110, 102]) = false := by simpa using hx
      clear h hx
      go_enter Tryd.func98, Tryd.ntmps98
      go_wp2
      go_ret
      exact ⟨by rw [HE.out]; rfl, HCL.out, Keep.refl _ _⟩
  · have HA := hid (amount_list X W hX)
    clear h
    go_enter Tryd.func98, Tryd.ntmps98
    go_wp2_with fail
    refine HA.out.mono ?_
    rintro e w1 ⟨rfl, b1⟩
    have cl1 := HCL.out.on b1
    have c0 := fun j => cell_row cl1.row j
    have f0 := fun j => unfrozen_row cl1.row j
    have CL1 := hid cl1
    have HB1 := hid b1
    clear cl1 b1
    go_wp2
    go_ret
    exact ⟨rfl, CL1.out.setV _, (Keep.of_below HB1.out).trans Keep.set⟩
  · have HA := hid (amount_list X W hX)
    clear h
    go_enter Tryd.func98, Tryd.ntmps98
    go_wp2_with fail
    refine HA.out.mono ?_
    rintro e w1 ⟨rfl, b1⟩
    have cl1 := HCL.out.on b1
    have c0 := fun j => cell_row cl1.row j
    have f0 := fun j => unfrozen_row cl1.row j
    have CL1 := hid cl1
    have HB1 := hid b1
    clear cl1 b1
    go_wp2
    go_ret
    exact ⟨rfl, CL1.out.setC _, (Keep.of_below HB1.out).trans Keep.set⟩
  · have HE : Hid (hwE i X = 135 ∧ hwV i X V = V ∧ hwC i X C = C) := by
      show _ ∧ _
      unfold hwE hwV hwC
      rw [if_neg (by omega), if_neg (by omega), if_neg (by omega), if_neg (by omega), if_neg (by omega)]
      exact ⟨rfl, rfl, rfl⟩
    have g0 : ((i : Int) == 0) = false := by simp; omega
    have g1 : ((i : Int) == 1) = false := by simp; omega
    have g2 : ((i : Int) == 2) = false := by simp; omega
    have g3 : ((i : Int) == 3) = false := by simp; omega
    clear h
    go_enter Tryd.func98, Tryd.ntmps98
    go_wp2
    go_ret
    rw [HE.out.2.1, HE.out.2.2]
    exact ⟨by rw [HE.out.1]; rfl, HCL.out, Keep.refl _ _⟩

/-! ### head -/
/-- the first word of the head that is refused, from place i on. -/
def hrun : Nat → List Piece → Option (Int × Nat)
  | _, [] => none
  | i, p :: t => if hwE i p.w ≠ 0 then some (hwE i p.w, p.at_) else hrun (i + 1) t
/-- what is read of the first j words. -/
def hV (l : List Piece) (j : Nat) : Int := match l[2]? with | some p => if 2 < j then amtV p.w 65536 else 0 | none => 0
def hC (l : List Piece) (j : Nat) : Int := match l[3]? with | some p => if 3 < j then amtV p.w 65536 else 0 | none => 0
def hEnd (l : List Piece) : Nat := match l[l.length - 1]? with | some p => p.at_ + p.w.length | none => 0
def hOut (l : List Piece) : Int × Nat := match hrun 0 l with | some f => f | none => if l.length < 4 then (135, hEnd l) else (0, 0)

theorem hrun_drop {l : List Piece} {i j : Nat} (h : j < l.length) : hrun i (l.drop j) = if hwE i l[j].w ≠ 0 then some (hwE i l[j].w, l[j].at_) else hrun (i + 1) (l.drop (j + 1)) := by
  rw [List.drop_eq_getElem_cons h, hrun]
theorem hV_zero (l : List Piece) : hV l 0 = 0 := by unfold hV; split <;> rfl
theorem hC_zero (l : List Piece) : hC l 0 = 0 := by unfold hC; split <;> rfl
theorem hV_succ {l : List Piece} {j : Nat} (h : j < l.length) : hV l (j + 1) = hwV j l[j].w (hV l j) := by
  unfold hV hwV
  by_cases h2 : j = 2
  · subst h2
    rw [List.getElem?_eq_getElem h]
    simp
  · rw [if_neg h2]
    split
    · by_cases h3 : 2 < j
      · rw [if_pos h3, if_pos (by omega)]
      · rw [if_neg h3, if_neg (by omega)]
    · rfl
theorem hC_succ {l : List Piece} {j : Nat} (h : j < l.length) : hC l (j + 1) = hwC j l[j].w (hC l j) := by
  unfold hC hwC
  by_cases h2 : j = 3
  · subst h2
    rw [List.getElem?_eq_getElem h]
    simp
  · rw [if_neg h2]
    split
    · by_cases h3 : 3 < j
      · rw [if_pos h3, if_pos (by omega)]
      · rw [if_neg h3, if_neg (by omega)]
    · rfl

set_option maxHeartbeats 2000000 in
theorem head21_any {w0 W : World} {b B : Nat} {E L : List Int} {ve vl v : Value} {bg : Bool} (l : List Piece) (h : Cl w0 W b 0 E L ve vl bg 0) (hl : WRow W B v l) (hB : b < B) (hn : l.length ≤ 1099511627776) (h0 : 0 < l.length)
    (hw : ∀ p ∈ l, p.at_ + p.w.length ≤ 1099511627776) :
    Calls Tryd.prog 73 #[.pointer (some ⟨b, 0, none⟩), v] W fun e W' => e = .returned (.tuple #[.int .i64 (hOut l).1, .int .i64 ((hOut l).2 : Int)]) ∧
      ∃ V C, Cl w0 W' b V E L ve vl bg C ∧ ((hOut l).1 = 0 → V = hV l l.length ∧ C = hC l l.length) := by
  obtain ⟨sa, ca, rfl⟩ := hl.form
  have HH : Hid (hrun 0 l = hrun 0 (l.drop 0)) := rfl
  have HCL := hid h
  have HWR := hid hl
  clear h hl
  go_enter Tryd.func73, Tryd.ntmps73
  go_wp2_with fail
  go_loopw [12] (fun iv W1 => ∃ j : Nat, iv = .int .i64 j ∧ j ≤ l.length ∧ Hid (hrun 0 l = hrun j (l.drop j) ∧ Cl w0 W1 b (hV l j) E L ve vl bg (hC l j) ∧ WRow W1 B (.slice sa l.length ca) l)) (fun iv _ => l.length - (intOf iv).toNat)
  case atStart => exact ⟨0, rfl, Nat.zero_le _, HH.out, by rw [hV_zero, hC_zero]; exact HCL.out, HWR.out⟩
  case round =>
    obtain ⟨j, rfl, hj, HP⟩ := hrel
    by_cases hlt : j < l.length
    · obtain ⟨P1, P2, P3⟩ := HP.out
      obtain ⟨g, c, hv, hg, c0, c1⟩ := P3.read hlt
      simp only [Value.slice.injEq, true_and] at hv
      obtain ⟨rfl, rfl⟩ := hv
      have hpw := hw _ (List.getElem_mem hlt)
      obtain ⟨X, hX⟩ : ∃ x, x = l[j].w := ⟨_, rfl⟩
      obtain ⟨at_, hat⟩ : ∃ x, x = l[j].at_ := ⟨_, rfl⟩
      have hdr := hrun_drop (i := j) hlt
      have hv1 := hV_succ hlt
      have hc1 := hC_succ hlt
      rw [← hX, ← hat] at hdr hpw
      rw [← hX] at hv1 hc1 c0
      rw [← hat] at c1
      obtain ⟨WA, hWA⟩ : ∃ x, x = wr.alloc (Obj.cells #[.string ⟨X.toArray⟩, .int .i64 (at_ : Int)] 140) := ⟨_, rfl⟩
      have tA : Below wr.heap.size wr WA := by rw [hWA]; exact (Below.refl _ _).alloc (Nat.le_refl _) _
      have rA : WA.heap[wr.heap.size]? = some (.cells #[.string ⟨X.toArray⟩, .int .i64 (at_ : Int)] 140 (0, 0)) := by rw [hWA]; exact heap_alloc_new wr _
      have cA := fun k => cell_row rA k
      have HHW := hid (headWord_any (P2.on tA) j X (by omega) (by omega))
      have hbs := P2.size
      have HRA := hid rA
      have HWR2 := hid (P3.keep (Keep.of_below tA) hB)
      have HWA := hid hWA
      have HPP := hid P1
      have HDR := hid hdr
      have HV1 := hid hv1
      have HC1 := hid hc1
      clear hX hat hdr hv1 hc1 P1 P2 P3 HP rA tA hWA HH HCL HWR
      go_wp2_with (rw [← HWA.out])
      refine HHW.out.mono ?_
      rintro e1 w2 ⟨rfl, cl2, kp⟩
      have r2 := kp.block _ _ _ _ (show wr.heap.size ≠ b by omega) (by decide) HRA.out
      have HWR3 := hid (HWR2.out.keep kp hB)
      have CL2 := hid cl2
      have c2 := fun k => cell_row r2 k
      clear r2 kp cl2 HWR2 cA
      cases he : decide (hwE j X = 0) with
      | true =>
        have he0 : hwE j X = 0 := by simpa using he
        have HD2 : Hid (hrun 0 l = hrun (j + 1) (l.drop (j + 1))) := by
          show _ = _
          rw [HPP.out, HDR.out, if_neg (by simpa using he0)]
        rw [he0]
        clear he he0
        go_wp2_with fail
        go_roundw
        case rel => exact ⟨j + 1, by go_num, hlt, HD2.out, by rw [HV1.out, HC1.out]; exact CL2.out, HWR3.out⟩
        case measure => simp [intOf]; omega
      | false =>
        have he0 : ¬ hwE j X = 0 := by simpa using he
        have HO : Hid (hOut l = (hwE j X, at_)) := by
          show _ = _
          unfold hOut
          rw [HPP.out, HDR.out, if_pos he0]
        obtain ⟨z, hz⟩ : ∃ z, z = hwE j X := ⟨_, rfl⟩
        rw [← hz] at HO he0 ⊢
        have he1 : (z != 0) = true := by simpa using he0
        have HNZ := hid he0
        clear he hz he0
        go_wp2_with fail
        go_quiet (fail)
        go_wp2_with fail
        go_ret2
        rw [HO.out]
        exact ⟨rfl, _, _, CL2.out.on (Below.drewN' (Below.refl _ _) _), fun h => absurd h HNZ.out⟩
    · obtain ⟨P1, P2, P3⟩ := HP.out
      obtain rfl : j = l.length := by omega
      have HP1 : Hid (hrun 0 l = none) := by
        show _ = _
        rw [P1, List.drop_length, hrun]
      by_cases h4 : l.length < 4
      · have HO : Hid (hOut l = (135, hEnd l)) := by
          show _ = _
          unfold hOut
          rw [HP1.out]
          simp only [if_pos h4]
        obtain ⟨g, c, hv, hg, c0, c1⟩ := P3.read (k := l.length - 1) (by omega)
        simp only [Value.slice.injEq, true_and] at hv
        obtain ⟨rfl, rfl⟩ := hv
        have hpw := hw _ (List.getElem_mem (show l.length - 1 < l.length by omega))
        have HE : Hid (hEnd l = l[l.length - 1].at_ + l[l.length - 1].w.length) := by
          show _ = _
          unfold hEnd
          rw [List.getElem?_eq_getElem (by omega)]
        obtain ⟨X, hX⟩ : ∃ x, x = l[l.length - 1].w := ⟨_, rfl⟩
        obtain ⟨at_, hat⟩ : ∃ x, x = l[l.length - 1].at_ := ⟨_, rfl⟩
        rw [← hX, ← hat] at HE hpw
        rw [← hX] at c0
        rw [← hat] at c1
        obtain ⟨WA, hWA⟩ : ∃ x, x = wr.alloc (Obj.cells #[.string ⟨X.toArray⟩, .int .i64 (at_ : Int)] 140) := ⟨_, rfl⟩
        have tA : Below wr.heap.size wr WA := by rw [hWA]; exact (Below.refl _ _).alloc (Nat.le_refl _) _
        have rA : WA.heap[wr.heap.size]? = some (.cells #[.string ⟨X.toArray⟩, .int .i64 (at_ : Int)] 140 (0, 0)) := by rw [hWA]; exact heap_alloc_new wr _
        have cA := fun k => cell_row rA k
        have CL2 := hid (P2.on tA)
        have HWA := hid hWA
        have hwr : IntKind.i64.wrap ((at_ : Int) + (X.length : Int)) = (at_ : Int) + (X.length : Int) := (IntWalk.i64_left _).trans <| IntWalk.wrap64_in _ ⟨by omega, by omega⟩
        clear hX hat P1 P2 P3 HP rA tA hWA HH HCL HWR
        go_wp2_with (rw [← HWA.out])
        try rw [← HWA.out]
        go_quiet (fail)
        go_wp2_with fail
        go_ret2
        rw [HO.out, HE.out]
        exact ⟨rfl, _, _, CL2.out.on (Below.drewN' (Below.refl _ _) _), fun h => absurd h (by simp)⟩
      · have HO : Hid (hOut l = (0, 0)) := by
          show _ = _
          unfold hOut
          rw [HP1.out]
          simp only [if_neg h4]
        have HCL2 := hid P2
        clear P1 P2 P3 HP
        go_wp2_with fail
        go_ret2
        rw [HO.out]
        exact ⟨rfl, _, _, HCL2.out, fun _ => ⟨rfl, rfl⟩⟩
end Go.Proofs.YtdkboifpdodonaaDoor
