/-
  The document's own PrintCnf.
-/
import Derived.Test.YtdkboifpdodonaaDoorA3
import Derived.Deep.DeepCutAuto
namespace Go.Proofs.YtdkboifpdodonaaDoor
open Go.RowKit Go.Deep PureCnf
set_option maxRecDepth 100000

def printE (V : Int) (E L : List Int) : Int := if formedB V E L = true then if (cnfT V E L).length ≤ 1048576 then 0 else 5 else 134
def printT (V : Int) (E L : List Int) : List UInt8 := if printE V E L = 0 then cnfT V E L else []

/-- what a box of clauses holds. -/
structure CnfBox (w : World) (V : Int) (E L : List Int) (se sl : Option Addr) (ce cl : Nat) (b : Nat) : Prop where
  c0 : w.cell? ⟨b, 0, none⟩ = some (.int .i64 V)
  c1 : w.cell? ⟨b, 1, none⟩ = some (.slice se E.length ce)
  c2 : w.cell? ⟨b, 2, none⟩ = some (.slice sl L.length cl)
theorem CnfBox.below {w W : World} {V : Int} {E L : List Int} {se sl : Option Addr} {ce cl b B : Nat} (h : CnfBox w V E L se sl ce cl b) (hW : Below B w W) (hb : b < B) : CnfBox W V E L se sl ce cl b :=
  ⟨(hW.cell (p := ⟨b, 0, none⟩) hb).trans h.c0, (hW.cell (p := ⟨b, 1, none⟩) hb).trans h.c1, (hW.cell (p := ⟨b, 2, none⟩) hb).trans h.c2⟩

theorem below_cell {B b o : Nat} {w w' : World} {x : Value} (hb : Below B w w') (hlt : b < B) (h : w.cell? ⟨b, o, none⟩ = some x) : w'.cell? ⟨b, o, none⟩ = some x := (hb.cell (p := ⟨b, o, none⟩) hlt).trans h

set_option maxHeartbeats 1000000 in
theorem print_no (V : Int) (E L : List Int) (se sl : Option Addr) (ce cl : Nat) (w : World) (hV : -9223372036854775808 ≤ V ∧ V ≤ 9223372036854775807) (hnE : E.length ≤ 9223372036854775807) (hnL : L.length ≤ 9223372036854775807) (hE : IntsAt w se E) (hL : IntsAt w sl L) (h : formedB V E L = false) :
    Calls Tryd.prog 9 #[cnfV V se E.length ce sl L.length cl] w fun e w' => e = .returned (.tuple #[str [], .int .i64 134]) ∧ Below w.heap.size w w' := by
  obtain ⟨wb, hwb⟩ : ∃ wb, wb = w.alloc (Obj.cells #[.int .i64 V, .slice se E.length ce, .slice sl L.length cl] 24 (0, 0)) := ⟨_, rfl⟩
  have HB : Hid (Below w.heap.size w wb) := by rw [hwb]; exact (Below.refl _ _).alloc (Nat.le_refl _) _
  have HF := hid (formed_any V E L se sl ce cl wb hV hnE hnL (hE.below HB.out) (hL.below HB.out))
  rw [h] at HF
  have HW := hid hwb
  have hbx : CnfBox wb V E L se sl ce cl w.heap.size := by rw [hwb]; exact ⟨by simp, by simp, by simp⟩
  obtain ⟨c0, c1, c2⟩ := hbx
  clear h hE hL hV hnE hnL hwb
  go_enter Tryd.func9, Tryd.ntmps9
  go_wp2_with (first
    | (rw [← HW.out])
    | (go_at_call 10; refine HF.out.mono ?_; rintro e w1 ⟨rfl, hb⟩; have HB1 := hid hb; clear hb))
  go_ret2
  exact ⟨rfl, HB.out.trans (HB1.out.mono HB.out.size)⟩

set_option maxHeartbeats 1000000 in
set_option maxRecDepth 100000 in
theorem print_yes (V : Int) (E L : List Int) (se sl : Option Addr) (ce cl : Nat) (w : World) (hE : IntsAt w se E) (hL : IntsAt w sl L) (h : formedB V E L = true) :
    Calls Tryd.prog 9 #[cnfV V se E.length ce sl L.length cl] w fun e w' => e = .returned (.tuple #[str (printT V E L), .int .i64 (printE V E L)]) ∧ Below w.heap.size w w' := by
  obtain ⟨⟨v0, v1, n1, n2⟩, hmo, hla, hli⟩ := formed_parts h
  obtain ⟨wb, hwb⟩ : ∃ wb, wb = w.alloc (Obj.cells #[.int .i64 V, .slice se E.length ce, .slice sl L.length cl] 24 (0, 0)) := ⟨_, rfl⟩
  have HB : Hid (Below w.heap.size w wb) := by rw [hwb]; exact (Below.refl _ _).alloc (Nat.le_refl _) _
  have hz : wb.heap.size = w.heap.size + 1 := by rw [hwb]; simp
  have HF := hid (formed_any V E L se sl ce cl wb ⟨by omega, by omega⟩ (by omega) (by omega) (hE.below HB.out) (hL.below HB.out))
  rw [h] at HF
  have HW := hid hwb
  have HBX : Hid (CnfBox wb V E L se sl ce cl w.heap.size) := by rw [hwb]; exact ⟨by simp, by simp, by simp⟩
  have hbx := HBX.out
  obtain ⟨c0, c1, c2⟩ := hbx
  have HE := hid (hE.below HB.out)
  have HL := hid (hL.below HB.out)
  have HM := hid hmo
  have HLA := hid hla
  have HLI := hid hli
  have HZ := hid hz
  have HFO := hid h
  clear h hE hL hwb hmo hla hli hz
  go_enter Tryd.func9, Tryd.ntmps9
  go_upto_region 5 with (first
    | (rw [← HW.out])
    | (go_at_call 10; refine HF.out.mono ?_; rintro e w1 ⟨rfl, hb⟩; have HB1 := hid hb; obtain ⟨d0, d1, d2⟩ := HBX.out.below hb (by have := HZ.out; omega); clear hb c0 c1 c2))
  have HLT : Hid (w.heap.size < w1.heap.size) := by have := HZ.out; have := HB1.out.size; show _ < _; omega
  obtain ⟨D1, e1⟩ : ∃ D, D = Lib.decDigits V.toNat := ⟨_, rfl⟩
  obtain ⟨D2, e2⟩ : ∃ D, D = Lib.decDigits E.length := ⟨_, rfl⟩
  have l1 : D1.length ≤ 21 := by rw [e1]; exact dec_len_le V.toNat (by omega)
  have l2 : D2.length ≤ 21 := by rw [e2]; exact dec_len_le E.length (by omega)
  have HD1 := hid (decimal_int V v0 (by omega))
  have HD2 : Hid (∀ W, Calls Tryd.prog 28 #[.int .i64 (E.length : Int)] W fun e w' => e = .returned (str D2) ∧ Below W.heap.size W w') := by
    rw [e2]; exact decimal_int (E.length : Int) (by omega) (by omega)
  rw [← e1] at HD1
  have k1 : ∀ W, (Op.stringOp .add ⟨#[112, 32, 99, 110, 102, 32]⟩ ⟨D1.toArray⟩).run Tryd.prog W = .ok (str ([112, 32, 99, 110, 102, 32] ++ D1)) W := fun W => sum_text (A := [112, 32, 99, 110, 102, 32]) (by simp; omega)
  obtain ⟨T1, t1⟩ : ∃ T, T = [112, 32, 99, 110, 102, 32] ++ D1 := ⟨_, rfl⟩
  rw [← t1] at k1
  have m1 : T1.length ≤ 27 := by rw [t1]; simp; omega
  have k2 : ∀ W, (Op.stringOp .add ⟨T1.toArray⟩ ⟨#[32]⟩).run Tryd.prog W = .ok (str (T1 ++ [32])) W := fun W => sum_text (D := [32]) (by simp; omega)
  obtain ⟨T2, t2⟩ : ∃ T, T = T1 ++ [32] := ⟨_, rfl⟩
  rw [← t2] at k2
  have m2 : T2.length ≤ 28 := by rw [t2]; simp; omega
  have k3 : ∀ W, (Op.stringOp .add ⟨T2.toArray⟩ ⟨D2.toArray⟩).run Tryd.prog W = .ok (str (T2 ++ D2)) W := fun W => sum_text (by omega)
  obtain ⟨T3, t3⟩ : ∃ T, T = T2 ++ D2 := ⟨_, rfl⟩
  rw [← t3] at k3
  have m3 : T3.length ≤ 49 := by rw [t3]; simp; omega
  have k4 : ∀ W, (Op.stringOp .add ⟨T3.toArray⟩ ⟨#[10]⟩).run Tryd.prog W = .ok (str (T3 ++ [10])) W := fun W => sum_text (D := [10]) (by simp; omega)
  obtain ⟨T4, t4⟩ : ∃ T, T = T3 ++ [10] := ⟨_, rfl⟩
  rw [← t4] at k4
  have m4 : T4.length ≤ 50 := by rw [t4]; simp; omega
  have HT : Hid (headT V.toNat E.length = T4) := by show _ = _; rw [t4, t3, t2, t1, e1, e2]; rfl
  clear t1 t2 t3 t4 e1 e2 l1 l2 m1 m2 m3
  have HU : Hid (∀ w2 w3 : World, Below w1.heap.size w1 w2 → Below w2.heap.size w2 w3 → Buf wb.heap.size [] wb (.slice none 0 0) w3) := fun w2 w3 b2 b3 => by
    have s1 := HB1.out.size
    have s2 := b2.size
    have s3 := b3.size
    exact Buf.empty ((HB1.out.trans (b2.mono s1)).trans (b3.mono (by omega))) (by omega)
  go_cut [5] (fun bv wx => Buf wb.heap.size T4 wb bv wx)
  case first =>
    go_region_law (first
      | (have q := HU2; clear q; refine step_text rfl _ _ rfl wb.heap.size (.slice none 0 0) [] T4 rfl wb HU2.out rfl (by simp; omega) (fun v4 w4 r4 => ?_); have H4 := hid r4; clear r4)
      | (have q := z0; clear q; go_simp; go_at_call 28; refine (HD2.out _).mono ?_; rintro e w3 ⟨rfl, hb⟩; have y0 := below_cell hb HS2.out z0; have y1 := below_cell hb HS2.out z1; have HU2 := hid (HU.out w2 w3 HB2.out hb); clear hb)
      | (go_simp; go_at_call 28; refine (HD1.out _).mono ?_; rintro e w2 ⟨rfl, hb⟩; have z0 := below_cell hb HLT.out d0; have z1 := below_cell hb HLT.out d1; have HB2 := hid (show Below w1.heap.size w1 w2 from ⟨hb.os, hb.tape, hb.output, hb.size, hb.block⟩); have HS2 : Hid (w.heap.size < w2.heap.size) := Nat.lt_of_lt_of_le HLT.out hb.size; clear hb))
    all_goals
      go_wp2_with fail
      go_meet
      exact H4.out
  case rest =>
    obtain ⟨wd, hwd⟩ : ∃ wd, wd = wc := ⟨_, rfl⟩
    subst hwd
    have HC := hid hcut
    have hBl : w.heap.size < wb.heap.size := by have := HZ.out; omega
    clear hcut d0 d1 d2 HD1 HD2 k1 k2 k3 k4 HU HLT
    go_wp2
    go_loopw [5, 6, 7] (fun bv t i W => ∃ (k : Nat), k ≤ E.length ∧ i = .int .i64 k ∧ t = .int .i64 (lastOr 0 (E.take k)) ∧ Hid (Buf wb.heap.size (T4 ++ bodyT L 0 (E.take k)) wb bv W ∧ (T4 ++ bodyT L 0 (E.take k)).length ≤ 100 + 23 * (lastOr 0 (E.take k)).toNat + 2 * k)) (fun _ _ i _ => E.length - (intOf i).toNat)
    case atStart => exact ⟨0, Nat.zero_le _, rfl, rfl, by show Buf _ _ _ _ _ ∧ _; simp only [List.take_zero, bodyT, List.append_nil]; exact ⟨HC.out, by omega⟩⟩
    case round =>
      obtain ⟨k, hk, rfl, rfl, HR⟩ := hrel
      obtain ⟨hr1, hr2⟩ := HR.out
      obtain ⟨x0, x1, x2⟩ := HBX.out.below hr1.2.1 hBl
      by_cases hlt : k < E.length
      · obtain ⟨p, q, hp, hq, hpq, hqL⟩ := mono_nat HM.out HLA.out hlt
        have HON := hid (bodyT_on (L := L) hlt)
        have HMK : Hid (lastOr 0 (E.take (k + 1)) = (q : Int)) := by show _ = _; rw [take_snoc E k hlt, lastOr_snoc, hq]
        rw [hp, hq] at HON
        rw [hp] at hr2
        rw [Int.toNat_natCast] at hr2
        obtain ⟨T5, t5⟩ : ∃ T, T = T4 ++ bodyT L 0 (E.take k) := ⟨_, rfl⟩
        rw [← t5] at hr1 hr2
        have HT5 := hid t5
        obtain ⟨a, rfl, ha, hc⟩ := HE.out.read hlt
        rw [hq] at hc
        have HCE := hid hc
        have HR1 := hid hr1
        rw [hp]
        clear hp hq hr1 HR t5 hc
        have hp0 : (0 : Int) ≤ (p : Int) := by omega
        have hq1 : (q : Int) ≤ 1048576 := by omega
        go_wp2
        go_loopw [5, 6] (fun bv t W => ∃ (z : Nat), p ≤ z ∧ z ≤ q ∧ t = .int .i64 z ∧ Hid (Buf wb.heap.size (T5 ++ seg L p z) wb bv W ∧ (T5 ++ seg L p z).length ≤ 100 + 23 * z + 2 * k)) (fun _ t _ => q - (intOf t).toNat)
        case atStart => exact ⟨p, Nat.le_refl _, hpq, rfl, by show Buf _ _ _ _ _ ∧ _; rw [seg_self, List.append_nil]; exact ⟨HR1.out, hr2⟩⟩
        case round =>
          obtain ⟨z, hpz, hzq, rfl, HS⟩ := hrel
          obtain ⟨hs1, hs2⟩ := HS.out
          obtain ⟨y0, y1, y2⟩ := HBX.out.below hs1.2.1 hBl
          have ye := HCE.out _ hs1.2.1
          obtain ⟨T6, t6⟩ : ∃ T, T = T5 ++ seg L p z := ⟨_, rfl⟩
          rw [← t6] at hs1 hs2
          have HT6 := hid t6
          have R0 := hid hs1
          by_cases hz : z < q
          · have hzL : z < L.length := by omega
            obtain ⟨hx0, hx1, hx2⟩ := HLI.out z hzL
            obtain ⟨b, rfl, hb, hd⟩ := HL.out.read hzL
            have yl := hd _ hs1.2.1
            have HSN := hid (seg_snoc (L := L) hpz hzL)
            clear hs1 t6 hd HS
            by_cases hneg : L[z] < 0
            · have HLT := hid (litT_neg hneg)
              have hl3 := dec_len_le (-L[z]).toNat (by omega)
              go_wp2_with (first
                | (have qq := R3; clear qq; at_builtin; refine app_bytes rfl _ _ rfl wb.heap.size _ _ [32] rfl 1 rfl rfl wb R3.out rfl (by simp; omega) ?_; intro v4 w4 r4; have R4 := hid r4; clear r4)
                | (have qq := R2; clear qq; at_builtin; refine app_text rfl _ _ rfl wb.heap.size _ (T6 ++ [45]) (Lib.decDigits (-L[z]).toNat) rfl wb R2.out rfl (by simp; omega) ?_; intro v3 w3 r3; have R3 := hid r3; clear r3)
                | (have qq := R1; clear qq; go_at_call 28; refine (decimal_int _ (by omega) (by omega) _).mono ?_; rintro e w2 ⟨rfl, hb⟩; have R2 := hid (R1.out.below hb); clear hb)
                | (at_builtin; refine app_bytes rfl _ _ rfl wb.heap.size _ T6 [45] rfl 1 rfl rfl wb R0.out rfl (by simp; omega) ?_; intro v1 w1 r1; have R1 := hid r1; clear r1))
              have e : T5 ++ seg L p (z + 1) = ((T6 ++ [45]) ++ Lib.decDigits (-L[z]).toNat) ++ [32] := by rw [HSN.out, HLT.out, HT6.out]; simp
              refine ⟨⟨z + 1, by omega, by omega, by go_num, ?_⟩, by simp [intOf]; omega⟩
              show Buf _ _ _ _ _ ∧ _
              rw [e]
              exact ⟨R4.out, by simp; omega⟩
            · have HLT := hid (litT_pos hneg)
              have hl3 := dec_len_le L[z].toNat (by omega)
              go_wp2_with (first
                | (have qq := R3; clear qq; at_builtin; refine app_bytes rfl _ _ rfl wb.heap.size _ _ [32] rfl 1 rfl rfl wb R3.out rfl (by simp; omega) ?_; intro v4 w4 r4; have R4 := hid r4; clear r4)
                | (have qq := R2; clear qq; at_builtin; refine app_text rfl _ _ rfl wb.heap.size _ T6 (Lib.decDigits L[z].toNat) rfl wb R2.out rfl (by omega) ?_; intro v3 w3 r3; have R3 := hid r3; clear r3)
                | (go_at_call 28; refine (decimal_int _ (by omega) (by omega) _).mono ?_; rintro e w2 ⟨rfl, hb⟩; have R2 := hid (R0.out.below hb); clear hb))
              have e : T5 ++ seg L p (z + 1) = (T6 ++ Lib.decDigits L[z].toNat) ++ [32] := by rw [HSN.out, HLT.out, HT6.out]; simp
              refine ⟨⟨z + 1, by omega, by omega, by go_num, ?_⟩, by simp [intOf]; omega⟩
              show Buf _ _ _ _ _ ∧ _
              rw [e]
              exact ⟨R4.out, by simp; omega⟩
          · have hzz : z = q := by omega
            have HZZ := hid hzz
            clear hs1 t6 HS hzz
            go_wp2_with (first
              | (at_builtin; refine app_bytes rfl _ _ rfl wb.heap.size _ T6 [48, 10] rfl 2 rfl rfl wb R0.out rfl (by simp; omega) ?_; intro v1 w1 r1; have R1 := hid r1; clear r1))
            have e : T4 ++ bodyT L 0 (E.take (k + 1)) = T6 ++ [48, 10] := by rw [HON.out, HT6.out, HT5.out, HZZ.out]; simp
            refine ⟨⟨k + 1, by omega, by go_num, ?_, ?_⟩, by simp [intOf]; omega⟩
            · rw [HMK.out, HZZ.out]
            · show Buf _ _ _ _ _ ∧ _
              rw [e, HMK.out]
              exact ⟨R1.out, by simp; omega⟩
      · have ek : E.take k = E := List.take_of_length_le (by omega)
        rw [ek] at hr1 hr2
        have eT : T4 ++ bodyT L 0 E = cnfT V E L := by rw [← HT.out]; rfl
        rw [eT] at hr1
        have hlen : (cnfT V E L).length ≤ 1048576 ∨ 1048576 < (cnfT V E L).length := by omega
        have hbig : (cnfT V E L).length ≤ 140737488355328 := by
          rw [← eT]
          have := HLA.out
          rw [this] at hr2
          omega
        have hconv := hr1.text
        have HBW : Hid (Below w.heap.size w _) := HB.out.trans (hr1.2.1.mono (by omega))
        obtain ⟨sa, c, rfl⟩ := hr1.shape
        have HEK := hid ek
        clear hr1 hr2 HR eT ek
        rcases hlen with hle | hgt
        · have HP : Hid (printE V E L = 0) := by show _ = _; unfold printE; rw [if_pos HFO.out, if_pos hle]
          have HPT : Hid (printT V E L = cnfT V E L) := by show _ = _; unfold printT; rw [if_pos HP.out]
          have hle2 : ¬ (1048576 : Int) < ((cnfT V E L).length : Int) := by omega
          go_wp2
          go_ret2
          rw [HP.out, HPT.out]
          exact ⟨rfl, HBW.out⟩
        · have HP : Hid (printE V E L = 5) := by show _ = _; unfold printE; rw [if_pos HFO.out, if_neg (by omega)]
          have HPT : Hid (printT V E L = []) := by show _ = _; unfold printT; rw [if_neg (by rw [HP.out]; decide)]
          have hgt2 : (1048576 : Int) < ((cnfT V E L).length : Int) := by omega
          go_wp2
          go_ret2
          rw [HP.out, HPT.out]
          exact ⟨rfl, HBW.out⟩

theorem print_any (V : Int) (E L : List Int) (se sl : Option Addr) (ce cl : Nat) (w : World) (hV : -9223372036854775808 ≤ V ∧ V ≤ 9223372036854775807) (hnE : E.length ≤ 9223372036854775807) (hnL : L.length ≤ 9223372036854775807) (hE : IntsAt w se E) (hL : IntsAt w sl L) :
    Calls Tryd.prog 9 #[cnfV V se E.length ce sl L.length cl] w fun e w' => e = .returned (.tuple #[str (printT V E L), .int .i64 (printE V E L)]) ∧ Below w.heap.size w w' := by
  cases h : formedB V E L with
  | true => exact print_yes V E L se sl ce cl w hE hL h
  | false =>
    have e1 : printE V E L = 134 := by unfold printE; rw [if_neg (by rw [h]; decide)]
    have e2 : printT V E L = [] := by unfold printT; rw [if_neg (by rw [e1]; decide)]
    rw [e1, e2]
    exact print_no V E L se sl ce cl w hV hnE hnL hE hL h
end Go.Proofs.YtdkboifpdodonaaDoor
