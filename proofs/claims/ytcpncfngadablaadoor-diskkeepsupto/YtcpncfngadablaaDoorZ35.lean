import Derived.Test.YtcpncfngadablaaDoorZ33
import Derived.Test.YtcpncfngadablaaDoorZ34
import Derived.Test.YtcpncfngadablaaDoorZ21
import Derived.Test.YtcpncfngadablaaDoorZ26
namespace Go.Proofs.YtcpncfngadablaaDoor
open Go.RowKit Go.Deep

section
variable {w w' : World} {E : Nat → Addr} {lo p mf mt : Nat} {D : DiskC}

theorem field_Full (c : Cnt) (W : World) : (Instr.field 34 c.val 4).run Tryd.prog W = .ok (.int .i64 c.full) W := by
  unfold Cnt.val
  simp [Instr.field, asAgg, go_sem]

set_option maxRecDepth 100000 in
set_option maxHeartbeats 4000000 in
theorem keeps_law (V : Env w w.heap.size E) (block : Int) {st sa : Option Addr} {ct ca : Nat} {lt : List TrA} {la : List OpA} (hT : TrsAt w st lt) (ha : OpsAt w sa la) (hnt : lt.length ≤ 1099511627776) (hna : la.length ≤ 1073741824) :
    Calls Tryd.prog 4 #[.int .i64 block, .slice st lt.length ct, .slice sa la.length ca] w fun e w' => e = .returned (.bool true) ∧ Below w.heap.size w w' := by
  obtain ⟨B, hB⟩ : ∃ B : Nat, saneB block = (B : Int) := ⟨(saneB block).toNat, by unfold saneB; omega⟩
  have hB1 : 64 ≤ B := by unfold saneB at hB; omega
  have hB2 : B ≤ 65536 := by unfold saneB at hB; omega
  have hB3 : (B : Int) % 32 = 0 := by unfold saneB at hB; omega
  have HSA := hid (fun W => sane_any block W)
  rw [hB] at HSA
  have HNEW := hid (fun W => New_ok (Bs := 1099511627776) hB1 hB2 hB3 (by omega) (by omega) W)
  have HNT := hid (fun (W : World) (hb : Below w.heap.size w W) => New_t (Bs := 1099511627776) (ca := ct) hB1 hB2 hB3 (by omega) (by omega) (hT.below hb) hnt)
  have HV := hid V
  have HA := hid ha
  clear V ha hT hB hB3 hnt
  go_enter Tryd.func4, Tryd.ntmps4
  go_wp2_with fail
  refine (HSA.out _).mono ?_
  rintro e w1 ⟨rfl, hb1⟩
  have HB1 := hid hb1
  clear hb1
  go_wp2_with fail
  obtain ⟨X, hX⟩ : ∃ X, X = w1.alloc (.cells #[.int .i64 (B : Int), .int .i64 1099511627776, .slice st lt.length ct] 29) := ⟨_, rfl⟩
  have rX : X.heap[w1.heap.size]? = some (.cells #[.int .i64 (B : Int), .int .i64 1099511627776, .slice st lt.length ct] 29) := by rw [hX]; exact heap_alloc_new _ _
  have bX : Below w.heap.size w X := by rw [hX]; exact HB1.out.alloc HB1.out.size _
  rw [← hX]
  have HRX := hid rX
  have HBX := hid bX
  clear hX rX bX HB1
  with_reducible refine Calls.mono (HNT.out _ HBX.out) ?_
  rintro e w2 ⟨p, mf, mt, T, rfl, hR, hT, hb2⟩
  have HR := hid hR
  have HTT := hid hT
  have HB2 := hid hb2
  clear hR hT hb2 HNT
  go_wp2_with fail
  refine (HSA.out _).mono ?_
  rintro e w3 ⟨rfl, hb3⟩
  have HB3 := hid hb3
  clear hb3
  go_wp2_with fail
  with_reducible refine Calls.mono (HNEW.out _) ?_
  rintro e w4 ⟨p2, mf2, mt2, rfl, hR2, hb4⟩
  have HLO : Hid (∃ D C, Loops w w4 w.heap.size p mf mt p2 mf2 mt2 B 0 w1.heap.size #[.int .i64 (B : Int), .int .i64 1099511627776, .slice st lt.length ct] D C) := ⟨_, _, Loops.start hB1 hB2 HBX.out HRX.out HR.out HTT.out HB2.out HB3.out hR2 hb4⟩
  obtain ⟨sb, hsb⟩ : ∃ sb, sb = w1.heap.size := ⟨_, rfl⟩
  rw [← hsb] at HLO ⊢
  clear hR2 hb4 HNEW HRX HBX HR HTT HB2 HB3 HSA hsb
  go_wp2_with fail
  go_loopw [12] (fun i wr => ∃ (k : Nat) (D C : DiskC), k ≤ la.length ∧ i = .int .i64 k ∧ Loops w wr w.heap.size p mf mt p2 mf2 mt2 B k sb #[.int .i64 (B : Int), .int .i64 1099511627776, .slice st lt.length ct] D C) (fun i _ => la.length - (intOf i).toNat)
  case atStart =>
    obtain ⟨D, C, h⟩ := HLO.out
    exact ⟨0, D, C, Nat.zero_le _, rfl, h⟩
  case round =>
    obtain ⟨k, D, C, hk, rfl, hlo⟩ := hrel
    clear HLO
    by_cases hlt : k < la.length
    · obtain ⟨a, sx, m, cx, rfl, c0, c1, c2, c3, c4, hsh, hm, hblk⟩ := HA.out.read hlt (Below.refl _ w)
      have lift : ∀ q : Addr, q.block = (a.add (k * 5)).block → wr.cell? q = w.cell? q := fun q hq => hlo.low.cell (by rw [hq, add_block]; exact hblk)
      replace c0 := (lift _ rfl).trans c0
      replace c1 := (lift ⟨(a.add (k * 5)).block, (a.add (k * 5)).off + 1, none⟩ rfl).trans c1
      replace c2 := (lift ⟨(a.add (k * 5)).block, (a.add (k * 5)).off + 2, none⟩ rfl).trans c2
      replace c3 := (lift ⟨(a.add (k * 5)).block, (a.add (k * 5)).off + 3, none⟩ rfl).trans c3
      replace c4 := (lift ⟨(a.add (k * 5)).block, (a.add (k * 5)).off + 4, none⟩ rfl).trans c4
      have HVR := hid (show ∀ w', Below w.heap.size w w' → Env w' w.heap.size E from fun w' hb => HV.out.touch (F := []) (Touch.of_below (F := []) hb (Nat.le_refl _)) (by simp))
      have HLP := hid hlo
      have HSH := hid (show ∀ w', Below w.heap.size w w' → Shows w' sx m cx la[k].data from fun w' hb => hsh.touch (F := []) (Touch.of_below (F := []) hb (Nat.le_refl _)) (by simp))
      have i0 : (0 : Int) ≤ (k : Int) := by omega
      have i1 : (k : Int) < (la.length : Int) := by omega
      clear hlo hsh lift
      obtain ⟨o, ho⟩ : ∃ o, o = la[k] := ⟨_, rfl⟩
      rw [← ho] at c0 c1 c2 c3 HSH
      clear ho
      have HCH := hid (fun (W : World) => changes_any (w := W) o.kind o.name o.N o.bit sx m cx)
      unfold opV at HCH
      go_wp2_with fail
      obtain ⟨W, hW⟩ : ∃ W, W = wr.alloc (.cells #[.int .i64 o.kind, .string o.name, .int .i64 o.N, .int .i64 o.bit, .slice sx m cx] 40) := ⟨_, rfl⟩
      have rW : W.heap[wr.heap.size]? = some (.cells #[.int .i64 o.kind, .string o.name, .int .i64 o.N, .int .i64 o.bit, .slice sx m cx] 40) := by rw [hW]; exact heap_alloc_new _ _
      have tW : Touch [] wr W := by rw [hW]; exact (Touch.refl [] wr).alloc _
      rw [← hW]
      clear hW
      with_reducible refine Calls.mono (HCH.out _) ?_
      rintro e w5 ⟨rfl, hb5⟩
      have t5 := Touch.of_below (F := []) hb5 (Nat.le_refl _)
      have r5 := kept_row rW t5 (by simp)
      have tw5 := tW.trans t5 (by simp)
      have L5 := HLP.out.touch tw5
      have bx := fun i => cell_row r5 i
      have by' := fun i => cell_row L5.box i
      have lb := lt_of_block r5
      have lb2 := lt_of_block L5.box
      have HLP5 := hid L5
      have HT5 := hid tw5
      have HR5 := hid r5
      clear hb5 t5 r5 rW tW L5 HCH tw5
      cases hch : changesB o.kind
      · clear hch
        go_wp2
        go_roundw
        case rel => exact ⟨k + 1, D, C, by omega, by go_num, HLP5.out.more⟩
        case measure => simp [intOf]; omega
      · have HK := hid hch
        have HFI := hid (HLP5.out.first (o := o) (HVR.out _ HLP5.out.low) (by omega) hch (HSH.out _ HLP5.out.low) hm)
        unfold opV at HFI
        clear hch
        go_wp2_with fail
        with_reducible refine Calls.mono HFI.out ?_
        rintro e w6 ⟨r, v, rfl, hv, hbk, hways⟩
        obtain ⟨x1, y1, m1, l1, rfl⟩ := hv.form
        simp only [ToldA.row, ToldA.err, cnt0, List.length_nil]
        have hnf : wr.heap.size ∉ D.foot p mf mt := fun hb => by have := HLP.out.keep.d.lt _ hb; omega
        have r6 := (hbk _ (lt_of_block HR5.out) hnf).trans HR5.out
        have l6 := lt_of_block r6
        have HR6 := hid r6
        have bx6 := fun i => cell_row r6 i
        clear hv hbk bx by' lb lb2 hnf r6 HFI
        rcases hways with ⟨rfl, D', A', hhalf, h0, hak⟩ | ⟨hr0, hr1, hr2, D', hl6⟩ | ⟨rfl, D', A', hhalf, h0, hoff, hDB, hsm, hcut⟩
        · have by6 := fun i => cell_row hhalf.box i
          have lb6 := lt_of_block hhalf.box
          have HSE := hid (fun (W2 : World) (t2 : Touch [] w6 W2) => (hhalf.touch t2).second (o := o) (HVR.out _ (hhalf.touch t2).low) (by omega) HK.out h0 hak (HSH.out _ (hhalf.touch t2).low) hm)
          unfold opV at HSE
          have HC6 := hid (show ∀ b ∈ C.foot p2 mf2 mt2, b < w6.heap.size from fun b hb => hhalf.was.c.rep.lt b hb)
          clear hhalf h0 hak
          go_wp2_with fail
          obtain ⟨W6, hW6⟩ : ∃ W6, W6 = w6.alloc (.cells #[.int .i64 0, .int .i64 0, .bool false, .slice x1 0 y1, .slice m1 0 l1, .int .i64 0, .int .i64 0, .int .i64 0, .int .i64 0, .int .i64 0, .int .i64 0, .int .i64 0] 36) := ⟨_, rfl⟩
          have rT := heap_alloc_new w6 (.cells #[.int .i64 0, .int .i64 0, .bool false, .slice x1 0 y1, .slice m1 0 l1, .int .i64 0, .int .i64 0, .int .i64 0, .int .i64 0, .int .i64 0, .int .i64 0, .int .i64 0] 36)
          have t6 : Touch [] w6 W6 := by rw [hW6]; exact (Touch.refl [] w6).alloc _
          rw [← hW6] at rT ⊢
          with_reducible refine Calls.mono (HSE.out _ t6) ?_
          rintro e w7 ⟨v2, rfl, hv2, hbk7, C', hl7⟩
          obtain ⟨x2, y2, m2, l2, rfl⟩ := hv2.form
          simp only [ToldA.row, ToldA.err, cnt0, List.length_nil]
          have r7 := (hbk7 _ (lt_of_block rT) (fun hb => by have := HC6.out _ hb; omega)).trans rT
          have z7 := fun i => cell_row r7 i
          have HR7 := hid r7
          have l7 := lt_of_block r7
          have HL7 := hid hl7
          have HON := hid (fun (W2 : World) (t2 : Touch [] w7 W2) => (hl7.touch t2).onD)
          have HSD := hid (fun (W2 : World) (t2 : Touch [] w7 W2) => (hl7.touch t2).stateD (by omega))
          have HSC := hid (fun (W2 : World) (t2 : Touch [] w7 W2) => (hl7.touch t2).stateC (by omega))
          clear hv2 hbk7 hl7 r7 rT t6 hW6 HSE HC6 bx6 by6 lb6 l6 HR6 HR5 HT5 HLP5 HLP HVR HSH c0 c1 c2 c3 c4 HK
          go_wp2_with fail
          with_reducible refine Calls.mono (HON.out _ ((Touch.refl [] w7).alloc _)) ?_
          rintro e w8 ⟨rfl, hw8⟩
          have t8 : Touch [] w7 w8 := by rw [hw8]; exact (Touch.refl [] w7).alloc _
          have z8 := fun i => cell_row (kept_row HR7.out t8 (by simp)) i
          clear hw8 z7
          go_wp2_with fail
          with_reducible refine Calls.mono (HSD.out _ t8) ?_
          rintro e w9 ⟨fv1, q1, rfl, ht1, hb9⟩
          obtain ⟨fa1, fc1, e1⟩ := ht1.st.sliceL
          subst e1
          have t9 := t8.trans (Touch.of_below (F := []) hb9 (Nat.le_refl _)) (by simp)
          have HT1 := hid ht1
          clear ht1 hb9 z8 HSD
          go_wp2_with fail
          with_reducible refine Calls.mono (HSC.out _ t9) ?_
          rintro e w10 ⟨fv2, q2, rfl, ht2, hb10⟩
          obtain ⟨fa2, fc2, e2⟩ := ht2.st.sliceL
          subst e2
          have t10 := t9.trans (Touch.of_below (F := []) hb10 (Nat.le_refl _)) (by simp)
          have HSM := hid ((HT1.out.below hb10).same ht2)
          clear ht2 hb10 HT1 HSC
          go_wp2_with fail
          with_reducible refine Calls.mono HSM.out ?_
          rintro e w11 ⟨rfl, hb11⟩
          have HT11 := hid (t10.trans (Touch.of_below (F := []) hb11 (Nat.le_refl _)) (by simp))
          clear hb11 HSM t8 t9 t10
          go_wp2
          go_roundw
          case rel => exact ⟨k + 1, D', C', by omega, by go_num, HL7.out.touch HT11.out⟩
          case measure => simp [intOf]; omega
        · have rT := heap_alloc_new w6 (.cells #[.int .i64 r, .int .i64 0, .bool false, .slice x1 0 y1, .slice m1 0 l1, .int .i64 0, .int .i64 0, .int .i64 0, .int .i64 0, .int .i64 0, .int .i64 0, .int .i64 0] 36)
          obtain ⟨w7, hw7⟩ : ∃ w7, w7 = w6.alloc (.cells #[.int .i64 r, .int .i64 0, .bool false, .slice x1 0 y1, .slice m1 0 l1, .int .i64 0, .int .i64 0, .int .i64 0, .int .i64 0, .int .i64 0, .int .i64 0, .int .i64 0] 36) := ⟨_, rfl⟩
          have t6 : Touch [] w6 w7 := by rw [hw7]; exact (Touch.refl [] w6).alloc _
          rw [← hw7] at rT
          have hl7 := hl6.touch t6
          have HL7 := hid hl7
          have HR7 := hid rT
          have HW7 := hid hw7
          have HON := hid (fun (W2 : World) (t2 : Touch [] w7 W2) => (hl7.touch t2).onD)
          have HSD := hid (fun (W2 : World) (t2 : Touch [] w7 W2) => (hl7.touch t2).stateD (by omega))
          have HSC := hid (fun (W2 : World) (t2 : Touch [] w7 W2) => (hl7.touch t2).stateC (by omega))
          have hq0 : ((r : Int) == 0) = false := by simpa using hr0
          have hq1 : ((r : Int) == 10) = false := by simpa using hr1
          have hq2 : ((r : Int) == 17) = false := by simpa using hr2
          clear hl6 hl7 rT t6 hw7 bx6 l6 HR6 HR5 HT5 HLP5 HLP HVR HSH c0 c1 c2 c3 c4 HK hr0 hr1 hr2
          go_wp2_with fail
          rw [← HW7.out]
          with_reducible refine Calls.mono (HON.out _ (Touch.refl [] w7)) ?_
          rintro e w8 ⟨rfl, hw8⟩
          have t8 : Touch [] w7 w8 := by rw [hw8]; exact (Touch.refl [] w7)
          have z8 := fun i => cell_row (kept_row HR7.out t8 (by simp)) i
          clear hw8
          go_wp2_with fail
          with_reducible refine Calls.mono (HSD.out _ t8) ?_
          rintro e w9 ⟨fv1, q1, rfl, ht1, hb9⟩
          obtain ⟨fa1, fc1, e1⟩ := ht1.st.sliceL
          subst e1
          have t9 := t8.trans (Touch.of_below (F := []) hb9 (Nat.le_refl _)) (by simp)
          have HT1 := hid ht1
          clear ht1 hb9 z8 HSD
          go_wp2_with fail
          with_reducible refine Calls.mono (HSC.out _ t9) ?_
          rintro e w10 ⟨fv2, q2, rfl, ht2, hb10⟩
          obtain ⟨fa2, fc2, e2⟩ := ht2.st.sliceL
          subst e2
          have t10 := t9.trans (Touch.of_below (F := []) hb10 (Nat.le_refl _)) (by simp)
          have HSM := hid ((HT1.out.below hb10).same ht2)
          clear ht2 hb10 HT1 HSC
          go_wp2_with fail
          with_reducible refine Calls.mono HSM.out ?_
          rintro e w11 ⟨rfl, hb11⟩
          have HT11 := hid (t10.trans (Touch.of_below (F := []) hb11 (Nat.le_refl _)) (by simp))
          clear hb11 HSM t8 t9 t10
          go_wp2
          go_roundw
          case rel => exact ⟨k + 1, D', C, by omega, by go_num, HL7.out.touch HT11.out⟩
          case measure => simp [intOf]; omega
        · have rT := heap_alloc_new w6 (.cells #[.int .i64 10, .int .i64 0, .bool false, .slice x1 0 y1, .slice m1 0 l1, .int .i64 0, .int .i64 0, .int .i64 0, .int .i64 0, .int .i64 0, .int .i64 0, .int .i64 0] 36)
          obtain ⟨w7, hw7⟩ : ∃ w7, w7 = w6.alloc (.cells #[.int .i64 10, .int .i64 0, .bool false, .slice x1 0 y1, .slice m1 0 l1, .int .i64 0, .int .i64 0, .int .i64 0, .int .i64 0, .int .i64 0, .int .i64 0, .int .i64 0] 36) := ⟨_, rfl⟩
          have t6 : Touch [] w6 w7 := by rw [hw7]; exact (Touch.refl [] w6).alloc _
          rw [← hw7] at rT
          have hl7 := hhalf.touch t6
          have HL7 := hid hl7
          have HW7 := hid hw7
          have HON := hid (On_any hl7.was.d)
          rw [hoff] at HON
          have r7 := kept_row HR6.out t6 (by simp)
          have HCK : Hid (∀ W2, Touch (C.foot p2 mf2 mt2) w7 W2 → W2.cell? ⟨w6.heap.size, 0, none⟩ = some (.int .i64 10) ∧ (W2.cell? ⟨wr.heap.size, 0, none⟩ = some (.int .i64 o.kind) ∧ W2.cell? ⟨wr.heap.size, 1, none⟩ = some (.string o.name) ∧ W2.cell? ⟨wr.heap.size, 2, none⟩ = some (.int .i64 o.N) ∧ W2.cell? ⟨wr.heap.size, 3, none⟩ = some (.int .i64 o.bit) ∧ W2.cell? ⟨wr.heap.size, 4, none⟩ = some (.slice sx m cx)) ∧ W2.cell? ⟨sb, 0, none⟩ = some (.int .i64 (B : Int))) := hid fun W2 t2 => by
            have q1 := kept_row rT t2 (fun hb => by have := hhalf.was.c.rep.lt _ hb; omega)
            have q2 := kept_row r7 t2 (fun hb => by have := HLP.out.keep.c.rep.lt _ hb; omega)
            have q3 := kept_row hl7.box t2 hl7.n2
            exact ⟨cell_row q1 0, ⟨cell_row q2 0, cell_row q2 1, cell_row q2 2, cell_row q2 3, cell_row q2 4⟩, cell_row q3 0⟩
          have HST := hid (fun (W2 : World) (t2 : Touch [] w7 W2) => State_any (hl7.touch t2).was.d hsm)
          rw [hDB] at HST
          have HCUT := hid (fun (W2 W3 : World) (t2 : Touch [] w7 W2) (t3 : Touch [] W2 W3) (fv : Value) (l : List SFile) (hs : StateAt W3 W2.heap.size B fv l) (hp : l.map SFile.pub = D'.ents.map Ent.pub) => cut_ok (HVR.out _ ((hl7.touch t2).touch t3).low) ((hl7.touch t2).touch t3).was.c (by omega) HK.out h0 hs (fun b hb => (hl7.touch t2).was.c.rep.lt b hb) t3.size (hp ▸ hcut) (HSH.out _ ((hl7.touch t2).touch t3).low) hm)
          unfold opV at HCUT
          have z7 := HCK.out w7 (Touch.refl _ _)
          have l7 := lt_of_block rT
          clear hhalf hl7 rT t6 hw7 bx6 l6 HR6 HR5 HT5 HLP5 HLP HVR HSH c0 c1 c2 c3 c4 HK h0 hoff hDB hsm hcut r7
          obtain ⟨z0, ⟨z1, z2, z3, z4, z5⟩, z6⟩ := z7
          go_wp2_with fail
          rw [← HW7.out]
          with_reducible refine Calls.mono HON.out ?_
          rintro e w8 ⟨rfl, hw8⟩
          subst hw8
          go_wp2_with fail
          go_region_held3 (fun V => V.cell? ⟨w6.heap.size, 0, none⟩ = some (.int .i64 10) ∧ (V.cell? ⟨wr.heap.size, 0, none⟩ = some (.int .i64 o.kind) ∧ V.cell? ⟨wr.heap.size, 1, none⟩ = some (.string o.name) ∧ V.cell? ⟨wr.heap.size, 2, none⟩ = some (.int .i64 o.N) ∧ V.cell? ⟨wr.heap.size, 3, none⟩ = some (.int .i64 o.bit) ∧ V.cell? ⟨wr.heap.size, 4, none⟩ = some (.slice sx m cx)) ∧ V.cell? ⟨sb, 0, none⟩ = some (.int .i64 (B : Int))) (go_keep)
            (first
              | (go_at_call 15; with_reducible refine Calls.mono (HCUT.out _ _ ((Touch.refl [] w8).drew) T9.out _ _ ST.out SP.out) ?_; rintro e w10 ⟨rfl, t10⟩; have T10 := hid ((((Touch.refl [] w8).drew.trans T9.out (by simp)).mono (G := C.foot p2 mf2 mt2) (by simp)).trans t10 (fun b hb => .inl hb)); have zz := HCK.out w10 T10.out; clear t10)
              | (go_at_call 8; with_reducible refine Calls.mono (HST.out _ ((Touch.refl [] w8).drew)) ?_; rintro e w9 ⟨fv, l, rfl, hst, hp, hb9⟩; obtain ⟨fa, fc, e9⟩ := hst.sliceL; subst e9; have T9 := hid (Touch.of_below (F := []) hb9 (Nat.le_refl _)); have ST := hid hst; have SP := hid hp; have zz := HCK.out w9 (((Touch.refl [] w8).drew.trans T9.out (by simp)).mono (by simp)); clear hst hp hb9))
          go_wp2
          go_ret
          exact ⟨rfl, HL7.out.low.trans (T10.out.below HL7.out.room (fun b hb => HL7.out.was.c.rep.base b hb))⟩
    · have HON := hid hlo.onD
      have HCO := hid (Counts_any hlo.keep.d)
      have hful : D.c.full = 0 := hlo.keep.akin.full
      have hfF := fun W => field_Full D.c W
      unfold Cnt.val at HCO hfF
      rw [hful] at HCO hfF
      have HLOW := hid hlo.low
      have HRM := hid hlo.room
      clear hlo hful
      go_wp2_with fail
      with_reducible refine Calls.mono HON.out ?_
      rintro e w5 ⟨rfl, hw5⟩
      subst hw5
      go_wp2_with fail
      with_reducible refine Calls.mono HCO.out ?_
      rintro e w6 ⟨rfl, hb6⟩
      have HB6 := hid hb6
      clear hb6
      go_wp2
      go_ret
      exact ⟨rfl, HLOW.out.trans (HB6.out.mono HRM.out)⟩
end
end Go.Proofs.YtcpncfngadablaaDoor
namespace Go.Proofs.YtcpncfngadablaaDoor
open Go.ChangeShapes Go.WideShapes Go.ChangeAt Go.RowKit Go.Deep

theorem cells110 : Tryd.prog.cellsOf 110 = 3 := by kernel_rfl

section
variable {H : Type} {enc : TypeId × Value → H} {W : World} {spare : Nat → Bool} {held : Bool}

set_option maxRecDepth 100000 in
theorem open_tr {n : Nat} {a : Addr} {cs : List Value} {x : DataW H × List MemPlace} (h1 : W.cells? 0 a 3 = some cs) (h2 : DataW.trod enc Tryd.prog W 0 spare held n 110 cs = some x) :
    ∃ o : TrA, W.cell? a = some (.int .i64 o.at_) ∧ W.cell? ⟨a.block, a.off + 1, none⟩ = some (.int .i64 o.kind) ∧ W.cell? ⟨a.block, a.off + 2, none⟩ = some (.int .i64 o.bytes) ∧ (Lit.int .i64 o.at_).wf = true := by
  obtain ⟨xs, k, rfl, rfl, hl, hxs, hf⟩ := DataW.trod_struct Tryd.underlying110 h2
  have hm : (List.range 3).mapM (fun i => W.cell? (a.add i)) = some cs := by
    simpa [World.cells?] using h1
  have g : ∀ i, i < 3 → W.cell? (a.add i) = cs[i]? := fun i hi => mapM_some_get hm i i (by simp [hi])
  rw [cells110] at hl
  match cs, hl with
  | [v0, v1, v2], _ =>
  have g0 := g 0 (by omega)
  have g1 := g 1 (by omega)
  have g2 := g 2 (by omega)
  simp at g0 g1 g2
  have hsp := World.cell?_spot g0
  have f0 := hf 0 _ rfl
  have f1 := hf 1 _ rfl
  have f2 := hf 2 _ rfl
  simp [cells3] at f0 f1 f2
  have hx5 : xs.length = 3 := by simpa using hxs
  rw [List.getElem?_eq_getElem (by omega)] at f0 f1 f2
  obtain ⟨n0, e0, _, w0⟩ := DataW.trod_int Tryd.underlying3 f0
  obtain ⟨n1, e1, _, _⟩ := DataW.trod_int Tryd.underlying3 f1
  obtain ⟨n2, e2, _, _⟩ := DataW.trod_int Tryd.underlying3 f2
  simp at e0 e1 e2
  subst e0
  subst e1
  subst e2
  obtain ⟨b, off, spot⟩ := a
  obtain rfl : spot = none := hsp
  rw [add_plain] at g1 g2
  exact ⟨⟨n0, n1, n2⟩, by simpa [Addr.add] using g0, g1, g2, w0⟩

set_option maxRecDepth 100000 in
/-- troubles that came in. -/
theorem open_trs {v : Value} {d : DataW H} {ps : List MemPlace} {base : Nat} (hval : Value.okWide Tryd.prog W .any base 27 v) (h : DataW.Trod enc Tryd.prog W 0 spare held 27 v d ps) (hk : Rows.uptoBulk d ≤ 1048576) :
    ∃ (sa : Option Addr) (ca : Nat) (l : List TrA), v = .slice sa l.length ca ∧ TrsAt W sa l ∧ l.length ≤ 1073741824 := by
  obtain ⟨a0, len, cap, rfl⟩ := okWide_slice Tryd.underlying27 hval
  obtain ⟨fuel, hf⟩ := h
  rcases open_slice Tryd.underlying27 hf with ⟨hcs, hx⟩ | ⟨a, len', cap', m, n, D, Pl, hcs, _, hl, hm, hmm, hx, hall⟩
  · simp [Value.cells] at hcs
    obtain ⟨rfl, rfl, rfl⟩ := hcs
    exact ⟨none, 0, [], rfl, ⟨fun k hk => by simp at hk, fun k hk => by simp at hk⟩, Nat.zero_le _⟩
  · simp [Value.cells] at hcs
    obtain ⟨rfl, rfl, rfl⟩ := hcs
    rw [cells110] at hx hall
    obtain ⟨rfl, -⟩ := Prod.mk.inj hx
    have hlm : len ≤ m := by rw [hmm]; split <;> omega
    have hb1 : Rows.uptoBulkAll ((List.range len).map D) ≤ 1048576 := by
      simp only [Rows.uptoBulk] at hk
      omega
    have hlen2 := bulk_length ((List.range len).map D)
    simp only [List.length_map, List.length_range] at hlen2
    have each : ∀ i, i < len → ∃ o : TrA, W.cell? (a.add (i * 3)) = some (.int .i64 o.at_) ∧ W.cell? ⟨(a.add (i * 3)).block, (a.add (i * 3)).off + 1, none⟩ = some (.int .i64 o.kind) ∧ W.cell? ⟨(a.add (i * 3)).block, (a.add (i * 3)).off + 2, none⟩ = some (.int .i64 o.bytes) ∧ (Lit.int .i64 o.at_).wf = true := fun i hi => by
      obtain ⟨cs', h1, h2⟩ := hall i (by omega)
      exact open_tr h1 h2
    haveI : Inhabited TrA := ⟨⟨0, 0, 0⟩⟩
    obtain ⟨f, hf⟩ := choose_lt each
    have hlen : ((List.range len).map f).length = len := by simp
    refine ⟨some a, cap, (List.range len).map f, by rw [hlen], ⟨fun k hk => ?_, fun k hk => ?_⟩, by rw [hlen]; omega⟩
    · rw [hlen] at hk
      obtain ⟨c0, c1, c2, _⟩ := hf k hk
      refine ⟨a, rfl, ?_, by simpa using c0, by simpa using c1, by simpa using c2⟩
      have := World.block_lt_of_cell? W _ c0
      rwa [add_block] at this
    · rw [hlen] at hk
      simpa using (hf k hk).2.2.2
end
end Go.Proofs.YtcpncfngadablaaDoor
