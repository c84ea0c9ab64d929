import Derived.Test.YtcpncfngadablaaDoorF7
namespace Go.Proofs.YtcpncfngadablaaDoor
open Go.RowKit Go.Deep

section
variable {w w' : World} {E : Nat → Addr} {lo p mf mt : Nat} {D : DiskC}

set_option maxRecDepth 100000 in
set_option maxHeartbeats 6000000 in
theorem law (V : Env w w.heap.size E) (block : Int) {sa sb : Option Addr} {ca cb : Nat} {la lb : List OpA} (ha : OpsAt w sa la) (hb : OpsAt w sb lb) (hna : la.length ≤ 1073741824) (hnb : lb.length ≤ 1073741824) :
    Calls Tryd.prog 3 #[.int .i64 block, .slice sa la.length ca, .slice sb lb.length cb] w fun e w' => e = .returned (.bool true) ∧ Below w.heap.size w w' := by
  obtain ⟨B, hB⟩ : ∃ B : Nat, saneB block = (B : Int) := ⟨(saneB block).toNat, by unfold saneB; omega⟩
  have hB1 : 64 ≤ B := by unfold saneB at hB; omega
  have hB2 : B ≤ 65536 := by unfold saneB at hB; omega
  have hB3 : (B : Int) % 32 = 0 := by unfold saneB at hB; omega
  have HSA := hid (fun W => sane_any block W)
  rw [hB] at HSA
  have HNEW := hid (fun W => New_ok (Bs := 1099511627776) hB1 hB2 hB3 (by omega) (by omega) W)
  have HV := hid V
  have HA := hid ha
  have HB := hid hb
  have HM32 := hid hB3
  clear V ha hb hB hB3
  go_enter Tryd.func3, Tryd.ntmps3
  go_wp2_with (first
    | (go_at_call 5; refine (HNEW.out _).mono ?_; rintro e w2 ⟨p, mf, mt, rfl, hR, hb2⟩; have HR := hid hR; have HB2 := hid hb2; clear hR hb2)
    | (go_at_call 6; refine (HSA.out _).mono ?_; rintro e w1 ⟨rfl, hb1⟩; have HB1 := hid hb1; clear hb1))
  have HRU : Hid (∃ D, Runs w2 w.heap.size p mf mt B 0 D) := by
    have h1 := HB1.out.size
    exact hid ⟨_, HR.out.lower h1, rfl, inv_new hB1 hB2, rfl⟩
  have HW2 : Hid (Below w.heap.size w w2) := hid (HB1.out.trans (by have h1 := HB1.out.size; have h2 := HB2.out; exact ⟨h2.os, h2.tape, h2.output, h2.size, fun b hb => h2.block b (by omega)⟩))
  go_loopw [9] (fun i wr => ∃ (k : Nat) (D : DiskC), k ≤ la.length ∧ i = .int .i64 k ∧ Runs wr w.heap.size p mf mt B k D ∧ Below w.heap.size w wr) (fun i _ => la.length - (intOf i).toNat)
  case atStart =>
    obtain ⟨D, hD⟩ := HRU.out
    exact ⟨0, D, Nat.zero_le _, rfl, hD, HW2.out⟩
  case round =>
    obtain ⟨k, D, hk, rfl, hru, hbw⟩ := hrel
    by_cases hlt : k < la.length
    · obtain ⟨a, sx, m, cx, rfl, c0, c1, c2, c3, c4, hsh, hm, hblk⟩ := HA.out.read hlt hbw
      have hwr := hbw.size
      have HP := hid (fun (w3 : World) (h3 : Touch [] wr w3) => (hru.touch h3).program (HV.out.touch (F := []) ((Touch.of_below (F := []) hbw (Nat.le_refl _)).trans h3 (by simp)) (by simp)) (by omega) la[k] (hsh.touch h3 (by simp)) hm)
      unfold opV at HP
      have HRUN := hid hru
      have HBW := hid hbw
      have HCK : Hid (∀ w4, Below w.heap.size w w4 → w4.cell? (a.add (k * 5)) = some (.int .i64 la[k].kind) ∧ w4.cell? ⟨(a.add (k * 5)).block, (a.add (k * 5)).off + 1, none⟩ = some (.string la[k].name) ∧ w4.cell? ⟨(a.add (k * 5)).block, (a.add (k * 5)).off + 2, none⟩ = some (.int .i64 la[k].N) ∧ w4.cell? ⟨(a.add (k * 5)).block, (a.add (k * 5)).off + 3, none⟩ = some (.int .i64 la[k].bit) ∧ w4.cell? ⟨(a.add (k * 5)).block, (a.add (k * 5)).off + 4, none⟩ = some (.slice sx m cx)) := hid fun w4 h4 => by
        have hc : ∀ q : Addr, q.block = (a.add (k * 5)).block → w4.cell? q = wr.cell? q := fun q hq => (h4.cell (by rw [hq, add_block]; exact hblk)).trans (hbw.cell (by rw [hq, add_block]; exact hblk)).symm
        exact ⟨(hc _ rfl).trans c0, (hc ⟨(a.add (k * 5)).block, (a.add (k * 5)).off + 1, none⟩ rfl).trans c1, (hc ⟨(a.add (k * 5)).block, (a.add (k * 5)).off + 2, none⟩ rfl).trans c2, (hc ⟨(a.add (k * 5)).block, (a.add (k * 5)).off + 3, none⟩ rfl).trans c3, (hc ⟨(a.add (k * 5)).block, (a.add (k * 5)).off + 4, none⟩ rfl).trans c4⟩
      have hfB : ∀ W, (Instr.field 29 (.agg #[.int .i64 (B : Int), .int .i64 1099511627776, .slice none 0 0]) 0).run Tryd.prog W = .ok (.int .i64 B) W := field_B _ _ _
      have i0 : (0 : Int) ≤ (k : Int) := by omega
      have i1 : (k : Int) < (la.length : Int) := by omega
      clear hru hbw hsh
      go_wp2
      go_region_held3 (fun W' => W'.cell? (a.add (k * 5)) = some (.int .i64 la[k].kind) ∧ W'.cell? ⟨(a.add (k * 5)).block, (a.add (k * 5)).off + 1, none⟩ = some (.string la[k].name) ∧ W'.cell? ⟨(a.add (k * 5)).block, (a.add (k * 5)).off + 2, none⟩ = some (.int .i64 la[k].N) ∧ W'.cell? ⟨(a.add (k * 5)).block, (a.add (k * 5)).off + 3, none⟩ = some (.int .i64 la[k].bit) ∧ W'.cell? ⟨(a.add (k * 5)).block, (a.add (k * 5)).off + 4, none⟩ = some (.slice sx m cx)) (go_keep)
        (first
          | (go_at_call 7; refine (HP.out _ HT3.out).mono ?_; rintro e w4 ⟨v, D', rfl, _, hru4, _, ht4, _⟩; have HRU4 := hid hru4; have hb4 : Below w.heap.size w w4 := below_foot (HBW.out.trans (HT3.out.below hwr (by simp))) ht4 (fun b hb => HRUN.out.rep.base b hb) (by have := HT3.out.size; omega); have HB4 := hid hb4; have d0 := HCK.out w4 hb4; clear hru4 ht4 hb4)
          | (go_at_call 6; refine (HSA.out _).mono ?_; rintro e w3 ⟨rfl, hb3⟩; have ht3 : Touch [] wr w3 := (Touch.refl [] wr).drew.trans (Touch.of_below (F := []) hb3 (Nat.le_refl _)) (by simp); have HT3 := hid ht3; have d0 := HCK.out w3 (HBW.out.trans (ht3.below hwr (by simp))); clear hb3 ht3))
      clear d0
      go_wp2
      go_roundw
      case rel => first | exact ⟨k + 1, D', by omega, by go_num, HRU4.out, HB4.out⟩ | ((repeat apply Exists.intro); exact ⟨⟨k + 1, D', by omega, by go_num, HRU4.out, HB4.out⟩, rfl⟩)
      case measure => simp [intOf]; omega
    · obtain rfl : k = la.length := by omega
      have hwr := hbw.size
      have HST := hid (State_any hru.rep (hru.inv.small (by omega)))
      have hDB := hru.B
      rw [hDB] at HST
      have HRUN := hid hru
      have HBW := hid hbw
      clear hru hbw
      go_wp2_with (first
        | (go_at_call 8; refine HST.out.mono ?_; rintro e w3 ⟨fv, l, rfl, hst, hpub, hb3⟩; obtain ⟨fa, fc, hfv⟩ : ∃ fa fc, fv = .slice fa l.length fc := (by rcases hst.own.2 with ⟨e, h0⟩ | ⟨g, cap, _, e, _⟩; exact ⟨none, 0, by rw [e, h0]⟩; exact ⟨_, cap, e⟩); subst hfv; have HSTA := hid hst; have HPUB := hid hpub; have HB3 := hid hb3; clear hst hpub hb3))
      obtain ⟨X, hX⟩ : ∃ X, X = w3.alloc (.cells #[.int .i64 (B : Int), .slice fa l.length fc] 43) := ⟨_, rfl⟩
      have rX : X.heap[w3.heap.size]? = some (.cells #[.int .i64 (B : Int), .slice fa l.length fc] 43 (0, 0)) := by rw [hX]; exact heap_alloc_new _ _
      have tX : Touch [] w3 X := by rw [hX]; exact (Touch.refl [] w3).alloc _
      have x0 := cell_row rX 0
      have x1 := cell_row rX 1
      simp at x0 x1
      have HRX := hid rX
      have HTX := hid tX
      have hgood := HRUN.out.good HPUB.out (by omega)
      have HGOOD := hid hgood
      rw [← hX]
      have HMO := hid (fun (w4 : World) (h4 : Touch [] X w4) => Mount_ok (Bs := 1099511627776) (HSTA.out.kept (w' := w4) (fun b _ hb => by rw [h4.block b (by have := tX.size; omega) (by simp), tX.block b hb (by simp)])) hgood.1 hB1 hB2 HM32.out (by omega) (by omega) (by have := hgood.2.2; omega))
      clear hX rX tX hgood
      go_region_held3 (fun W' => W'.cell? ⟨w3.heap.size, 0, none⟩ = some (.int .i64 (B : Int)) ∧ W'.cell? ⟨w3.heap.size, 1, none⟩ = some (.slice fa l.length fc)) (go_keep)
        (first
          | (go_at_call 9; refine (HMO.out _ HT4.out).mono ?_; rintro e w5 ⟨p2, mf2, mt2, D2, rfl, hR2, hp2, hT2, hb5⟩; have t5 := Touch.of_below (F := []) hb5 (Nat.le_refl _); have r5 := kept_row (kept_row HRX.out HT4.out (by simp)) t5 (by simp); have y0 := cell_row r5 0; have y1 := cell_row r5 1; simp at y0 y1; have HR2 := hid hR2; have HP2 := hid hp2; have HT2 := hid hT2; have HT5 := hid t5; clear hR2 hp2 hT2 hb5 t5 r5)
          | (go_at_call 6; refine (HSA.out _).mono ?_; rintro e w4 ⟨rfl, hb4⟩; have t4 : Touch [] X w4 := (Touch.refl [] X).drew.trans (Touch.of_below (F := []) hb4 (Nat.le_refl _)) (by simp); have r4 := kept_row HRX.out t4 (by simp); have y0 := cell_row r4 0; have y1 := cell_row r4 1; simp at y0 y1; have HT4 := hid t4; clear hb4 t4 r4))
      have t35 : Touch [] wr w5 := (((Touch.of_below (F := []) HB3.out (Nat.le_refl _)).trans HTX.out (by simp)).trans HT4.out (by simp)).trans HT5.out (by simp)
      have hlo : w.heap.size ≤ w4.heap.size := by
        have e1 := HB3.out.size
        have e2 := HTX.out.size
        have e3 := HT4.out.size
        omega
      obtain ⟨hru2, hlike, hc2⟩ := HRUN.out.mounted HPUB.out (by omega) HR2.out HP2.out HT2.out hlo
      have hru1 := HRUN.out.touch t35
      have hw5 : Below w.heap.size w w5 := HBW.out.trans (t35.below hwr (by simp))
      have r5 := kept_row (kept_row HRX.out HT4.out (by simp)) HT5.out (by simp)
      have st5 : StateAt w5 wr.heap.size B (.slice fa l.length fc) l := HSTA.out.kept (fun b _ hb => by
        have e1 := HTX.out.size
        have e2 := HT4.out.size
        rw [HT5.out.block b (by omega) (by simp), HT4.out.block b (by omega) (by simp), HTX.out.block b hb (by simp)])
      have hlen5 : l.length ≤ 1099511627776 := HGOOD.out.1.few
      have hbl5 : ∀ e ∈ l, e.file.blocks.length ≤ 1099511627776 := fun e he => by
        have h1 := le_total e.pub (l := l.map SFile.pub) (List.mem_map_of_mem he)
        rw [← used_total] at h1
        have h2 := HGOOD.out.2.2
        have h3 : e.pub.2 = e.file := rfl
        rw [h3] at h1
        omega
      have HS2 := hid (fun (W : World) (hW : Touch [] w5 W) => State_any ((hru2.touch hW).rep) (hru2.inv.small (by omega)))
      have hD2B := hru2.B
      rw [hD2B] at HS2
      have hfl2 : D2.ents.map Ent.pub = l.map SFile.pub := by
        have := hlike.files
        exact this.symm.trans HPUB.out.symm
      have HC2 := hid (fun (W : World) (hW : Touch [] w5 W) => Counts_any ((hru2.touch hW).rep))
      have HC1 := hid (fun (W : World) (hW : Touch [] w5 W) => Counts_any ((hru1.touch hW).rep))
      have HON := hid (fun (W : World) (hW : Touch [] w5 W) => On_any ((hru2.touch hW).rep))
      have hon2 : D2.on = true := hru2.inv.on
      rw [hon2] at HON
      rw [hc2] at HC2
      unfold Cnt.val at HC1 HC2
      have HCK : Hid (∀ W, Touch [] w5 W → W.cell? ⟨w3.heap.size, 0, none⟩ = some (.int .i64 (B : Int)) ∧ W.cell? ⟨w3.heap.size, 1, none⟩ = some (.slice fa l.length fc)) := hid fun W hW => by
        have r6 := kept_row r5 hW (by simp)
        have y0 := cell_row r6 0
        have y1 := cell_row r6 1
        simp at y0 y1
        exact ⟨y0, y1⟩
      have hfU := fun W => field_Used D.c W
      unfold Cnt.val at hfU
      have HSS := hid (fun (W : World) (hW : Touch [] w5 W) (n2 : Nat) (fv2 : Value) (l2 : List SFile) (h2 : StateAt W n2 B fv2 l2) (hp2 : l2.map SFile.pub = D2.ents.map Ent.pub) => SameState_true (x := (B : Int)) h2 (st5.kept (w' := W) (fun b _ hb => hW.block b hb (by simp))) (hp2.trans hfl2) (by simpa [show l2.length = l.length by simpa using congrArg List.length (hp2.trans hfl2)] using hlen5) (fun e he => by
        have h1 := le_total e.pub (l := l2.map SFile.pub) (List.mem_map_of_mem he)
        rw [hp2.trans hfl2, ← used_total] at h1
        have h2 := HGOOD.out.2.2
        have h3 : e.pub.2 = e.file := rfl
        rw [h3] at h1
        omega))
      have HRU1 := hid hru1
      have HRU2 := hid hru2
      have HLIKE := hid hlike
      have HW5 := hid hw5
      have HST5 := hid st5
      clear hru1 hru2 hlike hw5 st5 r5 t35 hbl5 hfl2
      go_wp2
      go_region_held3 (fun W' => W'.cell? ⟨w3.heap.size, 0, none⟩ = some (.int .i64 (B : Int)) ∧ W'.cell? ⟨w3.heap.size, 1, none⟩ = some (.slice fa l.length fc)) (go_keep)
        (first
          | (go_at_call 12; refine (HC1.out _ T9.out).mono ?_; rintro e w10 ⟨rfl, hb10⟩; have t10 := T9.out.trans (Touch.of_below (F := []) hb10 (Nat.le_refl _)) (by simp); have z10 := HCK.out w10 t10; have T10 := hid t10; clear hb10 t10)
          | (go_at_call 12; refine (HC1.out _ T8.out).mono ?_; rintro e w9 ⟨rfl, hb9⟩; have t9 := T8.out.trans (Touch.of_below (F := []) hb9 (Nat.le_refl _)) (by simp); have z9 := HCK.out w9 t9; have T9 := hid t9; clear hb9 t9)
          | (go_at_call 12; refine (HC2.out _ T7.out).mono ?_; rintro e w8 ⟨rfl, hb8⟩; have t8 := T7.out.trans (Touch.of_below (F := []) hb8 (Nat.le_refl _)) (by simp); have z8 := HCK.out w8 t8; have T8 := hid t8; clear hb8 t8)
          | (go_at_call 11; refine (HSS.out _ T6.out _ _ _ HST6.out HPU6.out).mono ?_; rintro e w7 ⟨rfl, hb7⟩; have t7 := T6.out.trans (Touch.of_below (F := []) hb7 (Nat.le_refl _)) (by simp); have z7 := HCK.out w7 t7; have T7 := hid t7; clear hb7 t7)
          | (go_at_call 8; refine (HS2.out _ (Touch.refl [] w5).drew).mono ?_; rintro e w6 ⟨fv2, l2, rfl, hst6, hpu6, hb6⟩; have t6 := (Touch.refl [] w5).drew.trans (Touch.of_below (F := []) hb6 (Nat.le_refl _)) (by simp); have z6 := HCK.out w6 t6; have T6 := hid t6; have HST6 := hid hst6; have HPU6 := hid hpu6; clear hb6 t6 hst6 hpu6)
          | (go_at_call 10; refine (HON.out _ (Touch.refl [] w5).drew).mono ?_; rintro e w5' ⟨rfl, rfl⟩))
      have HC10 := hid (HC1.out w10 T10.out)
      clear z6 z7 z8 z9 z10
      go_wp2_with (first
        | (go_at_call 12; refine HC10.out.mono ?_; rintro e w11 ⟨rfl, hb11⟩; have t11 := T10.out.trans (Touch.of_below (F := []) hb11 (Nat.le_refl _)) (by simp); have T11 := hid t11; clear hb11 t11))
      have HBO : Hid (Both (w11.alloc (.cells D.c.row 34)) w.heap.size p mf mt p2 mf2 mt2 B la.length w11.heap.size D.c D D2) := by
        have tY : Touch [] w5 (w11.alloc (.cells D.c.row 34)) := T11.out.alloc _
        have e1 := HB3.out.size
        have e2 := HTX.out.size
        have e3 := HT4.out.size
        have e5 := T11.out.size
        refine hid ⟨HRU1.out.touch tY, HRU2.out.touch tY, HLIKE.out, fun b hb hb2 => ?_, heap_alloc_new _ _, fun hb => ?_, fun hb => ?_⟩
        · have h1 := HRUN.out.rep.lt b hb
          have h2 := HR2.out.base b hb2
          omega
        · have := HRU1.out.rep.lt _ hb
          omega
        · have := HRU2.out.rep.lt _ hb
          omega
      have HBY : Hid (Below w.heap.size w (w11.alloc (.cells D.c.row 34))) := by
        have e6 := HW5.out.size
        exact hid (HW5.out.trans ((T11.out.alloc _).below e6 (by simp)))
      unfold Cnt.row at HBO HBY
      clear HC10 HON HC1 HC2 HS2 HSS HCK hfU HST6 HPU6
      go_loopw [13] (fun i wr => ∃ (k : Nat) (D' D2' : DiskC), k ≤ lb.length ∧ i = .int .i64 k ∧ Both wr w.heap.size p mf mt p2 mf2 mt2 B (la.length + k) w11.heap.size D.c D' D2' ∧ Below w.heap.size w wr) (fun i _ => lb.length - (intOf i).toNat)
      case atStart => exact ⟨0, D, D2, Nat.zero_le _, rfl, HBO.out, HBY.out⟩
      case round =>
        rename_i wx
        obtain ⟨k, Da, Dc, hk, rfl, hbo, hbw⟩ := hrel
        by_cases hlt : k < lb.length
        · obtain ⟨a, sx, m, cx, rfl, c0, c1, c2, c3, c4, hsh, hm, hblk⟩ := HB.out.read hlt hbw
          have i0 : (0 : Int) ≤ (k : Int) := by omega
          have i1 : (k : Int) < (lb.length : Int) := by omega
          have HBO2 := hid hbo
          have HBW2 := hid hbw
          have HSH := hid hsh
          clear hbo hbw hsh
          cases h8 : (lb[k].kind == 8) with
          | true =>
            go_wp2
            go_roundw
            case rel => first | exact ⟨k + 1, Da, Dc, by omega, by go_num, HBO2.out.more, HBW2.out⟩ | ((repeat apply Exists.intro); exact ⟨⟨k + 1, Da, Dc, by omega, by go_num, HBO2.out.more, HBW2.out⟩, rfl⟩)
            case measure => simp [intOf]; omega
          | false =>
            have hne8 : lb[k].kind ≠ 8 := by simpa using h8
            have HN8 := hid hne8
            have hwr2 := HBW2.out.size
            have HCK : Hid (∀ w4, Below w.heap.size w w4 → w4.cell? (a.add (k * 5)) = some (.int .i64 lb[k].kind) ∧ w4.cell? ⟨(a.add (k * 5)).block, (a.add (k * 5)).off + 1, none⟩ = some (.string lb[k].name) ∧ w4.cell? ⟨(a.add (k * 5)).block, (a.add (k * 5)).off + 2, none⟩ = some (.int .i64 lb[k].N) ∧ w4.cell? ⟨(a.add (k * 5)).block, (a.add (k * 5)).off + 3, none⟩ = some (.int .i64 lb[k].bit) ∧ w4.cell? ⟨(a.add (k * 5)).block, (a.add (k * 5)).off + 4, none⟩ = some (.slice sx m cx)) := hid fun w4 h4 => by
              have hc : ∀ q : Addr, q.block = (a.add (k * 5)).block → w4.cell? q = wr.cell? q := fun q hq => (h4.cell (by rw [hq, add_block]; exact hblk)).trans (HBW2.out.cell (by rw [hq, add_block]; exact hblk)).symm
              exact ⟨(hc _ rfl).trans c0, (hc ⟨(a.add (k * 5)).block, (a.add (k * 5)).off + 1, none⟩ rfl).trans c1, (hc ⟨(a.add (k * 5)).block, (a.add (k * 5)).off + 2, none⟩ rfl).trans c2, (hc ⟨(a.add (k * 5)).block, (a.add (k * 5)).off + 3, none⟩ rfl).trans c3, (hc ⟨(a.add (k * 5)).block, (a.add (k * 5)).off + 4, none⟩ rfl).trans c4⟩
            have HENV := hid (fun (w4 : World) (h4 : Below w.heap.size w w4) => HV.out.touch (F := []) (Touch.of_below (F := []) h4 (Nat.le_refl _)) (by simp))
            have HP1 := hid (fun (w4 : World) (h4 : Touch [] wr w4) => (HBO2.out.d.touch h4).tells (HENV.out w4 (HBW2.out.trans (h4.below hwr2 (by simp)))) (by omega) lb[k] (HSH.out.touch h4 (by simp)) hm)
            unfold opV at HP1
            have hfB : ∀ W, (Instr.field 29 (.agg #[.int .i64 (B : Int), .int .i64 1099511627776, .slice none 0 0]) 0).run Tryd.prog W = .ok (.int .i64 B) W := field_B _ _ _
            have n0 := World.new_ne wr _ c0
            clear hne8
            go_wp2
            go_cut [14] (fun s14 wx => ∃ D1, Mid wx w.heap.size p mf mt p2 mf2 mt2 B (la.length + k) w11.heap.size D.c lb[k] Da.pub D1 Dc ∧ Box wx wr.heap.size (stepA lb[k] Da.pub).1 s14 ∧ Below w.heap.size w wx ∧ wr.heap.size ≤ wx.heap.size)
            case first =>
              go_region_held3 (fun W' => W'.cell? (a.add (k * 5)) = some (.int .i64 lb[k].kind) ∧ W'.cell? ⟨(a.add (k * 5)).block, (a.add (k * 5)).off + 1, none⟩ = some (.string lb[k].name) ∧ W'.cell? ⟨(a.add (k * 5)).block, (a.add (k * 5)).off + 2, none⟩ = some (.int .i64 lb[k].N) ∧ W'.cell? ⟨(a.add (k * 5)).block, (a.add (k * 5)).off + 3, none⟩ = some (.int .i64 lb[k].bit) ∧ W'.cell? ⟨(a.add (k * 5)).block, (a.add (k * 5)).off + 4, none⟩ = some (.slice sx m cx)) (go_keep)
                (first
                  | (go_at_call 6; refine (HSA.out (wr.drew.alloc (.cells zeroT 36))).mono ?_; rintro e w12 ⟨rfl, hb12⟩; have t12 : Touch [] wr w12 := ((Touch.refl [] wr).drew.alloc _).trans (Touch.of_below (F := []) hb12 (Nat.le_refl _)) (by simp); have r12 : w12.heap[wr.heap.size]? = some (.cells zeroT 36 (0, 0)) := kept_row (heap_alloc_new wr.drew (.cells zeroT 36)) (Touch.of_below (F := []) hb12 (Nat.le_refl _)) (by simp); have c12 := (fun i => cell_row r12 i); have f12 := (fun i => unfrozen_row r12 i); simp only [zeroT] at c12; have R12d := hid r12; have d12 := HCK.out w12 (HBW2.out.trans (t12.below hwr2 (by simp))); have n12 := World.new_ne w12 _ d12.1; have T12d := hid t12; clear hb12 t12 r12)
                  | (go_at_call 6; refine (HSA.out wr.drew).mono ?_; rintro e w12 ⟨rfl, hb12⟩; have t12 : Touch [] wr w12 := (Touch.refl [] wr).drew.trans (Touch.of_below (F := []) hb12 (Nat.le_refl _)) (by simp); have d12 := HCK.out w12 (HBW2.out.trans (t12.below hwr2 (by simp))); have n12 := World.new_ne w12 _ d12.1; have T12 := hid t12; clear hb12 t12)
                  | (go_at_call 7; refine (HP1.out _ (T12.out.alloc _)).mono ?_; have M7b := hid True.intro; have TT := hid (T12.out.alloc (.cells zeroT 36)); rintro e w13 ⟨T1, x1, y1, m1, l1, D1, hT1, rfl, hat1, hr1, hp1, ht1, hf1⟩; have hb13 : Below w.heap.size w w13 := below_foot (HBW2.out.trans (TT.out.below hwr2 (by simp))) ht1 (fun b hb => HBO2.out.d.rep.base b hb) (by have := TT.out.size; omega); have d13 := HCK.out w13 hb13; have n13 := World.new_ne w13 _ d13.1; have r13 := kept_row (heap_alloc_new w12 (.cells zeroT 36)) ht1 (fun hm => by have := HBO2.out.d.rep.lt _ hm; have := T12.out.size; omega); have c13 := (fun i => cell_row r13 i); have f13 := (fun i => unfrozen_row r13 i); simp only [zeroT] at c13; have R13 := hid r13; clear r13; have HT1 := hid hT1; have HAT1 := hid hat1; have HR1 := hid hr1; have HPU1 := hid hp1; have HTC1 := hid ht1; have HF1 := hid hf1; clear hT1 hat1 hr1 hp1 ht1 hf1 hb13)
                  | (go_at_call 7; refine (HP1.out _ T12.out).mono ?_; have TT := T12; have M7a := hid True.intro; rintro e w13 ⟨T1, x1, y1, m1, l1, D1, hT1, rfl, hat1, hr1, hp1, ht1, hf1⟩; have hb13 : Below w.heap.size w w13 := below_foot (HBW2.out.trans (TT.out.below hwr2 (by simp))) ht1 (fun b hb => HBO2.out.d.rep.base b hb) (by have := TT.out.size; omega); have d13 := HCK.out w13 hb13; have n13 := World.new_ne w13 _ d13.1; have HT1 := hid hT1; have HAT1 := hid hat1; have HR1 := hid hr1; have HPU1 := hid hp1; have HTC1 := hid ht1; have HF1 := hid hf1; clear hT1 hat1 hr1 hp1 ht1 hf1 hb13)
                  | (go_at_call 7; refine (HP1.out _ T12d.out).mono ?_; have TT := T12d; have M7d := hid True.intro; rintro e w13 ⟨T1, x1, y1, m1, l1, D1, hT1, rfl, hat1, hr1, hp1, ht1, hf1⟩; have hb13 : Below w.heap.size w w13 := below_foot (HBW2.out.trans (TT.out.below hwr2 (by simp))) ht1 (fun b hb => HBO2.out.d.rep.base b hb) (by have := TT.out.size; omega); have d13 := HCK.out w13 hb13; have n13 := World.new_ne w13 _ d13.1; have r13 := kept_row R12d.out ht1 (fun hm => by have := HBO2.out.d.rep.lt _ hm; have := Nat.le_refl wr.heap.size; omega); have c13 := (fun i => cell_row r13 i); have f13 := (fun i => unfrozen_row r13 i); simp only [zeroT] at c13; have R13 := hid r13; clear r13; have HT1 := hid hT1; have HAT1 := hid hat1; have HR1 := hid hr1; have HPU1 := hid hp1; have HTC1 := hid ht1; have HF1 := hid hf1; clear hT1 hat1 hr1 hp1 ht1 hf1 hb13))
              all_goals (go_wp2_with fail; go_meet; first
                | (have := M7d; exact step1_rel HBO2.out HBW2.out hwr2 T12d.out HT1.out HAT1.out HR1.out HPU1.out HTC1.out HF1.out (Touch.refl [] w13) R13.out (Nat.le_refl _) (.inl (lt_of_block R12d.out)))
                | (have := M7b; exact step1_rel HBO2.out HBW2.out hwr2 (T12.out.alloc _) HT1.out HAT1.out HR1.out HPU1.out HTC1.out HF1.out (Touch.refl [] w13) R13.out T12.out.size (.inl (by simp)))
                | (have := M7a; exact step1_new HBO2.out HBW2.out hwr2 T12.out HT1.out HAT1.out HR1.out HPU1.out HTC1.out HF1.out))
            case rest =>
              obtain ⟨wd, hwd⟩ : ∃ wd, wd = wc := ⟨_, rfl⟩
              subst hwd
              obtain ⟨D1, hmi, hbx, hbw3, hsz3⟩ := hcut
              have hwd2 := hbw3.size
              have HSH3 : Hid (Shows wd sx m cx lb[k].data) := by
                obtain ⟨a', sx', m', cx', ea, _, _, _, _, c4', hsh', _, _⟩ := HB.out.read hlt hbw3
                obtain rfl : a = a' := Option.some.inj ea
                have e := c4'.symm.trans (HCK.out wd hbw3).2.2.2.2
                simp at e
                obtain ⟨rfl, rfl, rfl⟩ := e
                exact hid hsh'
              have HMI := hid hmi
              have HBX := hid hbx
              have HBW3 := hid hbw3
              have HDC : Hid (∀ b ∈ Dc.foot p2 mf2 mt2, b < wr.heap.size) := hid fun b hb => HBO2.out.c.rep.lt b hb
              have HP2 := hid (fun (w4 : World) (h4 : Touch [] wd w4) => (HMI.out.c.touch h4).tells (HENV.out w4 (HBW3.out.trans (h4.below hwd2 (by simp)))) (by omega) lb[k] (HSH3.out.touch h4 (by simp)) hm)
              unfold opV at HP2
              obtain ⟨b0, b1, b2, b3, b4⟩ := HCK.out wd hbw3
              have n1 := World.new_ne wd _ b0
              clear hmi hbx hbw3 c0 c1 c2 c3 c4 n0
              go_wp2
              go_cut [16] (fun s16 wx => ∃ D3, Both wx w.heap.size p mf mt p2 mf2 mt2 B (la.length + k + 1) w11.heap.size D.c D1 D3 ∧ Box wx wd.heap.size (stepA lb[k] Da.pub).1 s16 ∧ Box wx wr.heap.size (stepA lb[k] Da.pub).1 u14 ∧ Below w.heap.size w wx ∧ wd.heap.size ≤ wx.heap.size)
              case first =>
                go_region_held3 (fun W' => W'.cell? (a.add (k * 5)) = some (.int .i64 lb[k].kind) ∧ W'.cell? ⟨(a.add (k * 5)).block, (a.add (k * 5)).off + 1, none⟩ = some (.string lb[k].name) ∧ W'.cell? ⟨(a.add (k * 5)).block, (a.add (k * 5)).off + 2, none⟩ = some (.int .i64 lb[k].N) ∧ W'.cell? ⟨(a.add (k * 5)).block, (a.add (k * 5)).off + 3, none⟩ = some (.int .i64 lb[k].bit) ∧ W'.cell? ⟨(a.add (k * 5)).block, (a.add (k * 5)).off + 4, none⟩ = some (.slice sx m cx)) (go_keep)
                  (first
                    | (go_at_call 6; refine (HSA.out (wd.drew.alloc (.cells zeroT 36))).mono ?_; rintro e w12 ⟨rfl, hb12⟩; have t12 : Touch [] wd w12 := ((Touch.refl [] wd).drew.alloc _).trans (Touch.of_below (F := []) hb12 (Nat.le_refl _)) (by simp); have r12 : w12.heap[wd.heap.size]? = some (.cells zeroT 36 (0, 0)) := kept_row (heap_alloc_new wd.drew (.cells zeroT 36)) (Touch.of_below (F := []) hb12 (Nat.le_refl _)) (by simp); have c12 := (fun i => cell_row r12 i); have f12 := (fun i => unfrozen_row r12 i); simp only [zeroT] at c12; have R12d := hid r12; have d12 := HCK.out w12 (HBW3.out.trans (t12.below hwd2 (by simp))); have n12 := World.new_ne w12 _ d12.1; have T12d := hid t12; clear hb12 t12 r12)
                    | (go_at_call 6; refine (HSA.out wd.drew).mono ?_; rintro e w12 ⟨rfl, hb12⟩; have t12 : Touch [] wd w12 := (Touch.refl [] wd).drew.trans (Touch.of_below (F := []) hb12 (Nat.le_refl _)) (by simp); have d12 := HCK.out w12 (HBW3.out.trans (t12.below hwd2 (by simp))); have n12 := World.new_ne w12 _ d12.1; have T12 := hid t12; clear hb12 t12)
                    | (go_at_call 7; refine (HP2.out _ (T12.out.alloc _)).mono ?_; have M7b := hid True.intro; have TT := hid (T12.out.alloc (.cells zeroT 36)); rintro e w13 ⟨T1, x1, y1, m1, l1, D1, hT1, rfl, hat1, hr1, hp1, ht1, hf1⟩; have hb13 : Below w.heap.size w w13 := below_foot (HBW3.out.trans (TT.out.below hwd2 (by simp))) ht1 (fun b hb => HMI.out.c.rep.base b hb) (by have := TT.out.size; omega); have d13 := HCK.out w13 hb13; have n13 := World.new_ne w13 _ d13.1; have r13 := kept_row (heap_alloc_new w12 (.cells zeroT 36)) ht1 (fun hm => by have := HMI.out.c.rep.lt _ hm; have := T12.out.size; omega); have c13 := (fun i => cell_row r13 i); have f13 := (fun i => unfrozen_row r13 i); simp only [zeroT] at c13; have R13 := hid r13; clear r13; have HT1 := hid hT1; have HAT1 := hid hat1; have HR1 := hid hr1; have HPU1 := hid hp1; have HTC1 := hid ht1; have HF1 := hid hf1; clear hT1 hat1 hr1 hp1 ht1 hf1 hb13)
                    | (go_at_call 7; refine (HP2.out _ T12.out).mono ?_; have TT := T12; have M7a := hid True.intro; rintro e w13 ⟨T1, x1, y1, m1, l1, D1, hT1, rfl, hat1, hr1, hp1, ht1, hf1⟩; have hb13 : Below w.heap.size w w13 := below_foot (HBW3.out.trans (TT.out.below hwd2 (by simp))) ht1 (fun b hb => HMI.out.c.rep.base b hb) (by have := TT.out.size; omega); have d13 := HCK.out w13 hb13; have n13 := World.new_ne w13 _ d13.1; have HT1 := hid hT1; have HAT1 := hid hat1; have HR1 := hid hr1; have HPU1 := hid hp1; have HTC1 := hid ht1; have HF1 := hid hf1; clear hT1 hat1 hr1 hp1 ht1 hf1 hb13)
                    | (go_at_call 7; refine (HP2.out _ T12d.out).mono ?_; have TT := T12d; have M7d := hid True.intro; rintro e w13 ⟨T1, x1, y1, m1, l1, D1, hT1, rfl, hat1, hr1, hp1, ht1, hf1⟩; have hb13 : Below w.heap.size w w13 := below_foot (HBW3.out.trans (TT.out.below hwd2 (by simp))) ht1 (fun b hb => HMI.out.c.rep.base b hb) (by have := TT.out.size; omega); have d13 := HCK.out w13 hb13; have n13 := World.new_ne w13 _ d13.1; have r13 := kept_row R12d.out ht1 (fun hm => by have := HMI.out.c.rep.lt _ hm; have := Nat.le_refl wd.heap.size; omega); have c13 := (fun i => cell_row r13 i); have f13 := (fun i => unfrozen_row r13 i); simp only [zeroT] at c13; have R13 := hid r13; clear r13; have HT1 := hid hT1; have HAT1 := hid hat1; have HR1 := hid hr1; have HPU1 := hid hp1; have HTC1 := hid ht1; have HF1 := hid hf1; clear hT1 hat1 hr1 hp1 ht1 hf1 hb13))
                all_goals (go_wp2_with fail; go_meet; first
                  | (have := M7d; exact step2_rel HMI.out HN8.out HBW3.out hwd2 T12d.out HT1.out HAT1.out HR1.out HPU1.out HTC1.out HF1.out (Touch.refl [] w13) R13.out (Nat.le_refl _) (.inl (lt_of_block R12d.out)) HBX.out HDC.out)
                  | (have := M7b; exact step2_rel HMI.out HN8.out HBW3.out hwd2 (T12.out.alloc _) HT1.out HAT1.out HR1.out HPU1.out HTC1.out HF1.out (Touch.refl [] w13) R13.out T12.out.size (.inl (by simp)) HBX.out HDC.out)
                  | (have := M7a; exact step2_new HMI.out HN8.out HBW3.out hwd2 T12.out HT1.out HAT1.out HR1.out HPU1.out HTC1.out HF1.out HBX.out HDC.out))
              case rest =>
                obtain ⟨we, hwe⟩ : ∃ we, we = wc := ⟨_, rfl⟩
                subst hwe
                obtain ⟨D3, hbo4, hx2, hx1, hbw4, hsz4⟩ := hcut
                obtain ⟨T, hT⟩ : ∃ T, T = (stepA lb[k] Da.pub).1 := ⟨_, rfl⟩
                have hfew : T.names.length ≤ 1099511627776 := by
                  have := told_few HBO2.out.d.inv lb[k]
                  rw [← hT] at this
                  omega
                rw [← hT] at hx2 hx1
                obtain ⟨xb, yb, mb, lb2, bb, rfl, hbb, rb, tb⟩ := hx2
                obtain ⟨xa, ya, ma, la2, ba, rfl, hba, ra, ta⟩ := hx1
                have HSAME := hid (sameTold_true ta tb hfew)
                have ca := fun i => cell_row ra i
                have cb := fun i => cell_row rb i
                unfold ToldA.row at HSAME ca cb
                have HBO4 := hid hbo4
                have HBW4 := hid hbw4
                clear hbo4 hbw4 hT hfew ra rb ta tb b0 b1 b2 b3 b4
                go_wp2_with (go_at_call 13; refine HSAME.out.mono ?_; rintro e w20 ⟨rfl, t20⟩; have T20 := hid t20; clear t20)
                go_roundw
                case rel => first | exact ⟨k + 1, D1, D3, by omega, by go_num, HBO4.out.touch T20.out, HBW4.out.trans (T20.out.below HBW4.out.size (by simp))⟩ | ((repeat apply Exists.intro); exact ⟨⟨k + 1, D1, D3, by omega, by go_num, HBO4.out.touch T20.out, HBW4.out.trans (T20.out.below HBW4.out.size (by simp))⟩, rfl⟩)
                case measure => simp [intOf]; omega
        · obtain rfl : k = lb.length := by omega
          have hwr2 := hbw.size
          have HBO2 := hid hbo
          have HBW2 := hid hbw
          have HC1 := hid (fun (W : World) (hW : Touch [] wr W) => Counts_any ((HBO2.out.d.touch hW).rep))
          have HC2 := hid (fun (W : World) (hW : Touch [] wr W) => Counts_any ((HBO2.out.c.touch hW).rep))
          unfold Cnt.val at HC1 HC2
          clear hbo hbw
          go_wp2_with (first
            | (go_at_call 12; refine (HC2.out _ T21.out).mono ?_; rintro e w22 ⟨rfl, hb22⟩; have t22 := T21.out.trans (Touch.of_below (F := []) hb22 (Nat.le_refl _)) (by simp); have T22 := hid t22; clear hb22 t22)
            | (go_at_call 12; refine (HC1.out _ (Touch.refl [] wr)).mono ?_; rintro e w21 ⟨rfl, hb21⟩; have t21 : Touch [] wr w21 := Touch.of_below (F := []) hb21 (Nat.le_refl _); have T21 := hid t21; clear hb21 t21))
          change Calls Tryd.prog 8 #[ptr p] ((w22.alloc (.cells Da.c.row 34)).alloc (.cells Dc.c.row 34)) _
          obtain ⟨X, hX⟩ : ∃ X, X = (w22.alloc (.cells Da.c.row 34)).alloc (.cells Dc.c.row 34) := ⟨_, rfl⟩
          have rX : X.heap[w22.heap.size]? = some (.cells Da.c.row 34 (0, 0)) ∧ X.heap[w22.heap.size + 1]? = some (.cells Dc.c.row 34 (0, 0)) := by rw [hX]; exact heap_two w22 _ _
          have tX : Touch [] wr X := by rw [hX]; exact (T22.out.alloc _).alloc _
          rw [← hX]
          have HRX := hid rX
          have HTX := hid tX
          have HS1 := hid (fun (W : World) (hW : Touch [] wr W) => State_any ((HBO2.out.d.touch hW).rep) (HBO2.out.d.inv.small (by omega)))
          have HS2 := hid (fun (W : World) (hW : Touch [] wr W) => State_any ((HBO2.out.c.touch hW).rep) (HBO2.out.c.inv.small (by omega)))
          have hB1' := HBO2.out.d.B
          have hB2' := HBO2.out.c.B
          rw [hB1'] at HS1
          rw [hB2'] at HS2
          obtain ⟨⟨e1, e2, e3, e4⟩, wr1, wr2, wr3⟩ := HBO2.out.nums (by omega)
          have x1 : wrap64 Dc.c.calls = Dc.c.calls := by rw [e1] at wr1; exact wr1
          have x2 : wrap64 Dc.c.reads = Dc.c.reads := by rw [e2] at wr2; exact wr2
          have x3 : wrap64 Dc.c.appends = Dc.c.appends := by rw [e3] at wr3; exact wr3
          clear hX rX tX hB1' hB2' HC1 HC2 wr1 wr2 wr3
          refine (HS1.out X HTX.out).mono ?_
          rintro e w23 ⟨fv1, l1, rfl, hs1, hp1, hb23⟩
          have HST1 := hid hs1
          have HPU1 := hid hp1
          have HB23 := hid hb23
          clear hs1 hp1 hb23
          go_wp2_with (first
            | (go_at_call 11; refine ((HBO2.out.same (by omega) HST1b.out HPU1.out HST2.out HPU2.out)).mono ?_; rintro e w25 ⟨rfl, hb25⟩; have t25 : Touch [] X w25 := HT24.out.trans (Touch.of_below (F := []) hb25 (Nat.le_refl _)) (by simp); have ca := (fun i => cell_row (kept_row HRX.out.1 t25 (by simp)) i); have cb := (fun i => cell_row (kept_row HRX.out.2 t25 (by simp)) i); have cw := (fun i => cell_row (kept_row (kept_row HBO2.out.box HTX.out (by simp)) t25 (by simp)) i); unfold Cnt.row at ca cb cw; have HT25 := hid t25; clear hb25 t25)
            | (go_at_call 8; refine (HS2.out w23 (HTX.out.trans (Touch.of_below (F := []) HB23.out (Nat.le_refl _)) (by simp))).mono ?_; rintro e w24 ⟨fv2, l2, rfl, hs2, hp2, hb24⟩; have t24 : Touch [] X w24 := (Touch.of_below (F := []) HB23.out (Nat.le_refl _)).trans (Touch.of_below (F := []) hb24 (Nat.le_refl _)) (by simp); have st1b := HST1.out.kept (w' := w24) (fun b _ hb => hb24.block b hb); have HST1b := hid st1b; have HST2 := hid hs2; have HPU2 := hid hp2; have HT24 := hid t24; clear hs2 hp2 hb24 t24 st1b))
          go_ret
          exact ⟨rfl, HBW2.out.trans ((HTX.out.trans HT25.out (by simp)).below hwr2 (by simp))⟩
end
end Go.Proofs.YtcpncfngadablaaDoor
