import Derived.Test.YthehcjjckabljaaGreatDoorB28
namespace Go.Proofs.YthehcjjckabljaaGreatDoor
open Go.RowKit Go.Deep
set_option maxRecDepth 100000
set_option linter.unusedSimpArgs false
set_option linter.unusedVariables false
section
variable {w : World}
set_option maxHeartbeats 16000000 in
theorem budget_any {E : Nat → Addr} {lo : Nat} {ta : Option Addr} {tc mm : Nat} {l : List ThI} {n : Int} (C : Came w E lo ta l) (hn : -9223372036854775808 ≤ n ∧ n < 9223372036854775808) (hm : l.length = min mm 1000) (hmc : mm ≤ tc) (hta : ta = none → mm = 0 ∧ tc = 0)
  {t : Tbl} {so sr : Option Addr} {co cr gen : Nat} (ht : TblAt w t so sr) (hg : gen < 18446744073709551616) {less : Int} (hls : -9223372036854775808 ≤ less ∧ less < 9223372036854775808) :
  Calls Tryz.prog 6 #[.agg #[.int .i64 n, .slice ta mm tc], tblV t so sr co cr, .int .u64 (gen : Int), .int .i64 less] w fun e w' => e = .returned (.bool true) ∧ Tc [] w w' := by
 have hfew := C.few
 have HC := hid C
 have HTR := hid (fun x hx => (ht.ri x hx).2)
 have HTT := hid (fun W (tt : Tc [] w W) => ht.touch tt (by simp) (by simp))
 have HA := hid (fun W (tt : Tc [] w W) => alive_any (C.env.touch tt (by simp)) (C.tabs.quiet tt) C.low)
 have HST := hid (fun W (tt : Tc [] w W) => stateC (n := n) (C.touch tt) hn hm hmc hta)
 have HCN := hid (fun W (tt : Tc [] w W) => commit_nil (co := co) (cr := cr) (ht.touch tt (by simp) (by simp)) hg (C.tabs.quiet tt))
 obtain ⟨m, hmf⟩ := FilesIs.some t.rows
 have HMF := hid hmf
 obtain ⟨W1, hW1⟩ : ∃ W1, W1 = ((w.alloc (.cells #[.int .i64 n, .slice ta mm tc] 57)).alloc (.cells #[.int .i64 t.vars, .slice so t.order.length co, .slice sr t.rows.length cr, .int .i64 t.next, .int .u64 (t.nf : Int)] 26)) := ⟨_, rfl⟩
 have H1 : Hid (Tc [] w W1 ∧ W1.heap[w.heap.size]? = some (.cells #[.int .i64 n, .slice ta mm tc] 57 (0, 0)) ∧ W1.heap[w.heap.size + 1]? = some (.cells #[.int .i64 t.vars, .slice so t.order.length co, .slice sr t.rows.length cr, .int .i64 t.next, .int .u64 (t.nf : Int)] 26 (0, 0))) := hid (by
  rw [hW1]
  exact ⟨((Tc.refl [] w).alloc _).alloc _, heap_two w _ _⟩)
 have HBX := hid (fun W (tt : Tc [] W1 W) => (And.intro (fun i => cRw ((tt.block _ (ltB H1.out.2.1) (by simp)).trans H1.out.2.1) i) (fun i => cRw ((tt.block _ (ltB H1.out.2.2) (by simp)).trans H1.out.2.2) i)))
 have HW1 := hid hW1
 clear hW1 C ht hmf hn hm hmc hta
 simp only [tblV] at *
 go_enter Tryz.func6, Tryz.ntmps6
 go_upto_region 1 with fail
 rw [← HW1.out]
 generalize hbx : w.heap.size = bx at *
 have HBN := hid hbx
 clear hbx HW1
 go_upto_region 4 with (go_at_call 9; refine (HA.out W1 H1.out.1).mono ?_; rintro e w2 ⟨rfl, ht2⟩; have HT2 := hid ht2; clear ht2)
 obtain ⟨c57, c26⟩ := HBX.out w2 HT2.out
 go_upto_region 5 with (go_at_call 24; refine (HST.out w2 (H1.out.1.trans HT2.out (by simp))).mono ?_; rintro e w3 ⟨B, fa, fc, D, sl, rfl, hst, ht3⟩; have HS3 := hid hst; have HT3 := hid (HT2.out.trans ht3 (by simp)); clear hst ht3)
 clear c57 c26
 obtain ⟨W4, hW4⟩ : ∃ W4, W4 = w3.alloc (.cells #[.int .i64 (B : Int), .slice fa sl.length fc] 42) := ⟨_, rfl⟩
 have t4 : Tc [] w3 W4 := by rw [hW4]; exact (Tc.refl [] w3).alloc _
 have r4 : W4.heap[w3.heap.size]? = some (.cells #[.int .i64 (B : Int), .slice fa sl.length fc] 42 (0, 0)) := by rw [hW4]; exact heap_alloc_new w3 _
 rw [← hW4]
 clear hW4
 obtain ⟨sb, hsb⟩ : ∃ sb, sb = w3.heap.size := ⟨_, rfl⟩
 rw [← hsb] at r4 ⊢
 have HT4 := hid (HT3.out.trans t4 (by simp))
 have HS4 := hid (fun W (tt : Tc [] W4 W) => And.intro (fun i => cRw ((tt.block _ (ltB r4) (by simp)).trans r4) i) ((HS3.out.touch t4).touch tt))
 clear t4 r4 hsb HS3 HT3 HST HA
 go_upto_region 6 with (go_at_call 20; refine (read_nil (w := W4)).mono ?_; rintro e w5 ⟨rfl, ht5⟩; have HT5 := hid ht5; clear ht5)
 obtain ⟨W5, hW5⟩ : ∃ W5, W5 = w5.alloc (.cells zer5 26) := ⟨_, rfl⟩
 have HT5a := hid (show Tc [] W4 W5 by rw [hW5]; exact HT5.out.alloc _)
 rw [← hW5]
 clear hW5
 go_upto_region 7 with (go_at_call 27; refine (recover_nil (w := W5)).mono ?_; rintro e w6 ⟨rfl, ht6⟩; have HT6 := hid (HT5a.out.trans ht6 (by simp)); clear ht6)
 obtain ⟨W6, hW6⟩ : ∃ W6, W6 = w6.alloc (.cells zer5 26) := ⟨_, rfl⟩
 have HT6a := hid (show Tc [] W4 W6 by rw [hW6]; exact HT6.out.alloc _)
 rw [← hW6]
 clear hW6
 obtain ⟨c57, c26⟩ := HBX.out W6 (HT4.out.trans HT6a.out (by simp))
 clear c57
 go_upto_region 8 with (go_at_call 19; refine (HCN.out W6 ((H1.out.1.trans HT4.out (by simp)).trans HT6a.out (by simp))).mono ?_; rintro e w7 ⟨rfl, ht7⟩; have HT7 := hid (HT6a.out.trans ht7 (by simp)); clear ht7)
 clear c26 HT5 HT5a HT6 HT6a HCN
 obtain ⟨c4, hs7⟩ := HS4.out w7 HT7.out
 have HS7 := hid hs7
 clear hs7
 have HEV := hid (fun W (tt : Tc [] W4 W) => HC.out.touch ((H1.out.1.trans HT4.out (by simp)).trans tt (by simp)))
 go_upto_region 11 with (first
  |(go_at_call 14; have HO := openC (tc := 0) (tl := []) (HEV.out w8 HT8.out).env HS8.out (trsAt_nil w8) (by simp) 0 (by omega); simp only [List.length_nil] at HO; refine HO.mono ?_; rintro e w9 ⟨b, kb, lb, F, A, rfl, hlo9, hE9, hl9, hbed⟩; have HBD := hid hbed; have HBL := hid (And.intro hlo9 hl9); clear hbed hlo9 hE9 hl9)
  |(go_at_call 25; refine (copyC HS7.out).mono ?_; rintro e w8 ⟨ga, gc, D8, l8, rfl, hst8, hp8, ht8⟩; have HS8 := hid hst8; have HP8 := hid hp8; have HT8 := hid (HT7.out.trans ht8 (by simp)); clear hst8 hp8 ht8))
 clear c4
 obtain ⟨W9, hW9⟩ : ∃ W9, W9 = w9.alloc (.cells #[ptr b.p, ptr b.q, ptr kb] 36) := ⟨_, rfl⟩
 have t9 : Tc [] w9 W9 := by rw [hW9]; exact (Tc.refl [] w9).alloc _
 have r9 : W9.heap[w9.heap.size]? = some (.cells #[ptr b.p, ptr b.q, ptr kb] 36 (0, 0)) := by rw [hW9]; exact heap_alloc_new w9 _
 rw [← hW9]
 clear hW9
 obtain ⟨rb, hrb⟩ : ∃ rb, rb = w9.heap.size := ⟨_, rfl⟩
 rw [← hrb] at r9 ⊢
 have hbd := HBD.out
 obtain ⟨K, hKd⟩ : ∃ K, K = B / 32 - 1 := ⟨_, rfl⟩
 rw [← hKd] at hbd
 have hrF : rb ∉ F := fun h => by have := hbd.S.lt _ h; omega
 have hK2 := hbd.hK
 have HK : Hid (∀ W, Tc F W9 W → DkA W kb b (K : Int) 1 ∧ W.heap[rb]? = some (.cells #[ptr b.p, ptr b.q, ptr kb] 36 (0, 0)) ∧ Tc [] W4 W) := hid (fun W tt =>
  ⟨(hbd.dk.touch t9 (by simp)).touch tt hbd.kF, (tt.block _ (ltB r9) hrF).trans r9, ((HT8.out.trans hbd.touch (by simp)).trans t9 (by simp)).trans tt (fun y hy => .inr (Nat.le_trans HT8.out.size (hbd.new y hy)))⟩)
 have HI9 := hid (Here.start (hbd.S.quiet t9))
 have HKK := hid (And.intro hbd.kF (show kb < W9.heap.size from Nat.lt_of_lt_of_le (ltB hbd.dk) t9.size))
 have HA := hid (And.intro hbd.on (And.intro hbd.files hbd.blk))
 have HCC := hid hbd.calls
 have HRB := hid (And.intro hrF (And.intro (ltB r9) (And.intro (show lo ≤ rb by have h1 := (HEV.out w8 HT8.out).env.room; have h2 := hbd.touch.size; omega) (show W4.heap.size ≤ rb by have h1 := HT8.out.size; have h2 := hbd.touch.size; omega))))
 have HKD := hid hKd
 clear hbd hKd t9 r9 hrF hrb HBD
 go_upto_if 59 with fail
 go_cut [3] (fun v wx => (∃ lv : Nat, v = .int .i64 (lv : Int) ∧ lv < 9223372036854775808) ∧ wx = W9)
 case first =>
  by_cases h0 : less < 0
  ·have hw0 : IntKind.i64.wrap (less + 1) = less + 1 := by rw [IntKind.wrap_i64]; omega
   have hw3 : IntKind.i64.wrap (-(less + 1)) = -(less + 1) := by rw [IntKind.wrap_i64]; omega
   go_wp2_with fail
   go_meet
   exact ⟨⟨(-(less + 1)).toNat, by rw [Int.toNat_of_nonneg (by omega)], by omega⟩, rfl⟩
  ·go_wp2_with fail
   go_meet
   exact ⟨⟨less.toNat, by rw [Int.toNat_of_nonneg (by omega)], by omega⟩, rfl⟩
 case rest =>
 obtain ⟨⟨lv, rfl, hlv⟩, hwc⟩ := hcut
 rw [hwc]
 clear hwc
 have hwa : IntKind.i64.wrap (64 * (K : Int)) = 64 * (K : Int) := by rw [IntKind.wrap_i64]; omega
 have hmo : (lv : Int).tmod (64 * (K : Int)) = ((lv % (64 * K) : Nat) : Int) := by rw [Int.tmod_eq_emod_of_nonneg (by omega), Int.natCast_emod, Int.natCast_mul]; rfl
 have hr : lv % (64 * K) < 64 * K := Nat.mod_lt _ (by omega)
 generalize lv % (64 * K) = r at hmo hr
 have hnz : ¬ 64 * (K : Int) = 0 := by omega
 have hwb : IntKind.i64.wrap (1 + (r : Int)) = 1 + (r : Int) := by rw [IntKind.wrap_i64]; omega
 obtain ⟨tk1, tk2, tk3⟩ := take_new (lim := ((64 * K + 0 : Nat) : Int)) (lb := lb) (k := 1 + (r : Int)) (by omega) (by omega)
 have HTK := take_s HI9.out.S (1 + (r : Int))
 rw [tk1] at HTK
 have HTK := hid HTK
 obtain ⟨s1, hs1⟩ : ∃ s1, s1 = (Pu.St.new ((64 * K + 0 : Nat) : Int) lb).take (1 + (r : Int)) := ⟨_, rfl⟩
 rw [← hs1] at tk2 tk3 HTK
 have HFR := hid (show s1.free < 64 * (K : Int) by omega)
 have HUS := hid tk3
 have q9 := fun i => cRw (HK.out _ HI9.out.t).2.1 i
 have HDK := hid (HK.out _ HI9.out.t).1
 clear tk1 tk2 tk3 hs1 hr
 go_upto_region 17 with (first
  |(go_at_call 30; refine HTK.out.mono ?_; rintro e w10 ⟨rfl, hw10⟩; have HW10 := hid hw10; clear hw10)
  |(go_at_call 29; refine (K_any HDK.out).mono ?_; rintro e w1 ⟨rfl, hh⟩; have hh := hh.symm; subst hh))
 obtain ⟨F10, I10, _, _⟩ := HI9.out.went HW10.out
 have HI10 := hid I10
 clear q9 I10
 have q9 := fun i => cRw (HK.out _ HI10.out.t).2.1 i
 have HRD := hid (fun W F' (I : Here W9 W b 2097153000 A s1 F F') => read_no I.S (by omega) (HK.out W I.t).1 (I.old HKK.out.1 HKK.out.2) (by omega) (whole_few HA.out.1 HFR.out) (by decide))
 have HRC := hid (fun W F' (I : Here W9 W b 2097153000 A s1 F F') => recover_no I.S (by omega) (HK.out W I.t).1 (I.old HKK.out.1 HKK.out.2) (by omega) (whole_few HA.out.1 HFR.out) (by decide))
 obtain ⟨cE, hcE⟩ : ∃ cE, cE = if mayE A.files t gen m = 0 then 2 else mayE A.files t gen m := ⟨_, rfl⟩
 have hcE0 : cE ≠ 0 := by
  rw [hcE]
  split
  ·decide
  ·assumption
 have HCM := hid (fun W F' (I : Here W9 W b 2097153000 A s1 F F') => commit_no (so := so) (sr := sr) (co := co) (cr := cr) I.S (by omega) (HK.out W I.t).1 (I.old HKK.out.1 HKK.out.2) (by omega) (HEV.out W (HK.out W I.t).2.2).tabs (HTT.out W (((H1.out.1.trans HT4.out (by simp)).trans (HK.out W I.t).2.2 (by simp)))) hg (by rw [commit_few HA.out.1 HFR.out HMF.out HTR.out]; exact hcE.symm) hcE0)
 have HCE := hid hcE
 clear hcE HTK
 go_upto_region 20 with (go_at_call 20; refine (HRD.out _ _ HI10.out).mono ?_; rintro e w11 ⟨rfl, hw11⟩; have HW11 := hid hw11; clear hw11)
 obtain ⟨F11, I11, _, _⟩ := HI10.out.went HW11.out
 have HI11 := hid I11
 clear q9 I11
 have q9 := fun i => cRw (HK.out _ HI11.out.t).2.1 i
 go_upto_region 21 with (go_at_call 27; refine (HRC.out _ _ HI11.out).mono ?_; rintro e w12 ⟨rfl, hw12⟩; have HW12 := hid hw12; clear hw12)
 obtain ⟨F12, I12, _, _⟩ := HI11.out.went HW12.out
 have HI12 := hid I12
 clear q9 I12
 have q9 := fun i => cRw (HK.out _ HI12.out.t).2.1 i
 obtain ⟨c57, c26⟩ := HBX.out w12 (HT4.out.trans (HK.out _ HI12.out.t).2.2 (by simp))
 clear c57
 go_upto_region 22 with (go_at_call 19; refine (HCM.out _ _ HI12.out).mono ?_; rintro e w13 ⟨rfl, hw13⟩; have HW13 := hid hw13; clear hw13)
 clear c26
 obtain ⟨F13, I13, _, _⟩ := HI12.out.went HW13.out
 have HI13 := hid I13
 clear q9 I13
 have q9 := fun i => cRw (HK.out _ HI13.out.t).2.1 i
 obtain ⟨c57, c26⟩ := HBX.out w13 (HT4.out.trans (HK.out _ HI13.out.t).2.2 (by simp))
 clear c57
 obtain ⟨c4, hs13⟩ := HS4.out w13 (HK.out _ HI13.out.t).2.2
 have HS13 := hid hs13
 clear hs13
 go_upto_region 23 with (go_at_call 26; refine (rmay_any (so := so) (sr := sr) (co := co) (cr := cr) (m := m) (b := (B : Int)) HS13.out.st (by have := HS13.out.blks.1; omega) (fun e he => by have := HS13.out.names e he; omega) (HTT.out _ ((H1.out.1.trans HT4.out (by simp)).trans (HK.out _ HI13.out.t).2.2 (by simp))) hg HMF.out).mono ?_; rintro e w14 ⟨rfl, ht14⟩; have HT14 := hid ht14; clear ht14)
 clear c26 c4
 have HI14 := hid (HI13.out.quiet HT14.out)
 have HMA := hid (show A.files = sl.map SFl.pub from HA.out.2.1.trans HP8.out)
 have hcE := HCE.out
 rw [HMA.out] at hcE
 generalize mayE (sl.map SFl.pub) t gen m = mE at *
 clear q9
 go_upto_if 100 with fail
 go_cut [21] (fun v wx => v = .int .i64 cE ∧ wx = w14)
 case first =>
  by_cases hm0 : mE = 0
  ·rw [if_pos hm0] at hcE
   have hmb : (mE == 0) = true := by simpa using hm0
   go_wp2_with fail
   go_meet
   exact ⟨by rw [hcE], rfl⟩
  ·rw [if_neg hm0] at hcE
   have hmb : (mE == 0) = false := by simpa using hm0
   go_wp2_with fail
   go_meet
   exact ⟨by rw [hcE], rfl⟩
 case rest =>
 obtain ⟨rfl, hwc⟩ := hcut
 rw [hwc]
 clear hwc hcE
 have HUS2 := hid (fun W F' (I : Here W9 W b 2097153000 A s1 F F') => (by have h := used_s I.S; rw [HUS.out] at h; exact h : Calls Tryz.prog 23 #[ptr b.q] W fun e w' => e = .returned (.int .i64 (1 + (r : Int))) ∧ Went W w' b 2097153000 A s1 F' []))
 have HSTT := hid (fun W F' (I : Here W9 W b 2097153000 A s1 F F') => (by have h := state_s I.S (by omega); rw [HA.out.2.2] at h; exact h : Calls Tryz.prog 32 #[ptr b.p] W fun e w' => ∃ fv l, e = .returned (.agg #[.int .i64 (B : Int), fv]) ∧ StIn w' fv l ∧ l.map SFl.pub = A.files ∧ Tc [] W w'))
 have HSAM := hid (fun W (tt : Tc [] W4 W) fv' l' (hst : StIn W fv' l') (hp : l'.map SFl.pub = A.files) => SameState_in (x := (B : Int)) hst (HS4.out W tt).2.st.in_ (by rw [hp, HMA.out]) (by have h1 := congrArg List.length hp; rw [HMA.out, List.length_map, List.length_map] at h1; have := (HS4.out W tt).2.blks.1; omega) (fun e he => by have h1 : e.pub ∈ sl.map SFl.pub := (by rw [← HMA.out, ← hp]; exact List.mem_map.2 ⟨e, he, rfl⟩); have h2 := ((HS4.out W tt).2.good.size _ h1).1; exact Nat.le_trans h2 (by decide)))
 have HZ := hid (fun W (tt : Tc F W9 W) => (⟨cRw (HK.out W tt).2.1 0, cRw (HK.out W tt).2.1 1, (HS4.out W (HK.out W tt).2.2).1 0, (HS4.out W (HK.out W tt).2.2).1 1⟩ : W.cell? ⟨rb, 0, none⟩ = some (ptr b.p) ∧ W.cell? ⟨rb, 1, none⟩ = some (ptr b.q) ∧ W.cell? ⟨sb, 0, none⟩ = some (.int .i64 (B : Int)) ∧ W.cell? ⟨sb, 1, none⟩ = some (.slice fa sl.length fc)))
 obtain ⟨z0, z1, z2, z3⟩ := HZ.out w14 HI14.out.t
 go_wp2_with fail
 go_region_held3 (fun W => W.cell? ⟨rb, 0, none⟩ = some (ptr b.p) ∧ W.cell? ⟨rb, 1, none⟩ = some (ptr b.q) ∧ W.cell? ⟨sb, 0, none⟩ = some (.int .i64 (B : Int)) ∧ W.cell? ⟨sb, 1, none⟩ = some (.slice fa sl.length fc)) (go_keep)
  (first
   |(go_at_call 31; refine (HSAM.out _ HT16.out _ _ HX16.out.1 HX16.out.2).mono ?_; rintro e w17 ⟨rfl, hb17⟩; have ht17 : Tc [] w16 w17 := Tc.of_below (F := []) hb17 (Nat.le_refl _); have HI17 := hid (HI16.out.quiet ht17); have zz := HZ.out w17 HI17.out.t; clear hb17 ht17)
   |(go_at_call 32; refine (HSTT.out _ _ HI15.out).mono ?_; rintro e w16 ⟨fv', l', rfl, hst, hp, ht16⟩; have HI16 := hid (HI15.out.quiet ht16); have HX16 := hid (And.intro hst hp); have HT16 := hid (HK.out _ HI16.out.t).2.2; have zz := HZ.out w16 HI16.out.t; clear hst hp ht16)
   |(go_at_call 23; refine (HUS2.out _ _ (HI14.out.quiet (Tc.refl [] _).drew)).mono ?_; rintro e w15 ⟨rfl, hw15⟩; obtain ⟨F15, I15, _, _⟩ := (HI14.out.quiet (Tc.refl [] _).drew).went hw15; have HI15 := hid I15; have zz := HZ.out w15 HI15.out.t; clear hw15 I15))
 clear z0 z1 z2 z3
 have HTW17 := hid (HK.out _ HI17.out.t).2.2
 obtain ⟨c4, hs17⟩ := HS4.out w17 HTW17.out
 have HS17 := hid hs17
 clear hs17 HRD HRC HCM HUS2 HSTT HSAM HI9 HI10 HI11 HI12 HI13 HI14 HI15 HI16 HX16 HT16 zz HDK
 have hlf : (Lit.int .i64 0).wf = true := by decide
 obtain ⟨rb9, hrb9⟩ : ∃ rb9, rb9 = rb := ⟨_, rfl⟩
 go_upto_region 28 with (first
  |(go_at_call 14; obtain ⟨X18, hX18⟩ : ∃ X18, X18 = w18.alloc (.cells #[.int .i64 0, .int .i64 2, .int .i64 0] 67) := ⟨_, rfl⟩; have rX := (heap_alloc_new w18 (.cells #[.int .i64 0, .int .i64 2, .int .i64 0] 67)); have tX : Tc [] w18 X18 := (by rw [hX18]; exact (Tc.refl [] w18).alloc _); rw [← hX18] at rX ⊢; have HT18X := hid (HT18.out.trans tX (by simp)); have HO2 := openC (tc := 1) (HEV.out X18 HT18X.out).env (HS18.out.touch tX) (trsAt_one rX hlf) (by simp) 0 (by omega); simp only [List.length_cons, List.length_nil, Nat.zero_add] at HO2; have HTX := hid tX; clear rX tX hX18; refine HO2.mono ?_; rintro e w19 ⟨b2, kb2, lb2, F2, A2, rfl, hlo19, hE19, hl19, hbed2⟩; have HBD2 := hid hbed2; have HBL2 := hid (And.intro hlo19 hl19); have r17 := (HK.out _ HI17.out.t).2.1; have r18 := (HTW18.out.block _ (ltB r17) (by simp)).trans r17; have rX := (HTX.out.block _ (ltB r18) (by simp)).trans r18; have r19 := (hbed2.touch.block _ (ltB rX) (by simp)).trans rX; have HRX := hid (ltB rX); have HR19 := hid r19; have q9 := (fun i => cRw r19 i); have u9 := (fun i => uRw r19 i); clear hbed2 hlo19 hE19 hl19 r17 r18 rX r19)
  |(go_at_call 25; refine (copyC HS17.out).mono ?_; rintro e w18 ⟨ga2, gc2, D18, l18, rfl, hst18, hp18, ht18⟩; have HS18 := hid hst18; have HP18 := hid hp18; have HTW18 := hid ht18; have HT18 := hid (HTW17.out.trans ht18 (by simp)); clear hst18 hp18 ht18))
 clear c4 u9 q9
 obtain ⟨W20, e20, r20, t20⟩ := box3 HR19.out (ptr b2.p) (ptr b2.q) (ptr kb2)
 rw [← e20]
 clear e20 HR19
 have hbd := HBD2.out
 rw [← HKD.out] at hbd
 have hrx := HRX.out
 have hrF2 : rb ∉ F2 := fun h => by have := hbd.new _ h; omega
 have hkr : kb2 ≠ rb := fun h => by have := hbd.kn; omega
 have HK2 : Hid (∀ W, Tc F2 W20 W → DkA W kb2 b2 (K : Int) 1 ∧ W.heap[rb]? = some (.cells #[ptr b2.p, ptr b2.q, ptr kb2] 36 (0, 0)) ∧ Tc [] W4 W) := hid (fun W tt =>
  ⟨(hbd.dk.touch t20 (by simpa using hkr)).touch tt hbd.kF, (tt.block _ (ltB r20) hrF2).trans r20, (((HTW17.out.trans HTW18.out (by simp)).trans HTX.out (by simp)).trans hbd.touch (by simp)).trans t20 (fun y hy => by
   rw [List.mem_singleton] at hy
   subst hy
   exact .inr HRB.out.2.2.2) |>.trans tt (fun y hy => .inr (by have h1 := hbd.new y hy; have h2 := HT18X.out.size; omega))⟩)
 have hblo : b2.lo ≤ rb := by rw [HBL2.out.1]; exact HRB.out.2.2.1
 have HI20 := hid (Here.start (hbd.S.touch t20 (fun y hy => by
  rw [List.mem_singleton] at hy
  subst hy
  exact ⟨hrF2, hblo⟩)))
 have HKK2 := hid (And.intro hbd.kF (show kb2 < W20.heap.size from Nat.lt_of_lt_of_le (ltB hbd.dk) t20.size))
 have HF2 := hid (And.intro hbd.on (And.intro hbd.files hbd.blk))
 have hcl := hbd.calls
 have htr : b2.tr A2 = ⟨0, 2, 0⟩ := by
  unfold Bn.tr
  rw [HBL2.out.2, hcl]
  rfl
 have hnx : findA A2.files [120] = none := find_none_of (fun x hx => by
  rw [hbd.files] at hx
  obtain ⟨y, _, rfl⟩ := HS18.out.of_ x hx
  exact thName_x y)
 have HCR := create_s HI20.out.S (by omega) ⟨#[120]⟩
 rw [htr, create_cut hbd.on hnx] at HCR
 have HCR := hid HCR
 have HMA2 := hid (show A2.shut.files = sl.map SFl.pub from hbd.files.trans HP18.out)
 clear hbd hrx hrF2 hkr hblo hcl htr hnx HBD2 r20 t20
 have q9 := fun i => cRw (HK2.out _ HI20.out.t).2.1 i
 go_upto_region 31 with (go_at_call 17; refine HCR.out.mono ?_; rintro e w21 ⟨rfl, hw21⟩; have HW21 := hid hw21; clear hw21)
 obtain ⟨F21, I21, _, _⟩ := HI20.out.went HW21.out
 have HI21 := hid I21
 clear q9 I21
 have q9 := fun i => cRw (HK2.out _ HI21.out.t).2.1 i
 obtain ⟨s2, hs2⟩ : ∃ s2, s2 = Pu.St.new ((64 * K + 0 : Nat) : Int) lb2 := ⟨_, rfl⟩
 rw [← hs2] at HI21
 have HUS2 := hid (show s2.hand + s2.lent = 0 by rw [hs2]; rfl)
 clear hs2 HCR
 have HRD := hid (fun W F' (I : Here W20 W b2 (2097153000 + 1) A2.shut s2 F2 F') => read_no I.S (by omega) (HK2.out W I.t).1 (I.old HKK2.out.1 HKK2.out.2) (by omega) (whole_off (shut_off A2).1) (by decide))
 have HRC := hid (fun W F' (I : Here W20 W b2 (2097153000 + 1) A2.shut s2 F2 F') => recover_no I.S (by omega) (HK2.out W I.t).1 (I.old HKK2.out.1 HKK2.out.2) (by omega) (whole_off (shut_off A2).1) (by decide))
 have HCM := hid (fun W F' (I : Here W20 W b2 (2097153000 + 1) A2.shut s2 F2 F') => commit_no (so := so) (sr := sr) (co := co) (cr := cr) (t := t) (gen := gen) (c := 10) I.S (by omega) (HK2.out W I.t).1 (I.old HKK2.out.1 HKK2.out.2) (by omega) (HEV.out W (HK2.out W I.t).2.2).tabs (HTT.out W (((H1.out.1.trans HT4.out (by simp)).trans (HK2.out W I.t).2.2 (by simp)))) hg (by unfold commitE; exact whole_off (shut_off A2).1) (by decide))
 go_upto_region 32 with (go_at_call 20; refine (HRD.out _ _ HI21.out).mono ?_; rintro e w22 ⟨rfl, hw22⟩; have HW22 := hid hw22; clear hw22)
 obtain ⟨F22, I22, _, _⟩ := HI21.out.went HW22.out
 have HI22 := hid I22
 clear q9 I22
 have q9 := fun i => cRw (HK2.out _ HI22.out.t).2.1 i
 go_upto_region 33 with (go_at_call 27; refine (HRC.out _ _ HI22.out).mono ?_; rintro e w23 ⟨rfl, hw23⟩; have HW23 := hid hw23; clear hw23)
 obtain ⟨F23, I23, _, _⟩ := HI22.out.went HW23.out
 have HI23 := hid I23
 clear q9 I23
 have q9 := fun i => cRw (HK2.out _ HI23.out.t).2.1 i
 obtain ⟨c57, c26⟩ := HBX.out w23 (HT4.out.trans (HK2.out _ HI23.out.t).2.2 (by simp))
 clear c57
 go_upto_region 34 with (go_at_call 19; refine (HCM.out _ _ HI23.out).mono ?_; rintro e w24 ⟨rfl, hw24⟩; have HW24 := hid hw24; clear hw24)
 clear c26
 obtain ⟨F24, I24, _, _⟩ := HI23.out.went HW24.out
 have HI24 := hid I24
 clear q9 I24
 have q9 := fun i => cRw (HK2.out _ HI24.out.t).2.1 i
 have HUS3 := hid (fun W F' (I : Here W20 W b2 (2097153000 + 1) A2.shut s2 F2 F') => (by have h := used_s I.S; rw [HUS2.out] at h; exact h : Calls Tryz.prog 23 #[ptr b2.q] W fun e w' => e = .returned (.int .i64 0) ∧ Went W w' b2 (2097153000 + 1) A2.shut s2 F' []))
 have HSTT := hid (fun W F' (I : Here W20 W b2 (2097153000 + 1) A2.shut s2 F2 F') => (by have h := state_s I.S (by omega); rw [show A2.shut.B = B from HF2.out.2.2] at h; exact h : Calls Tryz.prog 32 #[ptr b2.p] W fun e w' => ∃ fv l, e = .returned (.agg #[.int .i64 (B : Int), fv]) ∧ StIn w' fv l ∧ l.map SFl.pub = A2.shut.files ∧ Tc [] W w'))
 have HSAM := hid (fun W (tt : Tc [] W4 W) fv' l' (hst : StIn W fv' l') (hp : l'.map SFl.pub = A2.shut.files) => SameState_in (x := (B : Int)) hst (HS4.out W tt).2.st.in_ (by rw [hp, HMA2.out]) (by have h1 := congrArg List.length hp; rw [HMA2.out, List.length_map, List.length_map] at h1; have := (HS4.out W tt).2.blks.1; omega) (fun e he => by have h1 : e.pub ∈ sl.map SFl.pub := (by rw [← HMA2.out, ← hp]; exact List.mem_map.2 ⟨e, he, rfl⟩); have h2 := ((HS4.out W tt).2.good.size _ h1).1; exact Nat.le_trans h2 (by decide)))
 have HZ2 := hid (fun W (tt : Tc F2 W20 W) => (⟨cRw (HK2.out W tt).2.1 0, cRw (HK2.out W tt).2.1 1, (HS4.out W (HK2.out W tt).2.2).1 0, (HS4.out W (HK2.out W tt).2.2).1 1⟩ : W.cell? ⟨rb, 0, none⟩ = some (ptr b2.p) ∧ W.cell? ⟨rb, 1, none⟩ = some (ptr b2.q) ∧ W.cell? ⟨sb, 0, none⟩ = some (.int .i64 (B : Int)) ∧ W.cell? ⟨sb, 1, none⟩ = some (.slice fa sl.length fc)))
 clear q9
 obtain ⟨z0, z1, z2, z3⟩ := HZ2.out w24 HI24.out.t
 go_wp2_with fail
 go_region_held3 (fun W => W.cell? ⟨rb, 0, none⟩ = some (ptr b2.p) ∧ W.cell? ⟨rb, 1, none⟩ = some (ptr b2.q) ∧ W.cell? ⟨sb, 0, none⟩ = some (.int .i64 (B : Int)) ∧ W.cell? ⟨sb, 1, none⟩ = some (.slice fa sl.length fc)) (go_keep)
  (first
   |(go_at_call 31; refine (HSAM.out _ HT26.out _ _ HX26.out.1 HX26.out.2).mono ?_; rintro e w27 ⟨rfl, hb27⟩; have ht27 : Tc [] w26 w27 := Tc.of_below (F := []) hb27 (Nat.le_refl _); have HI27 := hid (HI26.out.quiet ht27); have zz := HZ2.out w27 HI27.out.t; clear hb27 ht27)
   |(go_at_call 32; refine (HSTT.out _ _ HI25.out).mono ?_; rintro e w26 ⟨fv', l', rfl, hst, hp, ht26⟩; have HI26 := hid (HI25.out.quiet ht26); have HX26 := hid (And.intro hst hp); have HT26 := hid (HK2.out _ HI26.out.t).2.2; have zz := HZ2.out w26 HI26.out.t; clear hst hp ht26)
   |(go_at_call 23; refine (HUS3.out _ _ (HI24.out.quiet (Tc.refl [] _).drew)).mono ?_; rintro e w25 ⟨rfl, hw25⟩; obtain ⟨F25, I25, _, _⟩ := (HI24.out.quiet (Tc.refl [] _).drew).went hw25; have HI25 := hid I25; have zz := HZ2.out w25 HI25.out.t; clear hw25 I25))
 go_wp2_with fail
 go_ret
 exact ⟨rfl, (H1.out.1.trans HT4.out (by simp)).trans (HK2.out _ HI27.out.t).2.2 (by simp)⟩
end
end Go.Proofs.YthehcjjckabljaaGreatDoor
