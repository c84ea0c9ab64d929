import Derived.Test.YtbanhpohnhjciaaF4
namespace Go.Proofs.Ytbanhpohnhjciaa
open Go.RowKit Go.MuLone

set_option maxRecDepth 100000 in
set_option maxHeartbeats 4000000 in
theorem parts_any {w : World} {limit : Int} (hl1 : -9223372036854775808 ≤ limit) (hl2 : limit ≤ 9223372036854775807) {sa sb : Option Addr} {ca cb : Nat} {za zb : List Int} (ha : IntsAt w sa za) (hb : IntsAt w sb zb) (hna : za.length < 17592186044416) (hnb : zb.length ≤ 9223372036854775807) :
    Calls Try.prog 5 #[.int .i64 limit, .slice sa za.length ca, .slice sb zb.length cb] w fun e w' => e = .returned (.bool true) ∧ Below w.heap.size w w' := by
  have HB := hid (fun W => begun_any W)
  obtain ⟨L, hL0, hL1, hLe⟩ : ∃ L : Int, 0 ≤ L ∧ L ≤ 9223372036854775807 ∧ L = if limit < 0 then -(limit + 1) else limit := ⟨_, by split <;> omega, by split <;> omega, rfl⟩
  have HN := hid (fun (W : World) (h : w.heap.size ≤ W.heap.size) => At.new hL0 hL1 W w.heap.size h)
  have HA := hid ha
  have HBB := hid hb
  have HLE := hid hLe
  clear ha hb hLe
  go_enter Try.func5, Try.ntmps5
  go_upto_if 26 with (first | (go_at_call 7; refine (HB.out _).mono ?_; rintro e w1 ⟨rfl, hb1⟩; have HB1 := hid hb1; clear hb1))
  go_cut [0] (fun s0 wx => s0 = .int .i64 L ∧ wx = w1)
  case first =>
    by_cases hneg : limit < 0
    · have HE := hid (show L = -(limit + 1) by rw [HLE.out, if_pos hneg])
      go_wp2
      go_meet
      exact ⟨by rw [HE.out], rfl⟩
    · have HE := hid (show L = limit by rw [HLE.out, if_neg hneg])
      go_wp2
      go_meet
      exact ⟨by rw [HE.out], rfl⟩
  case rest =>
    obtain ⟨rfl, rfl⟩ := hcut
    go_wp2_with (first | (go_at_call 8; refine (HN.out _ HB1.out.size).mono ?_; rintro e w2 ⟨b, lb, rfl, hA2, hT2⟩; have HA2 := hid hA2; have HB2 := hid (HB1.out.trans (hT2.below HB1.out.size (by simp))); clear hA2 hT2))
    go_loopw [10, 11, 12, 13] (fun pv hv o i wr => ∃ (k : Nat) (s : St) (l : List Pt), k ≤ za.length ∧ i = .int .i64 k ∧ o = .int .i64 (out l) ∧ Round1 wr w.heap.size b lb L k s l pv hv ∧ Below w.heap.size w wr) (fun _ _ _ i _ => za.length - (intOf i).toNat)
    case atStart =>
      have A := HA2.out
      refine ⟨0, _, [], Nat.zero_le _, rfl, rfl, ⟨⟨A, rfl, rfl, rfl, rfl, rfl, rfl, rfl, by simp, ?_⟩, ⟨World.ownsRow_nil _ _ _ _, World.ownsRow_nil _ _ _ _, by simp [Value.ownBlock], by simp [Value.ownBlock]⟩, Nat.le_refl _, by simp⟩, HB2.out⟩
      simp [A.ne]
    case round =>
      obtain ⟨k, s, l, hk, rfl, rfl, hR, hbw⟩ := hrel
      by_cases hlt : k < za.length
      · obtain ⟨a, rfl, hblk, hc⟩ := HA.out.read hlt
        obtain ⟨n, hn⟩ : ∃ n, n = za[k] := ⟨_, rfl⟩
        rw [← hn] at hc
        have c0 := hc wr hbw
        have HC := hid hc
        have HR := hid hR
        have HW := hid hbw
        have hsz := hbw.size
        have hle := hR.tree.leave n
        have hout0 := out_nonneg (fun x hx => (hR.tree.each x hx).2.2)
        have hout1 : out l ≤ L := by
          have h1 := hR.tree.at_.good.out
          have h2 := hR.tree.hand
          have h3 := hR.tree.lent
          have h4 := hR.tree.limit
          omega
        have i0 : (0 : Int) ≤ (k : Int) := by omega
        have i1 : (k : Int) < (za.length : Int) := by omega
        have hwk : wrap64 ((k : Int) + 1) = (k : Int) + 1 := IntWalk.wrap64_in _ ⟨by omega, by omega⟩
        have hw1 : wrap64 (L - out l) = L - out l := IntWalk.wrap64_in _ ⟨by omega, by omega⟩
        clear hc hn hbw
        by_cases hn0 : n < 0
        · have he : leaveE s n = 1 := by rw [hle, if_pos hn0]
          have HP := hid (hR.tree.refused HW.out hsz n (by rw [he]; decide))
          rw [he] at HP
          clear hle he hR
          go_wp2_with (first | (go_at_call 15; refine HP.out.mono ?_; rintro e w3 ⟨rfl, hT3, hb3, ht3⟩; have c1 := HC.out _ hb3; have HT3 := hid hT3; have HB3 := hid hb3; have HTC := hid ht3; clear hT3 hb3 ht3))
          go_roundw
          case rel => first | exact ⟨k + 1, s, l, by omega, by go_num, rfl, ⟨HT3.out, HR.out.lists.touch HTC.out (by simp [foot]), Nat.le_succ_of_le HR.out.few, HR.out.fresh⟩, HB3.out⟩ | ((repeat apply Exists.intro); exact ⟨⟨k + 1, s, l, by omega, by go_num, rfl, ⟨HT3.out, HR.out.lists.touch HTC.out (by simp [foot]), Nat.le_succ_of_le HR.out.few, HR.out.fresh⟩, HB3.out⟩, rfl⟩)
          case measure => simp [intOf]; omega
        · by_cases hn1 : n > L - out l
          · have he : leaveE s n = 2 := by rw [hle, if_neg hn0, if_pos hn1]
            have hdd : decide (n ≤ L - out l) = false := by simp; omega
            have HP := hid (hR.tree.refused HW.out hsz n (by rw [he]; decide))
            rw [he] at HP
            clear hle he hR
            go_wp2_with (first | (go_at_call 15; refine HP.out.mono ?_; rintro e w3 ⟨rfl, hT3, hb3, ht3⟩; have c1 := HC.out _ hb3; have HT3 := hid hT3; have HB3 := hid hb3; have HTC := hid ht3; clear hT3 hb3 ht3))
            go_roundw
            case rel => first | exact ⟨k + 1, s, l, by omega, by go_num, rfl, ⟨HT3.out, HR.out.lists.touch HTC.out (by simp [foot]), Nat.le_succ_of_le HR.out.few, HR.out.fresh⟩, HB3.out⟩ | ((repeat apply Exists.intro); exact ⟨⟨k + 1, s, l, by omega, by go_num, rfl, ⟨HT3.out, HR.out.lists.touch HTC.out (by simp [foot]), Nat.le_succ_of_le HR.out.few, HR.out.fresh⟩, HB3.out⟩, rfl⟩)
            case measure => simp [intOf]; omega
          · have he : leaveE s n = 0 := by rw [hle, if_neg hn0, if_neg hn1]
            have hfew : l.length < 4611686018427387904 := Nat.lt_of_le_of_lt hR.few (Nat.lt_trans hlt (Nat.lt_of_lt_of_le hna (by decide)))
            have HP := hid (hR.tree.part HW.out hsz n he hfew)
            obtain ⟨t1, t2⟩ := part_take (n := n) (by omega) lb b 0
            have hw2 : wrap64 (out l + n) = out l + n := IntWalk.wrap64_in _ ⟨by omega, by omega⟩
            have hh := hR.tree.hand
            have hl := hR.tree.lent
            have e5 : (s.lend n).hand + (s.lend n).lent = out l + n := by simp only [St.lend, hh, hl]; omega
            have e6 : ∀ q, (Pt.st ⟨q, n, false⟩ lb b).hand + (Pt.st ⟨q, n, false⟩ lb b).lent = n := part_out n lb b
            have HTS := hid (fun q => And.intro (part_take (n := n) (by omega) lb b q) (part_full n lb b q))
            clear hle he hR t1 t2 hh hl hfew
            go_wp2_with (first
              | (go_at_call 10; refine (HT4.out.take HB4.out HB4.out.size 1).mono ?_; rintro e w5 ⟨rfl, hT5, hb5, ht5⟩; rw [(HTS.out q).2.1]; rw [(HTS.out q).2.2] at hT5; have c5 := HC.out _ hb5; have HT5 := hid hT5; have HB5 := hid hb5; have HTC5 := hid ht5; clear hT5 hb5 ht5)
              | (go_at_call 10; refine (HT3.out.take HB3.out HB3.out.size n).mono ?_; rintro e w4 ⟨rfl, hT4, hb4, ht4⟩; rw [(HTS.out q).1.1]; rw [(HTS.out q).1.2] at hT4; have c4 := HC.out _ hb4; have HT4 := hid hT4; have HB4 := hid hb4; have HTC4 := hid ht4; clear hT4 hb4 ht4)
              | (go_at_call 15; refine HP.out.mono ?_; rintro e w3 ⟨q, rfl, hT3, hb3, ht3, hq⟩; have c1 := HC.out _ hb3; have HT3 := hid hT3; have HB3 := hid hb3; have HTC := hid ht3; have HQ := hid hq; clear hT3 hb3 ht3 hq))
            have HT5d : Hid (Tip w5.drew w.heap.size b lb (s.lend n) q (Pt.st ⟨q, n, false⟩ lb b) l) := hid (by have := HT5.out; exact ⟨⟨this.ap.row, this.ap.lock, this.ap.ne, this.ap.good, this.ap.lob, this.ap.lol⟩, ⟨this.aq.row, this.aq.lock, this.aq.ne, this.aq.good, this.aq.lob, this.aq.lol⟩, this.elp, this.elq, this.each, this.apart⟩)
            have HB5d : Hid (Below w.heap.size w w5.drew) := hid HB5.out.drew
            go_region_held3 (fun W' => W'.cell? (a.add k) = some (.int .i64 n)) (go_keep)
              (first
                | (go_at_call 11; refine (HT6.out.usedQ HB6.out HB6.out.size).mono ?_; rintro e w7 ⟨rfl, hT7, hb7, ht7⟩; have c7 := HC.out _ hb7; have HT7 := hid hT7; have HB7 := hid hb7; have HTC7 := hid ht7; clear hT7 hb7 ht7)
                | (go_at_call 11; refine (HT5d.out.usedP HB5d.out HB5d.out.size).mono ?_; rintro e w6 ⟨rfl, hT6, hb6, ht6⟩; have c6 := HC.out _ hb6; have HT6 := hid hT6; have HB6 := hid hb6; have HTC6 := hid ht6; clear hT6 hb6 ht6))
            have hF : ∀ x ∈ [q, lb], x ∈ [b, lb] ∨ wr.heap.size ≤ x := by
              intro x hx
              simp at hx
              rcases hx with rfl | rfl
              · exact .inr HQ.out
              · simp
            have tw : Touch [b, lb] wr w7 := ((((HTC.out.trans HTC4.out hF).trans HTC5.out hF).drew).trans HTC6.out (fun x hx => .inl hx)).trans HTC7.out hF
            have HLS7 := hid (HR.out.lists.touch tw (by simp [foot]))
            have HQ7 : Hid (∀ k, u10.ownBlock = some k ∨ u11.ownBlock = some k → k ≠ q) := hid (by
              intro k hk e
              have hq := HQ.out
              rcases hk with h | h
              · have := (HR.out.lists.p.lt k h).2
                omega
              · have := (HR.out.lists.h.lt k h).2
                omega)
            have HTT7 : Hid (Tree w7 w.heap.size b lb L (s.lend n) (l ++ [⟨q, n, false⟩])) := hid (HT7.out.tree (by omega) (by
              have T := HR.out.tree
              exact ⟨T.limit, T.hand, by show s.lent + n = out l + n; rw [T.lent], by show s.parts + 1 = cnt l + 1; rw [T.parts], T.closed, T.whole⟩))
            have HFR : Hid (∀ x ∈ l ++ [⟨q, n, false⟩], x.gone = false) := hid (by
              intro x hx
              rcases List.mem_append.1 hx with h | h
              · exact HR.out.fresh x h
              · obtain rfl : x = ⟨q, n, false⟩ := by simpa using h
                rfl)
            have hlen : l.length < 17592186044416 := Nat.lt_of_le_of_lt HR.out.few (Nat.lt_trans hlt hna)
            have hs7 : w.heap.size ≤ w7.heap.size := HB7.out.size
            clear tw hF c0 c1 c4 c5 c6
            go_wp2_with (first
              | (at_builtin; refine wpList_append_one _ Try.underlying34 info3 rfl rfl _ _ rfl w.heap.size u11 l.length _ ⟨w8.heap.size, 0, none⟩ (.int .i64 n) rfl rfl (owns_touch HM8.out.h ((Touch.refl [] w8).alloc _) (by simp)) (cell_row (heap_new w8 _) 0) rfl hlen (Nat.le_trans hs8 (by simp)) ?_; intro g2 cap2 w9 r1 r2 r3; obtain ⟨m4, m5, m6⟩ := appB HM8.out HB8.out hs8 r1 r2 r3; have HT9 := hid m4; have HL9 := hid m5; have HB9 := hid m6; clear r1 r2 r3 m4 m5 m6)
              | (at_builtin; refine wpList_append_one _ Try.underlying35 info24 rfl rfl _ _ rfl w.heap.size u10 l.length _ ⟨w7.heap.size, 0, none⟩ (ptr q) rfl rfl (owns_touch HLS7.out.p ((Touch.refl [] w7).alloc _) (by simp)) (cell_row (heap_new w7 _) 0) rfl hlen (Nat.le_trans hs7 (by simp)) ?_; intro g1 cap1 w8 r1 r2 r3; obtain ⟨m1, m2, hs8⟩ := appA HTT7.out HLS7.out HQ7.out HB7.out hs7 r1 r2 r3; have c8 := HC.out _ m2; have HM8 := hid m1; have HB8 := hid m2; clear r1 r2 r3 m1 m2))
            go_roundw
            case rel => first | exact ⟨k + 1, _, _, by omega, by go_num, by rw [out_append]; simp [out], ⟨HT9.out, HL9.out, by simpa using HR.out.few, HFR.out⟩, HB9.out⟩ | ((repeat apply Exists.intro); exact ⟨⟨k + 1, _, _, by omega, by go_num, by rw [out_append]; simp [out], ⟨HT9.out, HL9.out, by simpa using HR.out.few, HFR.out⟩, HB9.out⟩, rfl⟩)
            case measure => simp [intOf]; omega
      · obtain rfl : k = za.length := by omega
        have HR := hid hR
        have HW := hid hbw
        have hsz := hbw.size
        have hlen : l.length < 17592186044416 := Nat.lt_of_le_of_lt hR.few hna
        obtain ⟨sd, cd, rfl, hcd, hsd⟩ := owns_form hR.lists.p
        obtain ⟨se, ce, rfl, hce, hse⟩ := owns_form hR.lists.h
        have hmk := fun W => run_make_row' (P := Try.prog) 36 4 (.bool false) 1 Try.underlying36 info4 rfl .i64 .i64 l.length (by omega) (by omega) W
        have HSD := hid hsd
        have HSE := hid hse
        clear hR hbw hsd hse hcd hce
        go_wp2
        have HR2 := hid (HR.out.start HW.out hsz)
        unfold madeW at HR2
        obtain ⟨gb, hgb⟩ : ∃ gb, gb = wr.heap.size := ⟨_, rfl⟩
        rw [← hgb]
        rw [← hgb] at HR2
        clear hmk hgb hk hlt hsz hna
        go_loopw [12, 19] (fun o i wx => ∃ (k : Nat) (s' : St) (l' : List Pt), k ≤ zb.length ∧ i = .int .i64 k ∧ o = .int .i64 (out l') ∧ Round2 wx w.heap.size b lb L s' l' (.slice sd l.length cd) (.slice se l.length ce) gb l.length ∧ Below w.heap.size w wx) (fun _ i _ => zb.length - (intOf i).toNat)
        case atStart => exact ⟨0, s, l, Nat.zero_le _, rfl, rfl, HR2.out.1, HR2.out.2⟩
        case round =>
          clear HR2 HR HW HN HLE HB1 HA2 HB2 HB HA
          obtain ⟨k, s', l', hk, rfl, rfl, hR2, hbw⟩ := hrel
          have hsz2 := hbw.size
          have HW3 := hid hbw
          by_cases hlt2 : k < zb.length
          · by_cases hpos : 0 < l.length
            · obtain ⟨a2, rfl, hblk, hc⟩ := HBB.out.read hlt2
              have hzw := HBB.out.wf k hlt2
              obtain ⟨z, hz⟩ : ∃ z, z = zb[k] := ⟨_, rfl⟩
              rw [← hz] at hc hzw
              have c0 := hc wr hbw
              have hjl := (onN_lt z hpos).1
              have HON : Hid (∀ W, Calls Try.prog 16 #[.int .i64 z, .int .i64 (l.length : Nat)] W fun e w' => e = .returned (.int .i64 (onN z l.length)) ∧ W = w') := hid (fun W => (on_any hzw.1 hzw.2 hpos (by omega) W).mono fun _ _ x => ⟨x.1, x.2.symm⟩)
              obtain ⟨j, hjd⟩ : ∃ j, j = onN z l.length := ⟨_, rfl⟩
              rw [← hjd] at HON hjl
              obtain ⟨pg, rfl⟩ := HSD.out hpos
              obtain ⟨hg2, rfl⟩ := HSE.out hpos
              have hj : j < l'.length := by rw [hR2.len]; exact hjl
              have hgn : ¬ gb = hg2 := fun e => hR2.gh (by rw [e]; rfl)
              have i0 : (0 : Int) ≤ (k : Int) := by omega
              have i1 : (k : Int) < (zb.length : Int) := by omega
              have i2 : (0 : Int) < (l.length : Int) := by omega
              have hwk : wrap64 ((k : Int) + 1) = (k : Int) + 1 := IntWalk.wrap64_in _ ⟨by omega, by omega⟩
              have j0 : (0 : Int) ≤ (j : Int) := by omega
              have j1 : (j : Int) < (l.length : Int) := by omega
              obtain ⟨o0, o1⟩ := hR2.num
              cases hg : l'[j].gone with
              | true =>
                obtain ⟨q, ⟨c1, c3⟩, hcg⟩ := hR2.past HW3.out hsz2 hj hg
                have HCG := hid hcg
                clear hc hz hbw hjd hblk hg hj hjl hR2 hcg hlen hzw hl1 hl2 hL0 hL1 o0 o1 HSD HSE hgn hsz2 HBB hpos
                go_wp2_with (first
                  | (go_at_call 17; refine HCG.out.mono ?_; rintro e w2 ⟨rfl, hM2, hb2⟩; have HM7 := hid hM2; have HB7 := hid hb2; clear hM2 hb2)
                  | (go_at_call 16; refine (HON.out _).mono ?_; rintro e w2 ⟨rfl, rfl⟩))
                go_roundw
                case rel => first | exact ⟨k + 1, _, _, by omega, by go_num, rfl, HM7.out, HB7.out⟩ | ((repeat apply Exists.intro); exact ⟨⟨k + 1, _, _, by omega, by go_num, rfl, HM7.out, HB7.out⟩, rfl⟩)
                case measure => simp [intOf]; omega
              | false =>
                obtain ⟨q, n, K⟩ := hR2.kit HW3.out hsz2 hj hg
                obtain ⟨n0, n1, e1⟩ := K.num
                obtain ⟨c1, c2, c3, c4⟩ := K.cells wr (Touch.refl _ wr)
                have HEO := hid e1
                have HKF := hid K.foot
                have HK := hid K
                have hw1 : wrap64 (out l' - n) = out l' - n := IntWalk.wrap64_in _ ⟨by omega, by omega⟩
                have hw2 : wrap64 (L - (out l' - n)) = L - (out l' - n) := IntWalk.wrap64_in _ ⟨by omega, by omega⟩
                have HTR := hid (Touch.refl [q, b, lb] wr)
                clear hc hz hbw hjd hblk hg hj hjl hR2 K hlen hzw hl1 hl2 hL0 hL1 o0 o1 HSD HSE hsz2 HBB hpos n1
                by_cases hn : n > 0
                · have HCH := hid (HK.out.held hn)
                  go_wp2_with (first
                    | (go_at_call 17; refine HCH.out.mono ?_; rintro e w2 ⟨rfl, hT2, hb2, ht2⟩; obtain ⟨d1, d2, d3, d4⟩ := HK.out.cells w2 ht2; have HT2 := hid hT2; have HB2 := hid hb2; have HTC2 := hid ht2; clear hT2 hb2 ht2)
                    | (go_at_call 16; refine (HON.out _).mono ?_; rintro e w1 ⟨rfl, rfl⟩))
                  have HGA := hid (HK.out.gives _ HT2.out.drew HB2.out.drew HB2.out.size)
                  clear c0 c1 c2 c3 c4 HCH HON d3 d4
                  go_region_held3 (fun W' => W'.cell? ⟨pg, j, none⟩ = some (ptr q) ∧ W'.cell? ⟨hg2, j, none⟩ = some (.int .i64 n)) (go_keep)
                    (first
                      | (go_at_call 9; refine HGA.out.mono ?_; rintro e w3 ⟨rfl, hI3, hb3, ht3⟩; have t3 : Touch [q, b, lb] wr w3 := HTC2.out.drew.trans ht3 (fun x hx => .inl hx); obtain ⟨f1, f2, f3, f4⟩ := HK.out.cells w3 t3; have HI3 := hid hI3; have HB3 := hid hb3; have HTC3 := hid t3; clear hI3 hb3 ht3 t3))
                  clear d1 d2 HGA f3 f4
                  go_wp2_with (first
                    | (go_at_call 12; refine (HM6.out.tree.free HB6.out HB6.out.size).mono ?_; rintro e w7 ⟨rfl, hT7, hb7, ht7⟩; have HM7 := hid (HM6.out.asked hT7 ht7 HKF.out); have HB7 := hid hb7; clear hT7 hb7 ht7)
                    | (go_at_call 11; refine (HM5.out.tree.used HB5.out HB5.out.size).mono ?_; rintro e w6 ⟨rfl, hT6, hb6, ht6⟩; have HM6 := hid (HM5.out.asked hT6 ht6 HKF.out); have HB6 := hid hb6; clear hT6 hb6 ht6)
                    | (go_at_call 17; refine (HK.out.close _ HI3.out HB3.out HB3.out.size).mono ?_; rintro e w4 ⟨rfl, hT4, hb4, ht4⟩; have t4 := HTC3.out.trans ht4 (fun x hx => .inl hx); obtain ⟨d1, d2, d3, d4⟩ := HK.out.cells w4 t4; obtain ⟨hm5, hb5⟩ := HK.out.marked w4 hT4 hb4 t4; have HM5 := hid hm5; have HB5 := hid hb5; clear hT4 hb4 ht4 t4 hm5 hb5))
                  go_roundw
                  case rel => first | exact ⟨k + 1, _, _, by omega, by go_num, congrArg (Value.int .i64) HEO.out.symm, HM7.out, HB7.out⟩ | ((repeat apply Exists.intro); exact ⟨⟨k + 1, _, _, by omega, by go_num, congrArg (Value.int .i64) HEO.out.symm, HM7.out, HB7.out⟩, rfl⟩)
                  case measure => simp [intOf]; omega
                · have hnz : n = 0 := by omega
                  have HI0 := hid (HK.out.idle hnz)
                  clear hnz
                  go_wp2_with (first
                    | (go_at_call 12; refine (HM6.out.tree.free HB6.out HB6.out.size).mono ?_; rintro e w7 ⟨rfl, hT7, hb7, ht7⟩; have HM7 := hid (HM6.out.asked hT7 ht7 HKF.out); have HB7 := hid hb7; clear hT7 hb7 ht7)
                    | (go_at_call 11; refine (HM5.out.tree.used HB5.out HB5.out.size).mono ?_; rintro e w6 ⟨rfl, hT6, hb6, ht6⟩; have HM6 := hid (HM5.out.asked hT6 ht6 HKF.out); have HB6 := hid hb6; clear hT6 hb6 ht6)
                    | (go_at_call 17; refine (HK.out.close _ HI0.out HW3.out HW3.out.size).mono ?_; rintro e w4 ⟨rfl, hT4, hb4, ht4⟩; have t4 := HTR.out.trans ht4 (fun x hx => .inl hx); obtain ⟨d1, d2, d3, d4⟩ := HK.out.cells w4 t4; obtain ⟨hm5, hb5⟩ := HK.out.marked w4 hT4 hb4 t4; have HM5 := hid hm5; have HB5 := hid hb5; clear hT4 hb4 ht4 t4 hm5 hb5)
                    | (go_at_call 16; refine (HON.out _).mono ?_; rintro e w1 ⟨rfl, rfl⟩))
                  go_roundw
                  case rel => first | exact ⟨k + 1, _, _, by omega, by go_num, congrArg (Value.int .i64) HEO.out.symm, HM7.out, HB7.out⟩ | ((repeat apply Exists.intro); exact ⟨⟨k + 1, _, _, by omega, by go_num, congrArg (Value.int .i64) HEO.out.symm, HM7.out, HB7.out⟩, rfl⟩)
                  case measure => simp [intOf]; omega
            · have i1 : (k : Int) < (zb.length : Int) := by omega
              have i2 : ¬ (0 : Int) < (l.length : Int) := by omega
              clear hR2 hbw
              go_wp2
              go_ret
              exact ⟨rfl, HW3.out⟩
          · have i1 : ¬ (k : Int) < (zb.length : Int) := by omega
            clear hR2 hbw
            go_wp2
            go_ret
            exact ⟨rfl, HW3.out⟩
end Go.Proofs.Ytbanhpohnhjciaa
