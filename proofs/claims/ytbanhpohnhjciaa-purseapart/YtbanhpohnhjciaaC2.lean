import Derived.Test.YtbanhpohnhjciaaC1
namespace Go.Proofs.Ytbanhpohnhjciaa
open Go.RowKit Go.MuLone

set_option maxRecDepth 100000 in
set_option maxHeartbeats 1600000 in
theorem apart_any {w : World} {limit : Int} (hl1 : -9223372036854775808 ≤ limit) (hl2 : limit ≤ 9223372036854775807) {sa sb : Option Addr} {ca cb : Nat} {la lb : List OpA} (ha : OpsAt w sa la) (hb : OpsAt w sb lb) (hna : la.length ≤ 9223372036854775807) :
    Calls Try.prog 4 #[.int .i64 limit, .slice sa la.length ca, .slice sb lb.length cb] w fun e w' => e = .returned (.bool true) ∧ Below w.heap.size w w' := by
  have HB := hid (fun W => begun_any W)
  have HN := hid (fun (W : World) (n : Int) (h1 : 0 ≤ n) (h2 : n ≤ 9223372036854775807) (h : w.heap.size ≤ W.heap.size) => At.newAt h1 h2 W w.heap.size h)
  have HA := hid ha
  have HBB := hid hb
  clear ha hb
  by_cases hneg : limit < 0
  · have hq : (limit + 1).tdiv 2 = -(-(limit + 1) / 2) := by
      have e : limit + 1 = -(-(limit + 1)) := by omega
      rw [e, Int.neg_tdiv, Int.tdiv_eq_ediv_of_nonneg (by omega)]
      omega
    have q2 : wrap64 (-((limit + 1).tdiv 2)) = -(limit + 1) / 2 := by rw [hq, Int.neg_neg]; exact IntWalk.wrap64_in _ ⟨by omega, by omega⟩
    have q0 : 0 ≤ wrap64 (-((limit + 1).tdiv 2)) := by rw [q2]; omega
    have q1 : wrap64 (-((limit + 1).tdiv 2)) ≤ 9223372036854775807 := by rw [q2]; omega
    clear hq q2
    go_enter Try.func4, Try.ntmps4
    go_wp2_with (first
      | (go_at_call 8; refine (HN.out _ _ ?_ ?_ HB3.out.size).mono ?_; omega; omega; rintro e w4 ⟨br, lr, rfl, hA4, h41, h42, hT4⟩; have HA4 := hid (Three.new HA2.out HA3.out hA4 HX3.out.1 HX3.out.2.1 HX3.out.2.2 h41 h42 hT4); have HB4 := hid (HB3.out.trans (hT4.below HB3.out.size (by simp))); clear hA4 h41 h42 hT4)
      | (go_at_call 8; refine (HN.out _ _ ?_ ?_ HB2.out.size).mono ?_; omega; omega; rintro e w3 ⟨bq, lq, rfl, hA3, h31, h32, hT3⟩; have HA3 := hid hA3; have HX3 := hid (And.intro h31 (And.intro h32 hT3)); have HB3 := hid (HB2.out.trans (hT3.below HB2.out.size (by simp))); clear hA3 h31 h32 hT3)
      | (go_at_call 8; refine (HN.out _ _ ?_ ?_ HB1.out.size).mono ?_; omega; omega; rintro e w2 ⟨bp, lp, rfl, hA2, h21, h22, hT2⟩; have HA2 := hid hA2; have HB2 := hid (HB1.out.trans (hT2.below HB1.out.size (by simp))); clear hA2 h21 h22 hT2)
      | (go_at_call 7; refine (HB.out _).mono ?_; rintro e w1 ⟨rfl, hb1⟩; have HB1 := hid hb1; clear hb1))
    go_loopw [14] (fun i wr => ∃ (k : Nat) (sp sq sr : St), k ≤ la.length ∧ i = .int .i64 k ∧ Three wr w.heap.size bp sp bq sq br sr ∧ Twin sp sr ∧ Below w.heap.size w wr) (fun i _ => la.length - (intOf i).toNat)
    case atStart =>
      exact ⟨0, _, _, _, Nat.zero_le _, rfl, HA4.out, rfl, HB4.out⟩
    case round =>
      obtain ⟨k, sp, sq, sr, hk, rfl, hT, hTW, hbw⟩ := hrel
      by_cases hlt : k < la.length
      · obtain ⟨a, rfl, hblk, c0, c1, c2⟩ := HA.out.read hlt hbw
        obtain ⟨n, hn⟩ : ∃ n, n = la[k].n := ⟨_, rfl⟩
        rw [← hn] at c2
        have HC : Hid (∀ W, Below w.heap.size w W → W.cell? ⟨(a.add (k * 3)).block, (a.add (k * 3)).off + 2, none⟩ = some (.int .i64 n)) := hid fun W hW => by
          obtain ⟨a', ea, _, _, _, c2'⟩ := HA.out.read hlt hW
          rw [← hn] at c2'
          rwa [← Option.some.inj ea] at c2'
        have HT0 := hid hT
        have HW0 := hid hbw
        have i0 : (0 : Int) ≤ (k : Int) := by omega
        have i1 : (k : Int) < (la.length : Int) := by omega
        have hwk : wrap64 ((k : Int) + 1) = (k : Int) + 1 := IntWalk.wrap64_in _ ⟨by omega, by omega⟩
        clear hT hbw hn
        by_cases hlb : k < lb.length
        · obtain ⟨b2, hb2, _⟩ := HBB.out.at_ k hlb
          have HD : Hid (∀ W, Below w.heap.size w W → W.cell? ⟨(b2.add (k * 3)).block, (b2.add (k * 3)).off + 2, none⟩ = some (.int .i64 lb[k].n)) := hid fun W hW => by
            obtain ⟨a', ea, _, _, _, c2'⟩ := HBB.out.read hlb hW
            rwa [← Option.some.inj (hb2.symm.trans ea)] at c2'
          subst hb2
          have j1 : (k : Int) < (lb.length : Int) := by omega
          by_cases hkd : la[k].kind = 3
          · rw [hkd] at c1
            clear hkd
            have e1 := hTW.gives n
            have e2 := (hTW.give n).out
            have e3 := (hTW.give n).peak
            have HTW := hid (hTW.give n)
            clear hTW
            go_wp2_with (first
              | (go_at_call 13; refine (HT7.out.peakR HW7.out HW7.out.size).mono ?_; rintro e w8 ⟨rfl, ht8, hw8⟩; have HT8 := hid ht8; have HW8 := hid hw8; clear ht8 hw8)
              | (go_at_call 13; refine (HT6.out.peakP HW6.out HW6.out.size).mono ?_; rintro e w7 ⟨rfl, ht7, hw7⟩; have HT7 := hid ht7; have HW7 := hid hw7; clear ht7 hw7)
              | (go_at_call 11; refine (HT5.out.usedR HW5.out HW5.out.size).mono ?_; rintro e w6 ⟨rfl, ht6, hw6⟩; have HT6 := hid ht6; have HW6 := hid hw6; clear ht6 hw6)
              | (go_at_call 11; refine (HT4.out.usedP HW4.out HW4.out.size).mono ?_; rintro e w5 ⟨rfl, ht5, hw5⟩; have HT5 := hid ht5; have HW5 := hid hw5; clear ht5 hw5)
              | (go_at_call 9; refine (HT3.out.giveQ HW3.out HW3.out.size _).mono ?_; rintro e w4 ⟨rfl, ht4, hw4⟩; have HT4 := hid ht4; have HW4 := hid hw4; clear ht4 hw4)
              | (go_at_call 10; refine (HT2.out.takeQ HW2.out HW2.out.size _).mono ?_; rintro e w3 ⟨rfl, ht3, hw3⟩; have HT3 := hid ht3; have HW3 := hid hw3; clear ht3 hw3; have d3_0 := HD.out _ HW3.out)
              | (go_at_call 9; refine (HT1.out.giveR HW1.out HW1.out.size n).mono ?_; rintro e w2 ⟨rfl, ht2, hw2⟩; have HT2 := hid ht2; have HW2 := hid hw2; clear ht2 hw2; have d2_0 := HD.out _ HW2.out)
              | (go_at_call 9; refine (HT0.out.giveP HW0.out HW0.out.size n).mono ?_; rintro e w1 ⟨rfl, ht1, hw1⟩; have HT1 := hid ht1; have HW1 := hid hw1; clear ht1 hw1; have d1_0 := HC.out _ HW1.out))
            go_roundw
            case rel => first | exact ⟨k + 1, _, _, _, by omega, by go_num, HT8.out, HTW.out, HW8.out⟩ | ((repeat apply Exists.intro); exact ⟨⟨k + 1, _, _, _, by omega, by go_num, HT8.out, HTW.out, HW8.out⟩, rfl⟩)
            case measure => simp [intOf]; omega
          · have hkd' : (la[k].kind == 3) = false := by simpa using hkd
            clear hkd
            have e1 := hTW.leave n
            have e2 := (hTW.take n).out
            have e3 := (hTW.take n).peak
            have HTW := hid (hTW.take n)
            clear hTW
            go_wp2_with (first
              | (go_at_call 13; refine (HT7.out.peakR HW7.out HW7.out.size).mono ?_; rintro e w8 ⟨rfl, ht8, hw8⟩; have HT8 := hid ht8; have HW8 := hid hw8; clear ht8 hw8)
              | (go_at_call 13; refine (HT6.out.peakP HW6.out HW6.out.size).mono ?_; rintro e w7 ⟨rfl, ht7, hw7⟩; have HT7 := hid ht7; have HW7 := hid hw7; clear ht7 hw7)
              | (go_at_call 11; refine (HT5.out.usedR HW5.out HW5.out.size).mono ?_; rintro e w6 ⟨rfl, ht6, hw6⟩; have HT6 := hid ht6; have HW6 := hid hw6; clear ht6 hw6)
              | (go_at_call 11; refine (HT4.out.usedP HW4.out HW4.out.size).mono ?_; rintro e w5 ⟨rfl, ht5, hw5⟩; have HT5 := hid ht5; have HW5 := hid hw5; clear ht5 hw5)
              | (go_at_call 9; refine (HT3.out.giveQ HW3.out HW3.out.size _).mono ?_; rintro e w4 ⟨rfl, ht4, hw4⟩; have HT4 := hid ht4; have HW4 := hid hw4; clear ht4 hw4)
              | (go_at_call 10; refine (HT2.out.takeQ HW2.out HW2.out.size _).mono ?_; rintro e w3 ⟨rfl, ht3, hw3⟩; have HT3 := hid ht3; have HW3 := hid hw3; clear ht3 hw3; have d3_0 := HD.out _ HW3.out)
              | (go_at_call 10; refine (HT1.out.takeR HW1.out HW1.out.size n).mono ?_; rintro e w2 ⟨rfl, ht2, hw2⟩; have HT2 := hid ht2; have HW2 := hid hw2; clear ht2 hw2; have d2_0 := HD.out _ HW2.out)
              | (go_at_call 10; refine (HT0.out.takeP HW0.out HW0.out.size n).mono ?_; rintro e w1 ⟨rfl, ht1, hw1⟩; have HT1 := hid ht1; have HW1 := hid hw1; clear ht1 hw1; have d1_0 := HC.out _ HW1.out))
            go_roundw
            case rel => first | exact ⟨k + 1, _, _, _, by omega, by go_num, HT8.out, HTW.out, HW8.out⟩ | ((repeat apply Exists.intro); exact ⟨⟨k + 1, _, _, _, by omega, by go_num, HT8.out, HTW.out, HW8.out⟩, rfl⟩)
            case measure => simp [intOf]; omega
        · have j1 : ¬ (k : Int) < (lb.length : Int) := by omega
          by_cases hkd : la[k].kind = 3
          · rw [hkd] at c1
            clear hkd
            have e1 := hTW.gives n
            have e2 := (hTW.give n).out
            have e3 := (hTW.give n).peak
            have HTW := hid (hTW.give n)
            clear hTW
            go_wp2_with (first
              | (go_at_call 13; refine (HT5.out.peakR HW5.out HW5.out.size).mono ?_; rintro e w6 ⟨rfl, ht6, hw6⟩; have HT6 := hid ht6; have HW6 := hid hw6; clear ht6 hw6)
              | (go_at_call 13; refine (HT4.out.peakP HW4.out HW4.out.size).mono ?_; rintro e w5 ⟨rfl, ht5, hw5⟩; have HT5 := hid ht5; have HW5 := hid hw5; clear ht5 hw5)
              | (go_at_call 11; refine (HT3.out.usedR HW3.out HW3.out.size).mono ?_; rintro e w4 ⟨rfl, ht4, hw4⟩; have HT4 := hid ht4; have HW4 := hid hw4; clear ht4 hw4)
              | (go_at_call 11; refine (HT2.out.usedP HW2.out HW2.out.size).mono ?_; rintro e w3 ⟨rfl, ht3, hw3⟩; have HT3 := hid ht3; have HW3 := hid hw3; clear ht3 hw3)
              | (go_at_call 9; refine (HT1.out.giveR HW1.out HW1.out.size n).mono ?_; rintro e w2 ⟨rfl, ht2, hw2⟩; have HT2 := hid ht2; have HW2 := hid hw2; clear ht2 hw2)
              | (go_at_call 9; refine (HT0.out.giveP HW0.out HW0.out.size n).mono ?_; rintro e w1 ⟨rfl, ht1, hw1⟩; have HT1 := hid ht1; have HW1 := hid hw1; clear ht1 hw1; have d1_0 := HC.out _ HW1.out))
            go_roundw
            case rel => first | exact ⟨k + 1, _, _, _, by omega, by go_num, HT6.out, HTW.out, HW6.out⟩ | ((repeat apply Exists.intro); exact ⟨⟨k + 1, _, _, _, by omega, by go_num, HT6.out, HTW.out, HW6.out⟩, rfl⟩)
            case measure => simp [intOf]; omega
          · have hkd' : (la[k].kind == 3) = false := by simpa using hkd
            clear hkd
            have e1 := hTW.leave n
            have e2 := (hTW.take n).out
            have e3 := (hTW.take n).peak
            have HTW := hid (hTW.take n)
            clear hTW
            go_wp2_with (first
              | (go_at_call 13; refine (HT5.out.peakR HW5.out HW5.out.size).mono ?_; rintro e w6 ⟨rfl, ht6, hw6⟩; have HT6 := hid ht6; have HW6 := hid hw6; clear ht6 hw6)
              | (go_at_call 13; refine (HT4.out.peakP HW4.out HW4.out.size).mono ?_; rintro e w5 ⟨rfl, ht5, hw5⟩; have HT5 := hid ht5; have HW5 := hid hw5; clear ht5 hw5)
              | (go_at_call 11; refine (HT3.out.usedR HW3.out HW3.out.size).mono ?_; rintro e w4 ⟨rfl, ht4, hw4⟩; have HT4 := hid ht4; have HW4 := hid hw4; clear ht4 hw4)
              | (go_at_call 11; refine (HT2.out.usedP HW2.out HW2.out.size).mono ?_; rintro e w3 ⟨rfl, ht3, hw3⟩; have HT3 := hid ht3; have HW3 := hid hw3; clear ht3 hw3)
              | (go_at_call 10; refine (HT1.out.takeR HW1.out HW1.out.size n).mono ?_; rintro e w2 ⟨rfl, ht2, hw2⟩; have HT2 := hid ht2; have HW2 := hid hw2; clear ht2 hw2)
              | (go_at_call 10; refine (HT0.out.takeP HW0.out HW0.out.size n).mono ?_; rintro e w1 ⟨rfl, ht1, hw1⟩; have HT1 := hid ht1; have HW1 := hid hw1; clear ht1 hw1; have d1_0 := HC.out _ HW1.out))
            go_roundw
            case rel => first | exact ⟨k + 1, _, _, _, by omega, by go_num, HT6.out, HTW.out, HW6.out⟩ | ((repeat apply Exists.intro); exact ⟨⟨k + 1, _, _, _, by omega, by go_num, HT6.out, HTW.out, HW6.out⟩, rfl⟩)
            case measure => simp [intOf]; omega
      · obtain rfl : k = la.length := by omega
        have HW0 := hid hbw
        clear hbw hT hTW
        go_wp2
        go_ret
        exact ⟨rfl, HW0.out⟩
  · have L0 : 0 ≤ limit := by omega
    have q2 : wrap64 (limit.tdiv 2) = limit / 2 := by rw [Int.tdiv_eq_ediv_of_nonneg L0]; exact IntWalk.wrap64_in _ ⟨by omega, by omega⟩
    have q0 : 0 ≤ wrap64 (limit.tdiv 2) := by rw [q2]; omega
    have q1 : wrap64 (limit.tdiv 2) ≤ 9223372036854775807 := by rw [q2]; omega
    clear q2
    go_enter Try.func4, Try.ntmps4
    go_wp2_with (first
      | (go_at_call 8; refine (HN.out _ _ ?_ ?_ HB3.out.size).mono ?_; omega; omega; rintro e w4 ⟨br, lr, rfl, hA4, h41, h42, hT4⟩; have HA4 := hid (Three.new HA2.out HA3.out hA4 HX3.out.1 HX3.out.2.1 HX3.out.2.2 h41 h42 hT4); have HB4 := hid (HB3.out.trans (hT4.below HB3.out.size (by simp))); clear hA4 h41 h42 hT4)
      | (go_at_call 8; refine (HN.out _ _ ?_ ?_ HB2.out.size).mono ?_; omega; omega; rintro e w3 ⟨bq, lq, rfl, hA3, h31, h32, hT3⟩; have HA3 := hid hA3; have HX3 := hid (And.intro h31 (And.intro h32 hT3)); have HB3 := hid (HB2.out.trans (hT3.below HB2.out.size (by simp))); clear hA3 h31 h32 hT3)
      | (go_at_call 8; refine (HN.out _ _ ?_ ?_ HB1.out.size).mono ?_; omega; omega; rintro e w2 ⟨bp, lp, rfl, hA2, h21, h22, hT2⟩; have HA2 := hid hA2; have HB2 := hid (HB1.out.trans (hT2.below HB1.out.size (by simp))); clear hA2 h21 h22 hT2)
      | (go_at_call 7; refine (HB.out _).mono ?_; rintro e w1 ⟨rfl, hb1⟩; have HB1 := hid hb1; clear hb1))
    go_loopw [14] (fun i wr => ∃ (k : Nat) (sp sq sr : St), k ≤ la.length ∧ i = .int .i64 k ∧ Three wr w.heap.size bp sp bq sq br sr ∧ Twin sp sr ∧ Below w.heap.size w wr) (fun i _ => la.length - (intOf i).toNat)
    case atStart =>
      exact ⟨0, _, _, _, Nat.zero_le _, rfl, HA4.out, rfl, HB4.out⟩
    case round =>
      obtain ⟨k, sp, sq, sr, hk, rfl, hT, hTW, hbw⟩ := hrel
      by_cases hlt : k < la.length
      · obtain ⟨a, rfl, hblk, c0, c1, c2⟩ := HA.out.read hlt hbw
        obtain ⟨n, hn⟩ : ∃ n, n = la[k].n := ⟨_, rfl⟩
        rw [← hn] at c2
        have HC : Hid (∀ W, Below w.heap.size w W → W.cell? ⟨(a.add (k * 3)).block, (a.add (k * 3)).off + 2, none⟩ = some (.int .i64 n)) := hid fun W hW => by
          obtain ⟨a', ea, _, _, _, c2'⟩ := HA.out.read hlt hW
          rw [← hn] at c2'
          rwa [← Option.some.inj ea] at c2'
        have HT0 := hid hT
        have HW0 := hid hbw
        have i0 : (0 : Int) ≤ (k : Int) := by omega
        have i1 : (k : Int) < (la.length : Int) := by omega
        have hwk : wrap64 ((k : Int) + 1) = (k : Int) + 1 := IntWalk.wrap64_in _ ⟨by omega, by omega⟩
        clear hT hbw hn
        by_cases hlb : k < lb.length
        · obtain ⟨b2, hb2, _⟩ := HBB.out.at_ k hlb
          have HD : Hid (∀ W, Below w.heap.size w W → W.cell? ⟨(b2.add (k * 3)).block, (b2.add (k * 3)).off + 2, none⟩ = some (.int .i64 lb[k].n)) := hid fun W hW => by
            obtain ⟨a', ea, _, _, _, c2'⟩ := HBB.out.read hlb hW
            rwa [← Option.some.inj (hb2.symm.trans ea)] at c2'
          subst hb2
          have j1 : (k : Int) < (lb.length : Int) := by omega
          by_cases hkd : la[k].kind = 3
          · rw [hkd] at c1
            clear hkd
            have e1 := hTW.gives n
            have e2 := (hTW.give n).out
            have e3 := (hTW.give n).peak
            have HTW := hid (hTW.give n)
            clear hTW
            go_wp2_with (first
              | (go_at_call 13; refine (HT7.out.peakR HW7.out HW7.out.size).mono ?_; rintro e w8 ⟨rfl, ht8, hw8⟩; have HT8 := hid ht8; have HW8 := hid hw8; clear ht8 hw8)
              | (go_at_call 13; refine (HT6.out.peakP HW6.out HW6.out.size).mono ?_; rintro e w7 ⟨rfl, ht7, hw7⟩; have HT7 := hid ht7; have HW7 := hid hw7; clear ht7 hw7)
              | (go_at_call 11; refine (HT5.out.usedR HW5.out HW5.out.size).mono ?_; rintro e w6 ⟨rfl, ht6, hw6⟩; have HT6 := hid ht6; have HW6 := hid hw6; clear ht6 hw6)
              | (go_at_call 11; refine (HT4.out.usedP HW4.out HW4.out.size).mono ?_; rintro e w5 ⟨rfl, ht5, hw5⟩; have HT5 := hid ht5; have HW5 := hid hw5; clear ht5 hw5)
              | (go_at_call 9; refine (HT3.out.giveQ HW3.out HW3.out.size _).mono ?_; rintro e w4 ⟨rfl, ht4, hw4⟩; have HT4 := hid ht4; have HW4 := hid hw4; clear ht4 hw4)
              | (go_at_call 10; refine (HT2.out.takeQ HW2.out HW2.out.size _).mono ?_; rintro e w3 ⟨rfl, ht3, hw3⟩; have HT3 := hid ht3; have HW3 := hid hw3; clear ht3 hw3; have d3_0 := HD.out _ HW3.out)
              | (go_at_call 9; refine (HT1.out.giveR HW1.out HW1.out.size n).mono ?_; rintro e w2 ⟨rfl, ht2, hw2⟩; have HT2 := hid ht2; have HW2 := hid hw2; clear ht2 hw2; have d2_0 := HD.out _ HW2.out)
              | (go_at_call 9; refine (HT0.out.giveP HW0.out HW0.out.size n).mono ?_; rintro e w1 ⟨rfl, ht1, hw1⟩; have HT1 := hid ht1; have HW1 := hid hw1; clear ht1 hw1; have d1_0 := HC.out _ HW1.out))
            go_roundw
            case rel => first | exact ⟨k + 1, _, _, _, by omega, by go_num, HT8.out, HTW.out, HW8.out⟩ | ((repeat apply Exists.intro); exact ⟨⟨k + 1, _, _, _, by omega, by go_num, HT8.out, HTW.out, HW8.out⟩, rfl⟩)
            case measure => simp [intOf]; omega
          · have hkd' : (la[k].kind == 3) = false := by simpa using hkd
            clear hkd
            have e1 := hTW.leave n
            have e2 := (hTW.take n).out
            have e3 := (hTW.take n).peak
            have HTW := hid (hTW.take n)
            clear hTW
            go_wp2_with (first
              | (go_at_call 13; refine (HT7.out.peakR HW7.out HW7.out.size).mono ?_; rintro e w8 ⟨rfl, ht8, hw8⟩; have HT8 := hid ht8; have HW8 := hid hw8; clear ht8 hw8)
              | (go_at_call 13; refine (HT6.out.peakP HW6.out HW6.out.size).mono ?_; rintro e w7 ⟨rfl, ht7, hw7⟩; have HT7 := hid ht7; have HW7 := hid hw7; clear ht7 hw7)
              | (go_at_call 11; refine (HT5.out.usedR HW5.out HW5.out.size).mono ?_; rintro e w6 ⟨rfl, ht6, hw6⟩; have HT6 := hid ht6; have HW6 := hid hw6; clear ht6 hw6)
              | (go_at_call 11; refine (HT4.out.usedP HW4.out HW4.out.size).mono ?_; rintro e w5 ⟨rfl, ht5, hw5⟩; have HT5 := hid ht5; have HW5 := hid hw5; clear ht5 hw5)
              | (go_at_call 9; refine (HT3.out.giveQ HW3.out HW3.out.size _).mono ?_; rintro e w4 ⟨rfl, ht4, hw4⟩; have HT4 := hid ht4; have HW4 := hid hw4; clear ht4 hw4)
              | (go_at_call 10; refine (HT2.out.takeQ HW2.out HW2.out.size _).mono ?_; rintro e w3 ⟨rfl, ht3, hw3⟩; have HT3 := hid ht3; have HW3 := hid hw3; clear ht3 hw3; have d3_0 := HD.out _ HW3.out)
              | (go_at_call 10; refine (HT1.out.takeR HW1.out HW1.out.size n).mono ?_; rintro e w2 ⟨rfl, ht2, hw2⟩; have HT2 := hid ht2; have HW2 := hid hw2; clear ht2 hw2; have d2_0 := HD.out _ HW2.out)
              | (go_at_call 10; refine (HT0.out.takeP HW0.out HW0.out.size n).mono ?_; rintro e w1 ⟨rfl, ht1, hw1⟩; have HT1 := hid ht1; have HW1 := hid hw1; clear ht1 hw1; have d1_0 := HC.out _ HW1.out))
            go_roundw
            case rel => first | exact ⟨k + 1, _, _, _, by omega, by go_num, HT8.out, HTW.out, HW8.out⟩ | ((repeat apply Exists.intro); exact ⟨⟨k + 1, _, _, _, by omega, by go_num, HT8.out, HTW.out, HW8.out⟩, rfl⟩)
            case measure => simp [intOf]; omega
        · have j1 : ¬ (k : Int) < (lb.length : Int) := by omega
          by_cases hkd : la[k].kind = 3
          · rw [hkd] at c1
            clear hkd
            have e1 := hTW.gives n
            have e2 := (hTW.give n).out
            have e3 := (hTW.give n).peak
            have HTW := hid (hTW.give n)
            clear hTW
            go_wp2_with (first
              | (go_at_call 13; refine (HT5.out.peakR HW5.out HW5.out.size).mono ?_; rintro e w6 ⟨rfl, ht6, hw6⟩; have HT6 := hid ht6; have HW6 := hid hw6; clear ht6 hw6)
              | (go_at_call 13; refine (HT4.out.peakP HW4.out HW4.out.size).mono ?_; rintro e w5 ⟨rfl, ht5, hw5⟩; have HT5 := hid ht5; have HW5 := hid hw5; clear ht5 hw5)
              | (go_at_call 11; refine (HT3.out.usedR HW3.out HW3.out.size).mono ?_; rintro e w4 ⟨rfl, ht4, hw4⟩; have HT4 := hid ht4; have HW4 := hid hw4; clear ht4 hw4)
              | (go_at_call 11; refine (HT2.out.usedP HW2.out HW2.out.size).mono ?_; rintro e w3 ⟨rfl, ht3, hw3⟩; have HT3 := hid ht3; have HW3 := hid hw3; clear ht3 hw3)
              | (go_at_call 9; refine (HT1.out.giveR HW1.out HW1.out.size n).mono ?_; rintro e w2 ⟨rfl, ht2, hw2⟩; have HT2 := hid ht2; have HW2 := hid hw2; clear ht2 hw2)
              | (go_at_call 9; refine (HT0.out.giveP HW0.out HW0.out.size n).mono ?_; rintro e w1 ⟨rfl, ht1, hw1⟩; have HT1 := hid ht1; have HW1 := hid hw1; clear ht1 hw1; have d1_0 := HC.out _ HW1.out))
            go_roundw
            case rel => first | exact ⟨k + 1, _, _, _, by omega, by go_num, HT6.out, HTW.out, HW6.out⟩ | ((repeat apply Exists.intro); exact ⟨⟨k + 1, _, _, _, by omega, by go_num, HT6.out, HTW.out, HW6.out⟩, rfl⟩)
            case measure => simp [intOf]; omega
          · have hkd' : (la[k].kind == 3) = false := by simpa using hkd
            clear hkd
            have e1 := hTW.leave n
            have e2 := (hTW.take n).out
            have e3 := (hTW.take n).peak
            have HTW := hid (hTW.take n)
            clear hTW
            go_wp2_with (first
              | (go_at_call 13; refine (HT5.out.peakR HW5.out HW5.out.size).mono ?_; rintro e w6 ⟨rfl, ht6, hw6⟩; have HT6 := hid ht6; have HW6 := hid hw6; clear ht6 hw6)
              | (go_at_call 13; refine (HT4.out.peakP HW4.out HW4.out.size).mono ?_; rintro e w5 ⟨rfl, ht5, hw5⟩; have HT5 := hid ht5; have HW5 := hid hw5; clear ht5 hw5)
              | (go_at_call 11; refine (HT3.out.usedR HW3.out HW3.out.size).mono ?_; rintro e w4 ⟨rfl, ht4, hw4⟩; have HT4 := hid ht4; have HW4 := hid hw4; clear ht4 hw4)
              | (go_at_call 11; refine (HT2.out.usedP HW2.out HW2.out.size).mono ?_; rintro e w3 ⟨rfl, ht3, hw3⟩; have HT3 := hid ht3; have HW3 := hid hw3; clear ht3 hw3)
              | (go_at_call 10; refine (HT1.out.takeR HW1.out HW1.out.size n).mono ?_; rintro e w2 ⟨rfl, ht2, hw2⟩; have HT2 := hid ht2; have HW2 := hid hw2; clear ht2 hw2)
              | (go_at_call 10; refine (HT0.out.takeP HW0.out HW0.out.size n).mono ?_; rintro e w1 ⟨rfl, ht1, hw1⟩; have HT1 := hid ht1; have HW1 := hid hw1; clear ht1 hw1; have d1_0 := HC.out _ HW1.out))
            go_roundw
            case rel => first | exact ⟨k + 1, _, _, _, by omega, by go_num, HT6.out, HTW.out, HW6.out⟩ | ((repeat apply Exists.intro); exact ⟨⟨k + 1, _, _, _, by omega, by go_num, HT6.out, HTW.out, HW6.out⟩, rfl⟩)
            case measure => simp [intOf]; omega
      · obtain rfl : k = la.length := by omega
        have HW0 := hid hbw
        clear hbw hT hTW
        go_wp2
        go_ret
        exact ⟨rfl, HW0.out⟩
end Go.Proofs.Ytbanhpohnhjciaa
