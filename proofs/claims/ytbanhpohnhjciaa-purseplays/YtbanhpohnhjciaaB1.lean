import Derived.Test.YtbanhpohnhjciaaA5
namespace Go.Proofs.Ytbanhpohnhjciaa
open Go.RowKit Go.MuLone

structure OpA where
  on : Int
  kind : Int
  n : Int

theorem add_block (a : Addr) (i : Nat) : (a.add i).block = a.block := by unfold Addr.add; split <;> rfl

/-- a script in memory. -/
structure OpsAt (w : World) (sa : Option Addr) (l : List OpA) : Prop where
  at_ : ∀ k (hk : k < l.length), ∃ a, sa = some a ∧ a.block < w.heap.size ∧ w.cell? (a.add (k * 3)) = some (.int .i64 l[k].on) ∧ w.cell? ⟨(a.add (k * 3)).block, (a.add (k * 3)).off + 1, none⟩ = some (.int .i64 l[k].kind) ∧ w.cell? ⟨(a.add (k * 3)).block, (a.add (k * 3)).off + 2, none⟩ = some (.int .i64 l[k].n)
  wf : ∀ k (hk : k < l.length), -9223372036854775808 ≤ l[k].n ∧ l[k].n ≤ 9223372036854775807

section
variable {w w' : World} {b : Nat} {s : St}

theorem OpsAt.read {sa : Option Addr} {l : List OpA} (h : OpsAt w sa l) {k : Nat} (hk : k < l.length) (hb : Below w.heap.size w w') :
    ∃ a, sa = some a ∧ a.block < w.heap.size ∧ w'.cell? (a.add (k * 3)) = some (.int .i64 l[k].on) ∧ w'.cell? ⟨(a.add (k * 3)).block, (a.add (k * 3)).off + 1, none⟩ = some (.int .i64 l[k].kind) ∧ w'.cell? ⟨(a.add (k * 3)).block, (a.add (k * 3)).off + 2, none⟩ = some (.int .i64 l[k].n) := by
  obtain ⟨a, e, hblk, c0, c1, c2⟩ := h.at_ k hk
  have hc : ∀ q : Addr, q.block = (a.add (k * 3)).block → w'.cell? q = w.cell? q := fun q hq => hb.cell (by rw [hq, add_block]; exact hblk)
  exact ⟨a, e, hblk, (hc _ rfl).trans c0, (hc ⟨(a.add (k * 3)).block, (a.add (k * 3)).off + 1, none⟩ rfl).trans c1, (hc ⟨(a.add (k * 3)).block, (a.add (k * 3)).off + 2, none⟩ rfl).trans c2⟩

set_option maxRecDepth 100000 in
set_option maxHeartbeats 400000 in
theorem holds_neg {limit : Int} (hlim : limit < 0) (v : Value) (w : World) :
    Calls Try.prog 3 #[.int .i64 limit, v] w fun e w' => e = .returned (.bool true) ∧ Below w.heap.size w w' := by
  have HB := hid (fun W => begun_any W)
  have HN := hid (fun W => new_refused hlim W)
  go_enter Try.func3, Try.ntmps3
  go_wp2_with (first
    | (go_at_call 8; refine (HN.out _).mono ?_; rintro e w2 ⟨rfl, rfl⟩)
    | (go_at_call 7; refine (HB.out _).mono ?_; rintro e w1 ⟨rfl, hb1⟩; have HB1 := hid hb1; clear hb1))
  go_ret
  exact ⟨rfl, HB1.out⟩

/-- the purse of the loop. -/
structure Lone (w : World) (lo b : Nat) (limit : Int) (s : St) : Prop where
  at_ : At w lo b s
  limit : s.limit = limit
  lent : s.lent = 0
  closed : s.closed = false

theorem take_limit (s : St) (n : Int) : (s.take n).limit = s.limit := by unfold St.take; split <;> rfl
theorem take_lent (s : St) (n : Int) : (s.take n).lent = s.lent := by unfold St.take; split <;> rfl
theorem take_closed (s : St) (n : Int) : (s.take n).closed = s.closed := by unfold St.take; split <;> rfl
theorem give_limit (s : St) (n : Int) : (s.give n).limit = s.limit := by unfold St.give; split <;> rfl
theorem give_lent (s : St) (n : Int) : (s.give n).lent = s.lent := by unfold St.give; split <;> rfl
theorem give_closed (s : St) (n : Int) : (s.give n).closed = s.closed := by unfold St.give; split <;> rfl
theorem give_peak (s : St) (n : Int) : (s.give n).peak = s.peak := by unfold St.give; split <;> rfl

theorem Lone.take {lo : Nat} {limit : Int} (L : Lone w lo b limit s) (n : Int) : Calls Try.prog 10 #[ptr b, .int .i64 n] w fun e w' => e = .returned (.int .i64 (leaveE s n)) ∧ Lone w' lo b limit (s.take n) ∧ Touch [b, s.lb] w w' :=
  (L.at_.take n).mono fun _ _ h => ⟨h.1, ⟨h.2.1, (take_limit s n).trans L.limit, (take_lent s n).trans L.lent, (take_closed s n).trans L.closed⟩, h.2.2⟩
theorem Lone.give {lo : Nat} {limit : Int} (L : Lone w lo b limit s) (n : Int) : Calls Try.prog 9 #[ptr b, .int .i64 n] w fun e w' => e = .returned (.int .i64 (giveE s n)) ∧ Lone w' lo b limit (s.give n) ∧ Touch [b, s.lb] w w' :=
  (L.at_.give n).mono fun _ _ h => ⟨h.1, ⟨h.2.1, (give_limit s n).trans L.limit, (give_lent s n).trans L.lent, (give_closed s n).trans L.closed⟩, h.2.2⟩
theorem Lone.used {lo : Nat} {limit : Int} (L : Lone w lo b limit s) : Calls Try.prog 11 #[ptr b] w fun e w' => e = .returned (.int .i64 s.hand) ∧ Lone w' lo b limit s ∧ Touch [b, s.lb] w w' :=
  L.at_.used.mono fun _ _ h => ⟨by rw [h.1, L.lent, Int.add_zero], ⟨h.2.1, L.limit, L.lent, L.closed⟩, h.2.2⟩
theorem Lone.free {lo : Nat} {limit : Int} (L : Lone w lo b limit s) : Calls Try.prog 12 #[ptr b] w fun e w' => e = .returned (.int .i64 (limit - s.hand)) ∧ Lone w' lo b limit s ∧ Touch [b, s.lb] w w' :=
  L.at_.free.mono fun _ _ h => ⟨by rw [h.1, St.free, L.closed, L.lent, L.limit, Int.add_zero]; rfl, ⟨h.2.1, L.limit, L.lent, L.closed⟩, h.2.2⟩
theorem Lone.peak {lo : Nat} {limit : Int} (L : Lone w lo b limit s) : Calls Try.prog 13 #[ptr b] w fun e w' => e = .returned (.int .i64 s.peak) ∧ Lone w' lo b limit s ∧ Touch [b, s.lb] w w' :=
  L.at_.peak.mono fun _ _ h => ⟨h.1, ⟨h.2.1, L.limit, L.lent, L.closed⟩, h.2.2⟩
theorem Lone.limit' {lo : Nat} {limit : Int} (L : Lone w lo b limit s) : Calls Try.prog 14 #[ptr b] w fun e w' => e = .returned (.int .i64 limit) ∧ Lone w' lo b limit s ∧ Touch [b, s.lb] w w' :=
  L.at_.limit.mono fun _ _ h => ⟨by rw [h.1, L.limit], ⟨h.2.1, L.limit, L.lent, L.closed⟩, h.2.2⟩
theorem Lone.below {lo : Nat} {limit : Int} (L : Lone w lo b limit s) {w0 w' : World} (h : Below lo w0 w) (t : Touch [b, s.lb] w w') (hlo : lo ≤ w.heap.size) : Below lo w0 w' := L.at_.below h t hlo
theorem Lone.nums {lo : Nat} {limit : Int} (L : Lone w lo b limit s) : 0 ≤ s.hand ∧ s.hand ≤ s.peak ∧ s.peak ≤ limit := by
  have g := L.at_.good
  have h1 := g.hand
  have h2 := g.peak
  have h3 := g.peakLe
  rw [L.lent] at h2
  rw [L.limit] at h3
  omega
theorem gives {n : Int} (h : giveE s n = 0) : 0 ≤ n ∧ n ≤ s.hand ∧ (s.give n).hand = s.hand - n := by
  obtain ⟨_, h1, h2⟩ := give_ok h
  exact ⟨h1, h2, by simp [St.give, h]⟩
theorem Lone.takes {lo : Nat} {limit : Int} (L : Lone w lo b limit s) {n : Int} (h : leaveE s n = 0) : 0 ≤ n ∧ s.hand + n ≤ limit ∧ (s.take n).hand = s.hand + n ∧ (s.take n).peak = max s.peak (s.hand + n) := by
  obtain ⟨_, h1, h2⟩ := leave_ok h
  rw [L.lent, L.limit] at h2
  exact ⟨h1, by omega, by simp [St.take, h], by simp [St.take, h, L.lent]⟩

set_option maxRecDepth 100000 in
set_option maxHeartbeats 800000 in
theorem holds_any {limit : Int} (hlim : 0 ≤ limit) (hl2 : limit ≤ 9223372036854775807) {sa : Option Addr} {ca : Nat} {l : List OpA} (hs : OpsAt w sa l) (hlen : l.length ≤ 9223372036854775807) :
    Calls Try.prog 3 #[.int .i64 limit, .slice sa l.length ca] w fun e w' => e = .returned (.bool true) ∧ Below w.heap.size w w' := by
  have HB := hid (fun W => begun_any W)
  have HN := hid (fun (W : World) (h : w.heap.size ≤ W.heap.size) => At.new hlim hl2 W w.heap.size h)
  have HS := hid hs
  clear hs
  go_enter Try.func3, Try.ntmps3
  go_wp2_with (first
    | (go_at_call 8; refine (HN.out _ HB1.out.size).mono ?_; rintro e w2 ⟨b, lb, rfl, hA2, hT2⟩; have HA2 := hid hA2; have HB2 := hid (HB1.out.trans (hT2.below HB1.out.size (by simp))); clear hA2 hT2)
    | (go_at_call 7; refine (HB.out _).mono ?_; rintro e w1 ⟨rfl, hb1⟩; have HB1 := hid hb1; clear hb1))
  go_loopw [8, 9, 10] (fun pk us i wr => ∃ (k : Nat) (s : St), k ≤ l.length ∧ i = .int .i64 k ∧ pk = .int .i64 s.peak ∧ us = .int .i64 s.hand ∧ Lone wr w.heap.size b limit s ∧ Below w.heap.size w wr) (fun _ _ i _ => l.length - (intOf i).toNat)
  case atStart =>
    exact ⟨0, _, Nat.zero_le _, rfl, rfl, rfl, ⟨HA2.out, rfl, rfl, rfl⟩, HB2.out⟩
  case round =>
    obtain ⟨k, s, hk, rfl, rfl, rfl, hA, hbw⟩ := hrel
    by_cases hlt : k < l.length
    · obtain ⟨a, rfl, hblk, c0, c1, c2⟩ := HS.out.read hlt hbw
      have hnw := HS.out.wf k hlt
      obtain ⟨n, hn⟩ : ∃ n, n = l[k].n := ⟨_, rfl⟩
      rw [← hn] at c2 hnw
      obtain ⟨g1, g2, g3⟩ := hA.nums
      have HL0 := hid hA
      have HW0 := hid hbw
      have i0 : (0 : Int) ≤ (k : Int) := by omega
      have i1 : (k : Int) < (l.length : Int) := by omega
      have hwk : wrap64 ((k : Int) + 1) = (k : Int) + 1 := IntWalk.wrap64_in _ ⟨by omega, by omega⟩
      clear hbw hn
      by_cases hkd : l[k].kind = 3
      · rw [hkd] at c1
        by_cases he : giveE s n = 0
        · have HG := hid (hA.give n)
          rw [he] at HG
          obtain ⟨n0, n1, e1⟩ := gives he
          have e2 := give_peak s n
          have HHD := hid e1
          have HPK := hid e2
          have x0 : 0 ≤ s.hand - n := by omega
          have x1 : s.hand - n ≤ limit := by omega
          have x2 : s.hand - n ≤ s.peak := by omega
          have hw1 : wrap64 (s.hand - n) = s.hand - n := IntWalk.wrap64_in _ ⟨by omega, by omega⟩
          have hw2 : wrap64 (limit - (s.hand - n)) = limit - (s.hand - n) := IntWalk.wrap64_in _ ⟨by omega, by omega⟩
          clear hA he hkd
          go_wp2_with (first
            | (go_at_call 14; refine HL4.out.limit'.mono ?_; rintro e w5 ⟨rfl, hl5, ht5⟩; have HL5 := hid hl5; have HW5 := hid (HL4.out.below HW4.out ht5 HW4.out.size); clear hl5 ht5)
            | (go_at_call 13; refine HL3.out.peak.mono ?_; rintro e w4 ⟨rfl, hl4, ht4⟩; have HL4 := hid hl4; have HW4 := hid (HL3.out.below HW3.out ht4 HW3.out.size); clear hl4 ht4)
            | (go_at_call 12; refine HL2.out.free.mono ?_; rintro e w3 ⟨rfl, hl3, ht3⟩; have HL3 := hid hl3; have HW3 := hid (HL2.out.below HW2.out ht3 HW2.out.size); clear hl3 ht3)
            | (go_at_call 11; refine HL1.out.used.mono ?_; rintro e w2 ⟨rfl, hl2, ht2⟩; have HL2 := hid hl2; have HW2 := hid (HL1.out.below HW1.out ht2 HW1.out.size); clear hl2 ht2)
            | (go_at_call 9; refine HG.out.mono ?_; rintro e w1 ⟨rfl, hl1, ht1⟩; have HL1 := hid hl1; have HW1 := hid (HL0.out.below HW0.out ht1 HW0.out.size); clear hl1 ht1))
          go_roundw
          case rel => first | exact ⟨k + 1, _, by omega, by go_num, congrArg (Value.int .i64) HPK.out.symm, congrArg (Value.int .i64) HHD.out.symm, HL5.out, HW5.out⟩ | ((repeat apply Exists.intro); exact ⟨⟨k + 1, _, by omega, by go_num, congrArg (Value.int .i64) HPK.out.symm, congrArg (Value.int .i64) HHD.out.symm, HL5.out, HW5.out⟩, rfl⟩)
          case measure => simp [intOf]; omega
        · have HG := hid (hA.give n)
          have h9 : (giveE s n == 0) = false := by simpa using he
          have e1 : s.give n = s := by simp [St.give, he]
          rw [e1] at HG
          have x1 : s.hand ≤ limit := by omega
          have hw2 : wrap64 (limit - s.hand) = limit - s.hand := IntWalk.wrap64_in _ ⟨by omega, by omega⟩
          clear hA he hkd e1
          go_wp2_with (first
            | (go_at_call 14; refine HL4.out.limit'.mono ?_; rintro e w5 ⟨rfl, hl5, ht5⟩; have HL5 := hid hl5; have HW5 := hid (HL4.out.below HW4.out ht5 HW4.out.size); clear hl5 ht5)
            | (go_at_call 13; refine HL3.out.peak.mono ?_; rintro e w4 ⟨rfl, hl4, ht4⟩; have HL4 := hid hl4; have HW4 := hid (HL3.out.below HW3.out ht4 HW3.out.size); clear hl4 ht4)
            | (go_at_call 12; refine HL2.out.free.mono ?_; rintro e w3 ⟨rfl, hl3, ht3⟩; have HL3 := hid hl3; have HW3 := hid (HL2.out.below HW2.out ht3 HW2.out.size); clear hl3 ht3)
            | (go_at_call 11; refine HL1.out.used.mono ?_; rintro e w2 ⟨rfl, hl2, ht2⟩; have HL2 := hid hl2; have HW2 := hid (HL1.out.below HW1.out ht2 HW1.out.size); clear hl2 ht2)
            | (go_at_call 9; refine HG.out.mono ?_; rintro e w1 ⟨rfl, hl1, ht1⟩; have HL1 := hid hl1; have HW1 := hid (HL0.out.below HW0.out ht1 HW0.out.size); clear hl1 ht1))
          go_roundw
          case rel => first | exact ⟨k + 1, _, by omega, by go_num, rfl, rfl, HL5.out, HW5.out⟩ | ((repeat apply Exists.intro); exact ⟨⟨k + 1, _, by omega, by go_num, rfl, rfl, HL5.out, HW5.out⟩, rfl⟩)
          case measure => simp [intOf]; omega
      · by_cases he : leaveE s n = 0
        · have HG := hid (hA.take n)
          rw [he] at HG
          obtain ⟨n0, n1, e1, e2⟩ := hA.takes he
          have HHD := hid e1
          have x0 : 0 ≤ s.hand + n := by omega
          have hw1 : wrap64 (s.hand + n) = s.hand + n := IntWalk.wrap64_in _ ⟨by omega, by omega⟩
          have hw2 : wrap64 (limit - (s.hand + n)) = limit - (s.hand + n) := IntWalk.wrap64_in _ ⟨by omega, by omega⟩
          have hkd' : (l[k].kind == 3) = false := by simpa using hkd
          by_cases hp : s.hand + n > s.peak
          · rw [show max s.peak (s.hand + n) = s.hand + n by omega] at e2
            have HPK := hid e2
            clear hA he hkd
            go_wp2_with (first
              | (go_at_call 14; refine HL4.out.limit'.mono ?_; rintro e w5 ⟨rfl, hl5, ht5⟩; have HL5 := hid hl5; have HW5 := hid (HL4.out.below HW4.out ht5 HW4.out.size); clear hl5 ht5)
              | (go_at_call 13; refine HL3.out.peak.mono ?_; rintro e w4 ⟨rfl, hl4, ht4⟩; have HL4 := hid hl4; have HW4 := hid (HL3.out.below HW3.out ht4 HW3.out.size); clear hl4 ht4)
              | (go_at_call 12; refine HL2.out.free.mono ?_; rintro e w3 ⟨rfl, hl3, ht3⟩; have HL3 := hid hl3; have HW3 := hid (HL2.out.below HW2.out ht3 HW2.out.size); clear hl3 ht3)
              | (go_at_call 11; refine HL1.out.used.mono ?_; rintro e w2 ⟨rfl, hl2, ht2⟩; have HL2 := hid hl2; have HW2 := hid (HL1.out.below HW1.out ht2 HW1.out.size); clear hl2 ht2)
              | (go_at_call 10; refine HG.out.mono ?_; rintro e w1 ⟨rfl, hl1, ht1⟩; have HL1 := hid hl1; have HW1 := hid (HL0.out.below HW0.out ht1 HW0.out.size); clear hl1 ht1))
            go_roundw
            case rel => first | exact ⟨k + 1, _, by omega, by go_num, congrArg (Value.int .i64) HPK.out.symm, congrArg (Value.int .i64) HHD.out.symm, HL5.out, HW5.out⟩ | ((repeat apply Exists.intro); exact ⟨⟨k + 1, _, by omega, by go_num, congrArg (Value.int .i64) HPK.out.symm, congrArg (Value.int .i64) HHD.out.symm, HL5.out, HW5.out⟩, rfl⟩)
            case measure => simp [intOf]; omega
          · rw [show max s.peak (s.hand + n) = s.peak by omega] at e2
            have HPK := hid e2
            clear hA he hkd
            go_wp2_with (first
              | (go_at_call 14; refine HL4.out.limit'.mono ?_; rintro e w5 ⟨rfl, hl5, ht5⟩; have HL5 := hid hl5; have HW5 := hid (HL4.out.below HW4.out ht5 HW4.out.size); clear hl5 ht5)
              | (go_at_call 13; refine HL3.out.peak.mono ?_; rintro e w4 ⟨rfl, hl4, ht4⟩; have HL4 := hid hl4; have HW4 := hid (HL3.out.below HW3.out ht4 HW3.out.size); clear hl4 ht4)
              | (go_at_call 12; refine HL2.out.free.mono ?_; rintro e w3 ⟨rfl, hl3, ht3⟩; have HL3 := hid hl3; have HW3 := hid (HL2.out.below HW2.out ht3 HW2.out.size); clear hl3 ht3)
              | (go_at_call 11; refine HL1.out.used.mono ?_; rintro e w2 ⟨rfl, hl2, ht2⟩; have HL2 := hid hl2; have HW2 := hid (HL1.out.below HW1.out ht2 HW1.out.size); clear hl2 ht2)
              | (go_at_call 10; refine HG.out.mono ?_; rintro e w1 ⟨rfl, hl1, ht1⟩; have HL1 := hid hl1; have HW1 := hid (HL0.out.below HW0.out ht1 HW0.out.size); clear hl1 ht1))
            go_roundw
            case rel => first | exact ⟨k + 1, _, by omega, by go_num, congrArg (Value.int .i64) HPK.out.symm, congrArg (Value.int .i64) HHD.out.symm, HL5.out, HW5.out⟩ | ((repeat apply Exists.intro); exact ⟨⟨k + 1, _, by omega, by go_num, congrArg (Value.int .i64) HPK.out.symm, congrArg (Value.int .i64) HHD.out.symm, HL5.out, HW5.out⟩, rfl⟩)
            case measure => simp [intOf]; omega
        · have HG := hid (hA.take n)
          have h9 : (leaveE s n == 0) = false := by simpa using he
          have e1 : s.take n = s := by simp [St.take, he]
          rw [e1] at HG
          have x1 : s.hand ≤ limit := by omega
          have hw2 : wrap64 (limit - s.hand) = limit - s.hand := IntWalk.wrap64_in _ ⟨by omega, by omega⟩
          have hkd' : (l[k].kind == 3) = false := by simpa using hkd
          clear hA he hkd e1
          go_wp2_with (first
            | (go_at_call 14; refine HL4.out.limit'.mono ?_; rintro e w5 ⟨rfl, hl5, ht5⟩; have HL5 := hid hl5; have HW5 := hid (HL4.out.below HW4.out ht5 HW4.out.size); clear hl5 ht5)
            | (go_at_call 13; refine HL3.out.peak.mono ?_; rintro e w4 ⟨rfl, hl4, ht4⟩; have HL4 := hid hl4; have HW4 := hid (HL3.out.below HW3.out ht4 HW3.out.size); clear hl4 ht4)
            | (go_at_call 12; refine HL2.out.free.mono ?_; rintro e w3 ⟨rfl, hl3, ht3⟩; have HL3 := hid hl3; have HW3 := hid (HL2.out.below HW2.out ht3 HW2.out.size); clear hl3 ht3)
            | (go_at_call 11; refine HL1.out.used.mono ?_; rintro e w2 ⟨rfl, hl2, ht2⟩; have HL2 := hid hl2; have HW2 := hid (HL1.out.below HW1.out ht2 HW1.out.size); clear hl2 ht2)
            | (go_at_call 10; refine HG.out.mono ?_; rintro e w1 ⟨rfl, hl1, ht1⟩; have HL1 := hid hl1; have HW1 := hid (HL0.out.below HW0.out ht1 HW0.out.size); clear hl1 ht1))
          go_roundw
          case rel => first | exact ⟨k + 1, _, by omega, by go_num, rfl, rfl, HL5.out, HW5.out⟩ | ((repeat apply Exists.intro); exact ⟨⟨k + 1, _, by omega, by go_num, rfl, rfl, HL5.out, HW5.out⟩, rfl⟩)
          case measure => simp [intOf]; omega
    · obtain rfl : k = l.length := by omega
      obtain ⟨g1, g2, g3⟩ := hA.nums
      have e1 : giveE s s.hand = 0 := by simp only [giveE, hA.closed]; simp; omega
      have HG := hid (hA.give s.hand)
      rw [e1] at HG
      obtain ⟨_, _, e3⟩ := gives e1
      have e4 : leaveE (s.give s.hand) limit = 0 := by
        simp only [leaveE, give_closed, hA.closed, give_limit, hA.limit, give_lent, hA.lent, e3]
        simp
        omega
      have HT : Hid (∀ W, Lone W w.heap.size b limit (s.give s.hand) → Calls Try.prog 10 #[ptr b, .int .i64 limit] W fun e w' => e = .returned (.int .i64 0) ∧ Lone w' w.heap.size b limit ((s.give s.hand).take limit) ∧ Touch [b, (s.give s.hand).lb] W w') := hid fun W hW => by
        have := hW.take limit
        rwa [e4] at this
      have e5 : ((s.give s.hand).take limit).hand = limit := by
        simp only [St.take, e4, if_true, e3]
        omega
      have HL0 := hid hA
      have HW0 := hid hbw
      clear hA hbw e1 e3 e4
      go_wp2_with (first
        | (go_at_call 11; refine HL2.out.used.mono ?_; rintro e w3 ⟨rfl, hl3, ht3⟩; have HW3 := hid (HL2.out.below HW2.out ht3 HW2.out.size); clear hl3 ht3)
        | (go_at_call 10; refine (HT.out _ HL1.out).mono ?_; rintro e w2 ⟨rfl, hl2, ht2⟩; have HL2 := hid hl2; have HW2 := hid (HL1.out.below HW1.out ht2 HW1.out.size); clear hl2 ht2)
        | (go_at_call 9; refine HG.out.mono ?_; rintro e w1 ⟨rfl, hl1, ht1⟩; have HL1 := hid hl1; have HW1 := hid (HL0.out.below HW0.out ht1 HW0.out.size); clear hl1 ht1))
      go_ret
      exact ⟨rfl, HW3.out⟩
end
end Go.Proofs.Ytbanhpohnhjciaa
