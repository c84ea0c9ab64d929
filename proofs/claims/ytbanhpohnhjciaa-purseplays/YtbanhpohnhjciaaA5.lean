import Derived.Test.YtbanhpohnhjciaaA4
namespace Go.Proofs.Ytbanhpohnhjciaa
open Go.RowKit Go.MuLone

section
variable {w : World} {b : Nat} {s : St}

theorem St.Good.new {n : Int} (h : 0 ≤ n) (h2 : n ≤ 9223372036854775807) (lb : Nat) : (St.new n lb).Good := ⟨Int.le_refl _, Int.le_refl _, h, h2, Int.le_refl _, by show (0 : Int) ≤ 4611686018427387904; omega, Int.le_refl _, h⟩

theorem leave_ok {n : Int} (h : leaveE s n = 0) : s.closed = false ∧ 0 ≤ n ∧ n ≤ s.limit - (s.hand + s.lent) := by
  unfold leaveE at h
  split at h
  · simp at h
  split at h
  · simp at h
  split at h
  · simp at h
  rename_i h1 h2 h3
  exact ⟨by simpa using h1, by omega, by omega⟩
theorem give_ok {n : Int} (h : giveE s n = 0) : s.closed = false ∧ 0 ≤ n ∧ n ≤ s.hand := by
  unfold giveE at h
  split at h
  · simp at h
  split at h
  · simp at h
  split at h
  · simp at h
  rename_i h1 h2 h3
  exact ⟨by simpa using h1, by omega, by omega⟩

theorem St.Good.take (g : s.Good) (n : Int) : (s.take n).Good := by
  unfold St.take
  split
  · rename_i h
    obtain ⟨_, h1, h2⟩ := leave_ok h
    obtain ⟨a1, a2, a3, a4, a5, a6, a7, a8⟩ := g
    exact ⟨by show 0 ≤ s.hand + n; omega, a2, by show s.hand + n + s.lent ≤ s.limit; omega, a4, a5, a6, by show s.hand + n + s.lent ≤ max s.peak (s.hand + n + s.lent); omega, by show max s.peak (s.hand + n + s.lent) ≤ s.limit; omega⟩
  · exact g
theorem St.Good.give (g : s.Good) (n : Int) : (s.give n).Good := by
  unfold St.give
  split
  · rename_i h
    obtain ⟨_, h1, h2⟩ := give_ok h
    obtain ⟨a1, a2, a3, a4, a5, a6, a7, a8⟩ := g
    exact ⟨by show 0 ≤ s.hand - n; omega, a2, by show s.hand - n + s.lent ≤ s.limit; omega, a4, a5, a6, by show s.hand - n + s.lent ≤ s.peak; omega, a8⟩
  · exact g

/-- a purse in memory with its lock, free. -/
structure At (w : World) (lo b : Nat) (s : St) : Prop where
  row : PurseAt w b s
  lock : LockAt w s.lb 0
  ne : b ≠ s.lb
  good : s.Good
  lob : lo ≤ b
  lol : lo ≤ s.lb

/-- what a call leaves of it. -/
theorem At.did {w' : World} {lo : Nat} (A : At w lo b s) {t : St} (hp : PurseAt w' b t) (hl : LockAt w' s.lb 0) (e : t.lb = s.lb) (g : t.Good) : At w' lo b t :=
  ⟨hp, by rw [e]; exact hl, by rw [e]; exact A.ne, g, A.lob, by rw [e]; exact A.lol⟩

theorem take_lb (s : St) (n : Int) : (s.take n).lb = s.lb := by unfold St.take; split <;> rfl
theorem give_lb (s : St) (n : Int) : (s.give n).lb = s.lb := by unfold St.give; split <;> rfl

theorem At.take {lo : Nat} (A : At w lo b s) (n : Int) : Calls Try.prog 10 #[ptr b, .int .i64 n] w fun e w' => e = .returned (.int .i64 (leaveE s n)) ∧ At w' lo b (s.take n) ∧ Touch [b, s.lb] w w' :=
  (take_any A.row A.lock A.ne A.good n).mono fun _ _ h => ⟨h.1, A.did h.2.1 h.2.2.1 (take_lb s n) (A.good.take n), h.2.2.2⟩
theorem At.give {lo : Nat} (A : At w lo b s) (n : Int) : Calls Try.prog 9 #[ptr b, .int .i64 n] w fun e w' => e = .returned (.int .i64 (giveE s n)) ∧ At w' lo b (s.give n) ∧ Touch [b, s.lb] w w' :=
  (give_any A.row A.lock A.ne A.good n).mono fun _ _ h => ⟨h.1, A.did h.2.1 h.2.2.1 (give_lb s n) (A.good.give n), h.2.2.2⟩
theorem At.used {lo : Nat} (A : At w lo b s) : Calls Try.prog 11 #[ptr b] w fun e w' => e = .returned (.int .i64 (s.hand + s.lent)) ∧ At w' lo b s ∧ Touch [b, s.lb] w w' :=
  (used_any A.row A.lock A.ne A.good).mono fun _ _ h => ⟨h.1, A.did h.2.1 h.2.2.1 rfl A.good, h.2.2.2⟩
theorem At.free {lo : Nat} (A : At w lo b s) : Calls Try.prog 12 #[ptr b] w fun e w' => e = .returned (.int .i64 s.free) ∧ At w' lo b s ∧ Touch [b, s.lb] w w' :=
  (Free_any A.row A.lock A.ne A.good).mono fun _ _ h => ⟨h.1, A.did h.2.1 h.2.2.1 rfl A.good, h.2.2.2⟩
theorem At.peak {lo : Nat} (A : At w lo b s) : Calls Try.prog 13 #[ptr b] w fun e w' => e = .returned (.int .i64 s.peak) ∧ At w' lo b s ∧ Touch [b, s.lb] w w' :=
  (peak_any A.row).mono fun _ _ h => ⟨h.1, by rw [h.2]; exact A, by rw [h.2]; exact Touch.refl _ _⟩
theorem At.limit {lo : Nat} (A : At w lo b s) : Calls Try.prog 14 #[ptr b] w fun e w' => e = .returned (.int .i64 s.limit) ∧ At w' lo b s ∧ Touch [b, s.lb] w w' :=
  (limit_any A.row).mono fun _ _ h => ⟨h.1, by rw [h.2]; exact A, by rw [h.2]; exact Touch.refl _ _⟩
theorem At.below {lo : Nat} (A : At w lo b s) {w0 w' : World} (h : Below lo w0 w) (t : Touch [b, s.lb] w w') (hlo : lo ≤ w.heap.size) : Below lo w0 w' :=
  h.trans (t.below hlo (by intro x hx; simp at hx; rcases hx with rfl | rfl; exact A.lob; exact A.lol))

theorem At.new {n : Int} (hn : 0 ≤ n) (h2 : n ≤ 9223372036854775807) (w : World) (lo : Nat) (hlo : lo ≤ w.heap.size) : Calls Try.prog 8 #[.int .i64 n] w fun e w' =>
    ∃ b lb, e = .returned (.tuple #[ptr b, .int .i64 0]) ∧ At w' lo b (.new n lb) ∧ Touch [] w w' :=
  (new_any hn w).mono fun _ _ ⟨b, lb, he, hb, hl, hne, hp, hk, ht⟩ => ⟨b, lb, he, ⟨hp, hk, hne, .new hn h2 lb, by omega, by show lo ≤ lb; omega⟩, ht⟩

set_option maxRecDepth 100000 in
set_option maxHeartbeats 400000 in
theorem begun_any (w : World) : Calls Try.prog 7 #[] w fun e w' => e = .returned (.bool true) ∧ Below w.heap.size w w' := by
  have HN := hid (At.new (n := 10) (by omega) (by omega) w w.heap.size (Nat.le_refl _))
  have e1 : ∀ lb, leaveE (St.new 10 lb) 4 = 0 := fun _ => rfl
  have e2 : ∀ lb, ((St.new 10 lb).take 4).hand = 4 := fun _ => rfl
  have e3 : ∀ lb, ((St.new 10 lb).take 4).lent = 0 := fun _ => rfl
  have e4 : ∀ lb, ((St.new 10 lb).take 4).free = 6 := fun _ => rfl
  have e5 : ∀ lb, ((St.new 10 lb).take 4).peak = 4 := fun _ => rfl
  have e6 : ∀ lb, ((St.new 10 lb).take 4).limit = 10 := fun _ => rfl
  go_enter Try.func7, Try.ntmps7
  go_wp2_with (first
    | (go_at_call 14; refine HA5.out.limit.mono ?_; rintro e w6 ⟨rfl, hA6, hT6⟩; have HB6 := hid (HA5.out.below HB5.out hT6 HB5.out.size); clear hA6 hT6)
    | (go_at_call 13; refine HA4.out.peak.mono ?_; rintro e w5 ⟨rfl, hA5, hT5⟩; have HA5 := hid hA5; have HB5 := hid (HA4.out.below HB4.out hT5 HB4.out.size); clear hA5 hT5)
    | (go_at_call 12; refine HA3.out.free.mono ?_; rintro e w4 ⟨rfl, hA4, hT4⟩; have HA4 := hid hA4; have HB4 := hid (HA3.out.below HB3.out hT4 HB3.out.size); clear hA4 hT4)
    | (go_at_call 11; refine HA2.out.used.mono ?_; rintro e w3 ⟨rfl, hA3, hT3⟩; have HA3 := hid hA3; have HB3 := hid (HA2.out.below HB2.out hT3 HB2.out.size); clear hA3 hT3)
    | (go_at_call 10; refine (HA1.out.take 4).mono ?_; rintro e w2 ⟨rfl, hA2, hT2⟩; have HA2 := hid hA2; have HB2 := hid (HA1.out.below HB1.out hT2 HB1.out.size); clear hA2 hT2)
    | (go_at_call 8; refine HN.out.mono ?_; rintro e w1 ⟨b, lb, rfl, hA1, hT1⟩; have HA1 := hid hA1; have HB1 := hid (hT1.below (Nat.le_refl _) (by simp)); clear hA1 hT1))
  go_ret
  exact ⟨rfl, HB6.out⟩
end
end Go.Proofs.Ytbanhpohnhjciaa
