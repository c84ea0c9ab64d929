import Derived.Test.YtclplbnildnifaaGreatDoorZ10
/-
  Desk.Last.
-/
namespace Go.Proofs.YtclplbnildnifaaGreatDoor
open Go.RowKit Go.Deep
set_option linter.unusedSimpArgs false
set_option linter.unusedVariables false

section
variable {w w' : World} {b : Bn} {n : Nat} {A : PubA} {s : Pu.St} {F : List Nat} {kb : Nat} {K : Nat} {T : Int} {x : ByteArray}

/-- a reader that has just been made. -/
abbrev rfresh (kb : Nat) (x : ByteArray) (kind : Int) (bk : Bool) (l : Int) : Array Value := #[ptr kb, .string x, .int .i64 kind, .slice none 0 0, .int .i64 0, .bool false, .bool bk, .int .i64 l, .int .i64 0]

set_option maxRecDepth 100000 in
set_option maxHeartbeats 4000000 in
theorem Last_of (S : Stand w b n A s F) (hn : n < 1099511627776) (hk : DeskAt w kb b K T) (hkF : kb ∉ F) {kind : Nat} (he : holdE A s K (kind : Int) [x] [] = 0) {r : Rc} {sm : Bool} {er : Int} {n2 : Nat} {A2 : PubA}
    (HN : ∀ w1 F1 rb, Stand w1 b n A (s.take K) F1 → DeskAt w1 kb b K T → kb ∉ F1 → rb ∉ F1 → b.lo ≤ rb → rb ≠ kb → w1.heap[rb]? = some (.cells (rfresh kb x (kind : Int) true (lengthB x A).1) 106 (0, 0)) →
      Calls Tryz.prog 13 #[ptr rb] w1 fun e w' => e = .returned (.tuple #[r.val, .bool sm, .int .i64 er]) ∧ Went w1 w' b n2 A2 (s.take K) F1 [rb] ∧ ∃ lv dead blocks taken, w'.heap[rb]? = some (.cells (rrow kb x kind lv dead true blocks taken) 106 (0, 0))) :
    Calls Tryz.prog 16 #[ptr kb, .string x, .int .i64 (kind : Int)] w fun e w' => e = .returned (.tuple #[r.val, .bool sm, .int .i64 er]) ∧ Went w w' b n2 A2 ((s.take K).give K) F [] := by
  obtain ⟨W, hW⟩ : ∃ W, W = w.alloc (.cells #[.int .u64 0, .int .u64 0, .int .u64 0, .int .u64 0] 38) := ⟨_, rfl⟩
  have t0 : Touch [] w W := by rw [hW]; exact (Touch.refl [] w).alloc _
  have hb : W.heap[w.heap.size]? = some (.cells #[.int .u64 0, .int .u64 0, .int .u64 0, .int .u64 0] 38) := by rw [hW]; exact heap_alloc_new w _
  have HB0 := hid (TBack_ok (S.quiet t0) hn (hk.touch t0 (by simp)) hkF x (kind : Int) he)
  have HS := hid S
  have HK := hid hk
  have HKF := hid hkF
  have HNN := hid HN
  have HT0 := hid t0
  have HE := hid hW
  have HB := hid hb
  have hlb := lt_of_block hb
  have lk := lt_of_block hk
  clear S hk hkF he HN t0 hW hb
  go_enter_defers Tryz.func16, Tryz.ntmps16
  go_wp2_with fail
  rw [← HE.out]
  refine HB0.out.mono ?_
  rintro e w1 ⟨rb, rfl, hg, hr1⟩
  obtain ⟨F1, S1, t1, f1, h1⟩ := hg
  obtain ⟨h2, h3, h4⟩ := h1 rb (by simp)
  have hsz := HT0.out.size
  have nb : w.heap.size ∉ [] ++ F := by simp; exact fun h => Nat.lt_irrefl _ (HS.out.lt _ h)
  have hb1 := (t1.block w.heap.size hlb nb).trans HB.out
  have nb1 : w.heap.size ∉ F1 := fun hx => by
    rcases f1 _ hx with h | h
    · exact Nat.lt_irrefl _ (HS.out.lt _ h)
    · omega
  have hk1 : DeskAt w1 kb b K T := (HK.out.touch HT0.out (by simp)).touch t1 (by simpa using HKF.out)
  have nk1 : kb ∉ F1 := fun hx => by
    rcases f1 _ hx with h | h
    · exact HKF.out h
    · omega
  have hlo : b.lo ≤ rb := by have := HS.out.room; omega
  have hne : rb ≠ kb := by omega
  have HX := hid (HNN.out w1 F1 rb S1 hk1 nk1 h2 hlo hne hr1)
  have HS1 := hid S1
  have HT1 := hid t1
  have HF1 := hid f1
  have HK1 := hid hk1
  have HB1 := hid hb1
  have hlt1 := lt_of_block hb1
  clear S1 t1 f1 h1 hb1 hk1 hr1
  go_wp2_with fail
  refine HX.out.mono ?_
  rintro e w2 ⟨rfl, hg, hex⟩
  obtain ⟨F2, S2, t2, f2⟩ := hg
  obtain ⟨lv, dead, blocks, taken, hr2⟩ := hex
  have nbr : w.heap.size ≠ rb := by omega
  have hb2 := (t2.block w.heap.size hlt1 (by simp; exact ⟨nbr, nb1⟩)).trans HB1.out
  have qb := fun i => cell_row hb2 i
  have ub := fun i => unfrozen_row hb2 i
  have HS2 := hid S2
  have HT2 := hid t2
  have HF2 := hid f2
  have HR2 := hid hr2
  have HB2 := hid hb2
  clear S2 t2 f2 hr2 hb2
  go_wp2_with fail
  obtain ⟨W2, hW2, q2, t3⟩ := box4 HB2.out (.int .u64 (r.1 : Int)) (.int .u64 (r.2.1 : Int)) (.int .u64 (r.2.2.1 : Int)) (.int .u64 (r.2.2.2 : Int))
  rw [← hW2]
  clear qb ub hW2
  have nb2 : w.heap.size ∉ F2 := fun hx => by
    rcases HF2.out _ hx with h | h
    · exact nb1 h
    · omega
  have nr2 : rb ∉ F2 := fun hx => by
    rcases HF2.out _ hx with h | h
    · exact h2 h
    · omega
  have nk2 : kb ∉ F2 := fun hx => by
    rcases HF2.out _ hx with h | h
    · exact nk1 h
    · have := HT1.out.size; omega
  have S3 : Stand W2 b n2 A2 (s.take K) F2 := HS2.out.touch t3 (fun y hy => by simp at hy; subst hy; exact ⟨nb2, HS.out.room⟩)
  have hk3 : DeskAt W2 kb b K T := (HK1.out.touch HT2.out (by simp; exact ⟨fun e => by omega, nk1⟩)).touch t3 (by simp; omega)
  have hr3 := (t3.block rb (lt_of_block HR2.out) (by simp; omega)).trans HR2.out
  refine leaves_cons (f := 14) (args := #[ptr rb]) (by simp) (by simp [go_sem]) ?_
  refine (RClose_d S3 hk3 nk2 hr3 nr2 hlo hne .returning).mono ?_
  rintro e u' w4 ⟨rfl, rfl, hg4⟩
  obtain ⟨F4, S4, t4, f4⟩ := hg4
  have q4 := (t4.block w.heap.size (lt_of_block q2) (by simp; exact ⟨nbr, nb2⟩)).trans q2
  have q := fun i => cell_row q4 i
  refine ⟨.tuple #[r.val, .bool sm, .int .i64 er], by simp [results, Tryz.results16, go_sem, q], rfl, F4, S4, ?_, fun y hy => ?_⟩
  · have ta : Touch F w w1 := (HT0.out.mono (by simp)).trans HT1.out (fun y hy => .inl (by simpa using hy))
    have tb : Touch F w w2 := ta.trans HT2.out (fun y hy => by
      rcases List.mem_append.1 hy with h | h
      · simp at h; subst h; right; omega
      · rcases HF1.out y h with h | h
        · exact .inl h
        · exact .inr (by omega))
    have tc : Touch F w W2 := tb.trans t3 (fun y hy => by simp at hy; subst hy; exact .inr (Nat.le_refl _))
    refine (tc.trans t4 (fun y hy => ?_)).mono (by simp)
    rcases List.mem_append.1 hy with h | h
    · simp at h; subst h; right; omega
    · rcases HF2.out y h with h | h
      · rcases HF1.out y h with h | h
        · exact .inl h
        · exact .inr (by omega)
      · exact .inr (by have := ta.size; omega)
  · have ta := HT1.out.size
    have tb := HT2.out.size
    have tc := t3.size
    rcases f4 y hy with h | h
    · rcases HF2.out y h with h | h
      · rcases HF1.out y h with h | h
        · exact .inl h
        · exact .inr (by omega)
      · exact .inr (by omega)
    · exact .inr (by omega)
end
end Go.Proofs.YtclplbnildnifaaGreatDoor
/-
  Desk.Size.
-/
namespace Go.Proofs.YtclplbnildnifaaGreatDoor
open Go.RowKit Go.Deep
set_option linter.unusedSimpArgs false
set_option linter.unusedVariables false

section
variable {w w' : World} {b : Bn} {n : Nat} {A : PubA} {s : Pu.St} {F : List Nat} {kb : Nat} {K : Nat} {T : Int} {x : ByteArray}

set_option maxRecDepth 100000 in
set_option maxHeartbeats 4000000 in
theorem Size_no (S : Stand w b n A s F) (hn : n < 1099511627776) (hk : DeskAt w kb b K T) (hkF : kb ∉ F) {kind : Nat} (he : holdE A s K (kind : Int) [x] [] = 0) {er : Int} {n2 : Nat} {A2 : PubA}
    (HN : ∀ w1 F1 rb, Stand w1 b n A (s.take K) F1 → DeskAt w1 kb b K T → kb ∉ F1 → rb ∉ F1 → b.lo ≤ rb → rb ≠ kb → w1.heap[rb]? = some (.cells (rfresh kb x (kind : Int) true (lengthB x A).1) 106 (0, 0)) →
      Calls Tryz.prog 42 #[ptr rb] w1 fun e w' => e = .returned (.tuple #[zeroR, .bool false, .int .i64 er]) ∧ Went w1 w' b n2 A2 (s.take K) F1 [rb] ∧ ∃ lv dead blocks taken, w'.heap[rb]? = some (.cells (rrow kb x kind lv dead true blocks taken) 106 (0, 0))) :
    Calls Tryz.prog 17 #[ptr kb, .string x, .int .i64 (kind : Int)] w fun e w' => e = .returned (.tuple #[.int .i64 0, .int .i64 er]) ∧ Went w w' b n2 A2 ((s.take K).give K) F [] := by
  have HB0 := hid (TBack_ok S hn hk hkF x (kind : Int) he)
  have HS := hid S
  have HK := hid hk
  have HKF := hid hkF
  have HNN := hid HN
  have lk := lt_of_block hk
  clear S hk hkF he HN
  go_enter_defers Tryz.func17, Tryz.ntmps17
  go_wp2_with fail
  refine HB0.out.mono ?_
  rintro e w1 ⟨rb, rfl, hg, hr1⟩
  obtain ⟨F1, S1, t1, f1, h1⟩ := hg
  obtain ⟨h2, h3, h4⟩ := h1 rb (by simp)
  have hk1 : DeskAt w1 kb b K T := HK.out.touch t1 (by simpa using HKF.out)
  have nk1 : kb ∉ F1 := fun hx => by
    rcases f1 _ hx with h | h
    · exact HKF.out h
    · omega
  have hlo : b.lo ≤ rb := by have := HS.out.room; omega
  have hne : rb ≠ kb := by omega
  have HX := hid (HNN.out w1 F1 rb S1 hk1 nk1 h2 hlo hne hr1)
  have HS1 := hid S1
  have HT1 := hid t1
  have HF1 := hid f1
  have HK1 := hid hk1
  clear S1 t1 f1 h1 hk1 hr1
  go_wp2_with fail
  refine HX.out.mono ?_
  rintro e w2 ⟨rfl, hg, hex⟩
  obtain ⟨F2, S2, t2, f2⟩ := hg
  obtain ⟨lv, dead, blocks, taken, hr2⟩ := hex
  have HS2 := hid S2
  have HT2 := hid t2
  have HF2 := hid f2
  have HR2 := hid hr2
  clear S2 t2 f2 hr2
  go_wp2_with fail
  obtain ⟨W2, hW2⟩ : ∃ W2, W2 = w2.alloc (.cells #[.int .u64 0, .int .u64 0, .int .u64 0, .int .u64 0] 38) := ⟨_, rfl⟩
  have t3 : Touch [] w2 W2 := by rw [hW2]; exact (Touch.refl [] w2).alloc _
  rw [← hW2]
  clear hW2
  have nr2 : rb ∉ F2 := fun hx => by
    rcases HF2.out _ hx with h | h
    · exact h2 h
    · omega
  have nk2 : kb ∉ F2 := fun hx => by
    rcases HF2.out _ hx with h | h
    · exact nk1 h
    · have := HT1.out.size; omega
  have S3 : Stand W2 b n2 A2 (s.take K) F2 := HS2.out.quiet t3
  have hk3 : DeskAt W2 kb b K T := (HK1.out.touch HT2.out (by simp; exact ⟨fun e => by omega, nk1⟩)).touch t3 (by simp)
  have hr3 := (t3.block rb (lt_of_block HR2.out) (by simp)).trans HR2.out
  refine leaves_cons (f := 14) (args := #[ptr rb]) (by simp) (by simp [go_sem]) ?_
  refine (RClose_d S3 hk3 nk2 hr3 nr2 hlo hne .returning).mono ?_
  rintro e u' w4 ⟨rfl, rfl, hg4⟩
  obtain ⟨F4, S4, t4, f4⟩ := hg4
  refine ⟨.tuple #[.int .i64 0, .int .i64 er], by simp [results, Tryz.results17, go_sem], rfl, F4, S4, ?_, fun y hy => ?_⟩
  · have ta : Touch F w w1 := HT1.out.mono (by simp)
    have tb : Touch F w w2 := ta.trans HT2.out (fun y hy => by
      rcases List.mem_append.1 hy with h | h
      · simp at h; subst h; right; omega
      · rcases HF1.out y h with h | h
        · exact .inl h
        · exact .inr (by omega))
    have tc : Touch F w W2 := tb.trans t3 (by simp)
    refine (tc.trans t4 (fun y hy => ?_)).mono (by simp)
    rcases List.mem_append.1 hy with h | h
    · simp at h; subst h; right; omega
    · rcases HF2.out y h with h | h
      · rcases HF1.out y h with h | h
        · exact .inl h
        · exact .inr (by omega)
      · exact .inr (by have := ta.size; omega)
  · have ta := HT1.out.size
    have tb := HT2.out.size
    have tc := t3.size
    rcases f4 y hy with h | h
    · rcases HF2.out y h with h | h
      · rcases HF1.out y h with h | h
        · exact .inl h
        · exact .inr (by omega)
      · exact .inr (by omega)
    · exact .inr (by omega)

set_option maxRecDepth 100000 in
set_option maxHeartbeats 4000000 in
theorem Size_some (S : Stand w b n A s F) (hn : n < 1099511627776) (hk : DeskAt w kb b K T) (hkF : kb ∉ F) {kind : Nat} (he : holdE A s K (kind : Int) [x] [] = 0) {r : Rc} {L blocks : Nat} (hbl : 1 ≤ blocks) (hbl2 : blocks ≤ 1099511627776) (hKb : K ≤ 2047) (hLb : L ≤ 2047) {n2 : Nat} {A2 : PubA}
    (HN : ∀ w1 F1 rb, Stand w1 b n A (s.take K) F1 → DeskAt w1 kb b K T → kb ∉ F1 → rb ∉ F1 → b.lo ≤ rb → rb ≠ kb → w1.heap[rb]? = some (.cells (rfresh kb x (kind : Int) true (lengthB x A).1) 106 (0, 0)) →
      Calls Tryz.prog 42 #[ptr rb] w1 fun e w' => e = .returned (.tuple #[r.val, .bool true, .int .i64 0]) ∧ Went w1 w' b n2 A2 (s.take K) F1 [rb] ∧ ∃ g taken, w'.heap[rb]? = some (.cells (rrow kb x kind (.slice (some ⟨g, 0, none⟩) L L) 0 true blocks taken) 106 (0, 0))) :
    Calls Tryz.prog 17 #[ptr kb, .string x, .int .i64 (kind : Int)] w fun e w' => e = .returned (.tuple #[.int .i64 ((((blocks - 1) * K + L : Nat) : Int)), .int .i64 0]) ∧ Went w w' b n2 A2 ((s.take K).give K) F [] := by
  have HB0 := hid (TBack_ok S hn hk hkF x (kind : Int) he)
  have HS := hid S
  have HK := hid hk
  have HKF := hid hkF
  have HNN := hid HN
  have lk := lt_of_block hk
  clear S hk hkF he HN
  go_enter_defers Tryz.func17, Tryz.ntmps17
  go_wp2_with fail
  refine HB0.out.mono ?_
  rintro e w1 ⟨rb, rfl, hg, hr1⟩
  obtain ⟨F1, S1, t1, f1, h1⟩ := hg
  obtain ⟨h2, h3, h4⟩ := h1 rb (by simp)
  have hk1 : DeskAt w1 kb b K T := HK.out.touch t1 (by simpa using HKF.out)
  have nk1 : kb ∉ F1 := fun hx => by
    rcases f1 _ hx with h | h
    · exact HKF.out h
    · omega
  have hlo : b.lo ≤ rb := by have := HS.out.room; omega
  have hne : rb ≠ kb := by omega
  have HX := hid (HNN.out w1 F1 rb S1 hk1 nk1 h2 hlo hne hr1)
  have HS1 := hid S1
  have HT1 := hid t1
  have HF1 := hid f1
  have HK1 := hid hk1
  clear S1 t1 f1 h1 hk1 hr1
  go_wp2_with fail
  refine HX.out.mono ?_
  rintro e w2 ⟨rfl, hg, hex⟩
  obtain ⟨F2, S2, t2, f2⟩ := hg
  obtain ⟨g, taken, hr2⟩ := hex
  have HS2 := hid S2
  have HT2 := hid t2
  have HF2 := hid f2
  have HR2 := hid hr2
  have lr2 := lt_of_block hr2
  have d3 := cell_row hr2 3
  have d7 := cell_row hr2 7
  have hk2 : DeskAt w2 kb b K T := HK1.out.touch t2 (by simp; exact ⟨fun e => by omega, nk1⟩)
  have lk2 := lt_of_block hk2
  have dk := cell_row hk2 2
  simp only [List.getElem?_toArray, List.getElem?_cons_zero, List.getElem?_cons_succ] at d3 d7 dk
  have hm : ((blocks : Int) - 1) * (K : Int) = (((blocks - 1) * K : Nat) : Int) := by
    have : ((blocks : Int) - 1) = ((blocks - 1 : Nat) : Int) := by omega
    rw [this]; simp
  have hmb : (blocks - 1) * K ≤ 1099511627776 * 2047 := Nat.mul_le_mul (by omega) hKb
  have HMB : Hid (0 ≤ ((blocks - 1 : Nat) : Int) * (K : Int) + (L : Int) ∧ ((blocks - 1 : Nat) : Int) * (K : Int) + (L : Int) ≤ 1099511627776 * 2047 + 2047) := by
    have e : ((blocks - 1 : Nat) : Int) * (K : Int) = (((blocks - 1) * K : Nat) : Int) := by simp
    rw [e]
    exact ⟨by omega, by omega⟩
  have hw1 : IntKind.i64.wrap ((blocks : Int) - 1) = (blocks : Int) - 1 := by rw [IntKind.wrap_i64]; omega
  have hw2 : IntKind.i64.wrap (((blocks : Int) - 1) * (K : Int)) = (((blocks - 1) * K : Nat) : Int) := by rw [hm, IntKind.wrap_i64]; omega
  have hw3 : IntKind.i64.wrap ((((blocks - 1) * K : Nat) : Int) + (L : Int)) = (((blocks - 1) * K + L : Nat) : Int) := by rw [IntKind.wrap_i64]; omega
  have e4 : ∀ o : Obj, (w2.alloc o).cell? ⟨rb, 3, none⟩ = some (.slice (some ⟨g, 0, none⟩) L L) := fun o => (World.cell?_of_block (Below.heap_alloc w2 o rb lr2)).trans d3
  have e5 : ∀ o : Obj, (w2.alloc o).cell? ⟨rb, 7, none⟩ = some (.int .i64 (blocks : Int)) := fun o => (World.cell?_of_block (Below.heap_alloc w2 o rb lr2)).trans d7
  have e6 : ∀ o : Obj, (w2.alloc o).cell? ⟨kb, 2, none⟩ = some (.int .i64 (K : Int)) := fun o => (World.cell?_of_block (Below.heap_alloc w2 o kb lk2)).trans dk
  clear hm hmb hbl hbl2 hKb hLb d3 d7 dk hk2
  clear S2 t2 f2 hr2
  go_wp2_with fail
  go_quiet (fail)
  go_wp2_with fail
  obtain ⟨W2, hW2⟩ : ∃ W2, W2 = (w2.alloc (.cells #[.int .u64 (r.1 : Int), .int .u64 (r.2.1 : Int), .int .u64 (r.2.2.1 : Int), .int .u64 (r.2.2.2 : Int)] 38)).drewN nq := ⟨_, rfl⟩
  have t3 : Touch [] w2 W2 := by rw [hW2]; exact ((Touch.refl [] w2).alloc _).drewN nq
  rw [← hW2]
  clear hW2
  have nr2 : rb ∉ F2 := fun hx => by
    rcases HF2.out _ hx with h | h
    · exact h2 h
    · omega
  have nk2 : kb ∉ F2 := fun hx => by
    rcases HF2.out _ hx with h | h
    · exact nk1 h
    · have := HT1.out.size; omega
  have S3 : Stand W2 b n2 A2 (s.take K) F2 := HS2.out.quiet t3
  have hk3 : DeskAt W2 kb b K T := (HK1.out.touch HT2.out (by simp; exact ⟨fun e => by omega, nk1⟩)).touch t3 (by simp)
  have hr3 := (t3.block rb (lt_of_block HR2.out) (by simp)).trans HR2.out
  refine leaves_cons (f := 14) (args := #[ptr rb]) (by simp) (by simp [go_sem]) ?_
  refine (RClose_d S3 hk3 nk2 hr3 nr2 hlo hne .returning).mono ?_
  rintro e u' w4 ⟨rfl, rfl, hg4⟩
  obtain ⟨F4, S4, t4, f4⟩ := hg4
  refine ⟨.tuple #[.int .i64 ((((blocks - 1) * K + L : Nat) : Int)), .int .i64 0], by simp [results, Tryz.results17, go_sem]; exact IntWalk.wrap64_in _ ⟨by have h1 := HMB.out; omega, by have h1 := HMB.out; omega⟩, rfl, F4, S4, ?_, fun y hy => ?_⟩
  · have ta : Touch F w w1 := HT1.out.mono (by simp)
    have tb : Touch F w w2 := ta.trans HT2.out (fun y hy => by
      rcases List.mem_append.1 hy with h | h
      · simp at h; subst h; right; omega
      · rcases HF1.out y h with h | h
        · exact .inl h
        · exact .inr (by omega))
    have tc : Touch F w W2 := tb.trans t3 (by simp)
    refine (tc.trans t4 (fun y hy => ?_)).mono (by simp)
    rcases List.mem_append.1 hy with h | h
    · simp at h; subst h; right; omega
    · rcases HF2.out y h with h | h
      · rcases HF1.out y h with h | h
        · exact .inl h
        · exact .inr (by omega)
      · exact .inr (by have := ta.size; omega)
  · have ta := HT1.out.size
    have tb := HT2.out.size
    have tc := t3.size
    rcases f4 y hy with h | h
    · rcases HF2.out y h with h | h
      · rcases HF1.out y h with h | h
        · exact .inl h
        · exact .inr (by omega)
      · exact .inr (by omega)
    · exact .inr (by omega)
end
end Go.Proofs.YtclplbnildnifaaGreatDoor
/-
  The disk of one tape, by its calls (pure).
-/
namespace Go.Proofs.YtclplbnildnifaaGreatDoor
open Go.RowKit Go.Deep
set_option linter.unusedSimpArgs false
set_option linter.unusedVariables false

abbrev nmA : ByteArray := ⟨#[97]⟩
theorem nameA_ok : nameB nmA = true := by decide
def mkA (B : Nat) (sealed : Bool) (bs : List (List UInt8)) (c r : Int) : PubA := ⟨B, 1099511627776, true, [(nm nmA, ⟨sealed, bs⟩)], ⟨c, r, bs.length, 0, 0, bs.length, bs.length⟩⟩
def mk0 (B : Nat) : PubA := ⟨B, 1099511627776, true, [], ⟨0, 0, 0, 0, 0, 0, 0⟩⟩
abbrev noTr : TrA := ⟨0, 0, 0⟩

theorem find_one (f : FileA) : findA [(nm nmA, f)] (nm nmA) = some f := by simp [findA]
theorem set_one (f f' : FileA) : setA (nm nmA) f' [(nm nmA, f)] = [(nm nmA, f')] := by simp [setA]

theorem create_mk (B : Nat) : createB nmA noTr (mk0 B) = (0, mkA B false [] 1 0) := by
  simp [createB, befX, createA, nameA_ok, mk0, mkA, findA, insA]
theorem append_mk {B : Nat} {bs : List (List UInt8)} {c r : Int} {bl : List UInt8} (hl : bl.length = B) (hb : bs.length < 1099511627776) : appendB nmA bl noTr (mkA B false bs c r) = (0, mkA B false (bs ++ [bl]) (c + 1) r) := by
  have h1 : ¬ (1099511627776 : Int) ≤ (bs.length : Int) := by omega
  simp only [appendB, befX, appendA, nameA_ok, mkA, find_one, set_one, if_true, if_pos, Bool.false_eq_true, if_false, hl, ne_eq, not_true_eq_false, h1, List.length_append, List.length_cons, List.length_nil]
  simp
  omega
theorem seal_mk {B : Nat} {bs : List (List UInt8)} {c r : Int} : sealB nmA noTr (mkA B false bs c r) = (0, mkA B true bs (c + 1) r) := by
  simp [sealB, befX, sealA, nameA_ok, mkA, find_one, set_one]
theorem read_mk {B : Nat} {bs : List (List UInt8)} {c r : Int} {i : Nat} (hi : i < bs.length) : readB nmA (i : Int) noTr (mkA B true bs c r) = (bs[i]?, 0, mkA B true bs (c + 1) (r + 1)) := by
  simp [readB, readX, readA, nameA_ok, mkA, find_one, hi]
theorem length_mk {B : Nat} {bs : List (List UInt8)} {c r : Int} {sl : Bool} : lengthB nmA (mkA B sl bs c r) = ((bs.length : Int), sl, 0) := by
  simp [lengthB, lengthA, nameA_ok, mkA, find_one]
theorem length_mk0 {B : Nat} : lengthB nmA (mk0 B) = (0, false, 12) := by
  simp [lengthB, lengthA, nameA_ok, mk0, findA]
theorem hold_mk0 {B : Nat} {s : Pu.St} {K kind : Int} (hk : 1 ≤ kind ∧ kind ≤ 5) (hl : Pu.leaveE s K = 0) : holdE (mk0 B) s K kind [] [nmA] = 0 := by
  unfold holdE
  rw [if_neg (by omega)]
  have : readyE (mk0 B) [] [nmA] = 0 := by
    have hm : makeE (mk0 B) nmA = 0 := by unfold makeE; rw [length_mk0]; rfl
    unfold readyE
    rw [if_neg (by simp [mk0]), readyOut_cons hm (by simp)]
    simp [readyOut, readyIn]
  rw [this]
  simp [hl]
theorem hold_mk {B : Nat} {bs : List (List UInt8)} {c r : Int} {s : Pu.St} {K kind : Int} (hk : 1 ≤ kind ∧ kind ≤ 5) (hl : Pu.leaveE s K = 0) : holdE (mkA B true bs c r) s K kind [nmA] [] = 0 := by
  unfold holdE
  rw [if_neg (by omega)]
  have : readyE (mkA B true bs c r) [nmA] [] = 0 := by
    unfold readyE
    rw [if_neg (by simp [mkA])]
    simp [readyOut, readyIn, readE, readOf, length_mk]
  rw [this]
  simp [hl]

/-! ### one turned bit -/

/-! ### a block with records, read back -/
def smallR (l : List Rc) : Prop := ∀ y ∈ flatR l, y < 18446744073709551616
structure Good (kind place : Nat) (bl : List UInt8) (l : List Rc) : Prop where
  sum : PureCrc.sumFits (numsU bl)
  formed : PureCrc.Formed (numsU bl)
  kind : (numsU bl).getD 5 0 = kind
  place : PureCrc.num (PureCrc.cut (numsU bl) 8 8) = place
  count : PureCrc.count (numsU bl) = l.length
  words : PureCrc.words (4 * PureCrc.count (numsU bl)) ((numsU bl).drop 28) = flatR l
theorem encU_good {kind place B : Nat} {l : List Rc} (hk1 : 1 ≤ kind) (hk2 : kind ≤ 5) (hl : 1 ≤ l.length) (hK : l.length ≤ B / 32 - 1) (h64 : 64 ≤ B) (hmax : B ≤ 65536) (hs : smallR l) (hp : place < 9223372036854775808) : Good kind place (encU kind place (flatR l) B) l := by
  have hw := flatR_length l
  have hd : (flatR l).length / 4 = l.length := by omega
  have hB : 32 + 8 * (flatR l).length ≤ B := by omega
  have e : numsU (encU kind place (flatR l) B) = PureCrc.enc kind place l.length (flatR l) B := by
    unfold encU
    rw [hd, nums_bytes (PureCrc.enc_lt (by omega))]
  have hc : PureCrc.count (PureCrc.enc kind place l.length (flatR l) B) = l.length := PureCrc.enc_count (by omega)
  refine ⟨?_, ?_, ?_, ?_, ?_, ?_⟩
  · rw [e]; exact PureCrc.enc_fits (by omega) hB
  · rw [e]; exact PureCrc.enc_formed (by omega) (by omega) hl (by omega) hK hB
  · rw [e]; exact PureCrc.enc_kind
  · rw [e]; exact PureCrc.enc_place (by omega)
  · rw [e]; exact hc
  · rw [e, hc, ← hw]
    exact PureCrc.enc_words (fun y hy => hs y hy)
theorem encU_length {kind place B : Nat} {l : List Rc} (hB : 32 + 8 * (flatR l).length ≤ B) : (encU kind place (flatR l) B).length = B := by
  unfold encU
  rw [bytesU_length, PureCrc.enc_length hB]

/-! ### a list in parts -/
/-- part j of a list, K records each. -/
def chunk (K j : Nat) (l : List Rc) : List Rc := (l.drop (j * K)).take K
def nBlocks (K len : Nat) : Nat := (len + K - 1) / K
def blocksOf (kind K B : Nat) (l : List Rc) (m : Nat) : List (List UInt8) := (List.range m).map fun j => encU kind j (flatR (chunk K j l)) B
theorem blocksOf_succ (kind K B : Nat) (l : List Rc) (m : Nat) : blocksOf kind K B l (m + 1) = blocksOf kind K B l m ++ [encU kind m (flatR (chunk K m l)) B] := by
  simp [blocksOf, List.range_succ]
theorem blocksOf_length (kind K B : Nat) (l : List Rc) (m : Nat) : (blocksOf kind K B l m).length = m := by simp [blocksOf]
theorem blocksOf_get {kind K B : Nat} {l : List Rc} {m j : Nat} (h : j < m) : (blocksOf kind K B l m)[j]? = some (encU kind j (flatR (chunk K j l)) B) := by
  simp [blocksOf, h]
end Go.Proofs.YtclplbnildnifaaGreatDoor
/-
  rest, K, NewDesk, desk.
-/
namespace Go.Proofs.YtclplbnildnifaaGreatDoor
open Go.RowKit Go.Deep
set_option linter.unusedSimpArgs false
set_option linter.unusedVariables false

theorem rest_num (n m : Int) (hm : 0 < m) : (0 ≤ n.tmod m ∧ n.tmod m = n % m) ∨ (n.tmod m < 0 ∧ n.tmod m + m = n % m) := by
  by_cases h : 0 ≤ n
  · rw [Int.tmod_eq_emod_of_nonneg h]
    exact .inl ⟨Int.emod_nonneg _ (by omega), rfl⟩
  · have h1 : n.tmod m = -((-n) % m) := by
      have e : n = -(-n) := by omega
      rw [e, Int.neg_tmod, Int.tmod_eq_emod_of_nonneg (by omega)]
      simp
    have h2 := Int.emod_nonneg (-n) (show m ≠ 0 by omega)
    have h3 := Int.emod_lt_of_pos (-n) hm
    by_cases h0 : (-n) % m = 0
    · left
      rw [h1, h0]
      refine ⟨by omega, ?_⟩
      have h4 : m ∣ n := (Int.dvd_neg).1 (Int.dvd_of_emod_eq_zero h0)
      rw [Int.emod_eq_zero_of_dvd h4]
      rfl
    · right
      refine ⟨by omega, ?_⟩
      rw [h1]
      have hd := Int.emod_add_mul_ediv (-n) m
      have e : n = (m - (-n) % m) + m * (-((-n) / m) - 1) := by rw [Int.mul_sub, Int.mul_neg]; omega
      have h5 : n % m = m - (-n) % m := by
        have h6 : n % m = ((m - (-n) % m) + m * (-((-n) / m) - 1)) % m := congrArg (· % m) e
        rw [h6, Int.add_mul_emod_self_left, Int.emod_eq_of_lt (by omega) (by omega)]
      rw [h5]
      omega

section
variable {w w' : World} {b : Bn} {n : Nat} {A : PubA} {s : Pu.St} {F : List Nat} {kb : Nat} {K : Nat} {T : Int} {x : ByteArray}

set_option maxRecDepth 100000 in
theorem rest_any (k m : Int) (hm : 0 < m) (hm2 : m ≤ 1099511627776) (w : World) : Calls Tryz.prog 10 #[.int .i64 k, .int .i64 m] w fun e w' => e = .returned (.int .i64 (k % m)) ∧ w' = w := by
  have h1 := Int.emod_nonneg k (show m ≠ 0 by omega)
  have h2 := Int.emod_lt_of_pos k hm
  have hne : ¬ m = 0 := by omega
  rcases rest_num k m hm with ⟨h3, h4⟩ | ⟨h3, h4⟩
  · have HQ := hid h4
    have hlt : ¬ k.tmod m < 0 := by omega
    clear h4
    go_enter Tryz.func10, Tryz.ntmps10
    go_wp2
    go_ret
    exact ⟨by rw [← HQ.out]; rfl, rfl⟩
  · have HQ := hid h4
    have hw : IntKind.i64.wrap (k.tmod m + m) = k.tmod m + m := by rw [IntKind.wrap_i64]; omega
    clear h4
    go_enter Tryz.func10, Tryz.ntmps10
    go_wp2
    go_ret
    exact ⟨by rw [← HQ.out]; rfl, rfl⟩

set_option maxRecDepth 100000 in
theorem K_any (hk : DeskAt w kb b K T) : Calls Tryz.prog 8 #[ptr kb] w fun e w' => e = .returned (.int .i64 (K : Int)) ∧ w' = w := by
  have c := cell_row hk 2
  simp at c
  clear hk
  go_enter Tryz.func8, Tryz.ntmps8
  go_wp2
  go_ret
  exact ⟨rfl, rfl⟩

set_option maxRecDepth 100000 in
theorem NewDesk_ok (S : Stand w b n A s F) (hA : Fits A K) (hK : 1 ≤ K) : Calls Tryz.prog 34 #[ptr b.p, ptr b.q] w fun e w' => ∃ kb, e = .returned (.tuple #[ptr kb, .int .i64 0]) ∧ DeskAt w' kb b K 1 ∧ Touch [] w w' ∧ w.heap.size ≤ kb := by
  have HB := hid (fun W (t : Touch [] w W) => block_s (S.quiet t))
  have hf : Rx.fitN (A.B : Int) = (K : Int) := by
    unfold Rx.fitN
    have h1 := hA.h64
    have h2 := hA.hmax
    have h3 := hA.h32
    have h4 := hA.k
    rw [if_pos (by omega)]
    omega
  have HF := hid (fun W => Rx.fit_any (A.B : Int) W)
  rw [hf] at HF
  have hne : ¬ (K : Int) = 0 := by omega
  clear S hA hf
  go_enter Tryz.func34, Tryz.ntmps34
  go_wp2_with (first
    | (go_at_call 9; refine (HB.out _ (Touch.refl _ _)).mono ?_; rintro e w1 ⟨rfl, hh⟩; have hh := hh.symm; subst hh)
    | (go_at_call 76; refine (HF.out _).mono ?_; rintro e w1 ⟨rfl, hh⟩; have hh := hh.symm; subst hh))
  go_ret2
  exact ⟨w.heap.size, rfl, heap_alloc_new w _, (Touch.refl [] w).alloc _, Nat.le_refl _⟩

/-- where the desk's world begins. -/
theorem stand_new {E : Nat → Addr} {lo p mf mt q lb : Nat} {B : Nat} (V : Env w lo E) (R : Rep w lo p mf mt (.new B 1099511627776)) (h1 : 64 ≤ B) (h2 : B ≤ 65536) {lim : Int} (hl : 0 ≤ lim ∧ lim ≤ 9223372036854775807) (hp : Pu.PurseAt w q (.new lim lb)) (hlk : Pu.LockAt w lb 0) (hne : q ≠ lb) (hq : q ∉ DiskC.foot (.new B 1099511627776) p mf mt) (hlb : lb ∉ DiskC.foot (.new B 1099511627776) p mf mt) (hlo : lo ≤ q ∧ lo ≤ lb) :
    Stand w ⟨E, lo, p, mf, mt, q, []⟩ 0 (mk0 B) (.new lim lb) (q :: lb :: DiskC.foot (.new B 1099511627776) p mf mt) := by
  refine ⟨⟨_, ⟨.new B 1099511627776, R, rfl, ?_, rfl⟩, rfl, hq, hlb⟩, V, ?_, hp, hlk, ?_, hne, hlo⟩
  · intro m _
    exact no_trouble m
  · exact ⟨⟨h1, h2⟩, by simp [mk0], by simp [mk0], by simp [mk0], by simp [mk0], by simp [mk0], by simp [mk0, total], by simp [mk0], by simp [mk0, total], by simp [mk0], by simp [mk0, Rise]⟩
  · exact ⟨by simp, by simp, by simp; exact hl.1, hl.2, by simp, by simp, by simp, by simp; exact hl.1⟩

set_option maxRecDepth 100000 in
set_option maxHeartbeats 4000000 in
theorem desk_any {E : Nat → Addr} {lo : Nat} (V : Env w lo E) (hlo : lo ≤ w.heap.size) (size : Int) :
    Calls Tryz.prog 6 #[.int .i64 size, .int .i64 1, .slice none 0 0] w fun e w' => ∃ b kb lb F, e = .returned (.tuple #[ptr kb, ptr b.p, ptr b.q, .bool true]) ∧ b.lo = lo ∧ b.l = [] ∧ Touch [] w w' ∧
      Stand w' b 0 (mk0 (32 + 32 * (1 + (size % 31).toNat))) (.new ((1 + (size % 31).toNat : Nat) : Int) lb) F ∧ DeskAt w' kb b ((1 + (size % 31).toNat : Nat) : Int) 1 ∧ kb ∉ F ∧ w.heap.size ≤ kb ∧ ∀ y ∈ F, w.heap.size ≤ y := by
  have h0 := Int.emod_nonneg size (show (31 : Int) ≠ 0 by omega)
  have h1 := Int.emod_lt_of_pos size (show (0 : Int) < 31 by omega)
  obtain ⟨K, hK⟩ : ∃ K : Nat, K = 1 + (size % 31).toNat := ⟨_, rfl⟩
  have hKi : (size % 31) = (K : Int) - 1 := by omega
  rw [← hK]
  have HR := hid (fun W => rest_any size 31 (by omega) (by omega) W)
  rw [hKi] at HR
  have hw1 : IntKind.i64.wrap (1 + ((K : Int) - 1)) = (K : Int) := by rw [IntKind.wrap_i64]; omega
  have hw2 : IntKind.i64.wrap (32 * (K : Int)) = 32 * (K : Int) := by rw [IntKind.wrap_i64]; omega
  have hw3 : IntKind.i64.wrap (32 + 32 * (K : Int)) = ((32 + 32 * K : Nat) : Int) := by rw [IntKind.wrap_i64]; omega
  have hw4 : IntKind.i64.wrap (1 * (K : Int)) = (K : Int) := by rw [IntKind.wrap_i64]; omega
  have HN := hid (fun W => New_ok (B := 32 + 32 * K) (Bs := 1099511627776) (by omega) (by omega) (by omega) (by omega) (by omega) W)
  have HP := hid (fun W => Pu.new_any (n := (K : Int)) (by omega) W)
  have HV := hid V
  have hKb : 1 ≤ K ∧ K ≤ 31 := by omega
  clear V hK h0 h1 hKi
  go_enter Tryz.func6, Tryz.ntmps6
  go_wp2_with (first
    | (go_at_call 10; refine (HR.out _).mono ?_; rintro e w1 ⟨rfl, hh⟩; have hh := hh.symm; subst hh)
    | (go_at_call 32; refine (HN.out _).mono ?_; rintro e w2 ⟨p, mf, mt, rfl, hrep, hbl⟩; have HREP := hid hrep; have HBL := hid hbl; clear hrep hbl)
    | (go_at_call 33; refine (HP.out _).mono ?_; rintro e w3 ⟨q, lb, rfl, hq1, hq2, hq3, hq4, hq5, hq6⟩; have HQ := hid (And.intro hq1 (And.intro hq2 (And.intro hq3 (And.intro hq4 (And.intro hq5 hq6))))); clear hq1 hq2 hq3 hq4 hq5 hq6))
  have tw3 : Touch [] w w3 := (Touch.of_below (F := []) HBL.out (Nat.le_refl _)).trans HQ.out.2.2.2.2.2 (by simp)
  have hfoot : ∀ y ∈ DiskC.foot (.new (32 + 32 * K) 1099511627776) p mf mt, w.heap.size ≤ y ∧ y < w2.heap.size := fun y hy => ⟨HREP.out.base y hy, HREP.out.lt y hy⟩
  have hq1 := HQ.out.1
  have hq2 := HQ.out.2.1
  have hs0 := HBL.out.size
  have nq : q ∉ DiskC.foot (.new (32 + 32 * K) 1099511627776) p mf mt := fun h => by have := hfoot q h; omega
  have nl : lb ∉ DiskC.foot (.new (32 + 32 * K) 1099511627776) p mf mt := fun h => by have := hfoot lb h; omega
  have HS3 : Hid (Stand w3 ⟨E, lo, p, mf, mt, q, []⟩ 0 (mk0 (32 + 32 * K)) (.new (K : Int) lb) (q :: lb :: DiskC.foot (.new (32 + 32 * K) 1099511627776) p mf mt)) :=
    stand_new (HV.out.touch tw3 (by simp)) ((HREP.out.lower hlo).touch HQ.out.2.2.2.2.2 (by simp)) (by omega) (by omega) (by omega) HQ.out.2.2.2.1 HQ.out.2.2.2.2.1 HQ.out.2.2.1 nq nl (by omega)
  have HND := hid (NewDesk_ok (K := K) HS3.out ⟨by show 64 ≤ 32 + 32 * K; omega, by show 32 + 32 * K ≤ 65536; omega, by show (32 + 32 * K) % 32 = 0; omega, by show K = (32 + 32 * K) / 32 - 1; omega⟩ hKb.1)
  have HTW := hid tw3
  clear tw3
  go_wp2_with (first
    | (go_at_call 34; refine HND.out.mono ?_; rintro e w4 ⟨kb, rfl, hdk, ht4, hk4⟩; have HDK := hid hdk; have HT4 := hid ht4; have HK8 := hid (K_any hdk); clear hdk ht4)
    | (go_at_call 8; refine HK8.out.mono ?_; rintro e w5 ⟨rfl, hh⟩; have hh := hh.symm; subst hh))
  refine bodyPost_ret (v := .tuple #[ptr kb, ptr p, ptr q, .bool true]) (by simp [results, Tryz.results6, go_sem]) rfl ⟨⟨E, lo, p, mf, mt, q, []⟩, kb, lb, _, rfl, rfl, rfl, HTW.out.trans HT4.out (by simp), HS3.out.quiet HT4.out, HDK.out, fun hx => ?_, Nat.le_trans HTW.out.size hk4, fun y hy => ?_⟩
  · have := HS3.out.lt kb hx
    omega
  · simp only [List.mem_cons] at hy
    rcases hy with rfl | rfl | hy
    · omega
    · omega
    · exact (hfoot y hy).1
end
end Go.Proofs.YtclplbnildnifaaGreatDoor
/-
  lay: records as a tape.
-/
namespace Go.Proofs.YtclplbnildnifaaGreatDoor
open Go.RowKit Go.Deep
set_option linter.unusedSimpArgs false
set_option linter.unusedVariables false

theorem tr_nil {b : Bn} (h : b.l = []) (A : PubA) : b.tr A = noTr := by unfold Bn.tr; rw [h]; rfl

/-- records that came in: they lie below lo. -/
structure RecsIn (w : World) (lo : Nat) (sa : Option Addr) (l : List Rc) : Prop where
  at_ : ∀ k (hk : k < l.length), ∃ a, sa = some a ∧ a.block < lo ∧ a.block < w.heap.size ∧ w.cell? (a.add (k * 4)) = some (.int .u64 (l[k].1 : Int)) ∧ w.cell? ⟨(a.add (k * 4)).block, (a.add (k * 4)).off + 1, none⟩ = some (.int .u64 (l[k].2.1 : Int)) ∧ w.cell? ⟨(a.add (k * 4)).block, (a.add (k * 4)).off + 2, none⟩ = some (.int .u64 (l[k].2.2.1 : Int)) ∧ w.cell? ⟨(a.add (k * 4)).block, (a.add (k * 4)).off + 3, none⟩ = some (.int .u64 (l[k].2.2.2 : Int))
theorem RecsIn.touch {w w' : World} {lo : Nat} {sa : Option Addr} {l : List Rc} {G : List Nat} (h : RecsIn w lo sa l) (t : Touch G w w') (hG : ∀ y ∈ G, lo ≤ y) : RecsIn w' lo sa l := ⟨fun k hk => by
  obtain ⟨a, e, h1, h2, c0, c1, c2, c3⟩ := h.at_ k hk
  have hb : (a.add (k * 4)).block = a.block := add_block a _
  have hn : a.block ∉ G := fun hx => by have := hG _ hx; omega
  exact ⟨a, e, h1, Nat.lt_of_lt_of_le h2 t.size, (t.cell (p := a.add (k * 4)) (by rw [hb]; exact h2) (by rw [hb]; exact hn)).trans c0, (t.cell (p := ⟨(a.add (k * 4)).block, _, none⟩) (by show (a.add (k * 4)).block < _; rw [hb]; exact h2) (by show (a.add (k * 4)).block ∉ G; rw [hb]; exact hn)).trans c1, (t.cell (p := ⟨(a.add (k * 4)).block, _, none⟩) (by show (a.add (k * 4)).block < _; rw [hb]; exact h2) (by show (a.add (k * 4)).block ∉ G; rw [hb]; exact hn)).trans c2, (t.cell (p := ⟨(a.add (k * 4)).block, _, none⟩) (by show (a.add (k * 4)).block < _; rw [hb]; exact h2) (by show (a.add (k * 4)).block ∉ G; rw [hb]; exact hn)).trans c3⟩⟩

/-! ### parts -/
theorem flatR_snoc (a : List Rc) (r : Rc) : flatR (a ++ [r]) = flatR a ++ [r.1, r.2.1, r.2.2.1, r.2.2.2] := by simp [flatR, Rc.words]
theorem flatR_mem {l m : List Rc} (h : ∀ r ∈ m, r ∈ l) (hs : smallR l) : smallR m := fun y hy => by
  unfold flatR at hy
  obtain ⟨r, hr, hy⟩ := List.mem_flatMap.1 hy
  exact hs y (List.mem_flatMap.2 ⟨r, h r hr, hy⟩)
theorem part_snoc {l : List Rc} {q m k : Nat} {K : Nat} (hk : k < l.length) (he : k = q * K + m) : (l.drop (q * K)).take m ++ [l[k]] = (l.drop (q * K)).take (m + 1) := by
  subst he
  have h1 : m < (l.drop (q * K)).length := by rw [List.length_drop]; omega
  rw [List.take_succ_eq_append_getElem h1]
  simp
theorem div_next {k K : Nat} (hK : 1 ≤ K) (h : k % K + 1 < K) : (k + 1) / K = k / K ∧ (k + 1) % K = k % K + 1 := by
  have e := Nat.div_add_mod k K
  have h1 : k + 1 = (k % K + 1) + K * (k / K) := by omega
  constructor
  · rw [h1, Nat.add_mul_div_left _ _ (by omega), Nat.div_eq_of_lt h]; omega
  · rw [h1, Nat.add_mul_mod_self_left, Nat.mod_eq_of_lt h]
theorem div_full {k K : Nat} (hK : 1 ≤ K) (h : k % K + 1 = K) : (k + 1) / K = k / K + 1 ∧ (k + 1) % K = 0 := by
  have e := Nat.div_add_mod k K
  have h1 : k + 1 = K * (k / K + 1) := by rw [Nat.mul_succ]; omega
  constructor
  · rw [h1, Nat.mul_div_cancel_left _ (by omega)]
  · rw [h1, Nat.mul_mod_right]
theorem nBlocks_zero {K len : Nat} (hK : 1 ≤ K) (h : len % K = 0) : nBlocks K len = len / K := by
  unfold nBlocks
  have e := Nat.div_add_mod len K
  have h1 : len + K - 1 = (K - 1) + K * (len / K) := by omega
  rw [h1, Nat.add_mul_div_left _ _ (by omega), Nat.div_eq_of_lt (by omega)]
  omega
theorem nBlocks_rest {K len : Nat} (hK : 1 ≤ K) (h : len % K ≠ 0) : nBlocks K len = len / K + 1 := by
  unfold nBlocks
  have e := Nat.div_add_mod len K
  have hl := Nat.mod_lt len (show 0 < K by omega)
  have h1 : len + K - 1 = (len % K - 1) + K * (len / K + 1) := by rw [Nat.mul_succ]; omega
  rw [h1, Nat.add_mul_div_left _ _ (by omega), Nat.div_eq_of_lt (by omega)]
  omega

section
variable {w w' : World} {b : Bn} {n : Nat} {A : PubA} {s : Pu.St} {F : List Nat} {kb wb g : Nat} {K : Nat} {T : Int} {x : ByteArray}

/-- behind k records. -/
structure LayI (w W : World) (b : Bn) (s : Pu.St) (F : List Nat) (kb wb g kind K B : Nat) (l : List Rc) (k : Nat) : Prop where
  went : ∃ F', Stand W b (1 + k) (mkA B false (blocksOf kind K B l (k / K)) (1 + (k / K : Nat)) 0) (s.take K) F' ∧ Touch F w W ∧ (∀ y ∈ F', y ∈ F ∨ w.heap.size ≤ y) ∧ wb ∉ F' ∧ g ∉ F'
  row : W.heap[wb]? = some (.cells (wrow kb nmA kind g (k % K) K 0 (k / K) (k : Int)) 152 (0, 0))
  list : ∃ rest, Rx.WRow W g (flatR ((l.drop (k / K * K)).take (k % K)) ++ rest) ∧ rest.length + 4 * (k % K) = 4 * K

/-- one record more. -/
theorem lay_step {W : World} {l : List Rc} {B kind k : Nat} (I : LayI w W b s F kb wb g kind K B l k) (hk : DeskAt w kb b (K : Int) T) (hkF : kb ∉ F) (hbl : b.l = []) (hB : B = 32 + 32 * K) (hK : 1 ≤ K ∧ K ≤ 31) (hk1 : 1 ≤ kind) (hk2 : kind ≤ 5) (hkl : k < l.length) (hlen : l.length ≤ 1048576) (hs : smallR l) (hwb : w.heap.size ≤ wb) (hg : w.heap.size ≤ g) (hne : wb ≠ g) (hkw : kb < w.heap.size) (hlo : b.lo ≤ w.heap.size) :
    Calls Tryz.prog 36 #[ptr wb, (l[k]).val] W fun e w' => e = .returned (.int .i64 0) ∧ LayI w w' b s F kb wb g kind K B l (k + 1) := by
  obtain ⟨F', S, t, f, n1, n2⟩ := I.went
  obtain ⟨rest, hws, hr⟩ := I.list
  have hkW := hk.touch t hkF
  have e := Nat.div_add_mod k K
  have hmod := Nat.mod_lt k (show 0 < K by omega)
  have he : k = k / K * K + k % K := by rw [Nat.mul_comm]; omega
  have hpl : ((l.drop (k / K * K)).take (k % K)).length = k % K := by rw [List.length_take, List.length_drop]; omega
  have hfl : (flatR ((l.drop (k / K * K)).take (k % K))).length = 4 * (k % K) := by rw [flatR_length, hpl]
  have hqk : k / K ≤ k := Nat.div_le_self k K
  have hkn : kb ∉ F' := fun hx => by
    rcases f _ hx with h | h
    · exact hkF h
    · omega
  by_cases hm : k % K + 1 < K
  · obtain ⟨d1, d2⟩ := div_next hK.1 hm
    have P := Put_room (x := nmA) (g := g) hkW I.row (by omega) hws (by omega) (by omega) hfl hr hm (show k < 1099511627776 by omega) l[k].1 l[k].2.1 l[k].2.2.1 l[k].2.2.2
    refine P.mono fun e w' ⟨e1, t1, r1, w1⟩ => ⟨e1, ?_⟩
    have hG : ∀ y ∈ [wb, g], y ∉ F' ∧ b.lo ≤ y := by
      intro y hy
      simp at hy
      rcases hy with rfl | rfl
      · exact ⟨n1, by omega⟩
      · exact ⟨n2, by omega⟩
    refine ⟨⟨F', ?_, t.trans t1 (fun y hy => by simp at hy; rcases hy with rfl | rfl <;> exact .inr (by omega)), f, n1, n2⟩, ?_, rest.drop 4, ?_, ?_⟩
    · rw [d1]
      exact (S.touch t1 hG).mono (by omega)
    · rw [d1, d2]; exact r1
    · rw [d1, d2, ← part_snoc hkl he, flatR_snoc]; exact w1
    · rw [d2, List.length_drop]; omega
  · have hm' : k % K + 1 = K := by omega
    obtain ⟨d1, d2⟩ := div_full hK.1 hm'
    have hch : flatR ((l.drop (k / K * K)).take (k % K)) ++ [l[k].1, l[k].2.1, l[k].2.2.1, l[k].2.2.2] = flatR (chunk K (k / K) l) := by
      rw [← flatR_snoc, part_snoc hkl he, hm']
      rfl
    have hcl : (chunk K (k / K) l).length = K := by
      unfold chunk
      rw [List.length_take, List.length_drop]
      omega
    have hel : (encU kind (k / K) (flatR (chunk K (k / K) l)) B).length = B := encU_length (by rw [flatR_length, hcl]; omega)
    have hap := append_mk (bs := blocksOf kind K B l (k / K)) (c := 1 + (k / K : Nat)) (r := 0) hel (by rw [blocksOf_length]; omega)
    have htr : b.tr (mkA B false (blocksOf kind K B l (k / K)) (1 + (k / K : Nat)) 0) = noTr := tr_nil hbl _
    have hsm1 : ∀ y ∈ flatR ((l.drop (k / K * K)).take (k % K)), y < 18446744073709551616 := flatR_mem (fun r hr => List.mem_of_mem_drop (List.mem_of_mem_take hr)) hs
    have hsm2 : ∀ y ∈ flatR [l[k]], y < 18446744073709551616 := flatR_mem (fun r hr => by simp at hr; subst hr; exact List.getElem_mem hkl) hs
    have P := Put_full (x := nmA) (g := g) (K := K) (n := 1 + k) (T := T) (kb := kb) (wb := wb) (kind := kind) (blocks := k / K) (m := k % K) (count := k) (r0 := l[k].1) (r1 := l[k].2.1) (r2 := l[k].2.2.1) (r3 := l[k].2.2.2) (ws := flatR ((l.drop (k / K * K)).take (k % K))) (rest := rest) S (by omega)
      ⟨by show 64 ≤ B; omega, by show B ≤ 65536; omega, by show B % 32 = 0; omega, by show K = B / 32 - 1; omega⟩ hkn n1 n2 (by omega) (by omega) hk1 hk2 (by omega) hsm1
      ⟨hsm2 _ (by simp [flatR, Rc.words]), hsm2 _ (by simp [flatR, Rc.words]), hsm2 _ (by simp [flatR, Rc.words]), hsm2 _ (by simp [flatR, Rc.words])⟩
      (by rw [hch, htr]; show (appendB nmA (encU kind (k / K) (flatR (chunk K (k / K) l)) B) noTr _).1 = 0; rw [hap]) hkW I.row (by omega) hws (by omega) (by omega) hfl hr hm' (by omega)
    rw [hch, htr] at P
    have hB2 : (mkA B false (blocksOf kind K B l (k / K)) (1 + (k / K : Nat)) 0).B = B := rfl
    rw [hB2, hap] at P
    refine P.mono fun e w' ⟨e1, hg1, r1, l', wl, hl'⟩ => ⟨e1, ?_⟩
    obtain ⟨F2, S2, t2, f2⟩ := hg1
    have hsz := t.size
    have q1 : ∀ y, y ∉ F' → y < W.heap.size → y ∉ F2 := fun y h1 h2 hx => by
      rcases f2 _ hx with h | h
      · exact h1 h
      · omega
    refine ⟨⟨F2, ?_, t.trans t2 (fun y hy => ?_), fun y hy => ?_, q1 wb n1 (lt_of_block I.row), q1 g n2 (lt_of_block hws)⟩, ?_, l', ?_, ?_⟩
    · rw [d1, blocksOf_succ]
      have : ((1 : Int) + ((k / K + 1 : Nat) : Int)) = 1 + ((k / K : Nat) : Int) + 1 := by omega
      rw [this]
      exact S2.mono (by omega)
    · rcases List.mem_append.1 hy with h | h
      · simp at h; rcases h with rfl | rfl <;> exact .inr (by omega)
      · exact f y h
    · rcases f2 y hy with h | h
      · exact f y h
      · exact .inr (by omega)
    · rw [d1, d2]; exact r1
    · rw [d2]; simpa [flatR] using wl
    · rw [d2]; omega
end
end Go.Proofs.YtclplbnildnifaaGreatDoor
/-
  lay.
-/
namespace Go.Proofs.YtclplbnildnifaaGreatDoor
open Go.RowKit Go.Deep
set_option linter.unusedSimpArgs false
set_option linter.unusedVariables false

section
variable {w w' : World} {b : Bn} {n : Nat} {A : PubA} {s : Pu.St} {F : List Nat} {kb wb g : Nat} {K : Nat} {T : Int} {x : ByteArray}

/-- the tape is closed. -/
theorem lay_close {W : World} {l : List Rc} {B kind : Nat} (I : LayI w W b s F kb wb g kind K B l l.length) (hk : DeskAt w kb b (K : Int) T) (hkF : kb ∉ F) (hbl : b.l = []) (hB : B = 32 + 32 * K) (hK : 1 ≤ K ∧ K ≤ 31) (hk1 : 1 ≤ kind) (hk2 : kind ≤ 5) (hlen : l.length ≤ 1048576) (hs : smallR l) (hwb : w.heap.size ≤ wb) (hg : w.heap.size ≤ g) (hne : wb ≠ g) (hkw : kb < w.heap.size) (hlo : b.lo ≤ w.heap.size) :
    Calls Tryz.prog 38 #[ptr wb] W fun e w' => e = .returned (.int .i64 0) ∧ Went w w' b (l.length + 3) (mkA B true (blocksOf kind K B l (nBlocks K l.length)) (2 + (nBlocks K l.length : Nat)) 0) ((s.take K).give K) F [] := by
  obtain ⟨F', S, t, f, n1, n2⟩ := I.went
  obtain ⟨rest, hws, hr⟩ := I.list
  have hkW := hk.touch t hkF
  have e := Nat.div_add_mod l.length K
  have hmod := Nat.mod_lt l.length (show 0 < K by omega)
  have hq : l.length / K ≤ l.length := Nat.div_le_self _ _
  have he : l.length = l.length / K * K + l.length % K := by rw [Nat.mul_comm]; omega
  have hkn : kb ∉ F' := fun hx => by
    rcases f _ hx with h | h
    · exact hkF h
    · omega
  have fin : ∀ {w'' : World} {n1 : Nat} {A1 : PubA} {s1 : Pu.St}, n1 ≤ l.length + 3 → Went W w'' b n1 A1 s1 F' [wb] → Went w w'' b (l.length + 3) A1 s1 F [] := fun hn ⟨F2, S2, t2, f2⟩ => ⟨F2, S2.mono hn, (t.trans t2 (fun y hy => by
    rcases List.mem_append.1 hy with h | h
    · simp at h; subst h; exact .inr hwb
    · exact f y h)).mono (by simp), fun y hy => by
    rcases f2 y hy with h | h
    · exact f y h
    · exact .inr (Nat.le_trans t.size h)⟩
  by_cases h0 : l.length % K = 0
  · have hn := nBlocks_zero hK.1 h0
    have hrow := I.row
    rw [h0] at hrow
    have P := Close_empty S (by omega) hkW hkn hrow n1 (by omega) (by omega)
    rw [tr_nil hbl, seal_mk] at P
    refine P.mono fun e w' ⟨e1, hg1⟩ => ⟨e1, ?_⟩
    rw [hn]
    have e2 : ((2 : Int) + ((l.length / K : Nat) : Int)) = 1 + ((l.length / K : Nat) : Int) + 1 := by omega
    rw [e2]
    exact fin (by omega) hg1
  · have hn := nBlocks_rest hK.1 h0
    have hpl : ((l.drop (l.length / K * K)).take (l.length % K)).length = l.length % K := by rw [List.length_take, List.length_drop]; omega
    have hfl : (flatR ((l.drop (l.length / K * K)).take (l.length % K))).length = 4 * (l.length % K) := by rw [flatR_length, hpl]
    have hch : (l.drop (l.length / K * K)).take (l.length % K) = chunk K (l.length / K) l := by
      unfold chunk
      rw [List.take_of_length_le (by rw [List.length_drop]; omega), List.take_of_length_le (by rw [List.length_drop]; omega)]
    rw [hch] at hpl hfl hws
    have hel : (encU kind (l.length / K) (flatR (chunk K (l.length / K) l)) B).length = B := encU_length (by rw [hfl]; omega)
    have hap := append_mk (bs := blocksOf kind K B l (l.length / K)) (c := 1 + (l.length / K : Nat)) (r := 0) hel (by rw [blocksOf_length]; omega)
    have htr := tr_nil hbl
    have hsm : ∀ y ∈ flatR (chunk K (l.length / K) l), y < 18446744073709551616 := flatR_mem (fun r hr => List.mem_of_mem_drop (List.mem_of_mem_take hr)) hs
    have hwd : Rx.Wd W g 0 (flatR (chunk K (l.length / K) l)) := fun i hi => by
      have := hws.wd i (by rw [List.length_append]; omega)
      rw [List.getElem_append_left hi] at this
      exact this
    have P := Close_rest (x := nmA) (T := T) (kb := kb) (m := l.length % K) (kind := kind) (blocks := l.length / K) S (by omega) hkW hkn I.row n1 (by omega) (by omega) ⟨by show 64 ≤ B; omega, by show B ≤ 65536; omega, by show B % 32 = 0; omega, by show K = B / 32 - 1; omega⟩ hwd (lt_of_block hws) n2 (by omega) hfl (by omega) (by omega) hsm hk1 hk2 (by omega)
      (by rw [htr]; show (appendB nmA (encU kind (l.length / K) (flatR (chunk K (l.length / K) l)) B) noTr _).1 = 0; rw [hap])
    have hB2 : (mkA B false (blocksOf kind K B l (l.length / K)) (1 + (l.length / K : Nat)) 0).B = B := rfl
    rw [htr, htr, hB2, hap, ← blocksOf_succ, seal_mk] at P
    refine P.mono fun e w' ⟨e1, hg1⟩ => ⟨e1, ?_⟩
    rw [hn]
    have e2 : ((2 : Int) + ((l.length / K + 1 : Nat) : Int)) = 1 + ((l.length / K : Nat) : Int) + 1 + 1 := by omega
    rw [e2]
    exact fin (by omega) hg1

set_option maxRecDepth 100000 in
set_option maxHeartbeats 4000000 in
theorem lay_any {B : Nat} (S : Stand w b 0 (mk0 B) s F) (hk : DeskAt w kb b (K : Int) T) (hkF : kb ∉ F) (hbl : b.l = []) (hB : B = 32 + 32 * K) (hK : 1 ≤ K ∧ K ≤ 31) {kind : Nat} (hk1 : 1 ≤ kind) (hk2 : kind ≤ 5) {l : List Rc} (hlen : l.length ≤ 1048576) (hs : smallR l) (hfr : Pu.leaveE s K = 0) (hlo : b.lo ≤ w.heap.size) {sa : Option Addr} {c : Nat} (hin : RecsIn w b.lo sa l) :
    Calls Tryz.prog 7 #[ptr kb, .string nmA, .int .i64 (kind : Int), .slice sa l.length c] w fun e w' => e = .returned (.int .i64 0) ∧ Went w w' b (l.length + 3) (mkA B true (blocksOf kind K B l (nBlocks K l.length)) (2 + (nBlocks K l.length : Nat)) 0) ((s.take K).give K) F [] := by
  have hkw := lt_of_block hk
  have hw0 := Write_ok S (by omega) hk hkF (by omega) nmA (kind : Int) (hold_mk0 (by omega) hfr) (by rw [tr_nil hbl]; rw [create_mk])
  rw [tr_nil hbl, create_mk] at hw0
  have HW := hid hw0
  have HST : Hid (∀ W wb g k, LayI w W b s F kb wb g kind K B l k → w.heap.size ≤ wb → w.heap.size ≤ g → wb ≠ g → (hkl : k < l.length) → Calls Tryz.prog 36 #[ptr wb, (l[k]).val] W fun e w' => e = .returned (.int .i64 0) ∧ LayI w w' b s F kb wb g kind K B l (k + 1)) := fun W wb g k I h1 h2 h3 hkl => lay_step I hk hkF hbl hB hK hk1 hk2 hkl hlen hs h1 h2 h3 hkw hlo
  have HCL : Hid (∀ W wb g, LayI w W b s F kb wb g kind K B l l.length → w.heap.size ≤ wb → w.heap.size ≤ g → wb ≠ g → Calls Tryz.prog 38 #[ptr wb] W fun e w' => e = .returned (.int .i64 0) ∧ Went w w' b (l.length + 3) (mkA B true (blocksOf kind K B l (nBlocks K l.length)) (2 + (nBlocks K l.length : Nat)) 0) ((s.take K).give K) F []) := fun W wb g I h1 h2 h3 => lay_close I hk hkF hbl hB hK hk1 hk2 hlen hs h1 h2 h3 hkw hlo
  have HIN : Hid (∀ W, Touch F w W → RecsIn W b.lo sa l) := fun W t => hin.touch t S.base
  have HS := hid S
  have HK0 : Hid (∀ {W : World} {wb g : Nat}, WentN w W b 1 (mkA B false [] 1 0) (s.take K) F [] [wb, g] → WrAt W wb kb nmA kind [] 0 0 0 g K → LayI w W b s F kb wb g kind K B l 0) := fun {W wb g} hg hw => by
    obtain ⟨F', S', t', f', hN⟩ := hg
    obtain ⟨rest, hr1, hr2⟩ := hw.list
    refine ⟨⟨F', ?_, t'.mono (by simp), f', (hN wb (by simp)).1, (hN g (by simp)).1⟩, ?_, rest, ?_, ?_⟩
    · simpa [blocksOf] using S'
    · rw [Nat.zero_mod, Nat.zero_div]
      exact hw.row
    · simpa [flatR] using hr1
    · simpa using hr2
  clear S hk hw0 hbl hB hK hk1 hk2 hs hfr hlo hin
  go_enter Tryz.func7, Tryz.ntmps7
  go_wp2_with (go_at_call 35; refine HW.out.mono ?_; rintro e w1 ⟨wb, g, rfl, hg, hne, hwr⟩; have hn := hg.choose_spec.2.2.2; have h1 := (hn wb (by simp)).2.1; have h2 := (hn g (by simp)).2.1; have HL0 := hid (HK0.out hg hwr); clear hg hwr hn)
  go_loopw [11] (fun i W => ∃ k : Nat, k ≤ l.length ∧ i = .int .i64 k ∧ LayI w W b s F kb wb g kind K B l k) (fun i _ => l.length - (intOf i).toNat)
  case atStart => exact ⟨0, Nat.zero_le _, rfl, HL0.out⟩
  case round =>
    obtain ⟨k, hk, rfl, hI⟩ := hrel
    have HI := hid hI
    have tW : Touch F w _ := hI.went.choose_spec.2.1
    clear hI
    by_cases hkl : k < l.length
    · obtain ⟨a, rfl, _, hab, c0, c1, c2, c3⟩ := (HIN.out _ tW).at_ k hkl
      have HP := hid (HST.out _ wb g k HI.out h1 h2 hne hkl)
      clear tW
      go_wp2_with (go_at_call 36; refine HP.out.mono ?_; rintro e w2 ⟨rfl, hI2⟩)
      exact ⟨⟨k + 1, hkl, rfl, hI2⟩, by simp [intOf]; omega⟩
    · obtain rfl : k = l.length := by omega
      have HP := hid (HCL.out _ wb g HI.out h1 h2 hne)
      clear tW
      go_wp2_with (go_at_call 38; refine HP.out.mono ?_; rintro e w2 ⟨rfl, hg2⟩)
      go_ret
      exact ⟨rfl, hg2⟩
end
end Go.Proofs.YtclplbnildnifaaGreatDoor
/-
  Reading records one by one.
-/
namespace Go.Proofs.YtclplbnildnifaaGreatDoor
open Go.RowKit Go.Deep
set_option linter.unusedSimpArgs false
set_option linter.unusedVariables false

section
variable {w w' : World} {b : Bn} {n : Nat} {A : PubA} {s : Pu.St} {F : List Nat} {kb rb : Nat} {K : Nat} {T : Int} {x : ByteArray}


end

/-! ### records one by one -/

section
variable {w W : World} {b : Bn} {n : Nat} {s : Pu.St} {F : List Nat} {kb rb kind K B m : Nat} {T : Int} {bs : List (List UInt8)} {l : List Rc} {i t : Nat}

theorem take_cons {l : List Rc} {i j : Nat} (hi : i < l.length) (hj : i < j) : (l.drop i).take (j - i) = l[i] :: (l.drop (i + 1)).take (j - (i + 1)) := by
  obtain ⟨d, hd⟩ : ∃ d, j - i = d + 1 := ⟨j - i - 1, by omega⟩
  rw [hd, List.drop_eq_getElem_cons hi, List.take_succ_cons]
  congr 2
  omega

end
end Go.Proofs.YtclplbnildnifaaGreatDoor
/-
  A spoilt block met; Last and Size over a tape of one file.
-/
namespace Go.Proofs.YtclplbnildnifaaGreatDoor
open Go.RowKit Go.Deep
set_option linter.unusedSimpArgs false
set_option linter.unusedVariables false

/-! ### a purse of one desk that holds nothing -/
structure Idle (s : Pu.St) (K : Nat) : Prop where
  open_ : s.closed = false
  hand : s.hand = 0
  lent : s.lent = 0
  limit : s.limit = (K : Int)
theorem Idle.new (K : Nat) (lb : Nat) : Idle (.new (K : Int) lb) K := ⟨rfl, rfl, rfl, rfl⟩
theorem Idle.leave {s : Pu.St} {K : Nat} (h : Idle s K) : Pu.leaveE s (K : Int) = 0 := by
  unfold Pu.leaveE
  rw [h.open_, h.hand, h.lent, h.limit]
  simp
theorem Idle.back {s : Pu.St} {K : Nat} (h : Idle s K) : Idle ((s.take (K : Int)).give (K : Int)) K := by
  have e : s.take (K : Int) = { s with hand := s.hand + (K : Int), peak := max s.peak (s.hand + (K : Int) + s.lent) } := by unfold Pu.St.take; rw [if_pos h.leave]
  have g : Pu.giveE (s.take (K : Int)) (K : Int) = 0 := by
    rw [e]
    unfold Pu.giveE
    simp [h.open_, h.hand]
  unfold Pu.St.give
  rw [if_pos g, e]
  exact ⟨h.open_, by simp [h.hand], h.lent, h.limit⟩

section
variable {w W : World} {b : Bn} {n : Nat} {s : Pu.St} {F : List Nat} {kb rb kind K B m : Nat} {T : Int} {bs : List (List UInt8)} {l : List Rc} {i t : Nat}


theorem fits_of {c r : Int} (hB : B = 32 + 32 * K) (hK : 1 ≤ K ∧ K ≤ 31) {sl : Bool} : Fits (mkA B sl bs c r) K := ⟨by show 64 ≤ B; omega, by show B ≤ 65536; omega, by show B % 32 = 0; omega, by show K = B / 32 - 1; omega⟩



/-! ### Last and Size -/
theorem rfresh_eq {c r : Int} : rfresh kb nmA (kind : Int) true (lengthB nmA (mkA B true bs c r)).1 = rrow kb nmA kind (.slice none 0 0) 0 true bs.length 0 := by
  rw [length_mk]
  rfl



theorem last_ok {c r : Int} (S : Stand w b n (mkA B true bs c r) s F) (hn : n < 549755813888) (hk : DeskAt w kb b (K : Int) T) (hkF : kb ∉ F) (hbl : b.l = []) (hB : B = 32 + 32 * K) (hK : 1 ≤ K ∧ K ≤ 31) (hk1 : 1 ≤ kind) (hk2 : kind ≤ 5) (hs : Idle s K) {v : Nat} (hv : v + 1 = bs.length) (hm : bs.length ≤ 1048576) {bl : List UInt8} (hbs : bs[v]? = some bl) {ch : List Rc} {a : List Rc} {z : Rc} (hch : ch = a ++ [z]) (hcl : ch.length ≤ K) (hg : Good kind v bl ch) :
    Calls Tryz.prog 16 #[ptr kb, .string nmA, .int .i64 (kind : Int)] w fun e w' => e = .returned (.tuple #[z.val, .bool true, .int .i64 0]) ∧ Went w w' b (n + 1) (mkA B true bs (c + 1) (r + 1)) ((s.take K).give K) F [] := by
  have htr : b.tr (mkA B true bs c r) = noTr := tr_nil hbl _
  have hrd := read_mk (B := B) (c := c) (r := r) (bs := bs) (i := v) (by omega)
  rw [hbs] at hrd
  have hrv : ch.reverse = z :: a.reverse := by rw [hch]; simp
  have hll : ch.length = (z :: a.reverse).length := by rw [hch]; simp
  refine Last_of (r := z) (sm := true) (er := 0) S (by omega) hk hkF (hold_mk (by omega) hs.leave) fun w1 F1 rb S1 hk1' hkF1 hrF1 hlo hne hrow => ?_
  rw [rfresh_eq] at hrow
  have hrw' : rb < w1.heap.size := lt_of_block hrow
  refine (Next_load (x := nmA) (kb := kb) S1 hrF1 hlo hrw' (kind := kind) (blocks := bs.length) (taken := 0) (back := true) (n1 := n + 1) (A1 := mkA B true bs (c + 1) (r + 1)) (r := z) (t := a.reverse) (by rw [← hll]; omega)
    (fun W1 t1 => Peek_load (x := nmA) (kb := kb) (S1.quiet t1) (o := none) (c := 0) ((t1.block rb hrw' (by simp)).trans hrow) (by omega) (by rw [← hll]; omega)
      (fun W2 t2 => by
        have L := load_ok_back (x := nmA) ((S1.quiet t1).quiet t2) (by omega) (K := K) (fits_of hB hK) ((hk1'.touch t1 (by simp)).touch t2 (by simp)) hkF1 (kind := kind) (blocks := bs.length) (taken := 0) (i := v) (lv := .slice none 0 0) (dead := 0) ((t2.block rb (lt_of_block ((t1.block rb hrw' (by simp)).trans hrow)) (by simp)).trans ((t1.block rb hrw' (by simp)).trans hrow)) hrF1 hlo hne (by omega) (by omega) hk1 hk2 (by rw [htr, hrd]) (by rw [htr, hrd]) hg.sum hg.formed hg.kind hg.place hg.count hg.words (by omega) (.inr hv)
        rw [htr, hrd, hrv, hll] at L
        exact L))).mono fun e w' ⟨e1, g', lv', hW, hgr, r1, l1⟩ => ⟨e1, ?_, lv', 0, bs.length, _, r1⟩
  obtain ⟨F2, S2, t2, f2, _⟩ := hW
  exact ⟨F2, S2, t2, f2⟩

theorem size_ok {c r : Int} (S : Stand w b n (mkA B true bs c r) s F) (hn : n < 549755813888) (hk : DeskAt w kb b (K : Int) T) (hkF : kb ∉ F) (hbl : b.l = []) (hB : B = 32 + 32 * K) (hK : 1 ≤ K ∧ K ≤ 31) (hk1 : 1 ≤ kind) (hk2 : kind ≤ 5) (hs : Idle s K) {v : Nat} (hv : v + 1 = bs.length) (hm : bs.length ≤ 1048576) {bl : List UInt8} (hbs : bs[v]? = some bl) {ch : List Rc} {a : List Rc} {z : Rc} (hch : ch = a ++ [z]) (hcl : ch.length ≤ K) (hg : Good kind v bl ch) :
    Calls Tryz.prog 17 #[ptr kb, .string nmA, .int .i64 (kind : Int)] w fun e w' => e = .returned (.tuple #[.int .i64 (((bs.length - 1) * K + ch.length : Nat) : Int), .int .i64 0]) ∧ Went w w' b (n + 1) (mkA B true bs (c + 1) (r + 1)) ((s.take K).give K) F [] := by
  have htr : b.tr (mkA B true bs c r) = noTr := tr_nil hbl _
  have hrd := read_mk (B := B) (c := c) (r := r) (bs := bs) (i := v) (by omega)
  rw [hbs] at hrd
  have hrv : ch.reverse = z :: a.reverse := by rw [hch]; simp
  have hll : ch.length = (z :: a.reverse).length := by rw [hch]; simp
  refine Size_some (r := z) (L := ch.length) (blocks := bs.length) S (by omega) hk hkF (hold_mk (by omega) hs.leave) (by omega) (by omega) (by omega) (by omega) fun w1 F1 rb S1 hk1' hkF1 hrF1 hlo hne hrow => ?_
  rw [rfresh_eq] at hrow
  have hrw' : rb < w1.heap.size := lt_of_block hrow
  refine (Peek_load (x := nmA) (kb := kb) S1 (o := none) (c := 0) hrow (by omega) (n1 := n + 1) (A1 := mkA B true bs (c + 1) (r + 1)) (r := z) (t := a.reverse) (by rw [← hll]; omega)
      (fun W2 t2 => by
        have L := load_ok_back (x := nmA) (S1.quiet t2) (by omega) (K := K) (fits_of hB hK) (hk1'.touch t2 (by simp)) hkF1 (kind := kind) (blocks := bs.length) (taken := 0) (i := v) (lv := .slice none 0 0) (dead := 0) ((t2.block rb hrw' (by simp)).trans hrow) hrF1 hlo hne (by omega) (by omega) hk1 hk2 (by rw [htr, hrd]) (by rw [htr, hrd]) hg.sum hg.formed hg.kind hg.place hg.count hg.words (by omega) (.inr hv)
        rw [htr, hrd, hrv, hll] at L
        exact L)).mono fun e w' ⟨e1, g', hW, r1, _⟩ => ⟨e1, ?_, g', 1, by rw [hll]; exact r1⟩
  obtain ⟨F2, S2, t2, f2, _⟩ := hW
  exact ⟨F2, S2, t2, f2⟩
end
end Go.Proofs.YtclplbnildnifaaGreatDoor
/-
  TapeBits' stations.
-/
namespace Go.Proofs.YtclplbnildnifaaGreatDoor
open Go.RowKit Go.Deep
set_option linter.unusedSimpArgs false
set_option linter.unusedVariables false

theorem nBlocks_lt {K len v : Nat} (hK : 1 ≤ K) (h : v < nBlocks K len) : v * K < len := by
  have h1 : (v + 1) * K ≤ len + K - 1 := (Nat.le_div_iff_mul_le (by omega)).1 h
  rw [Nat.succ_mul] at h1
  omega
theorem nBlocks_le {K len : Nat} (hK : 1 ≤ K) : len ≤ nBlocks K len * K := by
  have h1 : len + K - 1 < (nBlocks K len + 1) * K := (Nat.div_lt_iff_lt_mul (by omega)).1 (Nat.lt_succ_self _)
  rw [Nat.succ_mul] at h1
  omega
theorem last_chunk {K v : Nat} {l : List Rc} (hK : 1 ≤ K) (hv : v + 1 = nBlocks K l.length) (hl : 0 < l.length) :
    ∃ a, chunk K v l = a ++ [l[l.length - 1]] ∧ (chunk K v l).length ≤ K ∧ v * K + (chunk K v l).length = l.length := by
  have h1 := nBlocks_lt hK (show v < nBlocks K l.length by omega)
  have h2 := nBlocks_le (len := l.length) hK
  rw [← hv, Nat.succ_mul] at h2
  have e : chunk K v l = l.drop (v * K) := by
    unfold chunk
    exact List.take_of_length_le (by rw [List.length_drop]; omega)
  have hne : l.drop (v * K) ≠ [] := by
    intro h
    have := congrArg List.length h
    simp at this
    omega
  rw [e]
  refine ⟨(l.drop (v * K)).dropLast, ?_, by rw [List.length_drop]; omega, by rw [List.length_drop]; omega⟩
  have h3 := List.dropLast_concat_getLast hne
  rw [List.getLast_drop, List.getLast_eq_getElem] at h3
  exact h3.symm


/-- where the records lie, and the world at the law's start. -/
structure Src where
  sa : Option Addr
  w : World
structure Keep (W : World) (lo : Nat) (x : Src) (l : List Rc) : Prop where
  recs : RecsIn W lo x.sa l
  t : Touch [] x.w W
  le : x.w.heap.size ≤ lo
theorem Keep.touch {w w' : World} {lo : Nat} {x : Src} {l : List Rc} {G : List Nat} (h : Keep w lo x l) (t : Touch G w w') (hG : ∀ y ∈ G, lo ≤ y) : Keep w' lo x l :=
  ⟨h.recs.touch t hG, h.t.trans t (fun y hy => .inr (Nat.le_trans h.le (hG y hy))), h.le⟩




section
variable {W W' : World} {b : Bn} {k kb rb K B i v : Nat} {bs : List (List UInt8)} {sa : Src} {l : List Rc}









end
end Go.Proofs.YtclplbnildnifaaGreatDoor
