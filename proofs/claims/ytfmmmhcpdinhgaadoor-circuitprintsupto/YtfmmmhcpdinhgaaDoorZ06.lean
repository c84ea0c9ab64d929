import Derived.Test.YtfmmmhcpdinhgaaDoorZ05
/-
  The program's areBelow, fits, placed.
-/
namespace Go.Proofs.YtfmmmhcpdinhgaaDoor
open Go.RowKit Go.Deep PureNet
set_option maxRecDepth 100000

set_option maxHeartbeats 1000000 in
theorem areBelow_ok (m : Int) (L : List Int) (s : Option Addr) (c : Nat) (w : World) (hc : CellsAt w s (nu L)) (hl : L.length ≤ 1099511627776) (hb : ∀ x ∈ L, 0 ≤ x ∧ x < m) :
    Calls Tryd.prog 80 #[.int .i64 m, .slice s L.length c] w fun e w' => e = .returned (.bool true) ∧ w' = w := by
  have HC := hid hc
  have HB := hid hb
  clear hc hb
  go_enter Tryd.func80, Tryd.ntmps80
  go_wp2
  go_loopw [9] (fun iv W => ∃ i : Nat, i ≤ L.length ∧ iv = .int .i64 (i : Int) ∧ W = w) (fun iv _ => L.length - (intOf iv).toNat)
  case atStart => exact ⟨0, Nat.zero_le _, rfl, rfl⟩
  case round =>
    obtain ⟨i, hi, rfl, rfl⟩ := hrel
    by_cases hlt : i < L.length
    · obtain ⟨y, hy⟩ : ∃ y, L[i]? = some y := ⟨_, List.getElem?_eq_getElem hlt⟩
      obtain ⟨b, o, rfl, hbs, hcell⟩ := num_at HC.out i y hy
      have h2 := HB.out y (List.mem_of_getElem? hy)
      have h3 : ¬ y < 0 := by omega
      have h4 : ¬ m ≤ y := by omega
      clear hy h2
      go_wp2
      exact ⟨⟨i + 1, hlt, by go_num, by first | rfl | trivial⟩, by simp [intOf]; omega⟩
    · go_wp2
      go_ret
      exact ⟨rfl, rfl⟩

theorem line_parts {g : Ga} {n k : Nat} (h : lineB g n = true) (hk : g.kind = (k : Int)) (h1 : 1 ≤ k) (h4 : k ≤ 4) : (0 ≤ g.op ∧ g.op ≤ mostN k) ∧ (∀ x ∈ [g.a, g.b, g.c].take (usesN k), 0 ≤ x ∧ x < (n : Int)) ∧ ∀ x ∈ [g.a, g.b, g.c].drop (usesN k), 0 ≤ x ∧ x < 1 := by
  unfold lineB at h
  simp only [Bool.and_eq_true, decide_eq_true_eq] at h
  obtain ⟨⟨⟨⟨_, _, h2, h3⟩, ha⟩, hb⟩, hc⟩ := h
  rw [hk] at h3 ha hb hc
  have hcases : k = 1 ∨ k = 2 ∨ k = 3 ∨ k = 4 := by omega
  rcases hcases with rfl | rfl | rfl | rfl
  · simp [fieldB, mostOp] at h3 ha hb hc
    simp [usesN, mostN]
    omega
  · simp [fieldB, mostOp] at h3 ha hb hc
    simp [usesN, mostN]
    omega
  · simp [fieldB, mostOp] at h3 ha hb hc
    simp [usesN, mostN]
    omega
  · simp [fieldB, mostOp] at h3 ha hb hc
    simp [usesN, mostN]
    omega

set_option maxHeartbeats 2000000 in
theorem fits_ok (k : Nat) (g : Ga) (n : Nat) (w : World) (hK : KindsAt w) (hk : g.kind = (k : Int)) (h1 : 1 ≤ k) (h4 : k ≤ 4) (hl : lineB g n = true) :
    Calls Tryd.prog 79 #[.agg #[.int .i64 g.kind, .string g.name, .int .i64 g.op, .int .i64 g.a, .int .i64 g.b, .int .i64 g.c], .int .i64 (n : Int)] w fun e w' => e = .returned (.bool true) ∧ Below w.heap.size w w' := by
  obtain ⟨⟨ho0, ho1⟩, hu, hn⟩ := line_parts hl hk h1 h4
  have hu3 : usesN k ≤ 3 := by unfold usesN; (repeat' split) <;> omega
  have rowAt : ∀ (W : World) (b : Nat), W.heap[b]? = some (.cells #[.int .i64 g.a, .int .i64 g.b, .int .i64 g.c] 3 (0, 0)) → ∀ j x, ([g.a, g.b, g.c] : List Int)[j]? = some x → W.cell? ⟨b, j, none⟩ = some (.int .i64 x) ∧ b < W.heap.size := fun W b hr j x hx => by
    refine ⟨?_, (Array.getElem?_eq_some_iff.1 hr).1⟩
    rw [cell_row hr]
    match j, hx with
    | 0, hx => simp at hx; simp [hx]
    | 1, hx => simp at hx; simp [hx]
    | 2, hx => simp at hx; simp [hx]
    | j + 3, hx => simp at hx
  have AU : Hid (∀ (W : World) (b : Nat), W.heap[b]? = some (.cells #[.int .i64 g.a, .int .i64 g.b, .int .i64 g.c] 3 (0, 0)) → Calls Tryd.prog 80 #[.int .i64 (n : Int), .slice (some ⟨b, 0, none⟩) (usesN k) 3] W fun e w' => e = .returned (.bool true) ∧ w' = W) := fun W b hr => by
    have := areBelow_ok n ([g.a, g.b, g.c].take (usesN k)) (some ⟨b, 0, none⟩) 3 W ⟨fun j x hx => ⟨b, 0, rfl, (Array.getElem?_eq_some_iff.1 hr).1, by
      simp only [nu, List.getElem?_map, Option.map_eq_some_iff] at hx
      obtain ⟨y, hy, rfl⟩ := hx
      rw [List.getElem?_take] at hy
      split at hy
      · rw [Nat.zero_add]; exact (rowAt W b hr j y hy).1
      · cases hy⟩⟩ (by simp; omega) hu
    rw [List.length_take, show min (usesN k) [g.a, g.b, g.c].length = usesN k by simp; omega] at this
    exact this
  have AN : Hid (∀ (W : World) (b : Nat) (sv : Option Addr), (usesN k < 3 → sv = some ⟨b, usesN k, none⟩) → W.heap[b]? = some (.cells #[.int .i64 g.a, .int .i64 g.b, .int .i64 g.c] 3 (0, 0)) → Calls Tryd.prog 80 #[.int .i64 1, .slice sv (3 - usesN k) (3 - usesN k)] W fun e w' => e = .returned (.bool true) ∧ w' = W) := fun W b sv hsv hr => by
    have := areBelow_ok 1 ([g.a, g.b, g.c].drop (usesN k)) sv (3 - usesN k) W ⟨fun j x hx => by
      simp only [nu, List.getElem?_map, Option.map_eq_some_iff] at hx
      obtain ⟨y, hy, rfl⟩ := hx
      rw [List.getElem?_drop] at hy
      have hlt := (List.getElem?_eq_some_iff.1 hy).1
      simp at hlt
      obtain ⟨h1, h2⟩ := rowAt W b hr _ y hy
      exact ⟨b, usesN k, hsv (by omega), h2, h1⟩⟩ (by simp; omega) hn
    rw [List.length_drop, show [g.a, g.b, g.c].length - usesN k = 3 - usesN k by simp] at this
    exact this
  obtain ⟨x, hx⟩ : ∃ x, x = w.alloc (Obj.cells #[Value.int .i64 (k : Int), .string g.name, .int .i64 g.op, .int .i64 g.a, .int .i64 g.b, .int .i64 g.c] 38) := ⟨_, rfl⟩
  have BX : Hid (Below w.heap.size w x) := by rw [hx]; exact (Below.refl _ _).alloc (Nat.le_refl _) _
  have C0 : Hid (x.heap[w.heap.size]? = some (.cells #[Value.int .i64 (k : Int), .string g.name, .int .i64 g.op, .int .i64 g.a, .int .i64 g.b, .int .i64 g.c] 38 (0, 0))) := by rw [hx]; exact heap_alloc_new w _
  have KS : Hid (∀ W, Below x.heap.size x W → W.cell? ⟨w.heap.size, 0, none⟩ = some (.int .i64 (k : Int)) ∧ W.cell? ⟨w.heap.size, 1, none⟩ = some (.string g.name) ∧ W.cell? ⟨w.heap.size, 2, none⟩ = some (.int .i64 g.op) ∧ W.cell? ⟨w.heap.size, 3, none⟩ = some (.int .i64 g.a) ∧ W.cell? ⟨w.heap.size, 4, none⟩ = some (.int .i64 g.b) ∧ W.cell? ⟨w.heap.size, 5, none⟩ = some (.int .i64 g.c) ∧ W.cell? ⟨0, k * 3 + 1, none⟩ = some (.int .i64 (mostN k))) := fun W hW => by
    have h2 := (hW.block _ (Array.getElem?_eq_some_iff.1 C0.out).1).trans C0.out
    exact ⟨cell_row h2 0, cell_row h2 1, cell_row h2 2, cell_row h2 3, cell_row h2 4, cell_row h2 5, ((hK.on BX.out).on hW).op k h1 h4⟩
  have US : Hid (∀ W, Below x.heap.size x W → _) := fun W hW => used_any k g W ((hK.on BX.out).on hW) hk h1 h4
  have UN : Hid (∀ W, Below x.heap.size x W → _) := fun W hW => unused_any k g W ((hK.on BX.out).on hW) hk h1 h4
  have c0 := fun j => cell_row C0.out j
  have hb0 := (Array.getElem?_eq_some_iff.1 C0.out).1
  have HX := hid hx
  have h5 : ¬ (k : Int) < 1 := by omega
  have h6 : ¬ (4 : Int) < (k : Int) := by omega
  rw [hk] at US UN
  rw [hk]
  clear hx hK hk hl hu hn rowAt
  go_enter Tryd.func79, Tryd.ntmps79
  go_wp2_with (rw [← HX.out])
  refine wp_region_noPanic ?_
  refine wp_region_held_drew (S := fun W => W.cell? ⟨w.heap.size, 0, none⟩ = some (.int .i64 (k : Int)) ∧ W.cell? ⟨w.heap.size, 1, none⟩ = some (.string g.name) ∧ W.cell? ⟨w.heap.size, 2, none⟩ = some (.int .i64 g.op) ∧ W.cell? ⟨w.heap.size, 3, none⟩ = some (.int .i64 g.a) ∧ W.cell? ⟨w.heap.size, 4, none⟩ = some (.int .i64 g.b) ∧ W.cell? ⟨w.heap.size, 5, none⟩ = some (.int .i64 g.c) ∧ W.cell? ⟨0, k * 3 + 1, none⟩ = some (.int .i64 (mostN k))) (by kernel_rfl) (KS.out _ (Below.refl _ _).drew) (fun hHeld => ?_)
  refine wpAnyH_take (i := 0) (v := ?_) (by simp only [List.getElem?_toArray, List.getElem?_cons_zero]; rfl) (by kernel_rfl) (by kernel_rfl) (by kernel_rfl) (fun _ _ _ h => h) (Or.inl ⟨by rfl, ?_⟩) (by assumption) ?_
  rotate_left 1
  · intro w hSw; (try dsimp only at hSw); go_simp; (try with_reducible rfl)
  try simp only [Act.put, List.setIfInBounds_toArray, List.set_cons_zero, List.set_cons_succ]
  refine wpAnyH_take (i := 1) (v := ?_) (by simp only [List.getElem?_toArray, List.getElem?_cons_succ, List.getElem?_cons_zero]; rfl) (by kernel_rfl) (by kernel_rfl) (by kernel_rfl) (fun _ _ _ h => h) (Or.inl ⟨by rfl, ?_⟩) (by assumption) ?_
  rotate_left 1
  · intro w hSw; (try dsimp only at hSw); go_simp; (try with_reducible rfl)
  try simp only [Act.put, List.setIfInBounds_toArray, List.set_cons_zero, List.set_cons_succ]
  refine wpAnyH_take (i := 2) (v := .bool true) (by simp only [List.getElem?_toArray, List.getElem?_cons_succ, List.getElem?_cons_zero]; rfl) (by kernel_rfl) (by kernel_rfl) (by kernel_rfl) (fun _ _ _ h => h) (Or.inl ⟨by rfl, ?_⟩) (by assumption) ?_
  · intro w hSw; (try dsimp only at hSw); (try go_simp); ((try simp); (try omega))
  try simp only [Act.put, List.setIfInBounds_toArray, List.set_cons_zero, List.set_cons_succ]
  refine wpAnyH_take (i := 3) (v := ?_) (by simp only [List.getElem?_toArray, List.getElem?_cons_succ, List.getElem?_cons_zero]; rfl) (by kernel_rfl) (by kernel_rfl) (by kernel_rfl) (fun _ _ _ h => h) (Or.inl ⟨by rfl, ?_⟩) (by assumption) ?_
  rotate_left 1
  · intro w hSw; (try dsimp only at hSw); go_simp; (try with_reducible rfl)
  try simp only [Act.put, List.setIfInBounds_toArray, List.set_cons_zero, List.set_cons_succ]
  refine wpAnyH_take (i := 4) (v := ?_) (by simp only [List.getElem?_toArray, List.getElem?_cons_succ, List.getElem?_cons_zero]; rfl) (by kernel_rfl) (by kernel_rfl) (by kernel_rfl) (fun _ _ _ h => h) (Or.inl ⟨by rfl, ?_⟩) (by assumption) ?_
  rotate_left 1
  · intro w hSw; (try dsimp only at hSw); go_simp; (try with_reducible rfl)
  try simp only [Act.put, List.setIfInBounds_toArray, List.set_cons_zero, List.set_cons_succ]
  refine wpAnyH_take (i := 5) (v := ?_) (by simp only [List.getElem?_toArray, List.getElem?_cons_succ, List.getElem?_cons_zero]; rfl) (by kernel_rfl) (by kernel_rfl) (by kernel_rfl) (fun _ _ _ h => h) (Or.inl ⟨by rfl, ?_⟩) (by assumption) ?_
  rotate_left 1
  · intro w hSw; (try dsimp only at hSw); go_simp; (try with_reducible rfl)
  try simp only [Act.put, List.setIfInBounds_toArray, List.set_cons_zero, List.set_cons_succ]
  refine wpAnyH_take (i := 6) (v := ?_) (by simp only [List.getElem?_toArray, List.getElem?_cons_succ, List.getElem?_cons_zero]; rfl) (by kernel_rfl) (by kernel_rfl) (by kernel_rfl) (fun _ _ _ h => h) (Or.inl ⟨by rfl, ?_⟩) (by assumption) ?_
  rotate_left 1
  · intro w hSw; (try dsimp only at hSw); go_simp; (try with_reducible rfl)
  try simp only [Act.put, List.setIfInBounds_toArray, List.set_cons_zero, List.set_cons_succ]
  refine wpAnyH_take (i := 7) (v := ?_) (by simp only [List.getElem?_toArray, List.getElem?_cons_succ, List.getElem?_cons_zero]; rfl) (by kernel_rfl) (by kernel_rfl) (by kernel_rfl) (fun _ _ _ h => h) (Or.inl ⟨by rfl, ?_⟩) (by assumption) ?_
  rotate_left 1
  · intro w hSw; (try dsimp only at hSw); go_simp; (try with_reducible rfl)
  try simp only [Act.put, List.setIfInBounds_toArray, List.set_cons_zero, List.set_cons_succ]
  refine wpAnyH_take (i := 8) (v := .pointer (some ⟨0, k * 3, none⟩)) (by simp only [List.getElem?_toArray, List.getElem?_cons_succ, List.getElem?_cons_zero]; rfl) (by kernel_rfl) (by kernel_rfl) (by kernel_rfl) (fun _ _ _ h => h) (Or.inl ⟨by rfl, ?_⟩) (by assumption) ?_
  · intro w hSw; (try dsimp only at hSw); (try go_simp); (intro h9; omega)
  try simp only [Act.put, List.setIfInBounds_toArray, List.set_cons_zero, List.set_cons_succ]
  refine wpAnyH_take (i := 9) (v := ?_) (by simp only [List.getElem?_toArray, List.getElem?_cons_succ, List.getElem?_cons_zero]; rfl) (by kernel_rfl) (by kernel_rfl) (by kernel_rfl) (fun _ _ _ h => h) (Or.inl ⟨by rfl, ?_⟩) (by assumption) ?_
  rotate_left 1
  · intro w hSw; (try dsimp only at hSw); go_simp; (try with_reducible rfl)
  try simp only [Act.put, List.setIfInBounds_toArray, List.set_cons_zero, List.set_cons_succ]
  refine wpAnyH_take (i := 10) (v := ?_) (by simp only [List.getElem?_toArray, List.getElem?_cons_succ, List.getElem?_cons_zero]; rfl) (by kernel_rfl) (by kernel_rfl) (by kernel_rfl) (fun _ _ _ h => h) (Or.inl ⟨by rfl, ?_⟩) (by assumption) ?_
  rotate_left 1
  · intro w hSw; (try dsimp only at hSw); go_simp; (try with_reducible rfl)
  try simp only [Act.put, List.setIfInBounds_toArray, List.set_cons_zero, List.set_cons_succ]
  refine wpAnyH_take (i := 11) (v := .bool true) (by simp only [List.getElem?_toArray, List.getElem?_cons_succ, List.getElem?_cons_zero]; rfl) (by kernel_rfl) (by kernel_rfl) (by kernel_rfl) (fun _ _ _ h => h) (Or.inl ⟨by rfl, ?_⟩) (by assumption) ?_
  · intro w hSw; (try dsimp only at hSw); (try go_simp); ((try simp); (try omega))
  try simp only [Act.put, List.setIfInBounds_toArray, List.set_cons_zero, List.set_cons_succ]
  refine wpAnyH_take (i := 12) (v := ?_) (by simp only [List.getElem?_toArray, List.getElem?_cons_succ, List.getElem?_cons_zero]; rfl) (by kernel_rfl) (by kernel_rfl) (by kernel_rfl) (fun _ _ _ h => h) (Or.inl ⟨by rfl, ?_⟩) (by assumption) ?_
  rotate_left 1
  · intro w hSw; (try dsimp only at hSw); go_simp; (try with_reducible rfl)
  try simp only [Act.put, List.setIfInBounds_toArray, List.set_cons_zero, List.set_cons_succ]
  refine wpAnyH_take (i := 13) (v := ?_) (by simp only [List.getElem?_toArray, List.getElem?_cons_succ, List.getElem?_cons_zero]; rfl) (by kernel_rfl) (by kernel_rfl) (by kernel_rfl) (fun _ _ _ h => h) (Or.inl ⟨by rfl, ?_⟩) (by assumption) ?_
  rotate_left 1
  · intro w hSw; (try dsimp only at hSw); go_simp; (try with_reducible rfl)
  try simp only [Act.put, List.setIfInBounds_toArray, List.set_cons_zero, List.set_cons_succ]
  refine wpAnyH_take (i := 14) (v := ?_) (by simp only [List.getElem?_toArray, List.getElem?_cons_succ, List.getElem?_cons_zero]; rfl) (by kernel_rfl) (by kernel_rfl) (by kernel_rfl) (fun _ _ _ h => h) (Or.inl ⟨by rfl, ?_⟩) (by assumption) ?_
  rotate_left 1
  · intro w hSw; (try dsimp only at hSw); go_simp; (try with_reducible rfl)
  try simp only [Act.put, List.setIfInBounds_toArray, List.set_cons_zero, List.set_cons_succ]
  refine wpAnyH_take (i := 15) (v := ?_) (by simp only [List.getElem?_toArray, List.getElem?_cons_succ, List.getElem?_cons_zero]; rfl) (by kernel_rfl) (by kernel_rfl) (by kernel_rfl) (fun _ _ _ h => h) (Or.inl ⟨by rfl, ?_⟩) (by assumption) ?_
  rotate_left 1
  · intro w hSw; (try dsimp only at hSw); go_simp; (try with_reducible rfl)
  try simp only [Act.put, List.setIfInBounds_toArray, List.set_cons_zero, List.set_cons_succ]
  refine wpAnyH_ready (rs := [16]) (by kernel_rfl) (by simp) ?_
  refine AllReadyH.cons (by simp only [List.getElem?_toArray, List.getElem?_cons_succ, List.getElem?_cons_zero]; rfl) (fun K hK => ?_) AllReadyH.nil
  go_simp
  go_at_call 104
  refine Calls.mono (US.out _ (Below.refl _ _).drew) ?_
  rintro e w2 ⟨b, rfl, hb, hrow, b2⟩
  have B2 : Hid (Below x.heap.size x w2) := (Below.refl x.heap.size x).drew.trans b2
  have R2 := hid hrow
  clear hb hrow b2
  clear hHeld
  refine hK.out _ _ (KS.out _ B2.out) (fun hHeld => ?_)
  clear hK K
  try simp only [Act.put, List.setIfInBounds_toArray, List.set_cons_zero, List.set_cons_succ]
  refine wpAnyH_ready (rs := [17]) (by kernel_rfl) (by simp) ?_
  refine AllReadyH.cons (by simp only [List.getElem?_toArray, List.getElem?_cons_succ, List.getElem?_cons_zero]; rfl) (fun K hK => ?_) AllReadyH.nil
  go_simp
  go_at_call 80
  refine Calls.mono (AU.out _ _ R2.out) ?_
  rintro e w3 ⟨rfl, rfl⟩
  clear hHeld
  refine hK.out _ _ (KS.out _ B2.out) (fun hHeld => ?_)
  clear hK K
  try simp only [Act.put, List.setIfInBounds_toArray, List.set_cons_zero, List.set_cons_succ]
  refine wpAnyH_take (i := 18) (v := ?_) (by simp only [List.getElem?_toArray, List.getElem?_cons_succ, List.getElem?_cons_zero]; rfl) (by kernel_rfl) (by kernel_rfl) (by kernel_rfl) (fun _ _ _ h => h) (Or.inl ⟨by rfl, ?_⟩) (by assumption) ?_
  rotate_left 1
  · intro w hSw; (try dsimp only at hSw); go_simp; (try with_reducible rfl)
  try simp only [Act.put, List.setIfInBounds_toArray, List.set_cons_zero, List.set_cons_succ]
  refine wpAnyH_take (i := 19) (v := ?_) (by simp only [List.getElem?_toArray, List.getElem?_cons_succ, List.getElem?_cons_zero]; rfl) (by kernel_rfl) (by kernel_rfl) (by kernel_rfl) (fun _ _ _ h => h) (Or.inl ⟨by rfl, ?_⟩) (by assumption) ?_
  rotate_left 1
  · intro w hSw; (try dsimp only at hSw); go_simp; (try with_reducible rfl)
  try simp only [Act.put, List.setIfInBounds_toArray, List.set_cons_zero, List.set_cons_succ]
  refine wpAnyH_take (i := 20) (v := ?_) (by simp only [List.getElem?_toArray, List.getElem?_cons_succ, List.getElem?_cons_zero]; rfl) (by kernel_rfl) (by kernel_rfl) (by kernel_rfl) (fun _ _ _ h => h) (Or.inl ⟨by rfl, ?_⟩) (by assumption) ?_
  rotate_left 1
  · intro w hSw; (try dsimp only at hSw); go_simp; (try with_reducible rfl)
  try simp only [Act.put, List.setIfInBounds_toArray, List.set_cons_zero, List.set_cons_succ]
  refine wpAnyH_ready (rs := [21]) (by kernel_rfl) (by simp) ?_
  refine AllReadyH.cons (by simp only [List.getElem?_toArray, List.getElem?_cons_succ, List.getElem?_cons_zero]; rfl) (fun K hK => ?_) AllReadyH.nil
  go_simp
  go_at_call 107
  refine Calls.mono (UN.out _ B2.out) ?_
  rintro e w4 ⟨b4, sv, rfl, hsv, _, hrow4, b4b⟩
  have B4 : Hid (Below x.heap.size x w4) := B2.out.trans (b4b.mono B2.out.size)
  have R4 := hid hrow4
  have SV := hid hsv
  clear hrow4 b4b hsv
  clear hHeld
  refine hK.out _ _ (KS.out _ B4.out) (fun hHeld => ?_)
  clear hK K
  try simp only [Act.put, List.setIfInBounds_toArray, List.set_cons_zero, List.set_cons_succ]
  refine wpAnyH_ready (rs := [22]) (by kernel_rfl) (by simp) ?_
  refine AllReadyH.cons (by simp only [List.getElem?_toArray, List.getElem?_cons_succ, List.getElem?_cons_zero]; rfl) (fun K hK => ?_) AllReadyH.nil
  go_simp
  go_at_call 80
  refine Calls.mono (AN.out _ _ _ SV.out R4.out) ?_
  rintro e w5 ⟨rfl, rfl⟩
  clear hHeld
  refine hK.out _ _ (KS.out _ B4.out) (fun hHeld => ?_)
  clear hK K
  try simp only [Act.put, List.setIfInBounds_toArray, List.set_cons_zero, List.set_cons_succ]
  refine wpAnyH_take (i := 23) (v := ?_) (by simp only [List.getElem?_toArray, List.getElem?_cons_succ, List.getElem?_cons_zero]; rfl) (by kernel_rfl) (by kernel_rfl) (by kernel_rfl) (fun _ _ _ h => h) (Or.inl ⟨by rfl, ?_⟩) (by assumption) ?_
  rotate_left 1
  · intro w hSw; (try dsimp only at hSw); go_simp; (try with_reducible rfl)
  try simp only [Act.put, List.setIfInBounds_toArray, List.set_cons_zero, List.set_cons_succ]
  refine wpAnyH_take (i := 24) (v := ?_) (by simp only [List.getElem?_toArray, List.getElem?_cons_succ, List.getElem?_cons_zero]; rfl) (by kernel_rfl) (by kernel_rfl) (by kernel_rfl) (fun _ _ _ h => h) (Or.inl ⟨by rfl, ?_⟩) (by assumption) ?_
  rotate_left 1
  · intro w hSw; (try dsimp only at hSw); go_simp; (try with_reducible rfl)
  try simp only [Act.put, List.setIfInBounds_toArray, List.set_cons_zero, List.set_cons_succ]
  refine wpAnyH_done (by kernel_rfl) ?_ _
  refine NoPanic.normal ?_
  go_wp2
  go_ret
  exact ⟨rfl, BX.out.trans (B4.out.mono BX.out.size)⟩

theorem kind_nat {g : Ga} {n : Nat} (h : lineB g n = true) : ∃ k : Nat, g.kind = (k : Int) ∧ 1 ≤ k ∧ k ≤ 4 := by
  obtain ⟨h1, h2⟩ := lineB_kind h
  exact ⟨g.kind.toNat, by omega, by omega, by omega⟩

set_option maxHeartbeats 2000000 in
theorem placed_ok (c : Net) (sg so : Option Addr) (cg co : Nat) (w : World) (hc : CirAt w c sg so) (hkd : KindsAt w) (hf : PureNet.Formed c) :
    Calls Tryd.prog 52 #[cirV c sg cg so co] w fun e w' => e = .returned (.bool true) ∧ Below w.heap.size w w' := by
  have HC := hid hc
  have KD := hid hkd
  have hfew := hf.few
  have hfewo := hf.fewOuts
  have FT : Hid (∀ (i : Nat) (g : Ga), c.gates[i]? = some g → ∀ W, Below w.heap.size w W → Calls Tryd.prog 79 #[.agg #[.int .i64 g.kind, .string g.name, .int .i64 g.op, .int .i64 g.a, .int .i64 g.b, .int .i64 g.c], .int .i64 (c.gates.length : Int)] W fun e w' => e = .returned (.bool true) ∧ Below W.heap.size W w') := fun i g hg W hW => by
    obtain ⟨k, hk, h1, h4⟩ := kind_nat (hf.lines i g hg).2
    exact fits_ok k g c.gates.length W (hkd.on hW) hk h1 h4 (hf.lines i g hg).2
  have AB : Hid (∀ W, Below w.heap.size w W → Calls Tryd.prog 80 #[.int .i64 (c.gates.length : Int), .slice so c.outs.length co] W fun e w' => e = .returned (.bool true) ∧ w' = W) := fun W hW => areBelow_ok _ c.outs so co W (hc.below hW).outs (by omega) hf.outs
  clear hc hkd hf
  obtain ⟨x, hx⟩ : ∃ x, x = w.alloc (Obj.cells #[Value.string c.name, Value.slice sg c.gates.length cg, Value.slice so c.outs.length co] 26) := ⟨_, rfl⟩
  have RX : Hid (x.heap[w.heap.size]? = some (.cells #[Value.string c.name, Value.slice sg c.gates.length cg, Value.slice so c.outs.length co] 26 (0, 0))) := by rw [hx]; exact heap_alloc_new w _
  have BX : Hid (Below w.heap.size w x) := by rw [hx]; exact (Below.refl _ _).alloc (Nat.le_refl _) _
  have HX := hid hx
  have cx := fun j => cell_row RX.out j
  have hbx := (Array.getElem?_eq_some_iff.1 RX.out).1
  clear hx
  go_enter Tryd.func52, Tryd.ntmps52
  go_wp2_with (rw [← HX.out])
  clear cx hbx
  go_loopw [8] (fun iv W => ∃ i : Nat, i ≤ c.gates.length ∧ iv = .int .i64 (i : Int) ∧ Hid (Below x.heap.size x W)) (fun iv _ => c.gates.length - (intOf iv).toNat)
  case atStart => exact ⟨0, Nat.zero_le _, rfl, Below.refl _ _⟩
  case round =>
    obtain ⟨i, hi, rfl, HB⟩ := hrel
    have bw : Below w.heap.size w wr := BX.out.trans (HB.out.mono BX.out.size)
    have hrow := (HB.out.block _ (Array.getElem?_eq_some_iff.1 RX.out).1).trans RX.out
    have c0 := fun j => cell_row hrow j
    have hb0 := (Array.getElem?_eq_some_iff.1 hrow).1
    have BW := hid bw
    by_cases hlt : i < c.gates.length
    · obtain ⟨g, hg⟩ : ∃ g, c.gates[i]? = some g := ⟨_, List.getElem?_eq_getElem hlt⟩
      obtain ⟨b, o, rfl, hb, d0, d1, d2, d3, d4, d5⟩ := gate_at (HC.out.below bw).gates i g hg
      have FI : Hid (∀ ob : Obj, _) := fun ob => FT.out i g hg (wr.alloc ob) (bw.alloc bw.size ob)
      clear bw hrow hg
      go_wp2_with (first | (go_at_call 79; refine Calls.mono (FI.out _) ?_; rintro e w2 ⟨rfl, b2⟩; have B2 : Hid (Below x.heap.size x w2) := (HB.out.alloc HB.out.size _).trans (b2.mono (by have := HB.out.size; simp; omega)); clear b2))
      exact ⟨⟨i + 1, hlt, by go_num, B2.out⟩, by simp [intOf]; omega⟩
    · have AW := hid (AB.out wr bw)
      clear bw hrow
      go_wp2_with (first | (go_at_call 80; refine Calls.mono AW.out ?_; rintro e w2 ⟨rfl, rfl⟩))
      go_ret
      exact ⟨rfl, BW.out⟩
end Go.Proofs.YtfmmmhcpdinhgaaDoor
/-
  Lines that bear on something: marks, and the rest turned.
-/
namespace PureNet
set_option maxRecDepth 100000

theorem way_snoc {l : List Ga} {i j k : Nat} (h : Way l i j) (h2 : Leans l j k) : Way l i k := by
  induction h using PureNet.Way.ind with
  | one h1 => exact .more h1 (.one h2)
  | more h1 _ ih => exact .more h1 (ih h2)
end PureNet
/-
  Circles: where each line of a set leans on one of it, one of it is in a circle.
-/
namespace PureNet
set_option maxRecDepth 100000

theorem holes (n : Nat) : ∀ f : Nat → Nat, (∀ k, k ≤ n → f k < n) → ∃ a b, a < b ∧ b ≤ n ∧ f a = f b := by
  induction n with
  | zero => intro f h; have := h 0 (Nat.le_refl _); omega
  | succ n ih =>
    intro f h
    by_cases hx : ∃ k, k ≤ n ∧ f k = f (n + 1)
    · obtain ⟨k, hk, e⟩ := hx
      exact ⟨k, n + 1, by omega, Nat.le_refl _, e⟩
    · have hne : ∀ k, k ≤ n → f k ≠ f (n + 1) := fun k hk e => hx ⟨k, hk, e⟩
      obtain ⟨a, b, hab, hb, e⟩ := ih (fun k => if f k = n then f (n + 1) else f k) (fun k hk => by
        have h1 := h k (by omega)
        have h2 := h (n + 1) (Nat.le_refl _)
        have h3 := hne k hk
        show (if f k = n then f (n + 1) else f k) < n
        split <;> omega)
      refine ⟨a, b, hab, by omega, ?_⟩
      have ha := hne a (by omega)
      have hb' := hne b hb
      have e2 : (if f a = n then f (n + 1) else f a) = (if f b = n then f (n + 1) else f b) := e
      split at e2 <;> split at e2 <;> omega
end PureNet
/-
  The search of the program, by lists: its state, its steps; where no line is in a circle.
-/
namespace PureNet

/-- the state of a search. -/
structure Ps where
  met : Nat → Int
  reached : Nat → Int
  part : Nat → Int
  way : List (Nat × List Nat)
  waiting : List Nat
  out : List Nat
def upd (f : Nat → Int) (x : Nat) (v : Int) : Nat → Int := fun y => if y = x then v else f y
def leanN (l : List Ga) (x : Nat) : List Nat := match l[x]? with | some g => (leansOn g).map Int.toNat | none => []
def Ps.number (s : Ps) : Int := (s.out.length : Int) + ((s.waiting.length : Int) + 1)
def Ps.meet (l : List Ga) (s : Ps) (x : Nat) : Ps := ⟨upd s.met x s.number, upd s.reached x s.number, s.part, s.way ++ [(x, leanN l x)], s.waiting ++ [x], s.out⟩
def Ps.reach (s : Ps) (x : Nat) (m : Int) : Ps := ⟨s.met, upd s.reached x (min (s.reached x) m), s.part, s.way, s.waiting, s.out⟩
def Ps.goes (s : Ps) (way : List (Nat × List Nat)) : Ps := ⟨s.met, s.reached, s.part, way, s.waiting, s.out⟩
/-- a part comes out: what waits from x on, the last first. -/
def Ps.comeOut (s : Ps) (pre post : List Nat) (x : Nat) : Ps := ⟨s.met, s.reached, fun y => if y ∈ x :: post then s.met x else s.part y, s.way, pre, s.out ++ (x :: post).reverse⟩

/-- what is in bounds. -/
structure Ps.Ok (l : List Ga) (s : Ps) : Prop where
  way : ∀ a ∈ s.way, a.1 < l.length ∧ ∀ y ∈ a.2, y < l.length
  wait : ∀ x ∈ s.waiting, x < l.length
  wayN : s.way.length ≤ l.length
  outN : s.out.length + s.waiting.length ≤ l.length
/-- what a search keeps, by a measure. -/
structure Keeps (l : List Ga) (I : Ps → Prop) (m : Ps → Nat) : Prop where
  ok : ∀ s, I s → s.Ok l
  back : ∀ s ws x, I s → s.way = ws ++ [(x, [])] → s.reached x = s.met x → ∃ pre post, s.waiting = pre ++ x :: post ∧ x ∉ post ∧ s.part x = 0 ∧ s.met x ≠ 0 ∧ I ((s.goes ws).comeOut pre post x) ∧ m ((s.goes ws).comeOut pre post x) < m s
  on : ∀ s ws x, I s → s.way = ws ++ [(x, [])] → s.reached x ≠ s.met x → ∃ vs y lf, ws = vs ++ [(y, lf)] ∧ I ((s.goes ws).reach y (s.reached x)) ∧ m ((s.goes ws).reach y (s.reached x)) < m s
  meet : ∀ s ws x y lf, I s → s.way = ws ++ [(x, y :: lf)] → s.met y = 0 → I ((s.goes (ws ++ [(x, lf)])).meet l y) ∧ m ((s.goes (ws ++ [(x, lf)])).meet l y) < m s
  again : ∀ s ws x y lf, I s → s.way = ws ++ [(x, y :: lf)] → s.met y ≠ 0 → s.part y = 0 → I ((s.goes (ws ++ [(x, lf)])).reach x (s.met y)) ∧ m ((s.goes (ws ++ [(x, lf)])).reach x (s.met y)) < m s
  past : ∀ s ws x y lf, I s → s.way = ws ++ [(x, y :: lf)] → s.met y ≠ 0 → s.part y ≠ 0 → I (s.goes (ws ++ [(x, lf)])) ∧ m (s.goes (ws ++ [(x, lf)])) < m s

/-- a search where no line is in a circle. -/
structure Sr (l : List Ga) (P : Nat → Prop) (S0 : List Nat) (E : Nat → Prop) (s : Ps) : Prop where
  rea : s.reached = s.met
  wai : s.waiting = s.way.map Prod.fst
  par : ∀ y, s.part y = if y ∈ s.out then s.met y else 0
  nd : (s.out ++ s.way.map Prod.fst).Nodup
  lt : ∀ x ∈ s.out ++ s.way.map Prod.fst, x < l.length
  met : ∀ x, s.met x ≠ 0 ↔ x ∈ s.out ++ s.way.map Prod.fst
  top : ∀ x, s.met x ≤ ((s.out ++ s.way.map Prod.fst).length : Int)
  inj : ∀ x y, s.met x = s.met y → s.met x ≠ 0 → x = y
  ord : ∀ (i x y : Nat), s.out[i]? = some x → Leans l x y → ∃ j, j < i ∧ s.out[j]? = some y
  chain : ∀ (k : Nat) (a b : Nat × List Nat), s.way[k]? = some a → s.way[k + 1]? = some b → Leans l a.1 b.1
  left : ∀ (k : Nat) (a : Nat × List Nat), s.way[k]? = some a → ∀ y, Leans l a.1 y → y ∈ a.2 ∨ y ∈ s.out ∨ (∃ b, s.way[k + 1]? = some b ∧ b.1 = y) ∨ (k + 1 = s.way.length ∧ E y)
  leftL : ∀ a ∈ s.way, ∀ y ∈ a.2, Leans l a.1 y
  allow : ∀ x ∈ s.out ++ s.way.map Prod.fst, P x
  keep : ∀ x ∈ S0, x ∈ s.out ++ s.way.map Prod.fst
def Ps.left (n : Nat) (s : Ps) : Nat := 5 * (n - (s.out ++ s.way.map Prod.fst).length) + (s.way.map fun a => a.2.length + 1).sum

theorem leanN_mem {l : List Ga} (hl : ∀ (i : Nat) (g : Ga), l[i]? = some g → ∀ a ∈ leansOn g, 0 ≤ a ∧ a < (l.length : Int)) (x y : Nat) : y ∈ leanN l x ↔ Leans l x y := by
  unfold leanN Leans
  cases h : l[x]? with
  | none => simp
  | some g =>
    simp only [List.mem_map, Option.some.injEq, exists_eq_left']
    constructor
    · rintro ⟨a, ha, rfl⟩
      rw [Int.toNat_of_nonneg (hl x g h a ha).1]
      exact ha
    · intro hy
      exact ⟨_, hy, by simp⟩
theorem leanN_len (l : List Ga) (x : Nat) : (leanN l x).length ≤ 3 := by
  unfold leanN
  cases l[x]? with
  | none => simp
  | some g =>
    simp only [List.length_map]
    unfold leansOn
    split
    · simp
    · split <;> simp
theorem few_of_nodup {n : Nat} {L : List Nat} (hn : L.Nodup) (hl : ∀ x ∈ L, x < n) : L.length ≤ n := by
  apply Classical.byContradiction
  intro hno
  have hat : ∀ k, k ≤ n → k < L.length := fun k hk => by omega
  obtain ⟨a, b, hab, hb, e⟩ := holes n (fun k => L.getD k 0) (fun k hk => by
    show L.getD k 0 < n
    rw [List.getD_eq_getElem?_getD, List.getElem?_eq_getElem (hat k hk)]
    exact hl _ (List.getElem_mem _))
  have e2 : L.getD a 0 = L.getD b 0 := e
  rw [List.getD_eq_getElem?_getD, List.getD_eq_getElem?_getD, List.getElem?_eq_getElem (hat a (by omega)), List.getElem?_eq_getElem (hat b hb)] at e2
  have := (List.getElem?_inj (hat a (by omega)) hn).1 (show L[a]? = L[b]? by rw [List.getElem?_eq_getElem (hat a (by omega)), List.getElem?_eq_getElem (hat b hb)]; exact congrArg some e2)
  omega
theorem way_chain {l : List Ga} {way : List (Nat × List Nat)} (h : ∀ (k : Nat) (a b : Nat × List Nat), way[k]? = some a → way[k + 1]? = some b → Leans l a.1 b.1) : ∀ (d k : Nat) (a b : Nat × List Nat), way[k]? = some a → way[k + d + 1]? = some b → Way l a.1 b.1 := by
  intro d
  induction d with
  | zero => intro k a b ha hb; exact .one (h k a b ha hb)
  | succ d ih =>
    intro k a b ha hb
    have hk : k + d + 1 < way.length := by
      have := (List.getElem?_eq_some_iff.1 hb).1
      omega
    have hm : way[k + d + 1]? = some way[k + d + 1] := List.getElem?_eq_getElem hk
    exact way_snoc (ih k a _ ha hm) (h _ _ _ hm hb)

section
variable {l : List Ga} {P : Nat → Prop} {S0 : List Nat} {E : Nat → Prop} {s : Ps}
theorem Sr.ok (hl : ∀ (i : Nat) (g : Ga), l[i]? = some g → ∀ a ∈ leansOn g, 0 ≤ a ∧ a < (l.length : Int)) (h : Sr l P S0 E s) : s.Ok l := by
  have hfew := few_of_nodup h.nd h.lt
  rw [List.length_append, List.length_map] at hfew
  refine ⟨fun a ha => ⟨h.lt _ (List.mem_append_right _ (List.mem_map_of_mem ha)), fun y hy => ?_⟩, fun x hx => h.lt x (List.mem_append_right _ (by rw [← h.wai]; exact hx)), by omega, by rw [h.wai, List.length_map]; omega⟩
  obtain ⟨g, hg, hy2⟩ := h.leftL a ha y hy
  have := hl _ g hg _ hy2
  omega
theorem Sr.at_last (ws : List (Nat × List Nat)) (a : Nat × List Nat) : (ws ++ [a])[ws.length]? = some a := by simp
/-- what is met, and not out, is on the way. -/
theorem Sr.no_again (hf : ∀ i, ¬ Way l i i) (h : Sr l P S0 E s) {ws : List (Nat × List Nat)} {x y : Nat} {lf : List Nat} (hw : s.way = ws ++ [(x, y :: lf)]) (hm : s.met y ≠ 0) : s.part y ≠ 0 := by
  intro hp
  have hy := (h.met y).1 hm
  have hno : y ∉ s.out := fun ho => by
    have := h.par y
    rw [if_pos ho] at this
    exact hm (by rw [← this]; exact hp)
  have hyw : y ∈ s.way.map Prod.fst := by
    rcases List.mem_append.1 hy with h1 | h1
    · exact absurd h1 hno
    · exact h1
  obtain ⟨a, ha, rfl⟩ := List.mem_map.1 hyw
  obtain ⟨k, hk, hka⟩ := List.getElem_of_mem ha
  have hka2 : s.way[k]? = some a := by rw [List.getElem?_eq_getElem hk, hka]
  have hx : s.way[ws.length]? = some (x, a.1 :: lf) := by rw [hw]; exact Sr.at_last _ _
  have hlean : Leans l x a.1 := h.leftL (x, a.1 :: lf) (by rw [hw]; simp) a.1 (by simp)
  have hkl : k ≤ ws.length := by rw [hw, List.length_append, List.length_singleton] at hk; omega
  by_cases hkw : k = ws.length
  · rw [hkw] at hka2
    rw [hx] at hka2
    have e1 : x = a.1 := congrArg Prod.fst (Option.some.inj hka2)
    rw [← e1] at hlean
    exact hf _ (.one hlean)
  · have := way_chain h.chain (ws.length - k - 1) k a (x, a.1 :: lf) hka2 (by rw [show k + (ws.length - k - 1) + 1 = ws.length by omega]; exact hx)
    exact hf _ (way_snoc this hlean)
theorem Sr.take (h : Sr l P S0 (fun _ => False) s) {ws : List (Nat × List Nat)} {x y : Nat} {lf : List Nat} (hw : s.way = ws ++ [(x, y :: lf)]) : Sr l P S0 (fun z => z = y) (s.goes (ws ++ [(x, lf)])) := by
  have hm : (ws ++ [(x, lf)]).map Prod.fst = s.way.map Prod.fst := by rw [hw]; simp
  have hat : ∀ (k : Nat) (a : Nat × List Nat), (ws ++ [(x, lf)])[k]? = some a → ∃ b, s.way[k]? = some b ∧ b.1 = a.1 ∧ (∀ z, z ∈ b.2 → z ∈ a.2 ∨ (k + 1 = (ws ++ [(x, lf)]).length ∧ z = y)) ∧ ∀ z ∈ a.2, z ∈ b.2 := fun k a hk => by
    by_cases hlt : k < ws.length
    · rw [List.getElem?_append_left hlt] at hk
      exact ⟨a, by rw [hw, List.getElem?_append_left hlt]; exact hk, rfl, fun z hz => .inl hz, fun z hz => hz⟩
    · have hk2 := (List.getElem?_eq_some_iff.1 hk).1
      rw [List.length_append, List.length_singleton] at hk2
      obtain rfl : k = ws.length := by omega
      rw [Sr.at_last] at hk
      obtain rfl := Option.some.inj hk
      refine ⟨(x, y :: lf), by rw [hw]; exact Sr.at_last _ _, rfl, fun z hz => ?_, fun z hz => by simp [show z ∈ lf from hz]⟩
      rcases List.mem_cons.1 hz with rfl | hz
      · exact .inr ⟨by simp, rfl⟩
      · exact .inl hz
  have hback : ∀ (k : Nat) (b : Nat × List Nat), s.way[k]? = some b → ∃ a, (ws ++ [(x, lf)])[k]? = some a ∧ a.1 = b.1 := fun k b hk => by
    have hk2 := (List.getElem?_eq_some_iff.1 hk).1
    have hk3 : k < (ws ++ [(x, lf)]).length := by rw [hw] at hk2; simpa using hk2
    obtain ⟨b', hb', e, _⟩ := hat k _ (List.getElem?_eq_getElem hk3)
    rw [hk] at hb'
    obtain rfl := Option.some.inj hb'
    exact ⟨_, List.getElem?_eq_getElem hk3, e.symm⟩
  refine ⟨h.rea, by show s.waiting = (ws ++ [(x, lf)]).map Prod.fst; rw [hm]; exact h.wai, h.par, ?_, ?_, ?_, ?_, h.inj, h.ord, fun k a b ha hb => ?_, fun k a ha z hz => ?_, fun a ha z hz => ?_, ?_, ?_⟩
  · show (s.out ++ (ws ++ [(x, lf)]).map Prod.fst).Nodup
    rw [hm]; exact h.nd
  · show ∀ z ∈ s.out ++ (ws ++ [(x, lf)]).map Prod.fst, z < l.length
    rw [hm]; exact h.lt
  · show ∀ z, s.met z ≠ 0 ↔ z ∈ s.out ++ (ws ++ [(x, lf)]).map Prod.fst
    rw [hm]; exact h.met
  · show ∀ z, s.met z ≤ ((s.out ++ (ws ++ [(x, lf)]).map Prod.fst).length : Int)
    rw [hm]; exact h.top
  · obtain ⟨a', ha', ea, _⟩ := hat k a ha
    obtain ⟨b', hb', eb, _⟩ := hat (k + 1) b hb
    rw [← ea, ← eb]
    exact h.chain k a' b' ha' hb'
  · obtain ⟨a', ha', ea, h1, h2⟩ := hat k a ha
    rw [← ea] at hz
    rcases h.left k a' ha' z hz with hz2 | hz2 | ⟨b, hb, e⟩ | ⟨_, hno⟩
    · rcases h1 z hz2 with hz3 | hz3
      · exact .inl hz3
      · exact .inr (.inr (.inr hz3))
    · exact .inr (.inl hz2)
    · obtain ⟨b', hb', e'⟩ := hback (k + 1) b hb
      exact .inr (.inr (.inl ⟨b', hb', e'.trans e⟩))
    · exact hno.elim
  · have ha : a ∈ ws ++ [(x, lf)] := ha
    obtain ⟨k, hk, e⟩ := List.getElem_of_mem ha
    obtain ⟨a', ha', ea, _, h2⟩ := hat k a (by rw [List.getElem?_eq_getElem hk, e])
    rw [← ea]
    exact h.leftL a' (List.mem_of_getElem? ha') z (h2 z hz)
  · show ∀ z ∈ s.out ++ (ws ++ [(x, lf)]).map Prod.fst, P z
    rw [hm]; exact h.allow
  · show ∀ z ∈ S0, z ∈ s.out ++ (ws ++ [(x, lf)]).map Prod.fst
    rw [hm]; exact h.keep
theorem Sr.settle (h : Sr l P S0 E s) (hE : ∀ z, E z → z ∈ s.out) : Sr l P S0 (fun _ => False) s :=
  ⟨h.rea, h.wai, h.par, h.nd, h.lt, h.met, h.top, h.inj, h.ord, h.chain, fun k a ha z hz => by
    rcases h.left k a ha z hz with h1 | h1 | h1 | ⟨_, h1⟩
    · exact .inl h1
    · exact .inr (.inl h1)
    · exact .inr (.inr (.inl h1))
    · exact .inr (.inl (hE z h1)), h.leftL, h.allow, h.keep⟩
/-- a line is met. -/
theorem Sr.meet (hl : ∀ (i : Nat) (g : Ga), l[i]? = some g → ∀ a ∈ leansOn g, 0 ≤ a ∧ a < (l.length : Int)) (h : Sr l P S0 E s) {y : Nat} (hE : ∀ z, E z → z = y) (hy : y < l.length) (hm : s.met y = 0) (hP : P y)
    (hlast : ∀ ws a, s.way = ws ++ [a] → Leans l a.1 y) : Sr l P S0 (fun _ => False) (s.meet l y) := by
  have hno : y ∉ s.out ++ s.way.map Prod.fst := fun hin => (h.met y).2 hin hm
  have hmap : (s.way ++ [(y, leanN l y)]).map Prod.fst = s.way.map Prod.fst ++ [y] := by simp
  have hnum : s.number = ((s.out ++ s.way.map Prod.fst).length : Int) + 1 := by
    unfold Ps.number
    rw [h.wai, List.length_append]
    simp
    omega
  have happ : s.out ++ (s.way.map Prod.fst ++ [y]) = (s.out ++ s.way.map Prod.fst) ++ [y] := by rw [List.append_assoc]
  refine ⟨?_, ?_, fun z => ?_, ?_, ?_, fun z => ?_, fun z => ?_, fun a b hab ha => ?_, h.ord, fun k a b ha hb => ?_, fun k a ha z hz => ?_, fun a ha z hz => ?_, ?_, ?_⟩
  · show upd s.reached y s.number = upd s.met y s.number
    rw [h.rea]
  · show s.waiting ++ [y] = (s.way ++ [(y, leanN l y)]).map Prod.fst
    rw [hmap, h.wai]
  · show s.part z = if z ∈ s.out then upd s.met y s.number z else 0
    rw [h.par z]
    by_cases hz : z ∈ s.out
    · rw [if_pos hz, if_pos hz, upd, if_neg (by rintro rfl; exact hno (List.mem_append_left _ hz))]
    · rw [if_neg hz, if_neg hz]
  · show (s.out ++ (s.way ++ [(y, leanN l y)]).map Prod.fst).Nodup
    rw [hmap, happ, List.nodup_append]
    exact ⟨h.nd, by simp, fun a ha b hb e => hno (by simp at hb; rw [← hb, ← e]; exact ha)⟩
  · show ∀ z ∈ s.out ++ (s.way ++ [(y, leanN l y)]).map Prod.fst, z < l.length
    rw [hmap, happ]
    intro z hz
    rcases List.mem_append.1 hz with hz | hz
    · exact h.lt z hz
    · simp at hz; omega
  · show upd s.met y s.number z ≠ 0 ↔ z ∈ s.out ++ (s.way ++ [(y, leanN l y)]).map Prod.fst
    rw [hmap, happ, List.mem_append, upd]
    by_cases hz : z = y
    · subst hz
      rw [if_pos rfl, hnum]
      simp
      omega
    · rw [if_neg hz, h.met z]
      simp [hz]
  · show upd s.met y s.number z ≤ ((s.out ++ (s.way ++ [(y, leanN l y)]).map Prod.fst).length : Int)
    rw [hmap, happ, List.length_append, List.length_singleton, upd]
    by_cases hz : z = y
    · rw [if_pos hz, hnum]; omega
    · rw [if_neg hz]
      have := h.top z
      omega
  · have hab2 : upd s.met y s.number a = upd s.met y s.number b := hab
    have ha2 : upd s.met y s.number a ≠ 0 := ha
    unfold upd at hab2 ha2
    by_cases ea : a = y
    · by_cases eb : b = y
      · rw [ea, eb]
      · rw [if_pos ea, if_neg eb] at hab2
        have := h.top b
        omega
    · by_cases eb : b = y
      · rw [if_neg ea, if_pos eb] at hab2
        have := h.top a
        omega
      · rw [if_neg ea, if_neg eb] at hab2
        rw [if_neg ea] at ha2
        exact h.inj a b hab2 ha2
  · have ha : (s.way ++ [(y, leanN l y)])[k]? = some a := ha
    have hb : (s.way ++ [(y, leanN l y)])[k + 1]? = some b := hb
    have hk := (List.getElem?_eq_some_iff.1 hb).1
    rw [List.length_append, List.length_singleton] at hk
    rw [List.getElem?_append_left (by omega)] at ha
    by_cases hlt : k + 1 < s.way.length
    · rw [List.getElem?_append_left hlt] at hb
      exact h.chain k a b ha hb
    · have e : k + 1 = s.way.length := by omega
      rw [e, Sr.at_last] at hb
      obtain rfl := Option.some.inj hb
      refine hlast (s.way.take k) a ?_
      have := List.take_append_getElem (l := s.way) (i := k) (by omega)
      rw [(List.getElem?_eq_some_iff.1 ha).2] at this
      rw [this, List.take_of_length_le (by omega)]
  · have ha : (s.way ++ [(y, leanN l y)])[k]? = some a := ha
    have hk := (List.getElem?_eq_some_iff.1 ha).1
    rw [List.length_append, List.length_singleton] at hk
    by_cases hlt : k < s.way.length
    · rw [List.getElem?_append_left hlt] at ha
      rcases h.left k a ha z hz with h1 | h1 | ⟨b, hb, e⟩ | ⟨hk1, he⟩
      · exact .inl h1
      · exact .inr (.inl h1)
      · exact .inr (.inr (.inl ⟨b, by show (s.way ++ [(y, leanN l y)])[k + 1]? = some b; rw [List.getElem?_append_left (List.getElem?_eq_some_iff.1 hb).1]; exact hb, e⟩))
      · exact .inr (.inr (.inl ⟨(y, leanN l y), by show (s.way ++ [(y, leanN l y)])[k + 1]? = some (y, leanN l y); rw [hk1]; exact Sr.at_last _ _, (hE z he).symm⟩))
    · obtain rfl : k = s.way.length := by omega
      rw [Sr.at_last] at ha
      obtain rfl := Option.some.inj ha
      exact .inl ((leanN_mem hl y z).2 hz)
  · have ha : a ∈ s.way ++ [(y, leanN l y)] := ha
    rcases List.mem_append.1 ha with ha | ha
    · exact h.leftL a ha z hz
    · obtain rfl := List.mem_singleton.1 ha
      exact (leanN_mem hl y z).1 hz
  · show ∀ z ∈ s.out ++ (s.way ++ [(y, leanN l y)]).map Prod.fst, P z
    rw [hmap, happ]
    intro z hz
    rcases List.mem_append.1 hz with hz | hz
    · exact h.allow z hz
    · simp at hz; rw [hz]; exact hP
  · show ∀ z ∈ S0, z ∈ s.out ++ (s.way ++ [(y, leanN l y)]).map Prod.fst
    rw [hmap, happ]
    intro z hz
    exact List.mem_append_left _ (h.keep z hz)
/-- a line comes out. -/
theorem Sr.back (h : Sr l P S0 (fun _ => False) s) {ws : List (Nat × List Nat)} {x : Nat} (hw : s.way = ws ++ [(x, [])]) : s.waiting = ws.map Prod.fst ++ [x] ∧ s.part x = 0 ∧ s.met x ≠ 0 ∧ Sr l P S0 (fun _ => False) ((s.goes ws).comeOut (ws.map Prod.fst) [] x) := by
  have hmap : s.way.map Prod.fst = ws.map Prod.fst ++ [x] := by rw [hw]; simp
  have hxin : x ∈ s.out ++ s.way.map Prod.fst := by rw [hmap]; simp
  have hxo : x ∉ s.out := fun ho => by
    have := h.nd
    rw [hmap, List.nodup_append] at this
    exact this.2.2 x ho x (by simp) rfl
  have hperm : ((s.out ++ [x]) ++ ws.map Prod.fst).Perm (s.out ++ s.way.map Prod.fst) := by
    rw [hmap, List.append_assoc]
    exact List.Perm.append_left _ List.perm_append_comm
  have hmx := (h.met x).2 hxin
  have hpx : s.part x = 0 := by rw [h.par x, if_neg hxo]
  have hget : ∀ (k : Nat) (a : Nat × List Nat), ws[k]? = some a → s.way[k]? = some a := fun k a hk => by rw [hw, List.getElem?_append_left (List.getElem?_eq_some_iff.1 hk).1]; exact hk
  refine ⟨by rw [h.wai, hmap], hpx, hmx, ?_⟩
  refine ⟨h.rea, rfl, fun z => ?_, ?_, ?_, fun z => ?_, fun z => ?_, h.inj, fun i a b ha hb => ?_, fun k a b ha hb => h.chain k a b (hget k a ha) (hget _ b hb), fun k a ha z hz => ?_, fun a ha z hz => h.leftL a (by rw [hw]; exact List.mem_append_left _ ha) z hz, ?_, ?_⟩
  · show (if z ∈ [x] then s.met x else s.part z) = if z ∈ s.out ++ [x].reverse then s.met z else 0
    by_cases hz : z = x
    · subst hz; simp
    · rw [if_neg (by simpa using hz), h.par z]
      simp [hz]
  · show ((s.out ++ [x].reverse) ++ ws.map Prod.fst).Nodup
    exact hperm.nodup_iff.2 h.nd
  · show ∀ z ∈ (s.out ++ [x].reverse) ++ ws.map Prod.fst, z < l.length
    exact fun z hz => h.lt z (hperm.mem_iff.1 hz)
  · show s.met z ≠ 0 ↔ z ∈ (s.out ++ [x].reverse) ++ ws.map Prod.fst
    rw [h.met z]
    exact hperm.mem_iff.symm
  · show s.met z ≤ (((s.out ++ [x].reverse) ++ ws.map Prod.fst).length : Int)
    rw [show ((s.out ++ [x].reverse) ++ ws.map Prod.fst).length = _ from hperm.length_eq]
    exact h.top z
  · have ha : (s.out ++ [x])[i]? = some a := ha
    have hi := (List.getElem?_eq_some_iff.1 ha).1
    rw [List.length_append, List.length_singleton] at hi
    by_cases hlt : i < s.out.length
    · rw [List.getElem?_append_left hlt] at ha
      obtain ⟨j, hj, hjb⟩ := h.ord i a b ha hb
      exact ⟨j, hj, by show (s.out ++ [x])[j]? = some b; rw [List.getElem?_append_left (by omega)]; exact hjb⟩
    · obtain rfl : i = s.out.length := by omega
      simp at ha
      subst ha
      rcases h.left ws.length (x, []) (by rw [hw]; exact Sr.at_last _ _) b hb with h1 | h1 | ⟨c, hc, _⟩ | ⟨_, hno⟩
      · simp at h1
      · obtain ⟨j, hj, e⟩ := List.getElem_of_mem h1
        exact ⟨j, hj, by show (s.out ++ [x])[j]? = some b; rw [List.getElem?_append_left hj, List.getElem?_eq_getElem hj, e]⟩
      · have := (List.getElem?_eq_some_iff.1 hc).1
        rw [hw, List.length_append, List.length_singleton] at this
        omega
      · exact hno.elim
  · have ha : ws[k]? = some a := ha
    rcases h.left k a (hget k a ha) z hz with h1 | h1 | ⟨b, hb, e⟩ | ⟨_, hno⟩
    · exact .inl h1
    · exact .inr (.inl (List.mem_append_left _ h1))
    · by_cases hlt : k + 1 < ws.length
      · rw [hw, List.getElem?_append_left hlt] at hb
        exact .inr (.inr (.inl ⟨b, hb, e⟩))
      · have hk := (List.getElem?_eq_some_iff.1 ha).1
        rw [hw, show k + 1 = ws.length by omega, Sr.at_last] at hb
        obtain rfl := Option.some.inj hb
        exact .inr (.inl (by show z ∈ s.out ++ [x]; rw [← e]; simp))
    · exact hno.elim
  · show ∀ z ∈ (s.out ++ [x].reverse) ++ ws.map Prod.fst, P z
    exact fun z hz => h.allow z (hperm.mem_iff.1 hz)
  · show ∀ z ∈ S0, z ∈ (s.out ++ [x].reverse) ++ ws.map Prod.fst
    exact fun z hz => hperm.mem_iff.2 (h.keep z hz)
end

theorem Sr.keeps {l : List Ga} (hl : ∀ (i : Nat) (g : Ga), l[i]? = some g → ∀ a ∈ leansOn g, 0 ≤ a ∧ a < (l.length : Int)) (hf : ∀ i, ¬ Way l i i) (P : Nat → Prop) (hP : ∀ x y, P x → Leans l x y → P y) (S0 : List Nat) : Keeps l (Sr l P S0 fun _ => False) (Ps.left l.length) := by
  refine ⟨fun s h => h.ok hl, fun s ws x h hw hr => ?_, fun s ws x h hw hr => absurd (by rw [h.rea]) hr, fun s ws x y lf h hw hm => ?_, fun s ws x y lf h hw hm hp => absurd hp (h.no_again hf hw hm), fun s ws x y lf h hw hm hp => ?_⟩
  · obtain ⟨h1, h2, h3, h4⟩ := h.back hw
    refine ⟨ws.map Prod.fst, [], h1, by simp, h2, h3, h4, ?_⟩
    show 5 * (l.length - ((s.out ++ [x].reverse) ++ ws.map Prod.fst).length) + (ws.map fun a => a.2.length + 1).sum < 5 * (l.length - (s.out ++ s.way.map Prod.fst).length) + (s.way.map fun a => a.2.length + 1).sum
    rw [hw]
    simp
  · have hlean : Leans l x y := h.leftL (x, y :: lf) (by rw [hw]; simp) y (by simp)
    obtain ⟨g, hg, hy2⟩ := hlean
    have hb := hl x g hg _ hy2
    have hno : y ∉ s.out ++ s.way.map Prod.fst := fun hin => (h.met y).2 hin hm
    have hfull : (s.out ++ s.way.map Prod.fst).length < l.length := by
      have := few_of_nodup (n := l.length) (L := (s.out ++ s.way.map Prod.fst) ++ [y]) (List.nodup_append.2 ⟨h.nd, by simp, fun a ha b hb e => hno (by simp at hb; rw [← hb, ← e]; exact ha)⟩) (fun z hz => by
        rcases List.mem_append.1 hz with hz | hz
        · exact h.lt z hz
        · simp at hz; omega)
      rw [List.length_append, List.length_singleton] at this
      omega
    refine ⟨?_, ?_⟩
    · refine Sr.meet hl (h.take hw) (fun z hz => hz) (by omega) hm (hP x y (h.allow x (by rw [hw]; simp)) ⟨g, hg, hy2⟩) fun vs a e => ?_
      have e2 : ws ++ [(x, lf)] = vs ++ [a] := e
      have := List.append_inj_right' e2 rfl
      obtain rfl := List.singleton_inj.1 this
      exact ⟨g, hg, hy2⟩
    · show 5 * (l.length - (s.out ++ ((ws ++ [(x, lf)]) ++ [(y, leanN l y)]).map Prod.fst).length) + (((ws ++ [(x, lf)]) ++ [(y, leanN l y)]).map fun a => a.2.length + 1).sum < 5 * (l.length - (s.out ++ s.way.map Prod.fst).length) + (s.way.map fun a => a.2.length + 1).sum
      have hq := leanN_len l y
      rw [hw] at hfull ⊢
      simp at hfull ⊢
      omega
  · have hyo : y ∈ s.out := by
      apply Classical.byContradiction
      intro hn
      exact hp (by rw [h.par y, if_neg hn])
    refine ⟨(h.take hw).settle (fun z hz => by rw [hz]; exact hyo), ?_⟩
    show 5 * (l.length - (s.out ++ (ws ++ [(x, lf)]).map Prod.fst).length) + ((ws ++ [(x, lf)]).map fun a => a.2.length + 1).sum < 5 * (l.length - (s.out ++ s.way.map Prod.fst).length) + (s.way.map fun a => a.2.length + 1).sum
    rw [hw]
    simp
end PureNet
/-
  The document's own FormedLine, leans.
-/
namespace Go.Proofs.YtfmmmhcpdinhgaaDoor
open Go.RowKit Go.Deep PureNet
set_option maxRecDepth 100000

set_option maxHeartbeats 2000000 in
set_option maxRecDepth 100000 in
theorem formedLine_any (g : Ga) (n : Nat) (w : World) : Calls Tryd.prog 56 #[.agg #[.int .i64 g.kind, .string g.name, .int .i64 g.op, .int .i64 g.a, .int .i64 g.b, .int .i64 g.c], .int .i64 (n : Int)] w fun e w' => e = .returned (.bool (lineB g n)) ∧ Below w.heap.size w w' := by
  have FA := hid (fun v u W => field_any v u n W)
  by_cases hk : 1 ≤ g.kind ∧ g.kind ≤ 4 ∧ 0 ≤ g.op
  · obtain ⟨k1, k2, k3⟩ := hk
    have hk : g.kind = 1 ∨ g.kind = 2 ∨ g.kind = 3 ∨ g.kind = 4 := by omega
    have HL : Hid (lineB g n = (decide (g.op ≤ mostOp g.kind) && fieldB g.a (decide (g.kind ≠ 1)) n && fieldB g.b (decide (g.kind = 2 ∨ g.kind = 4)) n && fieldB g.c (decide (g.kind = 4)) n)) := by
      show _ = _
      unfold lineB
      rw [show decide (1 ≤ g.kind ∧ g.kind ≤ 4 ∧ 0 ≤ g.op ∧ g.op ≤ mostOp g.kind) = decide (g.op ≤ mostOp g.kind) by simp [k1, k2, k3]]
    have k4 : ¬ g.op < 0 := by omega
    clear k1 k2 k3
    rcases hk with hk | hk | hk | hk
    · rw [hk] at HL ⊢
      have HK := hid hk
      clear hk
      go_enter Tryd.func56, Tryd.ntmps56
      go_wp2_with (first
        | (go_at_call 84; with_reducible refine (FA.out _ _ _).mono ?_; rintro e w1 ⟨rfl, rfl⟩))
      all_goals go_ret
      all_goals first
        | (have e : lineB g n = false := (by rw [HL.out]; simp [mostOp, *]; try (intro hh; omega)); rw [e]; exact ⟨rfl, (Below.refl _ _).alloc (Nat.le_refl _) _⟩)
        | (have e : lineB g n = fieldB g.c false n := (by rw [HL.out]; simp [mostOp, *]; try (intro hh; omega)); rw [e]; exact ⟨rfl, (Below.refl _ _).alloc (Nat.le_refl _) _⟩)
    · rw [hk] at HL ⊢
      have HK := hid hk
      clear hk
      go_enter Tryd.func56, Tryd.ntmps56
      go_wp2_with (first
        | (go_at_call 84; with_reducible refine (FA.out _ _ _).mono ?_; rintro e w1 ⟨rfl, rfl⟩))
      all_goals go_ret
      all_goals first
        | (have e : lineB g n = false := (by rw [HL.out]; simp [mostOp, *]; try (intro hh; omega)); rw [e]; exact ⟨rfl, (Below.refl _ _).alloc (Nat.le_refl _) _⟩)
        | (have e : lineB g n = fieldB g.c false n := (by rw [HL.out]; simp [mostOp, *]; try (intro hh; omega)); rw [e]; exact ⟨rfl, (Below.refl _ _).alloc (Nat.le_refl _) _⟩)
    · rw [hk] at HL ⊢
      have HK := hid hk
      clear hk
      go_enter Tryd.func56, Tryd.ntmps56
      go_wp2_with (first
        | (go_at_call 84; with_reducible refine (FA.out _ _ _).mono ?_; rintro e w1 ⟨rfl, rfl⟩))
      all_goals go_ret
      all_goals first
        | (have e : lineB g n = false := (by rw [HL.out]; simp [mostOp, *]; try (intro hh; omega)); rw [e]; exact ⟨rfl, (Below.refl _ _).alloc (Nat.le_refl _) _⟩)
        | (have e : lineB g n = fieldB g.c false n := (by rw [HL.out]; simp [mostOp, *]; try (intro hh; omega)); rw [e]; exact ⟨rfl, (Below.refl _ _).alloc (Nat.le_refl _) _⟩)
    · rw [hk] at HL ⊢
      have HK := hid hk
      clear hk
      go_enter Tryd.func56, Tryd.ntmps56
      go_wp2_with (first
        | (go_at_call 84; with_reducible refine (FA.out _ _ _).mono ?_; rintro e w1 ⟨rfl, rfl⟩))
      all_goals go_ret
      all_goals first
        | (have e : lineB g n = false := (by rw [HL.out]; simp [mostOp, *]; try (intro hh; omega)); rw [e]; exact ⟨rfl, (Below.refl _ _).alloc (Nat.le_refl _) _⟩)
        | (have e : lineB g n = fieldB g.c true n := (by rw [HL.out]; simp [mostOp, *]; try (intro hh; omega)); rw [e]; exact ⟨rfl, (Below.refl _ _).alloc (Nat.le_refl _) _⟩)
  · have HL : Hid (lineB g n = false) := by
      show _ = _
      unfold lineB
      rw [decide_eq_false (by omega)]
      simp
    rcases (show g.kind < 1 ∨ (1 ≤ g.kind ∧ 4 < g.kind) ∨ (1 ≤ g.kind ∧ g.kind ≤ 4 ∧ g.op < 0) by omega) with h1 | ⟨h1, h2⟩ | ⟨h1, h2, h3⟩
    · clear hk
      go_enter Tryd.func56, Tryd.ntmps56
      go_wp2
      go_ret
      rw [HL.out]
      exact ⟨rfl, (Below.refl _ _).alloc (Nat.le_refl _) _⟩
    · clear hk
      go_enter Tryd.func56, Tryd.ntmps56
      go_wp2
      go_ret
      rw [HL.out]
      exact ⟨rfl, (Below.refl _ _).alloc (Nat.le_refl _) _⟩
    · clear hk
      go_enter Tryd.func56, Tryd.ntmps56
      go_wp2
      go_ret
      rw [HL.out]
      exact ⟨rfl, (Below.refl _ _).alloc (Nat.le_refl _) _⟩
end Go.Proofs.YtfmmmhcpdinhgaaDoor
/-
  The document's own leans, Count, firsts.
-/
namespace Go.Proofs.YtfmmmhcpdinhgaaDoor
open Go.RowKit Go.Deep PureNet
set_option maxRecDepth 100000

/-- on how many lines a line leans, and which, as a value. -/
def leansV (g : Ga) : Value := if g.kind = 2 then .tuple #[.int .i64 2, .agg #[.int .i64 g.a, .int .i64 g.b, .int .i64 0]] else if g.kind = 4 then .tuple #[.int .i64 3, .agg #[.int .i64 g.a, .int .i64 g.b, .int .i64 g.c]] else .tuple #[.int .i64 0, .agg #[.int .i64 0, .int .i64 0, .int .i64 0]]
set_option maxHeartbeats 1000000 in
set_option maxRecDepth 100000 in
theorem leans_any (g : Ga) (w : World) : Calls Tryd.prog 47 #[.agg #[.int .i64 g.kind, .string g.name, .int .i64 g.op, .int .i64 g.a, .int .i64 g.b, .int .i64 g.c]] w fun e w' => e = .returned (leansV g) ∧ Below w.heap.size w w' := by
  by_cases h2 : g.kind = 2
  · have HV : Hid (leansV g = .tuple #[.int .i64 2, .agg #[.int .i64 g.a, .int .i64 g.b, .int .i64 0]]) := by show _ = _; simp [leansV, h2]
    obtain ⟨x, hx⟩ : ∃ x, x = w.alloc (Obj.cells #[.int .i64 2, .string g.name, .int .i64 g.op, .int .i64 g.a, .int .i64 g.b, .int .i64 g.c] 38) := ⟨_, rfl⟩
    have c0 : ∀ i, x.cell? ⟨w.heap.size, i, none⟩ = (#[.int .i64 2, .string g.name, .int .i64 g.op, .int .i64 g.a, .int .i64 g.b, .int .i64 g.c] : Array Value)[i]? := fun i => by rw [hx]; exact cell_row (heap_alloc_new w _) i
    have hb0 : w.heap.size < x.heap.size := by rw [hx]; simp
    have BX : Hid (Below w.heap.size w x) := by rw [hx]; exact (Below.refl _ _).alloc (Nat.le_refl _) _
    have HX := hid hx
    clear hx
    rw [h2]
    clear h2
    go_enter Tryd.func47, Tryd.ntmps47
    go_wp2_with (rw [← HX.out])
    go_region
    go_wp2
    exact bodyPost_ret (v := .tuple #[.int .i64 2, .agg #[.int .i64 g.a, .int .i64 g.b, .int .i64 0]]) (by simp [results, Tryd.results47, go_sem]) rfl ⟨by rw [HV.out], below_drewN (BX.out.alloc BX.out.size _) 1⟩
  · by_cases h4 : g.kind = 4
    · have HV : Hid (leansV g = .tuple #[.int .i64 3, .agg #[.int .i64 g.a, .int .i64 g.b, .int .i64 g.c]]) := by show _ = _; simp [leansV, h4]
      obtain ⟨x, hx⟩ : ∃ x, x = w.alloc (Obj.cells #[.int .i64 4, .string g.name, .int .i64 g.op, .int .i64 g.a, .int .i64 g.b, .int .i64 g.c] 38) := ⟨_, rfl⟩
      have c0 : ∀ i, x.cell? ⟨w.heap.size, i, none⟩ = (#[.int .i64 4, .string g.name, .int .i64 g.op, .int .i64 g.a, .int .i64 g.b, .int .i64 g.c] : Array Value)[i]? := fun i => by rw [hx]; exact cell_row (heap_alloc_new w _) i
      have hb0 : w.heap.size < x.heap.size := by rw [hx]; simp
      have BX : Hid (Below w.heap.size w x) := by rw [hx]; exact (Below.refl _ _).alloc (Nat.le_refl _) _
      have HX := hid hx
      clear hx
      rw [h4]
      clear h4 h2
      go_enter Tryd.func47, Tryd.ntmps47
      go_wp2_with (rw [← HX.out])
      go_region
      go_wp2
      exact bodyPost_ret (v := .tuple #[.int .i64 3, .agg #[.int .i64 g.a, .int .i64 g.b, .int .i64 g.c]]) (by simp [results, Tryd.results47, go_sem]) rfl ⟨by rw [HV.out], below_drewN (BX.out.alloc BX.out.size _) 1⟩
    · have HV : Hid (leansV g = .tuple #[.int .i64 0, .agg #[.int .i64 0, .int .i64 0, .int .i64 0]]) := by show _ = _; simp [leansV, h2, h4]
      obtain ⟨x, hx⟩ : ∃ x, x = w.alloc (Obj.cells #[.int .i64 g.kind, .string g.name, .int .i64 g.op, .int .i64 g.a, .int .i64 g.b, .int .i64 g.c] 38) := ⟨_, rfl⟩
      have c0 : ∀ i, x.cell? ⟨w.heap.size, i, none⟩ = (#[.int .i64 g.kind, .string g.name, .int .i64 g.op, .int .i64 g.a, .int .i64 g.b, .int .i64 g.c] : Array Value)[i]? := fun i => by rw [hx]; exact cell_row (heap_alloc_new w _) i
      have hb0 : w.heap.size < x.heap.size := by rw [hx]; simp
      have BX : Hid (Below w.heap.size w x) := by rw [hx]; exact (Below.refl _ _).alloc (Nat.le_refl _) _
      have HX := hid hx
      clear hx
      go_enter Tryd.func47, Tryd.ntmps47
      go_wp2_with (rw [← HX.out])
      exact bodyPost_ret (v := .tuple #[.int .i64 0, .agg #[.int .i64 0, .int .i64 0, .int .i64 0]]) (by simp [results, Tryd.results47, go_sem]) rfl ⟨by rw [HV.out], BX.out.alloc BX.out.size _⟩


end Go.Proofs.YtfmmmhcpdinhgaaDoor
