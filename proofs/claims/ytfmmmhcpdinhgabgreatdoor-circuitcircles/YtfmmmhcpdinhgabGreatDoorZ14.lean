import Derived.Test.YtfmmmhcpdinhgabGreatDoorZ13
/-
  The search of the program: made; of all lines.
-/
namespace Go.Proofs.YtfmmmhcpdinhgabGreatDoor
open Go.RowKit Go.Deep PureNet ShfKit
set_option maxRecDepth 100000

def s0 : Ps := ⟨fun _ => 0, fun _ => 0, fun _ => 0, [], [], []⟩
theorem zero_row {X : World} {B b n : Nat} (hB : B ≤ b) (hn : n ≤ 65536) (hb : X.heap[b]? = some (.cells (madeCells #[.int .i64 0] n) 3 (0, 0))) : X.ownsRow B 3 1 (.slice (some ⟨b, 0, none⟩) n n) n (rowF n fun _ => 0) := by
  refine ⟨by rw [rowF_len, Nat.mul_one], .inr ⟨b, n, _, rfl, hB, hb, Nat.le_refl _, by unfold maxLen; omega, by rw [size_madeCells, Nat.mul_one], ?_⟩⟩
  rw [Nat.mul_one, toList_madeCells_one, List.take_of_length_le (by simp)]
  apply List.ext_getElem?
  intro k
  by_cases hk : k < n
  · rw [rowF_at n _ k hk]; simp [hk]
  · rw [List.getElem?_eq_none (by simp; omega), List.getElem?_eq_none (by rw [rowF_len]; omega)]
/-- a search that has just been made. -/
theorem Se.new {w X : World} {gv : Value} {n i j k : Nat} (hn : n ≤ 65536) (hi : i < 3) (hj : j < 3) (hk : k < 3) (hij : i ≠ j) (hik : i ≠ k) (hjk : j ≠ k) (hb : Below w.heap.size w X) (hr : ∀ q, q < 3 → X.heap[w.heap.size + q]? = some (.cells (madeCells #[.int .i64 0] n) 3 (0, 0)))
    (hbox : X.heap[w.heap.size + 3]? = some (.cells #[gv, .slice (some ⟨w.heap.size + i, 0, none⟩) n n, .slice (some ⟨w.heap.size + j, 0, none⟩) n n, .slice (some ⟨w.heap.size + k, 0, none⟩) n n, .slice none 0 0, .slice none 0 0, .slice none 0 0] 55 (0, 0))) :
    Se w X (w.heap.size + 3) gv n s0 (.slice (some ⟨w.heap.size + i, 0, none⟩) n n) (.slice (some ⟨w.heap.size + j, 0, none⟩) n n) (.slice (some ⟨w.heap.size + k, 0, none⟩) n n) (.slice none 0 0) (.slice none 0 0) (.slice none 0 0) [] := by
  refine ⟨hb, by omega, hbox, ⟨fun q x hx => ?_, fun a b x y g hx hy hab hg => ?_⟩, World.ownsRow_nil _ _ _ _, rfl, fun q a r ha => by simp [s0] at ha⟩
  · match q, hx with
    | 0, hx => cases hx; exact zero_row (by omega) hn (hr i hi)
    | 1, hx => cases hx; exact zero_row (by omega) hn (hr j hj)
    | 2, hx => cases hx; exact zero_row (by omega) hn (hr k hk)
    | 3, hx => cases hx; exact World.ownsRow_nil _ _ _ _
    | 4, hx => cases hx; exact World.ownsRow_nil _ _ _ _
    | q + 5, hx => simp at hx
  · match a, b, hx, hy with
    | 0, 0, _, _ => omega
    | 0, 1, hx, hy => cases hx; cases hy; cases hg; intro e; simp [Value.ownBlock] at e; omega
    | 0, 2, hx, hy => cases hx; cases hy; cases hg; intro e; simp [Value.ownBlock] at e; omega
    | 1, 0, hx, hy => cases hx; cases hy; cases hg; intro e; simp [Value.ownBlock] at e; omega
    | 1, 1, _, _ => omega
    | 1, 2, hx, hy => cases hx; cases hy; cases hg; intro e; simp [Value.ownBlock] at e; omega
    | 2, 0, hx, hy => cases hx; cases hy; cases hg; intro e; simp [Value.ownBlock] at e; omega
    | 2, 1, hx, hy => cases hx; cases hy; cases hg; intro e; simp [Value.ownBlock] at e; omega
    | 2, 2, _, _ => omega
    | 3, _, hx, _ => cases hx; cases hg
    | 4, _, hx, _ => cases hx; cases hg
    | _, 3, _, hy => cases hy; intro e; cases e
    | _, 4, _, hy => cases hy; intro e; cases e
    | q + 5, _, hx, _ => simp at hx
    | _, q + 5, _, hy => simp at hy

set_option maxHeartbeats 4000000 in
theorem newSearch_any (sg : Option Addr) (cg n : Nat) (w : World) (hfew : n ≤ 65536) :
    Calls Tryz.prog 20 #[.slice sg n cg] w fun e W' => ∃ p mv rv pv, e = .returned (.pointer (some ⟨p, 0, none⟩)) ∧ Se w W' p (.slice sg n cg) n s0 mv rv pv (.slice none 0 0) (.slice none 0 0) (.slice none 0 0) [] := by
  have hmk : ∀ W : World, (Instr.makeSlice 22 (.int .i64 (n : Int)) (.int .i64 (n : Int))).run Tryz.prog W = .ok (.slice (some ⟨W.heap.size, 0, none⟩) n n) (W.alloc (.cells (madeCells #[.int .i64 0] n) 3)) := fun W =>
    run_make_row' (P := Tryz.prog) 22 3 (.int .i64 0) 8 Tryz.underlying22 info3 rfl .i64 .i64 n (by omega) (by omega) W
  have NS : Hid (∀ i j k bi bj bk bp, bi = w.heap.size + i → bj = w.heap.size + j → bk = w.heap.size + k → bp = w.heap.size + 3 → i < 3 → j < 3 → k < 3 → i ≠ j → i ≠ k → j ≠ k → ∃ p mv rv pv, Ending.returned (.pointer (some ⟨bp, 0, none⟩)) = .returned (.pointer (some ⟨p, 0, none⟩)) ∧ Se w ((((w.alloc (.cells (madeCells #[.int .i64 0] n) 3)).alloc (.cells (madeCells #[.int .i64 0] n) 3)).alloc (.cells (madeCells #[.int .i64 0] n) 3)).alloc (.cells #[.slice sg n cg, .slice (some ⟨bi, 0, none⟩) n n, .slice (some ⟨bj, 0, none⟩) n n, .slice (some ⟨bk, 0, none⟩) n n, .slice none 0 0, .slice none 0 0, .slice none 0 0] 55)).drew p (.slice sg n cg) n s0 mv rv pv (.slice none 0 0) (.slice none 0 0) (.slice none 0 0) []) := fun i j k bi bj bk bp e1 e2 e3 e4 hi hj hk hij hik hjk => by
    subst e1 e2 e3 e4
    refine ⟨_, _, _, _, rfl, Se.new hfew hi hj hk hij hik hjk ?_ (fun q hq => ?_) ?_⟩
    · exact (((((Below.refl _ _).alloc (Nat.le_refl _) _).alloc (by simp) _).alloc (by simp; omega) _).alloc (by simp; omega) _).drew
    · match q, hq with
      | 0, _ => exact (((((Below.refl (w.alloc (.cells (madeCells #[.int .i64 0] n) 3)).heap.size _).alloc (Nat.le_refl _) _).alloc (by simp) _).alloc (by simp) _).drew.block _ (by simp)).trans (heap_alloc_new w _)
      | 1, _ =>
        have h5 := (((Below.refl ((w.alloc (.cells (madeCells #[.int .i64 0] n) 3)).alloc (.cells (madeCells #[.int .i64 0] n) 3)).heap.size _).alloc (Nat.le_refl _) (.cells (madeCells #[.int .i64 0] n) 3)).alloc (by simp) (.cells #[.slice sg n cg, .slice (some ⟨w.heap.size + i, 0, none⟩) n n, .slice (some ⟨w.heap.size + j, 0, none⟩) n n, .slice (some ⟨w.heap.size + k, 0, none⟩) n n, .slice none 0 0, .slice none 0 0, .slice none 0 0] 55)).drew.block (w.heap.size + 1) (by simp)
        refine h5.trans ?_
        have h6 := heap_alloc_new (w.alloc (.cells (madeCells #[.int .i64 0] n) 3)) (.cells (madeCells #[.int .i64 0] n) 3)
        rw [show (w.alloc (.cells (madeCells #[.int .i64 0] n) 3)).heap.size = w.heap.size + 1 by simp] at h6
        exact h6
      | 2, _ =>
        have h5 := ((Below.refl (((w.alloc (.cells (madeCells #[.int .i64 0] n) 3)).alloc (.cells (madeCells #[.int .i64 0] n) 3)).alloc (.cells (madeCells #[.int .i64 0] n) 3)).heap.size _).alloc (Nat.le_refl _) (.cells #[.slice sg n cg, .slice (some ⟨w.heap.size + i, 0, none⟩) n n, .slice (some ⟨w.heap.size + j, 0, none⟩) n n, .slice (some ⟨w.heap.size + k, 0, none⟩) n n, .slice none 0 0, .slice none 0 0, .slice none 0 0] 55)).drew.block (w.heap.size + 2) (by simp)
        refine h5.trans ?_
        have h6 := heap_alloc_new ((w.alloc (.cells (madeCells #[.int .i64 0] n) 3)).alloc (.cells (madeCells #[.int .i64 0] n) 3)) (.cells (madeCells #[.int .i64 0] n) 3)
        rw [show ((w.alloc (.cells (madeCells #[.int .i64 0] n) 3)).alloc (.cells (madeCells #[.int .i64 0] n) 3)).heap.size = w.heap.size + 2 by simp] at h6
        exact h6
    · have h6 := heap_alloc_new (((w.alloc (.cells (madeCells #[.int .i64 0] n) 3)).alloc (.cells (madeCells #[.int .i64 0] n) 3)).alloc (.cells (madeCells #[.int .i64 0] n) 3)) (.cells #[.slice sg n cg, .slice (some ⟨w.heap.size + i, 0, none⟩) n n, .slice (some ⟨w.heap.size + j, 0, none⟩) n n, .slice (some ⟨w.heap.size + k, 0, none⟩) n n, .slice none 0 0, .slice none 0 0, .slice none 0 0] 55)
      rw [show (((w.alloc (.cells (madeCells #[.int .i64 0] n) 3)).alloc (.cells (madeCells #[.int .i64 0] n) 3)).alloc (.cells (madeCells #[.int .i64 0] n) 3)).heap.size = w.heap.size + 3 by simp] at h6
      exact h6
  go_enter Tryz.func20, Tryz.ntmps20
  go_wp2
  refine wp_region_noPanic ?_
  refine wp_region_held_drew (S := fun _ => True) (by kernel_rfl) trivial (fun hHeld => ?_)
  refine wpAnyH_take (i := 0) (v := ?_) (by simp only [List.getElem?_toArray, List.getElem?_cons_zero]; rfl) (by kernel_rfl) (by kernel_rfl) (by kernel_rfl) (fun _ _ _ h => h) (Or.inl ⟨by rfl, ?_⟩) (by assumption) ?_
  rotate_left 1
  · intro w hSw; (try dsimp only at hSw); go_simp; (try with_reducible rfl)
  try simp only [Act.put, List.setIfInBounds_toArray, List.set_cons_zero, List.set_cons_succ]
  refine wpAnyH_take (i := 1) (v := ?_) (by simp only [List.getElem?_toArray, List.getElem?_cons_succ, List.getElem?_cons_zero]; rfl) (by kernel_rfl) (by kernel_rfl) (by kernel_rfl) (fun _ _ _ h => h) (Or.inl ⟨by rfl, ?_⟩) (by assumption) ?_
  rotate_left 1
  · intro w hSw; (try dsimp only at hSw); go_simp; (try with_reducible rfl)
  try simp only [Act.put, List.setIfInBounds_toArray, List.set_cons_zero, List.set_cons_succ]
  refine wpAnyH_take (i := 2) (v := ?_) (by simp only [List.getElem?_toArray, List.getElem?_cons_succ, List.getElem?_cons_zero]; rfl) (by kernel_rfl) (by kernel_rfl) (by kernel_rfl) (fun _ _ _ h => h) (Or.inl ⟨by rfl, ?_⟩) (by assumption) ?_
  rotate_left 1
  · intro w hSw; (try dsimp only at hSw); go_simp; (try with_reducible rfl)
  try simp only [Act.put, List.setIfInBounds_toArray, List.set_cons_zero, List.set_cons_succ]
  refine wpAnyH_take (i := 4) (v := ?_) (by simp only [List.getElem?_toArray, List.getElem?_cons_succ, List.getElem?_cons_zero]; rfl) (by kernel_rfl) (by kernel_rfl) (by kernel_rfl) (fun _ _ _ h => h) (Or.inl ⟨by rfl, ?_⟩) (by assumption) ?_
  rotate_left 1
  · intro w hSw; (try dsimp only at hSw); go_simp; (try with_reducible rfl)
  try simp only [Act.put, List.setIfInBounds_toArray, List.set_cons_zero, List.set_cons_succ]
  refine wpAnyH_take (i := 5) (v := ?_) (by simp only [List.getElem?_toArray, List.getElem?_cons_succ, List.getElem?_cons_zero]; rfl) (by kernel_rfl) (by kernel_rfl) (by kernel_rfl) (fun _ _ _ h => h) (Or.inl ⟨by rfl, ?_⟩) (by assumption) ?_
  rotate_left 1
  · intro w hSw; (try dsimp only at hSw); go_simp; (try with_reducible rfl)
  try simp only [Act.put, List.setIfInBounds_toArray, List.set_cons_zero, List.set_cons_succ]
  refine wpAnyH_take (i := 7) (v := ?_) (by simp only [List.getElem?_toArray, List.getElem?_cons_succ, List.getElem?_cons_zero]; rfl) (by kernel_rfl) (by kernel_rfl) (by kernel_rfl) (fun _ _ _ h => h) (Or.inl ⟨by rfl, ?_⟩) (by assumption) ?_
  rotate_left 1
  · intro w hSw; (try dsimp only at hSw); go_simp; (try with_reducible rfl)
  try simp only [Act.put, List.setIfInBounds_toArray, List.set_cons_zero, List.set_cons_succ]
  refine wpAnyH_take (i := 8) (v := ?_) (by simp only [List.getElem?_toArray, List.getElem?_cons_succ, List.getElem?_cons_zero]; rfl) (by kernel_rfl) (by kernel_rfl) (by kernel_rfl) (fun _ _ _ h => h) (Or.inl ⟨by rfl, ?_⟩) (by assumption) ?_
  rotate_left 1
  · intro w hSw; (try dsimp only at hSw); go_simp; (try with_reducible rfl)
  try simp only [Act.put, List.setIfInBounds_toArray, List.set_cons_zero, List.set_cons_succ]
  refine wpAnyH_ready (rs := [3, 6, 9]) (by kernel_rfl) (by simp) ?_
  refine AllReadyH.cons (by simp only [List.getElem?_toArray, List.getElem?_cons_succ, List.getElem?_cons_zero]; rfl) (fun K hK => ?_) (AllReadyH.cons (by simp only [List.getElem?_toArray, List.getElem?_cons_succ, List.getElem?_cons_zero]; rfl) (fun K hK => ?_) (AllReadyH.cons (by simp only [List.getElem?_toArray, List.getElem?_cons_succ, List.getElem?_cons_zero]; rfl) (fun K hK => ?_) AllReadyH.nil))
  · go_simp
    clear hHeld
    refine hK.out _ _ trivial (fun hHeld => ?_)
    clear hK K
    try simp only [Act.put, List.setIfInBounds_toArray, List.set_cons_zero, List.set_cons_succ]
    refine wpAnyH_ready (rs := [6, 9]) (by kernel_rfl) (by simp) ?_
    refine AllReadyH.cons (by simp only [List.getElem?_toArray, List.getElem?_cons_succ, List.getElem?_cons_zero]; rfl) (fun K hK => ?_) (AllReadyH.cons (by simp only [List.getElem?_toArray, List.getElem?_cons_succ, List.getElem?_cons_zero]; rfl) (fun K hK => ?_) AllReadyH.nil)
    · go_simp
      clear hHeld
      refine hK.out _ _ trivial (fun hHeld => ?_)
      clear hK K
      try simp only [Act.put, List.setIfInBounds_toArray, List.set_cons_zero, List.set_cons_succ]
      refine wpAnyH_ready (rs := [9]) (by kernel_rfl) (by simp) ?_
      refine AllReadyH.cons (by simp only [List.getElem?_toArray, List.getElem?_cons_succ, List.getElem?_cons_zero]; rfl) (fun K hK => ?_) AllReadyH.nil
      go_simp
      clear hHeld
      refine hK.out _ _ trivial (fun hHeld => ?_)
      clear hK K
      try simp only [Act.put, List.setIfInBounds_toArray, List.set_cons_zero, List.set_cons_succ]
      refine wpAnyH_take (i := 10) (v := ?_) (by simp only [List.getElem?_toArray, List.getElem?_cons_succ, List.getElem?_cons_zero]; rfl) (by kernel_rfl) (by kernel_rfl) (by kernel_rfl) (fun _ _ _ h => h) (Or.inl ⟨by rfl, ?_⟩) (by assumption) ?_
      rotate_left 1
      · intro w hSw; (try dsimp only at hSw); go_simp; (try with_reducible rfl)
      try simp only [Act.put, List.setIfInBounds_toArray, List.set_cons_zero, List.set_cons_succ]
      refine wpAnyH_ready (rs := [11]) (by kernel_rfl) (by simp) ?_
      refine AllReadyH.cons (by simp only [List.getElem?_toArray, List.getElem?_cons_succ, List.getElem?_cons_zero]; rfl) (fun K hK => ?_) AllReadyH.nil
      go_simp
      clear hHeld
      refine hK.out _ _ trivial (fun hHeld => ?_)
      clear hK K
      try simp only [Act.put, List.setIfInBounds_toArray, List.set_cons_zero, List.set_cons_succ]
      refine wpAnyH_take (i := 12) (v := ?_) (by simp only [List.getElem?_toArray, List.getElem?_cons_succ, List.getElem?_cons_zero]; rfl) (by kernel_rfl) (by kernel_rfl) (by kernel_rfl) (fun _ _ _ h => h) (Or.inl ⟨by rfl, ?_⟩) (by assumption) ?_
      rotate_left 1
      · intro w hSw; (try dsimp only at hSw); go_simp; (try with_reducible rfl)
      try simp only [Act.put, List.setIfInBounds_toArray, List.set_cons_zero, List.set_cons_succ]
      refine wpAnyH_done (by kernel_rfl) ?_ _
      refine NoPanic.normal ?_
      go_wp2
      exact bodyPost_ret (v := .pointer (some ⟨_, 0, none⟩)) (by simp [results, Tryz.results20, go_sem]; rfl) rfl (NS.out 0 1 2 _ _ _ _ (by omega) (by omega) (by omega) (by omega) (by omega) (by omega) (by omega) (by omega) (by omega) (by omega))
    · go_simp
      clear hHeld
      refine hK.out _ _ trivial (fun hHeld => ?_)
      clear hK K
      try simp only [Act.put, List.setIfInBounds_toArray, List.set_cons_zero, List.set_cons_succ]
      refine wpAnyH_ready (rs := [6]) (by kernel_rfl) (by simp) ?_
      refine AllReadyH.cons (by simp only [List.getElem?_toArray, List.getElem?_cons_succ, List.getElem?_cons_zero]; rfl) (fun K hK => ?_) AllReadyH.nil
      go_simp
      clear hHeld
      refine hK.out _ _ trivial (fun hHeld => ?_)
      clear hK K
      try simp only [Act.put, List.setIfInBounds_toArray, List.set_cons_zero, List.set_cons_succ]
      refine wpAnyH_take (i := 10) (v := ?_) (by simp only [List.getElem?_toArray, List.getElem?_cons_succ, List.getElem?_cons_zero]; rfl) (by kernel_rfl) (by kernel_rfl) (by kernel_rfl) (fun _ _ _ h => h) (Or.inl ⟨by rfl, ?_⟩) (by assumption) ?_
      rotate_left 1
      · intro w hSw; (try dsimp only at hSw); go_simp; (try with_reducible rfl)
      try simp only [Act.put, List.setIfInBounds_toArray, List.set_cons_zero, List.set_cons_succ]
      refine wpAnyH_ready (rs := [11]) (by kernel_rfl) (by simp) ?_
      refine AllReadyH.cons (by simp only [List.getElem?_toArray, List.getElem?_cons_succ, List.getElem?_cons_zero]; rfl) (fun K hK => ?_) AllReadyH.nil
      go_simp
      clear hHeld
      refine hK.out _ _ trivial (fun hHeld => ?_)
      clear hK K
      try simp only [Act.put, List.setIfInBounds_toArray, List.set_cons_zero, List.set_cons_succ]
      refine wpAnyH_take (i := 12) (v := ?_) (by simp only [List.getElem?_toArray, List.getElem?_cons_succ, List.getElem?_cons_zero]; rfl) (by kernel_rfl) (by kernel_rfl) (by kernel_rfl) (fun _ _ _ h => h) (Or.inl ⟨by rfl, ?_⟩) (by assumption) ?_
      rotate_left 1
      · intro w hSw; (try dsimp only at hSw); go_simp; (try with_reducible rfl)
      try simp only [Act.put, List.setIfInBounds_toArray, List.set_cons_zero, List.set_cons_succ]
      refine wpAnyH_done (by kernel_rfl) ?_ _
      refine NoPanic.normal ?_
      go_wp2
      exact bodyPost_ret (v := .pointer (some ⟨_, 0, none⟩)) (by simp [results, Tryz.results20, go_sem]; rfl) rfl (NS.out 0 2 1 _ _ _ _ (by omega) (by omega) (by omega) (by omega) (by omega) (by omega) (by omega) (by omega) (by omega) (by omega))
  · go_simp
    clear hHeld
    refine hK.out _ _ trivial (fun hHeld => ?_)
    clear hK K
    try simp only [Act.put, List.setIfInBounds_toArray, List.set_cons_zero, List.set_cons_succ]
    refine wpAnyH_ready (rs := [3, 9]) (by kernel_rfl) (by simp) ?_
    refine AllReadyH.cons (by simp only [List.getElem?_toArray, List.getElem?_cons_succ, List.getElem?_cons_zero]; rfl) (fun K hK => ?_) (AllReadyH.cons (by simp only [List.getElem?_toArray, List.getElem?_cons_succ, List.getElem?_cons_zero]; rfl) (fun K hK => ?_) AllReadyH.nil)
    · go_simp
      clear hHeld
      refine hK.out _ _ trivial (fun hHeld => ?_)
      clear hK K
      try simp only [Act.put, List.setIfInBounds_toArray, List.set_cons_zero, List.set_cons_succ]
      refine wpAnyH_ready (rs := [9]) (by kernel_rfl) (by simp) ?_
      refine AllReadyH.cons (by simp only [List.getElem?_toArray, List.getElem?_cons_succ, List.getElem?_cons_zero]; rfl) (fun K hK => ?_) AllReadyH.nil
      go_simp
      clear hHeld
      refine hK.out _ _ trivial (fun hHeld => ?_)
      clear hK K
      try simp only [Act.put, List.setIfInBounds_toArray, List.set_cons_zero, List.set_cons_succ]
      refine wpAnyH_take (i := 10) (v := ?_) (by simp only [List.getElem?_toArray, List.getElem?_cons_succ, List.getElem?_cons_zero]; rfl) (by kernel_rfl) (by kernel_rfl) (by kernel_rfl) (fun _ _ _ h => h) (Or.inl ⟨by rfl, ?_⟩) (by assumption) ?_
      rotate_left 1
      · intro w hSw; (try dsimp only at hSw); go_simp; (try with_reducible rfl)
      try simp only [Act.put, List.setIfInBounds_toArray, List.set_cons_zero, List.set_cons_succ]
      refine wpAnyH_ready (rs := [11]) (by kernel_rfl) (by simp) ?_
      refine AllReadyH.cons (by simp only [List.getElem?_toArray, List.getElem?_cons_succ, List.getElem?_cons_zero]; rfl) (fun K hK => ?_) AllReadyH.nil
      go_simp
      clear hHeld
      refine hK.out _ _ trivial (fun hHeld => ?_)
      clear hK K
      try simp only [Act.put, List.setIfInBounds_toArray, List.set_cons_zero, List.set_cons_succ]
      refine wpAnyH_take (i := 12) (v := ?_) (by simp only [List.getElem?_toArray, List.getElem?_cons_succ, List.getElem?_cons_zero]; rfl) (by kernel_rfl) (by kernel_rfl) (by kernel_rfl) (fun _ _ _ h => h) (Or.inl ⟨by rfl, ?_⟩) (by assumption) ?_
      rotate_left 1
      · intro w hSw; (try dsimp only at hSw); go_simp; (try with_reducible rfl)
      try simp only [Act.put, List.setIfInBounds_toArray, List.set_cons_zero, List.set_cons_succ]
      refine wpAnyH_done (by kernel_rfl) ?_ _
      refine NoPanic.normal ?_
      go_wp2
      exact bodyPost_ret (v := .pointer (some ⟨_, 0, none⟩)) (by simp [results, Tryz.results20, go_sem]; rfl) rfl (NS.out 1 0 2 _ _ _ _ (by omega) (by omega) (by omega) (by omega) (by omega) (by omega) (by omega) (by omega) (by omega) (by omega))
    · go_simp
      clear hHeld
      refine hK.out _ _ trivial (fun hHeld => ?_)
      clear hK K
      try simp only [Act.put, List.setIfInBounds_toArray, List.set_cons_zero, List.set_cons_succ]
      refine wpAnyH_ready (rs := [3]) (by kernel_rfl) (by simp) ?_
      refine AllReadyH.cons (by simp only [List.getElem?_toArray, List.getElem?_cons_succ, List.getElem?_cons_zero]; rfl) (fun K hK => ?_) AllReadyH.nil
      go_simp
      clear hHeld
      refine hK.out _ _ trivial (fun hHeld => ?_)
      clear hK K
      try simp only [Act.put, List.setIfInBounds_toArray, List.set_cons_zero, List.set_cons_succ]
      refine wpAnyH_take (i := 10) (v := ?_) (by simp only [List.getElem?_toArray, List.getElem?_cons_succ, List.getElem?_cons_zero]; rfl) (by kernel_rfl) (by kernel_rfl) (by kernel_rfl) (fun _ _ _ h => h) (Or.inl ⟨by rfl, ?_⟩) (by assumption) ?_
      rotate_left 1
      · intro w hSw; (try dsimp only at hSw); go_simp; (try with_reducible rfl)
      try simp only [Act.put, List.setIfInBounds_toArray, List.set_cons_zero, List.set_cons_succ]
      refine wpAnyH_ready (rs := [11]) (by kernel_rfl) (by simp) ?_
      refine AllReadyH.cons (by simp only [List.getElem?_toArray, List.getElem?_cons_succ, List.getElem?_cons_zero]; rfl) (fun K hK => ?_) AllReadyH.nil
      go_simp
      clear hHeld
      refine hK.out _ _ trivial (fun hHeld => ?_)
      clear hK K
      try simp only [Act.put, List.setIfInBounds_toArray, List.set_cons_zero, List.set_cons_succ]
      refine wpAnyH_take (i := 12) (v := ?_) (by simp only [List.getElem?_toArray, List.getElem?_cons_succ, List.getElem?_cons_zero]; rfl) (by kernel_rfl) (by kernel_rfl) (by kernel_rfl) (fun _ _ _ h => h) (Or.inl ⟨by rfl, ?_⟩) (by assumption) ?_
      rotate_left 1
      · intro w hSw; (try dsimp only at hSw); go_simp; (try with_reducible rfl)
      try simp only [Act.put, List.setIfInBounds_toArray, List.set_cons_zero, List.set_cons_succ]
      refine wpAnyH_done (by kernel_rfl) ?_ _
      refine NoPanic.normal ?_
      go_wp2
      exact bodyPost_ret (v := .pointer (some ⟨_, 0, none⟩)) (by simp [results, Tryz.results20, go_sem]; rfl) rfl (NS.out 2 0 1 _ _ _ _ (by omega) (by omega) (by omega) (by omega) (by omega) (by omega) (by omega) (by omega) (by omega) (by omega))
  · go_simp
    clear hHeld
    refine hK.out _ _ trivial (fun hHeld => ?_)
    clear hK K
    try simp only [Act.put, List.setIfInBounds_toArray, List.set_cons_zero, List.set_cons_succ]
    refine wpAnyH_ready (rs := [3, 6]) (by kernel_rfl) (by simp) ?_
    refine AllReadyH.cons (by simp only [List.getElem?_toArray, List.getElem?_cons_succ, List.getElem?_cons_zero]; rfl) (fun K hK => ?_) (AllReadyH.cons (by simp only [List.getElem?_toArray, List.getElem?_cons_succ, List.getElem?_cons_zero]; rfl) (fun K hK => ?_) AllReadyH.nil)
    · go_simp
      clear hHeld
      refine hK.out _ _ trivial (fun hHeld => ?_)
      clear hK K
      try simp only [Act.put, List.setIfInBounds_toArray, List.set_cons_zero, List.set_cons_succ]
      refine wpAnyH_ready (rs := [6]) (by kernel_rfl) (by simp) ?_
      refine AllReadyH.cons (by simp only [List.getElem?_toArray, List.getElem?_cons_succ, List.getElem?_cons_zero]; rfl) (fun K hK => ?_) AllReadyH.nil
      go_simp
      clear hHeld
      refine hK.out _ _ trivial (fun hHeld => ?_)
      clear hK K
      try simp only [Act.put, List.setIfInBounds_toArray, List.set_cons_zero, List.set_cons_succ]
      refine wpAnyH_take (i := 10) (v := ?_) (by simp only [List.getElem?_toArray, List.getElem?_cons_succ, List.getElem?_cons_zero]; rfl) (by kernel_rfl) (by kernel_rfl) (by kernel_rfl) (fun _ _ _ h => h) (Or.inl ⟨by rfl, ?_⟩) (by assumption) ?_
      rotate_left 1
      · intro w hSw; (try dsimp only at hSw); go_simp; (try with_reducible rfl)
      try simp only [Act.put, List.setIfInBounds_toArray, List.set_cons_zero, List.set_cons_succ]
      refine wpAnyH_ready (rs := [11]) (by kernel_rfl) (by simp) ?_
      refine AllReadyH.cons (by simp only [List.getElem?_toArray, List.getElem?_cons_succ, List.getElem?_cons_zero]; rfl) (fun K hK => ?_) AllReadyH.nil
      go_simp
      clear hHeld
      refine hK.out _ _ trivial (fun hHeld => ?_)
      clear hK K
      try simp only [Act.put, List.setIfInBounds_toArray, List.set_cons_zero, List.set_cons_succ]
      refine wpAnyH_take (i := 12) (v := ?_) (by simp only [List.getElem?_toArray, List.getElem?_cons_succ, List.getElem?_cons_zero]; rfl) (by kernel_rfl) (by kernel_rfl) (by kernel_rfl) (fun _ _ _ h => h) (Or.inl ⟨by rfl, ?_⟩) (by assumption) ?_
      rotate_left 1
      · intro w hSw; (try dsimp only at hSw); go_simp; (try with_reducible rfl)
      try simp only [Act.put, List.setIfInBounds_toArray, List.set_cons_zero, List.set_cons_succ]
      refine wpAnyH_done (by kernel_rfl) ?_ _
      refine NoPanic.normal ?_
      go_wp2
      exact bodyPost_ret (v := .pointer (some ⟨_, 0, none⟩)) (by simp [results, Tryz.results20, go_sem]; rfl) rfl (NS.out 1 2 0 _ _ _ _ (by omega) (by omega) (by omega) (by omega) (by omega) (by omega) (by omega) (by omega) (by omega) (by omega))
    · go_simp
      clear hHeld
      refine hK.out _ _ trivial (fun hHeld => ?_)
      clear hK K
      try simp only [Act.put, List.setIfInBounds_toArray, List.set_cons_zero, List.set_cons_succ]
      refine wpAnyH_ready (rs := [3]) (by kernel_rfl) (by simp) ?_
      refine AllReadyH.cons (by simp only [List.getElem?_toArray, List.getElem?_cons_succ, List.getElem?_cons_zero]; rfl) (fun K hK => ?_) AllReadyH.nil
      go_simp
      clear hHeld
      refine hK.out _ _ trivial (fun hHeld => ?_)
      clear hK K
      try simp only [Act.put, List.setIfInBounds_toArray, List.set_cons_zero, List.set_cons_succ]
      refine wpAnyH_take (i := 10) (v := ?_) (by simp only [List.getElem?_toArray, List.getElem?_cons_succ, List.getElem?_cons_zero]; rfl) (by kernel_rfl) (by kernel_rfl) (by kernel_rfl) (fun _ _ _ h => h) (Or.inl ⟨by rfl, ?_⟩) (by assumption) ?_
      rotate_left 1
      · intro w hSw; (try dsimp only at hSw); go_simp; (try with_reducible rfl)
      try simp only [Act.put, List.setIfInBounds_toArray, List.set_cons_zero, List.set_cons_succ]
      refine wpAnyH_ready (rs := [11]) (by kernel_rfl) (by simp) ?_
      refine AllReadyH.cons (by simp only [List.getElem?_toArray, List.getElem?_cons_succ, List.getElem?_cons_zero]; rfl) (fun K hK => ?_) AllReadyH.nil
      go_simp
      clear hHeld
      refine hK.out _ _ trivial (fun hHeld => ?_)
      clear hK K
      try simp only [Act.put, List.setIfInBounds_toArray, List.set_cons_zero, List.set_cons_succ]
      refine wpAnyH_take (i := 12) (v := ?_) (by simp only [List.getElem?_toArray, List.getElem?_cons_succ, List.getElem?_cons_zero]; rfl) (by kernel_rfl) (by kernel_rfl) (by kernel_rfl) (fun _ _ _ h => h) (Or.inl ⟨by rfl, ?_⟩) (by assumption) ?_
      rotate_left 1
      · intro w hSw; (try dsimp only at hSw); go_simp; (try with_reducible rfl)
      try simp only [Act.put, List.setIfInBounds_toArray, List.set_cons_zero, List.set_cons_succ]
      refine wpAnyH_done (by kernel_rfl) ?_ _
      refine NoPanic.normal ?_
      go_wp2
      exact bodyPost_ret (v := .pointer (some ⟨_, 0, none⟩)) (by simp [results, Tryz.results20, go_sem]; rfl) rfl (NS.out 2 1 0 _ _ _ _ (by omega) (by omega) (by omega) (by omega) (by omega) (by omega) (by omega) (by omega) (by omega) (by omega))
end Go.Proofs.YtfmmmhcpdinhgabGreatDoor
/-
  The search of the program over all lines; that none is in a circle.
-/
namespace Go.Proofs.YtfmmmhcpdinhgabGreatDoor
open Go.RowKit Go.Deep PureNet ShfKit
set_option maxRecDepth 100000

end Go.Proofs.YtfmmmhcpdinhgabGreatDoor
namespace PureNet
open Go.Proofs.YtfmmmhcpdinhgabGreatDoor
set_option maxRecDepth 100000
theorem Sr.rekeep {l : List Ga} {P : Nat → Prop} {S0 S1 : List Nat} {E : Nat → Prop} {s : Ps} (h : Sr l P S0 E s) (h2 : ∀ x ∈ S1, x ∈ s.out ++ s.way.map Prod.fst) : Sr l P S1 E s :=
  ⟨h.rea, h.wai, h.par, h.nd, h.lt, h.met, h.top, h.inj, h.ord, h.chain, h.left, h.leftL, h.allow, h2⟩
end PureNet
namespace Go.Proofs.YtfmmmhcpdinhgabGreatDoor
open Go.RowKit Go.Deep PureNet ShfKit
set_option maxRecDepth 100000
end Go.Proofs.YtfmmmhcpdinhgabGreatDoor
namespace PureNet
open Go.Proofs.YtfmmmhcpdinhgabGreatDoor
set_option maxRecDepth 100000
theorem Sr.start (l : List Ga) (P : Nat → Prop) : Sr l P [] (fun _ => False) s0 := by
  refine ⟨rfl, rfl, fun y => by simp [s0], by simp [s0], fun x hx => by simp [s0] at hx, fun x => by simp [s0], fun x => by simp [s0], fun x y _ h => by simp [s0] at h, fun i x y h => by simp [s0] at h, fun k a b h => by simp [s0] at h, fun k a h => by simp [s0] at h, fun a h => by simp [s0] at h, fun x hx => by simp [s0] at hx, fun x hx => by simp at hx⟩
end PureNet
namespace Go.Proofs.YtfmmmhcpdinhgabGreatDoor
open Go.RowKit Go.Deep PureNet ShfKit
set_option maxRecDepth 100000
end Go.Proofs.YtfmmmhcpdinhgabGreatDoor
namespace PureNet
open Go.Proofs.YtfmmmhcpdinhgabGreatDoor
set_option maxRecDepth 100000
/-- a line that has not been met is met first. -/
theorem Sr.begin {l : List Ga} {P : Nat → Prop} {S0 : List Nat} {s : Ps} (hl : ∀ (i : Nat) (g : Ga), l[i]? = some g → ∀ a ∈ leansOn g, 0 ≤ a ∧ a < (l.length : Int)) (h : Sr l P S0 (fun _ => False) s) (hw : s.way = []) {x : Nat} (hx : x < l.length) (hm : s.met x = 0) (hP : P x) : Sr l P (x :: s.out) (fun _ => False) (s.meet l x) := by
  have h1 := Sr.meet hl h (y := x) (fun z hz => hz.elim) hx hm hP (fun ws a e => by rw [hw] at e; simp at e)
  refine h1.rekeep fun z hz => ?_
  show z ∈ s.out ++ (s.way ++ [(x, leanN l x)]).map Prod.fst
  rcases List.mem_cons.1 hz with rfl | hz
  · simp
  · exact List.mem_append_left _ hz

end PureNet
namespace Go.Proofs.YtfmmmhcpdinhgabGreatDoor
open Go.RowKit Go.Deep PureNet ShfKit
set_option maxRecDepth 100000
set_option maxHeartbeats 4000000 in
theorem searched_any (l : List Ga) (sg : Option Addr) (cg n : Nat) (w : World) (hc : CellsAt w sg (gas l)) (hkd : KindsAt w) (hn : n = l.length) (hfew : n ≤ 65536)
    (hlines : ∀ (i : Nat) (g : Ga), l[i]? = some g → (1 ≤ g.kind ∧ g.kind ≤ 4) ∧ ∀ a ∈ leansOn g, 0 ≤ a ∧ a < (l.length : Int)) (hf : ∀ i, ¬ PureNet.Way l i i) :
    Calls Tryz.prog 30 #[.slice sg n cg] w fun e W' => ∃ p s mv rv pv wv tv ov rs, e = .returned (.pointer (some ⟨p, 0, none⟩)) ∧ Se w W' p (.slice sg n cg) n s mv rv pv wv tv ov rs ∧ Sr l (fun _ => True) [] (fun _ => False) s ∧ s.way = [] ∧ ∀ x, x < n → x ∈ s.out := by
  have hll : ∀ (i : Nat) (g : Ga), l[i]? = some g → ∀ a ∈ leansOn g, 0 ≤ a ∧ a < (l.length : Int) := fun i g hg => (hlines i g hg).2
  have HLL := hid hll
  have FR : Hid (∀ p W s mv rv pv wv tv ov rs x, x < n → Se w W p (.slice sg n cg) n s mv rv pv wv tv ov rs → s.Ok l → Sr l (fun _ => True) (x :: s.out) (fun _ => False) (s.meet l x) → _) := fun p W s mv rv pv wv tv ov rs x hx hs hok hI => from_any l sg cg n p x w W s mv rv pv wv tv ov rs hc hkd hn hfew hlines hf (fun _ => True) (fun _ _ _ _ => trivial) (x :: s.out) hx hs hok hI
  have NS := hid (newSearch_any sg cg n w hfew)
  have HN := hid hn
  clear hc hkd hn hlines hf hll
  go_enter Tryz.func30, Tryz.ntmps30
  go_wp2_with (first | (go_at_call 20; refine Calls.mono NS.out ?_; rintro e w1 ⟨p, mv, rv, pv, rfl, hs1⟩; have SE1 := hid hs1; clear hs1))
  go_loopw [9] (fun iv W => ∃ i : Nat, i ≤ n ∧ iv = .int .i64 (i : Int) ∧ Hid (∃ s wv tv ov rs, Sr l (fun _ => True) [] (fun _ => False) s ∧ s.way = [] ∧ (∀ x, x < i → x ∈ s.out) ∧ Se w W p (.slice sg n cg) n s mv rv pv wv tv ov rs)) (fun iv _ => n - (intOf iv).toNat)
  case atStart => exact ⟨0, Nat.zero_le _, rfl, s0, _, _, _, _, Sr.start l _, rfl, fun x hx => by omega, SE1.out⟩
  case round =>
    clear SE1 NS
    obtain ⟨i, hi, rfl, HR⟩ := hrel
    obtain ⟨s, wv, tv, ov, rs, hsr, hway, hall, hs⟩ := HR.out
    clear HR
    by_cases hlt : i < n
    · have c0 := hs.cell
      have hp0 := hs.size
      obtain ⟨gm, cm, hmv, _, hgms, hcm, _⟩ := hs.row (i := 0) (by omega) rfl hlt
      have SE := hid hs
      have SR := hid hsr
      have HW := hid hway
      have HA := hid hall
      have FI := hid (fun hm => FR.out p wr s mv rv pv wv tv ov rs i hlt hs (hsr.ok HLL.out) (hsr.begin HLL.out hway (by rw [← HN.out]; exact hlt) hm trivial))
      have MI := hid (hsr.met i)
      subst hmv
      clear hs hsr hway hall FR
      by_cases hmz : s.met i = 0
      · have hmb : (s.met i == 0) = true := by rw [hmz]; rfl
        have FF := hid (FI.out hmz)
        clear hmz FI
        go_wp2_with (first | (go_at_call 21; refine Calls.mono FF.out ?_; rintro e w2 ⟨⟨v, rfl⟩, s2, wv2, tv2, ov2, rs2, hsr2, hway2, hs2⟩; have SE2 := hid hs2; have SR2 := hid hsr2; have HW2 := hid hway2; clear hs2 hsr2 hway2))
        refine ⟨⟨i + 1, hlt, by go_num, s2, _, _, _, _, SR2.out.rekeep (fun x hx => by simp at hx), HW2.out, fun x hx => ?_, SE2.out⟩, by simp [intOf]; omega⟩
        have hk : x ∈ i :: s.out := by
          by_cases e : x = i
          · rw [e]; simp
          · exact List.mem_cons_of_mem _ (HA.out x (by omega))
        have := SR2.out.keep x hk
        rw [HW2.out] at this
        simpa using this
      · have hmb : (s.met i == 0) = false := beq_eq_false_iff_ne.2 hmz
        have HI : Hid (i ∈ s.out) := by
          have := MI.out.1 hmz
          rw [HW.out] at this
          show i ∈ s.out
          simpa using this
        clear hmz FI
        go_wp2
        refine ⟨⟨i + 1, hlt, by go_num, s, _, _, _, _, SR.out, HW.out, fun x hx => ?_, SE.out⟩, by simp [intOf]; omega⟩
        by_cases e : x = i
        · rw [e]; exact HI.out
        · exact HA.out x (by omega)
    · have SE := hid hs
      have SR := hid hsr
      have HW := hid hway
      have HA : Hid (∀ x, x < n → x ∈ s.out) := fun x hx => hall x (by omega)
      clear hs hsr hway hall
      go_wp2
      exact bodyPost_ret (v := .pointer (some ⟨p, 0, none⟩)) (by simp [results, Tryz.results30, go_sem]) rfl ⟨p, s, _, _, _, _, _, _, _, rfl, SE.out, SR.out, HW.out, HA.out⟩

set_option maxHeartbeats 4000000 in
theorem firstInCircle_any (l : List Ga) (sg : Option Addr) (cg n : Nat) (w : World) (hc : CellsAt w sg (gas l)) (hkd : KindsAt w) (hn : n = l.length) (hfew : n ≤ 65536)
    (hlines : ∀ (i : Nat) (g : Ga), l[i]? = some g → (1 ≤ g.kind ∧ g.kind ≤ 4) ∧ ∀ a ∈ leansOn g, 0 ≤ a ∧ a < (l.length : Int)) (hf : ∀ i, ¬ PureNet.Way l i i) :
    Calls Tryz.prog 18 #[.slice sg n cg] w fun e W' => e = .returned (.int .i64 (-1)) ∧ Below w.heap.size w W' := by
  have SD := hid (searched_any l sg cg n w hc hkd hn hfew hlines hf)
  have HC := hid hc
  have KD := hid hkd
  have HN := hid hn
  have HL := hid hlines
  have HF := hid hf
  clear hc hkd hn hlines hf
  go_enter Tryz.func18, Tryz.ntmps18
  go_wp2_with (fail)
  go_step3
  go_wp2_with (first | (go_at_call 30; refine Calls.mono SD.out ?_; rintro e w1 ⟨p, s, mv, rv, pv, wv, tv, ov, rs, rfl, hs1, hsr1, _, hall1⟩; have SE1 := hid hs1; have SR1 := hid hsr1; have HA1 := hid hall1; have c1 := hs1.cell; have hp1 := hs1.size; clear hs1 hsr1 hall1))
  have PP : Hid (∀ x, x < n → s.part x = s.met x) := fun x hx => by rw [SR1.out.par x, if_pos (HA1.out x hx)]
  have PN : Hid (∀ x y, x < n → y < n → Leans l x y → (s.part y == s.part x) = false) := fun x y hx hy hl => by
    refine beq_eq_false_iff_ne.2 fun e => ?_
    rw [PP.out x hx, PP.out y hy] at e
    have hm : s.met y ≠ 0 := (SR1.out.met y).2 (List.mem_append_left _ (HA1.out y hy))
    have := SR1.out.inj y x e hm
    subst this
    exact HF.out _ (.one hl)
  clear c1 hp1 SD
  go_loopw [14] (fun iv W => ∃ i : Nat, i ≤ n ∧ iv = .int .i64 (i : Int) ∧ Hid (Below w1.heap.size w1 W)) (fun iv _ => n - (intOf iv).toNat)
  case atStart => exact ⟨0, Nat.zero_le _, rfl, Below.refl _ _⟩
  case round =>
    obtain ⟨i, hi, rfl, HB⟩ := hrel
    by_cases hlt : i < n
    · obtain ⟨g, hg⟩ : ∃ g, l[i]? = some g := ⟨_, List.getElem?_eq_getElem (by rw [← HN.out]; exact hlt)⟩
      have bw : Below w.heap.size w wr := SE1.out.below.trans (HB.out.mono SE1.out.below.size)
      obtain ⟨gb, go, rfl, hgb, a0, a1, a2, a3, a4, a5⟩ := gate_at (HC.out.below bw) i g hg
      obtain ⟨gp, cp, hpv, _, hgps, _⟩ := SE1.out.row (i := 2) (by omega) rfl hlt
      subst hpv
      have PL := hid (pleans_any g wr (KD.out.on bw) (HL.out i g hg).1 (fun a ha => ((HL.out i g hg).2 a ha).1))
      have HG := hid hg
      have BW := hid bw
      clear hg bw
      go_wp2_with (first | (go_at_call 31; refine Calls.mono PL.out ?_; rintro e w3 ⟨lv, lr, rfl, hlf, hlo, b3⟩; have LO := hid hlo; have B3 := hid b3; obtain ⟨lq, hlq⟩ : ∃ lq, lq = ((leansOn g).map Int.toNat).length := ⟨_, rfl⟩; obtain ⟨sq, cq, hlv, hlq2, hlr⟩ := hlf; rw [← hlq] at hlv; subst hlv; have LR := hid hlr; have LQ := hid hlq; have hlq3 : lq ≤ 3 := (by rw [hlq, List.length_map]; unfold leansOn; split; (· simp); (· split <;> simp)); clear hlo b3 hlq hlq2 hlr))
      go_loopw [23] (fun kv W => ∃ k : Nat, k ≤ lq ∧ kv = .int .i64 (k : Int) ∧ Hid (Below w3.heap.size w3 W)) (fun kv _ => lq - (intOf kv).toNat)
      case atStart => exact ⟨0, Nat.zero_le _, rfl, Below.refl _ _⟩
      case round =>
        obtain ⟨k, hk, rfl, HB4⟩ := hrel
        by_cases hkl : k < lq
        · obtain ⟨y, hy⟩ : ∃ y, ((leansOn g).map Int.toNat)[k]? = some y := ⟨_, List.getElem?_eq_getElem (by rw [← LQ.out]; exact hkl)⟩
          obtain ⟨gl, kl, rfl, hgl, hrow⟩ := LR.out (fun e => by rw [e] at hy; simp at hy)
          have hly : Leans l i y := by
            refine ⟨g, HG.out, ?_⟩
            rw [List.getElem?_map, Option.map_eq_some_iff] at hy
            obtain ⟨a, ha, rfl⟩ := hy
            have hm := List.mem_of_getElem? ha
            rw [Int.toNat_of_nonneg ((HL.out i g HG.out).2 a hm).1]
            exact hm
          have hyn : y < n := by
            obtain ⟨g2, hg2, hm⟩ := hly
            have := ((HL.out i g2 hg2).2 _ hm).2
            rw [HN.out]
            omega
          have hpne := PN.out i y hlt hyn hly
          obtain ⟨g5, c5, hv5, _, hg5, hc5, _⟩ := own_cell LO.out (hrow k y hy)
          rw [hv5] at hgl
          cases hgl
          have hcy : wr.cell? ⟨g5, kl + k, none⟩ = some (.int .i64 (y : Int)) := below_cell HB4.out hg5 hc5
          have bx : Below w1.heap.size w1 wr := HB.out.trans ((B3.out.trans (HB4.out.mono B3.out.size)).mono HB.out.size)
          obtain ⟨_, _, e9, _, _, hpy, _⟩ := (SE1.out.on bx).row (i := 2) (by omega) rfl hyn
          simp only [Value.slice.injEq, Option.some.injEq, Addr.mk.injEq, and_true, true_and] at e9
          obtain ⟨rfl, rfl⟩ := e9
          obtain ⟨_, _, e9, _, _, hpi, _⟩ := (SE1.out.on bx).row (i := 2) (by omega) rfl hlt
          simp only [Value.slice.injEq, Option.some.injEq, Addr.mk.injEq, and_true, true_and] at e9
          obtain ⟨rfl, rfl⟩ := e9
          have hgls : g5 < wr.heap.size := Nat.lt_of_lt_of_le hg5 HB4.out.size
          clear hy hrow hly hv5 hc5 bx
          go_wp2
          refine wp_region_noPanic ?_
          refine wp_region_held_drew (S := fun W => W.cell? ⟨gp, y, none⟩ = some (.int .i64 (s.part y)) ∧ W.cell? ⟨gp, i, none⟩ = some (.int .i64 (s.part i))) (by kernel_rfl) ⟨hpy, hpi⟩ (fun hHeld => ?_)
          refine wpAnyH_take (i := 0) (v := ?_) (by simp only [List.getElem?_toArray, List.getElem?_cons_zero]; rfl) (by kernel_rfl) (by kernel_rfl) (by kernel_rfl) (fun _ _ _ h => h) (Or.inl ⟨by rfl, ?_⟩) (by assumption) ?_
          rotate_left 1
          · intro w hSw; (try dsimp only at hSw); go_simp; (try with_reducible rfl)
          try simp only [Act.put, List.setIfInBounds_toArray, List.set_cons_zero, List.set_cons_succ]
          refine wpAnyH_take (i := 1) (v := ?_) (by simp only [List.getElem?_toArray, List.getElem?_cons_succ, List.getElem?_cons_zero]; rfl) (by kernel_rfl) (by kernel_rfl) (by kernel_rfl) (fun _ _ _ h => h) (Or.inl ⟨by rfl, ?_⟩) (by assumption) ?_
          rotate_left 1
          · intro w hSw; (try dsimp only at hSw); go_simp; (try with_reducible rfl)
          try simp only [Act.put, List.setIfInBounds_toArray, List.set_cons_zero, List.set_cons_succ]
          refine wpAnyH_take (i := 2) (v := .pointer (some ⟨gp, y, none⟩)) (by simp only [List.getElem?_toArray, List.getElem?_cons_succ, List.getElem?_cons_zero]; rfl) (by kernel_rfl) (by kernel_rfl) (by kernel_rfl) (fun _ _ _ h => h) (Or.inl ⟨by rfl, ?_⟩) (by assumption) ?_
          · intro w hSw; (try dsimp only at hSw); (try go_simp); ((try rw [if_pos (by omega)]); (try simp); (try (intro h9; omega)))
          try simp only [Act.put, List.setIfInBounds_toArray, List.set_cons_zero, List.set_cons_succ]
          refine wpAnyH_take (i := 3) (v := ?_) (by simp only [List.getElem?_toArray, List.getElem?_cons_succ, List.getElem?_cons_zero]; rfl) (by kernel_rfl) (by kernel_rfl) (by kernel_rfl) (fun _ _ _ h => h) (Or.inl ⟨by rfl, ?_⟩) (by assumption) ?_
          rotate_left 1
          · intro w hSw; (try dsimp only at hSw); go_simp; (try with_reducible rfl)
          try simp only [Act.put, List.setIfInBounds_toArray, List.set_cons_zero, List.set_cons_succ]
          refine wpAnyH_take (i := 4) (v := ?_) (by simp only [List.getElem?_toArray, List.getElem?_cons_succ, List.getElem?_cons_zero]; rfl) (by kernel_rfl) (by kernel_rfl) (by kernel_rfl) (fun _ _ _ h => h) (Or.inl ⟨by rfl, ?_⟩) (by assumption) ?_
          rotate_left 1
          · intro w hSw; (try dsimp only at hSw); go_simp; (try with_reducible rfl)
          try simp only [Act.put, List.setIfInBounds_toArray, List.set_cons_zero, List.set_cons_succ]
          refine wpAnyH_take (i := 5) (v := ?_) (by simp only [List.getElem?_toArray, List.getElem?_cons_succ, List.getElem?_cons_zero]; rfl) (by kernel_rfl) (by kernel_rfl) (by kernel_rfl) (fun _ _ _ h => h) (Or.inl ⟨by rfl, ?_⟩) (by assumption) ?_
          rotate_left 1
          · intro w hSw; (try dsimp only at hSw); go_simp; (try with_reducible rfl)
          try simp only [Act.put, List.setIfInBounds_toArray, List.set_cons_zero, List.set_cons_succ]
          refine wpAnyH_take (i := 6) (v := .pointer (some ⟨gp, i, none⟩)) (by simp only [List.getElem?_toArray, List.getElem?_cons_succ, List.getElem?_cons_zero]; rfl) (by kernel_rfl) (by kernel_rfl) (by kernel_rfl) (fun _ _ _ h => h) (Or.inl ⟨by rfl, ?_⟩) (by assumption) ?_
          · intro w hSw; (try dsimp only at hSw); (try go_simp); ((try rw [if_pos (by omega)]); (try simp); (try (intro h9; omega)))
          try simp only [Act.put, List.setIfInBounds_toArray, List.set_cons_zero, List.set_cons_succ]
          refine wpAnyH_take (i := 7) (v := ?_) (by simp only [List.getElem?_toArray, List.getElem?_cons_succ, List.getElem?_cons_zero]; rfl) (by kernel_rfl) (by kernel_rfl) (by kernel_rfl) (fun _ _ _ h => h) (Or.inl ⟨by rfl, ?_⟩) (by assumption) ?_
          rotate_left 1
          · intro w hSw; (try dsimp only at hSw); go_simp; (try with_reducible rfl)
          try simp only [Act.put, List.setIfInBounds_toArray, List.set_cons_zero, List.set_cons_succ]
          refine wpAnyH_take (i := 8) (v := .bool false) (by simp only [List.getElem?_toArray, List.getElem?_cons_succ, List.getElem?_cons_zero]; rfl) (by kernel_rfl) (by kernel_rfl) (by kernel_rfl) (fun _ _ _ h => h) (Or.inl ⟨by rfl, ?_⟩) (by assumption) ?_
          · intro w hSw; (try dsimp only at hSw); (try go_simp); ((try rw [hpne]); (try simp))
          try simp only [Act.put, List.setIfInBounds_toArray, List.set_cons_zero, List.set_cons_succ]
          refine wpAnyH_done (by kernel_rfl) ?_ _
          refine NoPanic.normal ?_
          go_wp2
          exact ⟨⟨k + 1, hkl, by go_num, HB4.out.trans (Below.refl _ _).drew⟩, by simp [intOf]; omega⟩
        · have bx : Hid (Below w1.heap.size w1 wr) := HB.out.trans ((B3.out.trans (HB4.out.mono B3.out.size)).mono HB.out.size)
          go_wp2
          exact ⟨⟨i + 1, hlt, by go_num, bx.out⟩, by simp [intOf]; omega⟩
    · have bw : Hid (Below w.heap.size w wr) := SE1.out.below.trans (HB.out.mono SE1.out.below.size)
      go_wp2
      dsimp only [Exit.noGoto]
      refine bodyPost_ret (P := Tryz.prog) (fn := Tryz.f18) (v := .int .i64 (-1)) ?_ rfl ⟨rfl, bw.out⟩
      simp [results, Tryz.results18, go_sem]
end Go.Proofs.YtfmmmhcpdinhgabGreatDoor
/-
  The search of the program: what a line is known to lead to.
-/
namespace Go.Proofs.YtfmmmhcpdinhgabGreatDoor
open Go.RowKit Go.Deep PureNet ShfKit
set_option maxRecDepth 100000

set_option maxHeartbeats 2000000 in
theorem reach_any (gv : Value) (n p x : Nat) (m : Int) (w W : World) (s : Ps) (mv rv pv wv tv ov : Value) (rs : List (Value × ShfKit.Rw)) (hx : x < n) (hs : Se w W p gv n s mv rv pv wv tv ov rs) :
    Calls Tryz.prog 38 #[.pointer (some ⟨p, 0, none⟩), .int .i64 (x : Int), .int .i64 m] W fun e W' => (∃ v, e = .returned v) ∧ Se w W' p gv n (s.reach x m) mv rv pv wv tv ov rs := by
  obtain ⟨gr, cr, rfl, hgr, hgrs, hcr, hgrf, _, hgrr⟩ := hs.row (i := 1) (by omega) rfl hx
  have hn2 : p ≠ gr := fun e => by
    obtain ⟨cs, h1⟩ := hgrr
    rw [← e, hs.box] at h1
    simp at h1
  have S9 : Hid (Se w (W.setCell ⟨gr, x, none⟩ (.int .i64 (min (s.reached x) m))).drew p gv n (s.reach x m) mv (.slice (some ⟨gr, 0, none⟩) n cr) pv wv tv ov rs) := (hs.setReached rfl hgr _ hgrr).on (Below.refl _ _).drew
  have e2 : W.drew.cell? ⟨p, 2, none⟩ = some (.slice (some ⟨gr, 0, none⟩) n cr) := hs.cell 2
  have hp0 := hs.size
  clear hs hgrr
  go_enter Tryz.func38, Tryz.ntmps38
  go_wp2
  refine wp_region_noPanic ?_
  refine wp_region_held_drew (S := fun W => W.cell? ⟨p, 2, none⟩ = some (.slice (some ⟨gr, 0, none⟩) n cr)) (by kernel_rfl) e2 (fun hHeld => ?_)
  refine wpAnyH_take (i := 0) (v := ?_) (by simp only [List.getElem?_toArray, List.getElem?_cons_zero]; rfl) (by kernel_rfl) (by kernel_rfl) (by kernel_rfl) (fun _ _ _ h => h) (Or.inl ⟨by rfl, ?_⟩) (by assumption) ?_
  rotate_left 1
  · intro w hSw; (try dsimp only at hSw); go_simp; (try with_reducible rfl)
  try simp only [Act.put, List.setIfInBounds_toArray, List.set_cons_zero, List.set_cons_succ]
  refine wpAnyH_take (i := 1) (v := ?_) (by simp only [List.getElem?_toArray, List.getElem?_cons_succ, List.getElem?_cons_zero]; rfl) (by kernel_rfl) (by kernel_rfl) (by kernel_rfl) (fun _ _ _ h => h) (Or.inl ⟨by rfl, ?_⟩) (by assumption) ?_
  rotate_left 1
  · intro w hSw; (try dsimp only at hSw); go_simp; (try with_reducible rfl)
  try simp only [Act.put, List.setIfInBounds_toArray, List.set_cons_zero, List.set_cons_succ]
  refine wpAnyH_take (i := 2) (v := ?_) (by simp only [List.getElem?_toArray, List.getElem?_cons_succ, List.getElem?_cons_zero]; rfl) (by kernel_rfl) (by kernel_rfl) (by kernel_rfl) (fun _ _ _ h => h) (Or.inl ⟨by rfl, ?_⟩) (by assumption) ?_
  rotate_left 1
  · intro w hSw; (try dsimp only at hSw); go_simp; (try with_reducible rfl)
  try simp only [Act.put, List.setIfInBounds_toArray, List.set_cons_zero, List.set_cons_succ]
  refine wpAnyH_take (i := 3) (v := ?_) (by simp only [List.getElem?_toArray, List.getElem?_cons_succ, List.getElem?_cons_zero]; rfl) (by kernel_rfl) (by kernel_rfl) (by kernel_rfl) (fun _ _ _ h => h) (Or.inl ⟨by rfl, ?_⟩) (by assumption) ?_
  rotate_left 1
  · intro w hSw; (try dsimp only at hSw); go_simp; (try with_reducible rfl)
  try simp only [Act.put, List.setIfInBounds_toArray, List.set_cons_zero, List.set_cons_succ]
  refine wpAnyH_take (i := 4) (v := ?_) (by simp only [List.getElem?_toArray, List.getElem?_cons_succ, List.getElem?_cons_zero]; rfl) (by kernel_rfl) (by kernel_rfl) (by kernel_rfl) (fun _ _ _ h => h) (Or.inl ⟨by rfl, ?_⟩) (by assumption) ?_
  rotate_left 1
  · intro w hSw; (try dsimp only at hSw); go_simp; (try with_reducible rfl)
  try simp only [Act.put, List.setIfInBounds_toArray, List.set_cons_zero, List.set_cons_succ]
  refine wpAnyH_take (i := 5) (v := ?_) (by simp only [List.getElem?_toArray, List.getElem?_cons_succ, List.getElem?_cons_zero]; rfl) (by kernel_rfl) (by kernel_rfl) (by kernel_rfl) (fun _ _ _ h => h) (Or.inl ⟨by rfl, ?_⟩) (by assumption) ?_
  rotate_left 1
  · intro w hSw; (try dsimp only at hSw); go_simp; (try with_reducible rfl)
  try simp only [Act.put, List.setIfInBounds_toArray, List.set_cons_zero, List.set_cons_succ]
  refine wpAnyH_take (i := 6) (v := ?_) (by simp only [List.getElem?_toArray, List.getElem?_cons_succ, List.getElem?_cons_zero]; rfl) (by kernel_rfl) (by kernel_rfl) (by kernel_rfl) (fun _ _ _ h => h) (Or.inl ⟨by rfl, ?_⟩) (by assumption) ?_
  rotate_left 1
  · intro w hSw; (try dsimp only at hSw); go_simp; (try with_reducible rfl)
  try simp only [Act.put, List.setIfInBounds_toArray, List.set_cons_zero, List.set_cons_succ]
  refine wpAnyH_take (i := 7) (v := ?_) (by simp only [List.getElem?_toArray, List.getElem?_cons_succ, List.getElem?_cons_zero]; rfl) (by kernel_rfl) (by kernel_rfl) (by kernel_rfl) (fun _ _ _ h => h) (Or.inl ⟨by rfl, ?_⟩) (by assumption) ?_
  rotate_left 1
  · intro w hSw; (try dsimp only at hSw); go_simp; (try with_reducible rfl)
  try simp only [Act.put, List.setIfInBounds_toArray, List.set_cons_zero, List.set_cons_succ]
  refine wpAnyH_take (i := 8) (v := ?_) (by simp only [List.getElem?_toArray, List.getElem?_cons_succ, List.getElem?_cons_zero]; rfl) (by kernel_rfl) (by kernel_rfl) (by kernel_rfl) (fun _ _ _ h => h) (Or.inl ⟨by rfl, ?_⟩) (by assumption) ?_
  rotate_left 1
  · intro w hSw; (try dsimp only at hSw); go_simp; (try with_reducible rfl)
  try simp only [Act.put, List.setIfInBounds_toArray, List.set_cons_zero, List.set_cons_succ]
  refine wpAnyH_take (i := 9) (v := ?_) (by simp only [List.getElem?_toArray, List.getElem?_cons_succ, List.getElem?_cons_zero]; rfl) (by kernel_rfl) (by kernel_rfl) (by kernel_rfl) (fun _ _ _ h => h) (Or.inl ⟨by rfl, ?_⟩) (by assumption) ?_
  rotate_left 1
  · intro w hSw; (try dsimp only at hSw); go_simp; (try with_reducible rfl)
  try simp only [Act.put, List.setIfInBounds_toArray, List.set_cons_zero, List.set_cons_succ]
  refine wpAnyH_take (i := 10) (v := .pointer (some ⟨gr, x, none⟩)) (by simp only [List.getElem?_toArray, List.getElem?_cons_succ, List.getElem?_cons_zero]; rfl) (by kernel_rfl) (by kernel_rfl) (by kernel_rfl) (fun _ _ _ h => h) (Or.inl ⟨by rfl, ?_⟩) (by assumption) ?_
  · intro w hSw; (try dsimp only at hSw); (try go_simp); ((try rw [if_pos (by omega)]); (try simp); (try (intro h9; omega)))
  try simp only [Act.put, List.setIfInBounds_toArray, List.set_cons_zero, List.set_cons_succ]
  refine wpAnyH_take (i := 12) (v := ?_) (by simp only [List.getElem?_toArray, List.getElem?_cons_succ, List.getElem?_cons_zero]; rfl) (by kernel_rfl) (by kernel_rfl) (by kernel_rfl) (fun _ _ _ h => h) (Or.inl ⟨by rfl, ?_⟩) (by assumption) ?_
  rotate_left 1
  · intro w hSw; (try dsimp only at hSw); go_simp; (try with_reducible rfl)
  try simp only [Act.put, List.setIfInBounds_toArray, List.set_cons_zero, List.set_cons_succ]
  refine wpAnyH_ready (rs := [11]) (by kernel_rfl) (by simp) ?_
  refine AllReadyH.cons (by simp only [List.getElem?_toArray, List.getElem?_cons_succ, List.getElem?_cons_zero]; rfl) (fun K hK => ?_) AllReadyH.nil
  go_simp
  clear hHeld
  refine hK.out _ _ e2 (fun hHeld => ?_)
  clear hK K
  try simp only [Act.put, List.setIfInBounds_toArray, List.set_cons_zero, List.set_cons_succ]
  refine wpAnyH_take (i := 13) (v := .int .i64 (min (s.reached x) m)) (by simp only [List.getElem?_toArray, List.getElem?_cons_succ, List.getElem?_cons_zero]; rfl) (by kernel_rfl) (by kernel_rfl) (by kernel_rfl) (fun _ _ _ h => h) (Or.inl ⟨by rfl, ?_⟩) (by assumption) ?_
  · intro w hSw; (try dsimp only at hSw); (try go_simp); (first | done | (with_reducible rfl) | (simp; done) | (simp [Int.min_def]; done) | (split <;> omega))
  try simp only [Act.put, List.setIfInBounds_toArray, List.set_cons_zero, List.set_cons_succ]
  refine wpAnyH_take (i := 14) (v := .pointer (some ⟨gr, x, none⟩)) (by simp only [List.getElem?_toArray, List.getElem?_cons_succ, List.getElem?_cons_zero]; rfl) (by kernel_rfl) (by kernel_rfl) (by kernel_rfl) (fun _ _ _ h => h) (Or.inl ⟨by rfl, ?_⟩) (by assumption) ?_
  · intro w hSw; (try dsimp only at hSw); (try go_simp); ((try rw [if_pos (by omega)]); (try simp); (try (intro h9; omega)))
  try simp only [Act.put, List.setIfInBounds_toArray, List.set_cons_zero, List.set_cons_succ]
  refine wpAnyH_ready (rs := [15]) (by kernel_rfl) (by simp) ?_
  refine AllReadyH.cons (by simp only [List.getElem?_toArray, List.getElem?_cons_succ, List.getElem?_cons_zero]; rfl) (fun K hK => ?_) AllReadyH.nil
  go_simp
  clear hHeld
  refine hK.out _ _ ((World.cell?_setCell_far _ _ _ _ (Ne.symm hn2)).trans e2) (fun hHeld => ?_)
  clear hK K
  try simp only [Act.put, List.setIfInBounds_toArray, List.set_cons_zero, List.set_cons_succ]
  refine wpAnyH_done (by kernel_rfl) ?_ _
  refine NoPanic.normal ?_
  go_wp2
  exact bodyPost_end (results_none rfl _ _ _) rfl ⟨⟨_, rfl⟩, S9.out⟩
end Go.Proofs.YtfmmmhcpdinhgabGreatDoor
