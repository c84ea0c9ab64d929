import Derived.Test.YtfmmmhcpdinhgabDoorZ18
/-
  The search of the program: made; of all lines.
-/
namespace Go.Proofs.YtfmmmhcpdinhgabDoor
open Go.RowKit Go.Deep PureNet ShfKit
set_option maxRecDepth 100000

def s0 : Ps := ⟨fun _ => 0, fun _ => 0, fun _ => 0, [], [], []⟩
theorem zero_row {X : World} {B b n : Nat} (hB : B ≤ b) (hn : n ≤ 65536) (hb : X.heap[b]? = some (.cells (madeCells #[.int .i64 0] n) 3 (0, 0))) : X.ownsRow B 3 1 (.slice (some ⟨b, 0, none⟩) n n) n (rowF n fun _ => 0) := by
  refine ⟨by rw [rowF_len, Nat.mul_one], .inr ⟨b, n, _, rfl, hB, hb, Nat.le_refl _, by unfold maxLen; omega, by rw [size_madeCells, Nat.mul_one], ?_⟩⟩
  rw [Nat.mul_one, toList_madeCells_one, List.take_of_length_le (by simp)]
  apply List.ext_getElem?
  intro k
  by_cases hk : k < n
  · rw [rowF_at n _ k hk]; simp [hk]
  · rw [List.getElem?_eq_none (by simp; omega), List.getElem?_eq_none (by rw [rowF_len]; omega)]
/-- a search that has just been made. -/
theorem Se.new {w X : World} {gv : Value} {n i j k : Nat} (hn : n ≤ 65536) (hi : i < 3) (hj : j < 3) (hk : k < 3) (hij : i ≠ j) (hik : i ≠ k) (hjk : j ≠ k) (hb : Below w.heap.size w X) (hr : ∀ q, q < 3 → X.heap[w.heap.size + q]? = some (.cells (madeCells #[.int .i64 0] n) 3 (0, 0)))
    (hbox : X.heap[w.heap.size + 3]? = some (.cells #[gv, .slice (some ⟨w.heap.size + i, 0, none⟩) n n, .slice (some ⟨w.heap.size + j, 0, none⟩) n n, .slice (some ⟨w.heap.size + k, 0, none⟩) n n, .slice none 0 0, .slice none 0 0, .slice none 0 0] 103 (0, 0))) :
    Se w X (w.heap.size + 3) gv n s0 (.slice (some ⟨w.heap.size + i, 0, none⟩) n n) (.slice (some ⟨w.heap.size + j, 0, none⟩) n n) (.slice (some ⟨w.heap.size + k, 0, none⟩) n n) (.slice none 0 0) (.slice none 0 0) (.slice none 0 0) [] := by
  refine ⟨hb, by omega, hbox, ⟨fun q x hx => ?_, fun a b x y g hx hy hab hg => ?_⟩, World.ownsRow_nil _ _ _ _, rfl, fun q a r ha => by simp [s0] at ha⟩
  · match q, hx with
    | 0, hx => cases hx; exact zero_row (by omega) hn (hr i hi)
    | 1, hx => cases hx; exact zero_row (by omega) hn (hr j hj)
    | 2, hx => cases hx; exact zero_row (by omega) hn (hr k hk)
    | 3, hx => cases hx; exact World.ownsRow_nil _ _ _ _
    | 4, hx => cases hx; exact World.ownsRow_nil _ _ _ _
    | q + 5, hx => simp at hx
  · match a, b, hx, hy with
    | 0, 0, _, _ => omega
    | 0, 1, hx, hy => cases hx; cases hy; cases hg; intro e; simp [Value.ownBlock] at e; omega
    | 0, 2, hx, hy => cases hx; cases hy; cases hg; intro e; simp [Value.ownBlock] at e; omega
    | 1, 0, hx, hy => cases hx; cases hy; cases hg; intro e; simp [Value.ownBlock] at e; omega
    | 1, 1, _, _ => omega
    | 1, 2, hx, hy => cases hx; cases hy; cases hg; intro e; simp [Value.ownBlock] at e; omega
    | 2, 0, hx, hy => cases hx; cases hy; cases hg; intro e; simp [Value.ownBlock] at e; omega
    | 2, 1, hx, hy => cases hx; cases hy; cases hg; intro e; simp [Value.ownBlock] at e; omega
    | 2, 2, _, _ => omega
    | 3, _, hx, _ => cases hx; cases hg
    | 4, _, hx, _ => cases hx; cases hg
    | _, 3, _, hy => cases hy; intro e; cases e
    | _, 4, _, hy => cases hy; intro e; cases e
    | q + 5, _, hx, _ => simp at hx
    | _, q + 5, _, hy => simp at hy

set_option maxHeartbeats 4000000 in
theorem newSearch_any (sg : Option Addr) (cg n : Nat) (w : World) (hfew : n ≤ 65536) :
    Calls Tryd.prog 70 #[.slice sg n cg] w fun e W' => ∃ p mv rv pv, e = .returned (.pointer (some ⟨p, 0, none⟩)) ∧ Se w W' p (.slice sg n cg) n s0 mv rv pv (.slice none 0 0) (.slice none 0 0) (.slice none 0 0) [] := by
  have hmk : ∀ W : World, (Instr.makeSlice 23 (.int .i64 (n : Int)) (.int .i64 (n : Int))).run Tryd.prog W = .ok (.slice (some ⟨W.heap.size, 0, none⟩) n n) (W.alloc (.cells (madeCells #[.int .i64 0] n) 3)) := fun W =>
    run_make_row' (P := Tryd.prog) 23 3 (.int .i64 0) 8 Tryd.underlying23 info3 rfl .i64 .i64 n (by omega) (by omega) W
  have NS : Hid (∀ i j k bi bj bk bp, bi = w.heap.size + i → bj = w.heap.size + j → bk = w.heap.size + k → bp = w.heap.size + 3 → i < 3 → j < 3 → k < 3 → i ≠ j → i ≠ k → j ≠ k → ∃ p mv rv pv, Ending.returned (.pointer (some ⟨bp, 0, none⟩)) = .returned (.pointer (some ⟨p, 0, none⟩)) ∧ Se w ((((w.alloc (.cells (madeCells #[.int .i64 0] n) 3)).alloc (.cells (madeCells #[.int .i64 0] n) 3)).alloc (.cells (madeCells #[.int .i64 0] n) 3)).alloc (.cells #[.slice sg n cg, .slice (some ⟨bi, 0, none⟩) n n, .slice (some ⟨bj, 0, none⟩) n n, .slice (some ⟨bk, 0, none⟩) n n, .slice none 0 0, .slice none 0 0, .slice none 0 0] 103)).drew p (.slice sg n cg) n s0 mv rv pv (.slice none 0 0) (.slice none 0 0) (.slice none 0 0) []) := fun i j k bi bj bk bp e1 e2 e3 e4 hi hj hk hij hik hjk => by
    subst e1 e2 e3 e4
    refine ⟨_, _, _, _, rfl, Se.new hfew hi hj hk hij hik hjk ?_ (fun q hq => ?_) ?_⟩
    · exact (((((Below.refl _ _).alloc (Nat.le_refl _) _).alloc (by simp) _).alloc (by simp; omega) _).alloc (by simp; omega) _).drew
    · match q, hq with
      | 0, _ => exact (((((Below.refl (w.alloc (.cells (madeCells #[.int .i64 0] n) 3)).heap.size _).alloc (Nat.le_refl _) _).alloc (by simp) _).alloc (by simp) _).drew.block _ (by simp)).trans (heap_alloc_new w _)
      | 1, _ =>
        have h5 := (((Below.refl ((w.alloc (.cells (madeCells #[.int .i64 0] n) 3)).alloc (.cells (madeCells #[.int .i64 0] n) 3)).heap.size _).alloc (Nat.le_refl _) (.cells (madeCells #[.int .i64 0] n) 3)).alloc (by simp) (.cells #[.slice sg n cg, .slice (some ⟨w.heap.size + i, 0, none⟩) n n, .slice (some ⟨w.heap.size + j, 0, none⟩) n n, .slice (some ⟨w.heap.size + k, 0, none⟩) n n, .slice none 0 0, .slice none 0 0, .slice none 0 0] 103)).drew.block (w.heap.size + 1) (by simp)
        refine h5.trans ?_
        have h6 := heap_alloc_new (w.alloc (.cells (madeCells #[.int .i64 0] n) 3)) (.cells (madeCells #[.int .i64 0] n) 3)
        rw [show (w.alloc (.cells (madeCells #[.int .i64 0] n) 3)).heap.size = w.heap.size + 1 by simp] at h6
        exact h6
      | 2, _ =>
        have h5 := ((Below.refl (((w.alloc (.cells (madeCells #[.int .i64 0] n) 3)).alloc (.cells (madeCells #[.int .i64 0] n) 3)).alloc (.cells (madeCells #[.int .i64 0] n) 3)).heap.size _).alloc (Nat.le_refl _) (.cells #[.slice sg n cg, .slice (some ⟨w.heap.size + i, 0, none⟩) n n, .slice (some ⟨w.heap.size + j, 0, none⟩) n n, .slice (some ⟨w.heap.size + k, 0, none⟩) n n, .slice none 0 0, .slice none 0 0, .slice none 0 0] 103)).drew.block (w.heap.size + 2) (by simp)
        refine h5.trans ?_
        have h6 := heap_alloc_new ((w.alloc (.cells (madeCells #[.int .i64 0] n) 3)).alloc (.cells (madeCells #[.int .i64 0] n) 3)) (.cells (madeCells #[.int .i64 0] n) 3)
        rw [show ((w.alloc (.cells (madeCells #[.int .i64 0] n) 3)).alloc (.cells (madeCells #[.int .i64 0] n) 3)).heap.size = w.heap.size + 2 by simp] at h6
        exact h6
    · have h6 := heap_alloc_new (((w.alloc (.cells (madeCells #[.int .i64 0] n) 3)).alloc (.cells (madeCells #[.int .i64 0] n) 3)).alloc (.cells (madeCells #[.int .i64 0] n) 3)) (.cells #[.slice sg n cg, .slice (some ⟨w.heap.size + i, 0, none⟩) n n, .slice (some ⟨w.heap.size + j, 0, none⟩) n n, .slice (some ⟨w.heap.size + k, 0, none⟩) n n, .slice none 0 0, .slice none 0 0, .slice none 0 0] 103)
      rw [show (((w.alloc (.cells (madeCells #[.int .i64 0] n) 3)).alloc (.cells (madeCells #[.int .i64 0] n) 3)).alloc (.cells (madeCells #[.int .i64 0] n) 3)).heap.size = w.heap.size + 3 by simp] at h6
      exact h6
  go_enter Tryd.func70, Tryd.ntmps70
  go_wp2
  refine wp_region_noPanic ?_
  refine wp_region_held_drew (S := fun _ => True) (by kernel_rfl) trivial (fun hHeld => ?_)
  refine wpAnyH_take (i := 0) (v := ?_) (by simp only [List.getElem?_toArray, List.getElem?_cons_zero]; rfl) (by kernel_rfl) (by kernel_rfl) (by kernel_rfl) (fun _ _ _ h => h) (Or.inl ⟨by rfl, ?_⟩) (by assumption) ?_
  rotate_left 1
  · intro w hSw; (try dsimp only at hSw); go_simp; (try with_reducible rfl)
  try simp only [Act.put, List.setIfInBounds_toArray, List.set_cons_zero, List.set_cons_succ]
  refine wpAnyH_take (i := 1) (v := ?_) (by simp only [List.getElem?_toArray, List.getElem?_cons_succ, List.getElem?_cons_zero]; rfl) (by kernel_rfl) (by kernel_rfl) (by kernel_rfl) (fun _ _ _ h => h) (Or.inl ⟨by rfl, ?_⟩) (by assumption) ?_
  rotate_left 1
  · intro w hSw; (try dsimp only at hSw); go_simp; (try with_reducible rfl)
  try simp only [Act.put, List.setIfInBounds_toArray, List.set_cons_zero, List.set_cons_succ]
  refine wpAnyH_take (i := 2) (v := ?_) (by simp only [List.getElem?_toArray, List.getElem?_cons_succ, List.getElem?_cons_zero]; rfl) (by kernel_rfl) (by kernel_rfl) (by kernel_rfl) (fun _ _ _ h => h) (Or.inl ⟨by rfl, ?_⟩) (by assumption) ?_
  rotate_left 1
  · intro w hSw; (try dsimp only at hSw); go_simp; (try with_reducible rfl)
  try simp only [Act.put, List.setIfInBounds_toArray, List.set_cons_zero, List.set_cons_succ]
  refine wpAnyH_take (i := 4) (v := ?_) (by simp only [List.getElem?_toArray, List.getElem?_cons_succ, List.getElem?_cons_zero]; rfl) (by kernel_rfl) (by kernel_rfl) (by kernel_rfl) (fun _ _ _ h => h) (Or.inl ⟨by rfl, ?_⟩) (by assumption) ?_
  rotate_left 1
  · intro w hSw; (try dsimp only at hSw); go_simp; (try with_reducible rfl)
  try simp only [Act.put, List.setIfInBounds_toArray, List.set_cons_zero, List.set_cons_succ]
  refine wpAnyH_take (i := 5) (v := ?_) (by simp only [List.getElem?_toArray, List.getElem?_cons_succ, List.getElem?_cons_zero]; rfl) (by kernel_rfl) (by kernel_rfl) (by kernel_rfl) (fun _ _ _ h => h) (Or.inl ⟨by rfl, ?_⟩) (by assumption) ?_
  rotate_left 1
  · intro w hSw; (try dsimp only at hSw); go_simp; (try with_reducible rfl)
  try simp only [Act.put, List.setIfInBounds_toArray, List.set_cons_zero, List.set_cons_succ]
  refine wpAnyH_take (i := 7) (v := ?_) (by simp only [List.getElem?_toArray, List.getElem?_cons_succ, List.getElem?_cons_zero]; rfl) (by kernel_rfl) (by kernel_rfl) (by kernel_rfl) (fun _ _ _ h => h) (Or.inl ⟨by rfl, ?_⟩) (by assumption) ?_
  rotate_left 1
  · intro w hSw; (try dsimp only at hSw); go_simp; (try with_reducible rfl)
  try simp only [Act.put, List.setIfInBounds_toArray, List.set_cons_zero, List.set_cons_succ]
  refine wpAnyH_take (i := 8) (v := ?_) (by simp only [List.getElem?_toArray, List.getElem?_cons_succ, List.getElem?_cons_zero]; rfl) (by kernel_rfl) (by kernel_rfl) (by kernel_rfl) (fun _ _ _ h => h) (Or.inl ⟨by rfl, ?_⟩) (by assumption) ?_
  rotate_left 1
  · intro w hSw; (try dsimp only at hSw); go_simp; (try with_reducible rfl)
  try simp only [Act.put, List.setIfInBounds_toArray, List.set_cons_zero, List.set_cons_succ]
  refine wpAnyH_ready (rs := [3, 6, 9]) (by kernel_rfl) (by simp) ?_
  refine AllReadyH.cons (by simp only [List.getElem?_toArray, List.getElem?_cons_succ, List.getElem?_cons_zero]; rfl) (fun K hK => ?_) (AllReadyH.cons (by simp only [List.getElem?_toArray, List.getElem?_cons_succ, List.getElem?_cons_zero]; rfl) (fun K hK => ?_) (AllReadyH.cons (by simp only [List.getElem?_toArray, List.getElem?_cons_succ, List.getElem?_cons_zero]; rfl) (fun K hK => ?_) AllReadyH.nil))
  · go_simp
    clear hHeld
    refine hK.out _ _ trivial (fun hHeld => ?_)
    clear hK K
    try simp only [Act.put, List.setIfInBounds_toArray, List.set_cons_zero, List.set_cons_succ]
    refine wpAnyH_ready (rs := [6, 9]) (by kernel_rfl) (by simp) ?_
    refine AllReadyH.cons (by simp only [List.getElem?_toArray, List.getElem?_cons_succ, List.getElem?_cons_zero]; rfl) (fun K hK => ?_) (AllReadyH.cons (by simp only [List.getElem?_toArray, List.getElem?_cons_succ, List.getElem?_cons_zero]; rfl) (fun K hK => ?_) AllReadyH.nil)
    · go_simp
      clear hHeld
      refine hK.out _ _ trivial (fun hHeld => ?_)
      clear hK K
      try simp only [Act.put, List.setIfInBounds_toArray, List.set_cons_zero, List.set_cons_succ]
      refine wpAnyH_ready (rs := [9]) (by kernel_rfl) (by simp) ?_
      refine AllReadyH.cons (by simp only [List.getElem?_toArray, List.getElem?_cons_succ, List.getElem?_cons_zero]; rfl) (fun K hK => ?_) AllReadyH.nil
      go_simp
      clear hHeld
      refine hK.out _ _ trivial (fun hHeld => ?_)
      clear hK K
      try simp only [Act.put, List.setIfInBounds_toArray, List.set_cons_zero, List.set_cons_succ]
      refine wpAnyH_take (i := 10) (v := ?_) (by simp only [List.getElem?_toArray, List.getElem?_cons_succ, List.getElem?_cons_zero]; rfl) (by kernel_rfl) (by kernel_rfl) (by kernel_rfl) (fun _ _ _ h => h) (Or.inl ⟨by rfl, ?_⟩) (by assumption) ?_
      rotate_left 1
      · intro w hSw; (try dsimp only at hSw); go_simp; (try with_reducible rfl)
      try simp only [Act.put, List.setIfInBounds_toArray, List.set_cons_zero, List.set_cons_succ]
      refine wpAnyH_ready (rs := [11]) (by kernel_rfl) (by simp) ?_
      refine AllReadyH.cons (by simp only [List.getElem?_toArray, List.getElem?_cons_succ, List.getElem?_cons_zero]; rfl) (fun K hK => ?_) AllReadyH.nil
      go_simp
      clear hHeld
      refine hK.out _ _ trivial (fun hHeld => ?_)
      clear hK K
      try simp only [Act.put, List.setIfInBounds_toArray, List.set_cons_zero, List.set_cons_succ]
      refine wpAnyH_take (i := 12) (v := ?_) (by simp only [List.getElem?_toArray, List.getElem?_cons_succ, List.getElem?_cons_zero]; rfl) (by kernel_rfl) (by kernel_rfl) (by kernel_rfl) (fun _ _ _ h => h) (Or.inl ⟨by rfl, ?_⟩) (by assumption) ?_
      rotate_left 1
      · intro w hSw; (try dsimp only at hSw); go_simp; (try with_reducible rfl)
      try simp only [Act.put, List.setIfInBounds_toArray, List.set_cons_zero, List.set_cons_succ]
      refine wpAnyH_done (by kernel_rfl) ?_ _
      refine NoPanic.normal ?_
      go_wp2
      exact bodyPost_ret (v := .pointer (some ⟨_, 0, none⟩)) (by simp [results, Tryd.results70, go_sem]; rfl) rfl (NS.out 0 1 2 _ _ _ _ (by omega) (by omega) (by omega) (by omega) (by omega) (by omega) (by omega) (by omega) (by omega) (by omega))
    · go_simp
      clear hHeld
      refine hK.out _ _ trivial (fun hHeld => ?_)
      clear hK K
      try simp only [Act.put, List.setIfInBounds_toArray, List.set_cons_zero, List.set_cons_succ]
      refine wpAnyH_ready (rs := [6]) (by kernel_rfl) (by simp) ?_
      refine AllReadyH.cons (by simp only [List.getElem?_toArray, List.getElem?_cons_succ, List.getElem?_cons_zero]; rfl) (fun K hK => ?_) AllReadyH.nil
      go_simp
      clear hHeld
      refine hK.out _ _ trivial (fun hHeld => ?_)
      clear hK K
      try simp only [Act.put, List.setIfInBounds_toArray, List.set_cons_zero, List.set_cons_succ]
      refine wpAnyH_take (i := 10) (v := ?_) (by simp only [List.getElem?_toArray, List.getElem?_cons_succ, List.getElem?_cons_zero]; rfl) (by kernel_rfl) (by kernel_rfl) (by kernel_rfl) (fun _ _ _ h => h) (Or.inl ⟨by rfl, ?_⟩) (by assumption) ?_
      rotate_left 1
      · intro w hSw; (try dsimp only at hSw); go_simp; (try with_reducible rfl)
      try simp only [Act.put, List.setIfInBounds_toArray, List.set_cons_zero, List.set_cons_succ]
      refine wpAnyH_ready (rs := [11]) (by kernel_rfl) (by simp) ?_
      refine AllReadyH.cons (by simp only [List.getElem?_toArray, List.getElem?_cons_succ, List.getElem?_cons_zero]; rfl) (fun K hK => ?_) AllReadyH.nil
      go_simp
      clear hHeld
      refine hK.out _ _ trivial (fun hHeld => ?_)
      clear hK K
      try simp only [Act.put, List.setIfInBounds_toArray, List.set_cons_zero, List.set_cons_succ]
      refine wpAnyH_take (i := 12) (v := ?_) (by simp only [List.getElem?_toArray, List.getElem?_cons_succ, List.getElem?_cons_zero]; rfl) (by kernel_rfl) (by kernel_rfl) (by kernel_rfl) (fun _ _ _ h => h) (Or.inl ⟨by rfl, ?_⟩) (by assumption) ?_
      rotate_left 1
      · intro w hSw; (try dsimp only at hSw); go_simp; (try with_reducible rfl)
      try simp only [Act.put, List.setIfInBounds_toArray, List.set_cons_zero, List.set_cons_succ]
      refine wpAnyH_done (by kernel_rfl) ?_ _
      refine NoPanic.normal ?_
      go_wp2
      exact bodyPost_ret (v := .pointer (some ⟨_, 0, none⟩)) (by simp [results, Tryd.results70, go_sem]; rfl) rfl (NS.out 0 2 1 _ _ _ _ (by omega) (by omega) (by omega) (by omega) (by omega) (by omega) (by omega) (by omega) (by omega) (by omega))
  · go_simp
    clear hHeld
    refine hK.out _ _ trivial (fun hHeld => ?_)
    clear hK K
    try simp only [Act.put, List.setIfInBounds_toArray, List.set_cons_zero, List.set_cons_succ]
    refine wpAnyH_ready (rs := [3, 9]) (by kernel_rfl) (by simp) ?_
    refine AllReadyH.cons (by simp only [List.getElem?_toArray, List.getElem?_cons_succ, List.getElem?_cons_zero]; rfl) (fun K hK => ?_) (AllReadyH.cons (by simp only [List.getElem?_toArray, List.getElem?_cons_succ, List.getElem?_cons_zero]; rfl) (fun K hK => ?_) AllReadyH.nil)
    · go_simp
      clear hHeld
      refine hK.out _ _ trivial (fun hHeld => ?_)
      clear hK K
      try simp only [Act.put, List.setIfInBounds_toArray, List.set_cons_zero, List.set_cons_succ]
      refine wpAnyH_ready (rs := [9]) (by kernel_rfl) (by simp) ?_
      refine AllReadyH.cons (by simp only [List.getElem?_toArray, List.getElem?_cons_succ, List.getElem?_cons_zero]; rfl) (fun K hK => ?_) AllReadyH.nil
      go_simp
      clear hHeld
      refine hK.out _ _ trivial (fun hHeld => ?_)
      clear hK K
      try simp only [Act.put, List.setIfInBounds_toArray, List.set_cons_zero, List.set_cons_succ]
      refine wpAnyH_take (i := 10) (v := ?_) (by simp only [List.getElem?_toArray, List.getElem?_cons_succ, List.getElem?_cons_zero]; rfl) (by kernel_rfl) (by kernel_rfl) (by kernel_rfl) (fun _ _ _ h => h) (Or.inl ⟨by rfl, ?_⟩) (by assumption) ?_
      rotate_left 1
      · intro w hSw; (try dsimp only at hSw); go_simp; (try with_reducible rfl)
      try simp only [Act.put, List.setIfInBounds_toArray, List.set_cons_zero, List.set_cons_succ]
      refine wpAnyH_ready (rs := [11]) (by kernel_rfl) (by simp) ?_
      refine AllReadyH.cons (by simp only [List.getElem?_toArray, List.getElem?_cons_succ, List.getElem?_cons_zero]; rfl) (fun K hK => ?_) AllReadyH.nil
      go_simp
      clear hHeld
      refine hK.out _ _ trivial (fun hHeld => ?_)
      clear hK K
      try simp only [Act.put, List.setIfInBounds_toArray, List.set_cons_zero, List.set_cons_succ]
      refine wpAnyH_take (i := 12) (v := ?_) (by simp only [List.getElem?_toArray, List.getElem?_cons_succ, List.getElem?_cons_zero]; rfl) (by kernel_rfl) (by kernel_rfl) (by kernel_rfl) (fun _ _ _ h => h) (Or.inl ⟨by rfl, ?_⟩) (by assumption) ?_
      rotate_left 1
      · intro w hSw; (try dsimp only at hSw); go_simp; (try with_reducible rfl)
      try simp only [Act.put, List.setIfInBounds_toArray, List.set_cons_zero, List.set_cons_succ]
      refine wpAnyH_done (by kernel_rfl) ?_ _
      refine NoPanic.normal ?_
      go_wp2
      exact bodyPost_ret (v := .pointer (some ⟨_, 0, none⟩)) (by simp [results, Tryd.results70, go_sem]; rfl) rfl (NS.out 1 0 2 _ _ _ _ (by omega) (by omega) (by omega) (by omega) (by omega) (by omega) (by omega) (by omega) (by omega) (by omega))
    · go_simp
      clear hHeld
      refine hK.out _ _ trivial (fun hHeld => ?_)
      clear hK K
      try simp only [Act.put, List.setIfInBounds_toArray, List.set_cons_zero, List.set_cons_succ]
      refine wpAnyH_ready (rs := [3]) (by kernel_rfl) (by simp) ?_
      refine AllReadyH.cons (by simp only [List.getElem?_toArray, List.getElem?_cons_succ, List.getElem?_cons_zero]; rfl) (fun K hK => ?_) AllReadyH.nil
      go_simp
      clear hHeld
      refine hK.out _ _ trivial (fun hHeld => ?_)
      clear hK K
      try simp only [Act.put, List.setIfInBounds_toArray, List.set_cons_zero, List.set_cons_succ]
      refine wpAnyH_take (i := 10) (v := ?_) (by simp only [List.getElem?_toArray, List.getElem?_cons_succ, List.getElem?_cons_zero]; rfl) (by kernel_rfl) (by kernel_rfl) (by kernel_rfl) (fun _ _ _ h => h) (Or.inl ⟨by rfl, ?_⟩) (by assumption) ?_
      rotate_left 1
      · intro w hSw; (try dsimp only at hSw); go_simp; (try with_reducible rfl)
      try simp only [Act.put, List.setIfInBounds_toArray, List.set_cons_zero, List.set_cons_succ]
      refine wpAnyH_ready (rs := [11]) (by kernel_rfl) (by simp) ?_
      refine AllReadyH.cons (by simp only [List.getElem?_toArray, List.getElem?_cons_succ, List.getElem?_cons_zero]; rfl) (fun K hK => ?_) AllReadyH.nil
      go_simp
      clear hHeld
      refine hK.out _ _ trivial (fun hHeld => ?_)
      clear hK K
      try simp only [Act.put, List.setIfInBounds_toArray, List.set_cons_zero, List.set_cons_succ]
      refine wpAnyH_take (i := 12) (v := ?_) (by simp only [List.getElem?_toArray, List.getElem?_cons_succ, List.getElem?_cons_zero]; rfl) (by kernel_rfl) (by kernel_rfl) (by kernel_rfl) (fun _ _ _ h => h) (Or.inl ⟨by rfl, ?_⟩) (by assumption) ?_
      rotate_left 1
      · intro w hSw; (try dsimp only at hSw); go_simp; (try with_reducible rfl)
      try simp only [Act.put, List.setIfInBounds_toArray, List.set_cons_zero, List.set_cons_succ]
      refine wpAnyH_done (by kernel_rfl) ?_ _
      refine NoPanic.normal ?_
      go_wp2
      exact bodyPost_ret (v := .pointer (some ⟨_, 0, none⟩)) (by simp [results, Tryd.results70, go_sem]; rfl) rfl (NS.out 2 0 1 _ _ _ _ (by omega) (by omega) (by omega) (by omega) (by omega) (by omega) (by omega) (by omega) (by omega) (by omega))
  · go_simp
    clear hHeld
    refine hK.out _ _ trivial (fun hHeld => ?_)
    clear hK K
    try simp only [Act.put, List.setIfInBounds_toArray, List.set_cons_zero, List.set_cons_succ]
    refine wpAnyH_ready (rs := [3, 6]) (by kernel_rfl) (by simp) ?_
    refine AllReadyH.cons (by simp only [List.getElem?_toArray, List.getElem?_cons_succ, List.getElem?_cons_zero]; rfl) (fun K hK => ?_) (AllReadyH.cons (by simp only [List.getElem?_toArray, List.getElem?_cons_succ, List.getElem?_cons_zero]; rfl) (fun K hK => ?_) AllReadyH.nil)
    · go_simp
      clear hHeld
      refine hK.out _ _ trivial (fun hHeld => ?_)
      clear hK K
      try simp only [Act.put, List.setIfInBounds_toArray, List.set_cons_zero, List.set_cons_succ]
      refine wpAnyH_ready (rs := [6]) (by kernel_rfl) (by simp) ?_
      refine AllReadyH.cons (by simp only [List.getElem?_toArray, List.getElem?_cons_succ, List.getElem?_cons_zero]; rfl) (fun K hK => ?_) AllReadyH.nil
      go_simp
      clear hHeld
      refine hK.out _ _ trivial (fun hHeld => ?_)
      clear hK K
      try simp only [Act.put, List.setIfInBounds_toArray, List.set_cons_zero, List.set_cons_succ]
      refine wpAnyH_take (i := 10) (v := ?_) (by simp only [List.getElem?_toArray, List.getElem?_cons_succ, List.getElem?_cons_zero]; rfl) (by kernel_rfl) (by kernel_rfl) (by kernel_rfl) (fun _ _ _ h => h) (Or.inl ⟨by rfl, ?_⟩) (by assumption) ?_
      rotate_left 1
      · intro w hSw; (try dsimp only at hSw); go_simp; (try with_reducible rfl)
      try simp only [Act.put, List.setIfInBounds_toArray, List.set_cons_zero, List.set_cons_succ]
      refine wpAnyH_ready (rs := [11]) (by kernel_rfl) (by simp) ?_
      refine AllReadyH.cons (by simp only [List.getElem?_toArray, List.getElem?_cons_succ, List.getElem?_cons_zero]; rfl) (fun K hK => ?_) AllReadyH.nil
      go_simp
      clear hHeld
      refine hK.out _ _ trivial (fun hHeld => ?_)
      clear hK K
      try simp only [Act.put, List.setIfInBounds_toArray, List.set_cons_zero, List.set_cons_succ]
      refine wpAnyH_take (i := 12) (v := ?_) (by simp only [List.getElem?_toArray, List.getElem?_cons_succ, List.getElem?_cons_zero]; rfl) (by kernel_rfl) (by kernel_rfl) (by kernel_rfl) (fun _ _ _ h => h) (Or.inl ⟨by rfl, ?_⟩) (by assumption) ?_
      rotate_left 1
      · intro w hSw; (try dsimp only at hSw); go_simp; (try with_reducible rfl)
      try simp only [Act.put, List.setIfInBounds_toArray, List.set_cons_zero, List.set_cons_succ]
      refine wpAnyH_done (by kernel_rfl) ?_ _
      refine NoPanic.normal ?_
      go_wp2
      exact bodyPost_ret (v := .pointer (some ⟨_, 0, none⟩)) (by simp [results, Tryd.results70, go_sem]; rfl) rfl (NS.out 1 2 0 _ _ _ _ (by omega) (by omega) (by omega) (by omega) (by omega) (by omega) (by omega) (by omega) (by omega) (by omega))
    · go_simp
      clear hHeld
      refine hK.out _ _ trivial (fun hHeld => ?_)
      clear hK K
      try simp only [Act.put, List.setIfInBounds_toArray, List.set_cons_zero, List.set_cons_succ]
      refine wpAnyH_ready (rs := [3]) (by kernel_rfl) (by simp) ?_
      refine AllReadyH.cons (by simp only [List.getElem?_toArray, List.getElem?_cons_succ, List.getElem?_cons_zero]; rfl) (fun K hK => ?_) AllReadyH.nil
      go_simp
      clear hHeld
      refine hK.out _ _ trivial (fun hHeld => ?_)
      clear hK K
      try simp only [Act.put, List.setIfInBounds_toArray, List.set_cons_zero, List.set_cons_succ]
      refine wpAnyH_take (i := 10) (v := ?_) (by simp only [List.getElem?_toArray, List.getElem?_cons_succ, List.getElem?_cons_zero]; rfl) (by kernel_rfl) (by kernel_rfl) (by kernel_rfl) (fun _ _ _ h => h) (Or.inl ⟨by rfl, ?_⟩) (by assumption) ?_
      rotate_left 1
      · intro w hSw; (try dsimp only at hSw); go_simp; (try with_reducible rfl)
      try simp only [Act.put, List.setIfInBounds_toArray, List.set_cons_zero, List.set_cons_succ]
      refine wpAnyH_ready (rs := [11]) (by kernel_rfl) (by simp) ?_
      refine AllReadyH.cons (by simp only [List.getElem?_toArray, List.getElem?_cons_succ, List.getElem?_cons_zero]; rfl) (fun K hK => ?_) AllReadyH.nil
      go_simp
      clear hHeld
      refine hK.out _ _ trivial (fun hHeld => ?_)
      clear hK K
      try simp only [Act.put, List.setIfInBounds_toArray, List.set_cons_zero, List.set_cons_succ]
      refine wpAnyH_take (i := 12) (v := ?_) (by simp only [List.getElem?_toArray, List.getElem?_cons_succ, List.getElem?_cons_zero]; rfl) (by kernel_rfl) (by kernel_rfl) (by kernel_rfl) (fun _ _ _ h => h) (Or.inl ⟨by rfl, ?_⟩) (by assumption) ?_
      rotate_left 1
      · intro w hSw; (try dsimp only at hSw); go_simp; (try with_reducible rfl)
      try simp only [Act.put, List.setIfInBounds_toArray, List.set_cons_zero, List.set_cons_succ]
      refine wpAnyH_done (by kernel_rfl) ?_ _
      refine NoPanic.normal ?_
      go_wp2
      exact bodyPost_ret (v := .pointer (some ⟨_, 0, none⟩)) (by simp [results, Tryd.results70, go_sem]; rfl) rfl (NS.out 2 1 0 _ _ _ _ (by omega) (by omega) (by omega) (by omega) (by omega) (by omega) (by omega) (by omega) (by omega) (by omega))
end Go.Proofs.YtfmmmhcpdinhgabDoor
/-
  The search of the program: what a line is known to lead to.
-/
namespace Go.Proofs.YtfmmmhcpdinhgabDoor
open Go.RowKit Go.Deep PureNet ShfKit
set_option maxRecDepth 100000

set_option maxHeartbeats 2000000 in
theorem reach_any (gv : Value) (n p x : Nat) (m : Int) (w W : World) (s : Ps) (mv rv pv wv tv ov : Value) (rs : List (Value × ShfKit.Rw)) (hx : x < n) (hs : Se w W p gv n s mv rv pv wv tv ov rs) :
    Calls Tryd.prog 88 #[.pointer (some ⟨p, 0, none⟩), .int .i64 (x : Int), .int .i64 m] W fun e W' => (∃ v, e = .returned v) ∧ Se w W' p gv n (s.reach x m) mv rv pv wv tv ov rs := by
  obtain ⟨gr, cr, rfl, hgr, hgrs, hcr, hgrf, _, hgrr⟩ := hs.row (i := 1) (by omega) rfl hx
  have hn2 : p ≠ gr := fun e => by
    obtain ⟨cs, h1⟩ := hgrr
    rw [← e, hs.box] at h1
    simp at h1
  have S9 : Hid (Se w (W.setCell ⟨gr, x, none⟩ (.int .i64 (min (s.reached x) m))).drew p gv n (s.reach x m) mv (.slice (some ⟨gr, 0, none⟩) n cr) pv wv tv ov rs) := (hs.setReached rfl hgr _ hgrr).on (Below.refl _ _).drew
  have e2 : W.drew.cell? ⟨p, 2, none⟩ = some (.slice (some ⟨gr, 0, none⟩) n cr) := hs.cell 2
  have hp0 := hs.size
  clear hs hgrr
  go_enter Tryd.func88, Tryd.ntmps88
  go_wp2
  refine wp_region_noPanic ?_
  refine wp_region_held_drew (S := fun W => W.cell? ⟨p, 2, none⟩ = some (.slice (some ⟨gr, 0, none⟩) n cr)) (by kernel_rfl) e2 (fun hHeld => ?_)
  refine wpAnyH_take (i := 0) (v := ?_) (by simp only [List.getElem?_toArray, List.getElem?_cons_zero]; rfl) (by kernel_rfl) (by kernel_rfl) (by kernel_rfl) (fun _ _ _ h => h) (Or.inl ⟨by rfl, ?_⟩) (by assumption) ?_
  rotate_left 1
  · intro w hSw; (try dsimp only at hSw); go_simp; (try with_reducible rfl)
  try simp only [Act.put, List.setIfInBounds_toArray, List.set_cons_zero, List.set_cons_succ]
  refine wpAnyH_take (i := 1) (v := ?_) (by simp only [List.getElem?_toArray, List.getElem?_cons_succ, List.getElem?_cons_zero]; rfl) (by kernel_rfl) (by kernel_rfl) (by kernel_rfl) (fun _ _ _ h => h) (Or.inl ⟨by rfl, ?_⟩) (by assumption) ?_
  rotate_left 1
  · intro w hSw; (try dsimp only at hSw); go_simp; (try with_reducible rfl)
  try simp only [Act.put, List.setIfInBounds_toArray, List.set_cons_zero, List.set_cons_succ]
  refine wpAnyH_take (i := 2) (v := ?_) (by simp only [List.getElem?_toArray, List.getElem?_cons_succ, List.getElem?_cons_zero]; rfl) (by kernel_rfl) (by kernel_rfl) (by kernel_rfl) (fun _ _ _ h => h) (Or.inl ⟨by rfl, ?_⟩) (by assumption) ?_
  rotate_left 1
  · intro w hSw; (try dsimp only at hSw); go_simp; (try with_reducible rfl)
  try simp only [Act.put, List.setIfInBounds_toArray, List.set_cons_zero, List.set_cons_succ]
  refine wpAnyH_take (i := 3) (v := ?_) (by simp only [List.getElem?_toArray, List.getElem?_cons_succ, List.getElem?_cons_zero]; rfl) (by kernel_rfl) (by kernel_rfl) (by kernel_rfl) (fun _ _ _ h => h) (Or.inl ⟨by rfl, ?_⟩) (by assumption) ?_
  rotate_left 1
  · intro w hSw; (try dsimp only at hSw); go_simp; (try with_reducible rfl)
  try simp only [Act.put, List.setIfInBounds_toArray, List.set_cons_zero, List.set_cons_succ]
  refine wpAnyH_take (i := 4) (v := ?_) (by simp only [List.getElem?_toArray, List.getElem?_cons_succ, List.getElem?_cons_zero]; rfl) (by kernel_rfl) (by kernel_rfl) (by kernel_rfl) (fun _ _ _ h => h) (Or.inl ⟨by rfl, ?_⟩) (by assumption) ?_
  rotate_left 1
  · intro w hSw; (try dsimp only at hSw); go_simp; (try with_reducible rfl)
  try simp only [Act.put, List.setIfInBounds_toArray, List.set_cons_zero, List.set_cons_succ]
  refine wpAnyH_take (i := 5) (v := ?_) (by simp only [List.getElem?_toArray, List.getElem?_cons_succ, List.getElem?_cons_zero]; rfl) (by kernel_rfl) (by kernel_rfl) (by kernel_rfl) (fun _ _ _ h => h) (Or.inl ⟨by rfl, ?_⟩) (by assumption) ?_
  rotate_left 1
  · intro w hSw; (try dsimp only at hSw); go_simp; (try with_reducible rfl)
  try simp only [Act.put, List.setIfInBounds_toArray, List.set_cons_zero, List.set_cons_succ]
  refine wpAnyH_take (i := 6) (v := ?_) (by simp only [List.getElem?_toArray, List.getElem?_cons_succ, List.getElem?_cons_zero]; rfl) (by kernel_rfl) (by kernel_rfl) (by kernel_rfl) (fun _ _ _ h => h) (Or.inl ⟨by rfl, ?_⟩) (by assumption) ?_
  rotate_left 1
  · intro w hSw; (try dsimp only at hSw); go_simp; (try with_reducible rfl)
  try simp only [Act.put, List.setIfInBounds_toArray, List.set_cons_zero, List.set_cons_succ]
  refine wpAnyH_take (i := 7) (v := ?_) (by simp only [List.getElem?_toArray, List.getElem?_cons_succ, List.getElem?_cons_zero]; rfl) (by kernel_rfl) (by kernel_rfl) (by kernel_rfl) (fun _ _ _ h => h) (Or.inl ⟨by rfl, ?_⟩) (by assumption) ?_
  rotate_left 1
  · intro w hSw; (try dsimp only at hSw); go_simp; (try with_reducible rfl)
  try simp only [Act.put, List.setIfInBounds_toArray, List.set_cons_zero, List.set_cons_succ]
  refine wpAnyH_take (i := 8) (v := ?_) (by simp only [List.getElem?_toArray, List.getElem?_cons_succ, List.getElem?_cons_zero]; rfl) (by kernel_rfl) (by kernel_rfl) (by kernel_rfl) (fun _ _ _ h => h) (Or.inl ⟨by rfl, ?_⟩) (by assumption) ?_
  rotate_left 1
  · intro w hSw; (try dsimp only at hSw); go_simp; (try with_reducible rfl)
  try simp only [Act.put, List.setIfInBounds_toArray, List.set_cons_zero, List.set_cons_succ]
  refine wpAnyH_take (i := 9) (v := ?_) (by simp only [List.getElem?_toArray, List.getElem?_cons_succ, List.getElem?_cons_zero]; rfl) (by kernel_rfl) (by kernel_rfl) (by kernel_rfl) (fun _ _ _ h => h) (Or.inl ⟨by rfl, ?_⟩) (by assumption) ?_
  rotate_left 1
  · intro w hSw; (try dsimp only at hSw); go_simp; (try with_reducible rfl)
  try simp only [Act.put, List.setIfInBounds_toArray, List.set_cons_zero, List.set_cons_succ]
  refine wpAnyH_take (i := 10) (v := .pointer (some ⟨gr, x, none⟩)) (by simp only [List.getElem?_toArray, List.getElem?_cons_succ, List.getElem?_cons_zero]; rfl) (by kernel_rfl) (by kernel_rfl) (by kernel_rfl) (fun _ _ _ h => h) (Or.inl ⟨by rfl, ?_⟩) (by assumption) ?_
  · intro w hSw; (try dsimp only at hSw); (try go_simp); ((try rw [if_pos (by omega)]); (try simp); (try (intro h9; omega)))
  try simp only [Act.put, List.setIfInBounds_toArray, List.set_cons_zero, List.set_cons_succ]
  refine wpAnyH_take (i := 12) (v := ?_) (by simp only [List.getElem?_toArray, List.getElem?_cons_succ, List.getElem?_cons_zero]; rfl) (by kernel_rfl) (by kernel_rfl) (by kernel_rfl) (fun _ _ _ h => h) (Or.inl ⟨by rfl, ?_⟩) (by assumption) ?_
  rotate_left 1
  · intro w hSw; (try dsimp only at hSw); go_simp; (try with_reducible rfl)
  try simp only [Act.put, List.setIfInBounds_toArray, List.set_cons_zero, List.set_cons_succ]
  refine wpAnyH_ready (rs := [11]) (by kernel_rfl) (by simp) ?_
  refine AllReadyH.cons (by simp only [List.getElem?_toArray, List.getElem?_cons_succ, List.getElem?_cons_zero]; rfl) (fun K hK => ?_) AllReadyH.nil
  go_simp
  clear hHeld
  refine hK.out _ _ e2 (fun hHeld => ?_)
  clear hK K
  try simp only [Act.put, List.setIfInBounds_toArray, List.set_cons_zero, List.set_cons_succ]
  refine wpAnyH_take (i := 13) (v := .int .i64 (min (s.reached x) m)) (by simp only [List.getElem?_toArray, List.getElem?_cons_succ, List.getElem?_cons_zero]; rfl) (by kernel_rfl) (by kernel_rfl) (by kernel_rfl) (fun _ _ _ h => h) (Or.inl ⟨by rfl, ?_⟩) (by assumption) ?_
  · intro w hSw; (try dsimp only at hSw); (try go_simp); (first | done | (with_reducible rfl) | (simp; done) | (simp [Int.min_def]; done) | (split <;> omega))
  try simp only [Act.put, List.setIfInBounds_toArray, List.set_cons_zero, List.set_cons_succ]
  refine wpAnyH_take (i := 14) (v := .pointer (some ⟨gr, x, none⟩)) (by simp only [List.getElem?_toArray, List.getElem?_cons_succ, List.getElem?_cons_zero]; rfl) (by kernel_rfl) (by kernel_rfl) (by kernel_rfl) (fun _ _ _ h => h) (Or.inl ⟨by rfl, ?_⟩) (by assumption) ?_
  · intro w hSw; (try dsimp only at hSw); (try go_simp); ((try rw [if_pos (by omega)]); (try simp); (try (intro h9; omega)))
  try simp only [Act.put, List.setIfInBounds_toArray, List.set_cons_zero, List.set_cons_succ]
  refine wpAnyH_ready (rs := [15]) (by kernel_rfl) (by simp) ?_
  refine AllReadyH.cons (by simp only [List.getElem?_toArray, List.getElem?_cons_succ, List.getElem?_cons_zero]; rfl) (fun K hK => ?_) AllReadyH.nil
  go_simp
  clear hHeld
  refine hK.out _ _ ((World.cell?_setCell_far _ _ _ _ (Ne.symm hn2)).trans e2) (fun hHeld => ?_)
  clear hK K
  try simp only [Act.put, List.setIfInBounds_toArray, List.set_cons_zero, List.set_cons_succ]
  refine wpAnyH_done (by kernel_rfl) ?_ _
  refine NoPanic.normal ?_
  go_wp2
  exact bodyPost_end (results_none rfl _ _ _) rfl ⟨⟨_, rfl⟩, S9.out⟩
end Go.Proofs.YtfmmmhcpdinhgabDoor
/-
  The search of the program: a part of any number of lines comes out.
-/
namespace PureNet
/-- one line of a part has come out. -/
def Ps.pop (s : Ps) (front : List Nat) (y : Nat) (t : Int) : Ps := ⟨s.met, s.reached, upd s.part y t, s.way, front, s.out ++ [y]⟩
/-- a part on its way out: k rounds are to come. -/
def Mid (s0 : Ps) (pre post : List Nat) (x k : Nat) (s : Ps) : Prop :=
  (k = 0 ∧ s = s0.comeOut pre post x) ∨ ∃ post' dn, k = post'.length + 1 ∧ post = post' ++ dn.reverse ∧ s = ⟨s0.met, s0.reached, fun z => if z ∈ dn then s0.met x else s0.part z, s0.way, pre ++ x :: post', s0.out ++ dn⟩
theorem Mid.start (s0 : Ps) (pre post : List Nat) (x : Nat) (hw : s0.waiting = pre ++ x :: post) : Mid s0 pre post x (post.length + 1) s0 := by
  refine .inr ⟨post, [], rfl, by simp, ?_⟩
  cases s0
  simp at hw
  simp [hw]
theorem Mid.last {s0 s : Ps} {pre post : List Nat} {x : Nat} (h : Mid s0 pre post x 0 s) : s = s0.comeOut pre post x := by
  rcases h with ⟨_, h⟩ | ⟨p, _, h, _⟩
  · exact h
  · omega
theorem Mid.step {s0 s : Ps} {pre post : List Nat} {x k : Nat} (h : Mid s0 pre post x (k + 1) s) (hx : x ∉ post) (hp : s0.part x = 0) : ∃ front y, s.waiting = front ++ [y] ∧ (y = x ∨ y ∈ post) ∧ s.part x = 0 ∧ s.met = s0.met ∧ s.out.length + s.waiting.length = s0.out.length + (pre ++ x :: post).length ∧ Mid s0 pre post x k (s.pop front y (s0.met x)) := by
  rcases h with ⟨h, _⟩ | ⟨post', dn, hk, hpost, rfl⟩
  · omega
  have hxd : x ∉ dn := fun e => hx (by rw [hpost]; simp [e])
  rcases List.eq_nil_or_concat post' with rfl | ⟨q, y, rfl⟩
  · refine ⟨pre, x, rfl, .inl rfl, by simp [hxd, hp], rfl, ?_, .inl ⟨by simpa using hk, ?_⟩⟩
    · simp [hpost]; omega
    · simp only [List.nil_append] at hpost
      subst hpost
      simp only [Ps.pop, Ps.comeOut, List.append_assoc, List.reverse_cons, List.reverse_reverse, Ps.mk.injEq, true_and, and_true]
      funext z
      by_cases e : z = x
      · simp [e, upd]
      · simp [e, upd]
  · refine ⟨pre ++ x :: q, y, by simp, .inr (by rw [hpost]; simp), by simp [hxd, hp], rfl, ?_, .inr ⟨q, dn ++ [y], ?_, ?_, ?_⟩⟩
    · simp [hpost]; omega
    · simp at hk; omega
    · rw [hpost]; simp
    · simp only [Ps.pop, List.append_assoc, Ps.mk.injEq, true_and, and_true]
      funext z
      by_cases e : z = y
      · simp [e, upd]
      · simp [e, upd]
end PureNet
namespace Go.Proofs.YtfmmmhcpdinhgabDoor
open Go.RowKit Go.Deep PureNet ShfKit
set_option maxRecDepth 100000

set_option maxHeartbeats 2000000 in
theorem comeOut_gen (gv : Value) (n p x : Nat) (w W : World) (s0 : Ps) (mv rv pv wv tv ov : Value) (rs : List (Value × ShfKit.Rw)) (pre post : List Nat) (hfew : n ≤ 65536) (hx : x < n) (hs : Se w W p gv n s0 mv rv pv wv tv ov rs) (ho : s0.out.length + s0.waiting.length ≤ n)
    (hw : s0.waiting = pre ++ x :: post) (hxp : x ∉ post) (hpl : ∀ y ∈ post, y < n) (hp : s0.part x = 0) (hm : s0.met x ≠ 0) :
    Calls Tryd.prog 93 #[.pointer (some ⟨p, 0, none⟩), .int .i64 (x : Int)] W fun e W' => (∃ v, e = .returned v) ∧ ∃ tv' ov', Se w W' p gv n (s0.comeOut pre post x) mv rv pv wv tv' ov' rs := by
  have SE := hid hs
  obtain ⟨gp, cp, rfl, hgp, hgps, _, _, _, hgpr⟩ := hs.row (i := 2) (by omega) rfl hx
  obtain ⟨gm, cm, rfl, hgm, hgms, _, _, _, hgmr⟩ := hs.row (i := 0) (by omega) rfl hx
  have hn2 : p ≠ gp := fun e => by
    obtain ⟨cs, h1⟩ := hgpr
    rw [← e, hs.box] at h1
    simp at h1
  have hn3 : gm ≠ gp := fun e => hs.fam.apart 0 2 _ _ gm rfl rfl (by decide) rfl (by rw [e]; rfl)
  have M0 := hid (Mid.start s0 pre post x hw)
  have ST : Hid (∀ k s, Mid s0 pre post x (k + 1) s → ∃ front y, s.waiting = front ++ [y] ∧ y < n ∧ s.part x = 0 ∧ s.met = s0.met ∧ s.out.length + s.waiting.length ≤ n ∧ Mid s0 pre post x k (s.pop front y (s0.met x))) := fun k s h => by
    obtain ⟨front, y, h1, h2, h3, h4, h5, h6⟩ := h.step hxp hp
    refine ⟨front, y, h1, ?_, h3, h4, by rw [h5, ← hw]; exact ho, h6⟩
    rcases h2 with rfl | h2
    · exact hx
    · exact hpl y h2
  have HM := hid hm
  obtain ⟨t0, ht0⟩ : ∃ t0, t0 = s0.met x := ⟨_, rfl⟩
  rw [← ht0] at ST HM
  have HT0 := hid ht0
  clear hs hw hp hm hgpr hgmr ht0 hxp hpl ho
  go_enter Tryd.func93, Tryd.ntmps93
  go_wp2
  go_loopg [] (post.length + 1) (fun k W => Hid (∃ s tv ov, Mid s0 pre post x k s ∧ Se w W p gv n s (.slice (some ⟨gm, 0, none⟩) n cm) rv (.slice (some ⟨gp, 0, none⟩) n cp) wv tv ov rs))
  case atStart => exact ⟨_, _, _, M0.out, SE.out⟩
  case round =>
    clear SE M0
    obtain ⟨s, tv, ov, hmid, hs⟩ := hrel.out
    clear hrel
    cases gk with
    | succ k =>
      obtain ⟨pre', y, hwait, hyn, hpx, hmet, hon, hmid'⟩ := ST.out k s hmid
      have MD := hid hmid'
      have HW := hid hwait
      have hmx : s.met x = t0 := by rw [hmet, HT0.out]
      have hwl : s.waiting.length = pre'.length + 1 := by rw [hwait]; simp
      have SE := hid hs
      obtain ⟨st, ct, rfl⟩ := hs.tv
      obtain ⟨so, co, rfl⟩ := hs.ov
      have c0 := hs.cell
      have f0 := fun j => unfrozen_row hs.box j
      have hp0 := hs.size
      obtain ⟨_, _, e9, _, hgpW, hcp, _⟩ := hs.row (i := 2) (by omega) rfl hx
      simp only [Value.slice.injEq, Option.some.injEq, Addr.mk.injEq, and_true, true_and] at e9
      obtain ⟨rfl, rfl⟩ := e9
      rw [hpx] at hcp
      obtain ⟨gt, rfl, hgt, hct⟩ := hs.lastWait HW.out
      have SE1 := hid (hs.cutWait HW.out)
      obtain ⟨W1, hW1⟩ : ∃ W1, W1 = wr.setCell ⟨p, 5, none⟩ (.slice (some ⟨gt, 0, none⟩) pre'.length ct) := ⟨_, rfl⟩
      rw [← hW1] at SE1
      have HW1 := hid hW1
      have v1 : IntKind.i64.wrap ((s.waiting.length : Int) - 1) = (pre'.length : Int) := by rw [IntKind.wrap_i64]; omega
      have v2 : (pre'.length : Int) < (s.waiting.length : Int) := by omega
      have v3 : pre'.length < s.waiting.length := by omega
      have hctw : pre'.length ≤ ct := by
        have ho := SE1.out.fam.own 3 (.slice (some ⟨gt, 0, none⟩) pre'.length ct, pre'.length, placesV pre') rfl
        rcases ho.2 with ⟨hv, _⟩ | ⟨_, _, _, hv, _, _, hnc, _⟩
        · simp at hv
        · simp only [Value.slice.injEq] at hv
          rw [hv.2.2]
          exact hnc
      have HMX := hid hmx
      clear hs hW1 hwait hmid hmid' hmet hpx hmx
      go_wp2_with (first | (rw [← HW1.out]))
      clear c0 f0 hp0 hcp hct HW1 v1 v2 v3
      obtain ⟨_, _, e9, _, _, hcm1, _⟩ := SE1.out.row (i := 0) (by omega) rfl hx
      simp only [Value.slice.injEq, Option.some.injEq, Addr.mk.injEq, and_true, true_and] at e9
      obtain ⟨rfl, rfl⟩ := e9
      obtain ⟨_, _, e9, _, _, hcy1, hfp1, _, hgpr1⟩ := SE1.out.row (i := 2) (by omega) rfl hyn
      simp only [Value.slice.injEq, Option.some.injEq, Addr.mk.injEq, and_true, true_and] at e9
      obtain ⟨rfl, rfl⟩ := e9
      have e3 : W1.drew.cell? ⟨p, 3, none⟩ = some (.slice (some ⟨gp, 0, none⟩) n cp) := SE1.out.cell 3
      have e1 : W1.drew.cell? ⟨p, 1, none⟩ = some (.slice (some ⟨gm, 0, none⟩) n cm) := SE1.out.cell 1
      have em : W1.drew.cell? ⟨gm, x, none⟩ = some (.int .i64 t0) := by rw [← HMX.out]; exact hcm1
      have hfp2 : W1.drew.frozen? ⟨gp, y, none⟩ = false := hfp1
      refine wp_region_noPanic ?_
      refine wp_region_held_drew (S := fun W => W.cell? ⟨p, 3, none⟩ = some (.slice (some ⟨gp, 0, none⟩) n cp) ∧ W.cell? ⟨p, 1, none⟩ = some (.slice (some ⟨gm, 0, none⟩) n cm) ∧ W.cell? ⟨gm, x, none⟩ = some (.int .i64 t0)) (by kernel_rfl) ⟨e3, e1, em⟩ (fun hHeld => ?_)
      refine wpAnyH_take (i := 0) (v := ?_) (by simp only [List.getElem?_toArray, List.getElem?_cons_zero]; rfl) (by kernel_rfl) (by kernel_rfl) (by kernel_rfl) (fun _ _ _ h => h) (Or.inl ⟨by rfl, ?_⟩) (by assumption) ?_
      rotate_left 1
      · intro w hSw; (try dsimp only at hSw); go_simp; (try with_reducible rfl)
      try simp only [Act.put, List.setIfInBounds_toArray, List.set_cons_zero, List.set_cons_succ]
      refine wpAnyH_take (i := 1) (v := ?_) (by simp only [List.getElem?_toArray, List.getElem?_cons_succ, List.getElem?_cons_zero]; rfl) (by kernel_rfl) (by kernel_rfl) (by kernel_rfl) (fun _ _ _ h => h) (Or.inl ⟨by rfl, ?_⟩) (by assumption) ?_
      rotate_left 1
      · intro w hSw; (try dsimp only at hSw); go_simp; (try with_reducible rfl)
      try simp only [Act.put, List.setIfInBounds_toArray, List.set_cons_zero, List.set_cons_succ]
      refine wpAnyH_take (i := 2) (v := ?_) (by simp only [List.getElem?_toArray, List.getElem?_cons_succ, List.getElem?_cons_zero]; rfl) (by kernel_rfl) (by kernel_rfl) (by kernel_rfl) (fun _ _ _ h => h) (Or.inl ⟨by rfl, ?_⟩) (by assumption) ?_
      rotate_left 1
      · intro w hSw; (try dsimp only at hSw); go_simp; (try with_reducible rfl)
      try simp only [Act.put, List.setIfInBounds_toArray, List.set_cons_zero, List.set_cons_succ]
      refine wpAnyH_take (i := 3) (v := ?_) (by simp only [List.getElem?_toArray, List.getElem?_cons_succ, List.getElem?_cons_zero]; rfl) (by kernel_rfl) (by kernel_rfl) (by kernel_rfl) (fun _ _ _ h => h) (Or.inl ⟨by rfl, ?_⟩) (by assumption) ?_
      rotate_left 1
      · intro w hSw; (try dsimp only at hSw); go_simp; (try with_reducible rfl)
      try simp only [Act.put, List.setIfInBounds_toArray, List.set_cons_zero, List.set_cons_succ]
      refine wpAnyH_take (i := 4) (v := ?_) (by simp only [List.getElem?_toArray, List.getElem?_cons_succ, List.getElem?_cons_zero]; rfl) (by kernel_rfl) (by kernel_rfl) (by kernel_rfl) (fun _ _ _ h => h) (Or.inl ⟨by rfl, ?_⟩) (by assumption) ?_
      rotate_left 1
      · intro w hSw; (try dsimp only at hSw); go_simp; (try with_reducible rfl)
      try simp only [Act.put, List.setIfInBounds_toArray, List.set_cons_zero, List.set_cons_succ]
      refine wpAnyH_take (i := 5) (v := ?_) (by simp only [List.getElem?_toArray, List.getElem?_cons_succ, List.getElem?_cons_zero]; rfl) (by kernel_rfl) (by kernel_rfl) (by kernel_rfl) (fun _ _ _ h => h) (Or.inl ⟨by rfl, ?_⟩) (by assumption) ?_
      rotate_left 1
      · intro w hSw; (try dsimp only at hSw); go_simp; (try with_reducible rfl)
      try simp only [Act.put, List.setIfInBounds_toArray, List.set_cons_zero, List.set_cons_succ]
      refine wpAnyH_take (i := 6) (v := ?_) (by simp only [List.getElem?_toArray, List.getElem?_cons_succ, List.getElem?_cons_zero]; rfl) (by kernel_rfl) (by kernel_rfl) (by kernel_rfl) (fun _ _ _ h => h) (Or.inl ⟨by rfl, ?_⟩) (by assumption) ?_
      rotate_left 1
      · intro w hSw; (try dsimp only at hSw); go_simp; (try with_reducible rfl)
      try simp only [Act.put, List.setIfInBounds_toArray, List.set_cons_zero, List.set_cons_succ]
      refine wpAnyH_take (i := 7) (v := ?_) (by simp only [List.getElem?_toArray, List.getElem?_cons_succ, List.getElem?_cons_zero]; rfl) (by kernel_rfl) (by kernel_rfl) (by kernel_rfl) (fun _ _ _ h => h) (Or.inl ⟨by rfl, ?_⟩) (by assumption) ?_
      rotate_left 1
      · intro w hSw; (try dsimp only at hSw); go_simp; (try with_reducible rfl)
      try simp only [Act.put, List.setIfInBounds_toArray, List.set_cons_zero, List.set_cons_succ]
      refine wpAnyH_take (i := 8) (v := ?_) (by simp only [List.getElem?_toArray, List.getElem?_cons_succ, List.getElem?_cons_zero]; rfl) (by kernel_rfl) (by kernel_rfl) (by kernel_rfl) (fun _ _ _ h => h) (Or.inl ⟨by rfl, ?_⟩) (by assumption) ?_
      rotate_left 1
      · intro w hSw; (try dsimp only at hSw); go_simp; (try with_reducible rfl)
      try simp only [Act.put, List.setIfInBounds_toArray, List.set_cons_zero, List.set_cons_succ]
      refine wpAnyH_take (i := 9) (v := ?_) (by simp only [List.getElem?_toArray, List.getElem?_cons_succ, List.getElem?_cons_zero]; rfl) (by kernel_rfl) (by kernel_rfl) (by kernel_rfl) (fun _ _ _ h => h) (Or.inl ⟨by rfl, ?_⟩) (by assumption) ?_
      rotate_left 1
      · intro w hSw; (try dsimp only at hSw); go_simp; (try with_reducible rfl)
      try simp only [Act.put, List.setIfInBounds_toArray, List.set_cons_zero, List.set_cons_succ]
      refine wpAnyH_take (i := 10) (v := .pointer (some ⟨gm, x, none⟩)) (by simp only [List.getElem?_toArray, List.getElem?_cons_succ, List.getElem?_cons_zero]; rfl) (by kernel_rfl) (by kernel_rfl) (by kernel_rfl) (fun _ _ _ h => h) (Or.inl ⟨by rfl, ?_⟩) (by assumption) ?_
      · intro w hSw; (try dsimp only at hSw); (try go_simp); ((try rw [if_pos (by omega)]); (try simp); (try (intro h9; omega)))
      try simp only [Act.put, List.setIfInBounds_toArray, List.set_cons_zero, List.set_cons_succ]
      refine wpAnyH_take (i := 11) (v := ?_) (by simp only [List.getElem?_toArray, List.getElem?_cons_succ, List.getElem?_cons_zero]; rfl) (by kernel_rfl) (by kernel_rfl) (by kernel_rfl) (fun _ _ _ h => h) (Or.inl ⟨by rfl, ?_⟩) (by assumption) ?_
      rotate_left 1
      · intro w hSw; (try dsimp only at hSw); go_simp; (try with_reducible rfl)
      try simp only [Act.put, List.setIfInBounds_toArray, List.set_cons_zero, List.set_cons_succ]
      refine wpAnyH_take (i := 12) (v := .pointer (some ⟨gp, y, none⟩)) (by simp only [List.getElem?_toArray, List.getElem?_cons_succ, List.getElem?_cons_zero]; rfl) (by kernel_rfl) (by kernel_rfl) (by kernel_rfl) (fun _ _ _ h => h) (Or.inl ⟨by rfl, ?_⟩) (by assumption) ?_
      · intro w hSw; (try dsimp only at hSw); (try go_simp); ((try rw [if_pos (by omega)]); (try simp); (try (intro h9; omega)))
      try simp only [Act.put, List.setIfInBounds_toArray, List.set_cons_zero, List.set_cons_succ]
      refine wpAnyH_ready (rs := [13]) (by kernel_rfl) (by simp) ?_
      refine AllReadyH.cons (by simp only [List.getElem?_toArray, List.getElem?_cons_succ, List.getElem?_cons_zero]; rfl) (fun K hK => ?_) AllReadyH.nil
      go_simp
      clear hHeld
      refine hK.out _ _ ⟨(World.cell?_setCell_far _ _ _ _ (Ne.symm hn2)).trans e3, (World.cell?_setCell_far _ _ _ _ (Ne.symm hn2)).trans e1, (World.cell?_setCell_far _ _ _ _ (Ne.symm hn3)).trans em⟩ (fun hHeld => ?_)
      clear hK K
      try simp only [Act.put, List.setIfInBounds_toArray, List.set_cons_zero, List.set_cons_succ]
      refine wpAnyH_done (by kernel_rfl) ?_ _
      refine NoPanic.normal ?_
      obtain ⟨W2, hW2⟩ : ∃ W2, W2 = (W1.setCell ⟨gp, y, none⟩ (.int .i64 t0)).drew := ⟨_, rfl⟩
      rw [← hW2]
      have SE2 : Hid (Se w W2 p gv n ⟨s.met, s.reached, upd s.part y t0, s.way, pre', s.out⟩ (.slice (some ⟨gm, 0, none⟩) n cm) rv (.slice (some ⟨gp, 0, none⟩) n cp) wv (.slice (some ⟨gt, 0, none⟩) pre'.length ct) (.slice so s.out.length co) rs) := by
        rw [hW2]
        exact (SE1.out.setPart rfl hgp _ hgpr1).on (Below.refl _ _).drew
      have c2 := SE2.out.cell
      have hp2 := SE2.out.size
      clear hW2 e3 e1 em hfp1 hfp2 hgpr1 hcm1 hHeld hcy1
      go_wp2_with (first
        | (rw [← HW4.out])
        | (at_builtin; refine fam_app rfl _ _ rfl SE2.out.fam SE2.out.below 4 _ rfl (y : Int) 3 _ rfl rfl rfl (by show s.out.length ≤ 1099511627776; omega) ?_; intro sx cx w3 hF3 hB3 hk3; have hbx3 := hk3 p _ _ _ SE2.out.box (by decide); have c3 := fun j => cell_row hbx3 j; have f3 := fun j => unfrozen_row hbx3 j; have hb3 := (Array.getElem?_eq_some_iff.1 hbx3).1; obtain ⟨W4, hW4⟩ : ∃ W4, W4 = w3.setCell ⟨p, 6, none⟩ (.slice sx (s.out.length + 1) cx) := ⟨_, rfl⟩; have SE4 : Hid (Se w W4 p gv n (s.pop pre' y t0) (.slice (some ⟨gm, 0, none⟩) n cm) rv (.slice (some ⟨gp, 0, none⟩) n cp) wv (.slice (some ⟨gt, 0, none⟩) pre'.length ct) (.slice sx (s.out.length + 1) cx) rs) := (by rw [hW4]; refine SE2.out.outs (ot := s.out ++ [y]) ?_ hB3 hk3; rw [← places_snoc, List.length_append, List.length_singleton]; exact hF3); have HW4 := hid hW4; clear hF3 hB3 hk3 hbx3 hW4))
      go_roundg k
      case measure => omega
      case rel => exact ⟨_, _, _, MD.out, SE4.out⟩
    | zero =>
      have hlast := hmid.last
      rw [hlast] at hs
      have SE := hid hs
      have c0 := hs.cell
      have hp0 := hs.size
      obtain ⟨_, _, e9, _, hgpW, hcp, _⟩ := hs.row (i := 2) (by omega) rfl hx
      simp only [Value.slice.injEq, Option.some.injEq, Addr.mk.injEq, and_true, true_and] at e9
      obtain ⟨rfl, rfl⟩ := e9
      have hcp2 : wr.cell? ⟨gp, x, none⟩ = some (.int .i64 t0) := by
        rw [hcp]
        simp [Ps.comeOut, HT0.out]
      have hmb : (t0 == 0) = false := beq_eq_false_iff_ne.2 HM.out
      clear hs hcp hlast hmid
      go_wp2
      exact bodyPost_end (results_none rfl _ _ _) rfl ⟨⟨_, rfl⟩, _, _, SE.out⟩
end Go.Proofs.YtfmmmhcpdinhgabDoor
