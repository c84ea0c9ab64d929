import Derived.Test.YtfmmmhcpdinhgaaDoorZ12
/-
  The search of the program: made; of all lines.
-/
namespace Go.Proofs.YtfmmmhcpdinhgaaDoor
open Go.RowKit Go.Deep PureNet ShfKit
set_option maxRecDepth 100000

def s0 : Ps := ⟨fun _ => 0, fun _ => 0, fun _ => 0, [], [], []⟩
theorem zero_row {X : World} {B b n : Nat} (hB : B ≤ b) (hn : n ≤ 65536) (hb : X.heap[b]? = some (.cells (madeCells #[.int .i64 0] n) 3 (0, 0))) : X.ownsRow B 3 1 (.slice (some ⟨b, 0, none⟩) n n) n (rowF n fun _ => 0) := by
  refine ⟨by rw [rowF_len, Nat.mul_one], .inr ⟨b, n, _, rfl, hB, hb, Nat.le_refl _, by unfold maxLen; omega, by rw [size_madeCells, Nat.mul_one], ?_⟩⟩
  rw [Nat.mul_one, toList_madeCells_one, List.take_of_length_le (by simp)]
  apply List.ext_getElem?
  intro k
  by_cases hk : k < n
  · rw [rowF_at n _ k hk]; simp [hk]
  · rw [List.getElem?_eq_none (by simp; omega), List.getElem?_eq_none (by rw [rowF_len]; omega)]
/-- a search that has just been made. -/
theorem Se.new {w X : World} {gv : Value} {n i j k : Nat} (hn : n ≤ 65536) (hi : i < 3) (hj : j < 3) (hk : k < 3) (hij : i ≠ j) (hik : i ≠ k) (hjk : j ≠ k) (hb : Below w.heap.size w X) (hr : ∀ q, q < 3 → X.heap[w.heap.size + q]? = some (.cells (madeCells #[.int .i64 0] n) 3 (0, 0)))
    (hbox : X.heap[w.heap.size + 3]? = some (.cells #[gv, .slice (some ⟨w.heap.size + i, 0, none⟩) n n, .slice (some ⟨w.heap.size + j, 0, none⟩) n n, .slice (some ⟨w.heap.size + k, 0, none⟩) n n, .slice none 0 0, .slice none 0 0, .slice none 0 0] 78 (0, 0))) :
    Se w X (w.heap.size + 3) gv n s0 (.slice (some ⟨w.heap.size + i, 0, none⟩) n n) (.slice (some ⟨w.heap.size + j, 0, none⟩) n n) (.slice (some ⟨w.heap.size + k, 0, none⟩) n n) (.slice none 0 0) (.slice none 0 0) (.slice none 0 0) [] := by
  refine ⟨hb, by omega, hbox, ⟨fun q x hx => ?_, fun a b x y g hx hy hab hg => ?_⟩, World.ownsRow_nil _ _ _ _, rfl, fun q a r ha => by simp [s0] at ha⟩
  · match q, hx with
    | 0, hx => cases hx; exact zero_row (by omega) hn (hr i hi)
    | 1, hx => cases hx; exact zero_row (by omega) hn (hr j hj)
    | 2, hx => cases hx; exact zero_row (by omega) hn (hr k hk)
    | 3, hx => cases hx; exact World.ownsRow_nil _ _ _ _
    | 4, hx => cases hx; exact World.ownsRow_nil _ _ _ _
    | q + 5, hx => simp at hx
  · match a, b, hx, hy with
    | 0, 0, _, _ => omega
    | 0, 1, hx, hy => cases hx; cases hy; cases hg; intro e; simp [Value.ownBlock] at e; omega
    | 0, 2, hx, hy => cases hx; cases hy; cases hg; intro e; simp [Value.ownBlock] at e; omega
    | 1, 0, hx, hy => cases hx; cases hy; cases hg; intro e; simp [Value.ownBlock] at e; omega
    | 1, 1, _, _ => omega
    | 1, 2, hx, hy => cases hx; cases hy; cases hg; intro e; simp [Value.ownBlock] at e; omega
    | 2, 0, hx, hy => cases hx; cases hy; cases hg; intro e; simp [Value.ownBlock] at e; omega
    | 2, 1, hx, hy => cases hx; cases hy; cases hg; intro e; simp [Value.ownBlock] at e; omega
    | 2, 2, _, _ => omega
    | 3, _, hx, _ => cases hx; cases hg
    | 4, _, hx, _ => cases hx; cases hg
    | _, 3, _, hy => cases hy; intro e; cases e
    | _, 4, _, hy => cases hy; intro e; cases e
    | q + 5, _, hx, _ => simp at hx
    | _, q + 5, _, hy => simp at hy

set_option maxHeartbeats 4000000 in
theorem newSearch_any (sg : Option Addr) (cg n : Nat) (w : World) (hfew : n ≤ 65536) :
    Calls Tryd.prog 44 #[.slice sg n cg] w fun e W' => ∃ p mv rv pv, e = .returned (.pointer (some ⟨p, 0, none⟩)) ∧ Se w W' p (.slice sg n cg) n s0 mv rv pv (.slice none 0 0) (.slice none 0 0) (.slice none 0 0) [] := by
  have hmk : ∀ W : World, (Instr.makeSlice 22 (.int .i64 (n : Int)) (.int .i64 (n : Int))).run Tryd.prog W = .ok (.slice (some ⟨W.heap.size, 0, none⟩) n n) (W.alloc (.cells (madeCells #[.int .i64 0] n) 3)) := fun W =>
    run_make_row' (P := Tryd.prog) 22 3 (.int .i64 0) 8 Tryd.underlying22 info3 rfl .i64 .i64 n (by omega) (by omega) W
  have NS : Hid (∀ i j k bi bj bk bp, bi = w.heap.size + i → bj = w.heap.size + j → bk = w.heap.size + k → bp = w.heap.size + 3 → i < 3 → j < 3 → k < 3 → i ≠ j → i ≠ k → j ≠ k → ∃ p mv rv pv, Ending.returned (.pointer (some ⟨bp, 0, none⟩)) = .returned (.pointer (some ⟨p, 0, none⟩)) ∧ Se w ((((w.alloc (.cells (madeCells #[.int .i64 0] n) 3)).alloc (.cells (madeCells #[.int .i64 0] n) 3)).alloc (.cells (madeCells #[.int .i64 0] n) 3)).alloc (.cells #[.slice sg n cg, .slice (some ⟨bi, 0, none⟩) n n, .slice (some ⟨bj, 0, none⟩) n n, .slice (some ⟨bk, 0, none⟩) n n, .slice none 0 0, .slice none 0 0, .slice none 0 0] 78)).drew p (.slice sg n cg) n s0 mv rv pv (.slice none 0 0) (.slice none 0 0) (.slice none 0 0) []) := fun i j k bi bj bk bp e1 e2 e3 e4 hi hj hk hij hik hjk => by
    subst e1 e2 e3 e4
    refine ⟨_, _, _, _, rfl, Se.new hfew hi hj hk hij hik hjk ?_ (fun q hq => ?_) ?_⟩
    · exact (((((Below.refl _ _).alloc (Nat.le_refl _) _).alloc (by simp) _).alloc (by simp; omega) _).alloc (by simp; omega) _).drew
    · match q, hq with
      | 0, _ => exact (((((Below.refl (w.alloc (.cells (madeCells #[.int .i64 0] n) 3)).heap.size _).alloc (Nat.le_refl _) _).alloc (by simp) _).alloc (by simp) _).drew.block _ (by simp)).trans (heap_alloc_new w _)
      | 1, _ =>
        have h5 := (((Below.refl ((w.alloc (.cells (madeCells #[.int .i64 0] n) 3)).alloc (.cells (madeCells #[.int .i64 0] n) 3)).heap.size _).alloc (Nat.le_refl _) (.cells (madeCells #[.int .i64 0] n) 3)).alloc (by simp) (.cells #[.slice sg n cg, .slice (some ⟨w.heap.size + i, 0, none⟩) n n, .slice (some ⟨w.heap.size + j, 0, none⟩) n n, .slice (some ⟨w.heap.size + k, 0, none⟩) n n, .slice none 0 0, .slice none 0 0, .slice none 0 0] 78)).drew.block (w.heap.size + 1) (by simp)
        refine h5.trans ?_
        have h6 := heap_alloc_new (w.alloc (.cells (madeCells #[.int .i64 0] n) 3)) (.cells (madeCells #[.int .i64 0] n) 3)
        rw [show (w.alloc (.cells (madeCells #[.int .i64 0] n) 3)).heap.size = w.heap.size + 1 by simp] at h6
        exact h6
      | 2, _ =>
        have h5 := ((Below.refl (((w.alloc (.cells (madeCells #[.int .i64 0] n) 3)).alloc (.cells (madeCells #[.int .i64 0] n) 3)).alloc (.cells (madeCells #[.int .i64 0] n) 3)).heap.size _).alloc (Nat.le_refl _) (.cells #[.slice sg n cg, .slice (some ⟨w.heap.size + i, 0, none⟩) n n, .slice (some ⟨w.heap.size + j, 0, none⟩) n n, .slice (some ⟨w.heap.size + k, 0, none⟩) n n, .slice none 0 0, .slice none 0 0, .slice none 0 0] 78)).drew.block (w.heap.size + 2) (by simp)
        refine h5.trans ?_
        have h6 := heap_alloc_new ((w.alloc (.cells (madeCells #[.int .i64 0] n) 3)).alloc (.cells (madeCells #[.int .i64 0] n) 3)) (.cells (madeCells #[.int .i64 0] n) 3)
        rw [show ((w.alloc (.cells (madeCells #[.int .i64 0] n) 3)).alloc (.cells (madeCells #[.int .i64 0] n) 3)).heap.size = w.heap.size + 2 by simp] at h6
        exact h6
    · have h6 := heap_alloc_new (((w.alloc (.cells (madeCells #[.int .i64 0] n) 3)).alloc (.cells (madeCells #[.int .i64 0] n) 3)).alloc (.cells (madeCells #[.int .i64 0] n) 3)) (.cells #[.slice sg n cg, .slice (some ⟨w.heap.size + i, 0, none⟩) n n, .slice (some ⟨w.heap.size + j, 0, none⟩) n n, .slice (some ⟨w.heap.size + k, 0, none⟩) n n, .slice none 0 0, .slice none 0 0, .slice none 0 0] 78)
      rw [show (((w.alloc (.cells (madeCells #[.int .i64 0] n) 3)).alloc (.cells (madeCells #[.int .i64 0] n) 3)).alloc (.cells (madeCells #[.int .i64 0] n) 3)).heap.size = w.heap.size + 3 by simp] at h6
      exact h6
  go_enter Tryd.func44, Tryd.ntmps44
  go_wp2
  refine wp_region_noPanic ?_
  refine wp_region_held_drew (S := fun _ => True) (by kernel_rfl) trivial (fun hHeld => ?_)
  refine wpAnyH_take (i := 0) (v := ?_) (by simp only [List.getElem?_toArray, List.getElem?_cons_zero]; rfl) (by kernel_rfl) (by kernel_rfl) (by kernel_rfl) (fun _ _ _ h => h) (Or.inl ⟨by rfl, ?_⟩) (by assumption) ?_
  rotate_left 1
  · intro w hSw; (try dsimp only at hSw); go_simp; (try with_reducible rfl)
  try simp only [Act.put, List.setIfInBounds_toArray, List.set_cons_zero, List.set_cons_succ]
  refine wpAnyH_take (i := 1) (v := ?_) (by simp only [List.getElem?_toArray, List.getElem?_cons_succ, List.getElem?_cons_zero]; rfl) (by kernel_rfl) (by kernel_rfl) (by kernel_rfl) (fun _ _ _ h => h) (Or.inl ⟨by rfl, ?_⟩) (by assumption) ?_
  rotate_left 1
  · intro w hSw; (try dsimp only at hSw); go_simp; (try with_reducible rfl)
  try simp only [Act.put, List.setIfInBounds_toArray, List.set_cons_zero, List.set_cons_succ]
  refine wpAnyH_take (i := 2) (v := ?_) (by simp only [List.getElem?_toArray, List.getElem?_cons_succ, List.getElem?_cons_zero]; rfl) (by kernel_rfl) (by kernel_rfl) (by kernel_rfl) (fun _ _ _ h => h) (Or.inl ⟨by rfl, ?_⟩) (by assumption) ?_
  rotate_left 1
  · intro w hSw; (try dsimp only at hSw); go_simp; (try with_reducible rfl)
  try simp only [Act.put, List.setIfInBounds_toArray, List.set_cons_zero, List.set_cons_succ]
  refine wpAnyH_take (i := 4) (v := ?_) (by simp only [List.getElem?_toArray, List.getElem?_cons_succ, List.getElem?_cons_zero]; rfl) (by kernel_rfl) (by kernel_rfl) (by kernel_rfl) (fun _ _ _ h => h) (Or.inl ⟨by rfl, ?_⟩) (by assumption) ?_
  rotate_left 1
  · intro w hSw; (try dsimp only at hSw); go_simp; (try with_reducible rfl)
  try simp only [Act.put, List.setIfInBounds_toArray, List.set_cons_zero, List.set_cons_succ]
  refine wpAnyH_take (i := 5) (v := ?_) (by simp only [List.getElem?_toArray, List.getElem?_cons_succ, List.getElem?_cons_zero]; rfl) (by kernel_rfl) (by kernel_rfl) (by kernel_rfl) (fun _ _ _ h => h) (Or.inl ⟨by rfl, ?_⟩) (by assumption) ?_
  rotate_left 1
  · intro w hSw; (try dsimp only at hSw); go_simp; (try with_reducible rfl)
  try simp only [Act.put, List.setIfInBounds_toArray, List.set_cons_zero, List.set_cons_succ]
  refine wpAnyH_take (i := 7) (v := ?_) (by simp only [List.getElem?_toArray, List.getElem?_cons_succ, List.getElem?_cons_zero]; rfl) (by kernel_rfl) (by kernel_rfl) (by kernel_rfl) (fun _ _ _ h => h) (Or.inl ⟨by rfl, ?_⟩) (by assumption) ?_
  rotate_left 1
  · intro w hSw; (try dsimp only at hSw); go_simp; (try with_reducible rfl)
  try simp only [Act.put, List.setIfInBounds_toArray, List.set_cons_zero, List.set_cons_succ]
  refine wpAnyH_take (i := 8) (v := ?_) (by simp only [List.getElem?_toArray, List.getElem?_cons_succ, List.getElem?_cons_zero]; rfl) (by kernel_rfl) (by kernel_rfl) (by kernel_rfl) (fun _ _ _ h => h) (Or.inl ⟨by rfl, ?_⟩) (by assumption) ?_
  rotate_left 1
  · intro w hSw; (try dsimp only at hSw); go_simp; (try with_reducible rfl)
  try simp only [Act.put, List.setIfInBounds_toArray, List.set_cons_zero, List.set_cons_succ]
  refine wpAnyH_ready (rs := [3, 6, 9]) (by kernel_rfl) (by simp) ?_
  refine AllReadyH.cons (by simp only [List.getElem?_toArray, List.getElem?_cons_succ, List.getElem?_cons_zero]; rfl) (fun K hK => ?_) (AllReadyH.cons (by simp only [List.getElem?_toArray, List.getElem?_cons_succ, List.getElem?_cons_zero]; rfl) (fun K hK => ?_) (AllReadyH.cons (by simp only [List.getElem?_toArray, List.getElem?_cons_succ, List.getElem?_cons_zero]; rfl) (fun K hK => ?_) AllReadyH.nil))
  · go_simp
    clear hHeld
    refine hK.out _ _ trivial (fun hHeld => ?_)
    clear hK K
    try simp only [Act.put, List.setIfInBounds_toArray, List.set_cons_zero, List.set_cons_succ]
    refine wpAnyH_ready (rs := [6, 9]) (by kernel_rfl) (by simp) ?_
    refine AllReadyH.cons (by simp only [List.getElem?_toArray, List.getElem?_cons_succ, List.getElem?_cons_zero]; rfl) (fun K hK => ?_) (AllReadyH.cons (by simp only [List.getElem?_toArray, List.getElem?_cons_succ, List.getElem?_cons_zero]; rfl) (fun K hK => ?_) AllReadyH.nil)
    · go_simp
      clear hHeld
      refine hK.out _ _ trivial (fun hHeld => ?_)
      clear hK K
      try simp only [Act.put, List.setIfInBounds_toArray, List.set_cons_zero, List.set_cons_succ]
      refine wpAnyH_ready (rs := [9]) (by kernel_rfl) (by simp) ?_
      refine AllReadyH.cons (by simp only [List.getElem?_toArray, List.getElem?_cons_succ, List.getElem?_cons_zero]; rfl) (fun K hK => ?_) AllReadyH.nil
      go_simp
      clear hHeld
      refine hK.out _ _ trivial (fun hHeld => ?_)
      clear hK K
      try simp only [Act.put, List.setIfInBounds_toArray, List.set_cons_zero, List.set_cons_succ]
      refine wpAnyH_take (i := 10) (v := ?_) (by simp only [List.getElem?_toArray, List.getElem?_cons_succ, List.getElem?_cons_zero]; rfl) (by kernel_rfl) (by kernel_rfl) (by kernel_rfl) (fun _ _ _ h => h) (Or.inl ⟨by rfl, ?_⟩) (by assumption) ?_
      rotate_left 1
      · intro w hSw; (try dsimp only at hSw); go_simp; (try with_reducible rfl)
      try simp only [Act.put, List.setIfInBounds_toArray, List.set_cons_zero, List.set_cons_succ]
      refine wpAnyH_ready (rs := [11]) (by kernel_rfl) (by simp) ?_
      refine AllReadyH.cons (by simp only [List.getElem?_toArray, List.getElem?_cons_succ, List.getElem?_cons_zero]; rfl) (fun K hK => ?_) AllReadyH.nil
      go_simp
      clear hHeld
      refine hK.out _ _ trivial (fun hHeld => ?_)
      clear hK K
      try simp only [Act.put, List.setIfInBounds_toArray, List.set_cons_zero, List.set_cons_succ]
      refine wpAnyH_take (i := 12) (v := ?_) (by simp only [List.getElem?_toArray, List.getElem?_cons_succ, List.getElem?_cons_zero]; rfl) (by kernel_rfl) (by kernel_rfl) (by kernel_rfl) (fun _ _ _ h => h) (Or.inl ⟨by rfl, ?_⟩) (by assumption) ?_
      rotate_left 1
      · intro w hSw; (try dsimp only at hSw); go_simp; (try with_reducible rfl)
      try simp only [Act.put, List.setIfInBounds_toArray, List.set_cons_zero, List.set_cons_succ]
      refine wpAnyH_done (by kernel_rfl) ?_ _
      refine NoPanic.normal ?_
      go_wp2
      exact bodyPost_ret (v := .pointer (some ⟨_, 0, none⟩)) (by simp [results, Tryd.results44, go_sem]; rfl) rfl (NS.out 0 1 2 _ _ _ _ (by omega) (by omega) (by omega) (by omega) (by omega) (by omega) (by omega) (by omega) (by omega) (by omega))
    · go_simp
      clear hHeld
      refine hK.out _ _ trivial (fun hHeld => ?_)
      clear hK K
      try simp only [Act.put, List.setIfInBounds_toArray, List.set_cons_zero, List.set_cons_succ]
      refine wpAnyH_ready (rs := [6]) (by kernel_rfl) (by simp) ?_
      refine AllReadyH.cons (by simp only [List.getElem?_toArray, List.getElem?_cons_succ, List.getElem?_cons_zero]; rfl) (fun K hK => ?_) AllReadyH.nil
      go_simp
      clear hHeld
      refine hK.out _ _ trivial (fun hHeld => ?_)
      clear hK K
      try simp only [Act.put, List.setIfInBounds_toArray, List.set_cons_zero, List.set_cons_succ]
      refine wpAnyH_take (i := 10) (v := ?_) (by simp only [List.getElem?_toArray, List.getElem?_cons_succ, List.getElem?_cons_zero]; rfl) (by kernel_rfl) (by kernel_rfl) (by kernel_rfl) (fun _ _ _ h => h) (Or.inl ⟨by rfl, ?_⟩) (by assumption) ?_
      rotate_left 1
      · intro w hSw; (try dsimp only at hSw); go_simp; (try with_reducible rfl)
      try simp only [Act.put, List.setIfInBounds_toArray, List.set_cons_zero, List.set_cons_succ]
      refine wpAnyH_ready (rs := [11]) (by kernel_rfl) (by simp) ?_
      refine AllReadyH.cons (by simp only [List.getElem?_toArray, List.getElem?_cons_succ, List.getElem?_cons_zero]; rfl) (fun K hK => ?_) AllReadyH.nil
      go_simp
      clear hHeld
      refine hK.out _ _ trivial (fun hHeld => ?_)
      clear hK K
      try simp only [Act.put, List.setIfInBounds_toArray, List.set_cons_zero, List.set_cons_succ]
      refine wpAnyH_take (i := 12) (v := ?_) (by simp only [List.getElem?_toArray, List.getElem?_cons_succ, List.getElem?_cons_zero]; rfl) (by kernel_rfl) (by kernel_rfl) (by kernel_rfl) (fun _ _ _ h => h) (Or.inl ⟨by rfl, ?_⟩) (by assumption) ?_
      rotate_left 1
      · intro w hSw; (try dsimp only at hSw); go_simp; (try with_reducible rfl)
      try simp only [Act.put, List.setIfInBounds_toArray, List.set_cons_zero, List.set_cons_succ]
      refine wpAnyH_done (by kernel_rfl) ?_ _
      refine NoPanic.normal ?_
      go_wp2
      exact bodyPost_ret (v := .pointer (some ⟨_, 0, none⟩)) (by simp [results, Tryd.results44, go_sem]; rfl) rfl (NS.out 0 2 1 _ _ _ _ (by omega) (by omega) (by omega) (by omega) (by omega) (by omega) (by omega) (by omega) (by omega) (by omega))
  · go_simp
    clear hHeld
    refine hK.out _ _ trivial (fun hHeld => ?_)
    clear hK K
    try simp only [Act.put, List.setIfInBounds_toArray, List.set_cons_zero, List.set_cons_succ]
    refine wpAnyH_ready (rs := [3, 9]) (by kernel_rfl) (by simp) ?_
    refine AllReadyH.cons (by simp only [List.getElem?_toArray, List.getElem?_cons_succ, List.getElem?_cons_zero]; rfl) (fun K hK => ?_) (AllReadyH.cons (by simp only [List.getElem?_toArray, List.getElem?_cons_succ, List.getElem?_cons_zero]; rfl) (fun K hK => ?_) AllReadyH.nil)
    · go_simp
      clear hHeld
      refine hK.out _ _ trivial (fun hHeld => ?_)
      clear hK K
      try simp only [Act.put, List.setIfInBounds_toArray, List.set_cons_zero, List.set_cons_succ]
      refine wpAnyH_ready (rs := [9]) (by kernel_rfl) (by simp) ?_
      refine AllReadyH.cons (by simp only [List.getElem?_toArray, List.getElem?_cons_succ, List.getElem?_cons_zero]; rfl) (fun K hK => ?_) AllReadyH.nil
      go_simp
      clear hHeld
      refine hK.out _ _ trivial (fun hHeld => ?_)
      clear hK K
      try simp only [Act.put, List.setIfInBounds_toArray, List.set_cons_zero, List.set_cons_succ]
      refine wpAnyH_take (i := 10) (v := ?_) (by simp only [List.getElem?_toArray, List.getElem?_cons_succ, List.getElem?_cons_zero]; rfl) (by kernel_rfl) (by kernel_rfl) (by kernel_rfl) (fun _ _ _ h => h) (Or.inl ⟨by rfl, ?_⟩) (by assumption) ?_
      rotate_left 1
      · intro w hSw; (try dsimp only at hSw); go_simp; (try with_reducible rfl)
      try simp only [Act.put, List.setIfInBounds_toArray, List.set_cons_zero, List.set_cons_succ]
      refine wpAnyH_ready (rs := [11]) (by kernel_rfl) (by simp) ?_
      refine AllReadyH.cons (by simp only [List.getElem?_toArray, List.getElem?_cons_succ, List.getElem?_cons_zero]; rfl) (fun K hK => ?_) AllReadyH.nil
      go_simp
      clear hHeld
      refine hK.out _ _ trivial (fun hHeld => ?_)
      clear hK K
      try simp only [Act.put, List.setIfInBounds_toArray, List.set_cons_zero, List.set_cons_succ]
      refine wpAnyH_take (i := 12) (v := ?_) (by simp only [List.getElem?_toArray, List.getElem?_cons_succ, List.getElem?_cons_zero]; rfl) (by kernel_rfl) (by kernel_rfl) (by kernel_rfl) (fun _ _ _ h => h) (Or.inl ⟨by rfl, ?_⟩) (by assumption) ?_
      rotate_left 1
      · intro w hSw; (try dsimp only at hSw); go_simp; (try with_reducible rfl)
      try simp only [Act.put, List.setIfInBounds_toArray, List.set_cons_zero, List.set_cons_succ]
      refine wpAnyH_done (by kernel_rfl) ?_ _
      refine NoPanic.normal ?_
      go_wp2
      exact bodyPost_ret (v := .pointer (some ⟨_, 0, none⟩)) (by simp [results, Tryd.results44, go_sem]; rfl) rfl (NS.out 1 0 2 _ _ _ _ (by omega) (by omega) (by omega) (by omega) (by omega) (by omega) (by omega) (by omega) (by omega) (by omega))
    · go_simp
      clear hHeld
      refine hK.out _ _ trivial (fun hHeld => ?_)
      clear hK K
      try simp only [Act.put, List.setIfInBounds_toArray, List.set_cons_zero, List.set_cons_succ]
      refine wpAnyH_ready (rs := [3]) (by kernel_rfl) (by simp) ?_
      refine AllReadyH.cons (by simp only [List.getElem?_toArray, List.getElem?_cons_succ, List.getElem?_cons_zero]; rfl) (fun K hK => ?_) AllReadyH.nil
      go_simp
      clear hHeld
      refine hK.out _ _ trivial (fun hHeld => ?_)
      clear hK K
      try simp only [Act.put, List.setIfInBounds_toArray, List.set_cons_zero, List.set_cons_succ]
      refine wpAnyH_take (i := 10) (v := ?_) (by simp only [List.getElem?_toArray, List.getElem?_cons_succ, List.getElem?_cons_zero]; rfl) (by kernel_rfl) (by kernel_rfl) (by kernel_rfl) (fun _ _ _ h => h) (Or.inl ⟨by rfl, ?_⟩) (by assumption) ?_
      rotate_left 1
      · intro w hSw; (try dsimp only at hSw); go_simp; (try with_reducible rfl)
      try simp only [Act.put, List.setIfInBounds_toArray, List.set_cons_zero, List.set_cons_succ]
      refine wpAnyH_ready (rs := [11]) (by kernel_rfl) (by simp) ?_
      refine AllReadyH.cons (by simp only [List.getElem?_toArray, List.getElem?_cons_succ, List.getElem?_cons_zero]; rfl) (fun K hK => ?_) AllReadyH.nil
      go_simp
      clear hHeld
      refine hK.out _ _ trivial (fun hHeld => ?_)
      clear hK K
      try simp only [Act.put, List.setIfInBounds_toArray, List.set_cons_zero, List.set_cons_succ]
      refine wpAnyH_take (i := 12) (v := ?_) (by simp only [List.getElem?_toArray, List.getElem?_cons_succ, List.getElem?_cons_zero]; rfl) (by kernel_rfl) (by kernel_rfl) (by kernel_rfl) (fun _ _ _ h => h) (Or.inl ⟨by rfl, ?_⟩) (by assumption) ?_
      rotate_left 1
      · intro w hSw; (try dsimp only at hSw); go_simp; (try with_reducible rfl)
      try simp only [Act.put, List.setIfInBounds_toArray, List.set_cons_zero, List.set_cons_succ]
      refine wpAnyH_done (by kernel_rfl) ?_ _
      refine NoPanic.normal ?_
      go_wp2
      exact bodyPost_ret (v := .pointer (some ⟨_, 0, none⟩)) (by simp [results, Tryd.results44, go_sem]; rfl) rfl (NS.out 2 0 1 _ _ _ _ (by omega) (by omega) (by omega) (by omega) (by omega) (by omega) (by omega) (by omega) (by omega) (by omega))
  · go_simp
    clear hHeld
    refine hK.out _ _ trivial (fun hHeld => ?_)
    clear hK K
    try simp only [Act.put, List.setIfInBounds_toArray, List.set_cons_zero, List.set_cons_succ]
    refine wpAnyH_ready (rs := [3, 6]) (by kernel_rfl) (by simp) ?_
    refine AllReadyH.cons (by simp only [List.getElem?_toArray, List.getElem?_cons_succ, List.getElem?_cons_zero]; rfl) (fun K hK => ?_) (AllReadyH.cons (by simp only [List.getElem?_toArray, List.getElem?_cons_succ, List.getElem?_cons_zero]; rfl) (fun K hK => ?_) AllReadyH.nil)
    · go_simp
      clear hHeld
      refine hK.out _ _ trivial (fun hHeld => ?_)
      clear hK K
      try simp only [Act.put, List.setIfInBounds_toArray, List.set_cons_zero, List.set_cons_succ]
      refine wpAnyH_ready (rs := [6]) (by kernel_rfl) (by simp) ?_
      refine AllReadyH.cons (by simp only [List.getElem?_toArray, List.getElem?_cons_succ, List.getElem?_cons_zero]; rfl) (fun K hK => ?_) AllReadyH.nil
      go_simp
      clear hHeld
      refine hK.out _ _ trivial (fun hHeld => ?_)
      clear hK K
      try simp only [Act.put, List.setIfInBounds_toArray, List.set_cons_zero, List.set_cons_succ]
      refine wpAnyH_take (i := 10) (v := ?_) (by simp only [List.getElem?_toArray, List.getElem?_cons_succ, List.getElem?_cons_zero]; rfl) (by kernel_rfl) (by kernel_rfl) (by kernel_rfl) (fun _ _ _ h => h) (Or.inl ⟨by rfl, ?_⟩) (by assumption) ?_
      rotate_left 1
      · intro w hSw; (try dsimp only at hSw); go_simp; (try with_reducible rfl)
      try simp only [Act.put, List.setIfInBounds_toArray, List.set_cons_zero, List.set_cons_succ]
      refine wpAnyH_ready (rs := [11]) (by kernel_rfl) (by simp) ?_
      refine AllReadyH.cons (by simp only [List.getElem?_toArray, List.getElem?_cons_succ, List.getElem?_cons_zero]; rfl) (fun K hK => ?_) AllReadyH.nil
      go_simp
      clear hHeld
      refine hK.out _ _ trivial (fun hHeld => ?_)
      clear hK K
      try simp only [Act.put, List.setIfInBounds_toArray, List.set_cons_zero, List.set_cons_succ]
      refine wpAnyH_take (i := 12) (v := ?_) (by simp only [List.getElem?_toArray, List.getElem?_cons_succ, List.getElem?_cons_zero]; rfl) (by kernel_rfl) (by kernel_rfl) (by kernel_rfl) (fun _ _ _ h => h) (Or.inl ⟨by rfl, ?_⟩) (by assumption) ?_
      rotate_left 1
      · intro w hSw; (try dsimp only at hSw); go_simp; (try with_reducible rfl)
      try simp only [Act.put, List.setIfInBounds_toArray, List.set_cons_zero, List.set_cons_succ]
      refine wpAnyH_done (by kernel_rfl) ?_ _
      refine NoPanic.normal ?_
      go_wp2
      exact bodyPost_ret (v := .pointer (some ⟨_, 0, none⟩)) (by simp [results, Tryd.results44, go_sem]; rfl) rfl (NS.out 1 2 0 _ _ _ _ (by omega) (by omega) (by omega) (by omega) (by omega) (by omega) (by omega) (by omega) (by omega) (by omega))
    · go_simp
      clear hHeld
      refine hK.out _ _ trivial (fun hHeld => ?_)
      clear hK K
      try simp only [Act.put, List.setIfInBounds_toArray, List.set_cons_zero, List.set_cons_succ]
      refine wpAnyH_ready (rs := [3]) (by kernel_rfl) (by simp) ?_
      refine AllReadyH.cons (by simp only [List.getElem?_toArray, List.getElem?_cons_succ, List.getElem?_cons_zero]; rfl) (fun K hK => ?_) AllReadyH.nil
      go_simp
      clear hHeld
      refine hK.out _ _ trivial (fun hHeld => ?_)
      clear hK K
      try simp only [Act.put, List.setIfInBounds_toArray, List.set_cons_zero, List.set_cons_succ]
      refine wpAnyH_take (i := 10) (v := ?_) (by simp only [List.getElem?_toArray, List.getElem?_cons_succ, List.getElem?_cons_zero]; rfl) (by kernel_rfl) (by kernel_rfl) (by kernel_rfl) (fun _ _ _ h => h) (Or.inl ⟨by rfl, ?_⟩) (by assumption) ?_
      rotate_left 1
      · intro w hSw; (try dsimp only at hSw); go_simp; (try with_reducible rfl)
      try simp only [Act.put, List.setIfInBounds_toArray, List.set_cons_zero, List.set_cons_succ]
      refine wpAnyH_ready (rs := [11]) (by kernel_rfl) (by simp) ?_
      refine AllReadyH.cons (by simp only [List.getElem?_toArray, List.getElem?_cons_succ, List.getElem?_cons_zero]; rfl) (fun K hK => ?_) AllReadyH.nil
      go_simp
      clear hHeld
      refine hK.out _ _ trivial (fun hHeld => ?_)
      clear hK K
      try simp only [Act.put, List.setIfInBounds_toArray, List.set_cons_zero, List.set_cons_succ]
      refine wpAnyH_take (i := 12) (v := ?_) (by simp only [List.getElem?_toArray, List.getElem?_cons_succ, List.getElem?_cons_zero]; rfl) (by kernel_rfl) (by kernel_rfl) (by kernel_rfl) (fun _ _ _ h => h) (Or.inl ⟨by rfl, ?_⟩) (by assumption) ?_
      rotate_left 1
      · intro w hSw; (try dsimp only at hSw); go_simp; (try with_reducible rfl)
      try simp only [Act.put, List.setIfInBounds_toArray, List.set_cons_zero, List.set_cons_succ]
      refine wpAnyH_done (by kernel_rfl) ?_ _
      refine NoPanic.normal ?_
      go_wp2
      exact bodyPost_ret (v := .pointer (some ⟨_, 0, none⟩)) (by simp [results, Tryd.results44, go_sem]; rfl) rfl (NS.out 2 1 0 _ _ _ _ (by omega) (by omega) (by omega) (by omega) (by omega) (by omega) (by omega) (by omega) (by omega) (by omega))
end Go.Proofs.YtfmmmhcpdinhgaaDoor
/-
  The search of the program over all lines; that none is in a circle.
-/
namespace Go.Proofs.YtfmmmhcpdinhgaaDoor
open Go.RowKit Go.Deep PureNet ShfKit
set_option maxRecDepth 100000

end Go.Proofs.YtfmmmhcpdinhgaaDoor
namespace PureNet
open Go.Proofs.YtfmmmhcpdinhgaaDoor
set_option maxRecDepth 100000
theorem Sr.rekeep {l : List Ga} {P : Nat → Prop} {S0 S1 : List Nat} {E : Nat → Prop} {s : Ps} (h : Sr l P S0 E s) (h2 : ∀ x ∈ S1, x ∈ s.out ++ s.way.map Prod.fst) : Sr l P S1 E s :=
  ⟨h.rea, h.wai, h.par, h.nd, h.lt, h.met, h.top, h.inj, h.ord, h.chain, h.left, h.leftL, h.allow, h2⟩
end PureNet
namespace Go.Proofs.YtfmmmhcpdinhgaaDoor
open Go.RowKit Go.Deep PureNet ShfKit
set_option maxRecDepth 100000
end Go.Proofs.YtfmmmhcpdinhgaaDoor
namespace PureNet
open Go.Proofs.YtfmmmhcpdinhgaaDoor
set_option maxRecDepth 100000
theorem Sr.start (l : List Ga) (P : Nat → Prop) : Sr l P [] (fun _ => False) s0 := by
  refine ⟨rfl, rfl, fun y => by simp [s0], by simp [s0], fun x hx => by simp [s0] at hx, fun x => by simp [s0], fun x => by simp [s0], fun x y _ h => by simp [s0] at h, fun i x y h => by simp [s0] at h, fun k a b h => by simp [s0] at h, fun k a h => by simp [s0] at h, fun a h => by simp [s0] at h, fun x hx => by simp [s0] at hx, fun x hx => by simp at hx⟩
end PureNet
namespace Go.Proofs.YtfmmmhcpdinhgaaDoor
open Go.RowKit Go.Deep PureNet ShfKit
set_option maxRecDepth 100000
end Go.Proofs.YtfmmmhcpdinhgaaDoor
namespace PureNet
open Go.Proofs.YtfmmmhcpdinhgaaDoor
set_option maxRecDepth 100000
/-- a line that has not been met is met first. -/
theorem Sr.begin {l : List Ga} {P : Nat → Prop} {S0 : List Nat} {s : Ps} (hl : ∀ (i : Nat) (g : Ga), l[i]? = some g → ∀ a ∈ leansOn g, 0 ≤ a ∧ a < (l.length : Int)) (h : Sr l P S0 (fun _ => False) s) (hw : s.way = []) {x : Nat} (hx : x < l.length) (hm : s.met x = 0) (hP : P x) : Sr l P (x :: s.out) (fun _ => False) (s.meet l x) := by
  have h1 := Sr.meet hl h (y := x) (fun z hz => hz.elim) hx hm hP (fun ws a e => by rw [hw] at e; simp at e)
  refine h1.rekeep fun z hz => ?_
  show z ∈ s.out ++ (s.way ++ [(x, leanN l x)]).map Prod.fst
  rcases List.mem_cons.1 hz with rfl | hz
  · simp
  · exact List.mem_append_left _ hz

end PureNet
namespace Go.Proofs.YtfmmmhcpdinhgaaDoor
open Go.RowKit Go.Deep PureNet ShfKit
set_option maxRecDepth 100000
set_option maxHeartbeats 4000000 in
theorem searched_any (l : List Ga) (sg : Option Addr) (cg n : Nat) (w : World) (hc : CellsAt w sg (gas l)) (hkd : KindsAt w) (hn : n = l.length) (hfew : n ≤ 65536)
    (hlines : ∀ (i : Nat) (g : Ga), l[i]? = some g → (1 ≤ g.kind ∧ g.kind ≤ 4) ∧ ∀ a ∈ leansOn g, 0 ≤ a ∧ a < (l.length : Int)) (hf : ∀ i, ¬ PureNet.Way l i i) :
    Calls Tryd.prog 64 #[.slice sg n cg] w fun e W' => ∃ p s mv rv pv wv tv ov rs, e = .returned (.pointer (some ⟨p, 0, none⟩)) ∧ Se w W' p (.slice sg n cg) n s mv rv pv wv tv ov rs ∧ Sr l (fun _ => True) [] (fun _ => False) s ∧ s.way = [] ∧ ∀ x, x < n → x ∈ s.out := by
  have hll : ∀ (i : Nat) (g : Ga), l[i]? = some g → ∀ a ∈ leansOn g, 0 ≤ a ∧ a < (l.length : Int) := fun i g hg => (hlines i g hg).2
  have HLL := hid hll
  have FR : Hid (∀ p W s mv rv pv wv tv ov rs x, x < n → Se w W p (.slice sg n cg) n s mv rv pv wv tv ov rs → s.Ok l → Sr l (fun _ => True) (x :: s.out) (fun _ => False) (s.meet l x) → _) := fun p W s mv rv pv wv tv ov rs x hx hs hok hI => from_any l sg cg n p x w W s mv rv pv wv tv ov rs hc hkd hn hfew hlines hf (fun _ => True) (fun _ _ _ _ => trivial) (x :: s.out) hx hs hok hI
  have NS := hid (newSearch_any sg cg n w hfew)
  have HN := hid hn
  clear hc hkd hn hlines hf hll
  go_enter Tryd.func64, Tryd.ntmps64
  go_wp2_with (first | (go_at_call 44; refine Calls.mono NS.out ?_; rintro e w1 ⟨p, mv, rv, pv, rfl, hs1⟩; have SE1 := hid hs1; clear hs1))
  go_loopw [9] (fun iv W => ∃ i : Nat, i ≤ n ∧ iv = .int .i64 (i : Int) ∧ Hid (∃ s wv tv ov rs, Sr l (fun _ => True) [] (fun _ => False) s ∧ s.way = [] ∧ (∀ x, x < i → x ∈ s.out) ∧ Se w W p (.slice sg n cg) n s mv rv pv wv tv ov rs)) (fun iv _ => n - (intOf iv).toNat)
  case atStart => exact ⟨0, Nat.zero_le _, rfl, s0, _, _, _, _, Sr.start l _, rfl, fun x hx => by omega, SE1.out⟩
  case round =>
    clear SE1 NS
    obtain ⟨i, hi, rfl, HR⟩ := hrel
    obtain ⟨s, wv, tv, ov, rs, hsr, hway, hall, hs⟩ := HR.out
    clear HR
    by_cases hlt : i < n
    · have c0 := hs.cell
      have hp0 := hs.size
      obtain ⟨gm, cm, hmv, _, hgms, hcm, _⟩ := hs.row (i := 0) (by omega) rfl hlt
      have SE := hid hs
      have SR := hid hsr
      have HW := hid hway
      have HA := hid hall
      have FI := hid (fun hm => FR.out p wr s mv rv pv wv tv ov rs i hlt hs (hsr.ok HLL.out) (hsr.begin HLL.out hway (by rw [← HN.out]; exact hlt) hm trivial))
      have MI := hid (hsr.met i)
      subst hmv
      clear hs hsr hway hall FR
      by_cases hmz : s.met i = 0
      · have hmb : (s.met i == 0) = true := by rw [hmz]; rfl
        have FF := hid (FI.out hmz)
        clear hmz FI
        go_wp2_with (first | (go_at_call 45; refine Calls.mono FF.out ?_; rintro e w2 ⟨⟨v, rfl⟩, s2, wv2, tv2, ov2, rs2, hsr2, hway2, hs2⟩; have SE2 := hid hs2; have SR2 := hid hsr2; have HW2 := hid hway2; clear hs2 hsr2 hway2))
        refine ⟨⟨i + 1, hlt, by go_num, s2, _, _, _, _, SR2.out.rekeep (fun x hx => by simp at hx), HW2.out, fun x hx => ?_, SE2.out⟩, by simp [intOf]; omega⟩
        have hk : x ∈ i :: s.out := by
          by_cases e : x = i
          · rw [e]; simp
          · exact List.mem_cons_of_mem _ (HA.out x (by omega))
        have := SR2.out.keep x hk
        rw [HW2.out] at this
        simpa using this
      · have hmb : (s.met i == 0) = false := beq_eq_false_iff_ne.2 hmz
        have HI : Hid (i ∈ s.out) := by
          have := MI.out.1 hmz
          rw [HW.out] at this
          show i ∈ s.out
          simpa using this
        clear hmz FI
        go_wp2
        refine ⟨⟨i + 1, hlt, by go_num, s, _, _, _, _, SR.out, HW.out, fun x hx => ?_, SE.out⟩, by simp [intOf]; omega⟩
        by_cases e : x = i
        · rw [e]; exact HI.out
        · exact HA.out x (by omega)
    · have SE := hid hs
      have SR := hid hsr
      have HW := hid hway
      have HA : Hid (∀ x, x < n → x ∈ s.out) := fun x hx => hall x (by omega)
      clear hs hsr hway hall
      go_wp2
      exact bodyPost_ret (v := .pointer (some ⟨p, 0, none⟩)) (by simp [results, Tryd.results64, go_sem]) rfl ⟨p, s, _, _, _, _, _, _, _, rfl, SE.out, SR.out, HW.out, HA.out⟩

set_option maxHeartbeats 4000000 in
theorem firstInCircle_any (l : List Ga) (sg : Option Addr) (cg n : Nat) (w : World) (hc : CellsAt w sg (gas l)) (hkd : KindsAt w) (hn : n = l.length) (hfew : n ≤ 65536)
    (hlines : ∀ (i : Nat) (g : Ga), l[i]? = some g → (1 ≤ g.kind ∧ g.kind ≤ 4) ∧ ∀ a ∈ leansOn g, 0 ≤ a ∧ a < (l.length : Int)) (hf : ∀ i, ¬ PureNet.Way l i i) :
    Calls Tryd.prog 53 #[.slice sg n cg] w fun e W' => e = .returned (.int .i64 (-1)) ∧ Below w.heap.size w W' := by
  have SD := hid (searched_any l sg cg n w hc hkd hn hfew hlines hf)
  have HC := hid hc
  have KD := hid hkd
  have HN := hid hn
  have HL := hid hlines
  have HF := hid hf
  clear hc hkd hn hlines hf
  go_enter Tryd.func53, Tryd.ntmps53
  go_wp2_with (fail)
  go_step3
  go_wp2_with (first | (go_at_call 64; refine Calls.mono SD.out ?_; rintro e w1 ⟨p, s, mv, rv, pv, wv, tv, ov, rs, rfl, hs1, hsr1, _, hall1⟩; have SE1 := hid hs1; have SR1 := hid hsr1; have HA1 := hid hall1; have c1 := hs1.cell; have hp1 := hs1.size; clear hs1 hsr1 hall1))
  have PP : Hid (∀ x, x < n → s.part x = s.met x) := fun x hx => by rw [SR1.out.par x, if_pos (HA1.out x hx)]
  have PN : Hid (∀ x y, x < n → y < n → Leans l x y → (s.part y == s.part x) = false) := fun x y hx hy hl => by
    refine beq_eq_false_iff_ne.2 fun e => ?_
    rw [PP.out x hx, PP.out y hy] at e
    have hm : s.met y ≠ 0 := (SR1.out.met y).2 (List.mem_append_left _ (HA1.out y hy))
    have := SR1.out.inj y x e hm
    subst this
    exact HF.out _ (.one hl)
  clear c1 hp1 SD
  go_loopw [14] (fun iv W => ∃ i : Nat, i ≤ n ∧ iv = .int .i64 (i : Int) ∧ Hid (Below w1.heap.size w1 W)) (fun iv _ => n - (intOf iv).toNat)
  case atStart => exact ⟨0, Nat.zero_le _, rfl, Below.refl _ _⟩
  case round =>
    obtain ⟨i, hi, rfl, HB⟩ := hrel
    by_cases hlt : i < n
    · obtain ⟨g, hg⟩ : ∃ g, l[i]? = some g := ⟨_, List.getElem?_eq_getElem (by rw [← HN.out]; exact hlt)⟩
      have bw : Below w.heap.size w wr := SE1.out.below.trans (HB.out.mono SE1.out.below.size)
      obtain ⟨gb, go, rfl, hgb, a0, a1, a2, a3, a4, a5⟩ := gate_at (HC.out.below bw) i g hg
      obtain ⟨gp, cp, hpv, _, hgps, _⟩ := SE1.out.row (i := 2) (by omega) rfl hlt
      subst hpv
      have PL := hid (pleans_any g wr (KD.out.on bw) (HL.out i g hg).1 (fun a ha => ((HL.out i g hg).2 a ha).1))
      have HG := hid hg
      have BW := hid bw
      clear hg bw
      go_wp2_with (first | (go_at_call 81; refine Calls.mono PL.out ?_; rintro e w3 ⟨lv, lr, rfl, hlf, hlo, b3⟩; have LO := hid hlo; have B3 := hid b3; obtain ⟨lq, hlq⟩ : ∃ lq, lq = ((leansOn g).map Int.toNat).length := ⟨_, rfl⟩; obtain ⟨sq, cq, hlv, hlq2, hlr⟩ := hlf; rw [← hlq] at hlv; subst hlv; have LR := hid hlr; have LQ := hid hlq; have hlq3 : lq ≤ 3 := (by rw [hlq, List.length_map]; unfold leansOn; split; (· simp); (· split <;> simp)); clear hlo b3 hlq hlq2 hlr))
      go_loopw [23] (fun kv W => ∃ k : Nat, k ≤ lq ∧ kv = .int .i64 (k : Int) ∧ Hid (Below w3.heap.size w3 W)) (fun kv _ => lq - (intOf kv).toNat)
      case atStart => exact ⟨0, Nat.zero_le _, rfl, Below.refl _ _⟩
      case round =>
        obtain ⟨k, hk, rfl, HB4⟩ := hrel
        by_cases hkl : k < lq
        · obtain ⟨y, hy⟩ : ∃ y, ((leansOn g).map Int.toNat)[k]? = some y := ⟨_, List.getElem?_eq_getElem (by rw [← LQ.out]; exact hkl)⟩
          obtain ⟨gl, kl, rfl, hgl, hrow⟩ := LR.out (fun e => by rw [e] at hy; simp at hy)
          have hly : Leans l i y := by
            refine ⟨g, HG.out, ?_⟩
            rw [List.getElem?_map, Option.map_eq_some_iff] at hy
            obtain ⟨a, ha, rfl⟩ := hy
            have hm := List.mem_of_getElem? ha
            rw [Int.toNat_of_nonneg ((HL.out i g HG.out).2 a hm).1]
            exact hm
          have hyn : y < n := by
            obtain ⟨g2, hg2, hm⟩ := hly
            have := ((HL.out i g2 hg2).2 _ hm).2
            rw [HN.out]
            omega
          have hpne := PN.out i y hlt hyn hly
          obtain ⟨g5, c5, hv5, _, hg5, hc5, _⟩ := own_cell LO.out (hrow k y hy)
          rw [hv5] at hgl
          cases hgl
          have hcy : wr.cell? ⟨g5, kl + k, none⟩ = some (.int .i64 (y : Int)) := below_cell HB4.out hg5 hc5
          have bx : Below w1.heap.size w1 wr := HB.out.trans ((B3.out.trans (HB4.out.mono B3.out.size)).mono HB.out.size)
          obtain ⟨_, _, e9, _, _, hpy, _⟩ := (SE1.out.on bx).row (i := 2) (by omega) rfl hyn
          simp only [Value.slice.injEq, Option.some.injEq, Addr.mk.injEq, and_true, true_and] at e9
          obtain ⟨rfl, rfl⟩ := e9
          obtain ⟨_, _, e9, _, _, hpi, _⟩ := (SE1.out.on bx).row (i := 2) (by omega) rfl hlt
          simp only [Value.slice.injEq, Option.some.injEq, Addr.mk.injEq, and_true, true_and] at e9
          obtain ⟨rfl, rfl⟩ := e9
          have hgls : g5 < wr.heap.size := Nat.lt_of_lt_of_le hg5 HB4.out.size
          clear hy hrow hly hv5 hc5 bx
          go_wp2
          refine wp_region_noPanic ?_
          refine wp_region_held_drew (S := fun W => W.cell? ⟨gp, y, none⟩ = some (.int .i64 (s.part y)) ∧ W.cell? ⟨gp, i, none⟩ = some (.int .i64 (s.part i))) (by kernel_rfl) ⟨hpy, hpi⟩ (fun hHeld => ?_)
          refine wpAnyH_take (i := 0) (v := ?_) (by simp only [List.getElem?_toArray, List.getElem?_cons_zero]; rfl) (by kernel_rfl) (by kernel_rfl) (by kernel_rfl) (fun _ _ _ h => h) (Or.inl ⟨by rfl, ?_⟩) (by assumption) ?_
          rotate_left 1
          · intro w hSw; (try dsimp only at hSw); go_simp; (try with_reducible rfl)
          try simp only [Act.put, List.setIfInBounds_toArray, List.set_cons_zero, List.set_cons_succ]
          refine wpAnyH_take (i := 1) (v := ?_) (by simp only [List.getElem?_toArray, List.getElem?_cons_succ, List.getElem?_cons_zero]; rfl) (by kernel_rfl) (by kernel_rfl) (by kernel_rfl) (fun _ _ _ h => h) (Or.inl ⟨by rfl, ?_⟩) (by assumption) ?_
          rotate_left 1
          · intro w hSw; (try dsimp only at hSw); go_simp; (try with_reducible rfl)
          try simp only [Act.put, List.setIfInBounds_toArray, List.set_cons_zero, List.set_cons_succ]
          refine wpAnyH_take (i := 2) (v := .pointer (some ⟨gp, y, none⟩)) (by simp only [List.getElem?_toArray, List.getElem?_cons_succ, List.getElem?_cons_zero]; rfl) (by kernel_rfl) (by kernel_rfl) (by kernel_rfl) (fun _ _ _ h => h) (Or.inl ⟨by rfl, ?_⟩) (by assumption) ?_
          · intro w hSw; (try dsimp only at hSw); (try go_simp); ((try rw [if_pos (by omega)]); (try simp); (try (intro h9; omega)))
          try simp only [Act.put, List.setIfInBounds_toArray, List.set_cons_zero, List.set_cons_succ]
          refine wpAnyH_take (i := 3) (v := ?_) (by simp only [List.getElem?_toArray, List.getElem?_cons_succ, List.getElem?_cons_zero]; rfl) (by kernel_rfl) (by kernel_rfl) (by kernel_rfl) (fun _ _ _ h => h) (Or.inl ⟨by rfl, ?_⟩) (by assumption) ?_
          rotate_left 1
          · intro w hSw; (try dsimp only at hSw); go_simp; (try with_reducible rfl)
          try simp only [Act.put, List.setIfInBounds_toArray, List.set_cons_zero, List.set_cons_succ]
          refine wpAnyH_take (i := 4) (v := ?_) (by simp only [List.getElem?_toArray, List.getElem?_cons_succ, List.getElem?_cons_zero]; rfl) (by kernel_rfl) (by kernel_rfl) (by kernel_rfl) (fun _ _ _ h => h) (Or.inl ⟨by rfl, ?_⟩) (by assumption) ?_
          rotate_left 1
          · intro w hSw; (try dsimp only at hSw); go_simp; (try with_reducible rfl)
          try simp only [Act.put, List.setIfInBounds_toArray, List.set_cons_zero, List.set_cons_succ]
          refine wpAnyH_take (i := 5) (v := ?_) (by simp only [List.getElem?_toArray, List.getElem?_cons_succ, List.getElem?_cons_zero]; rfl) (by kernel_rfl) (by kernel_rfl) (by kernel_rfl) (fun _ _ _ h => h) (Or.inl ⟨by rfl, ?_⟩) (by assumption) ?_
          rotate_left 1
          · intro w hSw; (try dsimp only at hSw); go_simp; (try with_reducible rfl)
          try simp only [Act.put, List.setIfInBounds_toArray, List.set_cons_zero, List.set_cons_succ]
          refine wpAnyH_take (i := 6) (v := .pointer (some ⟨gp, i, none⟩)) (by simp only [List.getElem?_toArray, List.getElem?_cons_succ, List.getElem?_cons_zero]; rfl) (by kernel_rfl) (by kernel_rfl) (by kernel_rfl) (fun _ _ _ h => h) (Or.inl ⟨by rfl, ?_⟩) (by assumption) ?_
          · intro w hSw; (try dsimp only at hSw); (try go_simp); ((try rw [if_pos (by omega)]); (try simp); (try (intro h9; omega)))
          try simp only [Act.put, List.setIfInBounds_toArray, List.set_cons_zero, List.set_cons_succ]
          refine wpAnyH_take (i := 7) (v := ?_) (by simp only [List.getElem?_toArray, List.getElem?_cons_succ, List.getElem?_cons_zero]; rfl) (by kernel_rfl) (by kernel_rfl) (by kernel_rfl) (fun _ _ _ h => h) (Or.inl ⟨by rfl, ?_⟩) (by assumption) ?_
          rotate_left 1
          · intro w hSw; (try dsimp only at hSw); go_simp; (try with_reducible rfl)
          try simp only [Act.put, List.setIfInBounds_toArray, List.set_cons_zero, List.set_cons_succ]
          refine wpAnyH_take (i := 8) (v := .bool false) (by simp only [List.getElem?_toArray, List.getElem?_cons_succ, List.getElem?_cons_zero]; rfl) (by kernel_rfl) (by kernel_rfl) (by kernel_rfl) (fun _ _ _ h => h) (Or.inl ⟨by rfl, ?_⟩) (by assumption) ?_
          · intro w hSw; (try dsimp only at hSw); (try go_simp); ((try rw [hpne]); (try simp))
          try simp only [Act.put, List.setIfInBounds_toArray, List.set_cons_zero, List.set_cons_succ]
          refine wpAnyH_done (by kernel_rfl) ?_ _
          refine NoPanic.normal ?_
          go_wp2
          exact ⟨⟨k + 1, hkl, by go_num, HB4.out.trans (Below.refl _ _).drew⟩, by simp [intOf]; omega⟩
        · have bx : Hid (Below w1.heap.size w1 wr) := HB.out.trans ((B3.out.trans (HB4.out.mono B3.out.size)).mono HB.out.size)
          go_wp2
          exact ⟨⟨i + 1, hlt, by go_num, bx.out⟩, by simp [intOf]; omega⟩
    · have bw : Hid (Below w.heap.size w wr) := SE1.out.below.trans (HB.out.mono SE1.out.below.size)
      go_wp2
      dsimp only [Exit.noGoto]
      refine bodyPost_ret (P := Tryd.prog) (fn := Tryd.f53) (v := .int .i64 (-1)) ?_ rfl ⟨rfl, bw.out⟩
      simp [results, Tryd.results53, go_sem]
end Go.Proofs.YtfmmmhcpdinhgaaDoor
/-
  The program's first values of latches.
-/
namespace Go.Proofs.YtfmmmhcpdinhgaaDoor
open Go.RowKit Go.Deep PureNet
set_option maxRecDepth 100000

set_option maxHeartbeats 1000000 in
theorem pfirst_any (c : Net) (sg so : Option Addr) (cg co : Nat) (w : World) (hc : CellsAt w sg (gas c.gates)) (hl : c.gates.length ≤ 1099511627776) :
    Calls Tryd.prog 39 #[cirV c sg cg so co] w fun e w' => ∃ v, e = .returned v ∧ Mk w w' 4 1 v (cnt 3 c.gates) (bo (firstsOf c.gates)) := by
  have HC := hid hc
  clear hc
  go_enter Tryd.func39, Tryd.ntmps39
  go_wp2
  obtain ⟨x, hx⟩ : ∃ x, x = w.alloc (Obj.cells #[Value.string c.name, Value.slice sg c.gates.length cg, Value.slice so c.outs.length co] 26) := ⟨_, rfl⟩
  have RX : Hid (x.heap[w.heap.size]? = some (.cells #[Value.string c.name, Value.slice sg c.gates.length cg, Value.slice so c.outs.length co] 26 (0, 0))) := by rw [hx]; exact heap_alloc_new w _
  have BX : Hid (Below w.heap.size w x) := by rw [hx]; exact (Below.refl _ _).alloc (Nat.le_refl _) _
  rw [← hx]
  clear hx
  go_loopw [3, 9] (fun vv iv W => ∃ i : Nat, i ≤ c.gates.length ∧ iv = .int .i64 (i : Int) ∧ Hid (Mk x W 4 1 vv (cnt 3 (c.gates.take i)) (bo (firstsOf (c.gates.take i))))) (fun vv iv _ => c.gates.length - (intOf iv).toNat)
  case atStart => exact ⟨0, Nat.zero_le _, rfl, Mk.nil _ _ _⟩
  case round =>
    obtain ⟨i, hi, rfl, HR⟩ := hrel
    have hr := HR.out
    obtain ⟨sv, cv, rfl⟩ := own_shape hr.own
    have hwr : Below w.heap.size w wr := BX.out.trans (hr.below.mono BX.out.size)
    have hcl := cnt_take_le_i 3 c.gates i
    by_cases hlt : i < c.gates.length
    · obtain ⟨g, hg⟩ : ∃ g, c.gates[i]? = some g := ⟨_, List.getElem?_eq_getElem hlt⟩
      obtain ⟨b, o, rfl, hb, d0, d1, d2, d3, d4, d5⟩ := gate_at (HC.out.below hwr) i g hg
      have HN := hid (cnt_take_succ 3 c.gates i hg)
      have htk : c.gates.take (i + 1) = c.gates.take i ++ [g] := by rw [List.take_add_one, hg]; rfl
      have H1 : Hid (∀ o : Obj, Mk x (wr.alloc o) 4 1 (.slice sv (cnt 3 (c.gates.take i)) cv) (cnt 3 (c.gates.take i)) (bo (firstsOf (c.gates.take i)))) := fun o => HR.out.on ((Below.refl _ _).alloc (Nat.le_refl _) o)
      by_cases hk : g.kind = 3
      · have HT : Hid (bo (firstsOf (c.gates.take (i + 1))) = bo (firstsOf (c.gates.take i)) ++ [.bool (decide (g.op = 1))]) := by
          show _ = _
          rw [htk]
          simp [bo, firstsOf, hk]
        rw [if_pos hk] at HN
        rw [hk] at d0
        have hbe : (g.op == 1) = decide (g.op = 1) := by by_cases h : g.op = 1 <;> simp [h]
        obtain ⟨m, hm⟩ : ∃ m, m = cnt 3 (c.gates.take i) := ⟨_, rfl⟩
        rw [← hm] at HN hcl HR ⊢
        simp only [← hm] at H1
        clear hg htk hk hr hwr hm
        go_wp2_with (first
          | (at_builtin; refine mk_app rfl _ _ 29 (.bool false) 1 rfl Tryd.underlying29 info4 rfl (by decide) (H1.out _) [.bool (decide (g.op = 1))] 4 (wr.heap.size + 1) (by simp) rfl rfl rfl (fun u hu => by simp at hu; subst hu; rfl) (by omega) (by omega) ?_; intro sx cx w2 _ m2; have M2 := hid m2; clear m2))
        exact ⟨⟨i + 1, hlt, by go_num, by show Mk _ _ _ _ _ _ _; rw [HT.out, HN.out]; exact M2.out⟩, by simp [intOf]; omega⟩
      · have HT : Hid (bo (firstsOf (c.gates.take (i + 1))) = bo (firstsOf (c.gates.take i))) := by
          show _ = _
          rw [htk]
          simp [bo, firstsOf, hk]
        have hkb : (g.kind == 3) = false := beq_eq_false_iff_ne.2 hk
        rw [if_neg hk] at HN
        clear hg htk hr hwr hk
        go_wp2
        exact ⟨⟨i + 1, hlt, by go_num, by show Mk _ _ _ _ _ _ _; rw [HT.out, HN.out]; exact H1.out _⟩, by simp [intOf]; omega⟩
    · have hin : i = c.gates.length := by omega
      subst hin
      rw [List.take_length] at hr
      have HF : Hid (Mk w wr 4 1 (Value.slice sv (cnt 3 (c.gates.take c.gates.length)) cv) (cnt 3 c.gates) (bo (firstsOf c.gates))) := by
        rw [List.take_length]
        exact ⟨⟨hr.own.1, hr.own.2.imp id (fun ⟨g, cap, cur, hv, hB, r⟩ => ⟨g, cap, cur, hv, Nat.le_trans BX.out.size hB, r⟩)⟩, hwr⟩
      clear hr hwr
      go_wp2
      go_ret
      exact ⟨_, rfl, HF.out⟩
end Go.Proofs.YtfmmmhcpdinhgaaDoor
/-
  The program's Formed, First.
-/
namespace Go.Proofs.YtfmmmhcpdinhgaaDoor
open Go.RowKit Go.Deep PureNet
set_option maxRecDepth 100000

theorem formed_lines {c : Net} (hf : PureNet.Formed c) : ∀ (i : Nat) (g : Ga), c.gates[i]? = some g → (1 ≤ g.kind ∧ g.kind ≤ 4) ∧ ∀ a ∈ leansOn g, 0 ≤ a ∧ a < (c.gates.length : Int) :=
  fun i g hg => ⟨lineB_kind (hf.lines i g hg).2, fun _ ha => lineB_leans (hf.lines i g hg).2 ha⟩

set_option maxHeartbeats 2000000 in
theorem formed_ok (c : Net) (sg so : Option Addr) (cg co : Nat) (w : World) (hc : CirAt w c sg so) (hkd : KindsAt w) (hf : PureNet.Formed c) :
    Calls Tryd.prog 26 #[cirV c sg cg so co] w fun e w' => e = .returned (.bool true) ∧ Below w.heap.size w w' := by
  obtain ⟨x, hx⟩ : ∃ x, x = w.alloc (Obj.cells #[Value.string c.name, Value.slice sg c.gates.length cg, Value.slice so c.outs.length co] 26) := ⟨_, rfl⟩
  have RX : Hid (x.heap[w.heap.size]? = some (.cells #[Value.string c.name, Value.slice sg c.gates.length cg, Value.slice so c.outs.length co] 26 (0, 0))) := by rw [hx]; exact heap_alloc_new w _
  have BX : Hid (Below w.heap.size w x) := by rw [hx]; exact (Below.refl _ _).alloc (Nat.le_refl _) _
  have CE : Hid (∀ W, Below x.heap.size x W → (∀ j, W.cell? ⟨w.heap.size, j, none⟩ = (#[Value.string c.name, Value.slice sg c.gates.length cg, Value.slice so c.outs.length co] : Array Value)[j]?) ∧ w.heap.size < W.heap.size) := fun W hW => by
    have h2 := (hW.block _ (Array.getElem?_eq_some_iff.1 RX.out).1).trans RX.out
    exact ⟨fun j => cell_row h2 j, (Array.getElem?_eq_some_iff.1 h2).1⟩
  have C1 := hid (within_ok c sg so cg co x hf.few hf.fewOuts)
  have C2 : Hid (∀ W, Below x.heap.size x W → _) := fun W hW => named_ok c sg so cg co W ((hc.below BX.out).below hW).gates hf
  have C3 : Hid (∀ W, Below x.heap.size x W → _) := fun W hW => placed_ok c sg so cg co W ((hc.below BX.out).below hW) ((hkd.on BX.out).on hW) hf
  have C4 : Hid (∀ W, Below x.heap.size x W → _) := fun W hW => firstInCircle_any c.gates sg cg c.gates.length W ((hc.below BX.out).below hW).gates ((hkd.on BX.out).on hW) rfl hf.few (formed_lines hf) hf.free
  obtain ⟨d0, hb0⟩ := CE.out x (Below.refl _ _)
  have HX := hid hx
  clear hx hc hkd hf
  go_enter Tryd.func26, Tryd.ntmps26
  go_wp2_with (first
    | (rw [← HX.out])
    | (go_at_call 53; refine Calls.mono (C4.out w3 B3.out) ?_; rintro e w4 ⟨rfl, b4⟩; have B4 : Hid (Below x.heap.size x w4) := B3.out.trans (b4.mono B3.out.size); clear b4)
    | (go_at_call 52; refine Calls.mono (C3.out w2 B2.out) ?_; rintro e w3 ⟨rfl, b3⟩; have B3 : Hid (Below x.heap.size x w3) := B2.out.trans (b3.mono B2.out.size); obtain ⟨d3, hb3⟩ := CE.out w3 B3.out; clear b3)
    | (go_at_call 51; refine Calls.mono (C2.out w1 B1.out) ?_; rintro e w2 ⟨rfl, b2⟩; have B2 : Hid (Below x.heap.size x w2) := B1.out.trans (b2.mono B1.out.size); obtain ⟨d2, hb2⟩ := CE.out w2 B2.out; clear b2)
    | (go_at_call 50; refine Calls.mono C1.out ?_; rintro e w1 ⟨rfl, b1⟩; have B1 : Hid (Below x.heap.size x w1) := b1; obtain ⟨d1, hb1⟩ := CE.out w1 B1.out; clear b1))
  go_ret
  exact ⟨rfl, BX.out.trans (B4.out.mono BX.out.size)⟩

end Go.Proofs.YtfmmmhcpdinhgaaDoor
/-
  CircuitBlind: lines of a row turned; what stays.
-/
namespace Go.Proofs.YtfmmmhcpdinhgaaDoor
open Go.RowKit Go.Deep PureNet
set_option maxRecDepth 100000

theorem gas_op (D : List Ga) (k : Nat) (g : Ga) (u : Int) (hg : D[k]? = some g) : (gas D).set (k * 6 + 2) (.int .i64 u) = gas (D.set k { g with op := u }) := by
  have hk := (List.getElem?_eq_some_iff.1 hg).1
  apply List.ext_getElem?
  intro i
  by_cases hi : i < D.length * 6
  · have h := gas_at (D.set k { g with op := u }) (i / 6) (i % 6) (by simp; omega) (by omega)
    have h0 := gas_at D (i / 6) (i % 6) (by omega) (by omega)
    rw [show i / 6 * 6 + i % 6 = i by omega] at h h0
    rw [h]
    by_cases e : i / 6 = k
    · have e3 : (D.set k { g with op := u })[i / 6]'(by simp; omega) = { g with op := u } := by simp [e]
      have e4 : D[i / 6]'(by omega) = g := by
        have := (List.getElem?_eq_some_iff.1 hg).2
        simpa [e] using this
      rw [e3]
      rw [e4] at h0
      by_cases e2 : i % 6 = 2
      · rw [show i = k * 6 + 2 by omega, List.getElem?_set_self (by rw [gas_length]; omega), show (k * 6 + 2) % 6 = 2 by omega]
        rfl
      · rw [List.getElem?_set_ne (by omega), h0]
        have h6 : i % 6 = 0 ∨ i % 6 = 1 ∨ i % 6 = 3 ∨ i % 6 = 4 ∨ i % 6 = 5 := by omega
        rcases h6 with h6 | h6 | h6 | h6 | h6 <;> rw [h6] <;> rfl
    · have e3 : (D.set k { g with op := u })[i / 6]'(by simp; omega) = D[i / 6]'(by omega) := by rw [List.getElem_set_ne (fun x => e x.symm)]
      rw [e3, ← h0, List.getElem?_set_ne (by omega)]
  · rw [List.getElem?_eq_none (by rw [List.length_set, gas_length]; omega), List.getElem?_eq_none (by rw [gas_length, List.length_set]; omega)]
theorem CellsAt.grown {W W' : World} {s : Option Addr} {xs : List Value} {gb : Nat} (h : CellsAt W s xs) (hg : W.grownBy W' (some gb)) (hne : ∀ b o sp, s = some ⟨b, o, sp⟩ → b ≠ gb) : CellsAt W' s xs := ⟨fun k x hx => by
  obtain ⟨b, o, e, hb, c⟩ := h.at_ k x hx
  refine ⟨b, o, e, Nat.lt_of_lt_of_le hb hg.size, ?_⟩
  rw [← c]
  exact World.cell?_of_block (hg.block b hb (fun e2 => hne b o none e (by simpa using e2)))⟩
end Go.Proofs.YtfmmmhcpdinhgaaDoor
