import Derived.Test.YtfmmmhcpdinhgabGreatDoorZ08
/-
  What a line has, and what it has not, by the program's table.
-/
namespace Go.Proofs.YtfmmmhcpdinhgabGreatDoor
open Go.RowKit Go.Deep PureNet
set_option maxRecDepth 100000

set_option maxHeartbeats 1000000 in
theorem used_any (k : Nat) (g : Ga) (w : World) (hK : KindsAt w) (hk : g.kind = (k : Int)) (h1 : 1 ≤ k) (h4 : k ≤ 4) :
    Calls Tryz.prog 44 #[.agg #[.int .i64 g.kind, .string g.name, .int .i64 g.op, .int .i64 g.a, .int .i64 g.b, .int .i64 g.c]] w fun e w' => ∃ b, e = .returned (.slice (some ⟨b, 0, none⟩) (usesN k) 3) ∧ w.heap.size ≤ b ∧ w'.heap[b]? = some (.cells #[.int .i64 g.a, .int .i64 g.b, .int .i64 g.c] 3 (0, 0)) ∧ Below w.heap.size w w' := by
  have hu : usesN k ≤ 3 := by unfold usesN; (repeat' split) <;> omega
  obtain ⟨x, hx⟩ : ∃ x, x = w.alloc (Obj.cells #[Value.int .i64 (k : Int), .string g.name, .int .i64 g.op, .int .i64 g.a, .int .i64 g.b, .int .i64 g.c] 42) := ⟨_, rfl⟩
  have BX : Hid (Below w.heap.size w x) := by rw [hx]; exact (Below.refl _ _).alloc (Nat.le_refl _) _
  have hsz : x.heap.size = w.heap.size + 1 := by rw [hx]; simp
  have C0 : Hid (x.heap[w.heap.size]? = some (.cells #[Value.int .i64 (k : Int), .string g.name, .int .i64 g.op, .int .i64 g.a, .int .i64 g.b, .int .i64 g.c] 42 (0, 0))) := by rw [hx]; exact heap_alloc_new w _
  have KS : Hid (∀ W, Below x.heap.size x W → W.cell? ⟨w.heap.size, 0, none⟩ = some (.int .i64 (k : Int)) ∧ W.cell? ⟨w.heap.size, 3, none⟩ = some (.int .i64 g.a) ∧ W.cell? ⟨w.heap.size, 4, none⟩ = some (.int .i64 g.b) ∧ W.cell? ⟨w.heap.size, 5, none⟩ = some (.int .i64 g.c) ∧ W.cell? ⟨1, k * 3 + 2, none⟩ = some (.int .i64 (usesN k : Int))) := fun W hW => by
    have h2 := (hW.block _ (Array.getElem?_eq_some_iff.1 C0.out).1).trans C0.out
    exact ⟨cell_row h2 0, cell_row h2 3, cell_row h2 4, cell_row h2 5, ((hK.on BX.out).on hW).uses k h1 h4⟩
  have HX := hid hx
  rw [hk]
  clear hx hK hk
  go_enter Tryz.func44, Tryz.ntmps44
  go_wp2_with (rw [← HX.out])
  refine wp_region_noPanic ?_
  refine wp_region_held_drew (S := fun W => W.cell? ⟨w.heap.size, 0, none⟩ = some (.int .i64 (k : Int)) ∧ W.cell? ⟨w.heap.size, 3, none⟩ = some (.int .i64 g.a) ∧ W.cell? ⟨w.heap.size, 4, none⟩ = some (.int .i64 g.b) ∧ W.cell? ⟨w.heap.size, 5, none⟩ = some (.int .i64 g.c) ∧ W.cell? ⟨1, k * 3 + 2, none⟩ = some (.int .i64 (usesN k : Int))) (by kernel_rfl) (KS.out _ (by first | exact (Below.refl _ _).drew | exact ((Below.refl _ _).alloc (Nat.le_refl _) _).drew)) (fun hHeld => ?_)
  refine wpAnyH_take (i := 0) (v := ?_) (by simp only [List.getElem?_toArray, List.getElem?_cons_zero]; rfl) (by kernel_rfl) (by kernel_rfl) (by kernel_rfl) (fun _ _ _ h => h) (Or.inl ⟨by rfl, ?_⟩) (by assumption) ?_
  rotate_left 1
  · intro w hSw; (try dsimp only at hSw); go_simp; (try with_reducible rfl)
  try simp only [Act.put, List.setIfInBounds_toArray, List.set_cons_zero, List.set_cons_succ]
  refine wpAnyH_take (i := 1) (v := ?_) (by simp only [List.getElem?_toArray, List.getElem?_cons_succ, List.getElem?_cons_zero]; rfl) (by kernel_rfl) (by kernel_rfl) (by kernel_rfl) (fun _ _ _ h => h) (Or.inl ⟨by rfl, ?_⟩) (by assumption) ?_
  rotate_left 1
  · intro w hSw; (try dsimp only at hSw); go_simp; (try with_reducible rfl)
  try simp only [Act.put, List.setIfInBounds_toArray, List.set_cons_zero, List.set_cons_succ]
  refine wpAnyH_take (i := 2) (v := ?_) (by simp only [List.getElem?_toArray, List.getElem?_cons_succ, List.getElem?_cons_zero]; rfl) (by kernel_rfl) (by kernel_rfl) (by kernel_rfl) (fun _ _ _ h => h) (Or.inl ⟨by rfl, ?_⟩) (by assumption) ?_
  rotate_left 1
  · intro w hSw; (try dsimp only at hSw); go_simp; (try with_reducible rfl)
  try simp only [Act.put, List.setIfInBounds_toArray, List.set_cons_zero, List.set_cons_succ]
  refine wpAnyH_take (i := 3) (v := ?_) (by simp only [List.getElem?_toArray, List.getElem?_cons_succ, List.getElem?_cons_zero]; rfl) (by kernel_rfl) (by kernel_rfl) (by kernel_rfl) (fun _ _ _ h => h) (Or.inl ⟨by rfl, ?_⟩) (by assumption) ?_
  rotate_left 1
  · intro w hSw; (try dsimp only at hSw); go_simp; (try with_reducible rfl)
  try simp only [Act.put, List.setIfInBounds_toArray, List.set_cons_zero, List.set_cons_succ]
  refine wpAnyH_take (i := 4) (v := ?_) (by simp only [List.getElem?_toArray, List.getElem?_cons_succ, List.getElem?_cons_zero]; rfl) (by kernel_rfl) (by kernel_rfl) (by kernel_rfl) (fun _ _ _ h => h) (Or.inl ⟨by rfl, ?_⟩) (by assumption) ?_
  rotate_left 1
  · intro w hSw; (try dsimp only at hSw); go_simp; (try with_reducible rfl)
  try simp only [Act.put, List.setIfInBounds_toArray, List.set_cons_zero, List.set_cons_succ]
  refine wpAnyH_take (i := 5) (v := ?_) (by simp only [List.getElem?_toArray, List.getElem?_cons_succ, List.getElem?_cons_zero]; rfl) (by kernel_rfl) (by kernel_rfl) (by kernel_rfl) (fun _ _ _ h => h) (Or.inl ⟨by rfl, ?_⟩) (by assumption) ?_
  rotate_left 1
  · intro w hSw; (try dsimp only at hSw); go_simp; (try with_reducible rfl)
  try simp only [Act.put, List.setIfInBounds_toArray, List.set_cons_zero, List.set_cons_succ]
  refine wpAnyH_take (i := 7) (v := ?_) (by simp only [List.getElem?_toArray, List.getElem?_cons_succ, List.getElem?_cons_zero]; rfl) (by kernel_rfl) (by kernel_rfl) (by kernel_rfl) (fun _ _ _ h => h) (Or.inl ⟨by rfl, ?_⟩) (by assumption) ?_
  rotate_left 1
  · intro w hSw; (try dsimp only at hSw); go_simp; (try with_reducible rfl)
  try simp only [Act.put, List.setIfInBounds_toArray, List.set_cons_zero, List.set_cons_succ]
  refine wpAnyH_take (i := 8) (v := ?_) (by simp only [List.getElem?_toArray, List.getElem?_cons_succ, List.getElem?_cons_zero]; rfl) (by kernel_rfl) (by kernel_rfl) (by kernel_rfl) (fun _ _ _ h => h) (Or.inl ⟨by rfl, ?_⟩) (by assumption) ?_
  rotate_left 1
  · intro w hSw; (try dsimp only at hSw); go_simp; (try with_reducible rfl)
  try simp only [Act.put, List.setIfInBounds_toArray, List.set_cons_zero, List.set_cons_succ]
  refine wpAnyH_take (i := 9) (v := .pointer (some ⟨1, k * 3, none⟩)) (by simp only [List.getElem?_toArray, List.getElem?_cons_succ, List.getElem?_cons_zero]; rfl) (by kernel_rfl) (by kernel_rfl) (by kernel_rfl) (fun _ _ _ h => h) (Or.inl ⟨by rfl, ?_⟩) (by assumption) ?_
  · intro w hSw; (try dsimp only at hSw); (try go_simp); (intro h9; omega)
  try simp only [Act.put, List.setIfInBounds_toArray, List.set_cons_zero, List.set_cons_succ]
  refine wpAnyH_take (i := 10) (v := ?_) (by simp only [List.getElem?_toArray, List.getElem?_cons_succ, List.getElem?_cons_zero]; rfl) (by kernel_rfl) (by kernel_rfl) (by kernel_rfl) (fun _ _ _ h => h) (Or.inl ⟨by rfl, ?_⟩) (by assumption) ?_
  rotate_left 1
  · intro w hSw; (try dsimp only at hSw); go_simp; (try with_reducible rfl)
  try simp only [Act.put, List.setIfInBounds_toArray, List.set_cons_zero, List.set_cons_succ]
  refine wpAnyH_take (i := 11) (v := ?_) (by simp only [List.getElem?_toArray, List.getElem?_cons_succ, List.getElem?_cons_zero]; rfl) (by kernel_rfl) (by kernel_rfl) (by kernel_rfl) (fun _ _ _ h => h) (Or.inl ⟨by rfl, ?_⟩) (by assumption) ?_
  rotate_left 1
  · intro w hSw; (try dsimp only at hSw); go_simp; (try with_reducible rfl)
  try simp only [Act.put, List.setIfInBounds_toArray, List.set_cons_zero, List.set_cons_succ]
  refine wpAnyH_ready (rs := [6]) (by kernel_rfl) (by simp) ?_
  refine AllReadyH.cons (by simp only [List.getElem?_toArray, List.getElem?_cons_succ, List.getElem?_cons_zero]; rfl) (fun K hK => ?_) AllReadyH.nil
  go_simp
  clear hHeld
  refine hK.out _ _ (KS.out _ (by first | exact (Below.refl _ _).drew | exact ((Below.refl _ _).alloc (Nat.le_refl _) _).drew)) (fun hHeld => ?_)
  clear hK K
  try simp only [Act.put, List.setIfInBounds_toArray, List.set_cons_zero, List.set_cons_succ]
  refine wpAnyH_take (i := 12) (v := .slice (some ⟨x.heap.size, 0, none⟩) (usesN k) 3) (by simp only [List.getElem?_toArray, List.getElem?_cons_succ, List.getElem?_cons_zero]; rfl) (by kernel_rfl) (by kernel_rfl) (by kernel_rfl) (fun _ _ _ h => h) (Or.inl ⟨by rfl, ?_⟩) (by assumption) ?_
  · intro w hSw; (try dsimp only at hSw); (try go_simp); (first | done | (with_reducible rfl) | omega | (rw [if_pos (by omega), HSV.out, hsz]) | (rw [if_pos (by omega)]))
  try simp only [Act.put, List.setIfInBounds_toArray, List.set_cons_zero, List.set_cons_succ]
  refine wpAnyH_take (i := 13) (v := ?_) (by simp only [List.getElem?_toArray, List.getElem?_cons_succ, List.getElem?_cons_zero]; rfl) (by kernel_rfl) (by kernel_rfl) (by kernel_rfl) (fun _ _ _ h => h) (Or.inl ⟨by rfl, ?_⟩) (by assumption) ?_
  rotate_left 1
  · intro w hSw; (try dsimp only at hSw); go_simp; (try with_reducible rfl)
  try simp only [Act.put, List.setIfInBounds_toArray, List.set_cons_zero, List.set_cons_succ]
  refine wpAnyH_done (by kernel_rfl) ?_ _
  refine NoPanic.normal ?_
  go_wp2
  refine bodyPost_ret (v := .slice (some ⟨x.heap.size, 0, none⟩) (usesN k) 3) (by simp [results, Tryz.results44, go_sem]) rfl ⟨x.heap.size, rfl, by omega, heap_alloc_new _ _, BX.out.trans (((Below.refl x.heap.size x).alloc (Nat.le_refl _) _).drew.mono (by omega))⟩
set_option maxHeartbeats 1000000 in
theorem unused_any (k : Nat) (g : Ga) (w : World) (hK : KindsAt w) (hk : g.kind = (k : Int)) (h1 : 1 ≤ k) (h4 : k ≤ 4) :
    Calls Tryz.prog 47 #[.agg #[.int .i64 g.kind, .string g.name, .int .i64 g.op, .int .i64 g.a, .int .i64 g.b, .int .i64 g.c]] w fun e w' => ∃ b sv, e = .returned (.slice sv (3 - usesN k) (3 - usesN k)) ∧ (usesN k < 3 → sv = some ⟨b, usesN k, none⟩) ∧ w.heap.size ≤ b ∧ w'.heap[b]? = some (.cells #[.int .i64 g.a, .int .i64 g.b, .int .i64 g.c] 3 (0, 0)) ∧ Below w.heap.size w w' := by
  have hu : usesN k ≤ 3 := by unfold usesN; (repeat' split) <;> omega
  obtain ⟨x, hx⟩ : ∃ x, x = w.alloc (Obj.cells #[Value.int .i64 (k : Int), .string g.name, .int .i64 g.op, .int .i64 g.a, .int .i64 g.b, .int .i64 g.c] 42) := ⟨_, rfl⟩
  have BX : Hid (Below w.heap.size w x) := by rw [hx]; exact (Below.refl _ _).alloc (Nat.le_refl _) _
  have hsz : x.heap.size = w.heap.size + 1 := by rw [hx]; simp
  have C0 : Hid (x.heap[w.heap.size]? = some (.cells #[Value.int .i64 (k : Int), .string g.name, .int .i64 g.op, .int .i64 g.a, .int .i64 g.b, .int .i64 g.c] 42 (0, 0))) := by rw [hx]; exact heap_alloc_new w _
  have KS : Hid (∀ W, Below x.heap.size x W → W.cell? ⟨w.heap.size, 0, none⟩ = some (.int .i64 (k : Int)) ∧ W.cell? ⟨w.heap.size, 3, none⟩ = some (.int .i64 g.a) ∧ W.cell? ⟨w.heap.size, 4, none⟩ = some (.int .i64 g.b) ∧ W.cell? ⟨w.heap.size, 5, none⟩ = some (.int .i64 g.c) ∧ W.cell? ⟨1, k * 3 + 2, none⟩ = some (.int .i64 (usesN k : Int))) := fun W hW => by
    have h2 := (hW.block _ (Array.getElem?_eq_some_iff.1 C0.out).1).trans C0.out
    exact ⟨cell_row h2 0, cell_row h2 3, cell_row h2 4, cell_row h2 5, ((hK.on BX.out).on hW).uses k h1 h4⟩
  have HX := hid hx
  obtain ⟨sv, hsv⟩ : ∃ sv : Option Addr, sv = (if 3 = usesN k then some ⟨x.heap.size, 0, none⟩ else some ⟨x.heap.size, usesN k, none⟩) := ⟨_, rfl⟩
  have HSV := hid hsv
  clear hsv
  rw [hk]
  clear hx hK hk
  go_enter Tryz.func47, Tryz.ntmps47
  go_wp2_with (rw [← HX.out])
  refine wp_region_noPanic ?_
  refine wp_region_held_drew (S := fun W => W.cell? ⟨w.heap.size, 0, none⟩ = some (.int .i64 (k : Int)) ∧ W.cell? ⟨w.heap.size, 3, none⟩ = some (.int .i64 g.a) ∧ W.cell? ⟨w.heap.size, 4, none⟩ = some (.int .i64 g.b) ∧ W.cell? ⟨w.heap.size, 5, none⟩ = some (.int .i64 g.c) ∧ W.cell? ⟨1, k * 3 + 2, none⟩ = some (.int .i64 (usesN k : Int))) (by kernel_rfl) (KS.out _ (by first | exact (Below.refl _ _).drew | exact ((Below.refl _ _).alloc (Nat.le_refl _) _).drew)) (fun hHeld => ?_)
  refine wpAnyH_take (i := 0) (v := ?_) (by simp only [List.getElem?_toArray, List.getElem?_cons_zero]; rfl) (by kernel_rfl) (by kernel_rfl) (by kernel_rfl) (fun _ _ _ h => h) (Or.inl ⟨by rfl, ?_⟩) (by assumption) ?_
  rotate_left 1
  · intro w hSw; (try dsimp only at hSw); go_simp; (try with_reducible rfl)
  try simp only [Act.put, List.setIfInBounds_toArray, List.set_cons_zero, List.set_cons_succ]
  refine wpAnyH_take (i := 1) (v := ?_) (by simp only [List.getElem?_toArray, List.getElem?_cons_succ, List.getElem?_cons_zero]; rfl) (by kernel_rfl) (by kernel_rfl) (by kernel_rfl) (fun _ _ _ h => h) (Or.inl ⟨by rfl, ?_⟩) (by assumption) ?_
  rotate_left 1
  · intro w hSw; (try dsimp only at hSw); go_simp; (try with_reducible rfl)
  try simp only [Act.put, List.setIfInBounds_toArray, List.set_cons_zero, List.set_cons_succ]
  refine wpAnyH_take (i := 2) (v := ?_) (by simp only [List.getElem?_toArray, List.getElem?_cons_succ, List.getElem?_cons_zero]; rfl) (by kernel_rfl) (by kernel_rfl) (by kernel_rfl) (fun _ _ _ h => h) (Or.inl ⟨by rfl, ?_⟩) (by assumption) ?_
  rotate_left 1
  · intro w hSw; (try dsimp only at hSw); go_simp; (try with_reducible rfl)
  try simp only [Act.put, List.setIfInBounds_toArray, List.set_cons_zero, List.set_cons_succ]
  refine wpAnyH_take (i := 3) (v := ?_) (by simp only [List.getElem?_toArray, List.getElem?_cons_succ, List.getElem?_cons_zero]; rfl) (by kernel_rfl) (by kernel_rfl) (by kernel_rfl) (fun _ _ _ h => h) (Or.inl ⟨by rfl, ?_⟩) (by assumption) ?_
  rotate_left 1
  · intro w hSw; (try dsimp only at hSw); go_simp; (try with_reducible rfl)
  try simp only [Act.put, List.setIfInBounds_toArray, List.set_cons_zero, List.set_cons_succ]
  refine wpAnyH_take (i := 4) (v := ?_) (by simp only [List.getElem?_toArray, List.getElem?_cons_succ, List.getElem?_cons_zero]; rfl) (by kernel_rfl) (by kernel_rfl) (by kernel_rfl) (fun _ _ _ h => h) (Or.inl ⟨by rfl, ?_⟩) (by assumption) ?_
  rotate_left 1
  · intro w hSw; (try dsimp only at hSw); go_simp; (try with_reducible rfl)
  try simp only [Act.put, List.setIfInBounds_toArray, List.set_cons_zero, List.set_cons_succ]
  refine wpAnyH_take (i := 5) (v := ?_) (by simp only [List.getElem?_toArray, List.getElem?_cons_succ, List.getElem?_cons_zero]; rfl) (by kernel_rfl) (by kernel_rfl) (by kernel_rfl) (fun _ _ _ h => h) (Or.inl ⟨by rfl, ?_⟩) (by assumption) ?_
  rotate_left 1
  · intro w hSw; (try dsimp only at hSw); go_simp; (try with_reducible rfl)
  try simp only [Act.put, List.setIfInBounds_toArray, List.set_cons_zero, List.set_cons_succ]
  refine wpAnyH_take (i := 7) (v := ?_) (by simp only [List.getElem?_toArray, List.getElem?_cons_succ, List.getElem?_cons_zero]; rfl) (by kernel_rfl) (by kernel_rfl) (by kernel_rfl) (fun _ _ _ h => h) (Or.inl ⟨by rfl, ?_⟩) (by assumption) ?_
  rotate_left 1
  · intro w hSw; (try dsimp only at hSw); go_simp; (try with_reducible rfl)
  try simp only [Act.put, List.setIfInBounds_toArray, List.set_cons_zero, List.set_cons_succ]
  refine wpAnyH_take (i := 8) (v := ?_) (by simp only [List.getElem?_toArray, List.getElem?_cons_succ, List.getElem?_cons_zero]; rfl) (by kernel_rfl) (by kernel_rfl) (by kernel_rfl) (fun _ _ _ h => h) (Or.inl ⟨by rfl, ?_⟩) (by assumption) ?_
  rotate_left 1
  · intro w hSw; (try dsimp only at hSw); go_simp; (try with_reducible rfl)
  try simp only [Act.put, List.setIfInBounds_toArray, List.set_cons_zero, List.set_cons_succ]
  refine wpAnyH_take (i := 9) (v := .pointer (some ⟨1, k * 3, none⟩)) (by simp only [List.getElem?_toArray, List.getElem?_cons_succ, List.getElem?_cons_zero]; rfl) (by kernel_rfl) (by kernel_rfl) (by kernel_rfl) (fun _ _ _ h => h) (Or.inl ⟨by rfl, ?_⟩) (by assumption) ?_
  · intro w hSw; (try dsimp only at hSw); (try go_simp); (intro h9; omega)
  try simp only [Act.put, List.setIfInBounds_toArray, List.set_cons_zero, List.set_cons_succ]
  refine wpAnyH_take (i := 10) (v := ?_) (by simp only [List.getElem?_toArray, List.getElem?_cons_succ, List.getElem?_cons_zero]; rfl) (by kernel_rfl) (by kernel_rfl) (by kernel_rfl) (fun _ _ _ h => h) (Or.inl ⟨by rfl, ?_⟩) (by assumption) ?_
  rotate_left 1
  · intro w hSw; (try dsimp only at hSw); go_simp; (try with_reducible rfl)
  try simp only [Act.put, List.setIfInBounds_toArray, List.set_cons_zero, List.set_cons_succ]
  refine wpAnyH_take (i := 11) (v := ?_) (by simp only [List.getElem?_toArray, List.getElem?_cons_succ, List.getElem?_cons_zero]; rfl) (by kernel_rfl) (by kernel_rfl) (by kernel_rfl) (fun _ _ _ h => h) (Or.inl ⟨by rfl, ?_⟩) (by assumption) ?_
  rotate_left 1
  · intro w hSw; (try dsimp only at hSw); go_simp; (try with_reducible rfl)
  try simp only [Act.put, List.setIfInBounds_toArray, List.set_cons_zero, List.set_cons_succ]
  refine wpAnyH_ready (rs := [6]) (by kernel_rfl) (by simp) ?_
  refine AllReadyH.cons (by simp only [List.getElem?_toArray, List.getElem?_cons_succ, List.getElem?_cons_zero]; rfl) (fun K hK => ?_) AllReadyH.nil
  go_simp
  clear hHeld
  refine hK.out _ _ (KS.out _ (by first | exact (Below.refl _ _).drew | exact ((Below.refl _ _).alloc (Nat.le_refl _) _).drew)) (fun hHeld => ?_)
  clear hK K
  try simp only [Act.put, List.setIfInBounds_toArray, List.set_cons_zero, List.set_cons_succ]
  refine wpAnyH_take (i := 12) (v := .slice sv (3 - usesN k) (3 - usesN k)) (by simp only [List.getElem?_toArray, List.getElem?_cons_succ, List.getElem?_cons_zero]; rfl) (by kernel_rfl) (by kernel_rfl) (by kernel_rfl) (fun _ _ _ h => h) (Or.inl ⟨by rfl, ?_⟩) (by assumption) ?_
  · intro w hSw; (try dsimp only at hSw); (try go_simp); (first | done | (with_reducible rfl) | omega | (rw [if_pos (by omega), HSV.out, hsz]) | (rw [if_pos (by omega)]))
  try simp only [Act.put, List.setIfInBounds_toArray, List.set_cons_zero, List.set_cons_succ]
  refine wpAnyH_take (i := 13) (v := ?_) (by simp only [List.getElem?_toArray, List.getElem?_cons_succ, List.getElem?_cons_zero]; rfl) (by kernel_rfl) (by kernel_rfl) (by kernel_rfl) (fun _ _ _ h => h) (Or.inl ⟨by rfl, ?_⟩) (by assumption) ?_
  rotate_left 1
  · intro w hSw; (try dsimp only at hSw); go_simp; (try with_reducible rfl)
  try simp only [Act.put, List.setIfInBounds_toArray, List.set_cons_zero, List.set_cons_succ]
  refine wpAnyH_done (by kernel_rfl) ?_ _
  refine NoPanic.normal ?_
  go_wp2
  refine bodyPost_ret (v := .slice sv (3 - usesN k) (3 - usesN k)) (by simp [results, Tryz.results47, go_sem]) rfl ⟨x.heap.size, sv, rfl, (fun h3 => by rw [HSV.out, if_neg (by omega)]), by omega, heap_alloc_new _ _, BX.out.trans (((Below.refl x.heap.size x).alloc (Nat.le_refl _) _).drew.mono (by omega))⟩
end Go.Proofs.YtfmmmhcpdinhgabGreatDoor
/-
  Lines that bear on something: marks, and the rest turned.
-/
namespace PureNet
set_option maxRecDepth 100000

theorem way_snoc {l : List Ga} {i j k : Nat} (h : Way l i j) (h2 : Leans l j k) : Way l i k := by
  induction h using PureNet.Way.ind with
  | one h1 => exact .more h1 (.one h2)
  | more h1 _ ih => exact .more h1 (ih h2)
end PureNet
/-
  Circles: where each line of a set leans on one of it, one of it is in a circle.
-/
namespace PureNet
set_option maxRecDepth 100000

theorem holes (n : Nat) : ∀ f : Nat → Nat, (∀ k, k ≤ n → f k < n) → ∃ a b, a < b ∧ b ≤ n ∧ f a = f b := by
  induction n with
  | zero => intro f h; have := h 0 (Nat.le_refl _); omega
  | succ n ih =>
    intro f h
    by_cases hx : ∃ k, k ≤ n ∧ f k = f (n + 1)
    · obtain ⟨k, hk, e⟩ := hx
      exact ⟨k, n + 1, by omega, Nat.le_refl _, e⟩
    · have hne : ∀ k, k ≤ n → f k ≠ f (n + 1) := fun k hk e => hx ⟨k, hk, e⟩
      obtain ⟨a, b, hab, hb, e⟩ := ih (fun k => if f k = n then f (n + 1) else f k) (fun k hk => by
        have h1 := h k (by omega)
        have h2 := h (n + 1) (Nat.le_refl _)
        have h3 := hne k hk
        show (if f k = n then f (n + 1) else f k) < n
        split <;> omega)
      refine ⟨a, b, hab, by omega, ?_⟩
      have ha := hne a (by omega)
      have hb' := hne b hb
      have e2 : (if f a = n then f (n + 1) else f a) = (if f b = n then f (n + 1) else f b) := e
      split at e2 <;> split at e2 <;> omega
end PureNet
/-
  The search of the program, by lists: its state, its steps; where no line is in a circle.
-/
namespace PureNet

/-- the state of a search. -/
structure Ps where
  met : Nat → Int
  reached : Nat → Int
  part : Nat → Int
  way : List (Nat × List Nat)
  waiting : List Nat
  out : List Nat
def upd (f : Nat → Int) (x : Nat) (v : Int) : Nat → Int := fun y => if y = x then v else f y
def leanN (l : List Ga) (x : Nat) : List Nat := match l[x]? with | some g => (leansOn g).map Int.toNat | none => []
def Ps.number (s : Ps) : Int := (s.out.length : Int) + ((s.waiting.length : Int) + 1)
def Ps.meet (l : List Ga) (s : Ps) (x : Nat) : Ps := ⟨upd s.met x s.number, upd s.reached x s.number, s.part, s.way ++ [(x, leanN l x)], s.waiting ++ [x], s.out⟩
def Ps.reach (s : Ps) (x : Nat) (m : Int) : Ps := ⟨s.met, upd s.reached x (min (s.reached x) m), s.part, s.way, s.waiting, s.out⟩
def Ps.goes (s : Ps) (way : List (Nat × List Nat)) : Ps := ⟨s.met, s.reached, s.part, way, s.waiting, s.out⟩
/-- a part comes out: what waits from x on, the last first. -/
def Ps.comeOut (s : Ps) (pre post : List Nat) (x : Nat) : Ps := ⟨s.met, s.reached, fun y => if y ∈ x :: post then s.met x else s.part y, s.way, pre, s.out ++ (x :: post).reverse⟩

/-- what is in bounds. -/
structure Ps.Ok (l : List Ga) (s : Ps) : Prop where
  way : ∀ a ∈ s.way, a.1 < l.length ∧ ∀ y ∈ a.2, y < l.length
  wait : ∀ x ∈ s.waiting, x < l.length
  wayN : s.way.length ≤ l.length
  outN : s.out.length + s.waiting.length ≤ l.length
/-- what a search keeps, by a measure. -/
structure Keeps (l : List Ga) (I : Ps → Prop) (m : Ps → Nat) : Prop where
  ok : ∀ s, I s → s.Ok l
  back : ∀ s ws x, I s → s.way = ws ++ [(x, [])] → s.reached x = s.met x → ∃ pre post, s.waiting = pre ++ x :: post ∧ x ∉ post ∧ s.part x = 0 ∧ s.met x ≠ 0 ∧ I ((s.goes ws).comeOut pre post x) ∧ m ((s.goes ws).comeOut pre post x) < m s
  on : ∀ s ws x, I s → s.way = ws ++ [(x, [])] → s.reached x ≠ s.met x → ∃ vs y lf, ws = vs ++ [(y, lf)] ∧ I ((s.goes ws).reach y (s.reached x)) ∧ m ((s.goes ws).reach y (s.reached x)) < m s
  meet : ∀ s ws x y lf, I s → s.way = ws ++ [(x, y :: lf)] → s.met y = 0 → I ((s.goes (ws ++ [(x, lf)])).meet l y) ∧ m ((s.goes (ws ++ [(x, lf)])).meet l y) < m s
  again : ∀ s ws x y lf, I s → s.way = ws ++ [(x, y :: lf)] → s.met y ≠ 0 → s.part y = 0 → I ((s.goes (ws ++ [(x, lf)])).reach x (s.met y)) ∧ m ((s.goes (ws ++ [(x, lf)])).reach x (s.met y)) < m s
  past : ∀ s ws x y lf, I s → s.way = ws ++ [(x, y :: lf)] → s.met y ≠ 0 → s.part y ≠ 0 → I (s.goes (ws ++ [(x, lf)])) ∧ m (s.goes (ws ++ [(x, lf)])) < m s

/-- a search where no line is in a circle. -/
structure Sr (l : List Ga) (P : Nat → Prop) (S0 : List Nat) (E : Nat → Prop) (s : Ps) : Prop where
  rea : s.reached = s.met
  wai : s.waiting = s.way.map Prod.fst
  par : ∀ y, s.part y = if y ∈ s.out then s.met y else 0
  nd : (s.out ++ s.way.map Prod.fst).Nodup
  lt : ∀ x ∈ s.out ++ s.way.map Prod.fst, x < l.length
  met : ∀ x, s.met x ≠ 0 ↔ x ∈ s.out ++ s.way.map Prod.fst
  top : ∀ x, s.met x ≤ ((s.out ++ s.way.map Prod.fst).length : Int)
  inj : ∀ x y, s.met x = s.met y → s.met x ≠ 0 → x = y
  ord : ∀ (i x y : Nat), s.out[i]? = some x → Leans l x y → ∃ j, j < i ∧ s.out[j]? = some y
  chain : ∀ (k : Nat) (a b : Nat × List Nat), s.way[k]? = some a → s.way[k + 1]? = some b → Leans l a.1 b.1
  left : ∀ (k : Nat) (a : Nat × List Nat), s.way[k]? = some a → ∀ y, Leans l a.1 y → y ∈ a.2 ∨ y ∈ s.out ∨ (∃ b, s.way[k + 1]? = some b ∧ b.1 = y) ∨ (k + 1 = s.way.length ∧ E y)
  leftL : ∀ a ∈ s.way, ∀ y ∈ a.2, Leans l a.1 y
  allow : ∀ x ∈ s.out ++ s.way.map Prod.fst, P x
  keep : ∀ x ∈ S0, x ∈ s.out ++ s.way.map Prod.fst
def Ps.left (n : Nat) (s : Ps) : Nat := 5 * (n - (s.out ++ s.way.map Prod.fst).length) + (s.way.map fun a => a.2.length + 1).sum

theorem leanN_mem {l : List Ga} (hl : ∀ (i : Nat) (g : Ga), l[i]? = some g → ∀ a ∈ leansOn g, 0 ≤ a ∧ a < (l.length : Int)) (x y : Nat) : y ∈ leanN l x ↔ Leans l x y := by
  unfold leanN Leans
  cases h : l[x]? with
  | none => simp
  | some g =>
    simp only [List.mem_map, Option.some.injEq, exists_eq_left']
    constructor
    · rintro ⟨a, ha, rfl⟩
      rw [Int.toNat_of_nonneg (hl x g h a ha).1]
      exact ha
    · intro hy
      exact ⟨_, hy, by simp⟩
theorem leanN_len (l : List Ga) (x : Nat) : (leanN l x).length ≤ 3 := by
  unfold leanN
  cases l[x]? with
  | none => simp
  | some g =>
    simp only [List.length_map]
    unfold leansOn
    split
    · simp
    · split <;> simp
theorem few_of_nodup {n : Nat} {L : List Nat} (hn : L.Nodup) (hl : ∀ x ∈ L, x < n) : L.length ≤ n := by
  apply Classical.byContradiction
  intro hno
  have hat : ∀ k, k ≤ n → k < L.length := fun k hk => by omega
  obtain ⟨a, b, hab, hb, e⟩ := holes n (fun k => L.getD k 0) (fun k hk => by
    show L.getD k 0 < n
    rw [List.getD_eq_getElem?_getD, List.getElem?_eq_getElem (hat k hk)]
    exact hl _ (List.getElem_mem _))
  have e2 : L.getD a 0 = L.getD b 0 := e
  rw [List.getD_eq_getElem?_getD, List.getD_eq_getElem?_getD, List.getElem?_eq_getElem (hat a (by omega)), List.getElem?_eq_getElem (hat b hb)] at e2
  have := (List.getElem?_inj (hat a (by omega)) hn).1 (show L[a]? = L[b]? by rw [List.getElem?_eq_getElem (hat a (by omega)), List.getElem?_eq_getElem (hat b hb)]; exact congrArg some e2)
  omega
theorem way_chain {l : List Ga} {way : List (Nat × List Nat)} (h : ∀ (k : Nat) (a b : Nat × List Nat), way[k]? = some a → way[k + 1]? = some b → Leans l a.1 b.1) : ∀ (d k : Nat) (a b : Nat × List Nat), way[k]? = some a → way[k + d + 1]? = some b → Way l a.1 b.1 := by
  intro d
  induction d with
  | zero => intro k a b ha hb; exact .one (h k a b ha hb)
  | succ d ih =>
    intro k a b ha hb
    have hk : k + d + 1 < way.length := by
      have := (List.getElem?_eq_some_iff.1 hb).1
      omega
    have hm : way[k + d + 1]? = some way[k + d + 1] := List.getElem?_eq_getElem hk
    exact way_snoc (ih k a _ ha hm) (h _ _ _ hm hb)

section
variable {l : List Ga} {P : Nat → Prop} {S0 : List Nat} {E : Nat → Prop} {s : Ps}
theorem Sr.ok (hl : ∀ (i : Nat) (g : Ga), l[i]? = some g → ∀ a ∈ leansOn g, 0 ≤ a ∧ a < (l.length : Int)) (h : Sr l P S0 E s) : s.Ok l := by
  have hfew := few_of_nodup h.nd h.lt
  rw [List.length_append, List.length_map] at hfew
  refine ⟨fun a ha => ⟨h.lt _ (List.mem_append_right _ (List.mem_map_of_mem ha)), fun y hy => ?_⟩, fun x hx => h.lt x (List.mem_append_right _ (by rw [← h.wai]; exact hx)), by omega, by rw [h.wai, List.length_map]; omega⟩
  obtain ⟨g, hg, hy2⟩ := h.leftL a ha y hy
  have := hl _ g hg _ hy2
  omega
theorem Sr.at_last (ws : List (Nat × List Nat)) (a : Nat × List Nat) : (ws ++ [a])[ws.length]? = some a := by simp
/-- what is met, and not out, is on the way. -/
theorem Sr.no_again (hf : ∀ i, ¬ Way l i i) (h : Sr l P S0 E s) {ws : List (Nat × List Nat)} {x y : Nat} {lf : List Nat} (hw : s.way = ws ++ [(x, y :: lf)]) (hm : s.met y ≠ 0) : s.part y ≠ 0 := by
  intro hp
  have hy := (h.met y).1 hm
  have hno : y ∉ s.out := fun ho => by
    have := h.par y
    rw [if_pos ho] at this
    exact hm (by rw [← this]; exact hp)
  have hyw : y ∈ s.way.map Prod.fst := by
    rcases List.mem_append.1 hy with h1 | h1
    · exact absurd h1 hno
    · exact h1
  obtain ⟨a, ha, rfl⟩ := List.mem_map.1 hyw
  obtain ⟨k, hk, hka⟩ := List.getElem_of_mem ha
  have hka2 : s.way[k]? = some a := by rw [List.getElem?_eq_getElem hk, hka]
  have hx : s.way[ws.length]? = some (x, a.1 :: lf) := by rw [hw]; exact Sr.at_last _ _
  have hlean : Leans l x a.1 := h.leftL (x, a.1 :: lf) (by rw [hw]; simp) a.1 (by simp)
  have hkl : k ≤ ws.length := by rw [hw, List.length_append, List.length_singleton] at hk; omega
  by_cases hkw : k = ws.length
  · rw [hkw] at hka2
    rw [hx] at hka2
    have e1 : x = a.1 := congrArg Prod.fst (Option.some.inj hka2)
    rw [← e1] at hlean
    exact hf _ (.one hlean)
  · have := way_chain h.chain (ws.length - k - 1) k a (x, a.1 :: lf) hka2 (by rw [show k + (ws.length - k - 1) + 1 = ws.length by omega]; exact hx)
    exact hf _ (way_snoc this hlean)
theorem Sr.take (h : Sr l P S0 (fun _ => False) s) {ws : List (Nat × List Nat)} {x y : Nat} {lf : List Nat} (hw : s.way = ws ++ [(x, y :: lf)]) : Sr l P S0 (fun z => z = y) (s.goes (ws ++ [(x, lf)])) := by
  have hm : (ws ++ [(x, lf)]).map Prod.fst = s.way.map Prod.fst := by rw [hw]; simp
  have hat : ∀ (k : Nat) (a : Nat × List Nat), (ws ++ [(x, lf)])[k]? = some a → ∃ b, s.way[k]? = some b ∧ b.1 = a.1 ∧ (∀ z, z ∈ b.2 → z ∈ a.2 ∨ (k + 1 = (ws ++ [(x, lf)]).length ∧ z = y)) ∧ ∀ z ∈ a.2, z ∈ b.2 := fun k a hk => by
    by_cases hlt : k < ws.length
    · rw [List.getElem?_append_left hlt] at hk
      exact ⟨a, by rw [hw, List.getElem?_append_left hlt]; exact hk, rfl, fun z hz => .inl hz, fun z hz => hz⟩
    · have hk2 := (List.getElem?_eq_some_iff.1 hk).1
      rw [List.length_append, List.length_singleton] at hk2
      obtain rfl : k = ws.length := by omega
      rw [Sr.at_last] at hk
      obtain rfl := Option.some.inj hk
      refine ⟨(x, y :: lf), by rw [hw]; exact Sr.at_last _ _, rfl, fun z hz => ?_, fun z hz => by simp [show z ∈ lf from hz]⟩
      rcases List.mem_cons.1 hz with rfl | hz
      · exact .inr ⟨by simp, rfl⟩
      · exact .inl hz
  have hback : ∀ (k : Nat) (b : Nat × List Nat), s.way[k]? = some b → ∃ a, (ws ++ [(x, lf)])[k]? = some a ∧ a.1 = b.1 := fun k b hk => by
    have hk2 := (List.getElem?_eq_some_iff.1 hk).1
    have hk3 : k < (ws ++ [(x, lf)]).length := by rw [hw] at hk2; simpa using hk2
    obtain ⟨b', hb', e, _⟩ := hat k _ (List.getElem?_eq_getElem hk3)
    rw [hk] at hb'
    obtain rfl := Option.some.inj hb'
    exact ⟨_, List.getElem?_eq_getElem hk3, e.symm⟩
  refine ⟨h.rea, by show s.waiting = (ws ++ [(x, lf)]).map Prod.fst; rw [hm]; exact h.wai, h.par, ?_, ?_, ?_, ?_, h.inj, h.ord, fun k a b ha hb => ?_, fun k a ha z hz => ?_, fun a ha z hz => ?_, ?_, ?_⟩
  · show (s.out ++ (ws ++ [(x, lf)]).map Prod.fst).Nodup
    rw [hm]; exact h.nd
  · show ∀ z ∈ s.out ++ (ws ++ [(x, lf)]).map Prod.fst, z < l.length
    rw [hm]; exact h.lt
  · show ∀ z, s.met z ≠ 0 ↔ z ∈ s.out ++ (ws ++ [(x, lf)]).map Prod.fst
    rw [hm]; exact h.met
  · show ∀ z, s.met z ≤ ((s.out ++ (ws ++ [(x, lf)]).map Prod.fst).length : Int)
    rw [hm]; exact h.top
  · obtain ⟨a', ha', ea, _⟩ := hat k a ha
    obtain ⟨b', hb', eb, _⟩ := hat (k + 1) b hb
    rw [← ea, ← eb]
    exact h.chain k a' b' ha' hb'
  · obtain ⟨a', ha', ea, h1, h2⟩ := hat k a ha
    rw [← ea] at hz
    rcases h.left k a' ha' z hz with hz2 | hz2 | ⟨b, hb, e⟩ | ⟨_, hno⟩
    · rcases h1 z hz2 with hz3 | hz3
      · exact .inl hz3
      · exact .inr (.inr (.inr hz3))
    · exact .inr (.inl hz2)
    · obtain ⟨b', hb', e'⟩ := hback (k + 1) b hb
      exact .inr (.inr (.inl ⟨b', hb', e'.trans e⟩))
    · exact hno.elim
  · have ha : a ∈ ws ++ [(x, lf)] := ha
    obtain ⟨k, hk, e⟩ := List.getElem_of_mem ha
    obtain ⟨a', ha', ea, _, h2⟩ := hat k a (by rw [List.getElem?_eq_getElem hk, e])
    rw [← ea]
    exact h.leftL a' (List.mem_of_getElem? ha') z (h2 z hz)
  · show ∀ z ∈ s.out ++ (ws ++ [(x, lf)]).map Prod.fst, P z
    rw [hm]; exact h.allow
  · show ∀ z ∈ S0, z ∈ s.out ++ (ws ++ [(x, lf)]).map Prod.fst
    rw [hm]; exact h.keep
theorem Sr.settle (h : Sr l P S0 E s) (hE : ∀ z, E z → z ∈ s.out) : Sr l P S0 (fun _ => False) s :=
  ⟨h.rea, h.wai, h.par, h.nd, h.lt, h.met, h.top, h.inj, h.ord, h.chain, fun k a ha z hz => by
    rcases h.left k a ha z hz with h1 | h1 | h1 | ⟨_, h1⟩
    · exact .inl h1
    · exact .inr (.inl h1)
    · exact .inr (.inr (.inl h1))
    · exact .inr (.inl (hE z h1)), h.leftL, h.allow, h.keep⟩
/-- a line is met. -/
theorem Sr.meet (hl : ∀ (i : Nat) (g : Ga), l[i]? = some g → ∀ a ∈ leansOn g, 0 ≤ a ∧ a < (l.length : Int)) (h : Sr l P S0 E s) {y : Nat} (hE : ∀ z, E z → z = y) (hy : y < l.length) (hm : s.met y = 0) (hP : P y)
    (hlast : ∀ ws a, s.way = ws ++ [a] → Leans l a.1 y) : Sr l P S0 (fun _ => False) (s.meet l y) := by
  have hno : y ∉ s.out ++ s.way.map Prod.fst := fun hin => (h.met y).2 hin hm
  have hmap : (s.way ++ [(y, leanN l y)]).map Prod.fst = s.way.map Prod.fst ++ [y] := by simp
  have hnum : s.number = ((s.out ++ s.way.map Prod.fst).length : Int) + 1 := by
    unfold Ps.number
    rw [h.wai, List.length_append]
    simp
    omega
  have happ : s.out ++ (s.way.map Prod.fst ++ [y]) = (s.out ++ s.way.map Prod.fst) ++ [y] := by rw [List.append_assoc]
  refine ⟨?_, ?_, fun z => ?_, ?_, ?_, fun z => ?_, fun z => ?_, fun a b hab ha => ?_, h.ord, fun k a b ha hb => ?_, fun k a ha z hz => ?_, fun a ha z hz => ?_, ?_, ?_⟩
  · show upd s.reached y s.number = upd s.met y s.number
    rw [h.rea]
  · show s.waiting ++ [y] = (s.way ++ [(y, leanN l y)]).map Prod.fst
    rw [hmap, h.wai]
  · show s.part z = if z ∈ s.out then upd s.met y s.number z else 0
    rw [h.par z]
    by_cases hz : z ∈ s.out
    · rw [if_pos hz, if_pos hz, upd, if_neg (by rintro rfl; exact hno (List.mem_append_left _ hz))]
    · rw [if_neg hz, if_neg hz]
  · show (s.out ++ (s.way ++ [(y, leanN l y)]).map Prod.fst).Nodup
    rw [hmap, happ, List.nodup_append]
    exact ⟨h.nd, by simp, fun a ha b hb e => hno (by simp at hb; rw [← hb, ← e]; exact ha)⟩
  · show ∀ z ∈ s.out ++ (s.way ++ [(y, leanN l y)]).map Prod.fst, z < l.length
    rw [hmap, happ]
    intro z hz
    rcases List.mem_append.1 hz with hz | hz
    · exact h.lt z hz
    · simp at hz; omega
  · show upd s.met y s.number z ≠ 0 ↔ z ∈ s.out ++ (s.way ++ [(y, leanN l y)]).map Prod.fst
    rw [hmap, happ, List.mem_append, upd]
    by_cases hz : z = y
    · subst hz
      rw [if_pos rfl, hnum]
      simp
      omega
    · rw [if_neg hz, h.met z]
      simp [hz]
  · show upd s.met y s.number z ≤ ((s.out ++ (s.way ++ [(y, leanN l y)]).map Prod.fst).length : Int)
    rw [hmap, happ, List.length_append, List.length_singleton, upd]
    by_cases hz : z = y
    · rw [if_pos hz, hnum]; omega
    · rw [if_neg hz]
      have := h.top z
      omega
  · have hab2 : upd s.met y s.number a = upd s.met y s.number b := hab
    have ha2 : upd s.met y s.number a ≠ 0 := ha
    unfold upd at hab2 ha2
    by_cases ea : a = y
    · by_cases eb : b = y
      · rw [ea, eb]
      · rw [if_pos ea, if_neg eb] at hab2
        have := h.top b
        omega
    · by_cases eb : b = y
      · rw [if_neg ea, if_pos eb] at hab2
        have := h.top a
        omega
      · rw [if_neg ea, if_neg eb] at hab2
        rw [if_neg ea] at ha2
        exact h.inj a b hab2 ha2
  · have ha : (s.way ++ [(y, leanN l y)])[k]? = some a := ha
    have hb : (s.way ++ [(y, leanN l y)])[k + 1]? = some b := hb
    have hk := (List.getElem?_eq_some_iff.1 hb).1
    rw [List.length_append, List.length_singleton] at hk
    rw [List.getElem?_append_left (by omega)] at ha
    by_cases hlt : k + 1 < s.way.length
    · rw [List.getElem?_append_left hlt] at hb
      exact h.chain k a b ha hb
    · have e : k + 1 = s.way.length := by omega
      rw [e, Sr.at_last] at hb
      obtain rfl := Option.some.inj hb
      refine hlast (s.way.take k) a ?_
      have := List.take_append_getElem (l := s.way) (i := k) (by omega)
      rw [(List.getElem?_eq_some_iff.1 ha).2] at this
      rw [this, List.take_of_length_le (by omega)]
  · have ha : (s.way ++ [(y, leanN l y)])[k]? = some a := ha
    have hk := (List.getElem?_eq_some_iff.1 ha).1
    rw [List.length_append, List.length_singleton] at hk
    by_cases hlt : k < s.way.length
    · rw [List.getElem?_append_left hlt] at ha
      rcases h.left k a ha z hz with h1 | h1 | ⟨b, hb, e⟩ | ⟨hk1, he⟩
      · exact .inl h1
      · exact .inr (.inl h1)
      · exact .inr (.inr (.inl ⟨b, by show (s.way ++ [(y, leanN l y)])[k + 1]? = some b; rw [List.getElem?_append_left (List.getElem?_eq_some_iff.1 hb).1]; exact hb, e⟩))
      · exact .inr (.inr (.inl ⟨(y, leanN l y), by show (s.way ++ [(y, leanN l y)])[k + 1]? = some (y, leanN l y); rw [hk1]; exact Sr.at_last _ _, (hE z he).symm⟩))
    · obtain rfl : k = s.way.length := by omega
      rw [Sr.at_last] at ha
      obtain rfl := Option.some.inj ha
      exact .inl ((leanN_mem hl y z).2 hz)
  · have ha : a ∈ s.way ++ [(y, leanN l y)] := ha
    rcases List.mem_append.1 ha with ha | ha
    · exact h.leftL a ha z hz
    · obtain rfl := List.mem_singleton.1 ha
      exact (leanN_mem hl y z).1 hz
  · show ∀ z ∈ s.out ++ (s.way ++ [(y, leanN l y)]).map Prod.fst, P z
    rw [hmap, happ]
    intro z hz
    rcases List.mem_append.1 hz with hz | hz
    · exact h.allow z hz
    · simp at hz; rw [hz]; exact hP
  · show ∀ z ∈ S0, z ∈ s.out ++ (s.way ++ [(y, leanN l y)]).map Prod.fst
    rw [hmap, happ]
    intro z hz
    exact List.mem_append_left _ (h.keep z hz)
/-- a line comes out. -/
theorem Sr.back (h : Sr l P S0 (fun _ => False) s) {ws : List (Nat × List Nat)} {x : Nat} (hw : s.way = ws ++ [(x, [])]) : s.waiting = ws.map Prod.fst ++ [x] ∧ s.part x = 0 ∧ s.met x ≠ 0 ∧ Sr l P S0 (fun _ => False) ((s.goes ws).comeOut (ws.map Prod.fst) [] x) := by
  have hmap : s.way.map Prod.fst = ws.map Prod.fst ++ [x] := by rw [hw]; simp
  have hxin : x ∈ s.out ++ s.way.map Prod.fst := by rw [hmap]; simp
  have hxo : x ∉ s.out := fun ho => by
    have := h.nd
    rw [hmap, List.nodup_append] at this
    exact this.2.2 x ho x (by simp) rfl
  have hperm : ((s.out ++ [x]) ++ ws.map Prod.fst).Perm (s.out ++ s.way.map Prod.fst) := by
    rw [hmap, List.append_assoc]
    exact List.Perm.append_left _ List.perm_append_comm
  have hmx := (h.met x).2 hxin
  have hpx : s.part x = 0 := by rw [h.par x, if_neg hxo]
  have hget : ∀ (k : Nat) (a : Nat × List Nat), ws[k]? = some a → s.way[k]? = some a := fun k a hk => by rw [hw, List.getElem?_append_left (List.getElem?_eq_some_iff.1 hk).1]; exact hk
  refine ⟨by rw [h.wai, hmap], hpx, hmx, ?_⟩
  refine ⟨h.rea, rfl, fun z => ?_, ?_, ?_, fun z => ?_, fun z => ?_, h.inj, fun i a b ha hb => ?_, fun k a b ha hb => h.chain k a b (hget k a ha) (hget _ b hb), fun k a ha z hz => ?_, fun a ha z hz => h.leftL a (by rw [hw]; exact List.mem_append_left _ ha) z hz, ?_, ?_⟩
  · show (if z ∈ [x] then s.met x else s.part z) = if z ∈ s.out ++ [x].reverse then s.met z else 0
    by_cases hz : z = x
    · subst hz; simp
    · rw [if_neg (by simpa using hz), h.par z]
      simp [hz]
  · show ((s.out ++ [x].reverse) ++ ws.map Prod.fst).Nodup
    exact hperm.nodup_iff.2 h.nd
  · show ∀ z ∈ (s.out ++ [x].reverse) ++ ws.map Prod.fst, z < l.length
    exact fun z hz => h.lt z (hperm.mem_iff.1 hz)
  · show s.met z ≠ 0 ↔ z ∈ (s.out ++ [x].reverse) ++ ws.map Prod.fst
    rw [h.met z]
    exact hperm.mem_iff.symm
  · show s.met z ≤ (((s.out ++ [x].reverse) ++ ws.map Prod.fst).length : Int)
    rw [show ((s.out ++ [x].reverse) ++ ws.map Prod.fst).length = _ from hperm.length_eq]
    exact h.top z
  · have ha : (s.out ++ [x])[i]? = some a := ha
    have hi := (List.getElem?_eq_some_iff.1 ha).1
    rw [List.length_append, List.length_singleton] at hi
    by_cases hlt : i < s.out.length
    · rw [List.getElem?_append_left hlt] at ha
      obtain ⟨j, hj, hjb⟩ := h.ord i a b ha hb
      exact ⟨j, hj, by show (s.out ++ [x])[j]? = some b; rw [List.getElem?_append_left (by omega)]; exact hjb⟩
    · obtain rfl : i = s.out.length := by omega
      simp at ha
      subst ha
      rcases h.left ws.length (x, []) (by rw [hw]; exact Sr.at_last _ _) b hb with h1 | h1 | ⟨c, hc, _⟩ | ⟨_, hno⟩
      · simp at h1
      · obtain ⟨j, hj, e⟩ := List.getElem_of_mem h1
        exact ⟨j, hj, by show (s.out ++ [x])[j]? = some b; rw [List.getElem?_append_left hj, List.getElem?_eq_getElem hj, e]⟩
      · have := (List.getElem?_eq_some_iff.1 hc).1
        rw [hw, List.length_append, List.length_singleton] at this
        omega
      · exact hno.elim
  · have ha : ws[k]? = some a := ha
    rcases h.left k a (hget k a ha) z hz with h1 | h1 | ⟨b, hb, e⟩ | ⟨_, hno⟩
    · exact .inl h1
    · exact .inr (.inl (List.mem_append_left _ h1))
    · by_cases hlt : k + 1 < ws.length
      · rw [hw, List.getElem?_append_left hlt] at hb
        exact .inr (.inr (.inl ⟨b, hb, e⟩))
      · have hk := (List.getElem?_eq_some_iff.1 ha).1
        rw [hw, show k + 1 = ws.length by omega, Sr.at_last] at hb
        obtain rfl := Option.some.inj hb
        exact .inr (.inl (by show z ∈ s.out ++ [x]; rw [← e]; simp))
    · exact hno.elim
  · show ∀ z ∈ (s.out ++ [x].reverse) ++ ws.map Prod.fst, P z
    exact fun z hz => h.allow z (hperm.mem_iff.1 hz)
  · show ∀ z ∈ S0, z ∈ (s.out ++ [x].reverse) ++ ws.map Prod.fst
    exact fun z hz => hperm.mem_iff.2 (h.keep z hz)
end

theorem Sr.keeps {l : List Ga} (hl : ∀ (i : Nat) (g : Ga), l[i]? = some g → ∀ a ∈ leansOn g, 0 ≤ a ∧ a < (l.length : Int)) (hf : ∀ i, ¬ Way l i i) (P : Nat → Prop) (hP : ∀ x y, P x → Leans l x y → P y) (S0 : List Nat) : Keeps l (Sr l P S0 fun _ => False) (Ps.left l.length) := by
  refine ⟨fun s h => h.ok hl, fun s ws x h hw hr => ?_, fun s ws x h hw hr => absurd (by rw [h.rea]) hr, fun s ws x y lf h hw hm => ?_, fun s ws x y lf h hw hm hp => absurd hp (h.no_again hf hw hm), fun s ws x y lf h hw hm hp => ?_⟩
  · obtain ⟨h1, h2, h3, h4⟩ := h.back hw
    refine ⟨ws.map Prod.fst, [], h1, by simp, h2, h3, h4, ?_⟩
    show 5 * (l.length - ((s.out ++ [x].reverse) ++ ws.map Prod.fst).length) + (ws.map fun a => a.2.length + 1).sum < 5 * (l.length - (s.out ++ s.way.map Prod.fst).length) + (s.way.map fun a => a.2.length + 1).sum
    rw [hw]
    simp
  · have hlean : Leans l x y := h.leftL (x, y :: lf) (by rw [hw]; simp) y (by simp)
    obtain ⟨g, hg, hy2⟩ := hlean
    have hb := hl x g hg _ hy2
    have hno : y ∉ s.out ++ s.way.map Prod.fst := fun hin => (h.met y).2 hin hm
    have hfull : (s.out ++ s.way.map Prod.fst).length < l.length := by
      have := few_of_nodup (n := l.length) (L := (s.out ++ s.way.map Prod.fst) ++ [y]) (List.nodup_append.2 ⟨h.nd, by simp, fun a ha b hb e => hno (by simp at hb; rw [← hb, ← e]; exact ha)⟩) (fun z hz => by
        rcases List.mem_append.1 hz with hz | hz
        · exact h.lt z hz
        · simp at hz; omega)
      rw [List.length_append, List.length_singleton] at this
      omega
    refine ⟨?_, ?_⟩
    · refine Sr.meet hl (h.take hw) (fun z hz => hz) (by omega) hm (hP x y (h.allow x (by rw [hw]; simp)) ⟨g, hg, hy2⟩) fun vs a e => ?_
      have e2 : ws ++ [(x, lf)] = vs ++ [a] := e
      have := List.append_inj_right' e2 rfl
      obtain rfl := List.singleton_inj.1 this
      exact ⟨g, hg, hy2⟩
    · show 5 * (l.length - (s.out ++ ((ws ++ [(x, lf)]) ++ [(y, leanN l y)]).map Prod.fst).length) + (((ws ++ [(x, lf)]) ++ [(y, leanN l y)]).map fun a => a.2.length + 1).sum < 5 * (l.length - (s.out ++ s.way.map Prod.fst).length) + (s.way.map fun a => a.2.length + 1).sum
      have hq := leanN_len l y
      rw [hw] at hfull ⊢
      simp at hfull ⊢
      omega
  · have hyo : y ∈ s.out := by
      apply Classical.byContradiction
      intro hn
      exact hp (by rw [h.par y, if_neg hn])
    refine ⟨(h.take hw).settle (fun z hz => by rw [hz]; exact hyo), ?_⟩
    show 5 * (l.length - (s.out ++ (ws ++ [(x, lf)]).map Prod.fst).length) + ((ws ++ [(x, lf)]).map fun a => a.2.length + 1).sum < 5 * (l.length - (s.out ++ s.way.map Prod.fst).length) + (s.way.map fun a => a.2.length + 1).sum
    rw [hw]
    simp
end PureNet
/-
  Rows of numbers by functions; the entries of a circuit's lines, one by one.
-/
namespace PureNet
set_option maxRecDepth 100000

end PureNet

namespace Go.Proofs.YtfmmmhcpdinhgabGreatDoor
open Go.RowKit Go.Deep PureNet ShfKit

/-- a row of numbers. -/
def rowF (n : Nat) (f : Nat → Int) : List Value := (List.range n).map fun x => .int .i64 (f x)
theorem rowF_len (n : Nat) (f : Nat → Int) : (rowF n f).length = n := by simp [rowF]
theorem rowF_at (n : Nat) (f : Nat → Int) (j : Nat) (h : j < n) : (rowF n f)[j]? = some (.int .i64 (f j)) := by simp [rowF, h]
theorem rowF_congr {n : Nat} {f g : Nat → Int} (h : ∀ j, j < n → f j = g j) : rowF n f = rowF n g := by
  unfold rowF
  refine List.map_congr_left fun x hx => ?_
  rw [h x (by simpa using hx)]
theorem rowF_set (n : Nat) (f : Nat → Int) (j : Nat) (u : Int) : (rowF n f).set j (.int .i64 u) = rowF n (fun x => if x = j then u else f x) := by
  apply List.ext_getElem?
  intro k
  rw [List.getElem?_set]
  by_cases hk : k < n
  · rw [rowF_at n _ k hk, rowF_at n _ k hk]
    by_cases hj : j = k
    · subst hj
      rw [if_pos rfl, if_pos (by rw [rowF_len]; exact hk), if_pos rfl]
    · rw [if_neg hj, if_neg (fun e => hj e.symm)]
  · have h1 : (rowF n f)[k]? = none := List.getElem?_eq_none (by rw [rowF_len]; omega)
    have h2 : (rowF n (fun x => if x = j then u else f x))[k]? = none := List.getElem?_eq_none (by rw [rowF_len]; omega)
    rw [h1, h2]
    split
    · rw [if_neg (by rw [rowF_len]; omega)]
    · rfl
theorem rowF_snoc (n : Nat) (f : Nat → Int) (u : Int) (g : Nat → Int) (h : ∀ j, j < n → f j = g j) (hu : g n = u) : rowF n f ++ [.int .i64 u] = rowF (n + 1) g := by
  rw [rowF_congr h]
  unfold rowF
  rw [List.range_succ, List.map_append, ← hu]
  rfl
/-- append of a number to one of several rows. -/
theorem fam_app {ops : Array Oper} {rest : List Oper} {o : Oper} {a : Act} {Q : Exit → Act → World → Prop} {w W : World} {L : List Rw} (hgd : o.guard = none) (sl y : Operand)
    (ho : o.op = .call { callee := .builtin .append, args := #[sl, y], argTypes := #[22, 22] }) (hF : Fam W w.heap.size 3 1 L) (hB : Below w.heap.size w W) (i : Nat) (x : Rw) (hx : L[i]? = some x) (u : Int) (t : TypeId) (ad : Nat) (had : ad = W.heap.size)
    (hs : a.eval sl = x.1) (hy : a.eval y = .slice (some ⟨ad, 0, none⟩) 1 1) (hn : x.2.1 ≤ 1099511627776)
    (hK : ∀ sx cx w', Fam w' w.heap.size 3 1 (L.set i (.slice sx (x.2.1 + 1) cx, x.2.1 + 1, x.2.2 ++ [.int .i64 u])) → Below w.heap.size w w' → (∀ (k : Nat) (cs : Array Value) (tt : Nat) (fz : Nat × Nat), W.heap[k]? = some (Obj.cells cs tt fz) → tt ≠ 3 → w'.heap[k]? = some (Obj.cells cs tt fz)) → wpList Tryz.prog ops Q rest (a.put o.dst (.slice sx (x.2.1 + 1) cx)) w') :
    wpList Tryz.prog ops Q (o :: rest) a (W.alloc (.cells #[.int .i64 u] t)) := by
  subst had
  obtain ⟨ii, hi, hz0, hz1, hz2⟩ := info_parts info3
  have hb2 : Below W.heap.size W (W.alloc (.cells #[.int .i64 u] t)) := (Below.refl _ _).alloc (Nat.le_refl _) _
  have hF2 := hF.below hb2
  have hB2 : Below w.heap.size w (W.alloc (.cells #[.int .i64 u] t)) := hB.trans (hb2.mono hB.size)
  have hown := hF2.own i x hx
  refine wpList_append_far (P := Tryz.prog) (W.alloc (.cells #[.int .i64 u] t)) hgd sl y 22 ho w.heap.size 3 ii (.int .i64 0) 1 8 Tryz.underlying22 hi hz0 hz1 hz2 rfl (by decide) x.1 x.2.1 x.2.2 hs hown ⟨W.heap.size, 0, none⟩ 1 1 [.int .i64 u] hy rfl (fun j v hv => by
      rw [add_zero_addr, cell_row (heap_alloc_new W _)]
      simpa using hv) (fun v hv => by simp at hv; subst hv; rfl) (by unfold maxLen; omega) (by omega) hB2.size ?_
  intro v' w' o1 hf
  obtain ⟨sx, cx, rfl⟩ := own_shape o1
  have hgr : (∃ g, (W.alloc (.cells #[.int .i64 u] t)).grownBy w' g ∧ ∀ k, g = some k → x.1.ownBlock = some k) := by
    rcases hf with ⟨_, hg⟩ | ⟨_, hg⟩
    · exact ⟨_, hg, fun k e => e⟩
    · exact ⟨none, hg, fun k e => by cases e⟩
  obtain ⟨g, hg, hgx⟩ := hgr
  refine hK sx cx w' (hF2.turn (y := (.slice sx (x.2.1 + 1) cx, x.2.1 + 1, x.2.2 ++ [.int .i64 u])) hx o1 hf) (hB2.grown hg hB2.size (fun k e => (own_block hown (hgx k e)).1)) (fun k cs tt fz hk htt => ?_)
  have h1 : (W.alloc (.cells #[.int .i64 u] t)).heap[k]? = some (Obj.cells cs tt fz) := (hb2.block k (Array.getElem?_eq_some_iff.1 hk).1).trans hk
  refine (hg.block k (Array.getElem?_eq_some_iff.1 h1).1 (fun e => ?_)).trans h1
  exact own_ne hown h1 htt (hgx k e.symm)
end Go.Proofs.YtfmmmhcpdinhgabGreatDoor
/-
  The document's own Layers.
-/
namespace Go.Proofs.YtfmmmhcpdinhgabGreatDoor
open Go.RowKit Go.Deep PureNet ShfKit
set_option maxRecDepth 100000

/-- a list of places as a row. -/
def placesV (out : List Nat) : List Value := rowF out.length fun k => (out.getD k 0 : Int)
theorem places_snoc (out : List Nat) (x : Nat) : placesV out ++ [.int .i64 (x : Int)] = placesV (out ++ [x]) := by
  unfold placesV
  rw [List.length_append, List.length_singleton]
  refine rowF_snoc _ _ _ _ (fun j hj => ?_) ?_
  · simp [List.getElem?_append_left hj]
  · simp


section
variable {w W : World} {l : List Ga} {wv fv nv uv ov : Value} {wf : Nat → Int} {m : Nat} {out : List Nat}
end

end Go.Proofs.YtfmmmhcpdinhgabGreatDoor
