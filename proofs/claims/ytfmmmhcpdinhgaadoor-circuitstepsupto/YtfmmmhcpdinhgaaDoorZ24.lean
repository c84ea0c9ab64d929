import Derived.Test.YtfmmmhcpdinhgaaDoorZ23
/-
  The law's own twin.
-/
namespace Go.Proofs.YtfmmmhcpdinhgaaDoor
open Go.RowKit Go.Deep PureNet ShfKit
set_option maxRecDepth 100000

set_option maxHeartbeats 2000000 in
theorem twin_any (c : Net) (sg so : Option Addr) (cg co : Nat) (w : World) (hc : CirAt w c sg so) (hsg : sg = none → cg = 0) (hso : so = none → co = 0) (hl : c.gates.length ≤ 1099511627776) (hlo : c.outs.length ≤ 1099511627776) :
    Calls Tryd.prog 20 #[cirV c sg cg so co] w fun e w' => ∃ gg kg go ko, e = .returned (cirV c (some ⟨gg, 0, none⟩) kg (some ⟨go, 0, none⟩) ko) ∧ TwinAt w' w.heap.size c gg kg go ko ∧ Below w.heap.size w w' := by
  obtain ⟨x, hx⟩ : ∃ x, x = (w.alloc (Obj.cells #[Value.string c.name, Value.slice sg c.gates.length cg, Value.slice so c.outs.length co] 26)).alloc (Obj.cells #[Value.string ⟨#[]⟩, Value.slice none 0 0, Value.slice none 0 0] 26) := ⟨_, rfl⟩
  have s1 : (w.alloc (Obj.cells #[Value.string c.name, Value.slice sg c.gates.length cg, Value.slice so c.outs.length co] 26)).heap.size = w.heap.size + 1 := by simp
  have R1 : Hid (x.heap[w.heap.size]? = some (.cells #[Value.string c.name, Value.slice sg c.gates.length cg, Value.slice so c.outs.length co] 26 (0, 0))) := by show _ = _; rw [hx, Below.heap_alloc _ _ _ (by omega)]; exact heap_alloc_new w _
  have R2 : Hid (x.heap[w.heap.size + 1]? = some (.cells #[Value.string ⟨#[]⟩, Value.slice none 0 0, Value.slice none 0 0] 26 (0, 0))) := by show _ = _; rw [hx, ← s1]; exact heap_alloc_new _ _
  have BX : Hid (Below w.heap.size w x) := by rw [hx]; exact ((Below.refl _ _).alloc (Nat.le_refl _) _).alloc (by omega) _
  have CE : Hid (∀ W, Below x.heap.size x W → (∀ j, W.cell? ⟨w.heap.size, j, none⟩ = (#[Value.string c.name, Value.slice sg c.gates.length cg, Value.slice so c.outs.length co] : Array Value)[j]?) ∧ w.heap.size < W.heap.size ∧ (∀ j, W.cell? ⟨w.heap.size + 1, j, none⟩ = (#[Value.string ⟨#[]⟩, Value.slice none 0 0, Value.slice none 0 0] : Array Value)[j]?) ∧ w.heap.size + 1 < W.heap.size ∧ ∀ j, W.frozen? ⟨w.heap.size + 1, j, none⟩ = false) := fun W hW => by
    have h1 := (hW.block _ (Array.getElem?_eq_some_iff.1 R1.out).1).trans R1.out
    have h2 := (hW.block _ (Array.getElem?_eq_some_iff.1 R2.out).1).trans R2.out
    exact ⟨fun j => cell_row h1 j, (Array.getElem?_eq_some_iff.1 h1).1, fun j => cell_row h2 j, (Array.getElem?_eq_some_iff.1 h2).1, fun j => unfrozen_row h2 j⟩
  have GX := hid (hc.below BX.out)
  have GN := hid (And.intro hsg hso)
  have LG : Hid (c.gates.length ≤ 1099511627776 ∧ c.outs.length ≤ 1099511627776) := ⟨hl, hlo⟩
  obtain ⟨d0, hb0, _⟩ := CE.out x (Below.refl _ _)
  have HX := hid hx
  clear hx s1 hc hsg hso hl hlo
  go_enter Tryd.func20, Tryd.ntmps20
  go_wp2_with (first
    | (rw [← HX.out])
    | (have q := O3; clear q; at_builtin; refine wpl_cells _ rfl _ _ 22 rfl x.heap.size 3 _ 1 8 Tryd.underlying22 info3 rfl (by decide) v2 c.outs.length (nu c.outs) rfl (ownsRow_below OB.out ((Below.refl _ _).alloc (Nat.le_refl _) _)) (some ⟨w3.heap.size, 0, none⟩) 2 2 [.int .i64 77, .int .i64 78] rfl rfl ⟨fun k u hu => ⟨w3.heap.size, 0, rfl, by simp, by rw [Nat.zero_add, cell_row (heap_alloc_new w3 _)]; simpa using hu⟩⟩ (fun e => by cases e) (fun u hu => by simp at hu; rcases hu with rfl | rfl <;> rfl) (by have := LG.out.2; unfold maxLen; omega) (by have := LG.out.2; omega) (by have := B3.out.size; simp; omega) ?_; intro v4 w4 o4 f4; have O4 := hid o4; have B4 : Hid (Below x.heap.size x w4) := f4.below (B3.out.alloc B3.out.size _) (Nat.le_trans B3.out.size (by simp)) (fun g hg => (own_block OB.out hg).1); have OC := hid (f4.other (ownsRow_below OB.out ((Below.refl _ _).alloc (Nat.le_refl _) _)) (ownsRow_below O3.out ((Below.refl _ _).alloc (Nat.le_refl _) _)) (by decide)); clear o4 f4)
    | (have q := O2; clear q; at_builtin; refine wpl_cells _ rfl _ _ 24 rfl x.heap.size 38 _ 6 56 Tryd.underlying24 info38 rfl (by decide) v1 c.gates.length (gas c.gates) rfl (ownsRow_below OA.out ((Below.refl _ _).alloc (Nat.le_refl _) _)) (some ⟨w2.heap.size, 0, none⟩) 2 2 (gas [roomG, roomG]) rfl rfl ⟨fun k u hu => ⟨w2.heap.size, 0, rfl, by simp, by rw [Nat.zero_add, cell_row (heap_alloc_new w2 _)]; simpa [gas, ga, roomG] using hu⟩⟩ (fun e => by cases e) (gas_one _) (by have := LG.out.1; unfold maxLen; omega) (by have := LG.out.1; omega) (by have := B2.out.size; simp; omega) ?_; intro v3 w3 o3 f3; have O3 := hid o3; have B3 : Hid (Below x.heap.size x w3) := f3.below (B2.out.alloc B2.out.size _) (Nat.le_trans B2.out.size (by simp)) (fun g hg => (own_block OA.out hg).1); have OB := hid (f3.other (ownsRow_below OA.out ((Below.refl _ _).alloc (Nat.le_refl _) _)) (ownsRow_below O2.out ((Below.refl _ _).alloc (Nat.le_refl _) _)) (by decide)); clear o3 f3)
    | (have q := O1; clear q; at_builtin; refine wpl_cells w1 rfl _ _ 22 rfl x.heap.size 3 _ 1 8 Tryd.underlying22 info3 rfl (by decide) (.slice none 0 0) 0 [] rfl (World.ownsRow_nil _ _ _ _) so c.outs.length co (nu c.outs) rfl (by simp [nu]) (GX.out.below B1.out).outs GN.out.2 (nus_one _) (by have := LG.out.2; unfold maxLen; omega) (by have := LG.out.2; omega) B1.out.size ?_; intro v2 w2 o2 f2; rw [Nat.zero_add, List.nil_append] at o2; have O2 := hid o2; have B12 : Hid (Below w1.heap.size w1 w2) := f2.below (Below.refl _ _) (Nat.le_refl _) (fun g hg => by simp [Value.ownBlock] at hg); have B2 : Hid (Below x.heap.size x w2) := B1.out.trans (B12.out.mono B1.out.size); have OA := hid (ownsRow_below O1.out B12.out); obtain ⟨d2, hb2, _⟩ := CE.out w2 B2.out; clear o2 f2)
    | (at_builtin; refine wpl_cells x rfl _ _ 24 rfl x.heap.size 38 _ 6 56 Tryd.underlying24 info38 rfl (by decide) (.slice none 0 0) 0 [] rfl (World.ownsRow_nil _ _ _ _) sg c.gates.length cg (gas c.gates) rfl (gas_length _) GX.out.gates GN.out.1 (gas_one _) (by have := LG.out.1; unfold maxLen; omega) (by have := LG.out.1; omega) (Nat.le_refl _) ?_; intro v1 w1 o1 f1; rw [Nat.zero_add, List.nil_append] at o1; have O1 := hid o1; have B1 : Hid (Below x.heap.size x w1) := f1.below (Below.refl _ _) (Nat.le_refl _) (fun g hg => by simp [Value.ownBlock] at hg); obtain ⟨d1, hb1, _⟩ := CE.out w1 B1.out; clear o1 f1))
  obtain ⟨gg, kg, hv3, hgk, hgb, hgs⟩ := own_some OC.out (by omega)
  obtain ⟨go, ko, hv4, hok, hob, hos⟩ := own_some O4.out (by omega)
  subst hv3
  subst hv4
  obtain ⟨d4, hb4, e4, hb5, fz4⟩ := CE.out w4 B4.out
  have hgk2 : c.gates.length ≤ kg := by omega
  have hok2 : c.outs.length ≤ ko := by omega
  have hne1 : w.heap.size + 1 ≠ w.heap.size := by omega
  go_wp2

  refine wp_region_noPanic ?_
  refine wp_region_held_drew (S := fun W => ∀ j, W.cell? ⟨w.heap.size, j, none⟩ = (#[Value.string c.name, Value.slice sg c.gates.length cg, Value.slice so c.outs.length co] : Array Value)[j]?) (by kernel_rfl) d4 (fun hHeld => ?_)
  refine wpAnyH_take (i := 0) (v := ?_) (by simp only [List.getElem?_toArray, List.getElem?_cons_zero]; rfl) (by kernel_rfl) (by kernel_rfl) (by kernel_rfl) (fun _ _ _ h => h) (Or.inl ⟨by rfl, ?_⟩) (by assumption) ?_
  rotate_left 1
  · intro w hSw; (try dsimp only at hSw); go_simp; (try with_reducible rfl)
  try simp only [Act.put, List.setIfInBounds_toArray, List.set_cons_zero, List.set_cons_succ]
  refine wpAnyH_take (i := 1) (v := ?_) (by simp only [List.getElem?_toArray, List.getElem?_cons_succ, List.getElem?_cons_zero]; rfl) (by kernel_rfl) (by kernel_rfl) (by kernel_rfl) (fun _ _ _ h => h) (Or.inl ⟨by rfl, ?_⟩) (by assumption) ?_
  rotate_left 1
  · intro w hSw; (try dsimp only at hSw); go_simp; (try with_reducible rfl)
  try simp only [Act.put, List.setIfInBounds_toArray, List.set_cons_zero, List.set_cons_succ]
  refine wpAnyH_take (i := 2) (v := ?_) (by simp only [List.getElem?_toArray, List.getElem?_cons_succ, List.getElem?_cons_zero]; rfl) (by kernel_rfl) (by kernel_rfl) (by kernel_rfl) (fun _ _ _ h => h) (Or.inl ⟨by rfl, ?_⟩) (by assumption) ?_
  rotate_left 1
  · intro w hSw; (try dsimp only at hSw); go_simp; (try with_reducible rfl)
  try simp only [Act.put, List.setIfInBounds_toArray, List.set_cons_zero, List.set_cons_succ]
  refine wpAnyH_take (i := 3) (v := ?_) (by simp only [List.getElem?_toArray, List.getElem?_cons_succ, List.getElem?_cons_zero]; rfl) (by kernel_rfl) (by kernel_rfl) (by kernel_rfl) (fun _ _ _ h => h) (Or.inl ⟨by rfl, ?_⟩) (by assumption) ?_
  rotate_left 1
  · intro w hSw; (try dsimp only at hSw); go_simp; (try with_reducible rfl)
  try simp only [Act.put, List.setIfInBounds_toArray, List.set_cons_zero, List.set_cons_succ]
  refine wpAnyH_take (i := 4) (v := ?_) (by simp only [List.getElem?_toArray, List.getElem?_cons_succ, List.getElem?_cons_zero]; rfl) (by kernel_rfl) (by kernel_rfl) (by kernel_rfl) (fun _ _ _ h => h) (Or.inl ⟨by rfl, ?_⟩) (by assumption) ?_
  rotate_left 1
  · intro w hSw; (try dsimp only at hSw); go_simp; (try with_reducible rfl)
  try simp only [Act.put, List.setIfInBounds_toArray, List.set_cons_zero, List.set_cons_succ]
  refine wpAnyH_take (i := 5) (v := ?_) (by simp only [List.getElem?_toArray, List.getElem?_cons_succ, List.getElem?_cons_zero]; rfl) (by kernel_rfl) (by kernel_rfl) (by kernel_rfl) (fun _ _ _ h => h) (Or.inl ⟨by rfl, ?_⟩) (by assumption) ?_
  rotate_left 1
  · intro w hSw; (try dsimp only at hSw); go_simp; (try with_reducible rfl)
  try simp only [Act.put, List.setIfInBounds_toArray, List.set_cons_zero, List.set_cons_succ]
  refine wpAnyH_take (i := 6) (v := .slice (some ⟨gg, 0, none⟩) c.gates.length kg) (by simp only [List.getElem?_toArray, List.getElem?_cons_succ, List.getElem?_cons_zero]; rfl) (by kernel_rfl) (by kernel_rfl) (by kernel_rfl) (fun _ _ _ h => h) (Or.inl ⟨by rfl, ?_⟩) (by assumption) ?_
  · intro w hSw; (try dsimp only at hSw); (try go_simp); ((try rw [if_pos (by omega)]); (try simp); (try omega))
  try simp only [Act.put, List.setIfInBounds_toArray, List.set_cons_zero, List.set_cons_succ]
  refine wpAnyH_take (i := 7) (v := ?_) (by simp only [List.getElem?_toArray, List.getElem?_cons_succ, List.getElem?_cons_zero]; rfl) (by kernel_rfl) (by kernel_rfl) (by kernel_rfl) (fun _ _ _ h => h) (Or.inl ⟨by rfl, ?_⟩) (by assumption) ?_
  rotate_left 1
  · intro w hSw; (try dsimp only at hSw); go_simp; (try with_reducible rfl)
  try simp only [Act.put, List.setIfInBounds_toArray, List.set_cons_zero, List.set_cons_succ]
  refine wpAnyH_take (i := 8) (v := ?_) (by simp only [List.getElem?_toArray, List.getElem?_cons_succ, List.getElem?_cons_zero]; rfl) (by kernel_rfl) (by kernel_rfl) (by kernel_rfl) (fun _ _ _ h => h) (Or.inl ⟨by rfl, ?_⟩) (by assumption) ?_
  rotate_left 1
  · intro w hSw; (try dsimp only at hSw); go_simp; (try with_reducible rfl)
  try simp only [Act.put, List.setIfInBounds_toArray, List.set_cons_zero, List.set_cons_succ]
  refine wpAnyH_take (i := 9) (v := ?_) (by simp only [List.getElem?_toArray, List.getElem?_cons_succ, List.getElem?_cons_zero]; rfl) (by kernel_rfl) (by kernel_rfl) (by kernel_rfl) (fun _ _ _ h => h) (Or.inl ⟨by rfl, ?_⟩) (by assumption) ?_
  rotate_left 1
  · intro w hSw; (try dsimp only at hSw); go_simp; (try with_reducible rfl)
  try simp only [Act.put, List.setIfInBounds_toArray, List.set_cons_zero, List.set_cons_succ]
  refine wpAnyH_take (i := 10) (v := ?_) (by simp only [List.getElem?_toArray, List.getElem?_cons_succ, List.getElem?_cons_zero]; rfl) (by kernel_rfl) (by kernel_rfl) (by kernel_rfl) (fun _ _ _ h => h) (Or.inl ⟨by rfl, ?_⟩) (by assumption) ?_
  rotate_left 1
  · intro w hSw; (try dsimp only at hSw); go_simp; (try with_reducible rfl)
  try simp only [Act.put, List.setIfInBounds_toArray, List.set_cons_zero, List.set_cons_succ]
  refine wpAnyH_take (i := 11) (v := .slice (some ⟨go, 0, none⟩) c.outs.length ko) (by simp only [List.getElem?_toArray, List.getElem?_cons_succ, List.getElem?_cons_zero]; rfl) (by kernel_rfl) (by kernel_rfl) (by kernel_rfl) (fun _ _ _ h => h) (Or.inl ⟨by rfl, ?_⟩) (by assumption) ?_
  · intro w hSw; (try dsimp only at hSw); (try go_simp); ((try rw [if_pos (by omega)]); (try simp); (try omega))
  try simp only [Act.put, List.setIfInBounds_toArray, List.set_cons_zero, List.set_cons_succ]
  refine wpAnyH_take (i := 12) (v := ?_) (by simp only [List.getElem?_toArray, List.getElem?_cons_succ, List.getElem?_cons_zero]; rfl) (by kernel_rfl) (by kernel_rfl) (by kernel_rfl) (fun _ _ _ h => h) (Or.inl ⟨by rfl, ?_⟩) (by assumption) ?_
  rotate_left 1
  · intro w hSw; (try dsimp only at hSw); go_simp; (try with_reducible rfl)
  try simp only [Act.put, List.setIfInBounds_toArray, List.set_cons_zero, List.set_cons_succ]
  refine wpAnyH_ready (rs := [13]) (by kernel_rfl) (by simp) ?_
  refine AllReadyH.cons (by simp only [List.getElem?_toArray, List.getElem?_cons_succ, List.getElem?_cons_zero]; rfl) (fun K hK => ?_) AllReadyH.nil
  go_simp
  clear hHeld
  refine hK.out _ _ (fun j => (World.cell?_setCell_far _ _ _ _ hne1).trans ((World.cell?_setCell_far _ _ _ _ hne1).trans ((World.cell?_setCell_far _ _ _ _ hne1).trans (d4 j)))) (fun hHeld => ?_)
  clear hK K
  try simp only [Act.put, List.setIfInBounds_toArray, List.set_cons_zero, List.set_cons_succ]
  refine wpAnyH_done (by kernel_rfl) ?_ _
  refine NoPanic.normal ?_
  go_wp2
  obtain ⟨Y, hY⟩ : ∃ Y, Y = (((w4.setCell ⟨w.heap.size + 1, 0, none⟩ (.string c.name)).setCell ⟨w.heap.size + 1, 1, none⟩ (.slice (some ⟨gg, 0, none⟩) c.gates.length kg)).setCell ⟨w.heap.size + 1, 2, none⟩ (.slice (some ⟨go, 0, none⟩) c.outs.length ko)).drew := ⟨_, rfl⟩
  have r4 : w4.heap[w.heap.size + 1]? = some (.cells #[Value.string ⟨#[]⟩, Value.slice none 0 0, Value.slice none 0 0] 26 (0, 0)) := (B4.out.block _ (Array.getElem?_eq_some_iff.1 R2.out).1).trans R2.out
  have r5 : Y.heap[w.heap.size + 1]? = some (.cells #[.string c.name, .slice (some ⟨gg, 0, none⟩) c.gates.length kg, .slice (some ⟨go, 0, none⟩) c.outs.length ko] 26 (0, 0)) := by
    have h1 := row_set (i := 0) (u := .string c.name) r4
    have h2 := row_set (i := 1) (u := .slice (some ⟨gg, 0, none⟩) c.gates.length kg) h1
    have h3 := row_set (i := 2) (u := .slice (some ⟨go, 0, none⟩) c.outs.length ko) h2
    rw [hY]
    exact h3
  have gy : w4.grownBy Y (some (w.heap.size + 1)) := by
    have h1 : w4.grownBy (((w4.setCell ⟨w.heap.size + 1, 0, none⟩ (.string c.name)).setCell ⟨w.heap.size + 1, 1, none⟩ (.slice (some ⟨gg, 0, none⟩) c.gates.length kg)).setCell ⟨w.heap.size + 1, 2, none⟩ (.slice (some ⟨go, 0, none⟩) c.outs.length ko)) (some (w.heap.size + 1)) := grown_set (grown_set (grown_set (World.grownBy.refl _ _)))
    rw [hY]
    exact ⟨h1.os, h1.tape, h1.output, h1.size, h1.block⟩
  rw [← hY]
  clear hY
  have hxs : w.heap.size + 1 < x.heap.size := (Array.getElem?_eq_some_iff.1 R2.out).1
  have z0 := cell_row r5 0
  have z1 := cell_row r5 1
  have z2 := cell_row r5 2
  have keep : ∀ {e size n : Nat} {v : Value} {xs : List Value}, w4.ownsRow x.heap.size e size v n xs → Y.ownsRow w.heap.size e size v n xs := fun {e size n v xs} ho => ShfKit.own_base (ShfKit.own_kept ho fun g hg => gy.block g (own_block ho hg).2 (fun e => by have := (own_block ho hg).1; have := Option.some.inj e; omega)) BX.out.size
  have e1 : gas (c.gates ++ [roomG, roomG]) = gas c.gates ++ gas [roomG, roomG] := by simp [gas]
  have e2 : nu (c.outs ++ [77, 78]) = nu c.outs ++ [.int .i64 77, .int .i64 78] := by simp [nu]
  have hB4 : Below w.heap.size w w4 := BX.out.trans (B4.out.mono BX.out.size)
  refine bodyPost_ret (v := .agg #[.string c.name, .slice (some ⟨gg, 0, none⟩) c.gates.length kg, .slice (some ⟨go, 0, none⟩) c.outs.length ko]) (by simp [results, Tryd.results20, go_sem, z0, z1, z2]) rfl ⟨gg, kg, go, ko, rfl, ⟨by rw [e1]; exact keep OC.out, by rw [e2]; exact keep O4.out⟩, hB4.grown gy hB4.size (fun j hj => by cases hj; omega)⟩
end Go.Proofs.YtfmmmhcpdinhgaaDoor
/-
  The law's same, places.
-/
namespace Go.Proofs.YtfmmmhcpdinhgaaDoor
open Go.RowKit Go.Deep PureNet
set_option maxRecDepth 100000


set_option maxHeartbeats 1000000 in
set_option maxRecDepth 100000 in
theorem same_true (c : Net) (sg so sg2 so2 : Option Addr) (cg co cg2 co2 : Nat) (w : World) (ha : CirAt w c sg so) (hb : CirAt w c sg2 so2) (hl : c.gates.length ≤ 2513169434843) (hlo : c.outs.length ≤ 17592186043904) :
    Calls Tryd.prog 48 #[cirV c sg cg so co, cirV c sg2 cg2 so2 co2] w fun e w' => e = .returned (.bool true) ∧ Below w.heap.size w w' := by
  have HA := hid ha
  have HB := hid hb
  clear ha hb
  go_enter Tryd.func48, Tryd.ntmps48
  go_wp2
  obtain ⟨X, hX⟩ : ∃ X, X = (w.alloc (Obj.cells #[Value.string c.name, Value.slice sg c.gates.length cg, Value.slice so c.outs.length co] 26)).alloc (Obj.cells #[Value.string c.name, Value.slice sg2 c.gates.length cg2, Value.slice so2 c.outs.length co2] 26) := ⟨_, rfl⟩
  have s1 : (w.alloc (Obj.cells #[Value.string c.name, Value.slice sg c.gates.length cg, Value.slice so c.outs.length co] 26)).heap.size = w.heap.size + 1 := by simp
  have r1 : X.heap[w.heap.size]? = some (.cells #[Value.string c.name, Value.slice sg c.gates.length cg, Value.slice so c.outs.length co] 26 (0, 0)) := by rw [hX, Below.heap_alloc _ _ _ (by omega)]; exact heap_alloc_new w _
  have r2 : X.heap[w.heap.size + 1]? = some (.cells #[Value.string c.name, Value.slice sg2 c.gates.length cg2, Value.slice so2 c.outs.length co2] 26 (0, 0)) := by rw [hX, ← s1]; exact heap_alloc_new _ _
  have BX : Hid (Below w.heap.size w X) := by rw [hX]; exact ((Below.refl _ _).alloc (Nat.le_refl _) _).alloc (by omega) _
  have KB : Hid (∀ W, Below X.heap.size X W → (∀ j, W.cell? ⟨w.heap.size, j, none⟩ = (#[Value.string c.name, Value.slice sg c.gates.length cg, Value.slice so c.outs.length co] : Array Value)[j]?) ∧ (∀ j, W.cell? ⟨w.heap.size + 1, j, none⟩ = (#[Value.string c.name, Value.slice sg2 c.gates.length cg2, Value.slice so2 c.outs.length co2] : Array Value)[j]?) ∧ w.heap.size < W.heap.size ∧ w.heap.size + 1 < W.heap.size) := fun W hW => by
    have e1 := (hW.block _ (Array.getElem?_eq_some_iff.1 r1).1).trans r1
    have e2 := (hW.block _ (Array.getElem?_eq_some_iff.1 r2).1).trans r2
    exact ⟨fun j => cell_row e1 j, fun j => cell_row e2 j, (Array.getElem?_eq_some_iff.1 e1).1, (Array.getElem?_eq_some_iff.1 e2).1⟩
  rw [← hX]
  clear hX s1 r1 r2
  go_loopw [5] (fun iv W => ∃ k : Nat, k ≤ c.gates.length ∧ iv = .int .i64 (k : Int) ∧ Hid (Below X.heap.size X W)) (fun iv _ => c.gates.length - (intOf iv).toNat)
  case atStart => exact ⟨0, Nat.zero_le _, rfl, Below.refl _ _⟩
  case round =>
    obtain ⟨k, hk, rfl, HW⟩ := hrel
    have hww : Below w.heap.size w wr := BX.out.trans (HW.out.mono BX.out.size)
    obtain ⟨c1, c2, hb1, hb2⟩ := KB.out _ HW.out
    by_cases hlt : k < c.gates.length
    · obtain ⟨g, hg⟩ : ∃ g, c.gates[k]? = some g := ⟨_, List.getElem?_eq_getElem hlt⟩
      obtain ⟨b, o, rfl, hb, d0, d1, d2, d3, d4, d5⟩ := gate_at (HA.out.below hww).gates k g hg
      obtain ⟨b', o', rfl, hb', e0, e1, e2, e3, e4, e5⟩ := gate_at (HB.out.below hww).gates k g hg
      clear hg hww
      have a1 : wr.cell? ⟨w.heap.size, 1, none⟩ = some (.slice (some ⟨b, o, none⟩) c.gates.length cg) := (c1 1).trans rfl
      have a2 : wr.cell? ⟨w.heap.size + 1, 1, none⟩ = some (.slice (some ⟨b', o', none⟩) c.gates.length cg2) := (c2 1).trans rfl
      go_wp2
      refine wp_region_noPanic ?_
      refine wp_region_held_drew (S := fun W => W.cell? ⟨w.heap.size, 1, none⟩ = some (.slice (some ⟨b, o, none⟩) c.gates.length cg) ∧ W.cell? ⟨w.heap.size + 1, 1, none⟩ = some (.slice (some ⟨b', o', none⟩) c.gates.length cg2) ∧ W.cell? ⟨b, o + k * 6, none⟩ = some (.int .i64 g.kind) ∧ W.cell? ⟨b, o + k * 6 + 1, none⟩ = some (.string g.name) ∧ W.cell? ⟨b, o + k * 6 + 2, none⟩ = some (.int .i64 g.op) ∧ W.cell? ⟨b, o + k * 6 + 3, none⟩ = some (.int .i64 g.a) ∧ W.cell? ⟨b, o + k * 6 + 4, none⟩ = some (.int .i64 g.b) ∧ W.cell? ⟨b, o + k * 6 + 5, none⟩ = some (.int .i64 g.c) ∧ W.cell? ⟨b', o' + k * 6, none⟩ = some (.int .i64 g.kind) ∧ W.cell? ⟨b', o' + k * 6 + 1, none⟩ = some (.string g.name) ∧ W.cell? ⟨b', o' + k * 6 + 2, none⟩ = some (.int .i64 g.op) ∧ W.cell? ⟨b', o' + k * 6 + 3, none⟩ = some (.int .i64 g.a) ∧ W.cell? ⟨b', o' + k * 6 + 4, none⟩ = some (.int .i64 g.b) ∧ W.cell? ⟨b', o' + k * 6 + 5, none⟩ = some (.int .i64 g.c)) (by kernel_rfl) ⟨a1, a2, d0, d1, d2, d3, d4, d5, e0, e1, e2, e3, e4, e5⟩ (fun hHeld => ?_)
      refine wpAnyH_take (i := 0) (v := ?_) (by simp only [List.getElem?_toArray, List.getElem?_cons_zero]; rfl) (by kernel_rfl) (by kernel_rfl) (by kernel_rfl) (fun _ _ _ h => h) (Or.inl ⟨by rfl, ?_⟩) (by assumption) ?_
      rotate_left 1
      · intro w hSw; (try dsimp only at hSw); go_simp; (try with_reducible rfl)
      try simp only [Act.put, List.setIfInBounds_toArray, List.set_cons_zero, List.set_cons_succ]
      refine wpAnyH_take (i := 1) (v := ?_) (by simp only [List.getElem?_toArray, List.getElem?_cons_succ, List.getElem?_cons_zero]; rfl) (by kernel_rfl) (by kernel_rfl) (by kernel_rfl) (fun _ _ _ h => h) (Or.inl ⟨by rfl, ?_⟩) (by assumption) ?_
      rotate_left 1
      · intro w hSw; (try dsimp only at hSw); go_simp; (try with_reducible rfl)
      try simp only [Act.put, List.setIfInBounds_toArray, List.set_cons_zero, List.set_cons_succ]
      refine wpAnyH_take (i := 2) (v := ?_) (by simp only [List.getElem?_toArray, List.getElem?_cons_succ, List.getElem?_cons_zero]; rfl) (by kernel_rfl) (by kernel_rfl) (by kernel_rfl) (fun _ _ _ h => h) (Or.inl ⟨by rfl, ?_⟩) (by assumption) ?_
      rotate_left 1
      · intro w hSw; (try dsimp only at hSw); go_simp; (try with_reducible rfl)
      try simp only [Act.put, List.setIfInBounds_toArray, List.set_cons_zero, List.set_cons_succ]
      refine wpAnyH_take (i := 3) (v := ?_) (by simp only [List.getElem?_toArray, List.getElem?_cons_succ, List.getElem?_cons_zero]; rfl) (by kernel_rfl) (by kernel_rfl) (by kernel_rfl) (fun _ _ _ h => h) (Or.inl ⟨by rfl, ?_⟩) (by assumption) ?_
      rotate_left 1
      · intro w hSw; (try dsimp only at hSw); go_simp; (try with_reducible rfl)
      try simp only [Act.put, List.setIfInBounds_toArray, List.set_cons_zero, List.set_cons_succ]
      refine wpAnyH_take (i := 4) (v := ?_) (by simp only [List.getElem?_toArray, List.getElem?_cons_succ, List.getElem?_cons_zero]; rfl) (by kernel_rfl) (by kernel_rfl) (by kernel_rfl) (fun _ _ _ h => h) (Or.inl ⟨by rfl, ?_⟩) (by assumption) ?_
      rotate_left 1
      · intro w hSw; (try dsimp only at hSw); go_simp; (try with_reducible rfl)
      try simp only [Act.put, List.setIfInBounds_toArray, List.set_cons_zero, List.set_cons_succ]
      refine wpAnyH_take (i := 5) (v := ?_) (by simp only [List.getElem?_toArray, List.getElem?_cons_succ, List.getElem?_cons_zero]; rfl) (by kernel_rfl) (by kernel_rfl) (by kernel_rfl) (fun _ _ _ h => h) (Or.inl ⟨by rfl, ?_⟩) (by assumption) ?_
      rotate_left 1
      · intro w hSw; (try dsimp only at hSw); go_simp; (try with_reducible rfl)
      try simp only [Act.put, List.setIfInBounds_toArray, List.set_cons_zero, List.set_cons_succ]
      refine wpAnyH_take (i := 6) (v := ?_) (by simp only [List.getElem?_toArray, List.getElem?_cons_succ, List.getElem?_cons_zero]; rfl) (by kernel_rfl) (by kernel_rfl) (by kernel_rfl) (fun _ _ _ h => h) (Or.inl ⟨by rfl, ?_⟩) (by assumption) ?_
      rotate_left 1
      · intro w hSw; (try dsimp only at hSw); go_simp; (try with_reducible rfl)
      try simp only [Act.put, List.setIfInBounds_toArray, List.set_cons_zero, List.set_cons_succ]
      refine wpAnyH_take (i := 7) (v := ?_) (by simp only [List.getElem?_toArray, List.getElem?_cons_succ, List.getElem?_cons_zero]; rfl) (by kernel_rfl) (by kernel_rfl) (by kernel_rfl) (fun _ _ _ h => h) (Or.inl ⟨by rfl, ?_⟩) (by assumption) ?_
      rotate_left 1
      · intro w hSw; (try dsimp only at hSw); go_simp; (try with_reducible rfl)
      try simp only [Act.put, List.setIfInBounds_toArray, List.set_cons_zero, List.set_cons_succ]
      refine wpAnyH_take (i := 8) (v := ?_) (by simp only [List.getElem?_toArray, List.getElem?_cons_succ, List.getElem?_cons_zero]; rfl) (by kernel_rfl) (by kernel_rfl) (by kernel_rfl) (fun _ _ _ h => h) (Or.inl ⟨by rfl, ?_⟩) (by assumption) ?_
      rotate_left 1
      · intro w hSw; (try dsimp only at hSw); go_simp; (try with_reducible rfl)
      try simp only [Act.put, List.setIfInBounds_toArray, List.set_cons_zero, List.set_cons_succ]
      refine wpAnyH_take (i := 9) (v := ?_) (by simp only [List.getElem?_toArray, List.getElem?_cons_succ, List.getElem?_cons_zero]; rfl) (by kernel_rfl) (by kernel_rfl) (by kernel_rfl) (fun _ _ _ h => h) (Or.inl ⟨by rfl, ?_⟩) (by assumption) ?_
      rotate_left 1
      · intro w hSw; (try dsimp only at hSw); go_simp; (try with_reducible rfl)
      try simp only [Act.put, List.setIfInBounds_toArray, List.set_cons_zero, List.set_cons_succ]
      refine wpAnyH_take (i := 10) (v := .bool false) (by simp only [List.getElem?_toArray, List.getElem?_cons_succ, List.getElem?_cons_zero]; rfl) (by kernel_rfl) (by kernel_rfl) (by kernel_rfl) (fun _ _ _ h => h) (Or.inl ⟨by rfl, ?_⟩) (by assumption) ?_
      · intro w hSw; (try dsimp only at hSw); (try go_simp); (first | done | (with_reducible rfl) | simp)
      try simp only [Act.put, List.setIfInBounds_toArray, List.set_cons_zero, List.set_cons_succ]
      refine wpAnyH_done (by kernel_rfl) ?_ _
      refine NoPanic.normal ?_
      go_wp2
      exact ⟨⟨k + 1, hlt, by go_num, HW.out.trans (Below.refl _ _).drew⟩, by simp [intOf]; omega⟩
    · obtain ⟨w2, hw2⟩ : ∃ w2, w2 = wr := ⟨_, rfl⟩
      subst hw2
      go_wp2
      go_loopw [6] (fun iv W => ∃ k : Nat, k ≤ c.outs.length ∧ iv = .int .i64 (k : Int) ∧ Hid (Below X.heap.size X W)) (fun iv _ => c.outs.length - (intOf iv).toNat)
      case atStart => exact ⟨0, Nat.zero_le _, rfl, HW.out⟩
      case round =>
        clear c1 c2 hb1 hb2 hww
        obtain ⟨q, hq, rfl, HV⟩ := hrel
        have hww : Below w.heap.size w wr := BX.out.trans (HV.out.mono BX.out.size)
        obtain ⟨c1, c2, hb1, hb2⟩ := KB.out _ HV.out
        by_cases hlt : q < c.outs.length
        · obtain ⟨x, hx⟩ : ∃ x, c.outs[q]? = some x := ⟨_, List.getElem?_eq_getElem hlt⟩
          obtain ⟨b, o, rfl, hb, d0⟩ := num_at (HA.out.below hww).outs q x hx
          obtain ⟨b', o', rfl, hb', e0⟩ := num_at (HB.out.below hww).outs q x hx
          have a1 : wr.cell? ⟨w.heap.size, 2, none⟩ = some (.slice (some ⟨b, o, none⟩) c.outs.length co) := (c1 2).trans rfl
          have a2 : wr.cell? ⟨w.heap.size + 1, 2, none⟩ = some (.slice (some ⟨b', o', none⟩) c.outs.length co2) := (c2 2).trans rfl
          clear hx hww
          go_wp2
          go_quiet (fail)
          go_wp2
          exact ⟨⟨q + 1, hlt, by go_num, below_drewN HV.out _⟩, by simp [intOf]; omega⟩
        · have HF := hid hww
          clear hww
          go_wp2
          go_ret
          exact ⟨rfl, HF.out⟩
end Go.Proofs.YtfmmmhcpdinhgaaDoor
/-
  The law's own kept.
-/
namespace Go.Proofs.YtfmmmhcpdinhgaaDoor
open Go.RowKit Go.Deep PureNet ShfKit
set_option maxRecDepth 100000

theorem TwinAt.marks {W : World} {B : Nat} {c : Net} {gg kg go ko : Nat} (h : TwinAt W B c gg kg go ko) : W.cell? ⟨gg, c.gates.length * 6 + 1, none⟩ = some (.string ⟨#[114, 111, 111, 109]⟩) ∧ W.cell? ⟨gg, (c.gates.length + 1) * 6 + 1, none⟩ = some (.string ⟨#[114, 111, 111, 109]⟩) ∧ W.cell? ⟨go, c.outs.length, none⟩ = some (.int .i64 77) ∧ W.cell? ⟨go, c.outs.length + 1, none⟩ = some (.int .i64 78) ∧ c.gates.length + 2 ≤ kg ∧ c.outs.length + 2 ≤ ko ∧ gg < W.heap.size ∧ go < W.heap.size := by
  have h1 := own_at h.gates
  have h2 := own_at h.outs
  obtain ⟨_, _, hv1, hk1, _, hs1⟩ := own_some h.gates (by omega)
  obtain ⟨_, _, hv2, hk2, _, hs2⟩ := own_some h.outs (by omega)
  cases hv1
  cases hv2
  have one : ∀ (j : Nat) (u : Value), (gas (c.gates ++ [roomG, roomG]))[j]? = some u → W.cell? ⟨gg, j, none⟩ = some u := fun j u hu => by
    obtain ⟨b, o, e, _, hc⟩ := h1.at_ j u hu
    cases e
    rw [Nat.zero_add] at hc
    exact hc
  have two : ∀ (j : Nat) (u : Value), (nu (c.outs ++ [77, 78]))[j]? = some u → W.cell? ⟨go, j, none⟩ = some u := fun j u hu => by
    obtain ⟨b, o, e, _, hc⟩ := h2.at_ j u hu
    cases e
    rw [Nat.zero_add] at hc
    exact hc
  have hl : (c.gates ++ [roomG, roomG]).length = c.gates.length + 2 := by simp
  refine ⟨one _ _ ?_, one _ _ ?_, two _ _ ?_, two _ _ ?_, hk1, hk2, hs1, hs2⟩
  · rw [gas_at _ _ 1 (by omega) (by omega)]
    simp [ga, roomG]
  · rw [gas_at _ _ 1 (by omega) (by omega)]
    simp [ga, roomG]
  · simp [nu]
  · simp [nu]

set_option maxHeartbeats 2000000 in
theorem kept_true (c : Net) (B gg kg go ko : Nat) (sg so : Option Addr) (cg co : Nat) (w : World) (ht : TwinAt w B c gg kg go ko) (hc : CirAt w c sg so) (hl : c.gates.length ≤ 1099511627776) (hlo : c.outs.length ≤ 1099511627776) :
    Calls Tryd.prog 24 #[cirV c (some ⟨gg, 0, none⟩) kg (some ⟨go, 0, none⟩) ko, cirV c sg cg so co] w fun e w' => e = .returned (.bool true) ∧ Below w.heap.size w w' := by
  obtain ⟨x, hx⟩ : ∃ x, x = (w.alloc (Obj.cells #[Value.string c.name, Value.slice (some ⟨gg, 0, none⟩) c.gates.length kg, Value.slice (some ⟨go, 0, none⟩) c.outs.length ko] 26)).alloc (Obj.cells #[Value.string c.name, Value.slice sg c.gates.length cg, Value.slice so c.outs.length co] 26) := ⟨_, rfl⟩
  have s1 : (w.alloc (Obj.cells #[Value.string c.name, Value.slice (some ⟨gg, 0, none⟩) c.gates.length kg, Value.slice (some ⟨go, 0, none⟩) c.outs.length ko] 26)).heap.size = w.heap.size + 1 := by simp
  have R1 : Hid (x.heap[w.heap.size]? = some (.cells #[Value.string c.name, Value.slice (some ⟨gg, 0, none⟩) c.gates.length kg, Value.slice (some ⟨go, 0, none⟩) c.outs.length ko] 26 (0, 0))) := by show _ = _; rw [hx, Below.heap_alloc _ _ _ (by omega)]; exact heap_alloc_new w _
  have R2 : Hid (x.heap[w.heap.size + 1]? = some (.cells #[Value.string c.name, Value.slice sg c.gates.length cg, Value.slice so c.outs.length co] 26 (0, 0))) := by show _ = _; rw [hx, ← s1]; exact heap_alloc_new _ _
  have BX : Hid (Below w.heap.size w x) := by rw [hx]; exact ((Below.refl _ _).alloc (Nat.le_refl _) _).alloc (by omega) _
  have SM := hid (same_true c (some ⟨gg, 0, none⟩) (some ⟨go, 0, none⟩) sg so kg ko cg co x (ht.below BX.out).cir (hc.below BX.out) (by omega) (by omega))
  have d0 := fun j => cell_row R1.out j
  have d1 := fun j => cell_row R2.out j
  have hb0 := (Array.getElem?_eq_some_iff.1 R1.out).1
  have hb1 := (Array.getElem?_eq_some_iff.1 R2.out).1
  have TW : Hid (∀ W, Below x.heap.size x W → TwinAt W B c gg kg go ko) := fun W hW => (ht.below BX.out).below hW
  obtain ⟨_, _, _, _, hk1, hk2, _, _⟩ := ht.marks
  have HX := hid hx
  have g1 : IntKind.i64.wrap ((c.gates.length : Int) + 2) = ((c.gates.length + 2 : Nat) : Int) := by rw [IntKind.wrap_i64]; omega
  have g2 : IntKind.i64.wrap ((c.outs.length : Int) + 2) = ((c.outs.length + 2 : Nat) : Int) := by rw [IntKind.wrap_i64]; omega
  have g3 : IntKind.i64.wrap ((c.gates.length : Int) + 1) = ((c.gates.length + 1 : Nat) : Int) := by rw [IntKind.wrap_i64]; omega
  have g4 : IntKind.i64.wrap ((c.outs.length : Int) + 1) = ((c.outs.length + 1 : Nat) : Int) := by rw [IntKind.wrap_i64]; omega
  clear hx s1 ht hc
  go_enter Tryd.func24, Tryd.ntmps24
  go_wp2_with (first
    | (rw [← HX.out])
    | (go_at_call 48; refine Calls.mono SM.out ?_; rintro e w1 ⟨rfl, b1⟩; have B1 := hid b1; obtain ⟨m1, m2, m3, m4, _, _, ms1, ms2⟩ := (TW.out w1 b1).marks; clear b1))
  go_ret
  exact ⟨rfl, BX.out.trans (B1.out.mono BX.out.size)⟩
end Go.Proofs.YtfmmmhcpdinhgaaDoor
/-
  What stays while one list is written and grown.
-/
namespace Go.Proofs.YtfmmmhcpdinhgaaDoor
open Go.RowKit Go.Deep PureNet ShfKit
set_option maxRecDepth 100000

/-- append of one, in the text's order, told where it lies. -/
theorem wpl_one {ops : Array Oper} {rest : List Oper} {o : Oper} {a : Act} {Q : Exit → Act → World → Prop} {W : World} (hg : o.guard = none) (s x : Operand) (t : TypeId) (hop : o.op = Op.call { callee := Callee.builtin Builtin.append, args := #[s, x], argTypes := #[t, t] })
    (B : Nat) (e : TypeId) (z : Value) (size bytes : Nat) (ht : Tryd.prog.underlying t = some (.slice e)) (hinf : (Tryd.prog.info? e).map (fun i => (i.zero, i.size, i.bytes)) = some (some z, size, bytes))
    (hzs : z.cells.size = size) (hsz : 0 < size) (v : Value) (n : Nat) (xs : List Value) (hs : a.eval s = v) (hown : W.ownsRow B e size v n xs) (news : List Value) (u : TypeId) (ad : Nat) (had : ad = W.heap.size) (hx : a.eval x = .slice (some ⟨ad, 0, none⟩) 1 1) (hl : news.length = size) (h1 : ∀ u ∈ news, u.oneCell' = true) (hn : n ≤ 1099511627776) (hby : (n + 1) * bytes ≤ 140737488355328) (hbase : B ≤ W.heap.size)
    (hK : ∀ v' w', w'.ownsRow B e size v' (n + 1) (xs ++ news) → Far (W.alloc (.cells news.toArray u)) w' v v' → wpList Tryd.prog ops Q rest (a.put o.dst v') w') :
    wpList Tryd.prog ops Q (o :: rest) a (W.alloc (.cells news.toArray u)) := by
  subst had
  exact wpl_cells _ hg s x t hop B e z size bytes ht hinf hzs hsz v n xs hs (ownsRow_below hown ((Below.refl _ _).alloc (Nat.le_refl _) _)) (some ⟨W.heap.size, 0, none⟩) 1 1 news hx (by rw [hl, Nat.one_mul]) ⟨fun k u hu => ⟨W.heap.size, 0, rfl, by simp, by rw [Nat.zero_add, cell_row (heap_alloc_new W _)]; simpa using hu⟩⟩ (fun e => by cases e) h1 (by unfold maxLen; omega) hby (by simp; omega) hK
end Go.Proofs.YtfmmmhcpdinhgaaDoor
/-
  The law's own flipped, flip.
-/
namespace Go.Proofs.YtfmmmhcpdinhgaaDoor
open Go.RowKit Go.Deep PureNet ShfKit
set_option maxRecDepth 100000

set_option maxHeartbeats 1000000 in
set_option maxRecDepth 100000 in
theorem flipped_any (l : List Bool) (sa : Option Addr) (ca : Nat) (w : World) (ha : CellsAt w sa (bo l)) (hl : l.length ≤ 140737488351232) :
    Calls Tryd.prog 35 #[.slice sa l.length ca] w fun e w' => ∃ v, e = .returned v ∧ Mk w w' 4 1 v l.length (bo (l.map not)) := by
  have HA := hid ha
  clear ha
  go_enter Tryd.func35, Tryd.ntmps35
  go_wp2
  go_loopw [3, 4] (fun ov iv W => ∃ i : Nat, i ≤ l.length ∧ iv = .int .i64 (i : Int) ∧ Hid (Mk w W 4 1 ov i (bo ((l.map not).take i)))) (fun ov iv _ => l.length - (intOf iv).toNat)
  case atStart => exact ⟨0, Nat.zero_le _, rfl, Mk.nil _ _ _⟩
  case round =>
    obtain ⟨i, hi, rfl, HR⟩ := hrel
    obtain ⟨sv, cv, rfl⟩ := own_shape HR.out.own
    by_cases hlt : i < l.length
    · obtain ⟨b, hb⟩ : ∃ b, l[i]? = some b := ⟨_, List.getElem?_eq_getElem hlt⟩
      obtain ⟨g, o, rfl, hg, c0⟩ := bit_at (HA.out.below HR.out.below) i b hb
      have HTK : Hid (bo ((l.map not).take (i + 1)) = bo ((l.map not).take i) ++ [.bool (!b)]) := by
        show _ = _
        rw [List.take_add_one]
        simp [bo, hb]
      clear hb
      go_wp2_with (at_builtin; refine mk_app rfl _ _ 29 (.bool false) 1 rfl Tryd.underlying29 info4 rfl (by decide) HR.out [.bool (!b)] 4 _ rfl rfl rfl rfl (fun u hu => by simp at hu; subst hu; rfl) (by omega) (by omega) ?_; intro sx cx w2 _ m2; have M2 := hid m2; clear m2)
      exact ⟨⟨i + 1, hlt, by go_num, by rw [HTK.out]; exact M2.out⟩, by simp [intOf]; omega⟩
    · have HF : Hid (Mk w wr 4 1 (.slice sv i cv) l.length (bo (l.map not))) := by
        have h := HR.out
        rw [List.take_of_length_le (by simp; omega), show i = l.length by omega] at h
        rw [show i = l.length by omega]
        exact h
      clear HR
      go_wp2
      go_ret
      exact ⟨_, rfl, HF.out⟩

/-- the first i turned. -/
def bturn (l : List Bool) (i : Nat) : List Bool := (l.take i).map not ++ l.drop i
theorem bturn_at (l : List Bool) (i : Nat) (b : Bool) (h : l[i]? = some b) : (bturn l i)[i]? = some b := by
  have hi := (List.getElem?_eq_some_iff.1 h).1
  unfold bturn
  rw [List.getElem?_append_right (by simp; omega), List.getElem?_drop]
  simp
  rw [show i + (i - min i l.length) = i by omega]
  exact h
theorem bturn_set (l : List Bool) (i : Nat) (b : Bool) (h : l[i]? = some b) : (bturn l i).set i (!b) = bturn l (i + 1) := by
  have hi := (List.getElem?_eq_some_iff.1 h).1
  have hb := (List.getElem?_eq_some_iff.1 h).2
  unfold bturn
  have hlen : ((l.take i).map not).length = i := by simp; omega
  rw [List.set_append_right _ _ (by omega), hlen, Nat.sub_self, List.take_add_one, h, List.drop_eq_getElem_cons hi, hb]
  simp
set_option maxHeartbeats 1000000 in
set_option maxRecDepth 100000 in
theorem flip_any (l : List Bool) (s : Option Addr) (ca B : Nat) (w : World) (ho : w.ownsRow B 4 1 (.slice s l.length ca) l.length (bo l)) (hl : l.length ≤ 140737488351232) :
    Calls Tryd.prog 34 #[.slice s l.length ca] w fun e w' => (∃ u, e = .returned u) ∧ w'.ownsRow B 4 1 (.slice s l.length ca) l.length (bo (l.map not)) ∧ w.grownBy w' (Value.slice s l.length ca).ownBlock := by
  have HR0 : Hid (w.ownsRow B 4 1 (.slice s l.length ca) l.length (bo (bturn l 0)) ∧ w.grownBy w (Value.slice s l.length ca).ownBlock) := ⟨by simpa [bturn] using ho, World.grownBy.refl _ _⟩
  clear ho
  go_enter Tryd.func34, Tryd.ntmps34
  go_wp2
  go_loopw [2] (fun iv W => ∃ i : Nat, i ≤ l.length ∧ iv = .int .i64 (i : Int) ∧ Hid (W.ownsRow B 4 1 (.slice s l.length ca) l.length (bo (bturn l i)) ∧ w.grownBy W (Value.slice s l.length ca).ownBlock)) (fun iv _ => l.length - (intOf iv).toNat)
  case atStart => exact ⟨0, Nat.zero_le _, rfl, HR0.out⟩
  case round =>
    obtain ⟨i, hi, rfl, HR⟩ := hrel
    clear HR0
    by_cases hlt : i < l.length
    · obtain ⟨b, hb⟩ : ∃ b, l[i]? = some b := ⟨_, List.getElem?_eq_getElem hlt⟩
      obtain ⟨g, c, hv, _, hg, hc0, hf0⟩ := own_cell HR.out.1 (j := i) (x := .bool b) (by simp [bo, bturn_at l i b hb])
      have hv2 := hv
      simp only [Value.slice.injEq, true_and] at hv
      obtain ⟨rfl, rfl⟩ := hv
      obtain ⟨h1, h2⟩ := own_set HR.out.1 (j := i) hv2 (.bool (!b))
      have HR2 : Hid ((wr.setCell ⟨g, i, none⟩ (.bool (!b))).ownsRow B 4 1 (.slice (some ⟨g, 0, none⟩) l.length ca) l.length (bo (bturn l (i + 1))) ∧ w.grownBy (wr.setCell ⟨g, i, none⟩ (.bool (!b))) (Value.slice (some ⟨g, 0, none⟩) l.length ca).ownBlock) := by
        refine ⟨?_, grown_trans HR.out.2 h2⟩
        rw [← bturn_set l i b hb]
        have e : bo ((bturn l i).set i (!b)) = (bo (bturn l i)).set i (.bool (!b)) := by simp [bo, List.map_set]
        rw [e]
        exact h1
      clear hb hv2 h1 h2 HR
      go_wp2
      exact ⟨⟨i + 1, hlt, by go_num, HR2.out⟩, by simp [intOf]; omega⟩
    · have HF : Hid (wr.ownsRow B 4 1 (.slice s l.length ca) l.length (bo (l.map not)) ∧ w.grownBy wr (Value.slice s l.length ca).ownBlock) := by
        have h := HR.out
        have e : bturn l i = l.map not := by unfold bturn; rw [List.take_of_length_le (by omega), List.drop_of_length_le (by omega), List.append_nil]
        rw [e] at h
        exact h
      clear HR
      go_wp2
      first | go_end0 | refine bodyPost_end (results_none rfl _ _ _) rfl ?_
      exact ⟨⟨_, rfl⟩, HF.out⟩
end Go.Proofs.YtfmmmhcpdinhgaaDoor
/-
  The law's own grown.
-/
namespace Go.Proofs.YtfmmmhcpdinhgaaDoor
open Go.RowKit Go.Deep PureNet ShfKit
set_option maxRecDepth 100000

def gbit (v : Int) (i : Nat) : Bool := bits BinOp.and IntKind.i64 (v / 2 ^ (i % 16)) 1 == 1
def gbits (v : Int) (i : Nat) : List Bool := (List.range i).map (gbit v)
theorem gbits_succ (v : Int) (i : Nat) : gbits v (i + 1) = gbits v i ++ [gbit v i] := by simp [gbits, List.range_succ]
theorem bo_app (a b : List Bool) : bo (a ++ b) = bo a ++ bo b := by simp [bo]
/-- one block may turn, and what is new. -/
theorem grown_far {w W W' : World} {b0 : Option Nat} {u u' : Value} (h : w.grownBy W b0) (hf : Far W W' u u') (hu : ∀ k, u.ownBlock = some k → b0 = some k ∨ w.heap.size ≤ k) : w.grownBy W' b0 ∧ ∀ k, u'.ownBlock = some k → b0 = some k ∨ w.heap.size ≤ k := by
  rcases hf with ⟨e, hg⟩ | ⟨hn, hg⟩
  · refine ⟨⟨hg.os.trans h.os, hg.tape.trans h.tape, hg.output.trans h.output, Nat.le_trans h.size hg.size, fun k hk hne => ?_⟩, fun k hk => hu k (e ▸ hk)⟩
    rw [hg.block k (Nat.lt_of_lt_of_le hk h.size) (fun e2 => ?_), h.block k hk hne]
    rcases hu k e2.symm with h1 | h1
    · exact hne h1.symm
    · omega
  · refine ⟨⟨hg.os.trans h.os, hg.tape.trans h.tape, hg.output.trans h.output, Nat.le_trans h.size hg.size, fun k hk hne => ?_⟩, fun k hk => .inr (Nat.le_trans h.size (hn k hk))⟩
    rw [hg.block k (Nat.lt_of_lt_of_le hk h.size) (fun e2 => by cases e2), h.block k hk hne]
theorem grown_on {w W W' : World} {b0 : Option Nat} (h : w.grownBy W b0) (hb : Below W.heap.size W W') : w.grownBy W' b0 := grown_below h hb

set_option maxHeartbeats 2000000 in
theorem grown_any (v : Int) (s : Option Addr) (n ca B : Nat) (A : List Value) (w : World) (ho : w.ownsRow B 4 1 (.slice s n ca) n A) (hB : B ≤ w.heap.size) (hn : n ≤ 1099511000000) :
    Calls Tryd.prog 63 #[.slice s n ca, .int .i64 v] w fun e w' => ∃ u, e = .returned u ∧ Pair w' B 4 1 (.slice s n ca) n A u (n + 64) (A ++ bo (gbits v 64)) ∧ w.grownBy w' (Value.slice s n ca).ownBlock ∧ ∀ k, u.ownBlock = some k → (Value.slice s n ca).ownBlock = some k ∨ w.heap.size ≤ k := by
  have HO := hid ho
  clear ho
  go_enter Tryd.func63, Tryd.ntmps63
  go_wp2
  go_loopg [0, 5] 64 (fun k lv iv W => ∃ (i : Nat) (sx : Option Addr) (cx : Nat), i ≤ 64 ∧ k = 64 - i ∧ iv = .int .i64 (i : Int) ∧ lv = .slice sx (n + i) cx ∧ Hid (Pair W B 4 1 (.slice s n ca) n A (.slice sx (n + i) cx) (n + i) (A ++ bo (gbits v i)) ∧ w.grownBy W (Value.slice s n ca).ownBlock ∧ ∀ k, (Value.slice sx (n + i) cx).ownBlock = some k → (Value.slice s n ca).ownBlock = some k ∨ w.heap.size ≤ k))
  case atStart => exact ⟨0, s, ca, Nat.zero_le _, rfl, rfl, rfl, by show Pair _ _ _ _ _ _ _ _ _ (A ++ []); rw [List.append_nil]; exact Pair.start HO.out, World.grownBy.refl _ _, fun k hk => .inl hk⟩
  case round =>
    clear HO
    obtain ⟨i, sx, cx, hi, hgk, rfl, rfl, HR1⟩ := hrel
    subst hgk
    by_cases hlt : i < 64
    · go_wp2_with (at_builtin; refine wpl_one rfl _ _ 29 rfl B 4 _ 1 1 Tryd.underlying29 info4 rfl (by decide) (.slice sx (n + i) cx) (n + i) _ rfl HR1.out.1.own [.bool (gbit v i)] 4 _ rfl rfl rfl (fun u hu => by simp at hu; subst hu; rfl) (by omega) (by omega) (Nat.le_trans hB HR1.out.2.1.size) ?_; intro v8 w8 o8 f8; obtain ⟨sy, cy, rfl⟩ := own_shape o8; have p1 := HR1.out.1.kept (W' := wr.alloc (.cells #[.bool (gbit v i)] 4)) (by simp) (fun k hk => Below.heap_alloc _ _ _ (HR1.out.1.blk hk).2); have p2 := p1.grow o8 f8; have g2 := grown_far (grown_on HR1.out.2.1 ((Below.refl _ _).alloc (Nat.le_refl _) _)) f8 HR1.out.2.2; rw [List.append_assoc, show bo (gbits v i) ++ [Value.bool (gbit v i)] = bo (gbits v (i + 1)) from (by rw [gbits_succ, bo_app]; rfl)] at p2; have P2 := hid p2.1; have G2 := hid g2; clear o8 f8 p1 p2 g2)
      go_roundg (64 - (i + 1))
      case measure => omega
      case rel => exact ⟨i + 1, _, _, hlt, rfl, by go_num, rfl, P2.out, G2.out.1, G2.out.2⟩
    · obtain rfl : i = 64 := by omega
      go_wp2
      go_ret
      exact ⟨_, rfl, HR1.out.1, HR1.out.2.1, HR1.out.2.2⟩
end Go.Proofs.YtfmmmhcpdinhgaaDoor
/-
  The law's own alone: what it keeps.
-/
namespace Go.Proofs.YtfmmmhcpdinhgaaDoor
open Go.RowKit Go.Deep PureNet ShfKit
set_option maxRecDepth 100000

/-- a list that was handed out, and what was grown out of it. -/
structure Pr where
  v : Value
  A : List Bool
  u : Value
  M : List Bool
/-- such lists, no two in one block. -/
structure PF (W : World) (B : Nat) (L : List Pr) : Prop where
  pair : ∀ (i : Nat) (x : Pr), L[i]? = some x → Pair W B 4 1 x.v x.A.length (bo x.A) x.u x.M.length (bo x.M)
  apart : ∀ (i j : Nat) (x y : Pr) (k : Nat), L[i]? = some x → L[j]? = some y → i ≠ j → InB x.v x.u k → InB y.v y.u k → False
/-- a block of none of them. -/
def Free (L : List Pr) (s : Option Addr) (xs : List Value) : Prop := xs ≠ [] → ∀ b o sp, s = some ⟨b, o, sp⟩ → ∀ x ∈ L, ¬ InB x.v x.u b
theorem PF.below {W W' : World} {B : Nat} {L : List Pr} (h : PF W B L) (hb : Below W.heap.size W W') : PF W' B L :=
  ⟨fun i x hx => (h.pair i x hx).kept hb.size fun k hk => hb.block k ((h.pair i x hx).blk hk).2, h.apart⟩
/-- one of them turns, in a block of its own or a new one. -/
theorem PF.turn {W W' : World} {B : Nat} {L : List Pr} {i : Nat} {x y : Pr} {b : Option Nat} (h : PF W B L) (hx : L[i]? = some x) (hp : Pair W' B 4 1 y.v y.A.length (bo y.A) y.u y.M.length (bo y.M)) (hg : W.grownBy W' b) (hb : ∀ k, b = some k → InB x.v x.u k) (hy : ∀ k, InB y.v y.u k → InB x.v x.u k ∨ W.heap.size ≤ k) : PF W' B (L.set i y) := by
  have hi := (List.getElem?_eq_some_iff.1 hx).1
  have old : ∀ (j : Nat) (z : Pr), j ≠ i → L[j]? = some z → Pair W' B 4 1 z.v z.A.length (bo z.A) z.u z.M.length (bo z.M) := fun j z hj hz =>
    (h.pair j z hz).kept hg.size fun k hk => hg.block k ((h.pair j z hz).blk hk).2 (fun e => h.apart j i z x k hz hx hj hk (hb k e.symm))
  have get : ∀ (j : Nat) (z : Pr), (L.set i y)[j]? = some z → (j = i ∧ z = y) ∨ (j ≠ i ∧ L[j]? = some z) := fun j z hz => by
    rw [List.getElem?_set] at hz
    by_cases e : i = j
    · rw [if_pos e, if_pos (by omega)] at hz
      exact .inl ⟨e.symm, (Option.some.inj hz).symm⟩
    · rw [if_neg e] at hz
      exact .inr ⟨fun e2 => e e2.symm, hz⟩
  have cross : ∀ (j : Nat) (z : Pr) (k : Nat), j ≠ i → L[j]? = some z → InB z.v z.u k → InB y.v y.u k → False := fun j z k hj hz hk hk2 => by
    rcases hy k hk2 with h1 | h1
    · exact h.apart j i z x k hz hx hj hk h1
    · have := ((h.pair j z hz).blk hk).2
      omega
  refine ⟨fun j z hz => ?_, fun j m z u k hz hu hjm hk hk2 => ?_⟩
  · rcases get j z hz with ⟨rfl, rfl⟩ | ⟨hj, hz⟩
    · exact hp
    · exact old j z hj hz
  · rcases get j z hz with ⟨rfl, rfl⟩ | ⟨hj, _⟩
    · rcases get m u hu with ⟨e1, e2⟩ | ⟨hm, hu⟩
      · exact hjm e1.symm
      · exact cross m u k hm hu hk2 hk
    · rename_i hz9
      rcases get m u hu with ⟨e1, e2⟩ | ⟨hm, hu⟩
      · exact cross j z k hj hz9 hk (e2 ▸ hk2)
      · exact h.apart j m z u k hz9 hu hjm hk hk2
/-- what else lies there stays. -/
theorem free_cells {W W' : World} {L : List Pr} {i : Nat} {x : Pr} {b : Option Nat} {s : Option Addr} {xs : List Value} (hc : CellsAt W s xs) (hf : Free L s xs) (hx : L[i]? = some x) (hg : W.grownBy W' b) (hb : ∀ k, b = some k → InB x.v x.u k) : CellsAt W' s xs := ⟨fun k u hu => by
  obtain ⟨g, o, e, hlt, hce⟩ := hc.at_ k u hu
  refine ⟨g, o, e, Nat.lt_of_lt_of_le hlt hg.size, ?_⟩
  have hbk := hg.block g hlt (fun e2 => hf (fun e3 => by rw [e3] at hu; simp at hu) g o none e x (List.mem_of_getElem? hx) (hb g e2.symm))
  rw [World.cell?_of_block (w := W) hbk]
  exact hce⟩
/-- what stays free. -/
theorem Free.turn {W : World} {L : List Pr} {i : Nat} {x y : Pr} {s : Option Addr} {xs : List Value} (h : Free L s xs) (hc : CellsAt W s xs) (hx : L[i]? = some x) (hy : ∀ k, InB y.v y.u k → InB x.v x.u k ∨ W.heap.size ≤ k) : Free (L.set i y) s xs := fun hxs b o sp e z hz hk => by
  rcases List.mem_or_eq_of_mem_set hz with hz | rfl
  · exact h hxs b o sp e z hz hk
  · rcases hy b hk with h1 | h1
    · exact h hxs b o sp e x (List.mem_of_getElem? hx) h1
    · obtain ⟨u, hu⟩ : ∃ u, xs[0]? = some u := by
        cases xs with
        | nil => exact absurd rfl hxs
        | cons u r => exact ⟨u, rfl⟩
      obtain ⟨g, o2, e2, hlt, _⟩ := hc.at_ 0 u hu
      rw [e] at e2
      cases e2
      omega
/-- a want: a list that can be read. -/
def Wnt (W : World) (L : List Pr) (x : Value × List Bool) : Prop := ∃ s c, x.1 = .slice s x.2.length c ∧ CellsAt W s (bo x.2) ∧ Free L s (bo x.2)
/-- what alone has in hand. -/
structure Al (W : World) (B : Nat) (sl sw : Option Addr) (L : List Pr) (Wn : List (Value × List Bool)) : Prop where
  lists : CellsAt W sl (L.map Pr.v)
  offL : Free L sl (L.map Pr.v)
  wants : CellsAt W sw (Wn.map Prod.fst)
  offW : Free L sw (Wn.map Prod.fst)
  pf : PF W B L
  want : ∀ x ∈ Wn, Wnt W L x
theorem Wnt.below {W W' : World} {L : List Pr} {x : Value × List Bool} (h : Wnt W L x) (hb : Below W.heap.size W W') : Wnt W' L x := by
  obtain ⟨s, c, e, hc, hf⟩ := h
  exact ⟨s, c, e, hc.below hb, hf⟩
theorem Al.below {W W' : World} {B : Nat} {sl sw : Option Addr} {L : List Pr} {Wn : List (Value × List Bool)} (h : Al W B sl sw L Wn) (hb : Below W.heap.size W W') : Al W' B sl sw L Wn :=
  ⟨h.lists.below hb, h.offL, h.wants.below hb, h.offW, h.pf.below hb, fun x hx => (h.want x hx).below hb⟩
theorem set_map_v {L : List Pr} {i : Nat} {x y : Pr} (hx : L[i]? = some x) (hv : y.v = x.v) : (L.set i y).map Pr.v = L.map Pr.v := by
  rw [List.map_set]
  have hi := (List.getElem?_eq_some_iff.1 hx).1
  have : (L.map Pr.v)[i]? = some y.v := by rw [List.getElem?_map, hx, hv]; rfl
  have hi2 : i < (L.map Pr.v).length := by simpa using hi
  have h2 := List.set_getElem_self hi2
  rw [(List.getElem?_eq_some_iff.1 this).2] at h2
  exact h2
theorem Al.turn {W W' : World} {B : Nat} {sl sw : Option Addr} {L : List Pr} {Wn : List (Value × List Bool)} {i : Nat} {x y : Pr} {b : Option Nat} (h : Al W B sl sw L Wn) (hx : L[i]? = some x) (hv : y.v = x.v) (hp : Pair W' B 4 1 y.v y.A.length (bo y.A) y.u y.M.length (bo y.M)) (hg : W.grownBy W' b) (hb : ∀ k, b = some k → InB x.v x.u k) (hy : ∀ k, InB y.v y.u k → InB x.v x.u k ∨ W.heap.size ≤ k) : Al W' B sl sw (L.set i y) Wn := by
  refine ⟨by rw [set_map_v hx hv]; exact free_cells h.lists h.offL hx hg hb, by rw [set_map_v hx hv]; exact h.offL.turn h.lists hx hy, free_cells h.wants h.offW hx hg hb, h.offW.turn h.wants hx hy, h.pf.turn hx hp hg hb hy, fun z hz => ?_⟩
  obtain ⟨s, c, e, hc, hf⟩ := h.want z hz
  exact ⟨s, c, e, free_cells hc hf hx hg hb, hf.turn hc hx hy⟩
end Go.Proofs.YtfmmmhcpdinhgaaDoor
