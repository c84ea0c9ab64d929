import Derived.Test.YtfmmmhcpdinhgaaDoorZ09
/-
  The law's own twin.
-/
namespace Go.Proofs.YtfmmmhcpdinhgaaDoor
open Go.RowKit Go.Deep PureNet ShfKit
set_option maxRecDepth 100000

set_option maxHeartbeats 2000000 in
theorem twin_any (c : Net) (sg so : Option Addr) (cg co : Nat) (w : World) (hc : CirAt w c sg so) (hsg : sg = none → cg = 0) (hso : so = none → co = 0) (hl : c.gates.length ≤ 1099511627776) (hlo : c.outs.length ≤ 1099511627776) :
    Calls Tryd.prog 20 #[cirV c sg cg so co] w fun e w' => ∃ gg kg go ko, e = .returned (cirV c (some ⟨gg, 0, none⟩) kg (some ⟨go, 0, none⟩) ko) ∧ TwinAt w' w.heap.size c gg kg go ko ∧ Below w.heap.size w w' := by
  obtain ⟨x, hx⟩ : ∃ x, x = (w.alloc (Obj.cells #[Value.string c.name, Value.slice sg c.gates.length cg, Value.slice so c.outs.length co] 26)).alloc (Obj.cells #[Value.string ⟨#[]⟩, Value.slice none 0 0, Value.slice none 0 0] 26) := ⟨_, rfl⟩
  have s1 : (w.alloc (Obj.cells #[Value.string c.name, Value.slice sg c.gates.length cg, Value.slice so c.outs.length co] 26)).heap.size = w.heap.size + 1 := by simp
  have R1 : Hid (x.heap[w.heap.size]? = some (.cells #[Value.string c.name, Value.slice sg c.gates.length cg, Value.slice so c.outs.length co] 26 (0, 0))) := by show _ = _; rw [hx, Below.heap_alloc _ _ _ (by omega)]; exact heap_alloc_new w _
  have R2 : Hid (x.heap[w.heap.size + 1]? = some (.cells #[Value.string ⟨#[]⟩, Value.slice none 0 0, Value.slice none 0 0] 26 (0, 0))) := by show _ = _; rw [hx, ← s1]; exact heap_alloc_new _ _
  have BX : Hid (Below w.heap.size w x) := by rw [hx]; exact ((Below.refl _ _).alloc (Nat.le_refl _) _).alloc (by omega) _
  have CE : Hid (∀ W, Below x.heap.size x W → (∀ j, W.cell? ⟨w.heap.size, j, none⟩ = (#[Value.string c.name, Value.slice sg c.gates.length cg, Value.slice so c.outs.length co] : Array Value)[j]?) ∧ w.heap.size < W.heap.size ∧ (∀ j, W.cell? ⟨w.heap.size + 1, j, none⟩ = (#[Value.string ⟨#[]⟩, Value.slice none 0 0, Value.slice none 0 0] : Array Value)[j]?) ∧ w.heap.size + 1 < W.heap.size ∧ ∀ j, W.frozen? ⟨w.heap.size + 1, j, none⟩ = false) := fun W hW => by
    have h1 := (hW.block _ (Array.getElem?_eq_some_iff.1 R1.out).1).trans R1.out
    have h2 := (hW.block _ (Array.getElem?_eq_some_iff.1 R2.out).1).trans R2.out
    exact ⟨fun j => cell_row h1 j, (Array.getElem?_eq_some_iff.1 h1).1, fun j => cell_row h2 j, (Array.getElem?_eq_some_iff.1 h2).1, fun j => unfrozen_row h2 j⟩
  have GX := hid (hc.below BX.out)
  have GN := hid (And.intro hsg hso)
  have LG : Hid (c.gates.length ≤ 1099511627776 ∧ c.outs.length ≤ 1099511627776) := ⟨hl, hlo⟩
  obtain ⟨d0, hb0, _⟩ := CE.out x (Below.refl _ _)
  have HX := hid hx
  clear hx s1 hc hsg hso hl hlo
  go_enter Tryd.func20, Tryd.ntmps20
  go_wp2_with (first
    | (rw [← HX.out])
    | (have q := O3; clear q; at_builtin; refine wpl_cells _ rfl _ _ 22 rfl x.heap.size 3 _ 1 8 Tryd.underlying22 info3 rfl (by decide) v2 c.outs.length (nu c.outs) rfl (ownsRow_below OB.out ((Below.refl _ _).alloc (Nat.le_refl _) _)) (some ⟨w3.heap.size, 0, none⟩) 2 2 [.int .i64 77, .int .i64 78] rfl rfl ⟨fun k u hu => ⟨w3.heap.size, 0, rfl, by simp, by rw [Nat.zero_add, cell_row (heap_alloc_new w3 _)]; simpa using hu⟩⟩ (fun e => by cases e) (fun u hu => by simp at hu; rcases hu with rfl | rfl <;> rfl) (by have := LG.out.2; unfold maxLen; omega) (by have := LG.out.2; omega) (by have := B3.out.size; simp; omega) ?_; intro v4 w4 o4 f4; have O4 := hid o4; have B4 : Hid (Below x.heap.size x w4) := f4.below (B3.out.alloc B3.out.size _) (Nat.le_trans B3.out.size (by simp)) (fun g hg => (own_block OB.out hg).1); have OC := hid (f4.other (ownsRow_below OB.out ((Below.refl _ _).alloc (Nat.le_refl _) _)) (ownsRow_below O3.out ((Below.refl _ _).alloc (Nat.le_refl _) _)) (by decide)); clear o4 f4)
    | (have q := O2; clear q; at_builtin; refine wpl_cells _ rfl _ _ 24 rfl x.heap.size 38 _ 6 56 Tryd.underlying24 info38 rfl (by decide) v1 c.gates.length (gas c.gates) rfl (ownsRow_below OA.out ((Below.refl _ _).alloc (Nat.le_refl _) _)) (some ⟨w2.heap.size, 0, none⟩) 2 2 (gas [roomG, roomG]) rfl rfl ⟨fun k u hu => ⟨w2.heap.size, 0, rfl, by simp, by rw [Nat.zero_add, cell_row (heap_alloc_new w2 _)]; simpa [gas, ga, roomG] using hu⟩⟩ (fun e => by cases e) (gas_one _) (by have := LG.out.1; unfold maxLen; omega) (by have := LG.out.1; omega) (by have := B2.out.size; simp; omega) ?_; intro v3 w3 o3 f3; have O3 := hid o3; have B3 : Hid (Below x.heap.size x w3) := f3.below (B2.out.alloc B2.out.size _) (Nat.le_trans B2.out.size (by simp)) (fun g hg => (own_block OA.out hg).1); have OB := hid (f3.other (ownsRow_below OA.out ((Below.refl _ _).alloc (Nat.le_refl _) _)) (ownsRow_below O2.out ((Below.refl _ _).alloc (Nat.le_refl _) _)) (by decide)); clear o3 f3)
    | (have q := O1; clear q; at_builtin; refine wpl_cells w1 rfl _ _ 22 rfl x.heap.size 3 _ 1 8 Tryd.underlying22 info3 rfl (by decide) (.slice none 0 0) 0 [] rfl (World.ownsRow_nil _ _ _ _) so c.outs.length co (nu c.outs) rfl (by simp [nu]) (GX.out.below B1.out).outs GN.out.2 (nus_one _) (by have := LG.out.2; unfold maxLen; omega) (by have := LG.out.2; omega) B1.out.size ?_; intro v2 w2 o2 f2; rw [Nat.zero_add, List.nil_append] at o2; have O2 := hid o2; have B12 : Hid (Below w1.heap.size w1 w2) := f2.below (Below.refl _ _) (Nat.le_refl _) (fun g hg => by simp [Value.ownBlock] at hg); have B2 : Hid (Below x.heap.size x w2) := B1.out.trans (B12.out.mono B1.out.size); have OA := hid (ownsRow_below O1.out B12.out); obtain ⟨d2, hb2, _⟩ := CE.out w2 B2.out; clear o2 f2)
    | (at_builtin; refine wpl_cells x rfl _ _ 24 rfl x.heap.size 38 _ 6 56 Tryd.underlying24 info38 rfl (by decide) (.slice none 0 0) 0 [] rfl (World.ownsRow_nil _ _ _ _) sg c.gates.length cg (gas c.gates) rfl (gas_length _) GX.out.gates GN.out.1 (gas_one _) (by have := LG.out.1; unfold maxLen; omega) (by have := LG.out.1; omega) (Nat.le_refl _) ?_; intro v1 w1 o1 f1; rw [Nat.zero_add, List.nil_append] at o1; have O1 := hid o1; have B1 : Hid (Below x.heap.size x w1) := f1.below (Below.refl _ _) (Nat.le_refl _) (fun g hg => by simp [Value.ownBlock] at hg); obtain ⟨d1, hb1, _⟩ := CE.out w1 B1.out; clear o1 f1))
  obtain ⟨gg, kg, hv3, hgk, hgb, hgs⟩ := own_some OC.out (by omega)
  obtain ⟨go, ko, hv4, hok, hob, hos⟩ := own_some O4.out (by omega)
  subst hv3
  subst hv4
  obtain ⟨d4, hb4, e4, hb5, fz4⟩ := CE.out w4 B4.out
  have hgk2 : c.gates.length ≤ kg := by omega
  have hok2 : c.outs.length ≤ ko := by omega
  have hne1 : w.heap.size + 1 ≠ w.heap.size := by omega
  go_wp2

  refine wp_region_noPanic ?_
  refine wp_region_held_drew (S := fun W => ∀ j, W.cell? ⟨w.heap.size, j, none⟩ = (#[Value.string c.name, Value.slice sg c.gates.length cg, Value.slice so c.outs.length co] : Array Value)[j]?) (by kernel_rfl) d4 (fun hHeld => ?_)
  refine wpAnyH_take (i := 0) (v := ?_) (by simp only [List.getElem?_toArray, List.getElem?_cons_zero]; rfl) (by kernel_rfl) (by kernel_rfl) (by kernel_rfl) (fun _ _ _ h => h) (Or.inl ⟨by rfl, ?_⟩) (by assumption) ?_
  rotate_left 1
  · intro w hSw; (try dsimp only at hSw); go_simp; (try with_reducible rfl)
  try simp only [Act.put, List.setIfInBounds_toArray, List.set_cons_zero, List.set_cons_succ]
  refine wpAnyH_take (i := 1) (v := ?_) (by simp only [List.getElem?_toArray, List.getElem?_cons_succ, List.getElem?_cons_zero]; rfl) (by kernel_rfl) (by kernel_rfl) (by kernel_rfl) (fun _ _ _ h => h) (Or.inl ⟨by rfl, ?_⟩) (by assumption) ?_
  rotate_left 1
  · intro w hSw; (try dsimp only at hSw); go_simp; (try with_reducible rfl)
  try simp only [Act.put, List.setIfInBounds_toArray, List.set_cons_zero, List.set_cons_succ]
  refine wpAnyH_take (i := 2) (v := ?_) (by simp only [List.getElem?_toArray, List.getElem?_cons_succ, List.getElem?_cons_zero]; rfl) (by kernel_rfl) (by kernel_rfl) (by kernel_rfl) (fun _ _ _ h => h) (Or.inl ⟨by rfl, ?_⟩) (by assumption) ?_
  rotate_left 1
  · intro w hSw; (try dsimp only at hSw); go_simp; (try with_reducible rfl)
  try simp only [Act.put, List.setIfInBounds_toArray, List.set_cons_zero, List.set_cons_succ]
  refine wpAnyH_take (i := 3) (v := ?_) (by simp only [List.getElem?_toArray, List.getElem?_cons_succ, List.getElem?_cons_zero]; rfl) (by kernel_rfl) (by kernel_rfl) (by kernel_rfl) (fun _ _ _ h => h) (Or.inl ⟨by rfl, ?_⟩) (by assumption) ?_
  rotate_left 1
  · intro w hSw; (try dsimp only at hSw); go_simp; (try with_reducible rfl)
  try simp only [Act.put, List.setIfInBounds_toArray, List.set_cons_zero, List.set_cons_succ]
  refine wpAnyH_take (i := 4) (v := ?_) (by simp only [List.getElem?_toArray, List.getElem?_cons_succ, List.getElem?_cons_zero]; rfl) (by kernel_rfl) (by kernel_rfl) (by kernel_rfl) (fun _ _ _ h => h) (Or.inl ⟨by rfl, ?_⟩) (by assumption) ?_
  rotate_left 1
  · intro w hSw; (try dsimp only at hSw); go_simp; (try with_reducible rfl)
  try simp only [Act.put, List.setIfInBounds_toArray, List.set_cons_zero, List.set_cons_succ]
  refine wpAnyH_take (i := 5) (v := ?_) (by simp only [List.getElem?_toArray, List.getElem?_cons_succ, List.getElem?_cons_zero]; rfl) (by kernel_rfl) (by kernel_rfl) (by kernel_rfl) (fun _ _ _ h => h) (Or.inl ⟨by rfl, ?_⟩) (by assumption) ?_
  rotate_left 1
  · intro w hSw; (try dsimp only at hSw); go_simp; (try with_reducible rfl)
  try simp only [Act.put, List.setIfInBounds_toArray, List.set_cons_zero, List.set_cons_succ]
  refine wpAnyH_take (i := 6) (v := .slice (some ⟨gg, 0, none⟩) c.gates.length kg) (by simp only [List.getElem?_toArray, List.getElem?_cons_succ, List.getElem?_cons_zero]; rfl) (by kernel_rfl) (by kernel_rfl) (by kernel_rfl) (fun _ _ _ h => h) (Or.inl ⟨by rfl, ?_⟩) (by assumption) ?_
  · intro w hSw; (try dsimp only at hSw); (try go_simp); ((try rw [if_pos (by omega)]); (try simp); (try omega))
  try simp only [Act.put, List.setIfInBounds_toArray, List.set_cons_zero, List.set_cons_succ]
  refine wpAnyH_take (i := 7) (v := ?_) (by simp only [List.getElem?_toArray, List.getElem?_cons_succ, List.getElem?_cons_zero]; rfl) (by kernel_rfl) (by kernel_rfl) (by kernel_rfl) (fun _ _ _ h => h) (Or.inl ⟨by rfl, ?_⟩) (by assumption) ?_
  rotate_left 1
  · intro w hSw; (try dsimp only at hSw); go_simp; (try with_reducible rfl)
  try simp only [Act.put, List.setIfInBounds_toArray, List.set_cons_zero, List.set_cons_succ]
  refine wpAnyH_take (i := 8) (v := ?_) (by simp only [List.getElem?_toArray, List.getElem?_cons_succ, List.getElem?_cons_zero]; rfl) (by kernel_rfl) (by kernel_rfl) (by kernel_rfl) (fun _ _ _ h => h) (Or.inl ⟨by rfl, ?_⟩) (by assumption) ?_
  rotate_left 1
  · intro w hSw; (try dsimp only at hSw); go_simp; (try with_reducible rfl)
  try simp only [Act.put, List.setIfInBounds_toArray, List.set_cons_zero, List.set_cons_succ]
  refine wpAnyH_take (i := 9) (v := ?_) (by simp only [List.getElem?_toArray, List.getElem?_cons_succ, List.getElem?_cons_zero]; rfl) (by kernel_rfl) (by kernel_rfl) (by kernel_rfl) (fun _ _ _ h => h) (Or.inl ⟨by rfl, ?_⟩) (by assumption) ?_
  rotate_left 1
  · intro w hSw; (try dsimp only at hSw); go_simp; (try with_reducible rfl)
  try simp only [Act.put, List.setIfInBounds_toArray, List.set_cons_zero, List.set_cons_succ]
  refine wpAnyH_take (i := 10) (v := ?_) (by simp only [List.getElem?_toArray, List.getElem?_cons_succ, List.getElem?_cons_zero]; rfl) (by kernel_rfl) (by kernel_rfl) (by kernel_rfl) (fun _ _ _ h => h) (Or.inl ⟨by rfl, ?_⟩) (by assumption) ?_
  rotate_left 1
  · intro w hSw; (try dsimp only at hSw); go_simp; (try with_reducible rfl)
  try simp only [Act.put, List.setIfInBounds_toArray, List.set_cons_zero, List.set_cons_succ]
  refine wpAnyH_take (i := 11) (v := .slice (some ⟨go, 0, none⟩) c.outs.length ko) (by simp only [List.getElem?_toArray, List.getElem?_cons_succ, List.getElem?_cons_zero]; rfl) (by kernel_rfl) (by kernel_rfl) (by kernel_rfl) (fun _ _ _ h => h) (Or.inl ⟨by rfl, ?_⟩) (by assumption) ?_
  · intro w hSw; (try dsimp only at hSw); (try go_simp); ((try rw [if_pos (by omega)]); (try simp); (try omega))
  try simp only [Act.put, List.setIfInBounds_toArray, List.set_cons_zero, List.set_cons_succ]
  refine wpAnyH_take (i := 12) (v := ?_) (by simp only [List.getElem?_toArray, List.getElem?_cons_succ, List.getElem?_cons_zero]; rfl) (by kernel_rfl) (by kernel_rfl) (by kernel_rfl) (fun _ _ _ h => h) (Or.inl ⟨by rfl, ?_⟩) (by assumption) ?_
  rotate_left 1
  · intro w hSw; (try dsimp only at hSw); go_simp; (try with_reducible rfl)
  try simp only [Act.put, List.setIfInBounds_toArray, List.set_cons_zero, List.set_cons_succ]
  refine wpAnyH_ready (rs := [13]) (by kernel_rfl) (by simp) ?_
  refine AllReadyH.cons (by simp only [List.getElem?_toArray, List.getElem?_cons_succ, List.getElem?_cons_zero]; rfl) (fun K hK => ?_) AllReadyH.nil
  go_simp
  clear hHeld
  refine hK.out _ _ (fun j => (World.cell?_setCell_far _ _ _ _ hne1).trans ((World.cell?_setCell_far _ _ _ _ hne1).trans ((World.cell?_setCell_far _ _ _ _ hne1).trans (d4 j)))) (fun hHeld => ?_)
  clear hK K
  try simp only [Act.put, List.setIfInBounds_toArray, List.set_cons_zero, List.set_cons_succ]
  refine wpAnyH_done (by kernel_rfl) ?_ _
  refine NoPanic.normal ?_
  go_wp2
  obtain ⟨Y, hY⟩ : ∃ Y, Y = (((w4.setCell ⟨w.heap.size + 1, 0, none⟩ (.string c.name)).setCell ⟨w.heap.size + 1, 1, none⟩ (.slice (some ⟨gg, 0, none⟩) c.gates.length kg)).setCell ⟨w.heap.size + 1, 2, none⟩ (.slice (some ⟨go, 0, none⟩) c.outs.length ko)).drew := ⟨_, rfl⟩
  have r4 : w4.heap[w.heap.size + 1]? = some (.cells #[Value.string ⟨#[]⟩, Value.slice none 0 0, Value.slice none 0 0] 26 (0, 0)) := (B4.out.block _ (Array.getElem?_eq_some_iff.1 R2.out).1).trans R2.out
  have r5 : Y.heap[w.heap.size + 1]? = some (.cells #[.string c.name, .slice (some ⟨gg, 0, none⟩) c.gates.length kg, .slice (some ⟨go, 0, none⟩) c.outs.length ko] 26 (0, 0)) := by
    have h1 := row_set (i := 0) (u := .string c.name) r4
    have h2 := row_set (i := 1) (u := .slice (some ⟨gg, 0, none⟩) c.gates.length kg) h1
    have h3 := row_set (i := 2) (u := .slice (some ⟨go, 0, none⟩) c.outs.length ko) h2
    rw [hY]
    exact h3
  have gy : w4.grownBy Y (some (w.heap.size + 1)) := by
    have h1 : w4.grownBy (((w4.setCell ⟨w.heap.size + 1, 0, none⟩ (.string c.name)).setCell ⟨w.heap.size + 1, 1, none⟩ (.slice (some ⟨gg, 0, none⟩) c.gates.length kg)).setCell ⟨w.heap.size + 1, 2, none⟩ (.slice (some ⟨go, 0, none⟩) c.outs.length ko)) (some (w.heap.size + 1)) := grown_set (grown_set (grown_set (World.grownBy.refl _ _)))
    rw [hY]
    exact ⟨h1.os, h1.tape, h1.output, h1.size, h1.block⟩
  rw [← hY]
  clear hY
  have hxs : w.heap.size + 1 < x.heap.size := (Array.getElem?_eq_some_iff.1 R2.out).1
  have z0 := cell_row r5 0
  have z1 := cell_row r5 1
  have z2 := cell_row r5 2
  have keep : ∀ {e size n : Nat} {v : Value} {xs : List Value}, w4.ownsRow x.heap.size e size v n xs → Y.ownsRow w.heap.size e size v n xs := fun {e size n v xs} ho => ShfKit.own_base (ShfKit.own_kept ho fun g hg => gy.block g (own_block ho hg).2 (fun e => by have := (own_block ho hg).1; have := Option.some.inj e; omega)) BX.out.size
  have e1 : gas (c.gates ++ [roomG, roomG]) = gas c.gates ++ gas [roomG, roomG] := by simp [gas]
  have e2 : nu (c.outs ++ [77, 78]) = nu c.outs ++ [.int .i64 77, .int .i64 78] := by simp [nu]
  have hB4 : Below w.heap.size w w4 := BX.out.trans (B4.out.mono BX.out.size)
  refine bodyPost_ret (v := .agg #[.string c.name, .slice (some ⟨gg, 0, none⟩) c.gates.length kg, .slice (some ⟨go, 0, none⟩) c.outs.length ko]) (by simp [results, Tryd.results20, go_sem, z0, z1, z2]) rfl ⟨gg, kg, go, ko, rfl, ⟨by rw [e1]; exact keep OC.out, by rw [e2]; exact keep O4.out⟩, hB4.grown gy hB4.size (fun j hj => by cases hj; omega)⟩
end Go.Proofs.YtfmmmhcpdinhgaaDoor
/-
  The law's same, places.
-/
namespace Go.Proofs.YtfmmmhcpdinhgaaDoor
open Go.RowKit Go.Deep PureNet
set_option maxRecDepth 100000


set_option maxHeartbeats 1000000 in
set_option maxRecDepth 100000 in
theorem same_true (c : Net) (sg so sg2 so2 : Option Addr) (cg co cg2 co2 : Nat) (w : World) (ha : CirAt w c sg so) (hb : CirAt w c sg2 so2) (hl : c.gates.length ≤ 2513169434843) (hlo : c.outs.length ≤ 17592186043904) :
    Calls Tryd.prog 48 #[cirV c sg cg so co, cirV c sg2 cg2 so2 co2] w fun e w' => e = .returned (.bool true) ∧ Below w.heap.size w w' := by
  have HA := hid ha
  have HB := hid hb
  clear ha hb
  go_enter Tryd.func48, Tryd.ntmps48
  go_wp2
  obtain ⟨X, hX⟩ : ∃ X, X = (w.alloc (Obj.cells #[Value.string c.name, Value.slice sg c.gates.length cg, Value.slice so c.outs.length co] 26)).alloc (Obj.cells #[Value.string c.name, Value.slice sg2 c.gates.length cg2, Value.slice so2 c.outs.length co2] 26) := ⟨_, rfl⟩
  have s1 : (w.alloc (Obj.cells #[Value.string c.name, Value.slice sg c.gates.length cg, Value.slice so c.outs.length co] 26)).heap.size = w.heap.size + 1 := by simp
  have r1 : X.heap[w.heap.size]? = some (.cells #[Value.string c.name, Value.slice sg c.gates.length cg, Value.slice so c.outs.length co] 26 (0, 0)) := by rw [hX, Below.heap_alloc _ _ _ (by omega)]; exact heap_alloc_new w _
  have r2 : X.heap[w.heap.size + 1]? = some (.cells #[Value.string c.name, Value.slice sg2 c.gates.length cg2, Value.slice so2 c.outs.length co2] 26 (0, 0)) := by rw [hX, ← s1]; exact heap_alloc_new _ _
  have BX : Hid (Below w.heap.size w X) := by rw [hX]; exact ((Below.refl _ _).alloc (Nat.le_refl _) _).alloc (by omega) _
  have KB : Hid (∀ W, Below X.heap.size X W → (∀ j, W.cell? ⟨w.heap.size, j, none⟩ = (#[Value.string c.name, Value.slice sg c.gates.length cg, Value.slice so c.outs.length co] : Array Value)[j]?) ∧ (∀ j, W.cell? ⟨w.heap.size + 1, j, none⟩ = (#[Value.string c.name, Value.slice sg2 c.gates.length cg2, Value.slice so2 c.outs.length co2] : Array Value)[j]?) ∧ w.heap.size < W.heap.size ∧ w.heap.size + 1 < W.heap.size) := fun W hW => by
    have e1 := (hW.block _ (Array.getElem?_eq_some_iff.1 r1).1).trans r1
    have e2 := (hW.block _ (Array.getElem?_eq_some_iff.1 r2).1).trans r2
    exact ⟨fun j => cell_row e1 j, fun j => cell_row e2 j, (Array.getElem?_eq_some_iff.1 e1).1, (Array.getElem?_eq_some_iff.1 e2).1⟩
  rw [← hX]
  clear hX s1 r1 r2
  go_loopw [5] (fun iv W => ∃ k : Nat, k ≤ c.gates.length ∧ iv = .int .i64 (k : Int) ∧ Hid (Below X.heap.size X W)) (fun iv _ => c.gates.length - (intOf iv).toNat)
  case atStart => exact ⟨0, Nat.zero_le _, rfl, Below.refl _ _⟩
  case round =>
    obtain ⟨k, hk, rfl, HW⟩ := hrel
    have hww : Below w.heap.size w wr := BX.out.trans (HW.out.mono BX.out.size)
    obtain ⟨c1, c2, hb1, hb2⟩ := KB.out _ HW.out
    by_cases hlt : k < c.gates.length
    · obtain ⟨g, hg⟩ : ∃ g, c.gates[k]? = some g := ⟨_, List.getElem?_eq_getElem hlt⟩
      obtain ⟨b, o, rfl, hb, d0, d1, d2, d3, d4, d5⟩ := gate_at (HA.out.below hww).gates k g hg
      obtain ⟨b', o', rfl, hb', e0, e1, e2, e3, e4, e5⟩ := gate_at (HB.out.below hww).gates k g hg
      clear hg hww
      have a1 : wr.cell? ⟨w.heap.size, 1, none⟩ = some (.slice (some ⟨b, o, none⟩) c.gates.length cg) := (c1 1).trans rfl
      have a2 : wr.cell? ⟨w.heap.size + 1, 1, none⟩ = some (.slice (some ⟨b', o', none⟩) c.gates.length cg2) := (c2 1).trans rfl
      go_wp2
      refine wp_region_noPanic ?_
      refine wp_region_held_drew (S := fun W => W.cell? ⟨w.heap.size, 1, none⟩ = some (.slice (some ⟨b, o, none⟩) c.gates.length cg) ∧ W.cell? ⟨w.heap.size + 1, 1, none⟩ = some (.slice (some ⟨b', o', none⟩) c.gates.length cg2) ∧ W.cell? ⟨b, o + k * 6, none⟩ = some (.int .i64 g.kind) ∧ W.cell? ⟨b, o + k * 6 + 1, none⟩ = some (.string g.name) ∧ W.cell? ⟨b, o + k * 6 + 2, none⟩ = some (.int .i64 g.op) ∧ W.cell? ⟨b, o + k * 6 + 3, none⟩ = some (.int .i64 g.a) ∧ W.cell? ⟨b, o + k * 6 + 4, none⟩ = some (.int .i64 g.b) ∧ W.cell? ⟨b, o + k * 6 + 5, none⟩ = some (.int .i64 g.c) ∧ W.cell? ⟨b', o' + k * 6, none⟩ = some (.int .i64 g.kind) ∧ W.cell? ⟨b', o' + k * 6 + 1, none⟩ = some (.string g.name) ∧ W.cell? ⟨b', o' + k * 6 + 2, none⟩ = some (.int .i64 g.op) ∧ W.cell? ⟨b', o' + k * 6 + 3, none⟩ = some (.int .i64 g.a) ∧ W.cell? ⟨b', o' + k * 6 + 4, none⟩ = some (.int .i64 g.b) ∧ W.cell? ⟨b', o' + k * 6 + 5, none⟩ = some (.int .i64 g.c)) (by kernel_rfl) ⟨a1, a2, d0, d1, d2, d3, d4, d5, e0, e1, e2, e3, e4, e5⟩ (fun hHeld => ?_)
      refine wpAnyH_take (i := 0) (v := ?_) (by simp only [List.getElem?_toArray, List.getElem?_cons_zero]; rfl) (by kernel_rfl) (by kernel_rfl) (by kernel_rfl) (fun _ _ _ h => h) (Or.inl ⟨by rfl, ?_⟩) (by assumption) ?_
      rotate_left 1
      · intro w hSw; (try dsimp only at hSw); go_simp; (try with_reducible rfl)
      try simp only [Act.put, List.setIfInBounds_toArray, List.set_cons_zero, List.set_cons_succ]
      refine wpAnyH_take (i := 1) (v := ?_) (by simp only [List.getElem?_toArray, List.getElem?_cons_succ, List.getElem?_cons_zero]; rfl) (by kernel_rfl) (by kernel_rfl) (by kernel_rfl) (fun _ _ _ h => h) (Or.inl ⟨by rfl, ?_⟩) (by assumption) ?_
      rotate_left 1
      · intro w hSw; (try dsimp only at hSw); go_simp; (try with_reducible rfl)
      try simp only [Act.put, List.setIfInBounds_toArray, List.set_cons_zero, List.set_cons_succ]
      refine wpAnyH_take (i := 2) (v := ?_) (by simp only [List.getElem?_toArray, List.getElem?_cons_succ, List.getElem?_cons_zero]; rfl) (by kernel_rfl) (by kernel_rfl) (by kernel_rfl) (fun _ _ _ h => h) (Or.inl ⟨by rfl, ?_⟩) (by assumption) ?_
      rotate_left 1
      · intro w hSw; (try dsimp only at hSw); go_simp; (try with_reducible rfl)
      try simp only [Act.put, List.setIfInBounds_toArray, List.set_cons_zero, List.set_cons_succ]
      refine wpAnyH_take (i := 3) (v := ?_) (by simp only [List.getElem?_toArray, List.getElem?_cons_succ, List.getElem?_cons_zero]; rfl) (by kernel_rfl) (by kernel_rfl) (by kernel_rfl) (fun _ _ _ h => h) (Or.inl ⟨by rfl, ?_⟩) (by assumption) ?_
      rotate_left 1
      · intro w hSw; (try dsimp only at hSw); go_simp; (try with_reducible rfl)
      try simp only [Act.put, List.setIfInBounds_toArray, List.set_cons_zero, List.set_cons_succ]
      refine wpAnyH_take (i := 4) (v := ?_) (by simp only [List.getElem?_toArray, List.getElem?_cons_succ, List.getElem?_cons_zero]; rfl) (by kernel_rfl) (by kernel_rfl) (by kernel_rfl) (fun _ _ _ h => h) (Or.inl ⟨by rfl, ?_⟩) (by assumption) ?_
      rotate_left 1
      · intro w hSw; (try dsimp only at hSw); go_simp; (try with_reducible rfl)
      try simp only [Act.put, List.setIfInBounds_toArray, List.set_cons_zero, List.set_cons_succ]
      refine wpAnyH_take (i := 5) (v := ?_) (by simp only [List.getElem?_toArray, List.getElem?_cons_succ, List.getElem?_cons_zero]; rfl) (by kernel_rfl) (by kernel_rfl) (by kernel_rfl) (fun _ _ _ h => h) (Or.inl ⟨by rfl, ?_⟩) (by assumption) ?_
      rotate_left 1
      · intro w hSw; (try dsimp only at hSw); go_simp; (try with_reducible rfl)
      try simp only [Act.put, List.setIfInBounds_toArray, List.set_cons_zero, List.set_cons_succ]
      refine wpAnyH_take (i := 6) (v := ?_) (by simp only [List.getElem?_toArray, List.getElem?_cons_succ, List.getElem?_cons_zero]; rfl) (by kernel_rfl) (by kernel_rfl) (by kernel_rfl) (fun _ _ _ h => h) (Or.inl ⟨by rfl, ?_⟩) (by assumption) ?_
      rotate_left 1
      · intro w hSw; (try dsimp only at hSw); go_simp; (try with_reducible rfl)
      try simp only [Act.put, List.setIfInBounds_toArray, List.set_cons_zero, List.set_cons_succ]
      refine wpAnyH_take (i := 7) (v := ?_) (by simp only [List.getElem?_toArray, List.getElem?_cons_succ, List.getElem?_cons_zero]; rfl) (by kernel_rfl) (by kernel_rfl) (by kernel_rfl) (fun _ _ _ h => h) (Or.inl ⟨by rfl, ?_⟩) (by assumption) ?_
      rotate_left 1
      · intro w hSw; (try dsimp only at hSw); go_simp; (try with_reducible rfl)
      try simp only [Act.put, List.setIfInBounds_toArray, List.set_cons_zero, List.set_cons_succ]
      refine wpAnyH_take (i := 8) (v := ?_) (by simp only [List.getElem?_toArray, List.getElem?_cons_succ, List.getElem?_cons_zero]; rfl) (by kernel_rfl) (by kernel_rfl) (by kernel_rfl) (fun _ _ _ h => h) (Or.inl ⟨by rfl, ?_⟩) (by assumption) ?_
      rotate_left 1
      · intro w hSw; (try dsimp only at hSw); go_simp; (try with_reducible rfl)
      try simp only [Act.put, List.setIfInBounds_toArray, List.set_cons_zero, List.set_cons_succ]
      refine wpAnyH_take (i := 9) (v := ?_) (by simp only [List.getElem?_toArray, List.getElem?_cons_succ, List.getElem?_cons_zero]; rfl) (by kernel_rfl) (by kernel_rfl) (by kernel_rfl) (fun _ _ _ h => h) (Or.inl ⟨by rfl, ?_⟩) (by assumption) ?_
      rotate_left 1
      · intro w hSw; (try dsimp only at hSw); go_simp; (try with_reducible rfl)
      try simp only [Act.put, List.setIfInBounds_toArray, List.set_cons_zero, List.set_cons_succ]
      refine wpAnyH_take (i := 10) (v := .bool false) (by simp only [List.getElem?_toArray, List.getElem?_cons_succ, List.getElem?_cons_zero]; rfl) (by kernel_rfl) (by kernel_rfl) (by kernel_rfl) (fun _ _ _ h => h) (Or.inl ⟨by rfl, ?_⟩) (by assumption) ?_
      · intro w hSw; (try dsimp only at hSw); (try go_simp); (first | done | (with_reducible rfl) | simp)
      try simp only [Act.put, List.setIfInBounds_toArray, List.set_cons_zero, List.set_cons_succ]
      refine wpAnyH_done (by kernel_rfl) ?_ _
      refine NoPanic.normal ?_
      go_wp2
      exact ⟨⟨k + 1, hlt, by go_num, HW.out.trans (Below.refl _ _).drew⟩, by simp [intOf]; omega⟩
    · obtain ⟨w2, hw2⟩ : ∃ w2, w2 = wr := ⟨_, rfl⟩
      subst hw2
      go_wp2
      go_loopw [6] (fun iv W => ∃ k : Nat, k ≤ c.outs.length ∧ iv = .int .i64 (k : Int) ∧ Hid (Below X.heap.size X W)) (fun iv _ => c.outs.length - (intOf iv).toNat)
      case atStart => exact ⟨0, Nat.zero_le _, rfl, HW.out⟩
      case round =>
        clear c1 c2 hb1 hb2 hww
        obtain ⟨q, hq, rfl, HV⟩ := hrel
        have hww : Below w.heap.size w wr := BX.out.trans (HV.out.mono BX.out.size)
        obtain ⟨c1, c2, hb1, hb2⟩ := KB.out _ HV.out
        by_cases hlt : q < c.outs.length
        · obtain ⟨x, hx⟩ : ∃ x, c.outs[q]? = some x := ⟨_, List.getElem?_eq_getElem hlt⟩
          obtain ⟨b, o, rfl, hb, d0⟩ := num_at (HA.out.below hww).outs q x hx
          obtain ⟨b', o', rfl, hb', e0⟩ := num_at (HB.out.below hww).outs q x hx
          have a1 : wr.cell? ⟨w.heap.size, 2, none⟩ = some (.slice (some ⟨b, o, none⟩) c.outs.length co) := (c1 2).trans rfl
          have a2 : wr.cell? ⟨w.heap.size + 1, 2, none⟩ = some (.slice (some ⟨b', o', none⟩) c.outs.length co2) := (c2 2).trans rfl
          clear hx hww
          go_wp2
          go_quiet (fail)
          go_wp2
          exact ⟨⟨q + 1, hlt, by go_num, below_drewN HV.out _⟩, by simp [intOf]; omega⟩
        · have HF := hid hww
          clear hww
          go_wp2
          go_ret
          exact ⟨rfl, HF.out⟩
end Go.Proofs.YtfmmmhcpdinhgaaDoor
/-
  The law's own kept.
-/
namespace Go.Proofs.YtfmmmhcpdinhgaaDoor
open Go.RowKit Go.Deep PureNet ShfKit
set_option maxRecDepth 100000

theorem TwinAt.marks {W : World} {B : Nat} {c : Net} {gg kg go ko : Nat} (h : TwinAt W B c gg kg go ko) : W.cell? ⟨gg, c.gates.length * 6 + 1, none⟩ = some (.string ⟨#[114, 111, 111, 109]⟩) ∧ W.cell? ⟨gg, (c.gates.length + 1) * 6 + 1, none⟩ = some (.string ⟨#[114, 111, 111, 109]⟩) ∧ W.cell? ⟨go, c.outs.length, none⟩ = some (.int .i64 77) ∧ W.cell? ⟨go, c.outs.length + 1, none⟩ = some (.int .i64 78) ∧ c.gates.length + 2 ≤ kg ∧ c.outs.length + 2 ≤ ko ∧ gg < W.heap.size ∧ go < W.heap.size := by
  have h1 := own_at h.gates
  have h2 := own_at h.outs
  obtain ⟨_, _, hv1, hk1, _, hs1⟩ := own_some h.gates (by omega)
  obtain ⟨_, _, hv2, hk2, _, hs2⟩ := own_some h.outs (by omega)
  cases hv1
  cases hv2
  have one : ∀ (j : Nat) (u : Value), (gas (c.gates ++ [roomG, roomG]))[j]? = some u → W.cell? ⟨gg, j, none⟩ = some u := fun j u hu => by
    obtain ⟨b, o, e, _, hc⟩ := h1.at_ j u hu
    cases e
    rw [Nat.zero_add] at hc
    exact hc
  have two : ∀ (j : Nat) (u : Value), (nu (c.outs ++ [77, 78]))[j]? = some u → W.cell? ⟨go, j, none⟩ = some u := fun j u hu => by
    obtain ⟨b, o, e, _, hc⟩ := h2.at_ j u hu
    cases e
    rw [Nat.zero_add] at hc
    exact hc
  have hl : (c.gates ++ [roomG, roomG]).length = c.gates.length + 2 := by simp
  refine ⟨one _ _ ?_, one _ _ ?_, two _ _ ?_, two _ _ ?_, hk1, hk2, hs1, hs2⟩
  · rw [gas_at _ _ 1 (by omega) (by omega)]
    simp [ga, roomG]
  · rw [gas_at _ _ 1 (by omega) (by omega)]
    simp [ga, roomG]
  · simp [nu]
  · simp [nu]

set_option maxHeartbeats 2000000 in
theorem kept_true (c : Net) (B gg kg go ko : Nat) (sg so : Option Addr) (cg co : Nat) (w : World) (ht : TwinAt w B c gg kg go ko) (hc : CirAt w c sg so) (hl : c.gates.length ≤ 1099511627776) (hlo : c.outs.length ≤ 1099511627776) :
    Calls Tryd.prog 24 #[cirV c (some ⟨gg, 0, none⟩) kg (some ⟨go, 0, none⟩) ko, cirV c sg cg so co] w fun e w' => e = .returned (.bool true) ∧ Below w.heap.size w w' := by
  obtain ⟨x, hx⟩ : ∃ x, x = (w.alloc (Obj.cells #[Value.string c.name, Value.slice (some ⟨gg, 0, none⟩) c.gates.length kg, Value.slice (some ⟨go, 0, none⟩) c.outs.length ko] 26)).alloc (Obj.cells #[Value.string c.name, Value.slice sg c.gates.length cg, Value.slice so c.outs.length co] 26) := ⟨_, rfl⟩
  have s1 : (w.alloc (Obj.cells #[Value.string c.name, Value.slice (some ⟨gg, 0, none⟩) c.gates.length kg, Value.slice (some ⟨go, 0, none⟩) c.outs.length ko] 26)).heap.size = w.heap.size + 1 := by simp
  have R1 : Hid (x.heap[w.heap.size]? = some (.cells #[Value.string c.name, Value.slice (some ⟨gg, 0, none⟩) c.gates.length kg, Value.slice (some ⟨go, 0, none⟩) c.outs.length ko] 26 (0, 0))) := by show _ = _; rw [hx, Below.heap_alloc _ _ _ (by omega)]; exact heap_alloc_new w _
  have R2 : Hid (x.heap[w.heap.size + 1]? = some (.cells #[Value.string c.name, Value.slice sg c.gates.length cg, Value.slice so c.outs.length co] 26 (0, 0))) := by show _ = _; rw [hx, ← s1]; exact heap_alloc_new _ _
  have BX : Hid (Below w.heap.size w x) := by rw [hx]; exact ((Below.refl _ _).alloc (Nat.le_refl _) _).alloc (by omega) _
  have SM := hid (same_true c (some ⟨gg, 0, none⟩) (some ⟨go, 0, none⟩) sg so kg ko cg co x (ht.below BX.out).cir (hc.below BX.out) (by omega) (by omega))
  have d0 := fun j => cell_row R1.out j
  have d1 := fun j => cell_row R2.out j
  have hb0 := (Array.getElem?_eq_some_iff.1 R1.out).1
  have hb1 := (Array.getElem?_eq_some_iff.1 R2.out).1
  have TW : Hid (∀ W, Below x.heap.size x W → TwinAt W B c gg kg go ko) := fun W hW => (ht.below BX.out).below hW
  obtain ⟨_, _, _, _, hk1, hk2, _, _⟩ := ht.marks
  have HX := hid hx
  have g1 : IntKind.i64.wrap ((c.gates.length : Int) + 2) = ((c.gates.length + 2 : Nat) : Int) := by rw [IntKind.wrap_i64]; omega
  have g2 : IntKind.i64.wrap ((c.outs.length : Int) + 2) = ((c.outs.length + 2 : Nat) : Int) := by rw [IntKind.wrap_i64]; omega
  have g3 : IntKind.i64.wrap ((c.gates.length : Int) + 1) = ((c.gates.length + 1 : Nat) : Int) := by rw [IntKind.wrap_i64]; omega
  have g4 : IntKind.i64.wrap ((c.outs.length : Int) + 1) = ((c.outs.length + 1 : Nat) : Int) := by rw [IntKind.wrap_i64]; omega
  clear hx s1 ht hc
  go_enter Tryd.func24, Tryd.ntmps24
  go_wp2_with (first
    | (rw [← HX.out])
    | (go_at_call 48; refine Calls.mono SM.out ?_; rintro e w1 ⟨rfl, b1⟩; have B1 := hid b1; obtain ⟨m1, m2, m3, m4, _, _, ms1, ms2⟩ := (TW.out w1 b1).marks; clear b1))
  go_ret
  exact ⟨rfl, BX.out.trans (B1.out.mono BX.out.size)⟩
end Go.Proofs.YtfmmmhcpdinhgaaDoor
/-
  The program's names.
-/
namespace Go.Proofs.YtfmmmhcpdinhgaaDoor
open Go.RowKit Go.Deep PureNet
set_option maxRecDepth 100000

set_option maxHeartbeats 1000000 in
theorem begins_any (c : UInt8) (w : World) : Calls Tryd.prog 105 #[.int .u8 (c.toNat : Int)] w fun e w' => e = .returned (.bool (letB c)) ∧ w' = w := by
  have hc : (c.toNat : Int) ≤ 255 := by have := c.toNat_lt; omega
  by_cases h1 : 97 ≤ (c.toNat : Int)
  · by_cases h2 : (c.toNat : Int) ≤ 122
    · have HD : Hid (letB c = true) := by show _ = _; unfold letB; simp; omega
      go_enter Tryd.func105, Tryd.ntmps105
      go_wp2
      go_ret
      rw [HD.out]
      exact ⟨rfl, rfl⟩
    · have HD : Hid (letB c = false) := by show _ = _; unfold letB; simp; omega
      have h3 : 65 ≤ (c.toNat : Int) := by omega
      have h4 : ¬ (c.toNat : Int) ≤ 90 := by omega
      have h5 : ((c.toNat : Int) == 95) = false := beq_eq_false_iff_ne.2 (by omega)
      go_enter Tryd.func105, Tryd.ntmps105
      go_wp2
      go_ret
      rw [HD.out]
      exact ⟨rfl, rfl⟩
  · by_cases h3 : 65 ≤ (c.toNat : Int)
    · by_cases h4 : (c.toNat : Int) ≤ 90
      · have HD : Hid (letB c = true) := by show _ = _; unfold letB; simp; omega
        go_enter Tryd.func105, Tryd.ntmps105
        go_wp2
        go_ret
        rw [HD.out]
        exact ⟨rfl, rfl⟩
      · by_cases h5 : (c.toNat : Int) = 95
        · have HD : Hid (letB c = true) := by show _ = _; unfold letB; simp; omega
          go_enter Tryd.func105, Tryd.ntmps105
          go_wp2
          go_ret
          rw [HD.out]
          exact ⟨rfl, rfl⟩
        · have HD : Hid (letB c = false) := by show _ = _; unfold letB; simp; omega
          have h6 : ((c.toNat : Int) == 95) = false := beq_eq_false_iff_ne.2 h5
          clear h5
          go_enter Tryd.func105, Tryd.ntmps105
          go_wp2
          go_ret
          rw [HD.out]
          exact ⟨rfl, rfl⟩
    · have HD : Hid (letB c = false) := by show _ = _; unfold letB; simp; omega
      have h5 : ((c.toNat : Int) == 95) = false := beq_eq_false_iff_ne.2 (by omega)
      go_enter Tryd.func105, Tryd.ntmps105
      go_wp2
      go_ret
      rw [HD.out]
      exact ⟨rfl, rfl⟩

def goB (c : UInt8) : Bool := decide ((48 ≤ c.toNat ∧ c.toNat ≤ 57) ∨ c.toNat = 46)
set_option maxHeartbeats 1000000 in
theorem goesOn_any (c : UInt8) (w : World) : Calls Tryd.prog 106 #[.int .u8 (c.toNat : Int)] w fun e w' => e = .returned (.bool (goB c)) ∧ w' = w := by
  have hc : (c.toNat : Int) ≤ 255 := by have := c.toNat_lt; omega
  by_cases h1 : 48 ≤ (c.toNat : Int)
  · by_cases h2 : (c.toNat : Int) ≤ 57
    · have HD : Hid (goB c = true) := by show _ = _; unfold goB; simp; omega
      go_enter Tryd.func106, Tryd.ntmps106
      go_wp2
      go_ret
      rw [HD.out]
      exact ⟨rfl, rfl⟩
    · have HD : Hid (goB c = false) := by show _ = _; unfold goB; simp; omega
      have h5 : ((c.toNat : Int) == 46) = false := beq_eq_false_iff_ne.2 (by omega)
      go_enter Tryd.func106, Tryd.ntmps106
      go_wp2
      go_ret
      rw [HD.out]
      exact ⟨rfl, rfl⟩
  · by_cases h5 : (c.toNat : Int) = 46
    · have HD : Hid (goB c = true) := by show _ = _; unfold goB; simp; omega
      go_enter Tryd.func106, Tryd.ntmps106
      go_wp2
      go_ret
      rw [HD.out]
      exact ⟨rfl, rfl⟩
    · have HD : Hid (goB c = false) := by show _ = _; unfold goB; simp; omega
      have h6 : ((c.toNat : Int) == 46) = false := beq_eq_false_iff_ne.2 h5
      clear h5
      go_enter Tryd.func106, Tryd.ntmps106
      go_wp2
      go_ret
      rw [HD.out]
      exact ⟨rfl, rfl⟩

theorem nameB_all (s : ByteArray) (h0 : 0 < s.size) (h1 : s.size ≤ 32) (h : ∀ q, (hq : q < s.size) → letB (s[q]'hq) = true ∨ (0 < q ∧ goB (s[q]'hq) = true)) : nameB s = true := by
  rw [nameB_of s h0 h1, Bool.and_eq_true]
  refine ⟨?_, decide_eq_true fun q hq hp => ?_⟩
  · rcases h 0 h0 with h | ⟨h, _⟩
    · exact h
    · omega
  · unfold nameCB
    rcases h q hq with h | ⟨_, h⟩
    · rw [h]; rfl
    · unfold goB at h; rw [h]; simp
theorem nameB_not (s : ByteArray) (q : Nat) (hq : q < s.size) (h1 : letB (s[q]'hq) = false) (h2 : q = 0 ∨ goB (s[q]'hq) = false) : nameB s = false := by
  by_cases h32 : 32 < s.size
  · exact nameB_long s h32
  rw [nameB_of s (by omega) (by omega)]
  by_cases h0 : q = 0
  · subst h0
    rw [h1, Bool.false_and]
  · rw [decide_eq_false, Bool.and_false]
    intro h
    have := h q hq (by omega)
    unfold nameCB at this
    rw [h1, Bool.false_or] at this
    rcases h2 with h2 | h2
    · exact h0 h2
    · unfold goB at h2; rw [h2] at this; cases this

set_option maxHeartbeats 2000000 in
theorem isName_any (s : ByteArray) (w : World) (hs : s.size ≤ 140737488351232) : Calls Tryd.prog 78 #[.string s] w fun e w' => e = .returned (.bool (nameB s)) ∧ w' = w := by
  by_cases h0 : s.size = 0
  · have e0 : s = ⟨#[]⟩ := by
      obtain ⟨d⟩ := s
      congr
      exact Array.eq_empty_of_size_eq_zero h0
    subst e0
    have HD : Hid (nameB ⟨#[]⟩ = false) := rfl
    go_enter Tryd.func78, Tryd.ntmps78
    go_wp2
    go_ret
    refine ⟨?_, rfl⟩
    rw [HD.out]
    rfl
  have hneb : s.toList.isEmpty = false := by
    rw [ByteArray.toList_eq]
    cases h : s.data.toList with
    | nil => exact absurd (by simpa using congrArg List.length h) h0
    | cons a l => rfl
  by_cases h32 : 32 < s.size
  · have HD := hid (nameB_long s h32)
    have h33 : (32 : Int) < (s.size : Int) := by omega
    go_enter Tryd.func78, Tryd.ntmps78
    go_wp2
    go_ret
    rw [HD.out]
    exact ⟨rfl, rfl⟩
  have h33 : ¬ (32 : Int) < (s.size : Int) := by omega
  go_enter Tryd.func78, Tryd.ntmps78
  go_wp2
  go_loopw [14] (fun iv W => ∃ i : Nat, i ≤ s.size ∧ iv = .int .i64 (i : Int) ∧ W = w ∧ Hid (∀ q, (hq : q < s.size) → q < i → letB (s[q]'hq) = true ∨ (0 < q ∧ goB (s[q]'hq) = true))) (fun iv _ => s.size - (intOf iv).toNat)
  case atStart => exact ⟨0, Nat.zero_le _, rfl, rfl, fun q _ h => by omega⟩
  case round =>
    obtain ⟨i, hi, rfl, rfl, HR⟩ := hrel
    by_cases hlt : i < s.size
    · have hr := HR.out
      clear HR
      have LI := hid (fun W => begins_any (s[i]'hlt) W)
      have GI := hid (fun W => goesOn_any (s[i]'hlt) W)
      have NX : (letB (s[i]'hlt) = true ∨ (0 < i ∧ goB (s[i]'hlt) = true)) → Hid (∀ q, (hq : q < s.size) → q < i + 1 → letB (s[q]'hq) = true ∨ (0 < q ∧ goB (s[q]'hq) = true)) := fun h q hq h1 => by
        by_cases e : q = i
        · subst e; exact h
        · exact hr q hq (by omega)
      have NO : letB (s[i]'hlt) = false → (i = 0 ∨ goB (s[i]'hlt) = false) → Hid (nameB s = false) := fun h1 h2 => nameB_not s i hlt h1 h2
      clear hr
      cases hcl : letB (s[i]'hlt) with
      | true =>
        have HN := NX (.inl hcl)
        rw [hcl] at LI
        clear NX NO hcl
        go_wp2_with (first | (go_at_call 105; with_reducible refine (LI.out _).mono ?_; rintro e w2 ⟨rfl, rfl⟩))
        exact ⟨⟨i + 1, hlt, by go_num, by first | rfl | trivial, HN.out⟩, by simp [intOf]; omega⟩
      | false =>
        rw [hcl] at LI
        by_cases hi0 : i = 0
        · have HN := NO hcl (.inl hi0)
          have hib : ((i : Int) == 0) = true := by rw [hi0]; rfl
          clear NX NO hcl hi0
          go_wp2_with (first | (go_at_call 105; with_reducible refine (LI.out _).mono ?_; rintro e w2 ⟨rfl, rfl⟩))
          go_ret
          rw [HN.out]
          exact ⟨rfl, rfl⟩
        · have hib : ((i : Int) == 0) = false := beq_eq_false_iff_ne.2 (by omega)
          cases hcg : goB (s[i]'hlt) with
          | true =>
            have HN := NX (.inr ⟨by omega, hcg⟩)
            rw [hcg] at GI
            clear NX NO hcl hcg
            go_wp2_with (first | (go_at_call 106; with_reducible refine (GI.out _).mono ?_; rintro e w2 ⟨rfl, rfl⟩) | (go_at_call 105; with_reducible refine (LI.out _).mono ?_; rintro e w2 ⟨rfl, rfl⟩))
            exact ⟨⟨i + 1, hlt, by go_num, by first | rfl | trivial, HN.out⟩, by simp [intOf]; omega⟩
          | false =>
            have HN := NO hcl (.inr hcg)
            rw [hcg] at GI
            clear NX NO hcl hcg
            go_wp2_with (first | (go_at_call 106; with_reducible refine (GI.out _).mono ?_; rintro e w2 ⟨rfl, rfl⟩) | (go_at_call 105; with_reducible refine (LI.out _).mono ?_; rintro e w2 ⟨rfl, rfl⟩))
            go_ret
            rw [HN.out]
            exact ⟨rfl, rfl⟩
    · have HF : Hid (nameB s = true) := nameB_all s (by omega) (by omega) (fun q hq => HR.out q hq (by omega))
      clear HR
      go_wp2
      go_ret
      rw [HF.out]
      exact ⟨rfl, rfl⟩
end Go.Proofs.YtfmmmhcpdinhgaaDoor
/-
  The program's within, named.
-/
namespace Go.Proofs.YtfmmmhcpdinhgaaDoor
open Go.RowKit Go.Deep PureNet Go.Maps Go.WideShapes
set_option maxRecDepth 100000

set_option maxHeartbeats 1000000 in
theorem within_ok (c : Net) (sg so : Option Addr) (cg co : Nat) (w : World) (hl : c.gates.length ≤ 65536) (ho : c.outs.length ≤ 65536) :
    Calls Tryd.prog 50 #[cirV c sg cg so co] w fun e w' => e = .returned (.bool true) ∧ Below w.heap.size w w' := by
  have h1 : (c.gates.length : Int) ≤ 65536 := by omega
  have h2 : (c.outs.length : Int) ≤ 65536 := by omega
  go_enter Tryd.func50, Tryd.ntmps50
  go_wp2
  go_ret
  exact ⟨rfl, (Below.refl _ _).alloc (Nat.le_refl _) _⟩

/-- the names of the first lines, in a map. -/
structure Nam (x W : World) (l : List Ga) (i : Nat) (D : DataW Unit) : Prop where
  own : W.ownsMap Tryd.prog 9 (plainElem Tryd.prog 3) x.heap.size i D
  size : Maps.size D = i
  tidy : Tidy D
  only : ∀ s : List UInt8, has D (.string s) = true → ∃ j g, j < i ∧ l[j]? = some g ∧ s = g.name.data.toList
  below : Below x.heap.size x W
theorem Nam.start (x : World) (l : List Ga) : Nam x (x.alloc (.map #[] 0)) l 0 (.map []) :=
  ⟨World.ownsMap_made x _ _ _, rfl, tidy_empty, fun s h => by simp [has] at h, (Below.refl _ _).alloc (Nat.le_refl _) _⟩

set_option maxHeartbeats 2000000 in
theorem named_ok (c : Net) (sg so : Option Addr) (cg co : Nat) (w : World) (hc : CellsAt w sg (gas c.gates)) (hf : PureNet.Formed c) :
    Calls Tryd.prog 51 #[cirV c sg cg so co] w fun e w' => e = .returned (.bool true) ∧ Below w.heap.size w w' := by
  have short : ∀ s : ByteArray, nameB s = true → s.size ≤ 32 := fun s h => by
    apply Classical.byContradiction
    intro hn
    rw [nameB_long s (by omega)] at h
    cases h
  have HC := hid hc
  have HF := hid hf
  have hfew := hf.few
  have NC : Hid (∀ W, Calls Tryd.prog 78 #[.string c.name] W fun e w' => e = .returned (.bool true) ∧ w' = W) := fun W => by
    have := isName_any c.name W (by have := short _ hf.name; omega)
    rw [hf.name] at this
    exact this
  have NG : Hid (∀ (i : Nat) (g : Ga), c.gates[i]? = some g → g.name.size ≤ 32 ∧ ∀ W, Calls Tryd.prog 78 #[.string g.name] W fun e w' => e = .returned (.bool true) ∧ w' = W) := fun i g hg => ⟨short _ (hf.lines i g hg).1, fun W => by
    have := isName_any g.name W (by have := short _ (hf.lines i g hg).1; omega)
    rw [(hf.lines i g hg).1] at this
    exact this⟩
  clear hc hf short
  obtain ⟨x, hx⟩ : ∃ x, x = w.alloc (Obj.cells #[Value.string c.name, Value.slice sg c.gates.length cg, Value.slice so c.outs.length co] 26) := ⟨_, rfl⟩
  have RX : Hid (x.heap[w.heap.size]? = some (.cells #[Value.string c.name, Value.slice sg c.gates.length cg, Value.slice so c.outs.length co] 26 (0, 0))) := by rw [hx]; exact heap_alloc_new w _
  have BX : Hid (Below w.heap.size w x) := by rw [hx]; exact (Below.refl _ _).alloc (Nat.le_refl _) _
  have HX := hid hx
  clear hx
  have hmm := @run_makeMap Tryd.prog
  have cx := fun j => cell_row RX.out j
  have hbx := (Array.getElem?_eq_some_iff.1 RX.out).1
  go_enter Tryd.func51, Tryd.ntmps51
  go_wp2_with (rw [← HX.out])
  obtain ⟨y, hy⟩ : ∃ y, y = x.alloc (.map #[] 0) := ⟨_, rfl⟩
  have N0 : Hid (Nam x y c.gates 0 (.map [])) := by rw [hy]; exact Nam.start x _
  try rw [← hy]
  clear hy hmm cx hbx
  go_loopw [10] (fun iv W => ∃ i : Nat, i ≤ c.gates.length ∧ iv = .int .i64 (i : Int) ∧ Hid (∃ D, Nam x W c.gates i D)) (fun iv _ => c.gates.length - (intOf iv).toNat)
  case atStart => exact ⟨0, Nat.zero_le _, rfl, _, N0.out⟩
  case round =>
    clear N0
    obtain ⟨i, hi, rfl, HR⟩ := hrel
    obtain ⟨D, hN⟩ := HR.out
    clear HR
    have hwr : Below w.heap.size w wr := BX.out.trans (hN.below.mono BX.out.size)
    have hrow := (hN.below.block _ (Array.getElem?_eq_some_iff.1 RX.out).1).trans RX.out
    have c0 := fun j => cell_row hrow j
    have hb0 := (Array.getElem?_eq_some_iff.1 hrow).1
    have NM := hid hN
    have BW := hid hwr
    by_cases hlt : i < c.gates.length
    · obtain ⟨g, hg⟩ : ∃ g, c.gates[i]? = some g := ⟨_, List.getElem?_eq_getElem hlt⟩
      obtain ⟨b, o, rfl, hb, d0, d1, d2, d3, d4, d5⟩ := gate_at (HC.out.below hwr) i g hg
      have NI := hid ((NG.out i g hg).2)
      have hsz : g.name.size ≤ maxLen := by have := (NG.out i g hg).1; unfold maxLen; omega
      have HK := hid (WideMaps.keyOf_string_mk (P := Tryd.prog) Tryd.underlying9 hsz)
      have HV : Hid (plainElem (H := Unit) Tryd.prog 3 (.int .i64 (i : Int)) = some (.lit (.int .i64 (i : Int)), [])) := plainElem_int Tryd.underlying3 (by
        have e1 : IntKind.i64.min = -9223372036854775808 := rfl
        have e2 : IntKind.i64.max = 9223372036854775807 := rfl
        simp [Lit.wf, e1, e2]
        omega)
      have HH : Hid (has D (.string g.name.data.toList) = false) := by
        show _ = _
        cases h : has D (.string g.name.data.toList) with
        | false => rfl
        | true =>
          obtain ⟨j, g2, hj, hg2, e⟩ := hN.only _ h
          have e2 : g.name = g2.name := by
            have h1 : g.name.data = g2.name.data := by
              apply Array.ext'
              exact e
            cases hgn : g.name
            cases hgn2 : g2.name
            rw [hgn, hgn2] at h1
            exact congrArg _ h1
          have := HF.out.apart i j g g2 hg hg2 e2
          omega
      have HG := hid hg
      clear hN hwr hrow hg
      go_wp2_with (first | (go_at_call 78; refine Calls.mono (NI.out _) ?_; rintro e w2 ⟨rfl, rfl⟩) | (at_mapUpdate; refine wpList_mapUpdate_own _ rfl _ _ _ 110 rfl 9 3 (string_keyed Tryd.underlying9) Tryd.underlying110 _ x.heap.size i D rfl (NM.out.own.alloc _) (by unfold maxLen; omega) _ _ (.string g.name.data.toList) rfl rfl HK.out (.lit (.int .i64 (i : Int))) [] HV.out ?_; intro w2 hown2 hg2; have OW := hid hown2; have GR := hid hg2; clear hown2 hg2))
      refine ⟨⟨i + 1, hlt, by go_num, _, OW.out, ?_, OW.out.tidy (string_keyed Tryd.underlying9), fun s hs => ?_, ?_⟩, by simp [intOf]; omega⟩
      · rw [size_put NM.out.tidy, HH.out, NM.out.size]
        rfl
      · by_cases e : (Lit.string s) = .string g.name.data.toList
        · exact ⟨i, g, by omega, HG.out, by simpa using e⟩
        · rw [has_put_other e] at hs
          obtain ⟨j, g2, hj, hg2, e2⟩ := NM.out.only s hs
          exact ⟨j, g2, by omega, hg2, e2⟩
      · exact (NM.out.below.alloc NM.out.below.size _).grown GR.out (by have := NM.out.below.size; simp; omega) (fun j hj => by cases hj; exact Nat.le_refl _)
    · have hin : i = c.gates.length := by omega
      have hlen := fun ty => hN.own.len Tryd.underlying110 ty
      rw [hN.size, hin] at hlen
      clear hN hwr hrow
      go_wp2_with (first | (go_at_call 78; refine Calls.mono (NC.out _) ?_; rintro e w2 ⟨rfl, rfl⟩))

      go_ret
      exact ⟨rfl, BW.out⟩
end Go.Proofs.YtfmmmhcpdinhgaaDoor
