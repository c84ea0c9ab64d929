import Derived.Test.YtfmmmhcpdinhgabDoorZ26
/-
  The law's same, places.
-/
namespace Go.Proofs.YtfmmmhcpdinhgabDoor
open Go.RowKit Go.Deep PureNet
set_option maxRecDepth 100000

set_option maxHeartbeats 1000000 in
set_option maxRecDepth 100000 in
theorem same_true (c : Net) (sg so sg2 so2 : Option Addr) (cg co cg2 co2 : Nat) (w : World) (ha : CirAt w c sg so) (hb : CirAt w c sg2 so2) (hl : c.gates.length ≤ 2513169434843) (hlo : c.outs.length ≤ 17592186043904) :
    Calls Tryd.prog 6 #[cirV c sg cg so co, cirV c sg2 cg2 so2 co2] w fun e w' => e = .returned (.bool true) ∧ Below w.heap.size w w' := by
  have HA := hid ha
  have HB := hid hb
  clear ha hb
  go_enter Tryd.func6, Tryd.ntmps6
  go_wp2
  obtain ⟨X, hX⟩ : ∃ X, X = (w.alloc (Obj.cells #[Value.string c.name, Value.slice sg c.gates.length cg, Value.slice so c.outs.length co] 25)).alloc (Obj.cells #[Value.string c.name, Value.slice sg2 c.gates.length cg2, Value.slice so2 c.outs.length co2] 25) := ⟨_, rfl⟩
  have s1 : (w.alloc (Obj.cells #[Value.string c.name, Value.slice sg c.gates.length cg, Value.slice so c.outs.length co] 25)).heap.size = w.heap.size + 1 := by simp
  have r1 : X.heap[w.heap.size]? = some (.cells #[Value.string c.name, Value.slice sg c.gates.length cg, Value.slice so c.outs.length co] 25 (0, 0)) := by rw [hX, Below.heap_alloc _ _ _ (by omega)]; exact heap_alloc_new w _
  have r2 : X.heap[w.heap.size + 1]? = some (.cells #[Value.string c.name, Value.slice sg2 c.gates.length cg2, Value.slice so2 c.outs.length co2] 25 (0, 0)) := by rw [hX, ← s1]; exact heap_alloc_new _ _
  have BX : Hid (Below w.heap.size w X) := by rw [hX]; exact ((Below.refl _ _).alloc (Nat.le_refl _) _).alloc (by omega) _
  have KB : Hid (∀ W, Below X.heap.size X W → (∀ j, W.cell? ⟨w.heap.size, j, none⟩ = (#[Value.string c.name, Value.slice sg c.gates.length cg, Value.slice so c.outs.length co] : Array Value)[j]?) ∧ (∀ j, W.cell? ⟨w.heap.size + 1, j, none⟩ = (#[Value.string c.name, Value.slice sg2 c.gates.length cg2, Value.slice so2 c.outs.length co2] : Array Value)[j]?) ∧ w.heap.size < W.heap.size ∧ w.heap.size + 1 < W.heap.size) := fun W hW => by
    have e1 := (hW.block _ (Array.getElem?_eq_some_iff.1 r1).1).trans r1
    have e2 := (hW.block _ (Array.getElem?_eq_some_iff.1 r2).1).trans r2
    exact ⟨fun j => cell_row e1 j, fun j => cell_row e2 j, (Array.getElem?_eq_some_iff.1 e1).1, (Array.getElem?_eq_some_iff.1 e2).1⟩
  rw [← hX]
  clear hX s1 r1 r2
  go_loopw [5] (fun iv W => ∃ k : Nat, k ≤ c.gates.length ∧ iv = .int .i64 (k : Int) ∧ Hid (Below X.heap.size X W)) (fun iv _ => c.gates.length - (intOf iv).toNat)
  case atStart => exact ⟨0, Nat.zero_le _, rfl, Below.refl _ _⟩
  case round =>
    obtain ⟨k, hk, rfl, HW⟩ := hrel
    have hww : Below w.heap.size w wr := BX.out.trans (HW.out.mono BX.out.size)
    obtain ⟨c1, c2, hb1, hb2⟩ := KB.out _ HW.out
    by_cases hlt : k < c.gates.length
    · obtain ⟨g, hg⟩ : ∃ g, c.gates[k]? = some g := ⟨_, List.getElem?_eq_getElem hlt⟩
      obtain ⟨b, o, rfl, hb, d0, d1, d2, d3, d4, d5⟩ := gate_at (HA.out.below hww).gates k g hg
      obtain ⟨b', o', rfl, hb', e0, e1, e2, e3, e4, e5⟩ := gate_at (HB.out.below hww).gates k g hg
      clear hg hww
      have a1 : wr.cell? ⟨w.heap.size, 1, none⟩ = some (.slice (some ⟨b, o, none⟩) c.gates.length cg) := (c1 1).trans rfl
      have a2 : wr.cell? ⟨w.heap.size + 1, 1, none⟩ = some (.slice (some ⟨b', o', none⟩) c.gates.length cg2) := (c2 1).trans rfl
      go_wp2
      refine wp_region_noPanic ?_
      refine wp_region_held_drew (S := fun W => W.cell? ⟨w.heap.size, 1, none⟩ = some (.slice (some ⟨b, o, none⟩) c.gates.length cg) ∧ W.cell? ⟨w.heap.size + 1, 1, none⟩ = some (.slice (some ⟨b', o', none⟩) c.gates.length cg2) ∧ W.cell? ⟨b, o + k * 6, none⟩ = some (.int .i64 g.kind) ∧ W.cell? ⟨b, o + k * 6 + 1, none⟩ = some (.string g.name) ∧ W.cell? ⟨b, o + k * 6 + 2, none⟩ = some (.int .i64 g.op) ∧ W.cell? ⟨b, o + k * 6 + 3, none⟩ = some (.int .i64 g.a) ∧ W.cell? ⟨b, o + k * 6 + 4, none⟩ = some (.int .i64 g.b) ∧ W.cell? ⟨b, o + k * 6 + 5, none⟩ = some (.int .i64 g.c) ∧ W.cell? ⟨b', o' + k * 6, none⟩ = some (.int .i64 g.kind) ∧ W.cell? ⟨b', o' + k * 6 + 1, none⟩ = some (.string g.name) ∧ W.cell? ⟨b', o' + k * 6 + 2, none⟩ = some (.int .i64 g.op) ∧ W.cell? ⟨b', o' + k * 6 + 3, none⟩ = some (.int .i64 g.a) ∧ W.cell? ⟨b', o' + k * 6 + 4, none⟩ = some (.int .i64 g.b) ∧ W.cell? ⟨b', o' + k * 6 + 5, none⟩ = some (.int .i64 g.c)) (by kernel_rfl) ⟨a1, a2, d0, d1, d2, d3, d4, d5, e0, e1, e2, e3, e4, e5⟩ (fun hHeld => ?_)
      refine wpAnyH_take (i := 0) (v := ?_) (by simp only [List.getElem?_toArray, List.getElem?_cons_zero]; rfl) (by kernel_rfl) (by kernel_rfl) (by kernel_rfl) (fun _ _ _ h => h) (Or.inl ⟨by rfl, ?_⟩) (by assumption) ?_
      rotate_left 1
      · intro w hSw; (try dsimp only at hSw); go_simp; (try with_reducible rfl)
      try simp only [Act.put, List.setIfInBounds_toArray, List.set_cons_zero, List.set_cons_succ]
      refine wpAnyH_take (i := 1) (v := ?_) (by simp only [List.getElem?_toArray, List.getElem?_cons_succ, List.getElem?_cons_zero]; rfl) (by kernel_rfl) (by kernel_rfl) (by kernel_rfl) (fun _ _ _ h => h) (Or.inl ⟨by rfl, ?_⟩) (by assumption) ?_
      rotate_left 1
      · intro w hSw; (try dsimp only at hSw); go_simp; (try with_reducible rfl)
      try simp only [Act.put, List.setIfInBounds_toArray, List.set_cons_zero, List.set_cons_succ]
      refine wpAnyH_take (i := 2) (v := ?_) (by simp only [List.getElem?_toArray, List.getElem?_cons_succ, List.getElem?_cons_zero]; rfl) (by kernel_rfl) (by kernel_rfl) (by kernel_rfl) (fun _ _ _ h => h) (Or.inl ⟨by rfl, ?_⟩) (by assumption) ?_
      rotate_left 1
      · intro w hSw; (try dsimp only at hSw); go_simp; (try with_reducible rfl)
      try simp only [Act.put, List.setIfInBounds_toArray, List.set_cons_zero, List.set_cons_succ]
      refine wpAnyH_take (i := 3) (v := ?_) (by simp only [List.getElem?_toArray, List.getElem?_cons_succ, List.getElem?_cons_zero]; rfl) (by kernel_rfl) (by kernel_rfl) (by kernel_rfl) (fun _ _ _ h => h) (Or.inl ⟨by rfl, ?_⟩) (by assumption) ?_
      rotate_left 1
      · intro w hSw; (try dsimp only at hSw); go_simp; (try with_reducible rfl)
      try simp only [Act.put, List.setIfInBounds_toArray, List.set_cons_zero, List.set_cons_succ]
      refine wpAnyH_take (i := 4) (v := ?_) (by simp only [List.getElem?_toArray, List.getElem?_cons_succ, List.getElem?_cons_zero]; rfl) (by kernel_rfl) (by kernel_rfl) (by kernel_rfl) (fun _ _ _ h => h) (Or.inl ⟨by rfl, ?_⟩) (by assumption) ?_
      rotate_left 1
      · intro w hSw; (try dsimp only at hSw); go_simp; (try with_reducible rfl)
      try simp only [Act.put, List.setIfInBounds_toArray, List.set_cons_zero, List.set_cons_succ]
      refine wpAnyH_take (i := 5) (v := ?_) (by simp only [List.getElem?_toArray, List.getElem?_cons_succ, List.getElem?_cons_zero]; rfl) (by kernel_rfl) (by kernel_rfl) (by kernel_rfl) (fun _ _ _ h => h) (Or.inl ⟨by rfl, ?_⟩) (by assumption) ?_
      rotate_left 1
      · intro w hSw; (try dsimp only at hSw); go_simp; (try with_reducible rfl)
      try simp only [Act.put, List.setIfInBounds_toArray, List.set_cons_zero, List.set_cons_succ]
      refine wpAnyH_take (i := 6) (v := ?_) (by simp only [List.getElem?_toArray, List.getElem?_cons_succ, List.getElem?_cons_zero]; rfl) (by kernel_rfl) (by kernel_rfl) (by kernel_rfl) (fun _ _ _ h => h) (Or.inl ⟨by rfl, ?_⟩) (by assumption) ?_
      rotate_left 1
      · intro w hSw; (try dsimp only at hSw); go_simp; (try with_reducible rfl)
      try simp only [Act.put, List.setIfInBounds_toArray, List.set_cons_zero, List.set_cons_succ]
      refine wpAnyH_take (i := 7) (v := ?_) (by simp only [List.getElem?_toArray, List.getElem?_cons_succ, List.getElem?_cons_zero]; rfl) (by kernel_rfl) (by kernel_rfl) (by kernel_rfl) (fun _ _ _ h => h) (Or.inl ⟨by rfl, ?_⟩) (by assumption) ?_
      rotate_left 1
      · intro w hSw; (try dsimp only at hSw); go_simp; (try with_reducible rfl)
      try simp only [Act.put, List.setIfInBounds_toArray, List.set_cons_zero, List.set_cons_succ]
      refine wpAnyH_take (i := 8) (v := ?_) (by simp only [List.getElem?_toArray, List.getElem?_cons_succ, List.getElem?_cons_zero]; rfl) (by kernel_rfl) (by kernel_rfl) (by kernel_rfl) (fun _ _ _ h => h) (Or.inl ⟨by rfl, ?_⟩) (by assumption) ?_
      rotate_left 1
      · intro w hSw; (try dsimp only at hSw); go_simp; (try with_reducible rfl)
      try simp only [Act.put, List.setIfInBounds_toArray, List.set_cons_zero, List.set_cons_succ]
      refine wpAnyH_take (i := 9) (v := ?_) (by simp only [List.getElem?_toArray, List.getElem?_cons_succ, List.getElem?_cons_zero]; rfl) (by kernel_rfl) (by kernel_rfl) (by kernel_rfl) (fun _ _ _ h => h) (Or.inl ⟨by rfl, ?_⟩) (by assumption) ?_
      rotate_left 1
      · intro w hSw; (try dsimp only at hSw); go_simp; (try with_reducible rfl)
      try simp only [Act.put, List.setIfInBounds_toArray, List.set_cons_zero, List.set_cons_succ]
      refine wpAnyH_take (i := 10) (v := .bool false) (by simp only [List.getElem?_toArray, List.getElem?_cons_succ, List.getElem?_cons_zero]; rfl) (by kernel_rfl) (by kernel_rfl) (by kernel_rfl) (fun _ _ _ h => h) (Or.inl ⟨by rfl, ?_⟩) (by assumption) ?_
      · intro w hSw; (try dsimp only at hSw); (try go_simp); (first | done | (with_reducible rfl) | simp)
      try simp only [Act.put, List.setIfInBounds_toArray, List.set_cons_zero, List.set_cons_succ]
      refine wpAnyH_done (by kernel_rfl) ?_ _
      refine NoPanic.normal ?_
      go_wp2
      exact ⟨⟨k + 1, hlt, by go_num, HW.out.trans (Below.refl _ _).drew⟩, by simp [intOf]; omega⟩
    · obtain ⟨w2, hw2⟩ : ∃ w2, w2 = wr := ⟨_, rfl⟩
      subst hw2
      go_wp2
      go_loopw [6] (fun iv W => ∃ k : Nat, k ≤ c.outs.length ∧ iv = .int .i64 (k : Int) ∧ Hid (Below X.heap.size X W)) (fun iv _ => c.outs.length - (intOf iv).toNat)
      case atStart => exact ⟨0, Nat.zero_le _, rfl, HW.out⟩
      case round =>
        clear c1 c2 hb1 hb2 hww
        obtain ⟨q, hq, rfl, HV⟩ := hrel
        have hww : Below w.heap.size w wr := BX.out.trans (HV.out.mono BX.out.size)
        obtain ⟨c1, c2, hb1, hb2⟩ := KB.out _ HV.out
        by_cases hlt : q < c.outs.length
        · obtain ⟨x, hx⟩ : ∃ x, c.outs[q]? = some x := ⟨_, List.getElem?_eq_getElem hlt⟩
          obtain ⟨b, o, rfl, hb, d0⟩ := num_at (HA.out.below hww).outs q x hx
          obtain ⟨b', o', rfl, hb', e0⟩ := num_at (HB.out.below hww).outs q x hx
          have a1 : wr.cell? ⟨w.heap.size, 2, none⟩ = some (.slice (some ⟨b, o, none⟩) c.outs.length co) := (c1 2).trans rfl
          have a2 : wr.cell? ⟨w.heap.size + 1, 2, none⟩ = some (.slice (some ⟨b', o', none⟩) c.outs.length co2) := (c2 2).trans rfl
          clear hx hww
          go_wp2
          go_quiet (fail)
          go_wp2
          exact ⟨⟨q + 1, hlt, by go_num, below_drewN HV.out _⟩, by simp [intOf]; omega⟩
        · have HF := hid hww
          clear hww
          go_wp2
          go_ret
          exact ⟨rfl, HF.out⟩
end Go.Proofs.YtfmmmhcpdinhgabDoor
/-
  The law's still.
-/
namespace Go.Proofs.YtfmmmhcpdinhgabDoor
open Go.RowKit Go.Deep PureNet PureRd
set_option maxRecDepth 100000

theorem marks_lo {α : Type} (a b : α) (n k : Nat) (h : k < n) : (List.replicate n a ++ List.replicate 8 b)[k]? = some a := by
  rw [List.getElem?_append_left (by simpa using h), List.getElem?_replicate, if_pos h]
theorem marks_hi {α : Type} (a b : α) (n k : Nat) (h : n ≤ k) (h2 : k < n + 8) : (List.replicate n a ++ List.replicate 8 b)[k]? = some b := by
  rw [List.getElem?_append_right (by simpa using h), List.getElem?_replicate, List.length_replicate, if_pos (by omega)]

set_option maxHeartbeats 4000000 in
theorem still_any (na nb : ByteArray) (n m : Nat) (v : Int) (sg so sx sy : Option Addr) (cg co cx cy : Nat) (w : World) (hg : CellsAt w sg (gas (List.replicate n (gaM v) ++ List.replicate 8 (gaM (v + 1))))) (ho : CellsAt w so (nu (List.replicate m v ++ List.replicate 8 (v + 1)))) (hl : n ≤ 1048576) (hlo : m ≤ 1048576) (hv : -100 ≤ v ∧ v ≤ 100) :
    Calls Tryd.prog 8 #[.agg #[.string na, .slice sg (n + 8) cg, .slice so (m + 8) co], .agg #[.string nb, .slice sx n cx, .slice sy m cy], .int .i64 v] w fun e w' => e = .returned (.bool true) ∧ Below w.heap.size w w' := by
  obtain ⟨W0, hW0⟩ : ∃ W0, W0 = (w.alloc (.cells #[.string na, .slice sg (n + 8) cg, .slice so (m + 8) co] 25)).alloc (.cells #[.string nb, .slice sx n cx, .slice sy m cy] 25) := ⟨_, rfl⟩
  have s1 : (w.alloc (.cells #[.string na, .slice sg (n + 8) cg, .slice so (m + 8) co] 25)).heap.size = w.heap.size + 1 := by simp
  have r1 : W0.heap[w.heap.size]? = some (.cells #[.string na, .slice sg (n + 8) cg, .slice so (m + 8) co] 25 (0, 0)) := by rw [hW0, Below.heap_alloc _ _ _ (by omega)]; exact heap_alloc_new w _
  have r2 : W0.heap[w.heap.size + 1]? = some (.cells #[.string nb, .slice sx n cx, .slice sy m cy] 25 (0, 0)) := by rw [hW0, ← s1]; exact heap_alloc_new _ _
  have BX : Hid (Below w.heap.size w W0) := by rw [hW0]; exact ((Below.refl _ _).alloc (Nat.le_refl _) _).alloc (by omega) _
  have HG := hid (hg.below BX.out)
  have HO := hid (ho.below BX.out)
  have HW0 := hid hW0
  have c1 := fun j => cell_row r1 j
  have c2 := fun j => cell_row r2 j
  have b1 := (Array.getElem?_eq_some_iff.1 r1).1
  have b2 := (Array.getElem?_eq_some_iff.1 r2).1
  have w1 : IntKind.i64.wrap (v + 1) = v + 1 := by rw [IntKind.wrap_i64]; omega
  have w2 : IntKind.i64.wrap ((n : Int) + 8) = (n : Int) + 8 := by rw [IntKind.wrap_i64]; omega
  have w3 : IntKind.i64.wrap ((m : Int) + 8) = (m : Int) + 8 := by rw [IntKind.wrap_i64]; omega
  clear hg ho hW0 s1 r1 r2 hv
  go_enter Tryd.func8, Tryd.ntmps8
  go_wp2_with (rw [← HW0.out]; clear HW0)
  go_loopw [7] (fun iv W => ∃ k : Nat, k ≤ n + 8 ∧ iv = .int .i64 (k : Int) ∧ Hid (W = W0)) (fun iv _ => n + 8 - (intOf iv).toNat)
  case atStart => exact ⟨0, Nat.zero_le _, rfl, rfl⟩
  case round =>
    obtain ⟨k, hk, rfl, HW⟩ := hrel
    have hw := HW.out
    subst hw
    clear HW
    have v1 : IntKind.i64.wrap ((k : Int) + 1) = (k : Int) + 1 := by rw [IntKind.wrap_i64]; omega
    by_cases hlt : k < n + 8
    · have hlt1 : (k : Int) < (n : Int) + 8 := by omega
      by_cases hkn : k < n
      · have hkn1 : (k : Int) < (n : Int) := by omega
        obtain ⟨b, o, rfl, hb, d0, d1, d2, d3, d4, d5⟩ := gate_at HG.out k (gaM v) (marks_lo _ _ n k hkn)
        simp only [gaM] at d0 d1 d2 d3 d4 d5
        go_wp2
        exact ⟨⟨k + 1, hlt, by go_num, trivial⟩, by simp [intOf]; omega⟩
      · have hkn1 : ¬ (k : Int) < (n : Int) := by omega
        have hkn2 : (n : Int) ≤ (k : Int) := by omega
        obtain ⟨b, o, rfl, hb, d0, d1, d2, d3, d4, d5⟩ := gate_at HG.out k (gaM (v + 1)) (marks_hi _ _ n k (by omega) hlt)
        simp only [gaM] at d0 d1 d2 d3 d4 d5
        go_wp2
        exact ⟨⟨k + 1, hlt, by go_num, trivial⟩, by simp [intOf]; omega⟩
    · have hlt1 : ¬ (k : Int) < (n : Int) + 8 := by omega
      obtain rfl : k = n + 8 := by omega
      clear hk hlt v1
      go_wp2
      go_loopw [8] (fun iv W => ∃ k : Nat, k ≤ m + 8 ∧ iv = .int .i64 (k : Int) ∧ Hid (W = wr)) (fun iv _ => m + 8 - (intOf iv).toNat)
      case atStart => exact ⟨0, Nat.zero_le _, rfl, rfl⟩
      case round =>
        clear hlt1
        obtain ⟨k, hk, rfl, HW⟩ := hrel
        have hw := HW.out
        subst hw
        clear HW
        have v1 : IntKind.i64.wrap ((k : Int) + 1) = (k : Int) + 1 := by rw [IntKind.wrap_i64]; omega
        by_cases hlt : k < m + 8
        · have hlt1 : (k : Int) < (m : Int) + 8 := by omega
          by_cases hkn : k < m
          · have hkn1 : (k : Int) < (m : Int) := by omega
            obtain ⟨b, o, rfl, hb, d0⟩ := num_at HO.out k v (marks_lo _ _ m k hkn)
            go_wp2
            exact ⟨⟨k + 1, hlt, by go_num, trivial⟩, by simp [intOf]; omega⟩
          · have hkn1 : ¬ (k : Int) < (m : Int) := by omega
            have hkn2 : (m : Int) ≤ (k : Int) := by omega
            obtain ⟨b, o, rfl, hb, d0⟩ := num_at HO.out k (v + 1) (marks_hi _ _ m k (by omega) hlt)
            go_wp2
            exact ⟨⟨k + 1, hlt, by go_num, trivial⟩, by simp [intOf]; omega⟩
        · have hlt1 : ¬ (k : Int) < (m : Int) + 8 := by omega
          have e1 : ((n : Int) + 8 == (n : Int) + 8) = true := by simp
          have e2 : ((m : Int) + 8 == (m : Int) + 8) = true := by simp
          go_wp2
          go_ret
          exact ⟨rfl, BX.out⟩
end Go.Proofs.YtfmmmhcpdinhgabDoor
/-
  CircuitParses: what lies where, in the law.
-/
namespace Go.Proofs.YtfmmmhcpdinhgabDoor
open Go.RowKit Go.Deep PureNet PureRd
set_option maxRecDepth 100000

/-- a circuit's lists, between two blocks. -/
structure Lst (W : World) (lo hi : Nat) (gv ov : Value) (c : Net) : Prop where
  gates : W.ownsRow lo 57 6 gv c.gates.length (gas c.gates)
  outs : W.ownsRow lo 3 1 ov c.outs.length (nu c.outs)
  gh : ∀ k, gv.ownBlock = some k → k < hi
  oh : ∀ k, ov.ownBlock = some k → k < hi
theorem Lst.kept {W W' : World} {lo hi : Nat} {gv ov : Value} {c : Net} (h : Lst W lo hi gv ov c) (hk : ∀ k, lo ≤ k → k < hi → W'.heap[k]? = W.heap[k]?) : Lst W' lo hi gv ov c :=
  ⟨own_same h.gates (fun k hb => hk k (h.gates.lt k hb).1 (h.gh k hb)), own_same h.outs (fun k hb => hk k (h.outs.lt k hb).1 (h.oh k hb)), h.gh, h.oh⟩
theorem Lst.cir {W : World} {lo hi : Nat} {sg so : Option Addr} {cg co : Nat} {c : Net} (h : Lst W lo hi (.slice sg c.gates.length cg) (.slice so c.outs.length co) c) : CirAt W c sg so := by
  obtain ⟨_, _, e1, h1, _⟩ := own_cells h.gates
  obtain ⟨_, _, e2, h2, _⟩ := own_cells h.outs
  cases e1
  cases e2
  exact ⟨h1, h2⟩
/-- behind a Parse: its lists, its two boxes. -/
structure Pz (W0 W : World) (b : Nat) (c : Net) (f : Int × Int × Int) (gv ov : Value) : Prop where
  lst : Lst W W0.heap.size b gv ov c
  box : W.heap[b]? = some (.cells #[.string c.name, gv, ov] 25 (0, 0))
  flt : W.heap[b + 1]? = some (.cells #[.int .i64 f.1, .int .i64 f.2.1, .int .i64 f.2.2] 30 (0, 0))
  below : Below W0.heap.size W0 W
  low : W0.heap.size ≤ b
  size : W.heap.size = b + 2
theorem Pz.of {W0 W1 W : World} {c : Net} {f : Int × Int × Int} {gv ov : Value} (hg : W1.ownsRow W0.heap.size 57 6 gv c.gates.length (gas c.gates)) (ho : W1.ownsRow W0.heap.size 3 1 ov c.outs.length (nu c.outs)) (hb : Below W0.heap.size W0 W1)
    (hW : W = (W1.alloc (.cells #[.string c.name, gv, ov] 25)).alloc (.cells #[.int .i64 f.1, .int .i64 f.2.1, .int .i64 f.2.2] 30)) : Pz W0 W W1.heap.size c f gv ov := by
  have s1 : (W1.alloc (.cells #[.string c.name, gv, ov] 25)).heap.size = W1.heap.size + 1 := by simp
  have b1 : Below W1.heap.size W1 W := by rw [hW]; exact ((Below.refl _ _).alloc (Nat.le_refl _) _).alloc (by omega) _
  refine ⟨⟨ownsRow_below hg b1, ownsRow_below ho b1, fun k hk => (hg.lt k hk).2, fun k hk => (ho.lt k hk).2⟩, ?_, ?_, hb.trans (b1.mono hb.size), hb.size, ?_⟩
  · rw [hW]
    exact (Lib.alloc_old _ _ _ (by omega)).trans (heap_alloc_new W1 _)
  · rw [hW, ← s1]
    exact heap_alloc_new _ _
  · rw [hW]
    simp
/-- where the five circuits lie. -/
structure Ord5 (w : World) (bx by' bz bd bt : Nat) : Prop where
  x : w.heap.size ≤ bx
  y : bx + 2 ≤ by'
  z : by' + 2 ≤ bz
  d : bz + 2 ≤ bd
  t : bd + 2 ≤ bt
/-- the boxes of the law. -/
structure Ph (V : World) (bx by' bz bd bt : Nat) (c c2 : Net) (f : Int × Int × Int) (xg xo yg yo zg zo dg do' tg to' : Value) (fx : Array Value) : Prop where
  x : V.heap[bx]? = some (.cells #[.string c.name, xg, xo] 25 (0, 0))
  xf : V.heap[bx + 1]? = some (.cells fx 30 (0, 0))
  y : V.heap[by']? = some (.cells #[.string c.name, yg, yo] 25 (0, 0))
  z : V.heap[bz]? = some (.cells #[.string c2.name, zg, zo] 25 (0, 0))
  d : V.heap[bd]? = some (.cells #[.string c.name, dg, do'] 25 (0, 0))
  df : V.heap[bd + 1]? = some (.cells #[.int .i64 f.1, .int .i64 f.2.1, .int .i64 f.2.2] 30 (0, 0))
  t : V.heap[bt]? = some (.cells #[.string c2.name, tg, to'] 25 (0, 0))
section
variable {w V V' : World} {bx by' bz bd bt : Nat} {c c2 : Net} {f : Int × Int × Int} {xg xo yg yo zg zo dg do' tg to' : Value} {fx : Array Value}
theorem Ph.keep (h : Ph V bx by' bz bd bt c c2 f xg xo yg yo zg zo dg do' tg to' fx) (hk : ∀ k, (k = bx ∨ k = bx + 1 ∨ k = by' ∨ k = bz ∨ k = bd ∨ k = bd + 1 ∨ k = bt) → V'.heap[k]? = V.heap[k]?) : Ph V' bx by' bz bd bt c c2 f xg xo yg yo zg zo dg do' tg to' fx :=
  ⟨(hk _ (by simp)).trans h.x, (hk _ (by simp)).trans h.xf, (hk _ (by simp)).trans h.y, (hk _ (by simp)).trans h.z, (hk _ (by simp)).trans h.d, (hk _ (by simp)).trans h.df, (hk _ (by simp)).trans h.t⟩
theorem Ph.on (h : Ph V bx by' bz bd bt c c2 f xg xo yg yo zg zo dg do' tg to' fx) (hb : Below V.heap.size V V') : Ph V' bx by' bz bd bt c c2 f xg xo yg yo zg zo dg do' tg to' fx := by
  have l1 := (Array.getElem?_eq_some_iff.1 h.x).1
  have l2 := (Array.getElem?_eq_some_iff.1 h.xf).1
  have l3 := (Array.getElem?_eq_some_iff.1 h.y).1
  have l4 := (Array.getElem?_eq_some_iff.1 h.z).1
  have l5 := (Array.getElem?_eq_some_iff.1 h.d).1
  have l6 := (Array.getElem?_eq_some_iff.1 h.df).1
  have l7 := (Array.getElem?_eq_some_iff.1 h.t).1
  exact h.keep (fun k hk => hb.block k (by omega))
end
theorem Lst.on {V V' : World} {lo hi : Nat} {gv ov : Value} {c : Net} (h : Lst V lo hi gv ov c) (hb : Below V.heap.size V V') : Lst V' lo hi gv ov c :=
  ⟨ownsRow_below h.gates hb, ownsRow_below h.outs hb, h.gh, h.oh⟩
/-- the lists that marked has answered: in which blocks. -/
structure GL (V : World) (v : Int) (c : Net) (gv ov : Value) (S : Nat → Prop) : Prop where
  gates : ∃ lo, V.ownsRow lo 57 6 gv (c.gates.length + 8) (gas (List.replicate c.gates.length (gaM v) ++ List.replicate 8 (gaM (v + 1))))
  outs : ∃ lo, V.ownsRow lo 3 1 ov (c.outs.length + 8) (nu (List.replicate c.outs.length v ++ List.replicate 8 (v + 1)))
  gs : ∀ k, gv.ownBlock = some k → S k
  os : ∀ k, ov.ownBlock = some k → S k
theorem GL.kept {V V' : World} {v : Int} {c : Net} {gv ov : Value} {S : Nat → Prop} (h : GL V v c gv ov S) (hk : ∀ k, S k → k < V.heap.size → V'.heap[k]? = V.heap[k]?) : GL V' v c gv ov S := by
  obtain ⟨l1, h1⟩ := h.gates
  obtain ⟨l2, h2⟩ := h.outs
  exact ⟨⟨l1, own_same h1 (fun k hb => hk k (h.gs k hb) (h1.lt k hb).2)⟩, ⟨l2, own_same h2 (fun k hb => hk k (h.os k hb) (h2.lt k hb).2)⟩, h.gs, h.os⟩
theorem GL.on {V V' : World} {v : Int} {c : Net} {gv ov : Value} {S : Nat → Prop} (h : GL V v c gv ov S) (hb : Below V.heap.size V V') : GL V' v c gv ov S := h.kept (fun k _ hk => hb.block k hk)
/-- what marked does, by blocks. -/
structure MkL (V V' : World) (lo hi : Nat) (v : Int) (c : Net) (gv ov : Value) : Prop where
  lists : GL V' v c gv ov (fun k => (lo ≤ k ∧ k < hi) ∨ V.heap.size ≤ k)
  below : Below lo V V'
  up : ∀ k, hi ≤ k → k < V.heap.size → V'.heap[k]? = V.heap[k]?
theorem marked_law (V : World) (lo hi : Nat) (v : Int) (c : Net) (xg xo : Value) (h : Lst V lo hi xg xo c) (hlo : lo ≤ V.heap.size) (hf : c.gates.length ≤ 65536 ∧ c.outs.length ≤ 65536) (hv : -100 ≤ v ∧ v ≤ 100) :
    Calls Tryd.prog 7 #[.agg #[.string c.name, xg, xo], .int .i64 v] V fun e V' => ∃ sg cg so co, e = .returned (.agg #[.string c.name, .slice sg (c.gates.length + 8) cg, .slice so (c.outs.length + 8) co]) ∧ MkL V V' lo hi v c (.slice sg (c.gates.length + 8) cg) (.slice so (c.outs.length + 8) co) := by
  refine (marked_any c.name c.gates c.outs v xg xo lo V h.gates h.outs hlo (by omega) (by omega) hv).mono ?_
  rintro e V' ⟨gv', ov', rfl, hm⟩
  have l1 : (List.replicate c.gates.length (gaM v) ++ List.replicate 8 (gaM (v + 1))).length = c.gates.length + 8 := by simp
  have l2 : (List.replicate c.outs.length v ++ List.replicate 8 (v + 1)).length = c.outs.length + 8 := by simp
  have g1 := hm.gates
  have o1 := hm.outs
  rw [l1] at g1
  rw [l2] at o1
  obtain ⟨sg, cg, rfl⟩ := own_shape g1
  obtain ⟨so, co, rfl⟩ := own_shape o1
  have bl : ∀ k, k < V.heap.size → (k < lo ∨ hi ≤ k) → V'.heap[k]? = V.heap[k]? := fun k hk hz => hm.kept k hk (fun e => by
      have h1 := (h.gates.lt k e).1
      have h2 := h.gh k e
      omega) (fun e => by
      have h1 := (h.outs.lt k e).1
      have h2 := h.oh k e
      omega)
  refine ⟨sg, cg, so, co, rfl, ⟨⟨lo, g1⟩, ⟨lo, o1⟩, fun k hk => ?_, fun k hk => ?_⟩, ⟨hm.b0.os, hm.b0.tape, hm.b0.output, hm.b0.size, fun k hk => bl k (by omega) (.inl hk)⟩, fun k h1 h2 => bl k h2 (.inr h1)⟩
  · rcases hm.gb k hk with h1 | h1
    · exact .inl ⟨(h.gates.lt k h1).1, h.gh k h1⟩
    · exact .inr h1
  · rcases hm.ob k hk with h1 | h1
    · exact .inl ⟨(h.outs.lt k h1).1, h.oh k h1⟩
    · exact .inr h1
theorem still_law (V : World) (v : Int) (c : Net) (na : ByteArray) (sg so sx sy : Option Addr) (cg co cx cy : Nat) {S : Nat → Prop} (h : GL V v c (.slice sg (c.gates.length + 8) cg) (.slice so (c.outs.length + 8) co) S) (hf : c.gates.length ≤ 65536 ∧ c.outs.length ≤ 65536) (hv : -100 ≤ v ∧ v ≤ 100) :
    Calls Tryd.prog 8 #[.agg #[.string na, .slice sg (c.gates.length + 8) cg, .slice so (c.outs.length + 8) co], .agg #[.string c.name, .slice sx c.gates.length cx, .slice sy c.outs.length cy], .int .i64 v] V fun e w' => e = .returned (.bool true) ∧ Below V.heap.size V w' := by
  obtain ⟨l1, h1⟩ := h.gates
  obtain ⟨l2, h2⟩ := h.outs
  obtain ⟨_, _, e1, g1, _⟩ := own_cells h1
  obtain ⟨_, _, e2, g2, _⟩ := own_cells h2
  cases e1
  cases e2
  exact still_any na c.name c.gates.length c.outs.length v sg so sx sy cg co cx cy V g1 g2 (by omega) (by omega) hv
end Go.Proofs.YtfmmmhcpdinhgabDoor
/-
  CircuitParses: the law.
-/
namespace Go.Proofs.YtfmmmhcpdinhgabDoor
open Go.RowKit Go.Deep PureNet PureRd
set_option maxRecDepth 100000

theorem Ph.cells {V : World} {bx by' bz bd bt : Nat} {c c2 : Net} {f : Int × Int × Int} {xg xo yg yo zg zo dg do' tg to' : Value} {fx : Array Value} (h : Ph V bx by' bz bd bt c c2 f xg xo yg yo zg zo dg do' tg to' fx) :
    (∀ j, V.cell? ⟨bx, j, none⟩ = (#[.string c.name, xg, xo] : Array Value)[j]?) ∧ (∀ j, V.cell? ⟨by', j, none⟩ = (#[.string c.name, yg, yo] : Array Value)[j]?) ∧ (∀ j, V.cell? ⟨bz, j, none⟩ = (#[.string c2.name, zg, zo] : Array Value)[j]?) ∧ (∀ j, V.cell? ⟨bd, j, none⟩ = (#[.string c.name, dg, do'] : Array Value)[j]?) ∧ (∀ j, V.cell? ⟨bt, j, none⟩ = (#[.string c2.name, tg, to'] : Array Value)[j]?) ∧ bx < V.heap.size ∧ by' < V.heap.size ∧ bz < V.heap.size ∧ bd < V.heap.size ∧ bt < V.heap.size :=
  ⟨fun j => cell_row h.x j, fun j => cell_row h.y j, fun j => cell_row h.z j, fun j => cell_row h.d j, fun j => cell_row h.t j, (Array.getElem?_eq_some_iff.1 h.x).1, (Array.getElem?_eq_some_iff.1 h.y).1, (Array.getElem?_eq_some_iff.1 h.z).1, (Array.getElem?_eq_some_iff.1 h.d).1, (Array.getElem?_eq_some_iff.1 h.t).1⟩
theorem GL.weaken {V : World} {v : Int} {c : Net} {gv ov : Value} {S S' : Nat → Prop} (h : GL V v c gv ov S) (hS : ∀ k, S k → S' k) : GL V v c gv ov S' := ⟨h.gates, h.outs, fun k hk => hS k (h.gs k hk), fun k hk => hS k (h.os k hk)⟩
theorem MkL.keep {V V' : World} {lo hi : Nat} {v : Int} {c : Net} {gv ov : Value} (h : MkL V V' lo hi v c gv ov) (o : Obj) : ∀ k, k < V.heap.size → (k < lo ∨ hi ≤ k) → (V'.alloc o).heap[k]? = V.heap[k]? := fun k hk hz => by
  rw [Below.heap_alloc _ _ _ (Nat.lt_of_lt_of_le hk h.below.size)]
  rcases hz with h1 | h1
  · exact h.below.block k h1
  · exact h.up k h1 hk
theorem told_bx {W W9 : World} {b : Nat} {a0 a1 a2 e0 e1 e2 : Value} (h1 : W.heap[b]? = some (.cells #[a0, a1, a2] 25 (0, 0))) (h2 : W.heap[b + 1]? = some (.cells #[e0, e1, e2] 30 (0, 0))) (u0 u1 u2 v0 v1 v2 : Value)
    (h9 : W9 = ((((((W.setCell ⟨b, 0, none⟩ u0).setCell ⟨b, 1, none⟩ u1).setCell ⟨b, 2, none⟩ u2).setCell ⟨b + 1, 0, none⟩ v0).setCell ⟨b + 1, 1, none⟩ v1).setCell ⟨b + 1, 2, none⟩ v2)) :
    W9.heap[b]? = some (.cells #[u0, u1, u2] 25 (0, 0)) ∧ W9.heap[b + 1]? = some (.cells #[v0, v1, v2] 30 (0, 0)) ∧ Below b W W9 ∧ ∀ k, k ≠ b → k ≠ b + 1 → W9.heap[k]? = W.heap[k]? := by
  have r1 := row_set (i := 2) (u := u2) (row_set (i := 1) (u := u1) (row_set (i := 0) (u := u0) h1))
  have n1 : b ≠ b + 1 := by omega
  have n2 : b + 1 ≠ b := by omega
  have f0 : (((W.setCell ⟨b, 0, none⟩ u0).setCell ⟨b, 1, none⟩ u1).setCell ⟨b, 2, none⟩ u2).heap[b + 1]? = some (.cells #[e0, e1, e2] 30 (0, 0)) := by
    rw [Below.heap_setCell _ _ _ _ (show b + 1 ≠ b from n2), Below.heap_setCell _ _ _ _ (show b + 1 ≠ b from n2), Below.heap_setCell _ _ _ _ (show b + 1 ≠ b from n2)]
    exact h2
  have r2 := row_set (i := 2) (u := v2) (row_set (i := 1) (u := v1) (row_set (i := 0) (u := v0) f0))
  refine ⟨?_, by rw [h9]; exact r2, ?_, fun k k1 k2 => ?_⟩
  · rw [h9, Below.heap_setCell _ _ _ _ (show b ≠ b + 1 from n1), Below.heap_setCell _ _ _ _ (show b ≠ b + 1 from n1), Below.heap_setCell _ _ _ _ (show b ≠ b + 1 from n1)]
    exact r1
  · rw [h9]
    exact ((((((Below.refl b W).setCell (p := ⟨b, 0, none⟩) (Nat.le_refl _) _).setCell (p := ⟨b, 1, none⟩) (Nat.le_refl _) _).setCell (p := ⟨b, 2, none⟩) (Nat.le_refl _) _).setCell (p := ⟨b + 1, 0, none⟩) (Nat.le_succ _) _).setCell (p := ⟨b + 1, 1, none⟩) (Nat.le_succ _) _).setCell (p := ⟨b + 1, 2, none⟩) (Nat.le_succ _) _
  · rw [h9, Below.heap_setCell _ _ _ _ (show k ≠ b + 1 from k2), Below.heap_setCell _ _ _ _ (show k ≠ b + 1 from k2), Below.heap_setCell _ _ _ _ (show k ≠ b + 1 from k2), Below.heap_setCell _ _ _ _ (show k ≠ b from k1), Below.heap_setCell _ _ _ _ (show k ≠ b from k1), Below.heap_setCell _ _ _ _ (show k ≠ b from k1)]
theorem same_law (V : World) (c : Net) {lo hi lo2 hi2 : Nat} {sg so sg2 so2 : Option Addr} {cg co cg2 co2 : Nat} (h : Lst V lo hi (.slice sg c.gates.length cg) (.slice so c.outs.length co) c) (h2 : Lst V lo2 hi2 (.slice sg2 c.gates.length cg2) (.slice so2 c.outs.length co2) c) (hf : c.gates.length ≤ 65536 ∧ c.outs.length ≤ 65536) :
    Calls Tryd.prog 6 #[cirV c sg cg so co, cirV c sg2 cg2 so2 co2] V fun e w' => e = .returned (.bool true) ∧ Below V.heap.size V w' :=
  same_true c sg so sg2 so2 cg co cg2 co2 V h.cir h2.cir (by omega) (by omega)

set_option maxHeartbeats 4000000 in
theorem parses_law (text : List UInt8) (w : World) (hops : OpsT w opW) (hopd : OpsD w opW) (hkd : KindsAt w) :
    Calls Tryd.prog 3 #[str text] w fun e w' => e = .returned (.bool true) ∧ Below w.heap.size w w' := by
  have PA : Hid (∀ (tx : List UInt8) (W : World), Below w.heap.size w W → Calls Tryd.prog 4 #[str tx] W fun e W' => ∃ c f, Rd opW tx c f ∧ GotC W.heap.size W' c f e ∧ Below W.heap.size W W') := fun tx W hb => parse_all opW tx W (hops.on hb hops.pos) (hkd.on hb)
  have PD : Hid (∀ (tx : List UInt8) (W : World), Below w.heap.size w W → Calls Tryd.prog 5 #[str tx] W fun e W' => ∃ c f, Rd opW tx c f ∧ GotC W.heap.size W' c f e ∧ Below W.heap.size W W') := fun tx W hb => parse_all_doc opW tx W (hopd.on hb hopd.pos)
  clear hops hopd hkd
  go_enter Tryd.func3, Tryd.ntmps3
  go_upto_region 2 with (go_at_call 4; refine (PA.out text _ (Below.refl w.heap.size w)).mono ?_; rintro e V1 ⟨c, f, h1, ⟨sg1, cg1, so1, co1, rfl, g1, o1⟩, b1⟩)
  obtain ⟨Wa, hWa⟩ : ∃ Wa, Wa = (V1.alloc (Obj.cells #[Value.string c.name, Value.slice sg1 c.gates.length cg1, Value.slice so1 c.outs.length co1] 25)).alloc (Obj.cells #[Value.int .i64 f.1, Value.int .i64 f.2.1, Value.int .i64 f.2.2] 30) := ⟨_, rfl⟩
  rw [← hWa]
  have ZX := hid (Pz.of (f := f) g1 o1 b1 hWa)
  obtain ⟨bx, hbx⟩ : ∃ bx, bx = V1.heap.size := ⟨_, rfl⟩
  rw [← hbx] at ZX ⊢
  have BA : Hid (Below w.heap.size w Wa) := ZX.out.below
  clear hWa hbx g1 o1 b1
  have R1 := hid h1
  clear h1
  go_upto_region 3 with (go_at_call 4; refine (PA.out text _ BA.out).mono ?_; rintro e V2 ⟨c_2, f_2, h2, ⟨sg2, cg2, so2, co2, rfl, g2, o2⟩, b2⟩; obtain ⟨rfl, rfl⟩ := R1.out.one h2; clear h2)
  obtain ⟨Wb, hWb⟩ : ∃ Wb, Wb = (V2.alloc (Obj.cells #[Value.string c.name, Value.slice sg2 c.gates.length cg2, Value.slice so2 c.outs.length co2] 25)).alloc (Obj.cells #[Value.int .i64 f.1, Value.int .i64 f.2.1, Value.int .i64 f.2.2] 30) := ⟨_, rfl⟩
  rw [← hWb]
  have ZY := hid (Pz.of (f := f) g2 o2 b2 hWb)
  obtain ⟨by1, hby1⟩ : ∃ by1, by1 = V2.heap.size := ⟨_, rfl⟩
  rw [← hby1] at ZY ⊢
  have BB : Hid (Below w.heap.size w Wb) := (BA.out).trans (ZY.out.below.mono (BA.out).size)
  clear hWb hby1 g2 o2 b2
  go_upto_region 4 with (go_at_call 4; refine (PA.out fixedT _ BB.out).mono ?_; rintro e V3 ⟨c2, f2, h3, ⟨sg3, cg3, so3, co3, rfl, g3, o3⟩, b3⟩; obtain rfl := fixed_ok h3)
  obtain ⟨Wc, hWc⟩ : ∃ Wc, Wc = (V3.alloc (Obj.cells #[Value.string c2.name, Value.slice sg3 c2.gates.length cg3, Value.slice so3 c2.outs.length co3] 25)).alloc (Obj.cells #[Value.int .i64 0, Value.int .i64 0, Value.int .i64 0] 30) := ⟨_, rfl⟩
  rw [← hWc]
  have ZZ := hid (Pz.of (f := (0, 0, 0)) g3 o3 b3 hWc)
  obtain ⟨bz, hbz⟩ : ∃ bz, bz = V3.heap.size := ⟨_, rfl⟩
  rw [← hbz] at ZZ ⊢
  have BC : Hid (Below w.heap.size w Wc) := (BB.out).trans (ZZ.out.below.mono (BB.out).size)
  clear hWc hbz g3 o3 b3
  have R2 := hid h3
  clear h3
  go_upto_region 5 with (go_at_call 5; refine (PD.out text _ BC.out).mono ?_; rintro e V4 ⟨c_4, f_4, h4, ⟨sg4, cg4, so4, co4, rfl, g4, o4⟩, b4⟩; obtain ⟨rfl, rfl⟩ := R1.out.one h4; clear h4)
  obtain ⟨Wd, hWd⟩ : ∃ Wd, Wd = (V4.alloc (Obj.cells #[Value.string c.name, Value.slice sg4 c.gates.length cg4, Value.slice so4 c.outs.length co4] 25)).alloc (Obj.cells #[Value.int .i64 f.1, Value.int .i64 f.2.1, Value.int .i64 f.2.2] 30) := ⟨_, rfl⟩
  rw [← hWd]
  have ZD := hid (Pz.of (f := f) g4 o4 b4 hWd)
  obtain ⟨bd, hbd⟩ : ∃ bd, bd = V4.heap.size := ⟨_, rfl⟩
  rw [← hbd] at ZD ⊢
  have BD : Hid (Below w.heap.size w Wd) := (BC.out).trans (ZD.out.below.mono (BC.out).size)
  clear hWd hbd g4 o4 b4
  go_upto_region 6 with (go_at_call 5; refine (PD.out fixedT _ BD.out).mono ?_; rintro e V5 ⟨c_5, f_5, h5, ⟨sg5, cg5, so5, co5, rfl, g5, o5⟩, b5⟩; obtain ⟨rfl, rfl⟩ := R2.out.one h5; clear h5)
  obtain ⟨We, hWe⟩ : ∃ We, We = (V5.alloc (Obj.cells #[Value.string c2.name, Value.slice sg5 c2.gates.length cg5, Value.slice so5 c2.outs.length co5] 25)).alloc (Obj.cells #[Value.int .i64 0, Value.int .i64 0, Value.int .i64 0] 30) := ⟨_, rfl⟩
  rw [← hWe]
  have ZT := hid (Pz.of (f := (0, 0, 0)) g5 o5 b5 hWe)
  obtain ⟨bt, hbt⟩ : ∃ bt, bt = V5.heap.size := ⟨_, rfl⟩
  rw [← hbt] at ZT ⊢
  have BE : Hid (Below w.heap.size w We) := (BD.out).trans (ZT.out.below.mono (BD.out).size)
  clear hWe hbt g5 o5 b5
  have FW := hid R1.out.few
  have FW2 := hid R2.out.few
  have OR : Hid (Ord5 w bx by1 bz bd bt) := ⟨ZX.out.low, by have := ZX.out.size; have := ZY.out.low; omega, by have := ZY.out.size; have := ZZ.out.low; omega, by have := ZZ.out.size; have := ZD.out.low; omega, by have := ZD.out.size; have := ZT.out.low; omega⟩
  have HSE : Hid (We.heap.size = bt + 2) := ZT.out.size
  have bde : Below Wd.heap.size Wd We := ZT.out.below
  have bce : Below Wc.heap.size Wc We := ZD.out.below.trans (bde.mono ZD.out.below.size)
  have bbe : Below Wb.heap.size Wb We := ZZ.out.below.trans (bce.mono ZZ.out.below.size)
  have bae : Below Wa.heap.size Wa We := ZY.out.below.trans (bbe.mono ZY.out.below.size)
  have sA := ZX.out.size
  have sB := ZY.out.size
  have sC := ZZ.out.size
  have sD := ZD.out.size
  have LX : Hid (Lst We w.heap.size bx (.slice sg1 c.gates.length cg1) (.slice so1 c.outs.length co1) c) := ZX.out.lst.on bae
  have LY : Hid (Lst We (bx + 2) by1 (.slice sg2 c.gates.length cg2) (.slice so2 c.outs.length co2) c) := by
    have h := ZY.out.lst.on bbe
    rw [sA] at h
    exact h
  have LZ : Hid (Lst We (by1 + 2) bz (.slice sg3 c2.gates.length cg3) (.slice so3 c2.outs.length co3) c2) := by
    have h := ZZ.out.lst.on bce
    rw [sB] at h
    exact h
  have LD : Hid (Lst We (bz + 2) bd (.slice sg4 c.gates.length cg4) (.slice so4 c.outs.length co4) c) := by
    have h := ZD.out.lst.on bde
    rw [sC] at h
    exact h
  have LT : Hid (Lst We (bd + 2) bt (.slice sg5 c2.gates.length cg5) (.slice so5 c2.outs.length co5) c2) := by
    have h := ZT.out.lst
    rw [sD] at h
    exact h
  have bl : ∀ {A : World} {k : Nat} {o : Obj}, A.heap[k]? = some o → Below A.heap.size A We → We.heap[k]? = some o := fun h hb => (hb.block _ (Array.getElem?_eq_some_iff.1 h).1).trans h
  have PHE : Hid (Ph We bx by1 bz bd bt c c2 f (.slice sg1 c.gates.length cg1) (.slice so1 c.outs.length co1) (.slice sg2 c.gates.length cg2) (.slice so2 c.outs.length co2) (.slice sg3 c2.gates.length cg3) (.slice so3 c2.outs.length co3) (.slice sg4 c.gates.length cg4) (.slice so4 c.outs.length co4) (.slice sg5 c2.gates.length cg5) (.slice so5 c2.outs.length co5) #[.int .i64 f.1, .int .i64 f.2.1, .int .i64 f.2.2]) :=
    ⟨bl ZX.out.box bae, bl ZX.out.flt bae, bl ZY.out.box bbe, bl ZZ.out.box bce, bl ZD.out.box bde, bl ZD.out.flt bde, ZT.out.box⟩
  have xf := fun j => cell_row PHE.out.xf j
  have yf := fun j => cell_row (bl ZY.out.flt bbe) j
  have zf := fun j => cell_row (bl ZZ.out.flt bce) j
  have df := fun j => cell_row PHE.out.df j
  have l1 := (Array.getElem?_eq_some_iff.1 PHE.out.xf).1
  have l2 := (Array.getElem?_eq_some_iff.1 (bl ZY.out.flt bbe)).1
  have l3 := (Array.getElem?_eq_some_iff.1 (bl ZZ.out.flt bce)).1
  have l4 := (Array.getElem?_eq_some_iff.1 PHE.out.df).1
  have S1 : Hid (∀ V, Below We.heap.size We V → Calls Tryd.prog 6 #[cirV c sg1 cg1 so1 co1, cirV c sg4 cg4 so4 co4] V fun e w' => e = .returned (.bool true) ∧ Below V.heap.size V w') := fun V hb => same_law V c (LX.out.on hb) (LD.out.on hb) FW.out
  have S2 : Hid (∀ V, Below We.heap.size We V → Calls Tryd.prog 6 #[cirV c sg2 cg2 so2 co2, cirV c sg4 cg4 so4 co4] V fun e w' => e = .returned (.bool true) ∧ Below V.heap.size V w') := fun V hb => same_law V c (LY.out.on hb) (LD.out.on hb) FW.out
  have S3 : Hid (∀ V, Below We.heap.size We V → Calls Tryd.prog 6 #[cirV c2 sg3 cg3 so3 co3, cirV c2 sg5 cg5 so5 co5] V fun e w' => e = .returned (.bool true) ∧ Below V.heap.size V w') := fun V hb => same_law V c2 (LZ.out.on hb) (LT.out.on hb) FW2.out
  clear bl bde bce bbe bae sA sB sC sD ZX ZY ZZ ZD ZT BA BB BC BD
  obtain ⟨p1, p2, p3, p4, p5, p6, p7, p8, p9, p10⟩ := PHE.out.cells
  have G0 : Hid (Below We.heap.size We We) := Below.refl _ _
  go_upto_region 8 with (first
    | (have q := G2; clear q; go_at_call 6; refine (S3.out _ G2.out).mono ?_; rintro e w3 ⟨rfl, b3⟩; have G3 : Hid (Below We.heap.size We w3) := G2.out.trans (b3.mono G2.out.size); clear b3 G2 p1 p2 p3 p4 p5 p6 p7 p8 p9 p10; obtain ⟨p1, p2, p3, p4, p5, p6, p7, p8, p9, p10⟩ := (PHE.out.on G3.out).cells)
    | (have q := G1; clear q; go_at_call 6; refine (S2.out _ G1.out).mono ?_; rintro e w2 ⟨rfl, b2⟩; have G2 : Hid (Below We.heap.size We w2) := G1.out.trans (b2.mono G1.out.size); clear b2 G1 p1 p2 p3 p4 p5 p6 p7 p8 p9 p10; obtain ⟨p1, p2, p3, p4, p5, p6, p7, p8, p9, p10⟩ := (PHE.out.on G2.out).cells)
    | (have q := G0; clear q; go_at_call 6; refine (S1.out _ G0.out).mono ?_; rintro e w1 ⟨rfl, b1⟩; have G1 : Hid (Below We.heap.size We w1) := G0.out.trans (b1.mono G0.out.size); clear b1 G0 p1 p2 p3 p4 p5 p6 p7 p8 p9 p10; obtain ⟨p1, p2, p3, p4, p5, p6, p7, p8, p9, p10⟩ := (PHE.out.on G1.out).cells))
  have h3 : bt + 2 ≤ w3.heap.size := by have := G3.out.size; rw [HSE.out] at this; exact this
  obtain ⟨oX, oY, oZ, oD, oT⟩ := OR.out
  have KX := hid (marked_law w3 w.heap.size bx (-11) c _ _ (LX.out.on G3.out) (by omega) FW.out (by decide))
  clear xf yf zf df l1 l2 l3 l4 S1 S2 S3 LX
  go_upto_region 9 with (go_at_call 7; refine KX.out.mono ?_; rintro e V7 ⟨sg6, cg6, so6, co6, rfl, mk⟩)
  obtain ⟨V8, hV8⟩ : ∃ V8, V8 = V7.alloc (Obj.cells #[Value.string c.name, Value.slice sg6 (c.gates.length + 8) cg6, Value.slice so6 (c.outs.length + 8) co6] 25) := ⟨_, rfl⟩
  rw [← hV8]
  obtain ⟨q1, hq1⟩ : ∃ q1, q1 = V7.heap.size := ⟨_, rfl⟩
  rw [← hq1]
  have kk : ∀ k, k < w3.heap.size → (k < w.heap.size ∨ bx ≤ k) → V8.heap[k]? = w3.heap[k]? := by rw [hV8]; exact mk.keep _
  have sq : w3.heap.size ≤ q1 := by rw [hq1]; exact mk.below.size
  have sV8 : V8.heap.size = q1 + 1 := by rw [hV8, hq1]; simp
  have PH8 := hid ((PHE.out.on G3.out).keep (V' := V8) (fun k hk => kk k (by omega) (by omega)))
  have LY8 := hid ((LY.out.on G3.out).kept (W' := V8) (fun k h1 h2 => kk k (by omega) (by omega)))
  have LZ8 := hid ((LZ.out.on G3.out).kept (W' := V8) (fun k h1 h2 => kk k (by omega) (by omega)))
  have LD8 := hid ((LD.out.on G3.out).kept (W' := V8) (fun k h1 h2 => kk k (by omega) (by omega)))
  have LT8 := hid ((LT.out.on G3.out).kept (W' := V8) (fun k h1 h2 => kk k (by omega) (by omega)))
  have G6 : Hid (GL V8 (-11) c (.slice sg6 (c.gates.length + 8) cg6) (.slice so6 (c.outs.length + 8) co6) (fun k => k < bx ∨ bt + 2 ≤ k)) := by rw [hV8]; exact (mk.lists.weaken (fun k hk => by omega)).on ((Below.refl _ _).alloc (Nat.le_refl _) _)
  have R6 : Hid (V8.heap[q1]? = some (.cells #[Value.string c.name, Value.slice sg6 (c.gates.length + 8) cg6, Value.slice so6 (c.outs.length + 8) co6] 25 (0, 0))) := by rw [hV8, hq1]; exact heap_alloc_new V7 _
  have B8 : Hid (Below w.heap.size w V8) := by rw [hV8]; exact ((BE.out.trans (G3.out.mono (by have := HSE.out; omega))).trans (mk.below.mono (by omega))).alloc (by have := mk.below.size; omega) _
  clear kk mk hV8 hq1 KX G3 PHE LY LZ LD LT BE HSE p1 p2 p3 p4 p5 p6 p7 p8 p9 p10
  obtain ⟨p1, p2, p3, p4, p5, p6, p7, p8, p9, p10⟩ := PH8.out.cells
  have S2 : Hid (∀ V, Below V8.heap.size V8 V → Calls Tryd.prog 6 #[cirV c sg2 cg2 so2 co2, cirV c sg4 cg4 so4 co4] V fun e w' => e = .returned (.bool true) ∧ Below V.heap.size V w') := fun V hb => same_law V c (LY8.out.on hb) (LD8.out.on hb) FW.out
  have S3 : Hid (∀ V, Below V8.heap.size V8 V → Calls Tryd.prog 6 #[cirV c2 sg3 cg3 so3 co3, cirV c2 sg5 cg5 so5 co5] V fun e w' => e = .returned (.bool true) ∧ Below V.heap.size V w') := fun V hb => same_law V c2 (LZ8.out.on hb) (LT8.out.on hb) FW2.out
  have H0 : Hid (Below V8.heap.size V8 V8) := Below.refl _ _
  go_upto_region 11 with (first
    | (have q := H1; clear q; go_at_call 6; refine (S3.out _ H1.out).mono ?_; rintro e w5 ⟨rfl, b2⟩; have H2 : Hid (Below V8.heap.size V8 w5) := H1.out.trans (b2.mono H1.out.size); clear b2 H1 p1 p2 p3 p4 p5 p6 p7 p8 p9 p10; obtain ⟨p1, p2, p3, p4, p5, p6, p7, p8, p9, p10⟩ := (PH8.out.on H2.out).cells)
    | (have q := H0; clear q; go_at_call 6; refine (S2.out _ H0.out).mono ?_; rintro e w4 ⟨rfl, b1⟩; have H1 : Hid (Below V8.heap.size V8 w4) := H0.out.trans (b1.mono H0.out.size); clear b1 H0 p1 p2 p3 p4 p5 p6 p7 p8 p9 p10; obtain ⟨p1, p2, p3, p4, p5, p6, p7, p8, p9, p10⟩ := (PH8.out.on H1.out).cells))
  have h5 : q1 + 1 ≤ w5.heap.size := by have := H2.out.size; omega
  have KY := hid (marked_law w5 (bx + 2) by1 (-13) c _ _ (LY8.out.on H2.out) (by omega) FW.out (by decide))
  clear S2 S3 LY8
  go_upto_region 12 with (go_at_call 7; refine KY.out.mono ?_; rintro e V11 ⟨sg7, cg7, so7, co7, rfl, mk⟩)
  obtain ⟨V12, hV12⟩ : ∃ V12, V12 = V11.alloc (Obj.cells #[Value.string c.name, Value.slice sg7 (c.gates.length + 8) cg7, Value.slice so7 (c.outs.length + 8) co7] 25) := ⟨_, rfl⟩
  rw [← hV12]
  obtain ⟨q2, hq2⟩ : ∃ q2, q2 = V11.heap.size := ⟨_, rfl⟩
  rw [← hq2]
  have kk : ∀ k, k < w5.heap.size → (k < bx + 2 ∨ by1 ≤ k) → V12.heap[k]? = w5.heap[k]? := by rw [hV12]; exact mk.keep _
  have sq : w5.heap.size ≤ q2 := by rw [hq2]; exact mk.below.size
  have sV12 : V12.heap.size = q2 + 1 := by rw [hV12, hq2]; simp
  have PH12 := hid ((PH8.out.on H2.out).keep (V' := V12) (fun k hk => kk k (by omega) (by omega)))
  have LZ12 := hid ((LZ8.out.on H2.out).kept (W' := V12) (fun k h1 h2 => kk k (by omega) (by omega)))
  have LD12 := hid ((LD8.out.on H2.out).kept (W' := V12) (fun k h1 h2 => kk k (by omega) (by omega)))
  have LT12 := hid ((LT8.out.on H2.out).kept (W' := V12) (fun k h1 h2 => kk k (by omega) (by omega)))
  have G6b := hid ((G6.out.on H2.out).kept (V' := V12) (fun k h1 h2 => kk k h2 (by omega)))
  have G7 : Hid (GL V12 (-13) c (.slice sg7 (c.gates.length + 8) cg7) (.slice so7 (c.outs.length + 8) co7) (fun k => (bx + 2 ≤ k ∧ k < by1) ∨ bt + 2 ≤ k)) := by rw [hV12]; exact (mk.lists.weaken (fun k hk => by omega)).on ((Below.refl _ _).alloc (Nat.le_refl _) _)
  have R6b := hid ((kk q1 (by have := (H2.out).size; omega) (by omega)).trans ((H2.out.block q1 (by omega)).trans R6.out))
  have R7 : Hid (V12.heap[q2]? = some (.cells #[Value.string c.name, Value.slice sg7 (c.gates.length + 8) cg7, Value.slice so7 (c.outs.length + 8) co7] 25 (0, 0))) := by rw [hV12, hq2]; exact heap_alloc_new V11 _
  have B12 : Hid (Below w.heap.size w V12) := by rw [hV12]; exact ((B8.out.trans (H2.out.mono (by omega))).trans (mk.below.mono (by omega))).alloc (by have := mk.below.size; omega) _
  clear kk mk hV12 hq2 KY H2 PH8 LZ8 LD8 LT8 B8 G6 R6 sV8 p1 p2 p3 p4 p5 p6 p7 p8 p9 p10
  obtain ⟨p1, p2, p3, p4, p5, p6, p7, p8, p9, p10⟩ := PH12.out.cells
  have S3 : Hid (∀ V, Below V12.heap.size V12 V → Calls Tryd.prog 6 #[cirV c2 sg3 cg3 so3 co3, cirV c2 sg5 cg5 so5 co5] V fun e w' => e = .returned (.bool true) ∧ Below V.heap.size V w') := fun V hb => same_law V c2 (LZ12.out.on hb) (LT12.out.on hb) FW2.out
  have J0 : Hid (Below V12.heap.size V12 V12) := Below.refl _ _
  go_upto_region 14 with (have q := J0; clear q; go_at_call 6; refine (S3.out _ J0.out).mono ?_; rintro e w7 ⟨rfl, b2⟩; have J1 : Hid (Below V12.heap.size V12 w7) := J0.out.trans (b2.mono J0.out.size); clear b2 J0 p1 p2 p3 p4 p5 p6 p7 p8 p9 p10; obtain ⟨p1, p2, p3, p4, p5, p6, p7, p8, p9, p10⟩ := (PH12.out.on J1.out).cells)
  have h7 : q2 + 1 ≤ w7.heap.size := by have := J1.out.size; omega
  have KZ := hid (marked_law w7 (by1 + 2) bz (-15) c2 _ _ (LZ12.out.on J1.out) (by omega) FW2.out (by decide))
  clear S3 LZ12 LT12
  go_upto_region 15 with (go_at_call 7; refine KZ.out.mono ?_; rintro e V14 ⟨sg8, cg8, so8, co8, rfl, mk⟩)
  obtain ⟨V15, hV15⟩ : ∃ V15, V15 = V14.alloc (Obj.cells #[Value.string c2.name, Value.slice sg8 (c2.gates.length + 8) cg8, Value.slice so8 (c2.outs.length + 8) co8] 25) := ⟨_, rfl⟩
  rw [← hV15]
  obtain ⟨q3, hq3⟩ : ∃ q3, q3 = V14.heap.size := ⟨_, rfl⟩
  rw [← hq3]
  have kk : ∀ k, k < w7.heap.size → (k < by1 + 2 ∨ bz ≤ k) → V15.heap[k]? = w7.heap[k]? := by rw [hV15]; exact mk.keep _
  have sq : w7.heap.size ≤ q3 := by rw [hq3]; exact mk.below.size
  have sV15 : V15.heap.size = q3 + 1 := by rw [hV15, hq3]; simp
  have PH15 := hid ((PH12.out.on J1.out).keep (V' := V15) (fun k hk => kk k (by omega) (by omega)))
  have LD15 := hid ((LD12.out.on J1.out).kept (W' := V15) (fun k h1 h2 => kk k (by omega) (by omega)))
  have G6c := hid ((G6b.out.on J1.out).kept (V' := V15) (fun k h1 h2 => kk k h2 (by omega)))
  have G7c := hid ((G7.out.on J1.out).kept (V' := V15) (fun k h1 h2 => kk k h2 (by omega)))
  have G8 : Hid (GL V15 (-15) c2 (.slice sg8 (c2.gates.length + 8) cg8) (.slice so8 (c2.outs.length + 8) co8) (fun k => True)) := by rw [hV15]; exact (mk.lists.weaken (fun k hk => trivial)).on ((Below.refl _ _).alloc (Nat.le_refl _) _)
  have R6c := hid ((kk q1 (by have := (J1.out).size; omega) (by omega)).trans ((J1.out.block q1 (by omega)).trans R6b.out))
  have R7c := hid ((kk q2 (by have := (J1.out).size; omega) (by omega)).trans ((J1.out.block q2 (by omega)).trans R7.out))
  have R8 : Hid (V15.heap[q3]? = some (.cells #[Value.string c2.name, Value.slice sg8 (c2.gates.length + 8) cg8, Value.slice so8 (c2.outs.length + 8) co8] 25 (0, 0))) := by rw [hV15, hq3]; exact heap_alloc_new V14 _
  have B15 : Hid (Below w.heap.size w V15) := by rw [hV15]; exact ((B12.out.trans (J1.out.mono (by omega))).trans (mk.below.mono (by omega))).alloc (by have := mk.below.size; omega) _
  clear kk mk hV15 hq3 KZ J1 PH12 LD12 B12 G6b G7 R6b R7 sV12 p1 p2 p3 p4 p5 p6 p7 p8 p9 p10
  obtain ⟨p1, p2, p3, p4, p5, p6, p7, p8, p9, p10⟩ := PH15.out.cells
  have r1 := fun j => cell_row R6c.out j
  have r2 := fun j => cell_row R7c.out j
  have r3 := fun j => cell_row R8.out j
  have lr1 := (Array.getElem?_eq_some_iff.1 R6c.out).1
  have lr2 := (Array.getElem?_eq_some_iff.1 R7c.out).1
  have lr3 := (Array.getElem?_eq_some_iff.1 R8.out).1
  have T1 : Hid (∀ V, Below V15.heap.size V15 V → Calls Tryd.prog 8 #[.agg #[.string c.name, .slice sg6 (c.gates.length + 8) cg6, .slice so6 (c.outs.length + 8) co6], cirV c sg1 cg1 so1 co1, .int .i64 (-11)] V fun e w' => e = .returned (.bool true) ∧ Below V.heap.size V w') := fun V hb => still_law V (-11) c c.name _ _ _ _ _ _ _ _ (G6c.out.on hb) FW.out (by decide)
  have T2 : Hid (∀ V, Below V15.heap.size V15 V → Calls Tryd.prog 8 #[.agg #[.string c.name, .slice sg7 (c.gates.length + 8) cg7, .slice so7 (c.outs.length + 8) co7], cirV c sg2 cg2 so2 co2, .int .i64 (-13)] V fun e w' => e = .returned (.bool true) ∧ Below V.heap.size V w') := fun V hb => still_law V (-13) c c.name _ _ _ _ _ _ _ _ (G7c.out.on hb) FW.out (by decide)
  have T3 : Hid (∀ V, Below V15.heap.size V15 V → Calls Tryd.prog 8 #[.agg #[.string c2.name, .slice sg8 (c2.gates.length + 8) cg8, .slice so8 (c2.outs.length + 8) co8], cirV c2 sg3 cg3 so3 co3, .int .i64 (-15)] V fun e w' => e = .returned (.bool true) ∧ Below V.heap.size V w') := fun V hb => still_law V (-15) c2 c2.name _ _ _ _ _ _ _ _ (G8.out.on hb) FW2.out (by decide)
  have K0 : Hid (Below V15.heap.size V15 V15) := Below.refl _ _
  have R6l := hid lr1
  have R7l := hid lr2
  have R8l := hid lr3
  go_upto_region 17 with (first
    | (have q := K2; clear q; go_at_call 8; refine (T3.out _ K2.out).mono ?_; rintro e w10 ⟨rfl, b2⟩; have K3 : Hid (Below V15.heap.size V15 w10) := K2.out.trans (b2.mono K2.out.size); clear b2 K2 p1 p2 p3 p4 p5 p6 p7 p8 p9 p10 r1 r2 r3 lr1 lr2 lr3; obtain ⟨p1, p2, p3, p4, p5, p6, p7, p8, p9, p10⟩ := (PH15.out.on K3.out).cells)
    | (have q := K1; clear q; go_at_call 8; refine (T2.out _ K1.out).mono ?_; rintro e w9 ⟨rfl, b2⟩; have K2 : Hid (Below V15.heap.size V15 w9) := K1.out.trans (b2.mono K1.out.size); clear b2 K1 p1 p2 p3 p4 p5 p6 p7 p8 p9 p10 r1 r2 r3 lr1 lr2 lr3; obtain ⟨p1, p2, p3, p4, p5, p6, p7, p8, p9, p10⟩ := (PH15.out.on K2.out).cells; have r1 := fun j => cell_row ((K2.out.block _ R6l.out).trans R6c.out) j; have r2 := fun j => cell_row ((K2.out.block _ R7l.out).trans R7c.out) j; have r3 := fun j => cell_row ((K2.out.block _ R8l.out).trans R8.out) j; have lr1 := (Array.getElem?_eq_some_iff.1 ((K2.out.block _ R6l.out).trans R6c.out)).1; have lr2 := (Array.getElem?_eq_some_iff.1 ((K2.out.block _ R7l.out).trans R7c.out)).1; have lr3 := (Array.getElem?_eq_some_iff.1 ((K2.out.block _ R8l.out).trans R8.out)).1)
    | (have q := K0; clear q; go_at_call 8; refine (T1.out _ K0.out).mono ?_; rintro e w8 ⟨rfl, b1⟩; have K1 : Hid (Below V15.heap.size V15 w8) := K0.out.trans (b1.mono K0.out.size); clear b1 K0 p1 p2 p3 p4 p5 p6 p7 p8 p9 p10 r1 r2 r3 lr1 lr2 lr3; obtain ⟨p1, p2, p3, p4, p5, p6, p7, p8, p9, p10⟩ := (PH15.out.on K1.out).cells; have r1 := fun j => cell_row ((K1.out.block _ R6l.out).trans R6c.out) j; have r2 := fun j => cell_row ((K1.out.block _ R7l.out).trans R7c.out) j; have r3 := fun j => cell_row ((K1.out.block _ R8l.out).trans R8.out) j; have lr1 := (Array.getElem?_eq_some_iff.1 ((K1.out.block _ R6l.out).trans R6c.out)).1; have lr2 := (Array.getElem?_eq_some_iff.1 ((K1.out.block _ R7l.out).trans R7c.out)).1; have lr3 := (Array.getElem?_eq_some_iff.1 ((K1.out.block _ R8l.out).trans R8.out)).1))
  have h10 : q3 + 1 ≤ w10.heap.size := by have := K3.out.size; omega
  have BF : Hid (Below w.heap.size w w10) := B15.out.trans (K3.out.mono (by omega))
  have PHF := hid (PH15.out.on K3.out)
  have LDF := hid (LD15.out.on K3.out)
  clear T1 T2 T3 R6c R7c R8 R6l R7l R8l G6c G7c G8 K3 PH15 LD15 B15 p1 p2 p3 p4 p5 p6 p7 p8 p9 p10
  go_upto_region 18 with (go_at_call 4; refine (PA.out text _ BF.out).mono ?_; rintro e V17 ⟨c_9, f_9, h9, ⟨sg9, cg9, so9, co9, rfl, g9, o9⟩, b9⟩; obtain ⟨rfl, rfl⟩ := R1.out.one h9; clear h9; have P9 := hid (PHF.out.on b9); have BG := hid b9; have G9 := hid g9; have O9 := hid o9; have e1 := fun j => cell_row P9.out.x j; have e2 := fun j => cell_row P9.out.xf j; have e3 := fun j => unfrozen_row P9.out.x j; have e4 := fun j => unfrozen_row P9.out.xf j; have e5 := (Array.getElem?_eq_some_iff.1 P9.out.x).1; have e6 := (Array.getElem?_eq_some_iff.1 P9.out.xf).1; have e7 : bx ≠ bx + 1 := (by omega); have e8 : bx + 1 ≠ bx := (by omega); clear g9 o9 b9)
  obtain ⟨V18, hV18⟩ : ∃ V18, V18 = (((((V17.setCell ⟨bx, 0, none⟩ (.string c.name)).setCell ⟨bx, 1, none⟩ (.slice sg9 c.gates.length cg9)).setCell ⟨bx, 2, none⟩ (.slice so9 c.outs.length co9)).setCell ⟨bx + 1, 0, none⟩ (.int .i64 f.1)).setCell ⟨bx + 1, 1, none⟩ (.int .i64 f.2.1)).setCell ⟨bx + 1, 2, none⟩ (.int .i64 f.2.2) := ⟨_, rfl⟩
  rw [← hV18]
  obtain ⟨t1, t2, t3, t4⟩ := told_bx P9.out.x P9.out.xf _ _ _ _ _ _ hV18
  have hb10 := BG.out.size
  have LX9 : Hid (Lst V18 w10.heap.size V17.heap.size (.slice sg9 c.gates.length cg9) (.slice so9 c.outs.length co9) c) := (show Lst V17 w10.heap.size V17.heap.size (.slice sg9 c.gates.length cg9) (.slice so9 c.outs.length co9) c from ⟨G9.out, O9.out, fun k hk => (G9.out.lt k hk).2, fun k hk => (O9.out.lt k hk).2⟩).kept (fun k h1 h2 => t4 k (by omega) (by omega))
  have LD9 := hid ((LDF.out.on BG.out).kept (W' := V18) (fun k h1 h2 => t4 k (by omega) (by omega)))
  have S9 := hid (same_law V18 c LX9.out LD9.out FW.out)
  have d1 := (t4 bd (by omega) (by omega)).trans P9.out.d
  have d2 := (t4 (bd + 1) (by omega) (by omega)).trans P9.out.df
  have y1 := fun j => cell_row t1 j
  have y2 := fun j => cell_row t2 j
  have y3 := fun j => cell_row d1 j
  have y4 := fun j => cell_row d2 j
  have z1 := (Array.getElem?_eq_some_iff.1 t1).1
  have z2 := (Array.getElem?_eq_some_iff.1 t2).1
  have z3 := (Array.getElem?_eq_some_iff.1 d1).1
  have z4 := (Array.getElem?_eq_some_iff.1 d2).1
  have BH : Hid (Below w.heap.size w V18) := (BF.out.trans (BG.out.mono (by omega))).trans (t3.mono (by omega))
  clear t1 t2 t3 t4 d1 d2 hV18 e1 e2 e3 e4 e5 e6 P9 PHF LDF LX9 LD9 G9 O9
  go_wp2_with (go_at_call 6; refine S9.out.mono ?_; rintro e w12 ⟨rfl, b12⟩; have B12 := hid b12; clear b12)
  go_ret
  exact ⟨rfl, BH.out.trans (B12.out.mono BH.out.size)⟩
end Go.Proofs.YtfmmmhcpdinhgabDoor
