import Derived.Deep.RegionLaw
import Derived.Deep.DeepCutAuto
import Derived.Test.YtclplbnildnifaaGreatDoorZ08
/-
  held.release, called and deferred.
-/
namespace Go.Proofs.YtclplbnildnifaaGreatDoor
open Go.RowKit Go.Deep
set_option linter.unusedSimpArgs false
set_option linter.unusedVariables false

section
variable {w w' : World} {b : Bn} {n : Nat} {A : PubA} {s : Pu.St} {F : List Nat} {kb hb : Nat} {K T : Int} {x : ByteArray} {kind dead : Int} {lv : Value} {cl : Bool}

/-- behind a release: the row hb, and all else. -/
def Freed (w w' : World) (b : Bn) (n : Nat) (A : PubA) (s : Pu.St) (F : List Nat) (hb : Nat) (K : Int) : Prop :=
  (∀ c t, w.heap[hb]? = some (.cells c t (0, 0)) → w'.heap[hb]? = some (.cells ((c.setIfInBounds 5 (.bool true)).setIfInBounds 3 (.slice none 0 0)) t (0, 0))) ∧ Went w w' b n A (s.give K) F [hb]

theorem freed_of {w1 : World} (S : Stand w b n A s F) (h : HeldAt w hb kb x kind lv dead cl) (hF : hb ∉ F) (e : w1 = (w.setCell ⟨hb, 5, none⟩ (.bool true)).setCell ⟨hb, 3, none⟩ (.slice none 0 0)) (g : Went w1 w' b n A (s.give K) F []) : Freed w w' b n A s F hb K := by
  have t1 : Touch [hb] w w1 := by rw [e]; exact ((Touch.refl [hb] w).setCell (by simp) _).setCell (by simp) _
  obtain ⟨F', S', t, f⟩ := g
  refine ⟨fun c t0 h0 => ?_, F', S', (t1.mono (by simp)).trans t (fun y hy => .inl (by simp at hy ⊢; exact .inr hy)), fun y hy => ?_⟩
  · have r1 : w1.heap[hb]? = some (.cells ((c.setIfInBounds 5 (.bool true)).setIfInBounds 3 (.slice none 0 0)) t0 (0, 0)) := by rw [e]; exact heap_setCell_row (heap_setCell_row h0 5 _) 3 _
    exact (t.block hb (lt_of_block r1) (by simpa using hF)).trans r1
  · rcases f y hy with h | h
    · exact .inl h
    · exact .inr (Nat.le_trans t1.size h)


set_option maxRecDepth 100000 in
set_option maxHeartbeats 1000000 in
theorem release_any (S : Stand w b n A s F) (hk : DeskAt w kb b K T) (hkF : kb ∉ F) (h : HeldAt w hb kb x kind lv dead cl) (hF : hb ∉ F) (hlo : b.lo ≤ hb) (hne : hb ≠ kb) : Calls Tryz.prog 43 #[ptr hb] w fun e w' => e = .returned (.tuple #[]) ∧ Freed w w' b n A s F hb K := by
  obtain ⟨c0, _, _, c3, _, c5⟩ := h.cells
  have f5 := h.unfrozen 5
  have f3 := h.unfrozen 3
  have k1 := cell_row hk 1
  have k2 := cell_row hk 2
  simp at k1 k2
  obtain ⟨W1, hW1⟩ : ∃ W1, W1 = (w.setCell ⟨hb, 5, none⟩ (.bool true)).setCell ⟨hb, 3, none⟩ (.slice none 0 0) := ⟨_, rfl⟩
  have t1 : Touch [hb] w W1 := by rw [hW1]; exact ((Touch.refl [hb] w).setCell (by simp) _).setCell (by simp) _
  have S1 : Stand W1 b n A s F := S.touch t1 (fun y hy => by simp at hy; subst hy; exact ⟨hF, hlo⟩)
  have d0 : W1.cell? ⟨hb, 0, none⟩ = some (ptr kb) := by
    obtain ⟨c, t, h0, h1, _⟩ := h.row
    have r1 : W1.heap[hb]? = some (.cells ((c.setIfInBounds 5 (.bool true)).setIfInBounds 3 (.slice none 0 0)) t (0, 0)) := by rw [hW1]; exact heap_setCell_row (heap_setCell_row h0 5 _) 3 _
    rw [cell_row r1 0]
    simpa using h1
  have d1 : W1.cell? ⟨kb, 1, none⟩ = some (ptr b.q) := (t1.cell (p := ⟨kb, 1, none⟩) (lt_of_block hk) (by simp; exact fun e => hne e.symm)).trans k1
  have d2 : W1.cell? ⟨kb, 2, none⟩ = some (.int .i64 K) := (t1.cell (p := ⟨kb, 2, none⟩) (lt_of_block hk) (by simp; exact fun e => hne e.symm)).trans k2
  have lk1 : kb < W1.heap.size := Nat.lt_of_lt_of_le (lt_of_block hk) t1.size
  have lh1 : hb < W1.heap.size := Nat.lt_of_lt_of_le h.lt t1.size
  have HG := hid (fun n => give_s (S1.quiet ((Touch.refl [] W1).drewN n)) K)
  have HF := hid (fun w' g => freed_of (w' := w') (K := K) S h hF hW1 g)
  have HE := hid hW1
  have HKF := hid hkF
  have HHF := hid hF
  clear S hk hkF h hF hlo S1 t1 hW1 k1 k2
  go_enter Tryz.func43, Tryz.ntmps43
  go_wp2_with fail
  rw [← HE.out]
  clear c0 c3 c5 f5 f3
  go_region_held3 (fun W => W.cell? ⟨hb, 0, none⟩ = some (ptr kb) ∧ W.cell? ⟨kb, 1, none⟩ = some (ptr b.q) ∧ W.cell? ⟨kb, 2, none⟩ = some (.int .i64 K)) (go_keep)
    (first | (go_at_call 89; refine (HG.out 1).mono ?_; rintro e w2 ⟨rfl, hg⟩; have z2 : w2.cell? ⟨hb, 0, none⟩ = some (ptr kb) ∧ w2.cell? ⟨kb, 1, none⟩ = some (ptr b.q) ∧ w2.cell? ⟨kb, 2, none⟩ = some (.int .i64 K) := (by obtain ⟨_, _, t, _⟩ := hg; exact ⟨(t.cell (p := ⟨hb, 0, none⟩) lh1 (by simp; exact HHF.out)).trans d0, (t.cell (p := ⟨kb, 1, none⟩) lk1 (by simp; exact HKF.out)).trans d1, (t.cell (p := ⟨kb, 2, none⟩) lk1 (by simp; exact HKF.out)).trans d2⟩); have HGG := hid hg; clear hg))
  go_end0
  exact ⟨rfl, HF.out _ (HGG.out.pre ((Touch.refl [] W1).drewN 1) (by simp))⟩

set_option maxRecDepth 100000 in
set_option maxHeartbeats 1000000 in
theorem release_d (S : Stand w b n A s F) (hk : DeskAt w kb b K T) (hkF : kb ∉ F) (h : HeldAt w hb kb x kind lv dead cl) (hF : hb ∉ F) (hlo : b.lo ≤ hb) (hne : hb ≠ kb) (u : FrameMode) : CallsD Tryz.prog 43 #[ptr hb] u w fun e u' w' => u' = u ∧ (e = .returned (.tuple #[]) ∧ Freed w w' b n A s F hb K) := by
  obtain ⟨c0, _, _, c3, _, c5⟩ := h.cells
  have f5 := h.unfrozen 5
  have f3 := h.unfrozen 3
  have k1 := cell_row hk 1
  have k2 := cell_row hk 2
  simp at k1 k2
  obtain ⟨W1, hW1⟩ : ∃ W1, W1 = (w.setCell ⟨hb, 5, none⟩ (.bool true)).setCell ⟨hb, 3, none⟩ (.slice none 0 0) := ⟨_, rfl⟩
  have t1 : Touch [hb] w W1 := by rw [hW1]; exact ((Touch.refl [hb] w).setCell (by simp) _).setCell (by simp) _
  have S1 : Stand W1 b n A s F := S.touch t1 (fun y hy => by simp at hy; subst hy; exact ⟨hF, hlo⟩)
  have d0 : W1.cell? ⟨hb, 0, none⟩ = some (ptr kb) := by
    obtain ⟨c, t, h0, h1, _⟩ := h.row
    have r1 : W1.heap[hb]? = some (.cells ((c.setIfInBounds 5 (.bool true)).setIfInBounds 3 (.slice none 0 0)) t (0, 0)) := by rw [hW1]; exact heap_setCell_row (heap_setCell_row h0 5 _) 3 _
    rw [cell_row r1 0]
    simpa using h1
  have d1 : W1.cell? ⟨kb, 1, none⟩ = some (ptr b.q) := (t1.cell (p := ⟨kb, 1, none⟩) (lt_of_block hk) (by simp; exact fun e => hne e.symm)).trans k1
  have d2 : W1.cell? ⟨kb, 2, none⟩ = some (.int .i64 K) := (t1.cell (p := ⟨kb, 2, none⟩) (lt_of_block hk) (by simp; exact fun e => hne e.symm)).trans k2
  have lk1 : kb < W1.heap.size := Nat.lt_of_lt_of_le (lt_of_block hk) t1.size
  have lh1 : hb < W1.heap.size := Nat.lt_of_lt_of_le h.lt t1.size
  have HG := hid (fun n => give_s (S1.quiet ((Touch.refl [] W1).drewN n)) K)
  have HF := hid (fun w' g => freed_of (w' := w') (K := K) S h hF hW1 g)
  have HE := hid hW1
  have HKF := hid hkF
  have HHF := hid hF
  clear S hk hkF h hF hlo S1 t1 hW1 k1 k2
  go_enter_d Tryz.func43, Tryz.ntmps43
  go_wp2_with fail
  rw [← HE.out]
  clear c0 c3 c5 f5 f3
  go_region_held3 (fun W => W.cell? ⟨hb, 0, none⟩ = some (ptr kb) ∧ W.cell? ⟨kb, 1, none⟩ = some (ptr b.q) ∧ W.cell? ⟨kb, 2, none⟩ = some (.int .i64 K)) (go_keep)
    (first | (go_at_call 89; refine (HG.out 1).mono ?_; rintro e w2 ⟨rfl, hg⟩; have z2 : w2.cell? ⟨hb, 0, none⟩ = some (ptr kb) ∧ w2.cell? ⟨kb, 1, none⟩ = some (ptr b.q) ∧ w2.cell? ⟨kb, 2, none⟩ = some (.int .i64 K) := (by obtain ⟨_, _, t, _⟩ := hg; exact ⟨(t.cell (p := ⟨hb, 0, none⟩) lh1 (by simp; exact HHF.out)).trans d0, (t.cell (p := ⟨kb, 1, none⟩) lk1 (by simp; exact HKF.out)).trans d1, (t.cell (p := ⟨kb, 2, none⟩) lk1 (by simp; exact HKF.out)).trans d2⟩); have HGG := hid hg; clear hg))
  go_end0
  exact ⟨rfl, HF.out _ (HGG.out.pre ((Touch.refl [] W1).drewN 1) (by simp))⟩
end
end Go.Proofs.YtclplbnildnifaaGreatDoor
/-
  Desk.Write.
-/
namespace Go.Proofs.YtclplbnildnifaaGreatDoor
open Go.RowKit Go.Deep
set_option linter.unusedSimpArgs false
set_option linter.unusedVariables false

/-- as 'Went'; N: new blocks that are none of the bench's. -/
def WentN (w w' : World) (b : Bn) (n : Nat) (A : PubA) (s : Pu.St) (F G N : List Nat) : Prop :=
  ∃ F', Stand w' b n A s F' ∧ Touch (G ++ F) w w' ∧ (∀ x ∈ F', x ∈ F ∨ w.heap.size ≤ x) ∧ ∀ y ∈ N, y ∉ F' ∧ w.heap.size ≤ y ∧ y < w'.heap.size

/-- a writer that is open: its records ws lie in the row g. -/
structure WrAt (w : World) (wb kb : Nat) (x : ByteArray) (kind : Int) (ws : List Nat) (dead : Int) (blocks count : Int) (g K : Nat) : Prop where
  row : w.heap[wb]? = some (.cells #[ptr kb, .string x, .int .i64 kind, .slice (some ⟨g, 0, none⟩) (ws.length / 4) K, .int .i64 dead, .bool false, .int .i64 blocks, .int .i64 count] 152 (0, 0))
  list : ∃ rest, Rx.WRow w g (ws ++ rest) ∧ (ws ++ rest).length = 4 * K
  few : ws.length % 4 = 0 ∧ ws.length < 4 * K
  small : ∀ y ∈ ws, y < 18446744073709551616

section
variable {w w' : World} {b : Bn} {n : Nat} {A : PubA} {s : Pu.St} {F : List Nat} {kb : Nat} {K : Nat} {T : Int}

theorem run_make_list (k : Nat) (hk : k ≤ 65536) (w : World) : (Instr.makeSlice 22 (.int .i64 0) (.int .i64 (k : Int))).run Tryz.prog w = .ok (.slice (some ⟨w.heap.size, 0, none⟩) 0 k) (w.alloc (.cells (Rx.wc (PureCrc.zeros (4 * k))) 38)) := by
  have hi := Rx.Tryz.info38
  cases h : Tryz.prog.info? 38 with
  | none => rw [h] at hi; simp at hi
  | some i =>
    rw [h] at hi
    simp only [Option.map_some, Option.some.injEq, Prod.mk.injEq] at hi
    obtain ⟨hz, hs, hb⟩ := hi
    have := run_make (P := Tryz.prog) w 22 38 i _ Tryz.underlying22 h hz .i64 .i64 0 k (by omega) (by omega) (by rw [hb]; omega) (by omega)
    rw [hs, Int.toNat_natCast, Rx.made_recs] at this
    exact this


set_option maxRecDepth 100000 in
set_option maxHeartbeats 1000000 in
theorem Write_ok (S : Stand w b n A s F) (hn : n < 1099511627776) (hk : DeskAt w kb b K T) (hkF : kb ∉ F) (hK : 1 ≤ K ∧ K ≤ 2047) (x : ByteArray) (kind : Int) (he : holdE A s K kind [] [x] = 0) (hc : (createB x (b.tr A) A).1 = 0) :
    Calls Tryz.prog 35 #[ptr kb, .string x, .int .i64 kind] w fun e w' => ∃ wb g, e = .returned (.tuple #[ptr wb, .int .i64 0]) ∧ WentN w w' b (n + 1) (createB x (b.tr A) A).2 (s.take K) F [] [wb, g] ∧ wb ≠ g ∧ WrAt w' wb kb x kind [] 0 0 0 g K := by
  obtain ⟨W0, hW0⟩ : ∃ W0, W0 = w.alloc (.cells #[.string x] 9) := ⟨_, rfl⟩
  have t0 : Touch [] w W0 := by rw [hW0]; exact (Touch.refl [] w).alloc _
  have hs : StrsAt W0 (some ⟨w.heap.size, 0, none⟩) [x] := ⟨fun k hk => by
    have : k = 0 := by simpa using hk
    subst this
    refine ⟨_, rfl, by rw [hW0]; simp, ?_⟩
    rw [hW0]
    exact cell_row (heap_alloc_new w (.cells #[.string x] 9)) 0⟩
  have H := hid (hold_any (S.quiet t0) hn (hk.touch t0 (by simp)) hkF (StrsAt.nil W0 none) hs (by simp) (by simp) (ci := 0) (co := 1) x kind)
  rw [he] at H
  unfold held0 heldV at H
  have HC : Hid (∀ W F1, Stand W b n A (s.take K) F1 → Calls Tryz.prog 78 #[ptr b.p, .string x] W fun e w' => e = .returned (.int .i64 0) ∧ Went W w' b (n + 1) (createB x (b.tr A) A).2 (s.take K) F1 []) := fun W F1 S1 => by
    have := create_s S1 hn x
    rw [hc] at this
    exact this
  have HK : Hid (∀ W, Touch F w W → W.cell? ⟨kb, 0, none⟩ = some (ptr b.p) ∧ W.cell? ⟨kb, 2, none⟩ = some (.int .i64 K)) := fun W t => ⟨by rw [cell_row (hk.touch t hkF) 0]; rfl, by rw [cell_row (hk.touch t hkF) 2]; rfl⟩
  generalize (createB x (b.tr A) A).2 = A1 at HC ⊢
  have HT := hid t0
  have HE := hid hW0
  have HS := hid S
  have HKK := hid hK
  have HKL := hid (lt_of_block hk)
  clear S hk t0 hs hW0 hc he hK
  go_enter Tryz.func35, Tryz.ntmps35
  go_wp2_with fail
  rw [← HE.out]
  go_wp2_with (first
    | (go_at_call 77; refine H.out.mono ?_; rintro e w1 (⟨h0, _⟩ | ⟨_, _, rfl, hg⟩); exact absurd rfl h0; obtain ⟨F1, S1, g1, f1⟩ := hg; have tF := (HT.out.mono (F := []) (G := F) (by simp)).trans g1 (fun y hy => .inl (by simpa using hy)); have hck := (fun o : Obj => HK.out (w1.alloc o) (tF.alloc o)); have hc0 := (fun o : Obj => (hck o).1); have HS1 := hid S1; have HG1 := hid g1; have HF1 := hid f1; have HTF := hid tF; clear S1 g1 f1 tF hck)
    | (go_at_call 78; refine (HC.out _ F1 (HS1.out.quiet ((Touch.refl [] w1).alloc _))).mono ?_; rintro e w3 ⟨rfl, hg3⟩; obtain ⟨F3, S3, g3, f3⟩ := hg3; have hl0 : w1.heap.size ∉ F1 := (fun hx => Nat.lt_irrefl _ (HS1.out.lt _ hx)); have hb3 := (g3.block w1.heap.size (by simp) (by simpa using hl0)).trans (heap_alloc_new w1 _); have HB3 := hid hb3; have c3 := (fun i => cell_row hb3 i); have u3 := (fun i => unfrozen_row hb3 i); have HS3 := hid S3; have HG3 := hid g3; have HF3 := hid f3; have tF3 : Touch F w w3 := (HTF.out.alloc _).trans g3 (fun y hy => by rcases HF1.out y (by simpa using hy) with h | h; exact .inl h; exact .inr (Nat.le_trans HT.out.size h)); have HT3 := hid tF3; have k2 := (HK.out w3 tF3).2; have hmk := run_make_list K (by have := HKK.out; omega) w3; have l3 := lt_of_block hb3; have lk3 := Nat.lt_of_lt_of_le HKL.out tF3.size; clear S3 g3 f3 hb3 hl0 tF3))
  go_ret2
  have hb1 : w1.heap.size ∉ F3 := fun hx => by
    rcases HF3.out _ hx with h | h
    · exact Nat.lt_irrefl _ (HS1.out.lt _ h)
    · rw [World.size_alloc] at h; omega
  have hlo : b.lo ≤ w1.heap.size := HS1.out.room
  have hz : (w3.setCell ⟨w1.heap.size, 3, none⟩ (.slice (some ⟨w3.heap.size, 0, none⟩) 0 K)).heap.size = w3.heap.size := by simp [World.setCell]
  have t4 : Touch [w1.heap.size] w3 (((w3.setCell ⟨w1.heap.size, 3, none⟩ (.slice (some ⟨w3.heap.size, 0, none⟩) 0 K)).alloc (.cells (Rx.wc (PureCrc.zeros (4 * K))) 38)).alloc (.cells #[ptr kb, .string x, .int .i64 kind, .slice (some ⟨w3.heap.size, 0, none⟩) 0 K, .int .i64 0, .bool false, .int .i64 0, .int .i64 0] 152)) :=
    ((((Touch.refl [w1.heap.size] w3).setCell (by simp) _).alloc _).alloc _)
  have hw1 := HTF.out.size
  have e2 := heap_two (w3.setCell ⟨w1.heap.size, 3, none⟩ (.slice (some ⟨w3.heap.size, 0, none⟩) 0 K)) (.cells (Rx.wc (PureCrc.zeros (4 * K))) 38) (.cells #[ptr kb, .string x, .int .i64 kind, .slice (some ⟨w3.heap.size, 0, none⟩) 0 K, .int .i64 0, .bool false, .int .i64 0, .int .i64 0] 152)
  rw [hz] at e2
  refine ⟨w3.heap.size + 1, w3.heap.size, rfl, ⟨F3, HS3.out.touch t4 (fun y hy => by simp at hy; subst hy; exact ⟨hb1, hlo⟩), (HT3.out.trans t4 (fun y hy => .inr (by simp at hy; omega))).mono (by simp), fun y hy => ?_, fun y hy => ?_⟩, by omega, ⟨e2.2, ⟨PureCrc.zeros (4 * K), e2.1, by simp [PureCrc.zeros]⟩, ⟨rfl, by have := HKK.out; simp; omega⟩, by simp⟩⟩
  · rcases HF3.out y hy with h | h
    · rcases HF1.out y h with h | h
      · exact .inl h
      · exact .inr (Nat.le_trans HT.out.size h)
    · exact .inr (by rw [World.size_alloc] at h; omega)
  · have hlt : ∀ z ∈ F3, z < w3.heap.size := HS3.out.lt
    simp only [List.mem_cons, List.not_mem_nil, or_false] at hy
    have h3 := HT3.out.size
    refine ⟨fun hx => ?_, ?_, ?_⟩
    · have := hlt y hx
      rcases hy with rfl | rfl <;> omega
    · rcases hy with rfl | rfl <;> omega
    · simp [World.setCell]
      rcases hy with rfl | rfl <;> omega
end
end Go.Proofs.YtclplbnildnifaaGreatDoor
/-
  Writer.flush.
-/
namespace Go.Proofs.YtclplbnildnifaaGreatDoor
open Go.RowKit Go.Deep
set_option linter.unusedSimpArgs false
set_option linter.unusedVariables false

/-- numbers as bytes. -/
def bytesU (l : List Nat) : List UInt8 := l.map UInt8.ofNat
theorem bytesU_length (l : List Nat) : (bytesU l).length = l.length := by simp [bytesU]
theorem bytesU_cells {l : List Nat} (h : ∀ y ∈ l, y < 256) : Rx.bc l = (Lib.byteCells (bytesU l)).toArray := by
  unfold Rx.bc Lib.byteCells bytesU
  rw [List.map_map]
  congr 1
  refine List.map_congr_left fun y hy => ?_
  have := h y hy
  simp
  omega
/-- a block with the records ws. -/
def encU (kind place : Nat) (ws : List Nat) (B : Nat) : List UInt8 := bytesU (PureCrc.enc kind place (ws.length / 4) ws B)

/-- what the bench's disk is made of. -/
structure Fits (A : PubA) (K : Nat) : Prop where
  h64 : 64 ≤ A.B
  hmax : A.B ≤ 65536
  h32 : A.B % 32 = 0
  k : K = A.B / 32 - 1

section
variable {w w' : World} {b : Bn} {n : Nat} {A : PubA} {s : Pu.St} {F : List Nat} {kb wb g : Nat} {K : Nat} {T : Int} {x : ByteArray}

/-- what flush reads of the writer and its desk. -/
abbrev WrC (W : World) (wb kb : Nat) (b : Bn) (x : ByteArray) (kind : Nat) (g m K blocks : Nat) : Prop := W.cell? ⟨wb, 0, none⟩ = some (ptr kb) ∧ W.cell? ⟨wb, 1, none⟩ = some (.string x) ∧ W.cell? ⟨wb, 2, none⟩ = some (.int .i64 (kind : Int)) ∧ W.cell? ⟨wb, 3, none⟩ = some (.slice (some ⟨g, 0, none⟩) m K) ∧ W.cell? ⟨wb, 6, none⟩ = some (.int .i64 (blocks : Int)) ∧ W.cell? ⟨kb, 0, none⟩ = some (ptr b.p)
theorem WrC.touch {kind m blocks : Nat} {G : List Nat} (h : WrC w wb kb b x kind g m K blocks) (t : Touch G w w') (h1 : wb < w.heap.size) (h2 : kb < w.heap.size) (h3 : wb ∉ G) (h4 : kb ∉ G) : WrC w' wb kb b x kind g m K blocks :=
  ⟨(t.cell (p := ⟨wb, 0, none⟩) h1 h3).trans h.1, (t.cell (p := ⟨wb, 1, none⟩) h1 h3).trans h.2.1, (t.cell (p := ⟨wb, 2, none⟩) h1 h3).trans h.2.2.1, (t.cell (p := ⟨wb, 3, none⟩) h1 h3).trans h.2.2.2.1, (t.cell (p := ⟨wb, 6, none⟩) h1 h3).trans h.2.2.2.2.1, (t.cell (p := ⟨kb, 0, none⟩) h2 h4).trans h.2.2.2.2.2⟩

abbrev wrow (kb : Nat) (x : ByteArray) (kind : Nat) (g m K : Nat) (dead : Int) (blocks : Nat) (count : Int) : Array Value := #[ptr kb, .string x, .int .i64 (kind : Int), .slice (some ⟨g, 0, none⟩) m K, .int .i64 dead, .bool false, .int .i64 (blocks : Int), .int .i64 count]

set_option maxRecDepth 100000 in
set_option maxHeartbeats 1000000 in
theorem flush_any (S : Stand w b n A s F) (hn : n < 1099511627776) (hA : Fits A K) (hk : DeskAt w kb b K T) (hkF : kb ∉ F) {kind blocks m : Nat} {dead count : Int} (hrow : w.heap[wb]? = some (.cells (wrow kb x kind g m K dead blocks count) 152 (0, 0))) (hwF : wb ∉ F) (hlo : b.lo ≤ wb) (hne : wb ≠ kb)
    {ws : List Nat} (hws : Rx.Wd w g 0 ws) (hg : g < w.heap.size) (hgF : g ∉ F) (hgw : g ≠ wb) (hl : ws.length = 4 * m) (hm1 : 1 ≤ m) (hm2 : m ≤ K) (hsm : ∀ y ∈ ws, y < 18446744073709551616) (hk1 : 1 ≤ kind) (hk2 : kind ≤ 5) (hb : blocks < 1099511627776) :
    Calls Tryz.prog 80 #[ptr wb] w fun e w' => e = .returned (.int .i64 (appendB x (encU kind blocks ws A.B) (b.tr A) A).1) ∧
      Went w w' b (n + 1) (appendB x (encU kind blocks ws A.B) (b.tr A) A).2 s F [wb] ∧
      w'.heap[wb]? = some (.cells (if (appendB x (encU kind blocks ws A.B) (b.tr A) A).1 = 0 then wrow kb x kind g 0 K dead (blocks + 1) count else wrow kb x kind g m K dead blocks count) 152 (0, 0)) := by
  have HB : Hid (∀ W, Touch [] w W → Calls Tryz.prog 9 #[ptr b.p] W fun e w' => e = .returned (.int .i64 (A.B : Int)) ∧ w' = W) := fun W t => block_s (S.quiet t)
  have hB := hA.k
  have h64 := hA.h64
  have hmax := hA.hmax
  have h32 := hA.h32
  have HEn : Hid (∀ W, Touch [] w W → Calls Tryz.prog 143 #[.int .i64 (kind : Int), .int .i64 (blocks : Int), .slice (some ⟨g, 0, none⟩) m K, .int .i64 (A.B : Int)] W fun e w' => ∃ g', e = .returned (.tuple #[.slice (some ⟨g', 0, none⟩) A.B A.B, .int .i64 0]) ∧ BytesAt w' g' (encU kind blocks ws A.B) ∧ Touch [] W w' ∧ W.heap.size ≤ g') := fun W t => by
    refine (Rx.encode_ok kind blocks m A.B ws g 0 K W (hws.touch t hg (by simp)) hl (Nat.lt_of_lt_of_le hg t.size) hsm hk1 (by omega) (by omega) h64 hmax h32 hm1 (by omega)).mono fun e w' ⟨g', e1, e2, e3, e4⟩ => ⟨g', e1, ?_, e3, e4⟩
    have hd : ws.length / 4 = m := by omega
    unfold BytesAt encU
    rw [hd, ← bytesU_cells (PureCrc.enc_lt (by omega))]
    exact e2
  have hlen : (encU kind blocks ws A.B).length = A.B := by
    unfold encU
    rw [bytesU_length, PureCrc.enc_length (by omega)]
  generalize encU kind blocks ws A.B = bl at HEn hlen ⊢
  have HAp : Hid (∀ W g', Touch [] w W → BytesAt W g' bl → w.heap.size ≤ g' → Calls Tryz.prog 144 #[ptr b.p, .string x, .slice (some ⟨g', 0, none⟩) A.B A.B] W fun e w' => e = .returned (.int .i64 (appendB x bl (b.tr A) A).1) ∧ Went W w' b (n + 1) (appendB x bl (b.tr A) A).2 s F []) := fun W g' t hby hg' => by
    have := append_s (S.quiet t) hn x hby (fun hx => by have := S.lt g' hx; omega)
    rw [hlen] at this
    exact this
  generalize (appendB x bl (b.tr A) A).1 = r1 at HAp ⊢
  generalize (appendB x bl (b.tr A) A).2 = A1 at HAp ⊢
  have c := fun i => cell_row hrow i
  have u := fun i => unfrozen_row hrow i
  have k0 := cell_row hk 0
  simp at k0
  have HS := hid S
  have HR := hid hrow
  have HK := hid hk
  have HF := hid (And.intro hwF (And.intro hkF (And.intro hlo hne)))
  have lw := lt_of_block hrow
  have lk := lt_of_block hk
  have c0 := c 0
  have c1 := c 1
  have c2 := c 2
  have c3 := c 3
  have c6 := c 6
  simp only [List.getElem?_toArray, List.getElem?_cons_zero, List.getElem?_cons_succ] at c0 c1 c2 c3 c6
  have HC := hid (show WrC w wb kb b x kind g m K blocks from ⟨c0, c1, c2, c3, c6, k0⟩)
  clear S hrow hk hwF hkF hlo hne hws hA hB h64 hmax h32 hl hm1 hm2 hsm hk1 hk2 hlen hgw hgF c
  go_enter Tryz.func80, Tryz.ntmps80
  go_wp2
  go_region_held3 (fun W => W.cell? ⟨wb, 0, none⟩ = some (ptr kb) ∧ W.cell? ⟨wb, 1, none⟩ = some (.string x) ∧ W.cell? ⟨wb, 2, none⟩ = some (.int .i64 (kind : Int)) ∧ W.cell? ⟨wb, 3, none⟩ = some (.slice (some ⟨g, 0, none⟩) m K) ∧ W.cell? ⟨wb, 6, none⟩ = some (.int .i64 (blocks : Int)) ∧ W.cell? ⟨kb, 0, none⟩ = some (ptr b.p)) (go_keep)
    (first
      | (go_at_call 9; refine (HB.out _ ((Touch.refl [] w).drew)).mono ?_; rintro e w1 ⟨rfl, rfl⟩)
      | (go_at_call 143; refine (HEn.out _ ((Touch.refl [] w).drew)).mono ?_; rintro e w2 ⟨g', rfl, hby, ht2, hg'⟩; have z2 : w2.cell? ⟨wb, 0, none⟩ = some (ptr kb) ∧ w2.cell? ⟨wb, 1, none⟩ = some (.string x) ∧ w2.cell? ⟨wb, 2, none⟩ = some (.int .i64 (kind : Int)) ∧ w2.cell? ⟨wb, 3, none⟩ = some (.slice (some ⟨g, 0, none⟩) m K) ∧ w2.cell? ⟨wb, 6, none⟩ = some (.int .i64 (blocks : Int)) ∧ w2.cell? ⟨kb, 0, none⟩ = some (ptr b.p) := HC.out.touch (((Touch.refl [] w).drew).trans ht2 (by simp)) lw lk (by simp) (by simp); have HZ2 := hid z2; have HT2 := hid (((Touch.refl [] w).drew).trans ht2 (by simp)); have HBY := hid hby; have HG' := hid hg'; clear hby ht2 hg'))
  clear c0 c1 c2 c3 c6 k0 u
  obtain ⟨d0, d1, d2, d3, d6, dk⟩ := HZ2.out
  have lw2 : wb < w2.heap.size := Nat.lt_of_lt_of_le lw HT2.out.size
  have lk2 : kb < w2.heap.size := Nat.lt_of_lt_of_le lk HT2.out.size
  have hgs : w.heap.size ≤ g' := Nat.le_trans (Nat.le_refl _) HG'.out
  go_wp2
  go_region_held3 (fun W => W.cell? ⟨wb, 0, none⟩ = some (ptr kb) ∧ W.cell? ⟨wb, 1, none⟩ = some (.string x) ∧ W.cell? ⟨kb, 0, none⟩ = some (ptr b.p)) (go_keep)
    (first
      | (go_at_call 144; refine (HAp.out _ g' HT2.out.drew HBY.out hgs).mono ?_; rintro e w3 ⟨rfl, hg3⟩; obtain ⟨F3, S3, g3, f3⟩ := hg3; have z3 : w3.cell? ⟨wb, 0, none⟩ = some (ptr kb) ∧ w3.cell? ⟨wb, 1, none⟩ = some (.string x) ∧ w3.cell? ⟨kb, 0, none⟩ = some (ptr b.p) := ⟨(g3.cell (p := ⟨wb, 0, none⟩) lw2 (by simpa using HF.out.1)).trans d0, (g3.cell (p := ⟨wb, 1, none⟩) lw2 (by simpa using HF.out.1)).trans d1, (g3.cell (p := ⟨kb, 0, none⟩) lk2 (by simpa using HF.out.2.1)).trans dk⟩; have HS3 := hid S3; have HG3 := hid g3; have HF3 := hid f3; clear S3 g3 f3))
  have h3 : w3.heap[wb]? = some (.cells (wrow kb x kind g m K dead blocks count) 152 (0, 0)) := (HG3.out.block wb lw2 (by simpa using HF.out.1)).trans ((HT2.out.block wb lw (by simp)).trans HR.out)
  have t3 : Touch F w w3 := (HT2.out.drew.mono (by simp)).trans HG3.out (fun y hy => .inl (by simpa using hy))
  have H3 := hid h3
  have HT3 := hid t3
  have hw : IntKind.i64.wrap ((blocks : Int) + 1) = ((blocks + 1 : Nat) : Int) := by rw [IntKind.wrap_i64]; omega
  have HW3 : Hid (Went w w3 b (n + 1) A1 s F []) := ⟨F3, HS3.out, t3.mono (by simp), fun y hy => by
    rcases HF3.out y hy with h | h
    · exact .inl h
    · exact .inr (Nat.le_trans HT2.out.size h)⟩
  clear t3
  by_cases hr : r1 = 0
  · subst hr
    have c := fun i => cell_row h3 i
    have u := fun i => unfrozen_row h3 i
    clear h3 d0 d1 d2 d3 d6 dk
    go_wp2
    go_ret
    refine ⟨rfl, HW3.out.own (B := [wb]) (((Touch.refl [wb] w3).setCell (by simp) _).setCell (by simp) _) (fun y hy => by simp at hy; subst hy; exact ⟨by simp, HF.out.1, lw, HF.out.2.2.1⟩) (by simp), ?_⟩
    exact (heap_setCell_row (heap_setCell_row H3.out 6 _) 3 _).trans (by simp)
  · clear h3 d0 d1 d2 d3 d6 dk
    go_wp2
    go_ret
    exact ⟨rfl, HW3.out.mono (by simp), H3.out⟩
end
end Go.Proofs.YtclplbnildnifaaGreatDoor
/-
  Writer.Put.
-/
namespace Go.Proofs.YtclplbnildnifaaGreatDoor
open Go.RowKit Go.Deep
set_option linter.unusedSimpArgs false
set_option linter.unusedVariables false

/-- a record as a value. -/
abbrev recV (r0 r1 r2 r3 : Nat) : Value := .agg #[.int .u64 (r0 : Int), .int .u64 (r1 : Int), .int .u64 (r2 : Int), .int .u64 (r3 : Int)]
abbrev recL (r0 r1 r2 r3 : Nat) : List Value := [.int .u64 (r0 : Int), .int .u64 (r1 : Int), .int .u64 (r2 : Int), .int .u64 (r3 : Int)]

theorem put4 {w : World} {g o : Nat} {l : List Nat} (h : Rx.WRow w g l) (r0 r1 r2 r3 : Nat) : Rx.WRow (w.setCells g o (recL r0 r1 r2 r3)) g ((((l.set o r0).set (o + 1) r1).set (o + 1 + 1) r2).set (o + 1 + 1 + 1) r3) :=
  (((h.set o r0).set (o + 1) r1).set (o + 1 + 1) r2).set (o + 1 + 1 + 1) r3
theorem set4 {ws rest : List Nat} {m : Nat} (h : ws.length = 4 * m) (hr : 4 ≤ rest.length) (r0 r1 r2 r3 : Nat) : ((((ws ++ rest).set (m * 4) r0).set (m * 4 + 1) r1).set (m * 4 + 1 + 1) r2).set (m * 4 + 1 + 1 + 1) r3 = (ws ++ [r0, r1, r2, r3]) ++ rest.drop 4 := by
  match rest, hr with
  | a :: b :: c :: d :: t, _ =>
    rw [List.set_append_right _ _ (by omega), List.set_append_right _ _ (by omega), List.set_append_right _ _ (by omega), List.set_append_right _ _ (by omega)]
    have e0 : m * 4 - ws.length = 0 := by omega
    have e1 : m * 4 + 1 - ws.length = 1 := by omega
    have e2 : m * 4 + 1 + 1 - ws.length = 2 := by omega
    have e3 : m * 4 + 1 + 1 + 1 - ws.length = 3 := by omega
    rw [e0, e1, e2, e3]
    simp
theorem touch_cells {F : List Nat} {w : World} {g o : Nat} (hg : g ∈ F) (r0 r1 r2 r3 : Nat) : Touch F w (w.setCells g o (recL r0 r1 r2 r3)) :=
  ((((Touch.refl F w).setCell (p := ⟨g, o, none⟩) (.inl hg) _).setCell (p := ⟨g, o + 1, none⟩) (.inl hg) _).setCell (p := ⟨g, o + 1 + 1, none⟩) (.inl hg) _).setCell (p := ⟨g, o + 1 + 1 + 1, none⟩) (.inl hg) _

section
variable {w w' : World} {b : Bn} {n : Nat} {A : PubA} {s : Pu.St} {F : List Nat} {kb wb g : Nat} {K : Nat} {T : Int} {x : ByteArray}

set_option maxRecDepth 100000 in
set_option maxHeartbeats 8000000 in
theorem Put_room (hk : DeskAt w kb b K T) {kind blocks m count : Nat} (hrow : w.heap[wb]? = some (.cells (wrow kb x kind g m K 0 blocks count) 152 (0, 0))) (hne : wb ≠ kb)
    {ws rest : List Nat} (hws : Rx.WRow w g (ws ++ rest)) (hgw : g ≠ wb) (hkg : kb ≠ g) (hl : ws.length = 4 * m) (hr : rest.length + 4 * m = 4 * K) (hm : m + 1 < K) (hc : count < 1099511627776) (r0 r1 r2 r3 : Nat) :
    Calls Tryz.prog 36 #[ptr wb, recV r0 r1 r2 r3] w fun e w' => e = .returned (.int .i64 0) ∧ Touch [wb, g] w w' ∧ w'.heap[wb]? = some (.cells (wrow kb x kind g (m + 1) K 0 blocks ((count + 1 : Nat) : Int)) 152 (0, 0)) ∧ Rx.WRow w' g ((ws ++ [r0, r1, r2, r3]) ++ rest.drop 4) := by
  obtain ⟨W, hW⟩ : ∃ W, W = w.alloc (.cells #[.int .u64 (r0 : Int), .int .u64 (r1 : Int), .int .u64 (r2 : Int), .int .u64 (r3 : Int)] 38) := ⟨_, rfl⟩
  have t0 : Touch [] w W := by rw [hW]; exact (Touch.refl [] w).alloc _
  have hb : W.heap[w.heap.size]? = some (.cells #[.int .u64 (r0 : Int), .int .u64 (r1 : Int), .int .u64 (r2 : Int), .int .u64 (r3 : Int)] 38) := by rw [hW]; exact heap_alloc_new w _
  have hrowW := (t0.block wb (lt_of_block hrow) (by simp)).trans hrow
  have hwsW : Rx.WRow W g (ws ++ rest) := (t0.block g (lt_of_block hws) (by simp)).trans hws
  have hkW := hk.touch t0 (by simp)
  have HH : HeldAt W wb kb x (kind : Int) (.slice (some ⟨g, 0, none⟩) m K) 0 false := ⟨_, _, hrowW, rfl, rfl, rfl, rfl, rfl, rfl⟩
  have HRf := hid (refusal_any HH)
  simp only [Bool.false_eq_true, if_false] at HRf
  have c := fun i => cell_row hrowW i
  have c3 := c 3
  have c7 := c 7
  have c0 := c 0
  simp only [List.getElem?_toArray, List.getElem?_cons_zero, List.getElem?_cons_succ] at c0 c3 c7
  have u := fun i => unfrozen_row hrowW i
  have q := fun i => cell_row hb i
  have k2 := cell_row hkW 2
  simp at k2
  have HT0 := hid t0
  have HK2 := hid k2
  have HKG : Hid (kb ≠ g) := hkg
  have HE := hid hW
  have HRW := hid hrowW
  have HWS := hid hwsW
  have hlw := lt_of_block hrowW
  have hlg := lt_of_block hwsW
  have hlk := lt_of_block hkW
  have hlb := lt_of_block hb
  have HL := hid hl
  have HR := hid hr
  have hwr : IntKind.i64.wrap ((count : Int) + 1) = ((count + 1 : Nat) : Int) := by rw [IntKind.wrap_i64]; omega
  clear hk hrow hws t0 hb hrowW hwsW hkW HH c hl hr hW
  go_enter Tryz.func36, Tryz.ntmps36
  go_wp2_with fail
  rw [← HE.out]
  go_wp2_with (go_at_call 79; refine HRf.out.mono ?_; rintro e w1 ⟨rfl, hh⟩; have hh := hh.symm; subst hh)
  obtain ⟨i0, hi0, hz0⟩ := Option.map_eq_some_iff.1 Rx.Tryz.info38
  have hz1 : i0.size = 4 := (congrArg (fun t => t.2.1) hz0 : _)
  obtain ⟨WA, hWA⟩ : ∃ WA, WA = (W.alloc (.cells #[.int .u64 (r0 : Int), .int .u64 (r1 : Int), .int .u64 (r2 : Int), .int .u64 (r3 : Int)] 38)).drew := ⟨_, rfl⟩
  have tA : Touch [] W WA := by rw [hWA]; exact ((Touch.refl [] W).alloc _).drew
  have hbA : WA.heap[W.heap.size]? = some (.cells #[.int .u64 (r0 : Int), .int .u64 (r1 : Int), .int .u64 (r2 : Int), .int .u64 (r3 : Int)] 38) := by rw [hWA]; exact heap_alloc_new W _
  have hwsA : Rx.WRow WA g (ws ++ rest) := (tA.block g hlg (by simp)).trans HWS.out
  have s1 : Hid (∀ (j : Nat) (u : Value), (recL r0 r1 r2 r3)[j]? = some u → WA.cell? ((⟨W.heap.size, 0, none⟩ : Addr).add j) = some u) := fun j u hj => by
    have e : (⟨W.heap.size, 0, none⟩ : Addr).add j = ⟨W.heap.size, j, none⟩ := by unfold Addr.add; split <;> simp_all
    rw [e, cell_row hbA j]
    simpa using hj
  have s3 : Hid (∀ j : Nat, j < (recL r0 r1 r2 r3).length → (WA.cell? ⟨g, 0 + m * 4 + j, none⟩).isSome = true ∧ WA.frozen? ⟨g, 0 + m * 4 + j, none⟩ = false) := fun j hj => by
    refine ⟨?_, unfrozen_row hwsA _⟩
    rw [cell_row hwsA, Rx.wc_get]
    have h4 : 0 + m * 4 + j < (ws ++ rest).length := by rw [List.length_append, HL.out]; have := HR.out; simp at hj; omega
    rw [List.getElem?_eq_getElem h4]
    rfl
  have s2 : Hid (∀ u ∈ recL r0 r1 r2 r3, u.oneCell' = true) := fun u hu => by
    simp only [recL, List.mem_cons, List.not_mem_nil, or_false] at hu
    rcases hu with rfl | rfl | rfl | rfl <;> rfl
  have tC : Touch [g] W (WA.setCells g (m * 4) (recL r0 r1 r2 r3)) := Touch.trans (F := [g]) (G := [g]) (tA.mono (by simp)) (touch_cells (by simp) r0 r1 r2 r3) (fun y hy => .inl hy)
  have hrowC : (WA.setCells g (m * 4) (recL r0 r1 r2 r3)).heap[wb]? = some (.cells (wrow kb x kind g m K 0 blocks count) 152 (0, 0)) := (tC.block wb hlw (by simpa using fun e => hgw e.symm)).trans HRW.out
  have e3 : (WA.setCells g (m * 4) (recL r0 r1 r2 r3)).cell? ⟨wb, 3, none⟩ = some (.slice (some ⟨g, 0, none⟩) m K) := by rw [cell_row hrowC 3]; rfl
  have v3 : (WA.setCells g (m * 4) (recL r0 r1 r2 r3)).frozen? ⟨wb, 3, none⟩ = false := unfrozen_row hrowC 3
  have HWA := hid hWA
  have HRC := hid hrowC
  have HTC := hid tC
  have HSA := hid hwsA
  rw [hWA] at e3 v3
  clear hWA tA hbA hrowC tC hwsA
  obtain ⟨WD, hWD⟩ : ∃ WD, WD = (WA.setCells g (m * 4) (recL r0 r1 r2 r3)).setCell ⟨wb, 3, none⟩ (.slice (some ⟨g, 0, none⟩) (m + 1) K) := ⟨_, rfl⟩
  have hrowD : WD.heap[wb]? = some (.cells (wrow kb x kind g (m + 1) K 0 blocks count) 152 (0, 0)) := by rw [hWD]; exact (heap_setCell_row HRC.out 3 _).trans (by simp)
  have tD : Touch [wb, g] W WD := by rw [hWD]; exact (HTC.out.mono (by simp)).setCell (by simp) _
  have k2D : WD.cell? ⟨kb, 2, none⟩ = some (.int .i64 (K : Int)) := (tD.cell (p := ⟨kb, 2, none⟩) hlk (by simp; exact ⟨fun e => hne e.symm, HKG.out⟩)).trans HK2.out
  have hlsD : Rx.WRow WD g ((ws ++ [r0, r1, r2, r3]) ++ rest.drop 4) := by
    have h1 := put4 (o := m * 4) HSA.out r0 r1 r2 r3
    rw [set4 HL.out (by have := HR.out; omega)] at h1
    rw [hWD]
    exact (Below.heap_setCell _ _ _ g hgw).trans h1
  have HRD := hid hrowD
  have HTD := hid tD
  have HKD := hid k2D
  have HLD := hid hlsD
  have HWD := hid hWD
  clear hrowD tD k2D hlsD hWD
  go_cut [] (fun wx => wx = WD)
  case first =>
    go_region_law (first
      | (refine step_append_room rfl (.tmp 26) (.tmp 28) 22 rfl 38 i0 4 Tryz.underlying22 hi0 hz1 g 0 m K rfl ⟨W.heap.size, 0, none⟩ 1 1 (recL r0 r1 r2 r3) rfl rfl (by first | (rw [← HWA.out]; exact s1.out) | (intro j u hj; have := s1.out j u hj; rw [HWA.out] at this; exact this)) s2.out (by omega) (by first | (rw [← HWA.out]; exact s3.out) | (intro j hj; have := s3.out j hj; rw [HWA.out] at this; exact this)) ?_)
      | go_simp)
    all_goals
      go_wp2_with fail
      go_meet
      rw [HWD.out, HWA.out]
  case rest =>
    have hcut := hcut.symm
    subst hcut
    clear e3 v3 c0 c3 c7 u k2 q s1 s2 s3
    have d := fun i => cell_row HRD.out i
    have d0 := d 0
    have d3 := d 3
    have d7 := d 7
    simp only [List.getElem?_toArray, List.getElem?_cons_zero, List.getElem?_cons_succ] at d0 d3 d7
    have u := fun i => unfrozen_row HRD.out i
    have k2 := HKD.out
    have hdec : ¬ ((m : Int) + 1 = (K : Int)) := by omega
    clear d
    go_wp2
    go_quiet (fail)
    go_wp2
    go_ret
    refine ⟨rfl, ?_, ?_, ?_⟩
    · exact (((HT0.out.mono (by simp)).trans HTD.out (fun y hy => .inl hy)).drewN _).setCell (by simp) _
    · exact (heap_setCell_row (w := WD.drewN nq) HRD.out 7 _).trans (by simp)
    · exact (Below.heap_setCell _ _ _ g hgw).trans HLD.out
end
end Go.Proofs.YtclplbnildnifaaGreatDoor
/-
  Writer.Put, a block that is full.
-/
namespace Go.Proofs.YtclplbnildnifaaGreatDoor
open Go.RowKit Go.Deep
set_option linter.unusedSimpArgs false
set_option linter.unusedVariables false

section
variable {w w' : World} {b : Bn} {n : Nat} {A : PubA} {s : Pu.St} {F : List Nat} {kb wb g : Nat} {K : Nat} {T : Int} {x : ByteArray}

set_option maxRecDepth 100000 in
set_option maxHeartbeats 8000000 in
theorem Put_full {kind blocks m count r0 r1 r2 r3 : Nat} {ws rest : List Nat} (S : Stand w b n A s F) (hn : n < 1099511627776) (hA : Fits A K) (hkF : kb ∉ F) (hwF : wb ∉ F) (hgF : g ∉ F) (hlo : b.lo ≤ wb) (hglo : b.lo ≤ g) (hk1 : 1 ≤ kind) (hk2 : kind ≤ 5) (hbl : blocks < 1099511627776) (hsm : ∀ y ∈ ws, y < 18446744073709551616) (hrr : r0 < 18446744073709551616 ∧ r1 < 18446744073709551616 ∧ r2 < 18446744073709551616 ∧ r3 < 18446744073709551616) (ha : (appendB x (encU kind blocks (ws ++ [r0, r1, r2, r3]) A.B) (b.tr A) A).1 = 0) (hk : DeskAt w kb b K T) (hrow : w.heap[wb]? = some (.cells (wrow kb x kind g m K 0 blocks count) 152 (0, 0))) (hne : wb ≠ kb)
    (hws : Rx.WRow w g (ws ++ rest)) (hgw : g ≠ wb) (hkg : kb ≠ g) (hl : ws.length = 4 * m) (hr : rest.length + 4 * m = 4 * K) (hm : m + 1 = K) (hc : count < 1099511627776) :
    Calls Tryz.prog 36 #[ptr wb, recV r0 r1 r2 r3] w fun e w' => e = .returned (.int .i64 0) ∧ Went w w' b (n + 1) (appendB x (encU kind blocks (ws ++ [r0, r1, r2, r3]) A.B) (b.tr A) A).2 s F [wb, g] ∧ w'.heap[wb]? = some (.cells (wrow kb x kind g 0 K 0 (blocks + 1) ((count + 1 : Nat) : Int)) 152 (0, 0)) ∧ ∃ l, Rx.WRow w' g l ∧ l.length = 4 * K := by
  obtain ⟨W, hW⟩ : ∃ W, W = w.alloc (.cells #[.int .u64 (r0 : Int), .int .u64 (r1 : Int), .int .u64 (r2 : Int), .int .u64 (r3 : Int)] 38) := ⟨_, rfl⟩
  have t0 : Touch [] w W := by rw [hW]; exact (Touch.refl [] w).alloc _
  have hb : W.heap[w.heap.size]? = some (.cells #[.int .u64 (r0 : Int), .int .u64 (r1 : Int), .int .u64 (r2 : Int), .int .u64 (r3 : Int)] 38) := by rw [hW]; exact heap_alloc_new w _
  have hrowW := (t0.block wb (lt_of_block hrow) (by simp)).trans hrow
  have hwsW : Rx.WRow W g (ws ++ rest) := (t0.block g (lt_of_block hws) (by simp)).trans hws
  have hkW := hk.touch t0 (by simp)
  have HH : HeldAt W wb kb x (kind : Int) (.slice (some ⟨g, 0, none⟩) m K) 0 false := ⟨_, _, hrowW, rfl, rfl, rfl, rfl, rfl, rfl⟩
  have HRf := hid (refusal_any HH)
  simp only [Bool.false_eq_true, if_false] at HRf
  have c := fun i => cell_row hrowW i
  have c3 := c 3
  have c7 := c 7
  have c0 := c 0
  simp only [List.getElem?_toArray, List.getElem?_cons_zero, List.getElem?_cons_succ] at c0 c3 c7
  have u := fun i => unfrozen_row hrowW i
  have q := fun i => cell_row hb i
  have k2 := cell_row hkW 2
  simp at k2
  have HT0 := hid t0
  have HK2 := hid k2
  have HKG : Hid (kb ≠ g) := hkg
  have HE := hid hW
  have HRW := hid hrowW
  have HWS := hid hwsW
  have hlw := lt_of_block hrowW
  have hlg := lt_of_block hwsW
  have hlk := lt_of_block hkW
  have hlb := lt_of_block hb
  have HL := hid hl
  have HR := hid hr
  have hwr : IntKind.i64.wrap ((count : Int) + 1) = ((count + 1 : Nat) : Int) := by rw [IntKind.wrap_i64]; omega
  have HFL : Hid (∀ W', Touch [wb, g] w W' → W'.heap[wb]? = some (.cells (wrow kb x kind g (m + 1) K 0 blocks count) 152 (0, 0)) → Rx.WRow W' g ((ws ++ [r0, r1, r2, r3]) ++ rest.drop 4) → Calls Tryz.prog 80 #[ptr wb] W' fun e w' => e = .returned (.int .i64 0) ∧ Went W' w' b (n + 1) (appendB x (encU kind blocks (ws ++ [r0, r1, r2, r3]) A.B) (b.tr A) A).2 s F [wb] ∧ w'.heap[wb]? = some (.cells (wrow kb x kind g 0 K 0 (blocks + 1) count) 152 (0, 0))) := fun W' t hr' hw' => by
    have hS' : Stand W' b n A s F := S.touch t (fun y hy => by simp at hy; rcases hy with rfl | rfl; exact ⟨hwF, hlo⟩; exact ⟨hgF, hglo⟩)
    have hk' : DeskAt W' kb b K T := hk.touch t (by simp; exact ⟨fun e => hne e.symm, hkg⟩)
    have hwd : Rx.Wd W' g 0 (ws ++ [r0, r1, r2, r3]) := fun i hi => by
      have := hw'.wd i (by rw [List.length_append]; omega)
      rw [List.getElem_append_left hi] at this
      exact this
    have := flush_any hS' hn hA hk' hkF hr' hwF hlo hne hwd (lt_of_block hw') hgF hgw (by simp; omega) (by omega) (by omega) (fun y hy => by
      rcases List.mem_append.1 hy with h | h
      · exact hsm y h
      · simp at h; rcases h with rfl | rfl | rfl | rfl; exact hrr.1; exact hrr.2.1; exact hrr.2.2.1; exact hrr.2.2.2) hk1 hk2 hbl
    rw [ha, if_pos rfl] at this
    exact this
  generalize (appendB x (encU kind blocks (ws ++ [r0, r1, r2, r3]) A.B) (b.tr A) A).2 = A1 at HFL ⊢
  have HSS := hid S
  have HWG := hid (And.intro hwF hgF)
  have HLO := hid hlo
  have HLW := hid (lt_of_block hrow)
  have HLG := hid (lt_of_block hws)
  have HM := hid hm
  have hKm : m + 1 ≤ K := by omega
  clear hm
  clear S hA ha hrr hsm hbl hk1 hk2 hglo hlo hwF hgF hkF
  clear hk hrow hws t0 hb hrowW hwsW hkW HH c hl hr hW
  go_enter Tryz.func36, Tryz.ntmps36
  go_wp2_with fail
  rw [← HE.out]
  go_wp2_with (go_at_call 79; refine HRf.out.mono ?_; rintro e w1 ⟨rfl, hh⟩; have hh := hh.symm; subst hh)
  obtain ⟨i0, hi0, hz0⟩ := Option.map_eq_some_iff.1 Rx.Tryz.info38
  have hz1 : i0.size = 4 := (congrArg (fun t => t.2.1) hz0 : _)
  obtain ⟨WA, hWA⟩ : ∃ WA, WA = (W.alloc (.cells #[.int .u64 (r0 : Int), .int .u64 (r1 : Int), .int .u64 (r2 : Int), .int .u64 (r3 : Int)] 38)).drew := ⟨_, rfl⟩
  have tA : Touch [] W WA := by rw [hWA]; exact ((Touch.refl [] W).alloc _).drew
  have hbA : WA.heap[W.heap.size]? = some (.cells #[.int .u64 (r0 : Int), .int .u64 (r1 : Int), .int .u64 (r2 : Int), .int .u64 (r3 : Int)] 38) := by rw [hWA]; exact heap_alloc_new W _
  have hwsA : Rx.WRow WA g (ws ++ rest) := (tA.block g hlg (by simp)).trans HWS.out
  have s1 : Hid (∀ (j : Nat) (u : Value), (recL r0 r1 r2 r3)[j]? = some u → WA.cell? ((⟨W.heap.size, 0, none⟩ : Addr).add j) = some u) := fun j u hj => by
    have e : (⟨W.heap.size, 0, none⟩ : Addr).add j = ⟨W.heap.size, j, none⟩ := by unfold Addr.add; split <;> simp_all
    rw [e, cell_row hbA j]
    simpa using hj
  have s3 : Hid (∀ j : Nat, j < (recL r0 r1 r2 r3).length → (WA.cell? ⟨g, 0 + m * 4 + j, none⟩).isSome = true ∧ WA.frozen? ⟨g, 0 + m * 4 + j, none⟩ = false) := fun j hj => by
    refine ⟨?_, unfrozen_row hwsA _⟩
    rw [cell_row hwsA, Rx.wc_get]
    have h4 : 0 + m * 4 + j < (ws ++ rest).length := by rw [List.length_append, HL.out]; have := HR.out; simp at hj; omega
    rw [List.getElem?_eq_getElem h4]
    rfl
  have s2 : Hid (∀ u ∈ recL r0 r1 r2 r3, u.oneCell' = true) := fun u hu => by
    simp only [recL, List.mem_cons, List.not_mem_nil, or_false] at hu
    rcases hu with rfl | rfl | rfl | rfl <;> rfl
  have tC : Touch [g] W (WA.setCells g (m * 4) (recL r0 r1 r2 r3)) := Touch.trans (F := [g]) (G := [g]) (tA.mono (by simp)) (touch_cells (by simp) r0 r1 r2 r3) (fun y hy => .inl hy)
  have hrowC : (WA.setCells g (m * 4) (recL r0 r1 r2 r3)).heap[wb]? = some (.cells (wrow kb x kind g m K 0 blocks count) 152 (0, 0)) := (tC.block wb hlw (by simpa using fun e => hgw e.symm)).trans HRW.out
  have e3 : (WA.setCells g (m * 4) (recL r0 r1 r2 r3)).cell? ⟨wb, 3, none⟩ = some (.slice (some ⟨g, 0, none⟩) m K) := by rw [cell_row hrowC 3]; rfl
  have v3 : (WA.setCells g (m * 4) (recL r0 r1 r2 r3)).frozen? ⟨wb, 3, none⟩ = false := unfrozen_row hrowC 3
  have HWA := hid hWA
  have HRC := hid hrowC
  have HTC := hid tC
  have HSA := hid hwsA
  rw [hWA] at e3 v3
  clear hWA tA hbA hrowC tC hwsA
  obtain ⟨WD, hWD⟩ : ∃ WD, WD = (WA.setCells g (m * 4) (recL r0 r1 r2 r3)).setCell ⟨wb, 3, none⟩ (.slice (some ⟨g, 0, none⟩) (m + 1) K) := ⟨_, rfl⟩
  have hrowD : WD.heap[wb]? = some (.cells (wrow kb x kind g (m + 1) K 0 blocks count) 152 (0, 0)) := by rw [hWD]; exact (heap_setCell_row HRC.out 3 _).trans (by simp)
  have tD : Touch [wb, g] W WD := by rw [hWD]; exact (HTC.out.mono (by simp)).setCell (by simp) _
  have k2D : WD.cell? ⟨kb, 2, none⟩ = some (.int .i64 (K : Int)) := (tD.cell (p := ⟨kb, 2, none⟩) hlk (by simp; exact ⟨fun e => hne e.symm, HKG.out⟩)).trans HK2.out
  have hlsD : Rx.WRow WD g ((ws ++ [r0, r1, r2, r3]) ++ rest.drop 4) := by
    have h1 := put4 (o := m * 4) HSA.out r0 r1 r2 r3
    rw [set4 HL.out (by have := HR.out; omega)] at h1
    rw [hWD]
    exact (Below.heap_setCell _ _ _ g hgw).trans h1
  have HRD := hid hrowD
  have HTD := hid tD
  have HKD := hid k2D
  have HLD := hid hlsD
  have HWD := hid hWD
  clear hrowD tD k2D hlsD hWD
  go_cut [] (fun wx => wx = WD)
  case first =>
    go_region_law (first
      | (refine step_append_room rfl (.tmp 26) (.tmp 28) 22 rfl 38 i0 4 Tryz.underlying22 hi0 hz1 g 0 m K rfl ⟨W.heap.size, 0, none⟩ 1 1 (recL r0 r1 r2 r3) rfl rfl (by first | (rw [← HWA.out]; exact s1.out) | (intro j u hj; have := s1.out j u hj; rw [HWA.out] at this; exact this)) s2.out (by omega) (by first | (rw [← HWA.out]; exact s3.out) | (intro j hj; have := s3.out j hj; rw [HWA.out] at this; exact this)) ?_)
      | go_simp)
    all_goals
      go_wp2_with fail
      go_meet
      rw [HWD.out, HWA.out]
  case rest =>
    have hcut := hcut.symm
    subst hcut
    clear e3 v3 c0 c3 c7 u k2 q s1 s2 s3
    have d := fun i => cell_row HRD.out i
    have d0 := d 0
    have d3 := d 3
    have d7 := d 7
    simp only [List.getElem?_toArray, List.getElem?_cons_zero, List.getElem?_cons_succ] at d0 d3 d7
    have u := fun i => unfrozen_row HRD.out i
    have k2 := HKD.out
    have hdec : (m : Int) + 1 = (K : Int) := by have := HM.out; omega
    clear d
    have HT1 : Hid (∀ nq, Touch [wb, g] w (WD.drewN nq)) := fun nq => ((HT0.out.mono (by simp)).trans HTD.out (fun y hy => .inl hy)).drewN _
    have HFL2 := hid (fun nq => HFL.out (WD.drewN nq) (HT1.out nq) HRD.out HLD.out)
    go_wp2
    go_quiet (fail)
    go_wp2_with (go_at_call 80; refine (HFL2.out _).mono ?_; rintro e w5 ⟨rfl, hg5, hr5⟩; have c7 := (cell_row hr5 7); simp only [List.getElem?_toArray, List.getElem?_cons_zero, List.getElem?_cons_succ] at c7; have u7 := unfrozen_row hr5 7; have HG5 := hid hg5; have HR5 := hid hr5; clear hg5 hr5)
    go_ret
    have hw1 : Went w w5 b (n + 1) A1 s F [wb, g] := Went.then (F1 := F) ((HT1.out nq).mono (by simp)) (fun y hy => .inl hy) HG5.out (by simp)
    refine ⟨rfl, hw1.own (B := [wb]) ((Touch.refl [wb] w5).setCell (by simp) _) (fun y hy => by simp at hy; subst hy; exact ⟨by simp, HWG.out.1, HLW.out, HLO.out⟩) (by simp), (heap_setCell_row HR5.out 7 _).trans (by simp), (ws ++ [r0, r1, r2, r3]) ++ rest.drop 4, ?_, ?_⟩
    · obtain ⟨_, _, t5, _⟩ := HG5.out
      refine (Below.heap_setCell _ _ _ g hgw).trans ((t5.block g (lt_of_block HLD.out) (by simp; exact ⟨hgw, HWG.out.2⟩)).trans HLD.out)
    · have h1 := HL.out
      have h2 := HR.out
      have h3 := HM.out
      simp
      omega
end
end Go.Proofs.YtclplbnildnifaaGreatDoor
/-
  Writer.Close.
-/
namespace Go.Proofs.YtclplbnildnifaaGreatDoor
open Go.RowKit Go.Deep
set_option linter.unusedSimpArgs false
set_option linter.unusedVariables false

section
variable {w w' : World} {b : Bn} {n : Nat} {A : PubA} {s : Pu.St} {F : List Nat} {kb wb g : Nat} {K : Nat} {T : Int} {x : ByteArray}

theorem Freed.went {w1 w2 : World} {A1 : PubA} {F1 : List Nat} {n1 : Nat} {G : List Nat} {k : Int} (t1 : Touch (G ++ F) w w1) (f1 : ∀ y ∈ F1, y ∈ F ∨ w.heap.size ≤ y) (h : Freed w1 w2 b n1 A1 s F1 wb k) (hG : wb ∈ G) : Went w w2 b n1 A1 (s.give k) F G :=
  Went.then t1 f1 h.2 (fun y hy => by simp at hy; subst hy; exact .inl hG)

set_option maxRecDepth 100000 in
set_option maxHeartbeats 4000000 in
theorem Close_empty (S : Stand w b n A s F) (hn : n + 1 < 1099511627776) (hk : DeskAt w kb b K T) (hkF : kb ∉ F) {kind blocks : Nat} {count : Int} (hrow : w.heap[wb]? = some (.cells (wrow kb x kind g 0 K 0 blocks count) 152 (0, 0))) (hwF : wb ∉ F) (hlo : b.lo ≤ wb) (hne : wb ≠ kb) :
    Calls Tryz.prog 38 #[ptr wb] w fun e w' => e = .returned (.int .i64 (sealB x (b.tr A) A).1) ∧ Went w w' b (n + 1) (sealB x (b.tr A) A).2 (s.give K) F [wb] := by
  have lw := lt_of_block hrow
  have lk := lt_of_block hk
  have HSE : Hid (∀ W F1, Stand W b n A s F1 → Calls Tryz.prog 83 #[ptr b.p, .string x] W fun e w' => e = .returned (.int .i64 (sealB x (b.tr A) A).1) ∧ Went W w' b (n + 1) (sealB x (b.tr A) A).2 s F1 []) := fun W F1 S1 => seal_s S1 (by omega) x
  generalize (sealB x (b.tr A) A).1 = r2 at HSE ⊢
  generalize (sealB x (b.tr A) A).2 = A2 at HSE ⊢
  have HRL : Hid (∀ W F1 c t, Stand W b (n + 1) A2 s F1 → DeskAt W kb b K T → kb ∉ F1 → wb ∉ F1 → W.heap[wb]? = some (.cells (wrow kb x kind g c K 0 t count) 152 (0, 0)) → CallsD Tryz.prog 43 #[ptr wb] .returning W fun e u' w' => u' = .returning ∧ (e = .returned (.tuple #[]) ∧ Freed W w' b (n + 1) A2 s F1 wb K)) := fun W F1 c t S1 h1 h2 h3 h4 => release_d S1 h1 h2 (x := x) (kind := (kind : Int)) (lv := .slice (some ⟨g, 0, none⟩) c K) (dead := 0) (cl := false) ⟨_, _, h4, rfl, rfl, rfl, rfl, rfl, rfl⟩ h3 hlo hne .returning
  have HS := hid S
  have HR := hid hrow
  have HK := hid hk
  have HF := hid (And.intro hwF (And.intro hkF (And.intro hlo hne)))
  have c := fun i => cell_row hrow i
  have k0 := cell_row hk 0
  simp at k0
  have c0 := c 0
  have c1 := c 1
  have c3 := c 3
  have c4 := c 4
  have c5 := c 5
  simp only [List.getElem?_toArray, List.getElem?_cons_zero, List.getElem?_cons_succ] at c0 c1 c3 c4 c5
  clear S hrow hk hwF hkF hlo hne c
  go_enter_defers Tryz.func38, Tryz.ntmps38
  go_wp2_with fail
  obtain ⟨w1, hw1⟩ : ∃ w1, w1 = w := ⟨_, rfl⟩
  rw [← hw1] at c0 c1 k0 lw lk ⊢
  have lw1 := lw
  have lk1 := lk
  have nw1 := HF.out.1
  have nk1 := HF.out.2.1
  have HS1 : Hid (Stand w1 b n A s F) := by rw [hw1]; exact HS.out
  have HT1 : Hid (Touch ([wb] ++ F) w w1) := by rw [hw1]; exact Touch.refl _ _
  have HF1 : Hid (∀ y ∈ F, y ∈ F ∨ w.heap.size ≤ y) := fun y hy => .inl hy
  have HR1 : Hid (w1.heap[wb]? = some (.cells (wrow kb x kind g 0 K 0 blocks count) 152 (0, 0))) := by rw [hw1]; exact HR.out
  have HK1 : Hid (DeskAt w1 kb b K T) := by rw [hw1]; exact HK.out
  clear hw1 c3 c4 c5
  go_region_held3 (fun W => W.cell? ⟨wb, 0, none⟩ = some (ptr kb) ∧ W.cell? ⟨wb, 1, none⟩ = some (.string x) ∧ W.cell? ⟨kb, 0, none⟩ = some (ptr b.p)) (go_keep)
    (first | (go_at_call 83; refine (HSE.out _ F (HS1.out.quiet ((Touch.refl [] w1).drew))).mono ?_; rintro e w2 ⟨rfl, hg2⟩; obtain ⟨F2, S2, t2, f2⟩ := hg2; have z2 : w2.cell? ⟨wb, 0, none⟩ = some (ptr kb) ∧ w2.cell? ⟨wb, 1, none⟩ = some (.string x) ∧ w2.cell? ⟨kb, 0, none⟩ = some (ptr b.p) := ⟨(t2.cell (p := ⟨wb, 0, none⟩) lw1 (by simpa using nw1)).trans c0, (t2.cell (p := ⟨wb, 1, none⟩) lw1 (by simpa using nw1)).trans c1, (t2.cell (p := ⟨kb, 0, none⟩) lk1 (by simpa using nk1)).trans k0⟩; have HS2 := hid S2; have HT2 := hid t2; have HF2 := hid f2; clear S2 t2 f2))
  go_wp2
  refine leaves_cons (f := 43) (args := #[ptr wb]) (by simp) (by simp [go_sem]) ?_
  have nw2 : wb ∉ F2 := fun hx => by
    rcases HF2.out _ hx with h | h
    · exact nw1 h
    · have h : w1.heap.size ≤ wb := h
      omega
  have nk2 : kb ∉ F2 := fun hx => by
    rcases HF2.out _ hx with h | h
    · exact nk1 h
    · have h : w1.heap.size ≤ kb := h
      omega
  have r2' := (HT2.out.block wb lw1 (by simpa using nw1)).trans HR1.out
  have t12 : Touch ([wb] ++ F) w w2 := HT1.out.drew.trans HT2.out (fun y hy => by
    rcases HF1.out y (by simpa using hy) with h | h
    · exact .inl (by simp [h])
    · exact .inr h)
  have f12 : ∀ y ∈ F2, y ∈ F ∨ w.heap.size ≤ y := fun y hy => by
    rcases HF2.out y hy with h | h
    · exact HF1.out y h
    · exact .inr (Nat.le_trans HT1.out.size h)
  refine (HRL.out w2 F2 0 blocks HS2.out ((show DeskAt w1.drew kb b K T from HK1.out).touch HT2.out (by simpa using nk1)) nk2 nw2 r2').mono ?_
  rintro e u' w4 ⟨rfl, rfl, hfr⟩
  refine ⟨_, results_tmp rfl _ _ _, ?_⟩
  exact ⟨rfl, Freed.went t12 f12 hfr (by simp)⟩

set_option maxRecDepth 100000 in
set_option maxHeartbeats 4000000 in
theorem Close_rest (S : Stand w b n A s F) (hn : n + 1 < 1099511627776) (hk : DeskAt w kb b K T) (hkF : kb ∉ F) {kind blocks m : Nat} {count : Int} (hrow : w.heap[wb]? = some (.cells (wrow kb x kind g m K 0 blocks count) 152 (0, 0))) (hwF : wb ∉ F) (hlo : b.lo ≤ wb) (hne : wb ≠ kb) (hA : Fits A K) {ws : List Nat} (hws : Rx.Wd w g 0 ws) (hg : g < w.heap.size) (hgF : g ∉ F) (hgw : g ≠ wb) (hl : ws.length = 4 * m) (hm1 : 1 ≤ m) (hm2 : m ≤ K) (hsm : ∀ y ∈ ws, y < 18446744073709551616) (hk1 : 1 ≤ kind) (hk2 : kind ≤ 5) (hbl : blocks < 1099511627776) (ha : (appendB x (encU kind blocks ws A.B) (b.tr A) A).1 = 0) :
    Calls Tryz.prog 38 #[ptr wb] w fun e w' => e = .returned (.int .i64 (sealB x (b.tr (appendB x (encU kind blocks ws A.B) (b.tr A) A).2) (appendB x (encU kind blocks ws A.B) (b.tr A) A).2).1) ∧ Went w w' b ((n + 1) + 1) (sealB x (b.tr (appendB x (encU kind blocks ws A.B) (b.tr A) A).2) (appendB x (encU kind blocks ws A.B) (b.tr A) A).2).2 (s.give K) F [wb] := by
  have lw := lt_of_block hrow
  have lk := lt_of_block hk
  have HFL := hid (flush_any S (by omega) hA hk hkF hrow hwF hlo hne hws hg hgF hgw hl hm1 hm2 hsm hk1 hk2 hbl)
  rw [ha, if_pos rfl] at HFL
  generalize (appendB x (encU kind blocks ws A.B) (b.tr A) A).2 = A1 at HFL ⊢
  have hgt : ((m : Nat) : Int) > 0 := by omega
  have HSE : Hid (∀ W F1, Stand W b (n + 1) A1 s F1 → Calls Tryz.prog 83 #[ptr b.p, .string x] W fun e w' => e = .returned (.int .i64 (sealB x (b.tr A1) A1).1) ∧ Went W w' b ((n + 1) + 1) (sealB x (b.tr A1) A1).2 s F1 []) := fun W F1 S1 => seal_s S1 (by omega) x
  generalize (sealB x (b.tr A1) A1).1 = r2 at HSE ⊢
  generalize (sealB x (b.tr A1) A1).2 = A2 at HSE ⊢
  have HRL : Hid (∀ W F1 c t, Stand W b ((n + 1) + 1) A2 s F1 → DeskAt W kb b K T → kb ∉ F1 → wb ∉ F1 → W.heap[wb]? = some (.cells (wrow kb x kind g c K 0 t count) 152 (0, 0)) → CallsD Tryz.prog 43 #[ptr wb] .returning W fun e u' w' => u' = .returning ∧ (e = .returned (.tuple #[]) ∧ Freed W w' b ((n + 1) + 1) A2 s F1 wb K)) := fun W F1 c t S1 h1 h2 h3 h4 => release_d S1 h1 h2 (x := x) (kind := (kind : Int)) (lv := .slice (some ⟨g, 0, none⟩) c K) (dead := 0) (cl := false) ⟨_, _, h4, rfl, rfl, rfl, rfl, rfl, rfl⟩ h3 hlo hne .returning
  have HS := hid S
  have HR := hid hrow
  have HK := hid hk
  have HF := hid (And.intro hwF (And.intro hkF (And.intro hlo hne)))
  have c := fun i => cell_row hrow i
  have k0 := cell_row hk 0
  simp at k0
  have c0 := c 0
  have c1 := c 1
  have c3 := c 3
  have c4 := c 4
  have c5 := c 5
  simp only [List.getElem?_toArray, List.getElem?_cons_zero, List.getElem?_cons_succ] at c0 c1 c3 c4 c5
  clear S hrow hk hwF hkF hlo hne c
  clear hA hws hgF hgw hl hm1 hm2 hsm hk1 hk2 ha
  go_enter_defers Tryz.func38, Tryz.ntmps38
  go_wp2_with (go_at_call 80; refine HFL.out.mono ?_; rintro e w1 ⟨rfl, hg1, hr1⟩; obtain ⟨F1, S1, t1, f1⟩ := hg1; have d0 := cell_row hr1 0; have d1 := cell_row hr1 1; simp only [List.getElem?_toArray, List.getElem?_cons_zero, List.getElem?_cons_succ] at d0 d1; have dk : w1.cell? ⟨kb, 0, none⟩ = some (ptr b.p) := (t1.cell (p := ⟨kb, 0, none⟩) lk (by simp; exact ⟨fun e => HF.out.2.2.2 e.symm, HF.out.2.1⟩)).trans k0; have HS1 := hid S1; have HT1 := hid t1; have HF1 := hid f1; have HR1 := hid hr1; clear S1 t1 f1 hr1 c0 c1 c3 c4 c5 k0)
  have lw1 : wb < w1.heap.size := Nat.lt_of_lt_of_le lw HT1.out.size
  have lk1 : kb < w1.heap.size := Nat.lt_of_lt_of_le lk HT1.out.size
  have nw1 : wb ∉ F1 := fun hx => by
    rcases HF1.out _ hx with h | h
    · exact HF.out.1 h
    · omega
  have nk1 : kb ∉ F1 := fun hx => by
    rcases HF1.out _ hx with h | h
    · exact HF.out.2.1 h
    · omega
  have HK1 : Hid (DeskAt w1 kb b K T) := HK.out.touch HT1.out (by simp; exact ⟨fun e => HF.out.2.2.2 e.symm, HF.out.2.1⟩)
  go_region_held3 (fun W => W.cell? ⟨wb, 0, none⟩ = some (ptr kb) ∧ W.cell? ⟨wb, 1, none⟩ = some (.string x) ∧ W.cell? ⟨kb, 0, none⟩ = some (ptr b.p)) (go_keep)
    (first | (go_at_call 83; refine (HSE.out _ F1 (HS1.out.quiet ((Touch.refl [] w1).drew))).mono ?_; rintro e w2 ⟨rfl, hg2⟩; obtain ⟨F2, S2, t2, f2⟩ := hg2; have z2 : w2.cell? ⟨wb, 0, none⟩ = some (ptr kb) ∧ w2.cell? ⟨wb, 1, none⟩ = some (.string x) ∧ w2.cell? ⟨kb, 0, none⟩ = some (ptr b.p) := ⟨(t2.cell (p := ⟨wb, 0, none⟩) lw1 (by simpa using nw1)).trans d0, (t2.cell (p := ⟨wb, 1, none⟩) lw1 (by simpa using nw1)).trans d1, (t2.cell (p := ⟨kb, 0, none⟩) lk1 (by simpa using nk1)).trans dk⟩; have HS2 := hid S2; have HT2 := hid t2; have HF2 := hid f2; clear S2 t2 f2))
  go_wp2
  refine leaves_cons (f := 43) (args := #[ptr wb]) (by simp) (by simp [go_sem]) ?_
  have nw2 : wb ∉ F2 := fun hx => by
    rcases HF2.out _ hx with h | h
    · exact nw1 h
    · have h : w1.heap.size ≤ wb := h
      omega
  have nk2 : kb ∉ F2 := fun hx => by
    rcases HF2.out _ hx with h | h
    · exact nk1 h
    · have h : w1.heap.size ≤ kb := h
      omega
  have r2' := (HT2.out.block wb lw1 (by simpa using nw1)).trans HR1.out
  have t12 : Touch ([wb] ++ F) w w2 := HT1.out.drew.trans HT2.out (fun y hy => by
    rcases HF1.out y (by simpa using hy) with h | h
    · exact .inl (by simp [h])
    · exact .inr h)
  have f12 : ∀ y ∈ F2, y ∈ F ∨ w.heap.size ≤ y := fun y hy => by
    rcases HF2.out y hy with h | h
    · exact HF1.out y h
    · exact .inr (Nat.le_trans HT1.out.size h)
  refine (HRL.out w2 F2 0 (blocks + 1) HS2.out ((show DeskAt w1.drew kb b K T from HK1.out).touch HT2.out (by simpa using nk1)) nk2 nw2 r2').mono ?_
  rintro e u' w4 ⟨rfl, rfl, hfr⟩
  refine ⟨_, results_tmp rfl _ _ _, ?_⟩
  exact ⟨rfl, Freed.went t12 f12 hfr (by simp)⟩

end
end Go.Proofs.YtclplbnildnifaaGreatDoor
