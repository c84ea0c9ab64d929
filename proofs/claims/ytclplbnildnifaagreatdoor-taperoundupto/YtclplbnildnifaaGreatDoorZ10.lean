import Derived.Test.YtclplbnildnifaaGreatDoorZ09
/-
  Reader.load.
-/
namespace Go.Proofs.YtclplbnildnifaaGreatDoor
open Go.RowKit Go.Deep
set_option linter.unusedSimpArgs false
set_option linter.unusedVariables false

abbrev rrow (kb : Nat) (x : ByteArray) (kind : Nat) (lv : Value) (dead : Int) (back : Bool) (blocks taken : Nat) : Array Value := #[ptr kb, .string x, .int .i64 (kind : Int), lv, .int .i64 dead, .bool false, .bool back, .int .i64 (blocks : Int), .int .i64 (taken : Int)]

section
variable {w w' : World} {b : Bn} {n : Nat} {A : PubA} {s : Pu.St} {F : List Nat} {kb rb : Nat} {K : Nat} {T : Int} {x : ByteArray}

theorem told1_some {w' : World} {m B : Nat} {bl : List UInt8} {v : Value} (h : Told1 w' m B (some bl) v) : ∃ g, v = .slice (some ⟨g, 0, none⟩) B B ∧ m ≤ g ∧ BytesAt w' g bl := by
  obtain ⟨g, h1, h2, h3⟩ := h
  exact ⟨g, h1, h2, h3.1⟩


set_option maxRecDepth 100000 in
set_option maxHeartbeats 4000000 in
theorem load_ok (S : Stand w b n A s F) (hn : n < 1099511627776) (hA : Fits A K) (hk : DeskAt w kb b K T) (hkF : kb ∉ F) {kind blocks taken i : Nat} {lv : Value} {dead : Int} (hrow : w.heap[rb]? = some (.cells (rrow kb x kind lv dead false blocks taken) 106 (0, 0))) (hrF : rb ∉ F) (hlo : b.lo ≤ rb) (hne : rb ≠ kb)
    (hpl : taken = i ∧ i < blocks) (hbl : blocks ≤ 1099511627776) (hk1 : 1 ≤ kind) (hk2 : kind ≤ 5) {bl : List UInt8} (hr : (readB x (i : Int) (b.tr A) A).1 = some bl) (hr0 : (readB x (i : Int) (b.tr A) A).2.1 = 0) (d1 : PureCrc.sumFits (numsU bl)) (d2 : PureCrc.Formed (numsU bl)) (d3 : (numsU bl).getD 5 0 = kind) (d4 : PureCrc.num (PureCrc.cut (numsU bl) 8 8) = i) {l : List Rc} (d5 : PureCrc.count (numsU bl) = l.length) (d6 : PureCrc.words (4 * PureCrc.count (numsU bl)) ((numsU bl).drop 28) = flatR l) (d7 : l.length ≤ 65536) (hfull : K ≤ l.length ∨ i + 1 = blocks) :
    Calls Tryz.prog 88 #[ptr rb] w fun e w' => e = .returned (.int .i64 0) ∧ ∃ g, WentN w w' b (n + 1) (readB x (i : Int) (b.tr A) A).2.2 s F [rb] [g] ∧ w'.heap[rb]? = some (.cells (rrow kb x kind (.slice (some ⟨g, 0, none⟩) l.length l.length) dead false blocks (taken + 1)) 106 (0, 0)) ∧ RdR w' g 0 l := by
  have hlen := S.read_len hr
  have HRD := hid (read_s S hn x (i : Int))
  have HRD2 : Hid (∀ W, Touch [] w W → Calls Tryz.prog 151 #[ptr b.p, .string x, .int .i64 (i : Int)] W fun e w' => ∃ g0, e = .returned (.tuple #[.slice (some ⟨g0, 0, none⟩) A.B A.B, .int .i64 0]) ∧ BytesAt w' g0 bl ∧ W.heap.size ≤ g0 ∧ Went W w' b (n + 1) (readB x (i : Int) (b.tr A) A).2.2 s F []) := fun W t => by
    refine (read_s (S.quiet t) hn x (i : Int)).mono fun e w' ⟨v, e1, hv, hg⟩ => ?_
    rw [hr] at hv
    rw [hr0] at e1
    obtain ⟨g0, rfl, h1, h2⟩ := told1_some hv
    exact ⟨g0, e1, h2, h1, hg⟩
  have HDC : Hid (∀ W g0, BytesAt W g0 bl → Calls Tryz.prog 152 #[.int .i64 (kind : Int), .int .i64 (i : Int), .slice (some ⟨g0, 0, none⟩) A.B A.B] W fun e' w' => ∃ g', e' = .returned (.tuple #[.slice (some ⟨g', 0, none⟩) l.length l.length, .int .i64 0]) ∧ Rx.WRow w' g' (flatR l) ∧ Touch [] W w' ∧ W.heap.size ≤ g') := fun W g0 h => by
    have := decode_yes hA h hlen (by omega) d1 d2 d3 d4
    rw [d6, d5] at this
    exact this
  generalize (readB x (i : Int) (b.tr A) A).2.2 = A1 at HRD2 ⊢
  have HS := hid S
  have HR := hid hrow
  have HK := hid hk
  have HF := hid (And.intro hrF (And.intro hkF (And.intro hlo hne)))
  have lw := lt_of_block hrow
  have lk := lt_of_block hk
  have c := fun i => cell_row hrow i
  have k0 := cell_row hk 0
  simp at k0
  have c0 := c 0
  have c1 := c 1
  have c2 := c 2
  have c6 := c 6
  have c7 := c 7
  have c8 := c 8
  simp only [List.getElem?_toArray, List.getElem?_cons_zero, List.getElem?_cons_succ] at c0 c1 c2 c6 c7 c8
  have hti : taken = i := hpl.1
  subst hti
  have HPL := hid hpl
  clear S hrow hk hrF hkF hlo hne c hlen hr hr0 hA hk1 hk2 hpl HRD d1 d2 d3 d4 d5 d6
  go_enter Tryz.func88, Tryz.ntmps88
  go_wp2_with fail
  go_region_held3 (fun W => W.cell? ⟨rb, 0, none⟩ = some (ptr kb) ∧ W.cell? ⟨rb, 1, none⟩ = some (.string x) ∧ W.cell? ⟨kb, 0, none⟩ = some (ptr b.p)) (go_keep)
    (first | (go_at_call 151; refine (HRD2.out _ ((Touch.refl [] w).drew)).mono ?_; rintro e w2 ⟨g0, rfl, hby, hg0, hg2⟩; obtain ⟨F2, S2, t2, f2⟩ := hg2; have z2 : w2.cell? ⟨rb, 0, none⟩ = some (ptr kb) ∧ w2.cell? ⟨rb, 1, none⟩ = some (.string x) ∧ w2.cell? ⟨kb, 0, none⟩ = some (ptr b.p) := ⟨(t2.cell (p := ⟨rb, 0, none⟩) lw (by simpa using HF.out.1)).trans c0, (t2.cell (p := ⟨rb, 1, none⟩) lw (by simpa using HF.out.1)).trans c1, (t2.cell (p := ⟨kb, 0, none⟩) lk (by simpa using HF.out.2.1)).trans k0⟩; have r2 := (t2.block rb lw (by simpa using HF.out.1)).trans HR.out; have q2 := cell_row r2 2; simp only [List.getElem?_toArray, List.getElem?_cons_zero, List.getElem?_cons_succ] at q2; have HS2 := hid S2; have HT2 := hid t2; have HF2 := hid f2; have HBY := hid hby; have HR2 := hid r2; clear S2 t2 f2 hby r2 c0 c1 c2 c6 c7 c8 k0))
  have tw2 : Touch F w w2 := (((Touch.refl [] w).drew).mono (by simp)).trans HT2.out (fun y hy => .inl (by simpa using hy))
  have HW2 : Hid (Went w w2 b (n + 1) A1 s F []) := ⟨F2, HS2.out, tw2.mono (by simp), HF2.out⟩
  have HTW2 := hid tw2
  clear tw2
  have lw2 : rb < w2.heap.size := lt_of_block HR2.out
  have lk2 : kb < w2.heap.size := Nat.lt_of_lt_of_le lk HTW2.out.size
  have HK2 : Hid (DeskAt w2 kb b K T) := HK.out.touch HTW2.out HF.out.2.1
  have hwt : IntKind.i64.wrap ((taken : Int) + 1) = ((taken + 1 : Nat) : Int) := by rw [IntKind.wrap_i64]; have := HPL.out; omega
  have hwb : IntKind.i64.wrap ((blocks : Int) - 1) = (blocks : Int) - 1 := by rw [IntKind.wrap_i64]; have := HPL.out; omega
  by_cases hlt : l.length < K
  · have hi : ¬ ((taken : Int) < (blocks : Int) - 1) := by omega
    go_wp2_with (first
    | (go_at_call 152; refine (HDC.out _ _ HBY.out).mono ?_; rintro e w3 ⟨g, rfl, hwr, ht3, hg3⟩; have r3 := (ht3.block rb lw2 (by simp)).trans HR2.out; have q := (fun i => cell_row r3 i); have q0 := q 0; have q3 := q 3; have q6 := q 6; have q7 := q 7; have q8 := q 8; have u3 := (fun i => unfrozen_row r3 i); have k3 := cell_row (HK2.out.touch ht3 (by simp)) 2; simp only [List.getElem?_toArray, List.getElem?_cons_zero, List.getElem?_cons_succ] at q0 q3 q6 q7 q8 k3; have HWR := hid hwr; have HT3 := hid ht3; have HG3 := hid hg3; have HR3 := hid r3; clear q hwr ht3 hg3 r3 z2 q2))
    go_ret
    have t4 : Touch [g] w2 w3 := HT3.out.mono (F := []) (G := [g]) (by simp)
    have tf : Touch [rb, g] w2 ((w3.setCell ⟨rb, 3, none⟩ (.slice (some ⟨g, 0, none⟩) l.length l.length)).setCell ⟨rb, 8, none⟩ (.int .i64 ((taken : Int) + 1))) := ((t4.mono (by simp)).setCell (by simp) _).setCell (by simp) _
    have hgs := HG3.out
    have hrb : rb < g := by omega
    have hgF : g ∉ F2 := fun hx => by have := HS2.out.lt _ hx; omega
    have hgl : g < w3.heap.size := lt_of_block HWR.out
    refine ⟨rfl, g, ⟨F2, HS2.out.touch tf (fun y hy => ?_), ?_, HF2.out, fun y hy => ?_⟩, ?_, ?_⟩
    · simp at hy
      rcases hy with rfl | rfl
      · refine ⟨fun hx => ?_, HF.out.2.2.1⟩
        rcases HF2.out _ hx with h | h
        · exact HF.out.1 h
        · have h : w.heap.size ≤ y := h
          omega
      · exact ⟨hgF, by have := HS2.out.room; omega⟩
    · refine (HTW2.out.mono (by intro y hy; simp [hy])).trans tf (fun y hy => ?_)
      simp at hy
      rcases hy with rfl | rfl
      · exact .inl (by simp)
      · exact .inr (by have := HTW2.out.size; omega)
    · simp at hy
      subst hy
      refine ⟨hgF, by have := HTW2.out.size; omega, ?_⟩
      have h9 : w3.heap.size ≤ w3.heap.size := by exact Nat.le_refl _
      simp [World.setCell]
      omega
    · exact (heap_setCell_row (heap_setCell_row HR3.out 3 _) 8 _).trans (by simp)
    · refine RdR.touch (F := [rb]) (RdR.of HWR.out) (((Touch.refl [rb] _).setCell (by simp) _).setCell (by simp) _) ?_ (by simp; omega)
      have h9 : w3.heap.size ≤ w3.heap.size := by exact Nat.le_refl _
      omega
  · go_wp2_with (first
    | (go_at_call 152; refine (HDC.out _ _ HBY.out).mono ?_; rintro e w3 ⟨g, rfl, hwr, ht3, hg3⟩; have r3 := (ht3.block rb lw2 (by simp)).trans HR2.out; have q := (fun i => cell_row r3 i); have q0 := q 0; have q3 := q 3; have q6 := q 6; have q7 := q 7; have q8 := q 8; have u3 := (fun i => unfrozen_row r3 i); have k3 := cell_row (HK2.out.touch ht3 (by simp)) 2; simp only [List.getElem?_toArray, List.getElem?_cons_zero, List.getElem?_cons_succ] at q0 q3 q6 q7 q8 k3; have HWR := hid hwr; have HT3 := hid ht3; have HG3 := hid hg3; have HR3 := hid r3; clear q hwr ht3 hg3 r3 z2 q2))
    go_ret
    have t4 : Touch [g] w2 w3 := HT3.out.mono (F := []) (G := [g]) (by simp)
    have tf : Touch [rb, g] w2 ((w3.setCell ⟨rb, 3, none⟩ (.slice (some ⟨g, 0, none⟩) l.length l.length)).setCell ⟨rb, 8, none⟩ (.int .i64 ((taken : Int) + 1))) := ((t4.mono (by simp)).setCell (by simp) _).setCell (by simp) _
    have hgs := HG3.out
    have hrb : rb < g := by omega
    have hgF : g ∉ F2 := fun hx => by have := HS2.out.lt _ hx; omega
    have hgl : g < w3.heap.size := lt_of_block HWR.out
    refine ⟨rfl, g, ⟨F2, HS2.out.touch tf (fun y hy => ?_), ?_, HF2.out, fun y hy => ?_⟩, ?_, ?_⟩
    · simp at hy
      rcases hy with rfl | rfl
      · refine ⟨fun hx => ?_, HF.out.2.2.1⟩
        rcases HF2.out _ hx with h | h
        · exact HF.out.1 h
        · have h : w.heap.size ≤ y := h
          omega
      · exact ⟨hgF, by have := HS2.out.room; omega⟩
    · refine (HTW2.out.mono (by intro y hy; simp [hy])).trans tf (fun y hy => ?_)
      simp at hy
      rcases hy with rfl | rfl
      · exact .inl (by simp)
      · exact .inr (by have := HTW2.out.size; omega)
    · simp at hy
      subst hy
      refine ⟨hgF, by have := HTW2.out.size; omega, ?_⟩
      have h9 : w3.heap.size ≤ w3.heap.size := by exact Nat.le_refl _
      simp [World.setCell]
      omega
    · exact (heap_setCell_row (heap_setCell_row HR3.out 3 _) 8 _).trans (by simp)
    · refine RdR.touch (F := [rb]) (RdR.of HWR.out) (((Touch.refl [rb] _).setCell (by simp) _).setCell (by simp) _) ?_ (by simp; omega)
      have h9 : w3.heap.size ≤ w3.heap.size := by exact Nat.le_refl _
      omega


set_option maxRecDepth 100000 in
set_option maxHeartbeats 4000000 in
theorem load_ok_back (S : Stand w b n A s F) (hn : n < 1099511627776) (hA : Fits A K) (hk : DeskAt w kb b K T) (hkF : kb ∉ F) {kind blocks taken i : Nat} {lv : Value} {dead : Int} (hrow : w.heap[rb]? = some (.cells (rrow kb x kind lv dead true blocks taken) 106 (0, 0))) (hrF : rb ∉ F) (hlo : b.lo ≤ rb) (hne : rb ≠ kb)
    (hpl : blocks = i + 1 + taken) (hbl : blocks ≤ 1099511627776) (hk1 : 1 ≤ kind) (hk2 : kind ≤ 5) {bl : List UInt8} (hr : (readB x (i : Int) (b.tr A) A).1 = some bl) (hr0 : (readB x (i : Int) (b.tr A) A).2.1 = 0) (d1 : PureCrc.sumFits (numsU bl)) (d2 : PureCrc.Formed (numsU bl)) (d3 : (numsU bl).getD 5 0 = kind) (d4 : PureCrc.num (PureCrc.cut (numsU bl) 8 8) = i) {l : List Rc} (d5 : PureCrc.count (numsU bl) = l.length) (d6 : PureCrc.words (4 * PureCrc.count (numsU bl)) ((numsU bl).drop 28) = flatR l) (d7 : l.length ≤ 65536) (hfull : K ≤ l.length ∨ i + 1 = blocks) :
    Calls Tryz.prog 88 #[ptr rb] w fun e w' => e = .returned (.int .i64 0) ∧ ∃ g, WentN w w' b (n + 1) (readB x (i : Int) (b.tr A) A).2.2 s F [rb] [g] ∧ w'.heap[rb]? = some (.cells (rrow kb x kind (.slice (some ⟨g, 0, none⟩) l.length l.length) dead true blocks (taken + 1)) 106 (0, 0)) ∧ RdR w' g 0 l.reverse := by
  have hlen := S.read_len hr
  have HRD := hid (read_s S hn x (i : Int))
  have HRD2 : Hid (∀ W, Touch [] w W → Calls Tryz.prog 151 #[ptr b.p, .string x, .int .i64 (i : Int)] W fun e w' => ∃ g0, e = .returned (.tuple #[.slice (some ⟨g0, 0, none⟩) A.B A.B, .int .i64 0]) ∧ BytesAt w' g0 bl ∧ W.heap.size ≤ g0 ∧ Went W w' b (n + 1) (readB x (i : Int) (b.tr A) A).2.2 s F []) := fun W t => by
    refine (read_s (S.quiet t) hn x (i : Int)).mono fun e w' ⟨v, e1, hv, hg⟩ => ?_
    rw [hr] at hv
    rw [hr0] at e1
    obtain ⟨g0, rfl, h1, h2⟩ := told1_some hv
    exact ⟨g0, e1, h2, h1, hg⟩
  have HDC : Hid (∀ W g0, BytesAt W g0 bl → Calls Tryz.prog 152 #[.int .i64 (kind : Int), .int .i64 (i : Int), .slice (some ⟨g0, 0, none⟩) A.B A.B] W fun e' w' => ∃ g', e' = .returned (.tuple #[.slice (some ⟨g', 0, none⟩) l.length l.length, .int .i64 0]) ∧ Rx.WRow w' g' (flatR l) ∧ Touch [] W w' ∧ W.heap.size ≤ g') := fun W g0 h => by
    have := decode_yes hA h hlen (by omega) d1 d2 d3 d4
    rw [d6, d5] at this
    exact this
  generalize (readB x (i : Int) (b.tr A) A).2.2 = A1 at HRD2 ⊢
  have HS := hid S
  have HR := hid hrow
  have HK := hid hk
  have HF := hid (And.intro hrF (And.intro hkF (And.intro hlo hne)))
  have lw := lt_of_block hrow
  have lk := lt_of_block hk
  have c := fun i => cell_row hrow i
  have k0 := cell_row hk 0
  simp at k0
  have c0 := c 0
  have c1 := c 1
  have c2 := c 2
  have c6 := c 6
  have c7 := c 7
  have c8 := c 8
  simp only [List.getElem?_toArray, List.getElem?_cons_zero, List.getElem?_cons_succ] at c0 c1 c2 c6 c7 c8
  have hw1 : IntKind.i64.wrap ((blocks : Int) - 1) = (blocks : Int) - 1 := by rw [IntKind.wrap_i64]; omega
  have hw2 : IntKind.i64.wrap ((blocks : Int) - 1 - (taken : Int)) = (i : Int) := by rw [IntKind.wrap_i64]; omega
  have HPL := hid hpl
  clear S hrow hk hrF hkF hlo hne c hlen hr hr0 hA hk1 hk2 hpl HRD d1 d2 d3 d4 d5 d6
  go_enter Tryz.func88, Tryz.ntmps88
  go_wp2_with fail
  go_quiet (fail)
  go_wp2_with fail
  go_region_held3 (fun W => W.cell? ⟨rb, 0, none⟩ = some (ptr kb) ∧ W.cell? ⟨rb, 1, none⟩ = some (.string x) ∧ W.cell? ⟨kb, 0, none⟩ = some (ptr b.p)) (go_keep)
    (first | (go_at_call 151; refine (HRD2.out _ (((Touch.refl [] w).drewN nq).drew)).mono ?_; rintro e w2 ⟨g0, rfl, hby, hg0, hg2⟩; obtain ⟨F2, S2, t2, f2⟩ := hg2; have z2 : w2.cell? ⟨rb, 0, none⟩ = some (ptr kb) ∧ w2.cell? ⟨rb, 1, none⟩ = some (.string x) ∧ w2.cell? ⟨kb, 0, none⟩ = some (ptr b.p) := ⟨(t2.cell (p := ⟨rb, 0, none⟩) lw (by simpa using HF.out.1)).trans c0, (t2.cell (p := ⟨rb, 1, none⟩) lw (by simpa using HF.out.1)).trans c1, (t2.cell (p := ⟨kb, 0, none⟩) lk (by simpa using HF.out.2.1)).trans k0⟩; have r2 := (t2.block rb lw (by simpa using HF.out.1)).trans HR.out; have q2 := cell_row r2 2; simp only [List.getElem?_toArray, List.getElem?_cons_zero, List.getElem?_cons_succ] at q2; have HS2 := hid S2; have HT2 := hid t2; have HF2 := hid f2; have HBY := hid hby; have HR2 := hid r2; clear S2 t2 f2 hby r2 c0 c1 c2 c6 c7 c8 k0))
  have tw2 : Touch F w w2 := ((((Touch.refl [] w).drewN nq).drew).mono (by simp)).trans HT2.out (fun y hy => .inl (by simpa using hy))
  have HW2 : Hid (Went w w2 b (n + 1) A1 s F []) := ⟨F2, HS2.out, tw2.mono (by simp), HF2.out⟩
  have HTW2 := hid tw2
  clear tw2
  have lw2 : rb < w2.heap.size := lt_of_block HR2.out
  have lk2 : kb < w2.heap.size := Nat.lt_of_lt_of_le lk HTW2.out.size
  have HK2 : Hid (DeskAt w2 kb b K T) := HK.out.touch HTW2.out HF.out.2.1
  have hwt : IntKind.i64.wrap ((taken : Int) + 1) = ((taken + 1 : Nat) : Int) := by rw [IntKind.wrap_i64]; have := HPL.out; omega
  have hwb : IntKind.i64.wrap ((blocks : Int) - 1) = (blocks : Int) - 1 := by rw [IntKind.wrap_i64]; have := HPL.out; omega
  by_cases hlt : l.length < K
  · have hi : ¬ ((i : Int) < (blocks : Int) - 1) := by omega
    go_wp2_with (first
    | (go_at_call 152; refine (HDC.out _ _ HBY.out).mono ?_; rintro e w3 ⟨g, rfl, hwr, ht3, hg3⟩; have r3 := (ht3.block rb lw2 (by simp)).trans HR2.out; have q := (fun i => cell_row r3 i); have q0 := q 0; have q3 := q 3; have q6 := q 6; have q7 := q 7; have q8 := q 8; have u3 := (fun i => unfrozen_row r3 i); have k3 := cell_row (HK2.out.touch ht3 (by simp)) 2; simp only [List.getElem?_toArray, List.getElem?_cons_zero, List.getElem?_cons_succ] at q0 q3 q6 q7 q8 k3; have HWR := hid hwr; have HT3 := hid ht3; have HG3 := hid hg3; have HR3 := hid r3; clear q hwr ht3 hg3 r3 z2 q2)
    | (go_at_call 153; refine (reverse_any HWR.out d7 l.length).mono ?_; rintro e w4 ⟨rfl, hrd, ht4⟩; have nrg : rb ∉ [g] := (by have := HG3.out; simp; omega); have r4 := (ht4.block rb (lt_of_block HR3.out) nrg).trans HR3.out; have p := (fun i => cell_row r4 i); have p3 := p 3; have p8 := p 8; have v4 := (fun i => unfrozen_row r4 i); simp only [List.getElem?_toArray, List.getElem?_cons_zero, List.getElem?_cons_succ] at p3 p8; have HRDR := hid hrd; have HT4 := hid ht4; have HR4 := hid r4; clear p hrd ht4 r4 q0 q3 q6 q7 q8 u3 k3))
    go_ret
    have t4 : Touch [g] w2 w4 := (HT3.out.mono (F := []) (G := [g]) (by simp)).trans HT4.out (fun y hy => .inl hy)
    have tf : Touch [rb, g] w2 ((w4.setCell ⟨rb, 3, none⟩ (.slice (some ⟨g, 0, none⟩) l.length l.length)).setCell ⟨rb, 8, none⟩ (.int .i64 ((taken : Int) + 1))) := ((t4.mono (by simp)).setCell (by simp) _).setCell (by simp) _
    have hgs := HG3.out
    have hrb : rb < g := by omega
    have hgF : g ∉ F2 := fun hx => by have := HS2.out.lt _ hx; omega
    have hgl : g < w3.heap.size := lt_of_block HWR.out
    refine ⟨rfl, g, ⟨F2, HS2.out.touch tf (fun y hy => ?_), ?_, HF2.out, fun y hy => ?_⟩, ?_, ?_⟩
    · simp at hy
      rcases hy with rfl | rfl
      · refine ⟨fun hx => ?_, HF.out.2.2.1⟩
        rcases HF2.out _ hx with h | h
        · exact HF.out.1 h
        · have h : w.heap.size ≤ y := h
          omega
      · exact ⟨hgF, by have := HS2.out.room; omega⟩
    · refine (HTW2.out.mono (by intro y hy; simp [hy])).trans tf (fun y hy => ?_)
      simp at hy
      rcases hy with rfl | rfl
      · exact .inl (by simp)
      · exact .inr (by have := HTW2.out.size; omega)
    · simp at hy
      subst hy
      refine ⟨hgF, by have := HTW2.out.size; omega, ?_⟩
      have h9 : w3.heap.size ≤ w4.heap.size := by exact HT4.out.size
      simp [World.setCell]
      omega
    · exact (heap_setCell_row (heap_setCell_row HR4.out 3 _) 8 _).trans (by simp)
    · refine RdR.touch (F := [rb]) HRDR.out (((Touch.refl [rb] _).setCell (by simp) _).setCell (by simp) _) ?_ (by simp; omega)
      have h9 : w3.heap.size ≤ w4.heap.size := by exact HT4.out.size
      omega
  · go_wp2_with (first
    | (go_at_call 152; refine (HDC.out _ _ HBY.out).mono ?_; rintro e w3 ⟨g, rfl, hwr, ht3, hg3⟩; have r3 := (ht3.block rb lw2 (by simp)).trans HR2.out; have q := (fun i => cell_row r3 i); have q0 := q 0; have q3 := q 3; have q6 := q 6; have q7 := q 7; have q8 := q 8; have u3 := (fun i => unfrozen_row r3 i); have k3 := cell_row (HK2.out.touch ht3 (by simp)) 2; simp only [List.getElem?_toArray, List.getElem?_cons_zero, List.getElem?_cons_succ] at q0 q3 q6 q7 q8 k3; have HWR := hid hwr; have HT3 := hid ht3; have HG3 := hid hg3; have HR3 := hid r3; clear q hwr ht3 hg3 r3 z2 q2)
    | (go_at_call 153; refine (reverse_any HWR.out d7 l.length).mono ?_; rintro e w4 ⟨rfl, hrd, ht4⟩; have nrg : rb ∉ [g] := (by have := HG3.out; simp; omega); have r4 := (ht4.block rb (lt_of_block HR3.out) nrg).trans HR3.out; have p := (fun i => cell_row r4 i); have p3 := p 3; have p8 := p 8; have v4 := (fun i => unfrozen_row r4 i); simp only [List.getElem?_toArray, List.getElem?_cons_zero, List.getElem?_cons_succ] at p3 p8; have HRDR := hid hrd; have HT4 := hid ht4; have HR4 := hid r4; clear p hrd ht4 r4 q0 q3 q6 q7 q8 u3 k3))
    go_ret
    have t4 : Touch [g] w2 w4 := (HT3.out.mono (F := []) (G := [g]) (by simp)).trans HT4.out (fun y hy => .inl hy)
    have tf : Touch [rb, g] w2 ((w4.setCell ⟨rb, 3, none⟩ (.slice (some ⟨g, 0, none⟩) l.length l.length)).setCell ⟨rb, 8, none⟩ (.int .i64 ((taken : Int) + 1))) := ((t4.mono (by simp)).setCell (by simp) _).setCell (by simp) _
    have hgs := HG3.out
    have hrb : rb < g := by omega
    have hgF : g ∉ F2 := fun hx => by have := HS2.out.lt _ hx; omega
    have hgl : g < w3.heap.size := lt_of_block HWR.out
    refine ⟨rfl, g, ⟨F2, HS2.out.touch tf (fun y hy => ?_), ?_, HF2.out, fun y hy => ?_⟩, ?_, ?_⟩
    · simp at hy
      rcases hy with rfl | rfl
      · refine ⟨fun hx => ?_, HF.out.2.2.1⟩
        rcases HF2.out _ hx with h | h
        · exact HF.out.1 h
        · have h : w.heap.size ≤ y := h
          omega
      · exact ⟨hgF, by have := HS2.out.room; omega⟩
    · refine (HTW2.out.mono (by intro y hy; simp [hy])).trans tf (fun y hy => ?_)
      simp at hy
      rcases hy with rfl | rfl
      · exact .inl (by simp)
      · exact .inr (by have := HTW2.out.size; omega)
    · simp at hy
      subst hy
      refine ⟨hgF, by have := HTW2.out.size; omega, ?_⟩
      have h9 : w3.heap.size ≤ w4.heap.size := by exact HT4.out.size
      simp [World.setCell]
      omega
    · exact (heap_setCell_row (heap_setCell_row HR4.out 3 _) 8 _).trans (by simp)
    · refine RdR.touch (F := [rb]) HRDR.out (((Touch.refl [rb] _).setCell (by simp) _).setCell (by simp) _) ?_ (by simp; omega)
      have h9 : w3.heap.size ≤ w4.heap.size := by exact HT4.out.size
      omega

end
end Go.Proofs.YtclplbnildnifaaGreatDoor
/-
  Reader.Peek.
-/
namespace Go.Proofs.YtclplbnildnifaaGreatDoor
open Go.RowKit Go.Deep
set_option linter.unusedSimpArgs false
set_option linter.unusedVariables false

/-- what is left of a block that was read. -/
structure LsAt (w : World) (g : Nat) (lv : Value) (l : List Rc) : Prop where
  val : ∃ o c, lv = .slice o l.length c ∧ l.length ≤ c ∧ (l ≠ [] → ∃ off, o = some ⟨g, off, none⟩ ∧ RdR w g off l ∧ g < w.heap.size)
theorem LsAt.touch {w w' : World} {g : Nat} {lv : Value} {l : List Rc} {G : List Nat} (h : LsAt w g lv l) (t : Touch G w w') (hG : g ∉ G) : LsAt w' g lv l := by
  obtain ⟨o, c, h1, h2, h3⟩ := h.val
  refine ⟨o, c, h1, h2, fun hl => ?_⟩
  obtain ⟨off, h4, h5, h6⟩ := h3 hl
  exact ⟨off, h4, h5.touch t h6 hG, Nat.lt_of_lt_of_le h6 t.size⟩
theorem LsAt.of {w : World} {g : Nat} {l : List Rc} (h : RdR w g 0 l) (hg : g < w.heap.size) : LsAt w g (.slice (some ⟨g, 0, none⟩) l.length l.length) l := ⟨_, _, rfl, Nat.le_refl _, fun _ => ⟨0, rfl, h, hg⟩⟩
theorem LsAt.none (w : World) (g : Nat) : LsAt w g (.slice none 0 0) [] := ⟨Option.none, 0, rfl, Nat.le_refl _, fun h => absurd rfl h⟩

abbrev Rc.val (r : Rc) : Value := recV r.1 r.2.1 r.2.2.1 r.2.2.2
abbrev zeroR : Value := .agg #[.int .u64 0, .int .u64 0, .int .u64 0, .int .u64 0]

section
variable {w w' : World} {b : Bn} {n : Nat} {A : PubA} {s : Pu.St} {F : List Nat} {kb rb : Nat} {K : Nat} {T : Int} {x : ByteArray}

theorem WentN.box {W w2 W2 : World} {n0 m : Nat} {A0 A' : PubA} {s0 s' : Pu.St} {G B N : List Nat} (S : Stand w b n0 A0 s0 F) (t1 : Touch [] w W) (h : WentN W w2 b m A' s' F G N) (t2 : Touch B w2 W2) (hB : ∀ y ∈ B, w.heap.size ≤ y ∧ y < W.heap.size) : WentN w W2 b m A' s' F G N := by
  obtain ⟨F', S', t', f', hN⟩ := h
  refine ⟨F', S'.touch t2 (fun y hy => ⟨fun hx => ?_, Nat.le_trans S.room (hB y hy).1⟩), ((t1.mono (by simp)).trans t' (fun y hy => .inl hy)).trans t2 (fun y hy => .inr (hB y hy).1), fun y hy => ?_, fun y hy => ?_⟩
  · have h1 := hB y hy
    rcases f' y hx with h | h
    · have := S.lt y h; omega
    · omega
  · rcases f' y hy with h | h
    · exact .inl h
    · exact .inr (Nat.le_trans t1.size h)
  · obtain ⟨h1, h2, h3⟩ := hN y hy
    exact ⟨h1, Nat.le_trans t1.size h2, Nat.lt_of_lt_of_le h3 t2.size⟩

theorem box4 {w2 : World} {q : Nat} {t : TypeId} {u0 u1 u2 u3 : Value} (hr : w2.heap[q]? = some (.cells #[u0, u1, u2, u3] t (0, 0))) (v0 v1 v2 v3 : Value) :
    ∃ W2, W2 = (((w2.setCell ⟨q, 0, none⟩ v0).setCell ⟨q, 1, none⟩ v1).setCell ⟨q, 2, none⟩ v2).setCell ⟨q, 3, none⟩ v3 ∧ W2.heap[q]? = some (.cells #[v0, v1, v2, v3] t (0, 0)) ∧ Touch [q] w2 W2 := by
  refine ⟨_, rfl, ?_, ?_⟩
  · refine (heap_setCell_row (heap_setCell_row (heap_setCell_row (heap_setCell_row hr 0 _) 1 _) 2 _) 3 _).trans ?_
    simp
  · repeat' refine Touch.setCell ?_ (by simp) _
    exact Touch.refl _ _

set_option maxRecDepth 100000 in
set_option maxHeartbeats 4000000 in
theorem Peek_have {kind blocks taken g : Nat} {lv : Value} {back : Bool} {r : Rc} {t : List Rc} (hrow : w.heap[rb]? = some (.cells (rrow kb x kind lv 0 back blocks taken) 106 (0, 0))) (hl : LsAt w g lv (r :: t)) (hlen : (r :: t).length ≤ 65536) :
    Calls Tryz.prog 42 #[ptr rb] w fun e w' => e = .returned (.tuple #[r.val, .bool true, .int .i64 0]) ∧ Touch [] w w' := by
  obtain ⟨W, hW⟩ : ∃ W, W = w.alloc (.cells #[.int .u64 0, .int .u64 0, .int .u64 0, .int .u64 0] 38) := ⟨_, rfl⟩
  have t0 : Touch [] w W := by rw [hW]; exact (Touch.refl [] w).alloc _
  have hb : W.heap[w.heap.size]? = some (.cells #[.int .u64 0, .int .u64 0, .int .u64 0, .int .u64 0] 38) := by rw [hW]; exact heap_alloc_new w _
  have hrowW := (t0.block rb (lt_of_block hrow) (by simp)).trans hrow
  obtain ⟨o, c, rfl, hcc, hoff⟩ := (hl.touch t0 (by simp)).val
  obtain ⟨off, rfl, hrd, hgl⟩ := hoff (by simp)
  have HRf := hid (refusal_any (x := x) (kb := kb) (kind := (kind : Int)) (lv := .slice (some ⟨g, off, none⟩) (r :: t).length c) (dead := 0) (cl := false) (w := W) (hb := rb) ⟨_, _, hrowW, rfl, rfl, rfl, rfl, rfl, rfl⟩)
  simp only [Bool.false_eq_true, if_false] at HRf
  have c3 := cell_row hrowW 3
  have c7 := cell_row hrowW 7
  have c8 := cell_row hrowW 8
  simp only [List.getElem?_toArray, List.getElem?_cons_zero, List.getElem?_cons_succ] at c3 c7 c8
  have hz : ∀ i, i < 4 → W.cell? ⟨g, off + i, none⟩ = (Rc.vals r)[i]? := fun i hi => by
    have := hrd 0 (by simp) i hi
    simpa using this
  have z0 := hz 0 (by omega)
  have z1 := hz 1 (by omega)
  have z2 := hz 2 (by omega)
  have z3 := hz 3 (by omega)
  simp only [Rc.vals, recL, Nat.add_zero, List.getElem?_cons_zero, List.getElem?_cons_succ] at z0 z1 z2 z3
  have q := fun i => cell_row hb i
  have u := fun i => unfrozen_row hb i
  have hlt : 0 < (r :: t).length := by simp
  generalize (r :: t).length = L at hlt hlen hcc c3 HRf
  have hne0 : ¬ (L : Int) = 0 := by omega
  have hd0 : decide ((L : Int) = 0) = false := by simpa using hne0
  have hd1 : ((L : Int) == 0) = false := by simpa using hne0
  have HT0 := hid t0
  have HE := hid hW
  have HB := hid hb
  have hlb := lt_of_block hb
  clear hrow hl t0 hb hrowW hrd hoff hz hW
  go_enter Tryz.func42, Tryz.ntmps42
  go_wp2_with fail
  rw [← HE.out]
  go_wp2_with (go_at_call 79; refine HRf.out.mono ?_; rintro e w1 ⟨rfl, hh⟩; have hh := hh.symm; subst hh)
  go_quiet (fail)
  go_wp2_with fail
  obtain ⟨W2, hW2, q2, t2⟩ := box4 (w2 := W.drewN nq) HB.out (.int .u64 (r.1 : Int)) (.int .u64 (r.2.1 : Int)) (.int .u64 (r.2.2.1 : Int)) (.int .u64 (r.2.2.2 : Int))
  rw [← hW2]
  clear q u hW2
  have q := fun i => cell_row q2 i
  refine bodyPost_ret (v := .tuple #[r.val, .bool true, .int .i64 0]) (by simp [results, Tryz.results42, go_sem, q]) rfl ⟨rfl, ?_⟩
  exact (HT0.out.drewN nq).trans t2 (by simp)

set_option maxRecDepth 100000 in
set_option maxHeartbeats 4000000 in
theorem Peek_end {kind blocks : Nat} {o : Option Addr} {c : Nat} {back : Bool} (hrow : w.heap[rb]? = some (.cells (rrow kb x kind (.slice o 0 c) 0 back blocks blocks) 106 (0, 0))) :
    Calls Tryz.prog 42 #[ptr rb] w fun e w' => e = .returned (.tuple #[zeroR, .bool false, .int .i64 0]) ∧ Touch [] w w' := by
  obtain ⟨W, hW⟩ : ∃ W, W = w.alloc (.cells #[.int .u64 0, .int .u64 0, .int .u64 0, .int .u64 0] 38) := ⟨_, rfl⟩
  have t0 : Touch [] w W := by rw [hW]; exact (Touch.refl [] w).alloc _
  have hb : W.heap[w.heap.size]? = some (.cells #[.int .u64 0, .int .u64 0, .int .u64 0, .int .u64 0] 38) := by rw [hW]; exact heap_alloc_new w _
  have hrowW := (t0.block rb (lt_of_block hrow) (by simp)).trans hrow
  have HRf := hid (refusal_any (x := x) (kb := kb) (kind := (kind : Int)) (lv := .slice o 0 c) (dead := 0) (cl := false) (w := W) (hb := rb) ⟨_, _, hrowW, rfl, rfl, rfl, rfl, rfl, rfl⟩)
  simp only [Bool.false_eq_true, if_false] at HRf
  have c3 := cell_row hrowW 3
  have c7 := cell_row hrowW 7
  have c8 := cell_row hrowW 8
  simp only [List.getElem?_toArray, List.getElem?_cons_zero, List.getElem?_cons_succ] at c3 c7 c8
  have q := fun i => cell_row hb i
  have u := fun i => unfrozen_row hb i
  have HT0 := hid t0
  have HE := hid hW
  have HB := hid hb
  have HRW := hid hrowW
  have hlb := lt_of_block hb
  have hd2 : decide ((blocks : Int) < (blocks : Int)) = false := by simp
  clear hrow t0 hb hrowW hW
  go_enter Tryz.func42, Tryz.ntmps42
  go_wp2_with fail
  rw [← HE.out]
  go_wp2_with (go_at_call 79; refine HRf.out.mono ?_; rintro e w1 ⟨rfl, hh⟩; have hh := hh.symm; subst hh)
  go_quiet (fail)
  go_wp2_with fail
  obtain ⟨W2, hW2, q2, t2⟩ := box4 (w2 := W.drewN nq) HB.out (.int .u64 0) (.int .u64 0) (.int .u64 0) (.int .u64 0)
  rw [← hW2]
  clear q u hW2
  have q := fun i => cell_row q2 i
  refine bodyPost_ret (v := .tuple #[zeroR, .bool false, .int .i64 0]) (by simp [results, Tryz.results42, go_sem, q]) rfl ⟨rfl, ?_⟩
  exact (HT0.out.drewN nq).trans t2 (by simp)

set_option maxRecDepth 100000 in
set_option maxHeartbeats 4000000 in
theorem Peek_load (S : Stand w b n A s F) {kind blocks taken : Nat} {o : Option Addr} {c : Nat} {back : Bool} (hrow : w.heap[rb]? = some (.cells (rrow kb x kind (.slice o 0 c) 0 back blocks taken) 106 (0, 0))) (htb : taken < blocks) {n1 : Nat} {A1 : PubA} {r : Rc} {t : List Rc} (hlen : (r :: t).length ≤ 65536)
    (H : ∀ W, Touch [] w W → Calls Tryz.prog 88 #[ptr rb] W fun e w' => e = .returned (.int .i64 0) ∧ ∃ g, WentN W w' b n1 A1 s F [rb] [g] ∧ w'.heap[rb]? = some (.cells (rrow kb x kind (.slice (some ⟨g, 0, none⟩) (r :: t).length (r :: t).length) 0 back blocks (taken + 1)) 106 (0, 0)) ∧ RdR w' g 0 (r :: t)) :
    Calls Tryz.prog 42 #[ptr rb] w fun e w' => e = .returned (.tuple #[r.val, .bool true, .int .i64 0]) ∧ ∃ g, WentN w w' b n1 A1 s F [rb] [g] ∧ w'.heap[rb]? = some (.cells (rrow kb x kind (.slice (some ⟨g, 0, none⟩) (r :: t).length (r :: t).length) 0 back blocks (taken + 1)) 106 (0, 0)) ∧ RdR w' g 0 (r :: t) := by
  obtain ⟨W, hW⟩ : ∃ W, W = w.alloc (.cells #[.int .u64 0, .int .u64 0, .int .u64 0, .int .u64 0] 38) := ⟨_, rfl⟩
  have t0 : Touch [] w W := by rw [hW]; exact (Touch.refl [] w).alloc _
  have hb : W.heap[w.heap.size]? = some (.cells #[.int .u64 0, .int .u64 0, .int .u64 0, .int .u64 0] 38) := by rw [hW]; exact heap_alloc_new w _
  have hrowW := (t0.block rb (lt_of_block hrow) (by simp)).trans hrow
  have HRf := hid (refusal_any (x := x) (kb := kb) (kind := (kind : Int)) (lv := .slice o 0 c) (dead := 0) (cl := false) (w := W) (hb := rb) ⟨_, _, hrowW, rfl, rfl, rfl, rfl, rfl, rfl⟩)
  simp only [Bool.false_eq_true, if_false] at HRf
  have c3 := cell_row hrowW 3
  have c7 := cell_row hrowW 7
  have c8 := cell_row hrowW 8
  simp only [List.getElem?_toArray, List.getElem?_cons_zero, List.getElem?_cons_succ] at c3 c7 c8
  have q := fun i => cell_row hb i
  have u := fun i => unfrozen_row hb i
  have HT0 := hid t0
  have HE := hid hW
  have HB := hid hb
  have HRW := hid hrowW
  have hlb := lt_of_block hb
  have hd2 : decide ((taken : Int) < (blocks : Int)) = true := by simp; omega
  have HH : Hid (∀ nq, Calls Tryz.prog 88 #[ptr rb] (W.drewN nq) fun e w' => e = .returned (.int .i64 0) ∧ ∃ g, WentN (W.drewN nq) w' b n1 A1 s F [rb] [g] ∧ w'.heap[rb]? = some (.cells (rrow kb x kind (.slice (some ⟨g, 0, none⟩) (r :: t).length (r :: t).length) 0 back blocks (taken + 1)) 106 (0, 0)) ∧ RdR w' g 0 (r :: t)) := fun nq => H _ (t0.drewN nq)
  have HS := hid S
  have lrw := lt_of_block hrow
  have hlt : 0 < (r :: t).length := by simp
  obtain ⟨L, hL⟩ : ∃ L, L = (r :: t).length := ⟨_, rfl⟩
  rw [← hL] at HH hlt hlen ⊢
  have HL := hid hL
  have hne0 : ¬ (L : Int) = 0 := by omega
  clear hrow t0 hb hrowW hW H S hL
  go_enter Tryz.func42, Tryz.ntmps42
  go_wp2_with fail
  rw [← HE.out]
  go_wp2_with (go_at_call 79; refine HRf.out.mono ?_; rintro e w1 ⟨rfl, hh⟩; have hh := hh.symm; subst hh)
  go_quiet (fail)
  go_wp2_with fail
  refine (HH.out _).mono ?_
  rintro e w1 ⟨rfl, g, hg, hr1, hrd⟩
  have d3 := cell_row hr1 3
  simp only [List.getElem?_toArray, List.getElem?_cons_zero, List.getElem?_cons_succ] at d3
  have z0 := hrd 0 (by simp) 0 (by omega)
  have z1 := hrd 0 (by simp) 1 (by omega)
  have z2 := hrd 0 (by simp) 2 (by omega)
  have z3 := hrd 0 (by simp) 3 (by omega)
  simp only [Rc.vals, recL, List.getElem_cons_zero, Nat.zero_mul, Nat.zero_add, Nat.add_zero, List.getElem?_cons_zero, List.getElem?_cons_succ] at z0 z1 z2 z3
  have hbb := (hg.choose_spec.2.1.block w.heap.size hlb (by have h1 := HS.out.lt; simp; exact ⟨fun e => by omega, fun h => Nat.lt_irrefl _ (h1 _ h)⟩)).trans HB.out
  have qb := (fun i => cell_row hbb i)
  have ub := (fun i => unfrozen_row hbb i)
  have hg0 : W.heap.size ≤ g ∧ g < w1.heap.size := ⟨(hg.choose_spec.2.2.2 g (by simp)).2.1, (hg.choose_spec.2.2.2 g (by simp)).2.2⟩
  have HG := hid hg
  have HR1 := hid hr1
  have HRR := hid hrd
  have HBB := hid hbb
  have lg := hg0.2
  have HG0 := hid hg0
  clear hg hr1 hrd hbb c3 c7 c8 q u hg0
  go_wp2_with fail
  obtain ⟨W2, hW2, q2, t2⟩ := box4 HBB.out (.int .u64 (r.1 : Int)) (.int .u64 (r.2.1 : Int)) (.int .u64 (r.2.2.1 : Int)) (.int .u64 (r.2.2.2 : Int))
  rw [← hW2]
  clear qb ub hW2
  have q := fun i => cell_row q2 i
  have hgb : w.heap.size < g := by have := HG0.out.1; omega
  refine bodyPost_ret (v := .tuple #[r.val, .bool true, .int .i64 0]) (by simp [results, Tryz.results42, go_sem, q]) rfl ⟨rfl, g, ?_, ?_, ?_⟩
  · exact WentN.box HS.out (HT0.out.drewN nq) HG.out t2 (fun y hy => by simp at hy; subst hy; exact ⟨Nat.le_refl _, hlb⟩)
  · exact (t2.block rb (lt_of_block HR1.out) (by simp; omega)).trans HR1.out
  · exact HRR.out.touch t2 lg (by simp; omega)

end
end Go.Proofs.YtclplbnildnifaaGreatDoor
/-
  Reader.Next.
-/
namespace Go.Proofs.YtclplbnildnifaaGreatDoor
open Go.RowKit Go.Deep
set_option linter.unusedSimpArgs false
set_option linter.unusedVariables false

section
variable {w w' : World} {b : Bn} {n : Nat} {A : PubA} {s : Pu.St} {F : List Nat} {kb rb : Nat} {K : Nat} {T : Int} {x : ByteArray}

theorem WentN.own2 {W w2 W2 : World} {n0 m : Nat} {A0 A' : PubA} {s0 s' : Pu.St} {G B N : List Nat} (S : Stand w b n0 A0 s0 F) (t1 : Touch [] w W) (h : WentN W w2 b m A' s' F G N) (t2 : Touch B w2 W2) (hB : ∀ y ∈ B, (y ∈ G ∧ y ∉ F ∧ y < w.heap.size ∧ b.lo ≤ y) ∨ (w.heap.size ≤ y ∧ y < W.heap.size)) : WentN w W2 b m A' s' F G N := by
  obtain ⟨F', S', t', f', hN⟩ := h
  have hs := t1.size
  refine ⟨F', S'.touch t2 (fun y hy => ⟨fun hx => ?_, ?_⟩), ((t1.mono (by simp)).trans t' (fun y hy => .inl hy)).trans t2 (fun y hy => ?_), fun y hy => ?_, fun y hy => ?_⟩
  · rcases hB y hy with ⟨_, h2, h3, _⟩ | h1
    · rcases f' y hx with h | h
      · exact h2 h
      · omega
    · rcases f' y hx with h | h
      · have := S.lt y h; omega
      · omega
  · rcases hB y hy with h1 | h1
    · exact h1.2.2.2
    · exact Nat.le_trans S.room h1.1
  · rcases hB y hy with h1 | h1
    · exact .inl (List.mem_append.2 (.inl h1.1))
    · exact .inr h1.1
  · rcases f' y hy with h | h
    · exact .inl h
    · exact .inr (Nat.le_trans t1.size h)
  · obtain ⟨h1, h2, h3⟩ := hN y hy
    exact ⟨h1, Nat.le_trans t1.size h2, Nat.lt_of_lt_of_le h3 t2.size⟩

theorem RdR.tail {w : World} {g off : Nat} {r : Rc} {t : List Rc} (h : RdR w g off (r :: t)) : RdR w g (off + 4) t := fun i hi c hc => by
  have := h (i + 1) (by simpa using hi) c hc
  have e : off + ((i + 1) * 4 + c) = off + 4 + (i * 4 + c) := by omega
  rw [e] at this
  simpa using this

set_option maxRecDepth 100000 in
set_option maxHeartbeats 4000000 in
theorem Next_no {er : Int} (H : ∀ W, Touch [] w W → Calls Tryz.prog 42 #[ptr rb] W fun e w' => e = .returned (.tuple #[zeroR, .bool false, .int .i64 er]) ∧ Touch [] W w') :
    Calls Tryz.prog 13 #[ptr rb] w fun e w' => e = .returned (.tuple #[zeroR, .bool false, .int .i64 er]) ∧ Touch [] w w' := by
  obtain ⟨W, hW⟩ : ∃ W, W = w.alloc (.cells #[.int .u64 0, .int .u64 0, .int .u64 0, .int .u64 0] 38) := ⟨_, rfl⟩
  have t0 : Touch [] w W := by rw [hW]; exact (Touch.refl [] w).alloc _
  have hb : W.heap[w.heap.size]? = some (.cells #[.int .u64 0, .int .u64 0, .int .u64 0, .int .u64 0] 38) := by rw [hW]; exact heap_alloc_new w _
  have HH := hid (H W t0)
  have HT0 := hid t0
  have HE := hid hW
  have HB := hid hb
  have hlb := lt_of_block hb
  clear H t0 hb hW
  go_enter Tryz.func13, Tryz.ntmps13
  go_wp2_with fail
  rw [← HE.out]
  refine HH.out.mono ?_
  rintro e w1 ⟨rfl, ht1⟩
  have hbb := (ht1.block w.heap.size hlb (by simp)).trans HB.out
  have HBB := hid hbb
  have qb := fun i => cell_row hbb i
  have ub := fun i => unfrozen_row hbb i
  have lb1 := lt_of_block hbb
  have HT1 := hid ht1
  clear hbb ht1
  go_wp2_with fail
  obtain ⟨W2, hW2, q2, t2⟩ := box4 HBB.out (.int .u64 0) (.int .u64 0) (.int .u64 0) (.int .u64 0)
  rw [← hW2]
  clear qb ub hW2
  have q3 := (Below.heap_alloc W2 (.cells #[.int .u64 0, .int .u64 0, .int .u64 0, .int .u64 0] 38) _ (lt_of_block q2)).trans q2
  have q := fun i => cell_row q3 i
  refine bodyPost_ret (v := .tuple #[zeroR, .bool false, .int .i64 er]) (by simp [results, Tryz.results13, go_sem, q]) rfl ⟨rfl, ?_⟩
  exact ((HT0.out.trans HT1.out (by simp)).trans t2 (by simp)).alloc _


set_option maxRecDepth 100000 in
set_option maxHeartbeats 4000000 in
theorem Next_have {kind blocks taken g : Nat} {lv : Value} {back : Bool} {r : Rc} {t : List Rc} (hrow : w.heap[rb]? = some (.cells (rrow kb x kind lv 0 back blocks taken) 106 (0, 0))) (hl : LsAt w g lv (r :: t)) (hlen : (r :: t).length ≤ 65536) (hgr : g ≠ rb) (hgw : g < w.heap.size) :
    Calls Tryz.prog 13 #[ptr rb] w fun e w' => e = .returned (.tuple #[r.val, .bool true, .int .i64 0]) ∧ Touch [rb] w w' ∧ ∃ lv', w'.heap[rb]? = some (.cells (rrow kb x kind lv' 0 back blocks taken) 106 (0, 0)) ∧ LsAt w' g lv' t := by
  obtain ⟨W, hW⟩ : ∃ W, W = w.alloc (.cells #[.int .u64 0, .int .u64 0, .int .u64 0, .int .u64 0] 38) := ⟨_, rfl⟩
  have t0 : Touch [] w W := by rw [hW]; exact (Touch.refl [] w).alloc _
  have hb : W.heap[w.heap.size]? = some (.cells #[.int .u64 0, .int .u64 0, .int .u64 0, .int .u64 0] 38) := by rw [hW]; exact heap_alloc_new w _
  have HT0 := hid t0
  have HE := hid hW
  have HB := hid hb
  have hlb := lt_of_block hb
  have hrowW := (t0.block rb (lt_of_block hrow) (by simp)).trans hrow
  have hlW := hl.touch t0 (by simp)
  have HH := hid (Peek_have hrowW hlW hlen)
  obtain ⟨o, c, rfl, hcc, hoff⟩ := hlW.val
  obtain ⟨off, rfl, hrd, hgl⟩ := hoff (by simp)
  obtain ⟨L, hL⟩ : ∃ L, L = (r :: t).length := ⟨_, rfl⟩
  have hlt : 0 < L := by rw [hL]; simp
  have hLt : L - 1 = t.length := by rw [hL]; simp
  rw [← hL] at hcc hrowW hlen
  have HRW := hid hrowW
  have HRD := hid hrd
  have HL := hid hL
  have HLT := hid hLt
  have lrb := lt_of_block hrow
  have HGB := hid hgw
  clear hrow hl hlW t0 hb hW hrowW hoff hrd hL hLt
  go_enter Tryz.func13, Tryz.ntmps13
  go_wp2_with fail
  rw [← HE.out]
  refine HH.out.mono ?_
  rintro e w1 ⟨rfl, ht1⟩
  have hbb := (ht1.block w.heap.size hlb (by simp)).trans HB.out
  have HBB := hid hbb
  have qb := fun i => cell_row hbb i
  have ub := fun i => unfrozen_row hbb i
  have lb1 := lt_of_block hbb
  have HT1 := hid ht1
  have HR1 := hid ((ht1.block rb (Nat.lt_of_lt_of_le lrb HT0.out.size) (by simp)).trans HRW.out)
  clear hbb ht1
  have c3 := cell_row HR1.out 3
  have u3 := fun i => unfrozen_row HR1.out i
  simp only [List.getElem?_toArray, List.getElem?_cons_zero, List.getElem?_cons_succ] at c3
  have lr1 := lt_of_block HR1.out
  by_cases hc1 : c = 1
  · subst hc1
    have hL1 : L = 1 := by omega
    have ht0 : t = [] := by have := HL.out; rw [hL1] at this; simpa using this.symm
    subst hL1
    go_wp2_with fail
    obtain ⟨W3, hW3⟩ : ∃ W3, W3 = w1.setCell ⟨rb, 3, none⟩ (.slice (some ⟨g, off, none⟩) 0 0) := ⟨_, rfl⟩
    have r3 : W3.heap[rb]? = some (.cells (rrow kb x kind (.slice (some ⟨g, off, none⟩) 0 0) 0 back blocks taken) 106 (0, 0)) := by rw [hW3]; exact (heap_setCell_row HR1.out 3 _).trans (by simp)
    have b3 : W3.heap[w.heap.size]? = some (.cells #[.int .u64 0, .int .u64 0, .int .u64 0, .int .u64 0] 38 (0, 0)) := by rw [hW3]; exact (Below.heap_setCell _ _ _ _ (by simp; omega)).trans HBB.out
    have t3 : Touch [rb] w1 W3 := by rw [hW3]; exact (Touch.refl [rb] w1).setCell (by simp) _
    obtain ⟨W2, hW2, q2, t2⟩ := box4 b3 (.int .u64 (r.1 : Int)) (.int .u64 (r.2.1 : Int)) (.int .u64 (r.2.2.1 : Int)) (.int .u64 (r.2.2.2 : Int))
    rw [hW3] at hW2
    rw [← hW2]
    clear qb ub hW2 hW3 c3 u3
    have q3 := (Below.heap_alloc W2 (.cells #[.int .u64 (r.1 : Int), .int .u64 (r.2.1 : Int), .int .u64 (r.2.2.1 : Int), .int .u64 (r.2.2.2 : Int)] 38) _ (lt_of_block q2)).trans q2
    have q := fun i => cell_row q3 i
    have tt : Touch [rb, w.heap.size] w1 (W2.alloc (.cells #[.int .u64 (r.1 : Int), .int .u64 (r.2.1 : Int), .int .u64 (r.2.2.1 : Int), .int .u64 (r.2.2.2 : Int)] 38)) := (((t3.mono (by simp)).trans t2 (by simp)).alloc _)
    have rf : (W2.alloc (.cells #[.int .u64 (r.1 : Int), .int .u64 (r.2.1 : Int), .int .u64 (r.2.2.1 : Int), .int .u64 (r.2.2.2 : Int)] 38)).heap[rb]? = some (.cells (rrow kb x kind (.slice (some ⟨g, off, none⟩) 0 0) 0 back blocks taken) 106 (0, 0)) := (((t2.alloc _).block rb (lt_of_block r3) (by simp; omega)).trans r3)
    refine bodyPost_ret (v := .tuple #[r.val, .bool true, .int .i64 0]) (by simp [results, Tryz.results13, go_sem, q]) rfl ⟨rfl, ?_, .slice (some ⟨g, off, none⟩) 0 0, rf, ?_⟩
    · exact ((HT0.out.mono (by simp)).trans (HT1.out.mono (F := []) (G := [rb]) (by simp)) (fun y hy => .inl hy)).trans tt (fun y hy => by simp at hy; rcases hy with rfl | rfl; exact .inl (by simp); exact .inr (Nat.le_refl _))
    · subst ht0
      exact ⟨_, _, rfl, Nat.le_refl _, fun h => absurd rfl h⟩
  · have hc2 : 1 < c := by omega
    go_wp2_with fail
    obtain ⟨W3, hW3⟩ : ∃ W3, W3 = w1.setCell ⟨rb, 3, none⟩ (.slice (some ⟨g, off + 4, none⟩) (L - 1) (c - 1)) := ⟨_, rfl⟩
    have r3 : W3.heap[rb]? = some (.cells (rrow kb x kind (.slice (some ⟨g, off + 4, none⟩) (L - 1) (c - 1)) 0 back blocks taken) 106 (0, 0)) := by rw [hW3]; exact (heap_setCell_row HR1.out 3 _).trans (by simp)
    have b3 : W3.heap[w.heap.size]? = some (.cells #[.int .u64 0, .int .u64 0, .int .u64 0, .int .u64 0] 38 (0, 0)) := by rw [hW3]; exact (Below.heap_setCell _ _ _ _ (by simp; omega)).trans HBB.out
    have t3 : Touch [rb] w1 W3 := by rw [hW3]; exact (Touch.refl [rb] w1).setCell (by simp) _
    obtain ⟨W2, hW2, q2, t2⟩ := box4 b3 (.int .u64 (r.1 : Int)) (.int .u64 (r.2.1 : Int)) (.int .u64 (r.2.2.1 : Int)) (.int .u64 (r.2.2.2 : Int))
    rw [hW3] at hW2
    rw [← hW2]
    clear qb ub hW2 hW3 c3 u3
    have q3 := (Below.heap_alloc W2 (.cells #[.int .u64 (r.1 : Int), .int .u64 (r.2.1 : Int), .int .u64 (r.2.2.1 : Int), .int .u64 (r.2.2.2 : Int)] 38) _ (lt_of_block q2)).trans q2
    have q := fun i => cell_row q3 i
    have tt : Touch [rb, w.heap.size] w1 (W2.alloc (.cells #[.int .u64 (r.1 : Int), .int .u64 (r.2.1 : Int), .int .u64 (r.2.2.1 : Int), .int .u64 (r.2.2.2 : Int)] 38)) := (((t3.mono (by simp)).trans t2 (by simp)).alloc _)
    have rf : (W2.alloc (.cells #[.int .u64 (r.1 : Int), .int .u64 (r.2.1 : Int), .int .u64 (r.2.2.1 : Int), .int .u64 (r.2.2.2 : Int)] 38)).heap[rb]? = some (.cells (rrow kb x kind (.slice (some ⟨g, off + 4, none⟩) (L - 1) (c - 1)) 0 back blocks taken) 106 (0, 0)) := (((t2.alloc _).block rb (lt_of_block r3) (by simp; omega)).trans r3)
    refine bodyPost_ret (v := .tuple #[r.val, .bool true, .int .i64 0]) (by simp [results, Tryz.results13, go_sem, q]) rfl ⟨rfl, ?_, .slice (some ⟨g, off + 4, none⟩) (L - 1) (c - 1), rf, ?_⟩
    · exact ((HT0.out.mono (by simp)).trans (HT1.out.mono (F := []) (G := [rb]) (by simp)) (fun y hy => .inl hy)).trans tt (fun y hy => by simp at hy; rcases hy with rfl | rfl; exact .inl (by simp); exact .inr (Nat.le_refl _))
    · rw [HLT.out]
      have hg1 : g < w1.heap.size := Nat.lt_of_lt_of_le hgl HT1.out.size
      refine ⟨_, _, rfl, by have := HLT.out; omega, fun _ => ⟨off + 4, rfl, ?_, Nat.lt_of_lt_of_le hg1 tt.size⟩⟩
      exact (HRD.out.tail.touch HT1.out hgl (by simp)).touch tt hg1 (by simp; exact ⟨hgr, by have := HGB.out; omega⟩)

set_option maxRecDepth 100000 in
set_option maxHeartbeats 4000000 in
theorem Next_load (S : Stand w b n A s F) (hrF : rb ∉ F) (hlo : b.lo ≤ rb) (lrb : rb < w.heap.size) {kind blocks taken : Nat} {back : Bool} {n1 : Nat} {A1 : PubA} {r : Rc} {t : List Rc} (hlen : (r :: t).length ≤ 65536)
    (H : ∀ W, Touch [] w W → Calls Tryz.prog 42 #[ptr rb] W fun e w' => e = .returned (.tuple #[r.val, .bool true, .int .i64 0]) ∧ ∃ g, WentN W w' b n1 A1 s F [rb] [g] ∧ w'.heap[rb]? = some (.cells (rrow kb x kind (.slice (some ⟨g, 0, none⟩) (r :: t).length (r :: t).length) 0 back blocks (taken + 1)) 106 (0, 0)) ∧ RdR w' g 0 (r :: t)) :
    Calls Tryz.prog 13 #[ptr rb] w fun e w' => e = .returned (.tuple #[r.val, .bool true, .int .i64 0]) ∧ ∃ g lv', WentN w w' b n1 A1 s F [rb] [g] ∧ g ≠ rb ∧ w'.heap[rb]? = some (.cells (rrow kb x kind lv' 0 back blocks (taken + 1)) 106 (0, 0)) ∧ LsAt w' g lv' t := by
  obtain ⟨W, hW⟩ : ∃ W, W = w.alloc (.cells #[.int .u64 0, .int .u64 0, .int .u64 0, .int .u64 0] 38) := ⟨_, rfl⟩
  have t0 : Touch [] w W := by rw [hW]; exact (Touch.refl [] w).alloc _
  have hb : W.heap[w.heap.size]? = some (.cells #[.int .u64 0, .int .u64 0, .int .u64 0, .int .u64 0] 38) := by rw [hW]; exact heap_alloc_new w _
  have HT0 := hid t0
  have HE := hid hW
  have HB := hid hb
  have hlb := lt_of_block hb
  have HH := hid (H W t0)
  have HS := hid S
  have HF := hid (And.intro hrF hlo)
  obtain ⟨L, hL⟩ : ∃ L, L = (r :: t).length := ⟨_, rfl⟩
  have hlt : 0 < L := by rw [hL]; simp
  have hLt : L - 1 = t.length := by rw [hL]; simp
  rw [← hL] at HH hlen
  obtain ⟨c, hc⟩ : ∃ c, c = L := ⟨_, rfl⟩
  have HL := hid hL
  have HLT := hid hLt
  have hcc : L ≤ c := by omega
  have HC := hid hc
  clear H t0 hb hW S hrF hlo hL hLt hc
  go_enter Tryz.func13, Tryz.ntmps13
  go_wp2_with fail
  rw [← HE.out]
  refine HH.out.mono ?_
  rintro e w1 ⟨rfl, g, hg, hr1, hrd⟩
  have hbb := (hg.choose_spec.2.1.block w.heap.size hlb (by have h1 := HS.out.lt; simp; exact ⟨fun e => by omega, fun h => Nat.lt_irrefl _ (h1 _ h)⟩)).trans HB.out
  have hg0 : W.heap.size ≤ g ∧ g < w1.heap.size := ⟨(hg.choose_spec.2.2.2 g (by simp)).2.1, (hg.choose_spec.2.2.2 g (by simp)).2.2⟩
  have HBB := hid hbb
  have qb := fun i => cell_row hbb i
  have ub := fun i => unfrozen_row hbb i
  have lb1 := lt_of_block hbb
  have HG := hid hg
  have HG0 := hid hg0
  have HR1 : Hid (w1.heap[rb]? = some (.cells (rrow kb x kind (.slice (some ⟨g, 0, none⟩) L c) 0 back blocks (taken + 1)) 106 (0, 0))) := by rw [HC.out]; exact hr1
  have HRR := hid hrd
  clear hbb hg hr1 hrd hg0
  have c3 := cell_row HR1.out 3
  have u3 := fun i => unfrozen_row HR1.out i
  simp only [List.getElem?_toArray, List.getElem?_cons_zero, List.getElem?_cons_succ] at c3
  have lr1 := lt_of_block HR1.out
  by_cases hc1 : c = 1
  · subst hc1
    have hL1 : L = 1 := by omega
    have ht0 : t = [] := by have := HL.out; rw [hL1] at this; simpa using this.symm
    subst hL1
    go_wp2_with fail
    obtain ⟨W3, hW3⟩ : ∃ W3, W3 = w1.setCell ⟨rb, 3, none⟩ (.slice (some ⟨g, 0, none⟩) 0 0) := ⟨_, rfl⟩
    have r3 : W3.heap[rb]? = some (.cells (rrow kb x kind (.slice (some ⟨g, 0, none⟩) 0 0) 0 back blocks (taken + 1)) 106 (0, 0)) := by rw [hW3]; exact (heap_setCell_row HR1.out 3 _).trans (by simp)
    have b3 : W3.heap[w.heap.size]? = some (.cells #[.int .u64 0, .int .u64 0, .int .u64 0, .int .u64 0] 38 (0, 0)) := by rw [hW3]; exact (Below.heap_setCell _ _ _ _ (by simp; omega)).trans HBB.out
    have t3 : Touch [rb] w1 W3 := by rw [hW3]; exact (Touch.refl [rb] w1).setCell (by simp) _
    obtain ⟨W2, hW2, q2, t2⟩ := box4 b3 (.int .u64 (r.1 : Int)) (.int .u64 (r.2.1 : Int)) (.int .u64 (r.2.2.1 : Int)) (.int .u64 (r.2.2.2 : Int))
    rw [hW3] at hW2
    rw [← hW2]
    clear qb ub hW2 hW3 c3 u3
    have q3 := (Below.heap_alloc W2 (.cells #[.int .u64 (r.1 : Int), .int .u64 (r.2.1 : Int), .int .u64 (r.2.2.1 : Int), .int .u64 (r.2.2.2 : Int)] 38) _ (lt_of_block q2)).trans q2
    have q := fun i => cell_row q3 i
    have tt : Touch [rb, w.heap.size] w1 (W2.alloc (.cells #[.int .u64 (r.1 : Int), .int .u64 (r.2.1 : Int), .int .u64 (r.2.2.1 : Int), .int .u64 (r.2.2.2 : Int)] 38)) := (((t3.mono (by simp)).trans t2 (by simp)).alloc _)
    have rf : (W2.alloc (.cells #[.int .u64 (r.1 : Int), .int .u64 (r.2.1 : Int), .int .u64 (r.2.2.1 : Int), .int .u64 (r.2.2.2 : Int)] 38)).heap[rb]? = some (.cells (rrow kb x kind (.slice (some ⟨g, 0, none⟩) 0 0) 0 back blocks (taken + 1)) 106 (0, 0)) := (((t2.alloc _).block rb (lt_of_block r3) (by simp; omega)).trans r3)
    refine bodyPost_ret (v := .tuple #[r.val, .bool true, .int .i64 0]) (by simp [results, Tryz.results13, go_sem, q]) rfl ⟨rfl, g, .slice (some ⟨g, 0, none⟩) 0 0, ?_, by have := HG0.out; omega, rf, ?_⟩
    · refine WentN.own2 HS.out HT0.out HG.out tt (fun y hy => ?_)
      simp at hy
      rcases hy with rfl | rfl
      · exact .inl ⟨by simp, HF.out.1, lrb, HF.out.2⟩
      · exact .inr ⟨Nat.le_refl _, hlb⟩
    · subst ht0
      exact ⟨_, _, rfl, Nat.le_refl _, fun h => absurd rfl h⟩
  · have hc2 : 1 < c := by omega
    go_wp2_with fail
    obtain ⟨W3, hW3⟩ : ∃ W3, W3 = w1.setCell ⟨rb, 3, none⟩ (.slice (some ⟨g, 4, none⟩) (L - 1) (c - 1)) := ⟨_, rfl⟩
    have r3 : W3.heap[rb]? = some (.cells (rrow kb x kind (.slice (some ⟨g, 4, none⟩) (L - 1) (c - 1)) 0 back blocks (taken + 1)) 106 (0, 0)) := by rw [hW3]; exact (heap_setCell_row HR1.out 3 _).trans (by simp)
    have b3 : W3.heap[w.heap.size]? = some (.cells #[.int .u64 0, .int .u64 0, .int .u64 0, .int .u64 0] 38 (0, 0)) := by rw [hW3]; exact (Below.heap_setCell _ _ _ _ (by simp; omega)).trans HBB.out
    have t3 : Touch [rb] w1 W3 := by rw [hW3]; exact (Touch.refl [rb] w1).setCell (by simp) _
    obtain ⟨W2, hW2, q2, t2⟩ := box4 b3 (.int .u64 (r.1 : Int)) (.int .u64 (r.2.1 : Int)) (.int .u64 (r.2.2.1 : Int)) (.int .u64 (r.2.2.2 : Int))
    rw [hW3] at hW2
    rw [← hW2]
    clear qb ub hW2 hW3 c3 u3
    have q3 := (Below.heap_alloc W2 (.cells #[.int .u64 (r.1 : Int), .int .u64 (r.2.1 : Int), .int .u64 (r.2.2.1 : Int), .int .u64 (r.2.2.2 : Int)] 38) _ (lt_of_block q2)).trans q2
    have q := fun i => cell_row q3 i
    have tt : Touch [rb, w.heap.size] w1 (W2.alloc (.cells #[.int .u64 (r.1 : Int), .int .u64 (r.2.1 : Int), .int .u64 (r.2.2.1 : Int), .int .u64 (r.2.2.2 : Int)] 38)) := (((t3.mono (by simp)).trans t2 (by simp)).alloc _)
    have rf : (W2.alloc (.cells #[.int .u64 (r.1 : Int), .int .u64 (r.2.1 : Int), .int .u64 (r.2.2.1 : Int), .int .u64 (r.2.2.2 : Int)] 38)).heap[rb]? = some (.cells (rrow kb x kind (.slice (some ⟨g, 4, none⟩) (L - 1) (c - 1)) 0 back blocks (taken + 1)) 106 (0, 0)) := (((t2.alloc _).block rb (lt_of_block r3) (by simp; omega)).trans r3)
    refine bodyPost_ret (v := .tuple #[r.val, .bool true, .int .i64 0]) (by simp [results, Tryz.results13, go_sem, q]) rfl ⟨rfl, g, .slice (some ⟨g, 4, none⟩) (L - 1) (c - 1), ?_, by have := HG0.out; omega, rf, ?_⟩
    · refine WentN.own2 HS.out HT0.out HG.out tt (fun y hy => ?_)
      simp at hy
      rcases hy with rfl | rfl
      · exact .inl ⟨by simp, HF.out.1, lrb, HF.out.2⟩
      · exact .inr ⟨Nat.le_refl _, hlb⟩
    · rw [HLT.out]
      have hg1 : g < w1.heap.size := HG0.out.2
      refine ⟨_, _, rfl, by have := HLT.out; omega, fun _ => ⟨0 + 4, by simp, ?_, Nat.lt_of_lt_of_le hg1 tt.size⟩⟩
      exact HRR.out.tail.touch tt hg1 (by simp; have := HG0.out; omega)
end
end Go.Proofs.YtclplbnildnifaaGreatDoor
/-
  Reader.Close, called and deferred.
-/
namespace Go.Proofs.YtclplbnildnifaaGreatDoor
open Go.RowKit Go.Deep
set_option linter.unusedSimpArgs false
set_option linter.unusedVariables false

section
variable {w w' : World} {b : Bn} {n : Nat} {A : PubA} {s : Pu.St} {F : List Nat} {kb rb : Nat} {K : Nat} {T : Int} {x : ByteArray}

set_option maxRecDepth 100000 in
set_option maxHeartbeats 4000000 in
theorem RClose_any (S : Stand w b n A s F) (hk : DeskAt w kb b K T) (hkF : kb ∉ F) {kind blocks taken : Nat} {lv : Value} {dead : Int} {back : Bool} (hrow : w.heap[rb]? = some (.cells (rrow kb x kind lv dead back blocks taken) 106 (0, 0))) (hrF : rb ∉ F) (hlo : b.lo ≤ rb) (hne : rb ≠ kb) :
    Calls Tryz.prog 14 #[ptr rb] w fun e w' => e = .returned (.int .i64 0) ∧ Went w w' b n A (s.give K) F [rb] := by
  have HR := hid (release_any S hk hkF (hb := rb) (x := x) (kind := (kind : Int)) (lv := lv) (dead := dead) (cl := false) ⟨_, _, hrow, rfl, rfl, rfl, rfl, rfl, rfl⟩ hrF hlo hne)
  have c5 := cell_row hrow 5
  simp only [List.getElem?_toArray, List.getElem?_cons_zero, List.getElem?_cons_succ] at c5
  clear S hk hkF hrow hrF hlo hne
  go_enter Tryz.func14, Tryz.ntmps14
  go_wp2_with (go_at_call 43; refine HR.out.mono ?_; rintro e w1 ⟨rfl, hf⟩)
  go_ret
  exact ⟨rfl, hf.2⟩

set_option maxRecDepth 100000 in
set_option maxHeartbeats 4000000 in
theorem RClose_d (S : Stand w b n A s F) (hk : DeskAt w kb b K T) (hkF : kb ∉ F) {kind blocks taken : Nat} {lv : Value} {dead : Int} {back : Bool} (hrow : w.heap[rb]? = some (.cells (rrow kb x kind lv dead back blocks taken) 106 (0, 0))) (hrF : rb ∉ F) (hlo : b.lo ≤ rb) (hne : rb ≠ kb) (u : FrameMode) :
    CallsD Tryz.prog 14 #[ptr rb] u w fun e u' w' => u' = u ∧ (e = .returned (.int .i64 0) ∧ Went w w' b n A (s.give K) F [rb]) := by
  have HR := hid (release_any S hk hkF (hb := rb) (x := x) (kind := (kind : Int)) (lv := lv) (dead := dead) (cl := false) ⟨_, _, hrow, rfl, rfl, rfl, rfl, rfl, rfl⟩ hrF hlo hne)
  have c5 := cell_row hrow 5
  simp only [List.getElem?_toArray, List.getElem?_cons_zero, List.getElem?_cons_succ] at c5
  clear S hk hkF hrow hrF hlo hne
  go_enter_d Tryz.func14, Tryz.ntmps14
  go_wp2_with (go_at_call 43; refine HR.out.mono ?_; rintro e w1 ⟨rfl, hf⟩)
  go_ret
  exact ⟨rfl, hf.2⟩
end
end Go.Proofs.YtclplbnildnifaaGreatDoor
