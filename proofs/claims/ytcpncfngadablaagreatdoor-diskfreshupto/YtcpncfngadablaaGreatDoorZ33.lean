import Derived.Deep.DeepCutAuto
import Derived.Test.YtcpncfngadablaaGreatDoorZ32
/-
  The law.
-/
namespace Go.Proofs.YtcpncfngadablaaGreatDoor
open Go.RowKit Go.Deep ShfKit
set_option maxRecDepth 100000

set_option maxHeartbeats 16000000 in
theorem law {w : World} {E : Nat → Addr} (V : Env w w.heap.size E) (block : Int) {sa : Option Addr} {ca : Nat} {la : List OpA} (ha : OpsAt w sa la) (hna : la.length ≤ 1048576) :
    Calls Tryz.prog 3 #[.int .i64 block, .slice sa la.length ca] w fun e w' => e = .returned (.bool true) ∧ Below w.heap.size w w' := by
  obtain ⟨B, hB⟩ : ∃ B : Nat, saneB block = (B : Int) := ⟨(saneB block).toNat, by unfold saneB; omega⟩
  have h64 : 64 ≤ B := by unfold saneB at hB; omega
  have h65 : B ≤ 65536 := by unfold saneB at hB; omega
  have hB3 : (B : Int) % 32 = 0 := by unfold saneB at hB; omega
  have HSA := hid (fun W => sane_any block W)
  rw [hB] at HSA
  have HNEW := hid (fun W => New_ok (Bs := 1099511627776) h64 h65 hB3 (by omega) (by omega) W)
  have HV := hid V
  have HA := hid ha
  clear V ha hB hB3
  go_enter Tryz.func3, Tryz.ntmps3
  go_wp2_with (first
    | (go_at_call 6; refine (HNEW.out _).mono ?_; rintro e w2 ⟨p, mf, mt, rfl, hR, hb2⟩; have HR := hid hR; have HB2 := hid hb2; clear hR hb2)
    | (go_at_call 7; refine (HSA.out _).mono ?_; rintro e w1 ⟨rfl, hb1⟩; have HB1 := hid hb1; clear hb1))
  have HRU : Hid (∃ D, Runs w2 w.heap.size p mf mt B 0 D) := by
    have h1 := HB1.out.size
    exact hid ⟨_, HR.out.lower h1, rfl, inv_new h64 h65, rfl⟩
  have HW2 : Hid (Below w.heap.size w w2) := hid (HB1.out.trans (by have h1 := HB1.out.size; have h2 := HB2.out; exact ⟨h2.os, h2.tape, h2.output, h2.size, fun b hb => h2.block b (by omega)⟩))
  go_loopw [7] (fun i wr => ∃ (k : Nat) (D : DiskC), k ≤ la.length ∧ i = .int .i64 k ∧ Runs wr w.heap.size p mf mt B k D ∧ Below w.heap.size w wr) (fun i _ => la.length - (intOf i).toNat)
  case atStart =>
    obtain ⟨D, hD⟩ := HRU.out
    exact ⟨0, D, Nat.zero_le _, rfl, hD, HW2.out⟩
  case round =>
    obtain ⟨k, D, hk, rfl, hru, hbw⟩ := hrel
    by_cases hlt : k < la.length
    · obtain ⟨a, sx, m, cx, rfl, c0, c1, c2, c3, c4, hsh, hm, hblk⟩ := HA.out.read hlt hbw
      have hwr := hbw.size
      have HP := hid (fun (w3 : World) (h3 : Touch [] wr w3) => (hru.touch h3).program (HV.out.touch (F := []) ((Touch.of_below (F := []) hbw (Nat.le_refl _)).trans h3 (by simp)) (by simp)) (by omega) la[k] (hsh.touch h3 (by simp)) hm)
      unfold opV at HP
      have HRUN := hid hru
      have HBW := hid hbw
      have HCK : Hid (∀ w4, Below w.heap.size w w4 → w4.cell? (a.add (k * 5)) = some (.int .i64 la[k].kind) ∧ w4.cell? ⟨(a.add (k * 5)).block, (a.add (k * 5)).off + 1, none⟩ = some (.string la[k].name) ∧ w4.cell? ⟨(a.add (k * 5)).block, (a.add (k * 5)).off + 2, none⟩ = some (.int .i64 la[k].N) ∧ w4.cell? ⟨(a.add (k * 5)).block, (a.add (k * 5)).off + 3, none⟩ = some (.int .i64 la[k].bit) ∧ w4.cell? ⟨(a.add (k * 5)).block, (a.add (k * 5)).off + 4, none⟩ = some (.slice sx m cx)) := hid fun w4 h4 => by
        have hc : ∀ q : Addr, q.block = (a.add (k * 5)).block → w4.cell? q = wr.cell? q := fun q hq => (h4.cell (by rw [hq, add_block]; exact hblk)).trans (hbw.cell (by rw [hq, add_block]; exact hblk)).symm
        exact ⟨(hc _ rfl).trans c0, (hc ⟨(a.add (k * 5)).block, (a.add (k * 5)).off + 1, none⟩ rfl).trans c1, (hc ⟨(a.add (k * 5)).block, (a.add (k * 5)).off + 2, none⟩ rfl).trans c2, (hc ⟨(a.add (k * 5)).block, (a.add (k * 5)).off + 3, none⟩ rfl).trans c3, (hc ⟨(a.add (k * 5)).block, (a.add (k * 5)).off + 4, none⟩ rfl).trans c4⟩
      have hfB : ∀ W, (Instr.field 29 (.agg #[.int .i64 (B : Int), .int .i64 1099511627776, .slice none 0 0]) 0).run Tryz.prog W = .ok (.int .i64 B) W := field_B _ _ _
      have i0 : (0 : Int) ≤ (k : Int) := by omega
      have i1 : (k : Int) < (la.length : Int) := by omega
      clear hru hbw hsh
      go_wp2
      go_region_held3 (fun W' => W'.cell? (a.add (k * 5)) = some (.int .i64 la[k].kind) ∧ W'.cell? ⟨(a.add (k * 5)).block, (a.add (k * 5)).off + 1, none⟩ = some (.string la[k].name) ∧ W'.cell? ⟨(a.add (k * 5)).block, (a.add (k * 5)).off + 2, none⟩ = some (.int .i64 la[k].N) ∧ W'.cell? ⟨(a.add (k * 5)).block, (a.add (k * 5)).off + 3, none⟩ = some (.int .i64 la[k].bit) ∧ W'.cell? ⟨(a.add (k * 5)).block, (a.add (k * 5)).off + 4, none⟩ = some (.slice sx m cx)) (go_keep)
        (first
          | (go_at_call 8; refine (HP.out _ HT3.out).mono ?_; rintro e w4 ⟨v, D', rfl, _, hru4, _, ht4, _⟩; have HRU4 := hid hru4; have hb4 : Below w.heap.size w w4 := below_foot (HBW.out.trans (HT3.out.below hwr (by simp))) ht4 (fun b hb => HRUN.out.rep.base b hb) (by have := HT3.out.size; omega); have HB4 := hid hb4; have d0 := HCK.out w4 hb4; clear hru4 ht4 hb4)
          | (go_at_call 7; refine (HSA.out _).mono ?_; rintro e w3 ⟨rfl, hb3⟩; have ht3 : Touch [] wr w3 := (Touch.refl [] wr).drew.trans (Touch.of_below (F := []) hb3 (Nat.le_refl _)) (by simp); have HT3 := hid ht3; have d0 := HCK.out w3 (HBW.out.trans (ht3.below hwr (by simp))); clear hb3 ht3))
      clear d0
      go_wp2
      go_roundw
      case rel => first | exact ⟨k + 1, D', by omega, by go_num, HRU4.out, HB4.out⟩ | ((repeat apply Exists.intro); exact ⟨⟨k + 1, D', by omega, by go_num, HRU4.out, HB4.out⟩, rfl⟩)
      case measure => simp [intOf]; omega
    · obtain rfl : k = la.length := by omega
      obtain ⟨k, hkk⟩ : ∃ k, k = la.length := ⟨_, rfl⟩
      rw [← hkk] at hru hna ⊢
      have HRUN := hid hru
      have HBW := hid hbw
      clear hru hbw hkk hlt hk HA HNEW HRU HW2 HR HB1 HB2
      go_wp2_with fail
      obtain ⟨X, hX⟩ : ∃ X, X = D.pub := ⟨_, rfl⟩
      obtain ⟨ab, hab⟩ : ∃ ab, ab = wr.heap.size := ⟨_, rfl⟩
      obtain ⟨ob, hob⟩ : ∃ ob, ob = wr.heap.size + 1 := ⟨_, rfl⟩
      obtain ⟨W1, hW1⟩ : ∃ W1, W1 = (wr.alloc (.cells #[.int .u8 1, .int .u8 2, .int .u8 3] 5)).alloc (.cells #[.int .i64 2, .string ⟨#[110, 45, 49]⟩, .int .i64 1, .int .i64 0, .slice (some ⟨wr.heap.size, 0, none⟩) 3 3] 40) := ⟨_, rfl⟩
      have FI0 : Hid (Fi w W1 p mf mt B k ob ab [] X D) := by
        have b1 : Below wr.heap.size wr W1 := by rw [hW1]; exact ((Below.refl _ _).alloc (Nat.le_refl _) _).alloc (by simp) _
        have ht : Touch [] wr W1 := Touch.of_below b1 (Nat.le_refl _)
        have hr1 : W1.heap[wr.heap.size]? = some (.cells #[.int .u8 1, .int .u8 2, .int .u8 3] 5 (0, 0)) := by rw [hW1, Below.heap_alloc _ _ _ (by simp)]; exact heap_alloc_new _ _
        have hr2 : W1.heap[wr.heap.size + 1]? = some (.cells #[.int .i64 2, .string ⟨#[110, 45, 49]⟩, .int .i64 1, .int .i64 0, .slice (some ⟨wr.heap.size, 0, none⟩) 3 3] 40 (0, 0)) := by
          rw [hW1]
          have := heap_alloc_new (wr.alloc (.cells #[.int .u8 1, .int .u8 2, .int .u8 3] 5)) (.cells #[.int .i64 2, .string ⟨#[110, 45, 49]⟩, .int .i64 1, .int .i64 0, .slice (some ⟨wr.heap.size, 0, none⟩) 3 3] 40)
          simpa using this
        refine ⟨HRUN.out.touch ht, hX.symm, HBW.out.trans (b1.mono HBW.out.size), by rw [hob, hab]; exact hr2, by rw [hab]; exact hr1, ⟨fun hm => ?_, fun hm => ?_⟩, by simp⟩
        · have := HRUN.out.rep.lt _ hm
          omega
        · have := HRUN.out.rep.lt _ hm
          omega
      have LAST : Hid (∀ (W : World) (t fb : Nat) (X' : PubA) (D' : DiskC) (u0 u1 u2 u3 : Value), Fi w W p mf mt B t ob ab [fb] X' D' → ((((W.setCell ⟨fb, 0, none⟩ u0).setCell ⟨fb, 1, none⟩ u1).setCell ⟨fb, 2, none⟩ u2).setCell ⟨fb, 3, none⟩ u3).cell? ⟨ob, 0, none⟩ = some (.int .i64 2) ∧ ((((W.setCell ⟨fb, 0, none⟩ u0).setCell ⟨fb, 1, none⟩ u1).setCell ⟨fb, 2, none⟩ u2).setCell ⟨fb, 3, none⟩ u3).cell? ⟨ob, 1, none⟩ = some (.string n1S) ∧ ((((W.setCell ⟨fb, 0, none⟩ u0).setCell ⟨fb, 1, none⟩ u1).setCell ⟨fb, 2, none⟩ u2).setCell ⟨fb, 3, none⟩ u3).cell? ⟨ob, 2, none⟩ = some (.int .i64 1) ∧ ((((W.setCell ⟨fb, 0, none⟩ u0).setCell ⟨fb, 1, none⟩ u1).setCell ⟨fb, 2, none⟩ u2).setCell ⟨fb, 3, none⟩ u3).cell? ⟨ob, 3, none⟩ = some (.int .i64 0) ∧ ((((W.setCell ⟨fb, 0, none⟩ u0).setCell ⟨fb, 1, none⟩ u1).setCell ⟨fb, 2, none⟩ u2).setCell ⟨fb, 3, none⟩ u3).cell? ⟨ob, 4, none⟩ = some (.slice (some ⟨ab, 0, none⟩) 3 3)) := fun W t fb X' D' u0 u1 u2 u3 hf => by
        have hne : ob ≠ fb := fun e => by
          have h1 := hf.one
          have h2 := (hf.zero fb (List.mem_cons_self ..)).1
          rw [e, h2] at h1
          simp at h1
        have c := hf.cells
        have hc : ∀ i, ((((W.setCell ⟨fb, 0, none⟩ u0).setCell ⟨fb, 1, none⟩ u1).setCell ⟨fb, 2, none⟩ u2).setCell ⟨fb, 3, none⟩ u3).cell? ⟨ob, i, none⟩ = W.cell? ⟨ob, i, none⟩ := fun i => by
          apply World.cell?_of_block
          show (World.setCell _ _ _).heap[ob]? = _
          rw [Below.heap_setCell _ _ _ _ hne, Below.heap_setCell _ _ _ _ hne, Below.heap_setCell _ _ _ _ hne, Below.heap_setCell _ _ _ _ hne]
        rw [hc, hc, hc, hc, hc]
        exact c
      have FIN9 : Hid (∀ (W : World) (fb : Nat) (D' : DiskC), Fi w W p mf mt B (k + 1 + 1 + 1 + 1) ob ab [fb] (sealA n1S (appendA n1S (bl0 B) (appendA n1S (bl0 B) (createA n1S X).2).2).2).2 D' → Fin9 w ((((W.setCell ⟨fb, 0, none⟩ (.int .i64 (createA n1S X).1)).setCell ⟨fb, 1, none⟩ (.int .i64 (appendA n1S (bl0 B) (createA n1S X).2).1)).setCell ⟨fb, 2, none⟩ (.int .i64 (appendA n1S (bl0 B) (appendA n1S (bl0 B) (createA n1S X).2).2).1)).setCell ⟨fb, 3, none⟩ (.int .i64 (sealA n1S (appendA n1S (bl0 B) (appendA n1S (bl0 B) (createA n1S X).2).2).2).1)) p mf mt B (k + 4) (.pointer (some ⟨fb, 0, none⟩))) := fun W fb D' hf => by
        obtain ⟨hz, hnf, hfb⟩ := hf.zero fb (List.mem_cons_self ..)
        have g1 := heap_setCell_row hz 0 (.int .i64 (createA n1S X).1)
        have g2 := heap_setCell_row g1 1 (.int .i64 (appendA n1S (bl0 B) (createA n1S X).2).1)
        have g3 := heap_setCell_row g2 2 (.int .i64 (appendA n1S (bl0 B) (appendA n1S (bl0 B) (createA n1S X).2).2).1)
        have g4 := heap_setCell_row g3 3 (.int .i64 (sealA n1S (appendA n1S (bl0 B) (appendA n1S (bl0 B) (createA n1S X).2).2).2).1)
        refine ⟨fb, _, _, _, _, D', rfl, g4, fun h0 => ?_, ?_, ?_⟩
        · have hX := (FI0.out).inv.1
          have hXB : X.B = B := by rw [← FI0.out.pub]; exact FI0.out.run.B
          exact fine_ok hX (by omega) (by rw [bl0_len h64, hXB]) h0
        · have ht : Touch [fb] W ((((W.setCell ⟨fb, 0, none⟩ (.int .i64 (createA n1S X).1)).setCell ⟨fb, 1, none⟩ (.int .i64 (appendA n1S (bl0 B) (createA n1S X).2).1)).setCell ⟨fb, 2, none⟩ (.int .i64 (appendA n1S (bl0 B) (appendA n1S (bl0 B) (createA n1S X).2).2).1)).setCell ⟨fb, 3, none⟩ (.int .i64 (sealA n1S (appendA n1S (bl0 B) (appendA n1S (bl0 B) (createA n1S X).2).2).2).1)) := ((((Touch.refl [fb] W).setCell (.inl (by simp)) _).setCell (.inl (by simp)) _).setCell (.inl (by simp)) _).setCell (.inl (by simp)) _
          exact ⟨hf.run.rep.touch ht (fun b hb hm => by simp at hm; subst hm; exact hnf hb), hf.run.T, hf.run.inv, hf.run.B⟩
        · exact (((hf.low.setCell hfb _).setCell hfb _).setCell hfb _).setCell hfb _
      have hfB : ∀ W, (Instr.field 29 (.agg #[.int .i64 (B : Int), .int .i64 1099511627776, .slice none 0 0]) 0).run Tryz.prog W = .ok (.int .i64 B) W := field_B _ _ _
      rw [← hW1, ← hob, ← hab]
      obtain ⟨D1, hD1⟩ : ∃ D1, D1 = D := ⟨_, rfl⟩
      rw [← hD1] at FI0
      clear hX hab hob hW1 hD1 HRUN HBW
      go_cut [9] (fun v9 wx => Fin9 w wx p mf mt B (k + 4) v9)
      case first =>
        refine wp_region_noPanic ?_
        refine wp_region_held_drew (S := fun W => W.cell? ⟨ob, 0, none⟩ = some (.int .i64 2) ∧ W.cell? ⟨ob, 1, none⟩ = some (.string n1S) ∧ W.cell? ⟨ob, 2, none⟩ = some (.int .i64 1) ∧ W.cell? ⟨ob, 3, none⟩ = some (.int .i64 0) ∧ W.cell? ⟨ob, 4, none⟩ = some (.slice (some ⟨ab, 0, none⟩) 3 3)) (by kernel_rfl) FI0.out.cells (fun hHeld => ?_)
        obtain ⟨Yd, hYd⟩ : ∃ Yd, Yd = W1.drew := ⟨_, rfl⟩
        rw [← hYd] at hHeld ⊢
        have F0 : Hid (Fi w Yd p mf mt B k ob ab [] X D1) := by rw [hYd]; exact FI0.out.below (Below.refl _ _).drew
        clear hYd
        refine wpAnyH_take (i := 0) (v := ?_) (by simp only [List.getElem?_toArray, List.getElem?_cons_zero]; rfl) (by kernel_rfl) (by kernel_rfl) (by kernel_rfl) (fun _ _ _ h => h) (Or.inl ⟨by rfl, ?_⟩) (by assumption) ?_
        rotate_left 1
        · intro w hSw; (try dsimp only at hSw); go_simp; (try with_reducible rfl)
        try simp only [Act.put, List.setIfInBounds_toArray, List.set_cons_zero, List.set_cons_succ]
        refine wpAnyH_take (i := 2) (v := ?_) (by simp only [List.getElem?_toArray, List.getElem?_cons_succ, List.getElem?_cons_zero]; rfl) (by kernel_rfl) (by kernel_rfl) (by kernel_rfl) (fun _ _ _ h => h) (Or.inl ⟨by rfl, ?_⟩) (by assumption) ?_
        rotate_left 1
        · intro w hSw; (try dsimp only at hSw); go_simp; (try with_reducible rfl)
        try simp only [Act.put, List.setIfInBounds_toArray, List.set_cons_zero, List.set_cons_succ]
        refine wpAnyH_take (i := 3) (v := ?_) (by simp only [List.getElem?_toArray, List.getElem?_cons_succ, List.getElem?_cons_zero]; rfl) (by kernel_rfl) (by kernel_rfl) (by kernel_rfl) (fun _ _ _ h => h) (Or.inl ⟨by rfl, ?_⟩) (by assumption) ?_
        rotate_left 1
        · intro w hSw; (try dsimp only at hSw); go_simp; (try with_reducible rfl)
        try simp only [Act.put, List.setIfInBounds_toArray, List.set_cons_zero, List.set_cons_succ]
        refine wpAnyH_take (i := 4) (v := ?_) (by simp only [List.getElem?_toArray, List.getElem?_cons_succ, List.getElem?_cons_zero]; rfl) (by kernel_rfl) (by kernel_rfl) (by kernel_rfl) (fun _ _ _ h => h) (Or.inl ⟨by rfl, ?_⟩) (by assumption) ?_
        rotate_left 1
        · intro w hSw; (try dsimp only at hSw); go_simp; (try with_reducible rfl)
        try simp only [Act.put, List.setIfInBounds_toArray, List.set_cons_zero, List.set_cons_succ]
        refine wpAnyH_take (i := 9) (v := ?_) (by simp only [List.getElem?_toArray, List.getElem?_cons_succ, List.getElem?_cons_zero]; rfl) (by kernel_rfl) (by kernel_rfl) (by kernel_rfl) (fun _ _ _ h => h) (Or.inl ⟨by rfl, ?_⟩) (by assumption) ?_
        rotate_left 1
        · intro w hSw; (try dsimp only at hSw); go_simp; (try with_reducible rfl)
        try simp only [Act.put, List.setIfInBounds_toArray, List.set_cons_zero, List.set_cons_succ]
        refine wpAnyH_take (i := 10) (v := ?_) (by simp only [List.getElem?_toArray, List.getElem?_cons_succ, List.getElem?_cons_zero]; rfl) (by kernel_rfl) (by kernel_rfl) (by kernel_rfl) (fun _ _ _ h => h) (Or.inl ⟨by rfl, ?_⟩) (by assumption) ?_
        rotate_left 1
        · intro w hSw; (try dsimp only at hSw); go_simp; (try with_reducible rfl)
        try simp only [Act.put, List.setIfInBounds_toArray, List.set_cons_zero, List.set_cons_succ]
        refine wpAnyH_take (i := 11) (v := ?_) (by simp only [List.getElem?_toArray, List.getElem?_cons_succ, List.getElem?_cons_zero]; rfl) (by kernel_rfl) (by kernel_rfl) (by kernel_rfl) (fun _ _ _ h => h) (Or.inl ⟨by rfl, ?_⟩) (by assumption) ?_
        rotate_left 1
        · intro w hSw; (try dsimp only at hSw); go_simp; (try with_reducible rfl)
        try simp only [Act.put, List.setIfInBounds_toArray, List.set_cons_zero, List.set_cons_succ]
        refine wpAnyH_take (i := 16) (v := ?_) (by simp only [List.getElem?_toArray, List.getElem?_cons_succ, List.getElem?_cons_zero]; rfl) (by kernel_rfl) (by kernel_rfl) (by kernel_rfl) (fun _ _ _ h => h) (Or.inl ⟨by rfl, ?_⟩) (by assumption) ?_
        rotate_left 1
        · intro w hSw; (try dsimp only at hSw); go_simp; (try with_reducible rfl)
        try simp only [Act.put, List.setIfInBounds_toArray, List.set_cons_zero, List.set_cons_succ]
        refine wpAnyH_ready (rs := [1, 19]) (by kernel_rfl) (by simp) ?_
        refine AllReadyH.cons (by simp only [List.getElem?_toArray, List.getElem?_cons_succ, List.getElem?_cons_zero]; rfl) (fun K hK => ?_) (AllReadyH.cons (by simp only [List.getElem?_toArray, List.getElem?_cons_succ, List.getElem?_cons_zero]; rfl) (fun K hK => ?_) AllReadyH.nil)
        · go_simp
          go_at_call 9
          refine Calls.mono (F0.out.create HV.out (by omega) n1S) ?_
          rintro e V1 ⟨rfl, E1, fn⟩
          have F1 := hid fn
          clear fn
          clear hHeld
          refine hK.out _ _ F1.out.cells (fun hHeld => ?_)
          clear hK K
          try simp only [Act.put, List.setIfInBounds_toArray, List.set_cons_zero, List.set_cons_succ]
          refine wpAnyH_ready (rs := [5, 19]) (by kernel_rfl) (by simp) ?_
          refine AllReadyH.cons (by simp only [List.getElem?_toArray, List.getElem?_cons_succ, List.getElem?_cons_zero]; rfl) (fun K hK => ?_) (AllReadyH.cons (by simp only [List.getElem?_toArray, List.getElem?_cons_succ, List.getElem?_cons_zero]; rfl) (fun K hK => ?_) AllReadyH.nil)
          · go_simp
            go_at_call 7
            refine Calls.mono (HSA.out _) ?_
            rintro e V2 ⟨rfl, hb⟩
            have F2 := hid (F1.out.below hb)
            clear hb
            clear hHeld
            refine hK.out _ _ F2.out.cells (fun hHeld => ?_)
            clear hK K
            try simp only [Act.put, List.setIfInBounds_toArray, List.set_cons_zero, List.set_cons_succ]
            refine wpAnyH_take (i := 6) (v := ?_) (by simp only [List.getElem?_toArray, List.getElem?_cons_succ, List.getElem?_cons_zero]; rfl) (by kernel_rfl) (by kernel_rfl) (by kernel_rfl) (fun _ _ _ h => h) (Or.inl ⟨by rfl, ?_⟩) (by assumption) ?_
            rotate_left 1
            · intro w hSw; (try dsimp only at hSw); go_simp; (try with_reducible rfl)
            try simp only [Act.put, List.setIfInBounds_toArray, List.set_cons_zero, List.set_cons_succ]
            refine wpAnyH_ready (rs := [7, 19]) (by kernel_rfl) (by simp) ?_
            refine AllReadyH.cons (by simp only [List.getElem?_toArray, List.getElem?_cons_succ, List.getElem?_cons_zero]; rfl) (fun K hK => ?_) (AllReadyH.cons (by simp only [List.getElem?_toArray, List.getElem?_cons_succ, List.getElem?_cons_zero]; rfl) (fun K hK => ?_) AllReadyH.nil)
            · go_simp
              go_at_call 11
              refine Calls.mono (F2.out.data h64 h65) ?_
              rintro e V3 ⟨sd3, cd3, rfl, sh, nf, fn⟩
              have F3 := hid fn
              have SH3 := hid sh
              have NF3 := hid nf
              clear fn sh nf
              clear hHeld
              refine hK.out _ _ F3.out.cells (fun hHeld => ?_)
              clear hK K
              try simp only [Act.put, List.setIfInBounds_toArray, List.set_cons_zero, List.set_cons_succ]
              refine wpAnyH_ready (rs := [8, 19]) (by kernel_rfl) (by simp) ?_
              refine AllReadyH.cons (by simp only [List.getElem?_toArray, List.getElem?_cons_succ, List.getElem?_cons_zero]; rfl) (fun K hK => ?_) (AllReadyH.cons (by simp only [List.getElem?_toArray, List.getElem?_cons_succ, List.getElem?_cons_zero]; rfl) (fun K hK => ?_) AllReadyH.nil)
              · go_simp
                go_at_call 10
                refine Calls.mono (F3.out.append HV.out (by omega) n1S (SH3.out.touch (F := []) (Touch.refl _ _) (by simp)) NF3.out) ?_
                rintro e V4 ⟨rfl, E4, fn⟩
                have F4 := hid fn
                clear fn
                clear hHeld
                refine hK.out _ _ F4.out.cells (fun hHeld => ?_)
                clear hK K
                try simp only [Act.put, List.setIfInBounds_toArray, List.set_cons_zero, List.set_cons_succ]
                refine wpAnyH_ready (rs := [12, 19]) (by kernel_rfl) (by simp) ?_
                refine AllReadyH.cons (by simp only [List.getElem?_toArray, List.getElem?_cons_succ, List.getElem?_cons_zero]; rfl) (fun K hK => ?_) (AllReadyH.cons (by simp only [List.getElem?_toArray, List.getElem?_cons_succ, List.getElem?_cons_zero]; rfl) (fun K hK => ?_) AllReadyH.nil)
                · go_simp
                  go_at_call 7
                  refine Calls.mono (HSA.out _) ?_
                  rintro e V5 ⟨rfl, hb⟩
                  have F5 := hid (F4.out.below hb)
                  clear hb
                  clear hHeld
                  refine hK.out _ _ F5.out.cells (fun hHeld => ?_)
                  clear hK K
                  try simp only [Act.put, List.setIfInBounds_toArray, List.set_cons_zero, List.set_cons_succ]
                  refine wpAnyH_take (i := 13) (v := ?_) (by simp only [List.getElem?_toArray, List.getElem?_cons_succ, List.getElem?_cons_zero]; rfl) (by kernel_rfl) (by kernel_rfl) (by kernel_rfl) (fun _ _ _ h => h) (Or.inl ⟨by rfl, ?_⟩) (by assumption) ?_
                  rotate_left 1
                  · intro w hSw; (try dsimp only at hSw); go_simp; (try with_reducible rfl)
                  try simp only [Act.put, List.setIfInBounds_toArray, List.set_cons_zero, List.set_cons_succ]
                  refine wpAnyH_ready (rs := [14, 19]) (by kernel_rfl) (by simp) ?_
                  refine AllReadyH.cons (by simp only [List.getElem?_toArray, List.getElem?_cons_succ, List.getElem?_cons_zero]; rfl) (fun K hK => ?_) (AllReadyH.cons (by simp only [List.getElem?_toArray, List.getElem?_cons_succ, List.getElem?_cons_zero]; rfl) (fun K hK => ?_) AllReadyH.nil)
                  · go_simp
                    go_at_call 11
                    refine Calls.mono (F5.out.data h64 h65) ?_
                    rintro e V6 ⟨sd6, cd6, rfl, sh, nf, fn⟩
                    have F6 := hid fn
                    have SH6 := hid sh
                    have NF6 := hid nf
                    clear fn sh nf
                    clear hHeld
                    refine hK.out _ _ F6.out.cells (fun hHeld => ?_)
                    clear hK K
                    try simp only [Act.put, List.setIfInBounds_toArray, List.set_cons_zero, List.set_cons_succ]
                    refine wpAnyH_ready (rs := [15, 19]) (by kernel_rfl) (by simp) ?_
                    refine AllReadyH.cons (by simp only [List.getElem?_toArray, List.getElem?_cons_succ, List.getElem?_cons_zero]; rfl) (fun K hK => ?_) (AllReadyH.cons (by simp only [List.getElem?_toArray, List.getElem?_cons_succ, List.getElem?_cons_zero]; rfl) (fun K hK => ?_) AllReadyH.nil)
                    · go_simp
                      go_at_call 10
                      refine Calls.mono (F6.out.append HV.out (by omega) n1S (SH6.out.touch (F := []) (Touch.refl _ _) (by simp)) NF6.out) ?_
                      rintro e V7 ⟨rfl, E7, fn⟩
                      have F7 := hid fn
                      clear fn
                      clear hHeld
                      refine hK.out _ _ F7.out.cells (fun hHeld => ?_)
                      clear hK K
                      try simp only [Act.put, List.setIfInBounds_toArray, List.set_cons_zero, List.set_cons_succ]
                      refine wpAnyH_ready (rs := [17, 19]) (by kernel_rfl) (by simp) ?_
                      refine AllReadyH.cons (by simp only [List.getElem?_toArray, List.getElem?_cons_succ, List.getElem?_cons_zero]; rfl) (fun K hK => ?_) (AllReadyH.cons (by simp only [List.getElem?_toArray, List.getElem?_cons_succ, List.getElem?_cons_zero]; rfl) (fun K hK => ?_) AllReadyH.nil)
                      · go_simp
                        go_at_call 12
                        refine Calls.mono (F7.out.seal HV.out (by omega) n1S) ?_
                        rintro e V8 ⟨rfl, E8, fn⟩
                        have F8 := hid fn
                        clear fn
                        clear hHeld
                        refine hK.out _ _ F8.out.cells (fun hHeld => ?_)
                        clear hK K
                        try simp only [Act.put, List.setIfInBounds_toArray, List.set_cons_zero, List.set_cons_succ]
                        refine wpAnyH_take (i := 18) (v := ?_) (by simp only [List.getElem?_toArray, List.getElem?_cons_succ, List.getElem?_cons_zero]; rfl) (by kernel_rfl) (by kernel_rfl) (by kernel_rfl) (fun _ _ _ h => h) (Or.inl ⟨by rfl, ?_⟩) (by assumption) ?_
                        rotate_left 1
                        · intro w hSw; (try dsimp only at hSw); go_simp; (try with_reducible rfl)
                        try simp only [Act.put, List.setIfInBounds_toArray, List.set_cons_zero, List.set_cons_succ]
                        refine wpAnyH_ready (rs := [19]) (by kernel_rfl) (by simp) ?_
                        refine AllReadyH.cons (by simp only [List.getElem?_toArray, List.getElem?_cons_succ, List.getElem?_cons_zero]; rfl) (fun K hK => ?_) AllReadyH.nil
                        go_simp
                        have A8 := hid F8.out.alloc
                        obtain ⟨U8, hU8⟩ : ∃ U, U = V8.alloc (.cells #[.int .i64 0, .int .i64 0, .int .i64 0, .int .i64 0] 44) := ⟨_, rfl⟩
                        rw [← hU8] at A8 ⊢
                        have TU8 : Hid (Touch [] V8 U8) := by rw [hU8]; exact (Touch.refl [] _).alloc _
                        clear hU8
                        clear hHeld
                        refine hK.out _ _ A8.out.cells (fun hHeld => ?_)
                        clear hK K
                        try simp only [Act.put, List.setIfInBounds_toArray, List.set_cons_zero, List.set_cons_succ]
                        refine wpAnyH_ready (rs := [20]) (by kernel_rfl) (by simp) ?_
                        refine AllReadyH.cons (by simp only [List.getElem?_toArray, List.getElem?_cons_succ, List.getElem?_cons_zero]; rfl) (fun K hK => ?_) AllReadyH.nil
                        skip
                        have hz := (A8.out.zero _ (List.mem_cons_self ..)).1
                        have fr := fun i => unfrozen_row hz i
                        have cz := fun i => cell_row hz i
                        go_simp
                        clear hz fr cz
                        clear hHeld
                        refine hK.out _ _ (LAST.out _ _ _ _ _ _ _ _ _ A8.out) (fun hHeld => ?_)
                        clear hK K
                        try simp only [Act.put, List.setIfInBounds_toArray, List.set_cons_zero, List.set_cons_succ]
                        refine wpAnyH_done (by kernel_rfl) ?_ _
                        refine NoPanic.normal ?_
                        go_wp2_with fail
                        go_meet
                        exact FIN9.out _ _ _ A8.out
                      · go_simp
                        have A7 := hid F7.out.alloc
                        obtain ⟨U7, hU7⟩ : ∃ U, U = V7.alloc (.cells #[.int .i64 0, .int .i64 0, .int .i64 0, .int .i64 0] 44) := ⟨_, rfl⟩
                        rw [← hU7] at A7 ⊢
                        have TU7 : Hid (Touch [] V7 U7) := by rw [hU7]; exact (Touch.refl [] _).alloc _
                        clear hU7
                        clear hHeld
                        refine hK.out _ _ A7.out.cells (fun hHeld => ?_)
                        clear hK K
                        try simp only [Act.put, List.setIfInBounds_toArray, List.set_cons_zero, List.set_cons_succ]
                        refine wpAnyH_ready (rs := [17]) (by kernel_rfl) (by simp) ?_
                        refine AllReadyH.cons (by simp only [List.getElem?_toArray, List.getElem?_cons_succ, List.getElem?_cons_zero]; rfl) (fun K hK => ?_) AllReadyH.nil
                        go_simp
                        go_at_call 12
                        refine Calls.mono (A7.out.seal HV.out (by omega) n1S) ?_
                        rintro e V8 ⟨rfl, E8, fn⟩
                        have F8 := hid fn
                        clear fn
                        clear hHeld
                        refine hK.out _ _ F8.out.cells (fun hHeld => ?_)
                        clear hK K
                        try simp only [Act.put, List.setIfInBounds_toArray, List.set_cons_zero, List.set_cons_succ]
                        refine wpAnyH_take (i := 18) (v := ?_) (by simp only [List.getElem?_toArray, List.getElem?_cons_succ, List.getElem?_cons_zero]; rfl) (by kernel_rfl) (by kernel_rfl) (by kernel_rfl) (fun _ _ _ h => h) (Or.inl ⟨by rfl, ?_⟩) (by assumption) ?_
                        rotate_left 1
                        · intro w hSw; (try dsimp only at hSw); go_simp; (try with_reducible rfl)
                        try simp only [Act.put, List.setIfInBounds_toArray, List.set_cons_zero, List.set_cons_succ]
                        refine wpAnyH_ready (rs := [20]) (by kernel_rfl) (by simp) ?_
                        refine AllReadyH.cons (by simp only [List.getElem?_toArray, List.getElem?_cons_succ, List.getElem?_cons_zero]; rfl) (fun K hK => ?_) AllReadyH.nil
                        skip
                        have hz := (F8.out.zero _ (List.mem_cons_self ..)).1
                        have fr := fun i => unfrozen_row hz i
                        have cz := fun i => cell_row hz i
                        go_simp
                        clear hz fr cz
                        clear hHeld
                        refine hK.out _ _ (LAST.out _ _ _ _ _ _ _ _ _ F8.out) (fun hHeld => ?_)
                        clear hK K
                        try simp only [Act.put, List.setIfInBounds_toArray, List.set_cons_zero, List.set_cons_succ]
                        refine wpAnyH_done (by kernel_rfl) ?_ _
                        refine NoPanic.normal ?_
                        go_wp2_with fail
                        go_meet
                        exact FIN9.out _ _ _ F8.out
                    · go_simp
                      have A6 := hid F6.out.alloc
                      obtain ⟨U6, hU6⟩ : ∃ U, U = V6.alloc (.cells #[.int .i64 0, .int .i64 0, .int .i64 0, .int .i64 0] 44) := ⟨_, rfl⟩
                      rw [← hU6] at A6 ⊢
                      have TU6 : Hid (Touch [] V6 U6) := by rw [hU6]; exact (Touch.refl [] _).alloc _
                      clear hU6
                      clear hHeld
                      refine hK.out _ _ A6.out.cells (fun hHeld => ?_)
                      clear hK K
                      try simp only [Act.put, List.setIfInBounds_toArray, List.set_cons_zero, List.set_cons_succ]
                      refine wpAnyH_ready (rs := [15]) (by kernel_rfl) (by simp) ?_
                      refine AllReadyH.cons (by simp only [List.getElem?_toArray, List.getElem?_cons_succ, List.getElem?_cons_zero]; rfl) (fun K hK => ?_) AllReadyH.nil
                      go_simp
                      go_at_call 10
                      refine Calls.mono (A6.out.append HV.out (by omega) n1S (SH6.out.touch (F := []) (TU6.out) (by simp)) NF6.out) ?_
                      rintro e V7 ⟨rfl, E7, fn⟩
                      have F7 := hid fn
                      clear fn
                      clear hHeld
                      refine hK.out _ _ F7.out.cells (fun hHeld => ?_)
                      clear hK K
                      try simp only [Act.put, List.setIfInBounds_toArray, List.set_cons_zero, List.set_cons_succ]
                      refine wpAnyH_ready (rs := [17]) (by kernel_rfl) (by simp) ?_
                      refine AllReadyH.cons (by simp only [List.getElem?_toArray, List.getElem?_cons_succ, List.getElem?_cons_zero]; rfl) (fun K hK => ?_) AllReadyH.nil
                      go_simp
                      go_at_call 12
                      refine Calls.mono (F7.out.seal HV.out (by omega) n1S) ?_
                      rintro e V8 ⟨rfl, E8, fn⟩
                      have F8 := hid fn
                      clear fn
                      clear hHeld
                      refine hK.out _ _ F8.out.cells (fun hHeld => ?_)
                      clear hK K
                      try simp only [Act.put, List.setIfInBounds_toArray, List.set_cons_zero, List.set_cons_succ]
                      refine wpAnyH_take (i := 18) (v := ?_) (by simp only [List.getElem?_toArray, List.getElem?_cons_succ, List.getElem?_cons_zero]; rfl) (by kernel_rfl) (by kernel_rfl) (by kernel_rfl) (fun _ _ _ h => h) (Or.inl ⟨by rfl, ?_⟩) (by assumption) ?_
                      rotate_left 1
                      · intro w hSw; (try dsimp only at hSw); go_simp; (try with_reducible rfl)
                      try simp only [Act.put, List.setIfInBounds_toArray, List.set_cons_zero, List.set_cons_succ]
                      refine wpAnyH_ready (rs := [20]) (by kernel_rfl) (by simp) ?_
                      refine AllReadyH.cons (by simp only [List.getElem?_toArray, List.getElem?_cons_succ, List.getElem?_cons_zero]; rfl) (fun K hK => ?_) AllReadyH.nil
                      skip
                      have hz := (F8.out.zero _ (List.mem_cons_self ..)).1
                      have fr := fun i => unfrozen_row hz i
                      have cz := fun i => cell_row hz i
                      go_simp
                      clear hz fr cz
                      clear hHeld
                      refine hK.out _ _ (LAST.out _ _ _ _ _ _ _ _ _ F8.out) (fun hHeld => ?_)
                      clear hK K
                      try simp only [Act.put, List.setIfInBounds_toArray, List.set_cons_zero, List.set_cons_succ]
                      refine wpAnyH_done (by kernel_rfl) ?_ _
                      refine NoPanic.normal ?_
                      go_wp2_with fail
                      go_meet
                      exact FIN9.out _ _ _ F8.out
                  · go_simp
                    have A5 := hid F5.out.alloc
                    obtain ⟨U5, hU5⟩ : ∃ U, U = V5.alloc (.cells #[.int .i64 0, .int .i64 0, .int .i64 0, .int .i64 0] 44) := ⟨_, rfl⟩
                    rw [← hU5] at A5 ⊢
                    have TU5 : Hid (Touch [] V5 U5) := by rw [hU5]; exact (Touch.refl [] _).alloc _
                    clear hU5
                    clear hHeld
                    refine hK.out _ _ A5.out.cells (fun hHeld => ?_)
                    clear hK K
                    try simp only [Act.put, List.setIfInBounds_toArray, List.set_cons_zero, List.set_cons_succ]
                    refine wpAnyH_ready (rs := [14]) (by kernel_rfl) (by simp) ?_
                    refine AllReadyH.cons (by simp only [List.getElem?_toArray, List.getElem?_cons_succ, List.getElem?_cons_zero]; rfl) (fun K hK => ?_) AllReadyH.nil
                    go_simp
                    go_at_call 11
                    refine Calls.mono (A5.out.data h64 h65) ?_
                    rintro e V6 ⟨sd6, cd6, rfl, sh, nf, fn⟩
                    have F6 := hid fn
                    have SH6 := hid sh
                    have NF6 := hid nf
                    clear fn sh nf
                    clear hHeld
                    refine hK.out _ _ F6.out.cells (fun hHeld => ?_)
                    clear hK K
                    try simp only [Act.put, List.setIfInBounds_toArray, List.set_cons_zero, List.set_cons_succ]
                    refine wpAnyH_ready (rs := [15]) (by kernel_rfl) (by simp) ?_
                    refine AllReadyH.cons (by simp only [List.getElem?_toArray, List.getElem?_cons_succ, List.getElem?_cons_zero]; rfl) (fun K hK => ?_) AllReadyH.nil
                    go_simp
                    go_at_call 10
                    refine Calls.mono (F6.out.append HV.out (by omega) n1S (SH6.out.touch (F := []) (Touch.refl _ _) (by simp)) NF6.out) ?_
                    rintro e V7 ⟨rfl, E7, fn⟩
                    have F7 := hid fn
                    clear fn
                    clear hHeld
                    refine hK.out _ _ F7.out.cells (fun hHeld => ?_)
                    clear hK K
                    try simp only [Act.put, List.setIfInBounds_toArray, List.set_cons_zero, List.set_cons_succ]
                    refine wpAnyH_ready (rs := [17]) (by kernel_rfl) (by simp) ?_
                    refine AllReadyH.cons (by simp only [List.getElem?_toArray, List.getElem?_cons_succ, List.getElem?_cons_zero]; rfl) (fun K hK => ?_) AllReadyH.nil
                    go_simp
                    go_at_call 12
                    refine Calls.mono (F7.out.seal HV.out (by omega) n1S) ?_
                    rintro e V8 ⟨rfl, E8, fn⟩
                    have F8 := hid fn
                    clear fn
                    clear hHeld
                    refine hK.out _ _ F8.out.cells (fun hHeld => ?_)
                    clear hK K
                    try simp only [Act.put, List.setIfInBounds_toArray, List.set_cons_zero, List.set_cons_succ]
                    refine wpAnyH_take (i := 18) (v := ?_) (by simp only [List.getElem?_toArray, List.getElem?_cons_succ, List.getElem?_cons_zero]; rfl) (by kernel_rfl) (by kernel_rfl) (by kernel_rfl) (fun _ _ _ h => h) (Or.inl ⟨by rfl, ?_⟩) (by assumption) ?_
                    rotate_left 1
                    · intro w hSw; (try dsimp only at hSw); go_simp; (try with_reducible rfl)
                    try simp only [Act.put, List.setIfInBounds_toArray, List.set_cons_zero, List.set_cons_succ]
                    refine wpAnyH_ready (rs := [20]) (by kernel_rfl) (by simp) ?_
                    refine AllReadyH.cons (by simp only [List.getElem?_toArray, List.getElem?_cons_succ, List.getElem?_cons_zero]; rfl) (fun K hK => ?_) AllReadyH.nil
                    skip
                    have hz := (F8.out.zero _ (List.mem_cons_self ..)).1
                    have fr := fun i => unfrozen_row hz i
                    have cz := fun i => cell_row hz i
                    go_simp
                    clear hz fr cz
                    clear hHeld
                    refine hK.out _ _ (LAST.out _ _ _ _ _ _ _ _ _ F8.out) (fun hHeld => ?_)
                    clear hK K
                    try simp only [Act.put, List.setIfInBounds_toArray, List.set_cons_zero, List.set_cons_succ]
                    refine wpAnyH_done (by kernel_rfl) ?_ _
                    refine NoPanic.normal ?_
                    go_wp2_with fail
                    go_meet
                    exact FIN9.out _ _ _ F8.out
                · go_simp
                  have A4 := hid F4.out.alloc
                  obtain ⟨U4, hU4⟩ : ∃ U, U = V4.alloc (.cells #[.int .i64 0, .int .i64 0, .int .i64 0, .int .i64 0] 44) := ⟨_, rfl⟩
                  rw [← hU4] at A4 ⊢
                  have TU4 : Hid (Touch [] V4 U4) := by rw [hU4]; exact (Touch.refl [] _).alloc _
                  clear hU4
                  clear hHeld
                  refine hK.out _ _ A4.out.cells (fun hHeld => ?_)
                  clear hK K
                  try simp only [Act.put, List.setIfInBounds_toArray, List.set_cons_zero, List.set_cons_succ]
                  refine wpAnyH_ready (rs := [12]) (by kernel_rfl) (by simp) ?_
                  refine AllReadyH.cons (by simp only [List.getElem?_toArray, List.getElem?_cons_succ, List.getElem?_cons_zero]; rfl) (fun K hK => ?_) AllReadyH.nil
                  go_simp
                  go_at_call 7
                  refine Calls.mono (HSA.out _) ?_
                  rintro e V5 ⟨rfl, hb⟩
                  have F5 := hid (A4.out.below hb)
                  clear hb
                  clear hHeld
                  refine hK.out _ _ F5.out.cells (fun hHeld => ?_)
                  clear hK K
                  try simp only [Act.put, List.setIfInBounds_toArray, List.set_cons_zero, List.set_cons_succ]
                  refine wpAnyH_take (i := 13) (v := ?_) (by simp only [List.getElem?_toArray, List.getElem?_cons_succ, List.getElem?_cons_zero]; rfl) (by kernel_rfl) (by kernel_rfl) (by kernel_rfl) (fun _ _ _ h => h) (Or.inl ⟨by rfl, ?_⟩) (by assumption) ?_
                  rotate_left 1
                  · intro w hSw; (try dsimp only at hSw); go_simp; (try with_reducible rfl)
                  try simp only [Act.put, List.setIfInBounds_toArray, List.set_cons_zero, List.set_cons_succ]
                  refine wpAnyH_ready (rs := [14]) (by kernel_rfl) (by simp) ?_
                  refine AllReadyH.cons (by simp only [List.getElem?_toArray, List.getElem?_cons_succ, List.getElem?_cons_zero]; rfl) (fun K hK => ?_) AllReadyH.nil
                  go_simp
                  go_at_call 11
                  refine Calls.mono (F5.out.data h64 h65) ?_
                  rintro e V6 ⟨sd6, cd6, rfl, sh, nf, fn⟩
                  have F6 := hid fn
                  have SH6 := hid sh
                  have NF6 := hid nf
                  clear fn sh nf
                  clear hHeld
                  refine hK.out _ _ F6.out.cells (fun hHeld => ?_)
                  clear hK K
                  try simp only [Act.put, List.setIfInBounds_toArray, List.set_cons_zero, List.set_cons_succ]
                  refine wpAnyH_ready (rs := [15]) (by kernel_rfl) (by simp) ?_
                  refine AllReadyH.cons (by simp only [List.getElem?_toArray, List.getElem?_cons_succ, List.getElem?_cons_zero]; rfl) (fun K hK => ?_) AllReadyH.nil
                  go_simp
                  go_at_call 10
                  refine Calls.mono (F6.out.append HV.out (by omega) n1S (SH6.out.touch (F := []) (Touch.refl _ _) (by simp)) NF6.out) ?_
                  rintro e V7 ⟨rfl, E7, fn⟩
                  have F7 := hid fn
                  clear fn
                  clear hHeld
                  refine hK.out _ _ F7.out.cells (fun hHeld => ?_)
                  clear hK K
                  try simp only [Act.put, List.setIfInBounds_toArray, List.set_cons_zero, List.set_cons_succ]
                  refine wpAnyH_ready (rs := [17]) (by kernel_rfl) (by simp) ?_
                  refine AllReadyH.cons (by simp only [List.getElem?_toArray, List.getElem?_cons_succ, List.getElem?_cons_zero]; rfl) (fun K hK => ?_) AllReadyH.nil
                  go_simp
                  go_at_call 12
                  refine Calls.mono (F7.out.seal HV.out (by omega) n1S) ?_
                  rintro e V8 ⟨rfl, E8, fn⟩
                  have F8 := hid fn
                  clear fn
                  clear hHeld
                  refine hK.out _ _ F8.out.cells (fun hHeld => ?_)
                  clear hK K
                  try simp only [Act.put, List.setIfInBounds_toArray, List.set_cons_zero, List.set_cons_succ]
                  refine wpAnyH_take (i := 18) (v := ?_) (by simp only [List.getElem?_toArray, List.getElem?_cons_succ, List.getElem?_cons_zero]; rfl) (by kernel_rfl) (by kernel_rfl) (by kernel_rfl) (fun _ _ _ h => h) (Or.inl ⟨by rfl, ?_⟩) (by assumption) ?_
                  rotate_left 1
                  · intro w hSw; (try dsimp only at hSw); go_simp; (try with_reducible rfl)
                  try simp only [Act.put, List.setIfInBounds_toArray, List.set_cons_zero, List.set_cons_succ]
                  refine wpAnyH_ready (rs := [20]) (by kernel_rfl) (by simp) ?_
                  refine AllReadyH.cons (by simp only [List.getElem?_toArray, List.getElem?_cons_succ, List.getElem?_cons_zero]; rfl) (fun K hK => ?_) AllReadyH.nil
                  skip
                  have hz := (F8.out.zero _ (List.mem_cons_self ..)).1
                  have fr := fun i => unfrozen_row hz i
                  have cz := fun i => cell_row hz i
                  go_simp
                  clear hz fr cz
                  clear hHeld
                  refine hK.out _ _ (LAST.out _ _ _ _ _ _ _ _ _ F8.out) (fun hHeld => ?_)
                  clear hK K
                  try simp only [Act.put, List.setIfInBounds_toArray, List.set_cons_zero, List.set_cons_succ]
                  refine wpAnyH_done (by kernel_rfl) ?_ _
                  refine NoPanic.normal ?_
                  go_wp2_with fail
                  go_meet
                  exact FIN9.out _ _ _ F8.out
              · go_simp
                have A3 := hid F3.out.alloc
                obtain ⟨U3, hU3⟩ : ∃ U, U = V3.alloc (.cells #[.int .i64 0, .int .i64 0, .int .i64 0, .int .i64 0] 44) := ⟨_, rfl⟩
                rw [← hU3] at A3 ⊢
                have TU3 : Hid (Touch [] V3 U3) := by rw [hU3]; exact (Touch.refl [] _).alloc _
                clear hU3
                clear hHeld
                refine hK.out _ _ A3.out.cells (fun hHeld => ?_)
                clear hK K
                try simp only [Act.put, List.setIfInBounds_toArray, List.set_cons_zero, List.set_cons_succ]
                refine wpAnyH_ready (rs := [8]) (by kernel_rfl) (by simp) ?_
                refine AllReadyH.cons (by simp only [List.getElem?_toArray, List.getElem?_cons_succ, List.getElem?_cons_zero]; rfl) (fun K hK => ?_) AllReadyH.nil
                go_simp
                go_at_call 10
                refine Calls.mono (A3.out.append HV.out (by omega) n1S (SH3.out.touch (F := []) (TU3.out) (by simp)) NF3.out) ?_
                rintro e V4 ⟨rfl, E4, fn⟩
                have F4 := hid fn
                clear fn
                clear hHeld
                refine hK.out _ _ F4.out.cells (fun hHeld => ?_)
                clear hK K
                try simp only [Act.put, List.setIfInBounds_toArray, List.set_cons_zero, List.set_cons_succ]
                refine wpAnyH_ready (rs := [12]) (by kernel_rfl) (by simp) ?_
                refine AllReadyH.cons (by simp only [List.getElem?_toArray, List.getElem?_cons_succ, List.getElem?_cons_zero]; rfl) (fun K hK => ?_) AllReadyH.nil
                go_simp
                go_at_call 7
                refine Calls.mono (HSA.out _) ?_
                rintro e V5 ⟨rfl, hb⟩
                have F5 := hid (F4.out.below hb)
                clear hb
                clear hHeld
                refine hK.out _ _ F5.out.cells (fun hHeld => ?_)
                clear hK K
                try simp only [Act.put, List.setIfInBounds_toArray, List.set_cons_zero, List.set_cons_succ]
                refine wpAnyH_take (i := 13) (v := ?_) (by simp only [List.getElem?_toArray, List.getElem?_cons_succ, List.getElem?_cons_zero]; rfl) (by kernel_rfl) (by kernel_rfl) (by kernel_rfl) (fun _ _ _ h => h) (Or.inl ⟨by rfl, ?_⟩) (by assumption) ?_
                rotate_left 1
                · intro w hSw; (try dsimp only at hSw); go_simp; (try with_reducible rfl)
                try simp only [Act.put, List.setIfInBounds_toArray, List.set_cons_zero, List.set_cons_succ]
                refine wpAnyH_ready (rs := [14]) (by kernel_rfl) (by simp) ?_
                refine AllReadyH.cons (by simp only [List.getElem?_toArray, List.getElem?_cons_succ, List.getElem?_cons_zero]; rfl) (fun K hK => ?_) AllReadyH.nil
                go_simp
                go_at_call 11
                refine Calls.mono (F5.out.data h64 h65) ?_
                rintro e V6 ⟨sd6, cd6, rfl, sh, nf, fn⟩
                have F6 := hid fn
                have SH6 := hid sh
                have NF6 := hid nf
                clear fn sh nf
                clear hHeld
                refine hK.out _ _ F6.out.cells (fun hHeld => ?_)
                clear hK K
                try simp only [Act.put, List.setIfInBounds_toArray, List.set_cons_zero, List.set_cons_succ]
                refine wpAnyH_ready (rs := [15]) (by kernel_rfl) (by simp) ?_
                refine AllReadyH.cons (by simp only [List.getElem?_toArray, List.getElem?_cons_succ, List.getElem?_cons_zero]; rfl) (fun K hK => ?_) AllReadyH.nil
                go_simp
                go_at_call 10
                refine Calls.mono (F6.out.append HV.out (by omega) n1S (SH6.out.touch (F := []) (Touch.refl _ _) (by simp)) NF6.out) ?_
                rintro e V7 ⟨rfl, E7, fn⟩
                have F7 := hid fn
                clear fn
                clear hHeld
                refine hK.out _ _ F7.out.cells (fun hHeld => ?_)
                clear hK K
                try simp only [Act.put, List.setIfInBounds_toArray, List.set_cons_zero, List.set_cons_succ]
                refine wpAnyH_ready (rs := [17]) (by kernel_rfl) (by simp) ?_
                refine AllReadyH.cons (by simp only [List.getElem?_toArray, List.getElem?_cons_succ, List.getElem?_cons_zero]; rfl) (fun K hK => ?_) AllReadyH.nil
                go_simp
                go_at_call 12
                refine Calls.mono (F7.out.seal HV.out (by omega) n1S) ?_
                rintro e V8 ⟨rfl, E8, fn⟩
                have F8 := hid fn
                clear fn
                clear hHeld
                refine hK.out _ _ F8.out.cells (fun hHeld => ?_)
                clear hK K
                try simp only [Act.put, List.setIfInBounds_toArray, List.set_cons_zero, List.set_cons_succ]
                refine wpAnyH_take (i := 18) (v := ?_) (by simp only [List.getElem?_toArray, List.getElem?_cons_succ, List.getElem?_cons_zero]; rfl) (by kernel_rfl) (by kernel_rfl) (by kernel_rfl) (fun _ _ _ h => h) (Or.inl ⟨by rfl, ?_⟩) (by assumption) ?_
                rotate_left 1
                · intro w hSw; (try dsimp only at hSw); go_simp; (try with_reducible rfl)
                try simp only [Act.put, List.setIfInBounds_toArray, List.set_cons_zero, List.set_cons_succ]
                refine wpAnyH_ready (rs := [20]) (by kernel_rfl) (by simp) ?_
                refine AllReadyH.cons (by simp only [List.getElem?_toArray, List.getElem?_cons_succ, List.getElem?_cons_zero]; rfl) (fun K hK => ?_) AllReadyH.nil
                skip
                have hz := (F8.out.zero _ (List.mem_cons_self ..)).1
                have fr := fun i => unfrozen_row hz i
                have cz := fun i => cell_row hz i
                go_simp
                clear hz fr cz
                clear hHeld
                refine hK.out _ _ (LAST.out _ _ _ _ _ _ _ _ _ F8.out) (fun hHeld => ?_)
                clear hK K
                try simp only [Act.put, List.setIfInBounds_toArray, List.set_cons_zero, List.set_cons_succ]
                refine wpAnyH_done (by kernel_rfl) ?_ _
                refine NoPanic.normal ?_
                go_wp2_with fail
                go_meet
                exact FIN9.out _ _ _ F8.out
            · go_simp
              have A2 := hid F2.out.alloc
              obtain ⟨U2, hU2⟩ : ∃ U, U = V2.alloc (.cells #[.int .i64 0, .int .i64 0, .int .i64 0, .int .i64 0] 44) := ⟨_, rfl⟩
              rw [← hU2] at A2 ⊢
              have TU2 : Hid (Touch [] V2 U2) := by rw [hU2]; exact (Touch.refl [] _).alloc _
              clear hU2
              clear hHeld
              refine hK.out _ _ A2.out.cells (fun hHeld => ?_)
              clear hK K
              try simp only [Act.put, List.setIfInBounds_toArray, List.set_cons_zero, List.set_cons_succ]
              refine wpAnyH_ready (rs := [7]) (by kernel_rfl) (by simp) ?_
              refine AllReadyH.cons (by simp only [List.getElem?_toArray, List.getElem?_cons_succ, List.getElem?_cons_zero]; rfl) (fun K hK => ?_) AllReadyH.nil
              go_simp
              go_at_call 11
              refine Calls.mono (A2.out.data h64 h65) ?_
              rintro e V3 ⟨sd3, cd3, rfl, sh, nf, fn⟩
              have F3 := hid fn
              have SH3 := hid sh
              have NF3 := hid nf
              clear fn sh nf
              clear hHeld
              refine hK.out _ _ F3.out.cells (fun hHeld => ?_)
              clear hK K
              try simp only [Act.put, List.setIfInBounds_toArray, List.set_cons_zero, List.set_cons_succ]
              refine wpAnyH_ready (rs := [8]) (by kernel_rfl) (by simp) ?_
              refine AllReadyH.cons (by simp only [List.getElem?_toArray, List.getElem?_cons_succ, List.getElem?_cons_zero]; rfl) (fun K hK => ?_) AllReadyH.nil
              go_simp
              go_at_call 10
              refine Calls.mono (F3.out.append HV.out (by omega) n1S (SH3.out.touch (F := []) (Touch.refl _ _) (by simp)) NF3.out) ?_
              rintro e V4 ⟨rfl, E4, fn⟩
              have F4 := hid fn
              clear fn
              clear hHeld
              refine hK.out _ _ F4.out.cells (fun hHeld => ?_)
              clear hK K
              try simp only [Act.put, List.setIfInBounds_toArray, List.set_cons_zero, List.set_cons_succ]
              refine wpAnyH_ready (rs := [12]) (by kernel_rfl) (by simp) ?_
              refine AllReadyH.cons (by simp only [List.getElem?_toArray, List.getElem?_cons_succ, List.getElem?_cons_zero]; rfl) (fun K hK => ?_) AllReadyH.nil
              go_simp
              go_at_call 7
              refine Calls.mono (HSA.out _) ?_
              rintro e V5 ⟨rfl, hb⟩
              have F5 := hid (F4.out.below hb)
              clear hb
              clear hHeld
              refine hK.out _ _ F5.out.cells (fun hHeld => ?_)
              clear hK K
              try simp only [Act.put, List.setIfInBounds_toArray, List.set_cons_zero, List.set_cons_succ]
              refine wpAnyH_take (i := 13) (v := ?_) (by simp only [List.getElem?_toArray, List.getElem?_cons_succ, List.getElem?_cons_zero]; rfl) (by kernel_rfl) (by kernel_rfl) (by kernel_rfl) (fun _ _ _ h => h) (Or.inl ⟨by rfl, ?_⟩) (by assumption) ?_
              rotate_left 1
              · intro w hSw; (try dsimp only at hSw); go_simp; (try with_reducible rfl)
              try simp only [Act.put, List.setIfInBounds_toArray, List.set_cons_zero, List.set_cons_succ]
              refine wpAnyH_ready (rs := [14]) (by kernel_rfl) (by simp) ?_
              refine AllReadyH.cons (by simp only [List.getElem?_toArray, List.getElem?_cons_succ, List.getElem?_cons_zero]; rfl) (fun K hK => ?_) AllReadyH.nil
              go_simp
              go_at_call 11
              refine Calls.mono (F5.out.data h64 h65) ?_
              rintro e V6 ⟨sd6, cd6, rfl, sh, nf, fn⟩
              have F6 := hid fn
              have SH6 := hid sh
              have NF6 := hid nf
              clear fn sh nf
              clear hHeld
              refine hK.out _ _ F6.out.cells (fun hHeld => ?_)
              clear hK K
              try simp only [Act.put, List.setIfInBounds_toArray, List.set_cons_zero, List.set_cons_succ]
              refine wpAnyH_ready (rs := [15]) (by kernel_rfl) (by simp) ?_
              refine AllReadyH.cons (by simp only [List.getElem?_toArray, List.getElem?_cons_succ, List.getElem?_cons_zero]; rfl) (fun K hK => ?_) AllReadyH.nil
              go_simp
              go_at_call 10
              refine Calls.mono (F6.out.append HV.out (by omega) n1S (SH6.out.touch (F := []) (Touch.refl _ _) (by simp)) NF6.out) ?_
              rintro e V7 ⟨rfl, E7, fn⟩
              have F7 := hid fn
              clear fn
              clear hHeld
              refine hK.out _ _ F7.out.cells (fun hHeld => ?_)
              clear hK K
              try simp only [Act.put, List.setIfInBounds_toArray, List.set_cons_zero, List.set_cons_succ]
              refine wpAnyH_ready (rs := [17]) (by kernel_rfl) (by simp) ?_
              refine AllReadyH.cons (by simp only [List.getElem?_toArray, List.getElem?_cons_succ, List.getElem?_cons_zero]; rfl) (fun K hK => ?_) AllReadyH.nil
              go_simp
              go_at_call 12
              refine Calls.mono (F7.out.seal HV.out (by omega) n1S) ?_
              rintro e V8 ⟨rfl, E8, fn⟩
              have F8 := hid fn
              clear fn
              clear hHeld
              refine hK.out _ _ F8.out.cells (fun hHeld => ?_)
              clear hK K
              try simp only [Act.put, List.setIfInBounds_toArray, List.set_cons_zero, List.set_cons_succ]
              refine wpAnyH_take (i := 18) (v := ?_) (by simp only [List.getElem?_toArray, List.getElem?_cons_succ, List.getElem?_cons_zero]; rfl) (by kernel_rfl) (by kernel_rfl) (by kernel_rfl) (fun _ _ _ h => h) (Or.inl ⟨by rfl, ?_⟩) (by assumption) ?_
              rotate_left 1
              · intro w hSw; (try dsimp only at hSw); go_simp; (try with_reducible rfl)
              try simp only [Act.put, List.setIfInBounds_toArray, List.set_cons_zero, List.set_cons_succ]
              refine wpAnyH_ready (rs := [20]) (by kernel_rfl) (by simp) ?_
              refine AllReadyH.cons (by simp only [List.getElem?_toArray, List.getElem?_cons_succ, List.getElem?_cons_zero]; rfl) (fun K hK => ?_) AllReadyH.nil
              skip
              have hz := (F8.out.zero _ (List.mem_cons_self ..)).1
              have fr := fun i => unfrozen_row hz i
              have cz := fun i => cell_row hz i
              go_simp
              clear hz fr cz
              clear hHeld
              refine hK.out _ _ (LAST.out _ _ _ _ _ _ _ _ _ F8.out) (fun hHeld => ?_)
              clear hK K
              try simp only [Act.put, List.setIfInBounds_toArray, List.set_cons_zero, List.set_cons_succ]
              refine wpAnyH_done (by kernel_rfl) ?_ _
              refine NoPanic.normal ?_
              go_wp2_with fail
              go_meet
              exact FIN9.out _ _ _ F8.out
          · go_simp
            have A1 := hid F1.out.alloc
            obtain ⟨U1, hU1⟩ : ∃ U, U = V1.alloc (.cells #[.int .i64 0, .int .i64 0, .int .i64 0, .int .i64 0] 44) := ⟨_, rfl⟩
            rw [← hU1] at A1 ⊢
            have TU1 : Hid (Touch [] V1 U1) := by rw [hU1]; exact (Touch.refl [] _).alloc _
            clear hU1
            clear hHeld
            refine hK.out _ _ A1.out.cells (fun hHeld => ?_)
            clear hK K
            try simp only [Act.put, List.setIfInBounds_toArray, List.set_cons_zero, List.set_cons_succ]
            refine wpAnyH_ready (rs := [5]) (by kernel_rfl) (by simp) ?_
            refine AllReadyH.cons (by simp only [List.getElem?_toArray, List.getElem?_cons_succ, List.getElem?_cons_zero]; rfl) (fun K hK => ?_) AllReadyH.nil
            go_simp
            go_at_call 7
            refine Calls.mono (HSA.out _) ?_
            rintro e V2 ⟨rfl, hb⟩
            have F2 := hid (A1.out.below hb)
            clear hb
            clear hHeld
            refine hK.out _ _ F2.out.cells (fun hHeld => ?_)
            clear hK K
            try simp only [Act.put, List.setIfInBounds_toArray, List.set_cons_zero, List.set_cons_succ]
            refine wpAnyH_take (i := 6) (v := ?_) (by simp only [List.getElem?_toArray, List.getElem?_cons_succ, List.getElem?_cons_zero]; rfl) (by kernel_rfl) (by kernel_rfl) (by kernel_rfl) (fun _ _ _ h => h) (Or.inl ⟨by rfl, ?_⟩) (by assumption) ?_
            rotate_left 1
            · intro w hSw; (try dsimp only at hSw); go_simp; (try with_reducible rfl)
            try simp only [Act.put, List.setIfInBounds_toArray, List.set_cons_zero, List.set_cons_succ]
            refine wpAnyH_ready (rs := [7]) (by kernel_rfl) (by simp) ?_
            refine AllReadyH.cons (by simp only [List.getElem?_toArray, List.getElem?_cons_succ, List.getElem?_cons_zero]; rfl) (fun K hK => ?_) AllReadyH.nil
            go_simp
            go_at_call 11
            refine Calls.mono (F2.out.data h64 h65) ?_
            rintro e V3 ⟨sd3, cd3, rfl, sh, nf, fn⟩
            have F3 := hid fn
            have SH3 := hid sh
            have NF3 := hid nf
            clear fn sh nf
            clear hHeld
            refine hK.out _ _ F3.out.cells (fun hHeld => ?_)
            clear hK K
            try simp only [Act.put, List.setIfInBounds_toArray, List.set_cons_zero, List.set_cons_succ]
            refine wpAnyH_ready (rs := [8]) (by kernel_rfl) (by simp) ?_
            refine AllReadyH.cons (by simp only [List.getElem?_toArray, List.getElem?_cons_succ, List.getElem?_cons_zero]; rfl) (fun K hK => ?_) AllReadyH.nil
            go_simp
            go_at_call 10
            refine Calls.mono (F3.out.append HV.out (by omega) n1S (SH3.out.touch (F := []) (Touch.refl _ _) (by simp)) NF3.out) ?_
            rintro e V4 ⟨rfl, E4, fn⟩
            have F4 := hid fn
            clear fn
            clear hHeld
            refine hK.out _ _ F4.out.cells (fun hHeld => ?_)
            clear hK K
            try simp only [Act.put, List.setIfInBounds_toArray, List.set_cons_zero, List.set_cons_succ]
            refine wpAnyH_ready (rs := [12]) (by kernel_rfl) (by simp) ?_
            refine AllReadyH.cons (by simp only [List.getElem?_toArray, List.getElem?_cons_succ, List.getElem?_cons_zero]; rfl) (fun K hK => ?_) AllReadyH.nil
            go_simp
            go_at_call 7
            refine Calls.mono (HSA.out _) ?_
            rintro e V5 ⟨rfl, hb⟩
            have F5 := hid (F4.out.below hb)
            clear hb
            clear hHeld
            refine hK.out _ _ F5.out.cells (fun hHeld => ?_)
            clear hK K
            try simp only [Act.put, List.setIfInBounds_toArray, List.set_cons_zero, List.set_cons_succ]
            refine wpAnyH_take (i := 13) (v := ?_) (by simp only [List.getElem?_toArray, List.getElem?_cons_succ, List.getElem?_cons_zero]; rfl) (by kernel_rfl) (by kernel_rfl) (by kernel_rfl) (fun _ _ _ h => h) (Or.inl ⟨by rfl, ?_⟩) (by assumption) ?_
            rotate_left 1
            · intro w hSw; (try dsimp only at hSw); go_simp; (try with_reducible rfl)
            try simp only [Act.put, List.setIfInBounds_toArray, List.set_cons_zero, List.set_cons_succ]
            refine wpAnyH_ready (rs := [14]) (by kernel_rfl) (by simp) ?_
            refine AllReadyH.cons (by simp only [List.getElem?_toArray, List.getElem?_cons_succ, List.getElem?_cons_zero]; rfl) (fun K hK => ?_) AllReadyH.nil
            go_simp
            go_at_call 11
            refine Calls.mono (F5.out.data h64 h65) ?_
            rintro e V6 ⟨sd6, cd6, rfl, sh, nf, fn⟩
            have F6 := hid fn
            have SH6 := hid sh
            have NF6 := hid nf
            clear fn sh nf
            clear hHeld
            refine hK.out _ _ F6.out.cells (fun hHeld => ?_)
            clear hK K
            try simp only [Act.put, List.setIfInBounds_toArray, List.set_cons_zero, List.set_cons_succ]
            refine wpAnyH_ready (rs := [15]) (by kernel_rfl) (by simp) ?_
            refine AllReadyH.cons (by simp only [List.getElem?_toArray, List.getElem?_cons_succ, List.getElem?_cons_zero]; rfl) (fun K hK => ?_) AllReadyH.nil
            go_simp
            go_at_call 10
            refine Calls.mono (F6.out.append HV.out (by omega) n1S (SH6.out.touch (F := []) (Touch.refl _ _) (by simp)) NF6.out) ?_
            rintro e V7 ⟨rfl, E7, fn⟩
            have F7 := hid fn
            clear fn
            clear hHeld
            refine hK.out _ _ F7.out.cells (fun hHeld => ?_)
            clear hK K
            try simp only [Act.put, List.setIfInBounds_toArray, List.set_cons_zero, List.set_cons_succ]
            refine wpAnyH_ready (rs := [17]) (by kernel_rfl) (by simp) ?_
            refine AllReadyH.cons (by simp only [List.getElem?_toArray, List.getElem?_cons_succ, List.getElem?_cons_zero]; rfl) (fun K hK => ?_) AllReadyH.nil
            go_simp
            go_at_call 12
            refine Calls.mono (F7.out.seal HV.out (by omega) n1S) ?_
            rintro e V8 ⟨rfl, E8, fn⟩
            have F8 := hid fn
            clear fn
            clear hHeld
            refine hK.out _ _ F8.out.cells (fun hHeld => ?_)
            clear hK K
            try simp only [Act.put, List.setIfInBounds_toArray, List.set_cons_zero, List.set_cons_succ]
            refine wpAnyH_take (i := 18) (v := ?_) (by simp only [List.getElem?_toArray, List.getElem?_cons_succ, List.getElem?_cons_zero]; rfl) (by kernel_rfl) (by kernel_rfl) (by kernel_rfl) (fun _ _ _ h => h) (Or.inl ⟨by rfl, ?_⟩) (by assumption) ?_
            rotate_left 1
            · intro w hSw; (try dsimp only at hSw); go_simp; (try with_reducible rfl)
            try simp only [Act.put, List.setIfInBounds_toArray, List.set_cons_zero, List.set_cons_succ]
            refine wpAnyH_ready (rs := [20]) (by kernel_rfl) (by simp) ?_
            refine AllReadyH.cons (by simp only [List.getElem?_toArray, List.getElem?_cons_succ, List.getElem?_cons_zero]; rfl) (fun K hK => ?_) AllReadyH.nil
            skip
            have hz := (F8.out.zero _ (List.mem_cons_self ..)).1
            have fr := fun i => unfrozen_row hz i
            have cz := fun i => cell_row hz i
            go_simp
            clear hz fr cz
            clear hHeld
            refine hK.out _ _ (LAST.out _ _ _ _ _ _ _ _ _ F8.out) (fun hHeld => ?_)
            clear hK K
            try simp only [Act.put, List.setIfInBounds_toArray, List.set_cons_zero, List.set_cons_succ]
            refine wpAnyH_done (by kernel_rfl) ?_ _
            refine NoPanic.normal ?_
            go_wp2_with fail
            go_meet
            exact FIN9.out _ _ _ F8.out
        · go_simp
          have A0 := hid F0.out.alloc
          obtain ⟨U0, hU0⟩ : ∃ U, U = Yd.alloc (.cells #[.int .i64 0, .int .i64 0, .int .i64 0, .int .i64 0] 44) := ⟨_, rfl⟩
          rw [← hU0] at A0 ⊢
          have TU0 : Hid (Touch [] Yd U0) := by rw [hU0]; exact (Touch.refl [] _).alloc _
          clear hU0
          clear hHeld
          refine hK.out _ _ A0.out.cells (fun hHeld => ?_)
          clear hK K
          try simp only [Act.put, List.setIfInBounds_toArray, List.set_cons_zero, List.set_cons_succ]
          refine wpAnyH_ready (rs := [1]) (by kernel_rfl) (by simp) ?_
          refine AllReadyH.cons (by simp only [List.getElem?_toArray, List.getElem?_cons_succ, List.getElem?_cons_zero]; rfl) (fun K hK => ?_) AllReadyH.nil
          go_simp
          go_at_call 9
          refine Calls.mono (A0.out.create HV.out (by omega) n1S) ?_
          rintro e V1 ⟨rfl, E1, fn⟩
          have F1 := hid fn
          clear fn
          clear hHeld
          refine hK.out _ _ F1.out.cells (fun hHeld => ?_)
          clear hK K
          try simp only [Act.put, List.setIfInBounds_toArray, List.set_cons_zero, List.set_cons_succ]
          refine wpAnyH_ready (rs := [5]) (by kernel_rfl) (by simp) ?_
          refine AllReadyH.cons (by simp only [List.getElem?_toArray, List.getElem?_cons_succ, List.getElem?_cons_zero]; rfl) (fun K hK => ?_) AllReadyH.nil
          go_simp
          go_at_call 7
          refine Calls.mono (HSA.out _) ?_
          rintro e V2 ⟨rfl, hb⟩
          have F2 := hid (F1.out.below hb)
          clear hb
          clear hHeld
          refine hK.out _ _ F2.out.cells (fun hHeld => ?_)
          clear hK K
          try simp only [Act.put, List.setIfInBounds_toArray, List.set_cons_zero, List.set_cons_succ]
          refine wpAnyH_take (i := 6) (v := ?_) (by simp only [List.getElem?_toArray, List.getElem?_cons_succ, List.getElem?_cons_zero]; rfl) (by kernel_rfl) (by kernel_rfl) (by kernel_rfl) (fun _ _ _ h => h) (Or.inl ⟨by rfl, ?_⟩) (by assumption) ?_
          rotate_left 1
          · intro w hSw; (try dsimp only at hSw); go_simp; (try with_reducible rfl)
          try simp only [Act.put, List.setIfInBounds_toArray, List.set_cons_zero, List.set_cons_succ]
          refine wpAnyH_ready (rs := [7]) (by kernel_rfl) (by simp) ?_
          refine AllReadyH.cons (by simp only [List.getElem?_toArray, List.getElem?_cons_succ, List.getElem?_cons_zero]; rfl) (fun K hK => ?_) AllReadyH.nil
          go_simp
          go_at_call 11
          refine Calls.mono (F2.out.data h64 h65) ?_
          rintro e V3 ⟨sd3, cd3, rfl, sh, nf, fn⟩
          have F3 := hid fn
          have SH3 := hid sh
          have NF3 := hid nf
          clear fn sh nf
          clear hHeld
          refine hK.out _ _ F3.out.cells (fun hHeld => ?_)
          clear hK K
          try simp only [Act.put, List.setIfInBounds_toArray, List.set_cons_zero, List.set_cons_succ]
          refine wpAnyH_ready (rs := [8]) (by kernel_rfl) (by simp) ?_
          refine AllReadyH.cons (by simp only [List.getElem?_toArray, List.getElem?_cons_succ, List.getElem?_cons_zero]; rfl) (fun K hK => ?_) AllReadyH.nil
          go_simp
          go_at_call 10
          refine Calls.mono (F3.out.append HV.out (by omega) n1S (SH3.out.touch (F := []) (Touch.refl _ _) (by simp)) NF3.out) ?_
          rintro e V4 ⟨rfl, E4, fn⟩
          have F4 := hid fn
          clear fn
          clear hHeld
          refine hK.out _ _ F4.out.cells (fun hHeld => ?_)
          clear hK K
          try simp only [Act.put, List.setIfInBounds_toArray, List.set_cons_zero, List.set_cons_succ]
          refine wpAnyH_ready (rs := [12]) (by kernel_rfl) (by simp) ?_
          refine AllReadyH.cons (by simp only [List.getElem?_toArray, List.getElem?_cons_succ, List.getElem?_cons_zero]; rfl) (fun K hK => ?_) AllReadyH.nil
          go_simp
          go_at_call 7
          refine Calls.mono (HSA.out _) ?_
          rintro e V5 ⟨rfl, hb⟩
          have F5 := hid (F4.out.below hb)
          clear hb
          clear hHeld
          refine hK.out _ _ F5.out.cells (fun hHeld => ?_)
          clear hK K
          try simp only [Act.put, List.setIfInBounds_toArray, List.set_cons_zero, List.set_cons_succ]
          refine wpAnyH_take (i := 13) (v := ?_) (by simp only [List.getElem?_toArray, List.getElem?_cons_succ, List.getElem?_cons_zero]; rfl) (by kernel_rfl) (by kernel_rfl) (by kernel_rfl) (fun _ _ _ h => h) (Or.inl ⟨by rfl, ?_⟩) (by assumption) ?_
          rotate_left 1
          · intro w hSw; (try dsimp only at hSw); go_simp; (try with_reducible rfl)
          try simp only [Act.put, List.setIfInBounds_toArray, List.set_cons_zero, List.set_cons_succ]
          refine wpAnyH_ready (rs := [14]) (by kernel_rfl) (by simp) ?_
          refine AllReadyH.cons (by simp only [List.getElem?_toArray, List.getElem?_cons_succ, List.getElem?_cons_zero]; rfl) (fun K hK => ?_) AllReadyH.nil
          go_simp
          go_at_call 11
          refine Calls.mono (F5.out.data h64 h65) ?_
          rintro e V6 ⟨sd6, cd6, rfl, sh, nf, fn⟩
          have F6 := hid fn
          have SH6 := hid sh
          have NF6 := hid nf
          clear fn sh nf
          clear hHeld
          refine hK.out _ _ F6.out.cells (fun hHeld => ?_)
          clear hK K
          try simp only [Act.put, List.setIfInBounds_toArray, List.set_cons_zero, List.set_cons_succ]
          refine wpAnyH_ready (rs := [15]) (by kernel_rfl) (by simp) ?_
          refine AllReadyH.cons (by simp only [List.getElem?_toArray, List.getElem?_cons_succ, List.getElem?_cons_zero]; rfl) (fun K hK => ?_) AllReadyH.nil
          go_simp
          go_at_call 10
          refine Calls.mono (F6.out.append HV.out (by omega) n1S (SH6.out.touch (F := []) (Touch.refl _ _) (by simp)) NF6.out) ?_
          rintro e V7 ⟨rfl, E7, fn⟩
          have F7 := hid fn
          clear fn
          clear hHeld
          refine hK.out _ _ F7.out.cells (fun hHeld => ?_)
          clear hK K
          try simp only [Act.put, List.setIfInBounds_toArray, List.set_cons_zero, List.set_cons_succ]
          refine wpAnyH_ready (rs := [17]) (by kernel_rfl) (by simp) ?_
          refine AllReadyH.cons (by simp only [List.getElem?_toArray, List.getElem?_cons_succ, List.getElem?_cons_zero]; rfl) (fun K hK => ?_) AllReadyH.nil
          go_simp
          go_at_call 12
          refine Calls.mono (F7.out.seal HV.out (by omega) n1S) ?_
          rintro e V8 ⟨rfl, E8, fn⟩
          have F8 := hid fn
          clear fn
          clear hHeld
          refine hK.out _ _ F8.out.cells (fun hHeld => ?_)
          clear hK K
          try simp only [Act.put, List.setIfInBounds_toArray, List.set_cons_zero, List.set_cons_succ]
          refine wpAnyH_take (i := 18) (v := ?_) (by simp only [List.getElem?_toArray, List.getElem?_cons_succ, List.getElem?_cons_zero]; rfl) (by kernel_rfl) (by kernel_rfl) (by kernel_rfl) (fun _ _ _ h => h) (Or.inl ⟨by rfl, ?_⟩) (by assumption) ?_
          rotate_left 1
          · intro w hSw; (try dsimp only at hSw); go_simp; (try with_reducible rfl)
          try simp only [Act.put, List.setIfInBounds_toArray, List.set_cons_zero, List.set_cons_succ]
          refine wpAnyH_ready (rs := [20]) (by kernel_rfl) (by simp) ?_
          refine AllReadyH.cons (by simp only [List.getElem?_toArray, List.getElem?_cons_succ, List.getElem?_cons_zero]; rfl) (fun K hK => ?_) AllReadyH.nil
          skip
          have hz := (F8.out.zero _ (List.mem_cons_self ..)).1
          have fr := fun i => unfrozen_row hz i
          have cz := fun i => cell_row hz i
          go_simp
          clear hz fr cz
          clear hHeld
          refine hK.out _ _ (LAST.out _ _ _ _ _ _ _ _ _ F8.out) (fun hHeld => ?_)
          clear hK K
          try simp only [Act.put, List.setIfInBounds_toArray, List.set_cons_zero, List.set_cons_succ]
          refine wpAnyH_done (by kernel_rfl) ?_ _
          refine NoPanic.normal ?_
          go_wp2_with fail
          go_meet
          exact FIN9.out _ _ _ F8.out
      case rest =>
        refine ‹∀ (a : Act) (w_1 : World), Code.wp Tryz.prog ((Tryz.f3.body.bind (tailReg 10)).getD .skip) (bodyPost Tryz.prog Tryz.f3 (fun e w' => e = .returned (.bool true) ∧ Below w.heap.size w w')) a w_1 → _› _ _ ?_
        exact law_tail HV h64 h65 hna hcut _ _ _ _ _ _ _ _ _ _ _ _ _ _ _ _ _ _ _ _ _ _ _ _ _ _ _ _ _ _ _ _ _ _ _ _ _ _ _ _ _ _ _ _ _ _ _ _ _ _ _ _ _ _ _ _ _ _ _ _ _ _ _ _ _ _ _ _ _ _ _ _ _ _ _ _ _ _ _ _ _ _ _ _ _ _ _ _ _ _ _ _ _ _ _ _ _ _ _ _ _ _ _ _ _ _ _ _ _ _ _ _ _ _ _ _ _ _ _ _ _ _ _ _ _ _ _ _ _ _ _ _ _ _ _ _ _ _ _ _ _ _ _ _ _ _ _ _ _ _ _ _ _ _ _ _ _ _ _ _ _ _ _ _ _ _ _ _ _ _ _ _ _ _ _ _ _ _ _ _ _ _ _ _ _ _ _ _ _ _
end Go.Proofs.YtcpncfngadablaaGreatDoor
