import Derived.Test.YtcpncfngadablaaGreatDoorZ21
/-
  A state is put on the shelf.
-/
namespace Go.Proofs.YtcpncfngadablaaGreatDoor
open Go.RowKit Go.Deep ShfKit
set_option maxRecDepth 100000

set_option maxHeartbeats 4000000 in
theorem state_any {w : World} {S : Sg} {n B : Nat} {x : Int} {fv : Value} {l : List SFile} (h : ShelfAt w S) (hst : StateAt w n B fv l) (hap : ApartS l) (hlo : ∀ b ∈ S.foot, b < n) (hB : B ≤ 65536) (hls : S.Ls.length ≤ 1073741824) (hlb : S.Lb.length + total (l.map SFile.pub) ≤ 1073741824) (hll : l.length ≤ 1073741824) :
    Calls Tryz.prog 39 #[.pointer (some ⟨S.p, 0, none⟩), .agg #[.int .i64 x, fv]] w fun e w' => ∃ bv sv, e = .returned (.tuple #[]) ∧ ShelfAt w' { S with bv := bv, sv := sv, Lb := S.Lb ++ ysAll B l, Ls := S.Ls ++ [(x, fv, l.length, l.flatMap SFile.cells)] } ∧ Grew w w' S { S with bv := bv, sv := sv, Lb := S.Lb ++ ysAll B l, Ls := S.Ls ++ [(x, fv, l.length, l.flatMap SFile.cells)] } := by
  obtain ⟨fa, fc, hfv⟩ := row_slice hst.own
  obtain ⟨L, hL⟩ : ∃ L, L = l.length := ⟨_, rfl⟩
  obtain ⟨p, hp⟩ : ∃ p, p = S.p := ⟨_, rfl⟩
  obtain ⟨ns, hns⟩ : ∃ ns, ns = S.Ls.length := ⟨_, rfl⟩
  rw [← hL] at hfv hll
  rw [← hns] at hls
  subst hfv
  obtain ⟨W0, hW0⟩ : ∃ W0, W0 = w.alloc (.cells #[.int .i64 x, .slice fa L fc] 47) := ⟨_, rfl⟩
  have bW : Below w.heap.size w W0 := by rw [hW0]; exact (Below.refl _ w).alloc (Nat.le_refl _) _
  have z0 : W0.heap.size = w.heap.size + 1 := by rw [hW0]; simp
  have r0 : W0.heap[w.heap.size]? = some (.cells #[.int .i64 x, .slice fa L fc] 47 (0, 0)) := by rw [hW0]; exact heap_alloc_new _ _
  have h0 : ShelfAt W0 S := h.kept fun b hb => bW.block b (h.lt b hb)
  have st0 : StateAt W0 n B (.slice fa L fc) l := hst.kept fun b _ hb => bW.block b hb
  have hnw : l ≠ [] → n ≤ w.heap.size := fun hne => by
    rcases hst.own.2 with ⟨_, e0⟩ | ⟨g, cap, cur, _, hg, hr, _⟩
    · exact absurd (List.eq_nil_of_length_eq_zero e0) hne
    · have := lt_of_block hr
      omega
  obtain ⟨sv0, cv0, hsv⟩ := sh_slice h0.rs
  rw [← hns] at hsv
  have hbx : ∀ b ∈ S.foot, b ≠ w.heap.size := fun b hb => by have := h.lt b hb; omega
  have K0 : Hid (∀ W', Below W0.heap.size W0 W' → W'.cell? ⟨w.heap.size, 0, none⟩ = some (.int .i64 x) ∧ W'.cell? ⟨w.heap.size, 1, none⟩ = some (.slice fa L fc)) := fun W' hb => by
    have hr := (hb.block _ (lt_of_block r0)).trans r0
    have a0 := cell_row hr 0
    have a1 := cell_row hr 1
    simp at a0 a1
    exact ⟨a0, a1⟩
  have KL : Hid (∀ W', Below W0.heap.size W0 W' → W'.cell? ⟨p, 2, none⟩ = some (.slice sv0 ns cv0)) := fun W' hb => by
    have hr := (hb.block _ (lt_of_block h0.row)).trans h0.row
    have a0 := cell_row hr 2
    rw [hsv, ← hp] at a0
    simpa using a0
  have OWN : Hid (∀ W', Below W0.heap.size W0 W' → W'.ownsRow 0 47 2 (.slice sv0 ns cv0) ns S.cells) := fun W' hb => by
    have ho := own_kept (w' := W') h0.rs fun g hg => hb.block g (own_block h0.rs hg).2
    rw [hsv, ← hns] at ho
    exact ho
  have NXT : Hid (∀ Y5, Below W0.heap.size W0 Y5 → ∀ (s6 : Option Addr) (c6 : Nat) (W6 : World), W6.ownsRow 0 47 2 (.slice s6 (ns + 1) c6) (ns + 1) (S.cells ++ [.int .i64 x, .slice fa L fc]) → (((Value.slice s6 (ns + 1) c6).ownBlock = (Value.slice sv0 ns cv0).ownBlock ∧ Y5.grownBy W6 (Value.slice sv0 ns cv0).ownBlock) ∨ ((∀ g, (Value.slice s6 (ns + 1) c6).ownBlock = some g → Y5.heap.size ≤ g) ∧ Y5.grownBy W6 none)) →
      ShelfAt (W6.setCell ⟨p, 2, none⟩ (.slice s6 (ns + 1) c6)) { S with sv := .slice s6 (ns + 1) c6, Ls := S.Ls ++ [(x, .slice fa L fc, l.length, l.flatMap SFile.cells)] } ∧ Grew Y5 (W6.setCell ⟨p, 2, none⟩ (.slice s6 (ns + 1) c6)) S { S with sv := .slice s6 (ns + 1) c6, Ls := S.Ls ++ [(x, .slice fa L fc, l.length, l.flatMap SFile.cells)] } ∧ W6.cell? ⟨p, 2, none⟩ = some (.slice sv0 ns cv0) ∧ W6.frozen? ⟨p, 2, none⟩ = false) := fun Y5 hb s6 c6 W6 o6 f6 => by
    have h5 : ShelfAt Y5 S := h0.kept fun b hm => hb.block b (h0.lt b hm)
    have f7 := f6
    rw [← hsv] at f7
    have st5 : StateAt Y5 n B (.slice fa L fc) l := st0.kept fun b _ hl => hb.block b hl
    have hfam : Fam Y5 0 71 3 ((S.Ls ++ [((x, (Value.slice fa L fc, l.length, l.flatMap SFile.cells)) : Int × Rw)]).map (·.2)) := by
      rw [List.map_append]
      refine Fam.join h5.fs (M := [(.slice fa L fc, l.length, l.flatMap SFile.cells)]) ⟨fun i y hy => ?_, fun i j y z g hy hz hij => ?_⟩ (fun b hb1 hb2 => ?_)
      · cases i with
        | zero => cases hy; exact own_base st5.own (Nat.zero_le _)
        | succ i => simp at hy
      · have h1 := (List.getElem?_eq_some_iff.1 hy).1
        have h2 := (List.getElem?_eq_some_iff.1 hz).1
        simp at h1 h2
        omega
      · have h1 := hlo b (by unfold Sg.foot; simp only [List.mem_append]; exact .inr (.inr (.inr hb1)))
        obtain ⟨i, y, hy, hyb⟩ := mem_blks.1 hb2
        cases i with
        | zero => cases hy; have := (own_block st5.own hyb).1; omega
        | succ i => simp at hy
    have r := h5.pushS (sv' := .slice s6 (ns + 1) c6) (ys := [(x, .slice fa L fc, l.length, l.flatMap SFile.cells)]) (by rw [← hns]; simpa using o6) f7 hfam
    obtain ⟨q1, q2, q3, q4⟩ := r
    rw [hsv] at q3
    rw [hp]
    exact ⟨q1, q2, q3, q4⟩
  have K6 : Hid (∀ (Y5 W6 : World) (u : Value), Below W0.heap.size W0 Y5 → Grew Y5 (W6.setCell ⟨p, 2, none⟩ u) S { S with sv := u, Ls := S.Ls ++ [(x, .slice fa L fc, l.length, l.flatMap SFile.cells)] } → (W6.cell? ⟨w.heap.size, 0, none⟩ = some (.int .i64 x) ∧ W6.cell? ⟨w.heap.size, 1, none⟩ = some (.slice fa L fc)) ∧ ((W6.setCell ⟨p, 2, none⟩ u).cell? ⟨w.heap.size, 0, none⟩ = some (.int .i64 x) ∧ (W6.setCell ⟨p, 2, none⟩ u).cell? ⟨w.heap.size, 1, none⟩ = some (.slice fa L fc))) := fun Y5 W6 u hb hg => by
    have hr5 := (hb.block _ (lt_of_block r0)).trans r0
    have hr := (hg.touch.block _ (lt_of_block hr5) (fun hm => hbx _ (hdr_foot hm) rfl)).trans hr5
    have hr6 : W6.heap[w.heap.size]? = some (.cells #[.int .i64 x, .slice fa L fc] 47 (0, 0)) := by
      rw [← hr]
      refine (Below.heap_setCell W6 _ _ _ (fun e => ?_)).symm
      exact hbx S.p (by simp [Sg.foot, Sg.hdr]) (by rw [← hp]; exact e.symm)
    have a0 := cell_row hr 0
    have a1 := cell_row hr 1
    have a2 := cell_row hr6 0
    have a3 := cell_row hr6 1
    simp at a0 a1 a2 a3
    exact ⟨⟨a2, a3⟩, a0, a1⟩
  have BG : Hid (∀ (Y5 W' : World) (S' : Sg), Below W0.heap.size W0 Y5 → Grew Y5 W' S S' → Grew W0 W' S S') := fun Y5 W' S' hb hg => (Grew.refl W0 S).below hb |>.trans hg
  have HP := hid hp
  have HL := hid hL
  have HW0 := hid hW0
  have HST := hid st0
  have HAP := hid hap
  have HLO := hid hlo
  have HLB := hid hlb
  have HBX := hid hbx
  have HR0 := hid r0
  have BW := hid bW
  rw [← hp]
  clear h hst hap hlo hlb hbx h0 st0 hW0 bW hsv hnw z0 r0 hp hL hns
  go_enter Tryz.func39, Tryz.ntmps39
  go_wp2_with fail
  rw [← HW0.out]
  refine wp_region_noPanic ?_
  refine wp_region_held_drew (S := fun W => W.cell? ⟨w.heap.size, 0, none⟩ = some (.int .i64 x) ∧ W.cell? ⟨w.heap.size, 1, none⟩ = some (.slice fa L fc)) (by kernel_rfl) (K0.out _ (Below.refl _ _).drew) (fun hHeld => ?_)
  obtain ⟨Yd, hYd⟩ : ∃ Yd, Yd = W0.drew := ⟨_, rfl⟩
  rw [← hYd] at hHeld ⊢
  have B0 : Hid (Below W0.heap.size W0 Yd) := by rw [hYd]; exact (Below.refl _ _).drew
  clear hYd
  refine wpAnyH_take (i := 0) (v := ?_) (by simp only [List.getElem?_toArray, List.getElem?_cons_zero]; rfl) (by kernel_rfl) (by kernel_rfl) (by kernel_rfl) (fun _ _ _ h => h) (Or.inl ⟨by rfl, ?_⟩) (by assumption) ?_
  rotate_left 1
  · intro w hSw; (try dsimp only at hSw); go_simp; (try with_reducible rfl)
  try simp only [Act.put, List.setIfInBounds_toArray, List.set_cons_zero, List.set_cons_succ]
  refine wpAnyH_take (i := 1) (v := ?_) (by simp only [List.getElem?_toArray, List.getElem?_cons_succ, List.getElem?_cons_zero]; rfl) (by kernel_rfl) (by kernel_rfl) (by kernel_rfl) (fun _ _ _ h => h) (Or.inl ⟨by rfl, ?_⟩) (by assumption) ?_
  rotate_left 1
  · intro w hSw; (try dsimp only at hSw); go_simp; (try with_reducible rfl)
  try simp only [Act.put, List.setIfInBounds_toArray, List.set_cons_zero, List.set_cons_succ]
  refine wpAnyH_take (i := 2) (v := ?_) (by simp only [List.getElem?_toArray, List.getElem?_cons_succ, List.getElem?_cons_zero]; rfl) (by kernel_rfl) (by kernel_rfl) (by kernel_rfl) (fun _ _ _ h => h) (Or.inl ⟨by rfl, ?_⟩) (by assumption) ?_
  rotate_left 1
  · intro w hSw; (try dsimp only at hSw); go_simp; (try with_reducible rfl)
  try simp only [Act.put, List.setIfInBounds_toArray, List.set_cons_zero, List.set_cons_succ]
  refine wpAnyH_take (i := 3) (v := ?_) (by simp only [List.getElem?_toArray, List.getElem?_cons_succ, List.getElem?_cons_zero]; rfl) (by kernel_rfl) (by kernel_rfl) (by kernel_rfl) (fun _ _ _ h => h) (Or.inl ⟨by rfl, ?_⟩) (by assumption) ?_
  rotate_left 1
  · intro w hSw; (try dsimp only at hSw); go_simp; (try with_reducible rfl)
  try simp only [Act.put, List.setIfInBounds_toArray, List.set_cons_zero, List.set_cons_succ]
  refine wpAnyH_take (i := 5) (v := ?_) (by simp only [List.getElem?_toArray, List.getElem?_cons_succ, List.getElem?_cons_zero]; rfl) (by kernel_rfl) (by kernel_rfl) (by kernel_rfl) (fun _ _ _ h => h) (Or.inl ⟨by rfl, ?_⟩) (by assumption) ?_
  rotate_left 1
  · intro w hSw; (try dsimp only at hSw); go_simp; (try with_reducible rfl)
  try simp only [Act.put, List.setIfInBounds_toArray, List.set_cons_zero, List.set_cons_succ]
  refine wpAnyH_ready (rs := [4, 6]) (by kernel_rfl) (by simp) ?_
  refine AllReadyH.cons (by simp only [List.getElem?_toArray, List.getElem?_cons_succ, List.getElem?_cons_zero]; rfl) (fun K hK => ?_) (AllReadyH.cons (by simp only [List.getElem?_toArray, List.getElem?_cons_succ, List.getElem?_cons_zero]; rfl) (fun K hK => ?_) AllReadyH.nil)
  · skip
    have cl := KL.out _ B0.out
    go_simp
    clear cl
    clear hHeld
    refine hK.out _ _ (K0.out _ B0.out) (fun hHeld => ?_)
    clear hK K
    try simp only [Act.put, List.setIfInBounds_toArray, List.set_cons_zero, List.set_cons_succ]
    refine wpAnyH_ready (rs := [6]) (by kernel_rfl) (by simp) ?_
    refine AllReadyH.cons (by simp only [List.getElem?_toArray, List.getElem?_cons_succ, List.getElem?_cons_zero]; rfl) (fun K hK => ?_) AllReadyH.nil
    go_simp
    obtain ⟨Y5, hY5⟩ : ∃ Y5, Y5 = Yd.alloc (Obj.cells #[.int .i64 x, .slice fa L fc] 47) := ⟨_, rfl⟩
    rw [← hY5]
    have B5 : Hid (Below W0.heap.size W0 Y5) := by rw [hY5]; exact B0.out.alloc B0.out.size _
    have R5 : Hid (Y5.heap[Yd.heap.size]? = some (.cells #[.int .i64 x, .slice fa L fc] 47 (0, 0))) := by rw [hY5]; exact heap_alloc_new Yd _
    clear hY5
    clear hHeld
    refine hK.out _ _ (K0.out _ B5.out) (fun hHeld => ?_)
    clear hK K
    try simp only [Act.put, List.setIfInBounds_toArray, List.set_cons_zero, List.set_cons_succ]
    refine wpAnyH_ready (rs := [7]) (by kernel_rfl) (by simp) ?_
    refine AllReadyH.cons (by simp only [List.getElem?_toArray, List.getElem?_cons_succ, List.getElem?_cons_zero]; rfl) (fun K hK => ?_) AllReadyH.nil
    skip
    refine wp_far _ _ 53 47 _ 2 32 rfl Tryz.underlying53 info47 rfl (by decide) 0 ns 1 1 (.slice sv0 ns cv0) S.cells [.int .i64 x, .slice fa L fc] ⟨Yd.heap.size, 0, none⟩ rfl (OWN.out _ B5.out) rfl rfl (fun j u hu => by rw [add_zero_addr, cell_row R5.out]; simpa using hu) (fun u hu => by simp at hu; rcases hu with rfl | rfl <;> rfl) (by omega) (by omega) (Nat.zero_le _) ?_
    intro v6 W6 o6 f6
    obtain ⟨s6, c6, rfl⟩ := sh_slice o6
    obtain ⟨g1, g2, g3, g4⟩ := NXT.out _ B5.out _ _ _ o6 f6
    have SHN := hid (And.intro g1 g2)
    have T6 := K6.out _ _ _ B5.out g2
    clear o6 f6 g1 g2
    clear hHeld
    refine hK.out _ _ T6.1 (fun hHeld => ?_)
    clear hK K
    try simp only [Act.put, List.setIfInBounds_toArray, List.set_cons_zero, List.set_cons_succ]
    refine wpAnyH_take (i := 8) (v := ?_) (by simp only [List.getElem?_toArray, List.getElem?_cons_succ, List.getElem?_cons_zero]; rfl) (by kernel_rfl) (by kernel_rfl) (by kernel_rfl) (fun _ _ _ h => h) (Or.inl ⟨by rfl, ?_⟩) (by assumption) ?_
    rotate_left 1
    · intro w hSw; (try dsimp only at hSw); go_simp; (try with_reducible rfl)
    try simp only [Act.put, List.setIfInBounds_toArray, List.set_cons_zero, List.set_cons_succ]
    refine wpAnyH_take (i := 9) (v := ?_) (by simp only [List.getElem?_toArray, List.getElem?_cons_succ, List.getElem?_cons_zero]; rfl) (by kernel_rfl) (by kernel_rfl) (by kernel_rfl) (fun _ _ _ h => h) (Or.inl ⟨by rfl, ?_⟩) (by assumption) ?_
    rotate_left 1
    · intro w hSw; (try dsimp only at hSw); go_simp; (try with_reducible rfl)
    try simp only [Act.put, List.setIfInBounds_toArray, List.set_cons_zero, List.set_cons_succ]
    refine wpAnyH_ready (rs := [10]) (by kernel_rfl) (by simp) ?_
    refine AllReadyH.cons (by simp only [List.getElem?_toArray, List.getElem?_cons_succ, List.getElem?_cons_zero]; rfl) (fun K hK => ?_) AllReadyH.nil
    go_simp
    clear hHeld
    refine hK.out _ _ T6.2 (fun hHeld => ?_)
    clear hK K
    try simp only [Act.put, List.setIfInBounds_toArray, List.set_cons_zero, List.set_cons_succ]
    refine wpAnyH_done (by kernel_rfl) ?_ _
    refine NoPanic.normal ?_
    clear g3 g4 T6
    have STA : Hid (∃ sv, ShelfAt (W6.setCell ⟨p, 2, none⟩ (.slice s6 (ns + 1) c6)) { S with sv := sv, Ls := S.Ls ++ [(x, .slice fa L fc, l.length, l.flatMap SFile.cells)] } ∧ Grew W0 (W6.setCell ⟨p, 2, none⟩ (.slice s6 (ns + 1) c6)) S { S with sv := sv, Ls := S.Ls ++ [(x, .slice fa L fc, l.length, l.flatMap SFile.cells)] }) := ⟨_, SHN.out.1, BG.out _ _ _ B5.out SHN.out.2⟩
    obtain ⟨WS, hWS⟩ : ∃ WS, WS = W6.setCell ⟨p, 2, none⟩ (.slice s6 (ns + 1) c6) := ⟨_, rfl⟩
    rw [← hWS] at STA ⊢
    clear hWS SHN OWN NXT K6 R5 B5
    go_wp2_with fail
    go_loopw [4] (fun iv W => Hid (∃ (i : Nat) (bv sv : Value), iv = .int .i64 (i : Int) ∧ i ≤ L ∧ ShelfAt W { S with bv := bv, sv := sv, Lb := S.Lb ++ ysAll B (l.take i), Ls := S.Ls ++ [(x, Value.slice fa L fc, l.length, l.flatMap SFile.cells)] } ∧ Grew W0 W S { S with bv := bv, sv := sv, Lb := S.Lb ++ ysAll B (l.take i), Ls := S.Ls ++ [(x, Value.slice fa L fc, l.length, l.flatMap SFile.cells)] })) (fun iv _ => match iv with | .int _ i => L + 1 - i.toNat | _ => 0)
    case atStart =>
      obtain ⟨sv, h1, h2⟩ := STA.out
      exact ⟨0, S.bv, sv, rfl, Nat.zero_le _, by simpa [ysAll] using h1, by simpa [ysAll] using h2⟩
    case round =>
      clear STA
      obtain ⟨W2, hW2⟩ : ∃ W2, W2 = wr := ⟨_, rfl⟩
      rw [← hW2] at hrel ⊢
      clear hW2
      obtain ⟨i, bv, sv, rfl, hin, hsh, hgr⟩ := hrel.out
      clear hrel
      have T2 := hid hgr.touch
      have KB : Hid (∀ W', Touch S.hdr W0 W' → W'.cell? ⟨w.heap.size, 1, none⟩ = some (.slice fa L fc) ∧ StateAt W' n B (.slice fa L fc) l) := fun W' ht => by
        have hr := (ht.block _ (lt_of_block HR0.out) (fun hm => HBX.out _ (hdr_foot hm) rfl)).trans HR0.out
        have a1 := cell_row hr 1
        simp at a1
        exact ⟨a1, HST.out.kept fun b hb hl => ht.block b hl (fun hm => by have := HLO.out b (hdr_foot hm); omega)⟩
      have c1 := (KB.out _ T2.out).1
      rcases Nat.lt_or_eq_of_le hin with hlt | hlt
      · have hlt2 : i < l.length := by rw [← HL.out]; exact hlt
        obtain ⟨G, gc, hG, _, _⟩ := row_form HST.out.own (by omega)
        rw [← HL.out] at hG
        simp only [Value.slice.injEq, true_and] at hG
        obtain ⟨rfl, rfl⟩ := hG
        obtain ⟨e, he⟩ : ∃ e, l[i]? = some e := ⟨_, List.getElem?_eq_getElem hlt2⟩
        have hem := List.mem_of_getElem? he
        obtain ⟨se, ce, hsv⟩ := (HST.out.each e hem).sliceL
        obtain ⟨ne, hne⟩ : ∃ ne, ne = e.file.blocks.length := ⟨_, rfl⟩
        rw [← hne] at hsv
        obtain ⟨Lb1, hLb1⟩ : ∃ Lb1, Lb1 = S.Lb ++ ysAll B (l.take i) := ⟨_, rfl⟩
        obtain ⟨nb, hnb⟩ : ∃ nb, nb = Lb1.length := ⟨_, rfl⟩
        rw [← hLb1] at hsh hgr
        obtain ⟨sb, cb, hbv⟩ := sh_slice hsh.rb
        have hbv' : bv = .slice sb nb cb := by rw [hnb]; exact hbv
        have hye := ys_vals (HST.out.each e hem)
        have LBN : Hid (S.Lb ++ ysAll B (l.take (i + 1)) = Lb1 ++ ysOf B e) := by show _ = _; rw [ysAll_take he, hLb1, List.append_assoc]
        have hbd : nb + ne ≤ 1073741824 := by
          have h1 : (Lb1 ++ ysOf B e).length = nb + ne := by rw [List.length_append, hye.2, hnb, hne]
          have h2 := ysAll_le (B := B) (l := l) (i := i + 1)
          have h3 := ysAll_len (B := B) (l := l) (fun e he => (HST.out.each e he).len)
          have h4 := HLB.out
          rw [← LBN.out, List.length_append] at h1
          omega
        have K9 : Hid (∀ W', Touch S.hdr W0 W' → W'.cell? ⟨w.heap.size, 1, none⟩ = some (.slice (some ⟨G, 0, none⟩) L fc) ∧ W'.cell? ⟨G, i * 3 + 2, none⟩ = some (.slice se ne ce)) := fun W' ht => by
          obtain ⟨a1, a2⟩ := KB.out W' ht
          obtain ⟨_, _, b2⟩ := row_cells a2.own (k := i) (G := G) (gc := fc) (by rw [← HL.out]) hlt2
          have hee : l[i] = e := (List.getElem?_eq_some_iff.1 he).2
          rw [hee, hsv] at b2
          exact ⟨a1, b2⟩
        have KL9 : Hid (∀ W', Below W2.heap.size W2 W' → W'.cell? ⟨p, 0, none⟩ = some (.slice sb nb cb)) := fun W' hb => by
          have hr := (hb.block _ (lt_of_block hsh.row)).trans hsh.row
          have a0 := cell_row hr 0
          have a0' : W'.cell? ⟨S.p, 0, none⟩ = some bv := by simpa using a0
          rw [hbv', ← HP.out] at a0'
          exact a0'
        have OW9 : Hid (∀ W', Below W2.heap.size W2 W' → W'.ownsRow 0 31 1 (.slice sb nb cb) nb (Lb1.map (·.1))) := fun W' hb => by
          have ho : W'.ownsRow 0 31 1 bv Lb1.length (Lb1.map (·.1)) := own_kept (w' := W') hsh.rb fun g hg => hb.block g (own_block hsh.rb hg).2
          rw [hbv', ← hnb] at ho
          exact ho
        have st2 := (KB.out _ T2.out).2
        have XR9 : Hid (∀ W', Below W2.heap.size W2 W' → W'.ownsRow 0 31 1 (.slice se ne ce) ne ((ysOf B e).map (·.1))) := fun W' hb => by
          have ho := own_kept (w' := W') (st2.each e hem).own fun g hg => hb.block g (own_block (st2.each e hem).own hg).2
          rw [hye.1, ← hsv, hne]
          exact ho
        have GH : Hid (∀ b ∈ ({ S with bv := bv, sv := sv, Lb := Lb1, Ls := S.Ls ++ [(x, Value.slice (some ⟨G, 0, none⟩) L fc, l.length, l.flatMap SFile.cells)] } : Sg).hdr, b ∈ S.hdr ∨ W0.heap.size ≤ b) := hgr.hdr
        have NX9 : Hid (∀ Y5, Below W2.heap.size W2 Y5 → ∀ (s6 : Option Addr) (c6 : Nat) (W6 : World), W6.ownsRow 0 31 1 (.slice s6 (nb + ne) c6) (nb + ne) (Lb1.map (·.1) ++ (ysOf B e).map (·.1)) → (((Value.slice s6 (nb + ne) c6).ownBlock = (Value.slice sb nb cb).ownBlock ∧ Y5.grownBy W6 (Value.slice sb nb cb).ownBlock) ∨ ((∀ g, (Value.slice s6 (nb + ne) c6).ownBlock = some g → Y5.heap.size ≤ g) ∧ Y5.grownBy W6 none)) →
            ShelfAt (W6.setCell ⟨p, 0, none⟩ (.slice s6 (nb + ne) c6)) { S with bv := .slice s6 (nb + ne) c6, sv := sv, Lb := Lb1 ++ ysOf B e, Ls := S.Ls ++ [(x, Value.slice (some ⟨G, 0, none⟩) L fc, l.length, l.flatMap SFile.cells)] } ∧ Grew Y5 (W6.setCell ⟨p, 0, none⟩ (.slice s6 (nb + ne) c6)) { S with bv := bv, sv := sv, Lb := Lb1, Ls := S.Ls ++ [(x, Value.slice (some ⟨G, 0, none⟩) L fc, l.length, l.flatMap SFile.cells)] } { S with bv := .slice s6 (nb + ne) c6, sv := sv, Lb := Lb1 ++ ysOf B e, Ls := S.Ls ++ [(x, Value.slice (some ⟨G, 0, none⟩) L fc, l.length, l.flatMap SFile.cells)] } ∧ W6.cell? ⟨p, 0, none⟩ = some (.slice sb nb cb) ∧ W6.frozen? ⟨p, 0, none⟩ = false ∧ Touch ({ S with bv := bv, sv := sv, Lb := Lb1, Ls := S.Ls ++ [(x, Value.slice (some ⟨G, 0, none⟩) L fc, l.length, l.flatMap SFile.cells)] } : Sg).hdr Y5 W6) := fun Y5 hb s6 c6 W6 o6 f6 => by
          have h5 := hsh.kept (w' := Y5) fun b hm => hb.block b (hsh.lt b hm)
          have f7 := f6
          rw [← hbv'] at f7
          have hfam : Fam Y5 0 5 1 (Lb1 ++ ysOf B e) := by
            have stY : BlocksAt Y5 B e.sv e.bs e.file.blocks := (st2.each e hem).kept fun b hb2 => hb.block b (by rcases hb2 with h' | h'; exact (st2.each e hem).lt.1 b h'; exact (st2.each e hem).lt.2 b h')
            refine Fam.join h5.fb (ys_fam stY (List.nodup_append.1 (HST.out.from_ e hem).2.2).2.1 hB) (fun b hb1 hb2 => ?_)
            have hbe := ys_blks hb2
            have hge := (HST.out.from_ e hem).2.1 b hbe
            have hb1' : b ∈ blks (S.Lb ++ ysAll B (l.take i)) := by rw [← hLb1]; exact hb1
            rw [blks_append] at hb1'
            rcases List.mem_append.1 hb1' with h' | h'
            · have := HLO.out b (by simp [Sg.foot, h'])
              omega
            · obtain ⟨e', he', hb'⟩ := ysAll_blks h'
              obtain ⟨j, hj⟩ := List.getElem?_of_mem he'
              have hji : j < i := by
                have := (List.getElem?_eq_some_iff.1 hj).1
                simp at this
                omega
              rw [List.getElem?_take_of_lt hji] at hj
              have := List.pairwise_iff_getElem.1 HAP.out j i (List.getElem?_eq_some_iff.1 hj).1 hlt2 hji
              rw [(List.getElem?_eq_some_iff.1 hj).2, (List.getElem?_eq_some_iff.1 he).2] at this
              exact this.2 b hb' hbe
          have r := h5.pushB (bv' := .slice s6 (nb + ne) c6) (ys := ysOf B e) (by show World.ownsRow W6 0 31 1 _ (Lb1.length + (ysOf B e).length) (Lb1.map (·.1) ++ (ysOf B e).map (·.1)); rw [hye.2, ← hnb, ← hne]; exact o6) f7 hfam
          obtain ⟨q1, q2, q3, q4⟩ := r
          have q3' : W6.cell? ⟨S.p, 0, none⟩ = some bv := q3
          rw [hbv'] at q3'
          rw [HP.out]
          exact ⟨q1, q2, q3', q4, push_touch f7⟩
        have HGR := hid hgr
        have hlt1 : (i : Int) < (L : Int) := by omega
        have V1 : IntKind.i64.wrap ((i : Int) + 1) = (i : Int) + 1 := by rw [IntKind.wrap_i64]; omega
        have i0 : (0 : Int) ≤ (i : Int) := by omega
        clear hsh hgr hbv hbv' hye hsv hne hnb hLb1 he hem st2
        go_wp2_with fail
        refine wp_region_noPanic ?_
        refine wp_region_held_drew (S := fun W => W.cell? ⟨w.heap.size, 1, none⟩ = some (.slice (some ⟨G, 0, none⟩) L fc) ∧ W.cell? ⟨G, i * 3 + 2, none⟩ = some (.slice se ne ce)) (by kernel_rfl) (K9.out _ T2.out.drew) (fun hHeld => ?_)
        obtain ⟨Ye, hYe⟩ : ∃ Ye, Ye = W2.drew := ⟨_, rfl⟩
        rw [← hYe] at hHeld ⊢
        have BE : Hid (Below W2.heap.size W2 Ye) := by rw [hYe]; exact (Below.refl _ _).drew
        have TE : Hid (Touch S.hdr W0 Ye) := by rw [hYe]; exact T2.out.drew
        clear hYe
        refine wpAnyH_take (i := 0) (v := ?_) (by simp only [List.getElem?_toArray, List.getElem?_cons_zero]; rfl) (by kernel_rfl) (by kernel_rfl) (by kernel_rfl) (fun _ _ _ h => h) (Or.inl ⟨by rfl, ?_⟩) (by assumption) ?_
        rotate_left 1
        · intro w hSw; (try dsimp only at hSw); go_simp; (try with_reducible rfl)
        try simp only [Act.put, List.setIfInBounds_toArray, List.set_cons_zero, List.set_cons_succ]
        refine wpAnyH_take (i := 1) (v := ?_) (by simp only [List.getElem?_toArray, List.getElem?_cons_succ, List.getElem?_cons_zero]; rfl) (by kernel_rfl) (by kernel_rfl) (by kernel_rfl) (fun _ _ _ h => h) (Or.inl ⟨by rfl, ?_⟩) (by assumption) ?_
        rotate_left 1
        · intro w hSw; (try dsimp only at hSw); go_simp; (try with_reducible rfl)
        try simp only [Act.put, List.setIfInBounds_toArray, List.set_cons_zero, List.set_cons_succ]
        refine wpAnyH_take (i := 2) (v := ?_) (by simp only [List.getElem?_toArray, List.getElem?_cons_succ, List.getElem?_cons_zero]; rfl) (by kernel_rfl) (by kernel_rfl) (by kernel_rfl) (fun _ _ _ h => h) (Or.inl ⟨by rfl, ?_⟩) (by assumption) ?_
        rotate_left 1
        · intro w hSw; (try dsimp only at hSw); go_simp; (try with_reducible rfl)
        try simp only [Act.put, List.setIfInBounds_toArray, List.set_cons_zero, List.set_cons_succ]
        refine wpAnyH_take (i := 3) (v := ?_) (by simp only [List.getElem?_toArray, List.getElem?_cons_succ, List.getElem?_cons_zero]; rfl) (by kernel_rfl) (by kernel_rfl) (by kernel_rfl) (fun _ _ _ h => h) (Or.inl ⟨by rfl, ?_⟩) (by assumption) ?_
        rotate_left 1
        · intro w hSw; (try dsimp only at hSw); go_simp; (try with_reducible rfl)
        try simp only [Act.put, List.setIfInBounds_toArray, List.set_cons_zero, List.set_cons_succ]
        refine wpAnyH_take (i := 5) (v := ?_) (by simp only [List.getElem?_toArray, List.getElem?_cons_succ, List.getElem?_cons_zero]; rfl) (by kernel_rfl) (by kernel_rfl) (by kernel_rfl) (fun _ _ _ h => h) (Or.inl ⟨by rfl, ?_⟩) (by assumption) ?_
        rotate_left 1
        · intro w hSw; (try dsimp only at hSw); go_simp; (try with_reducible rfl)
        try simp only [Act.put, List.setIfInBounds_toArray, List.set_cons_zero, List.set_cons_succ]
        refine wpAnyH_take (i := 6) (v := ?_) (by simp only [List.getElem?_toArray, List.getElem?_cons_succ, List.getElem?_cons_zero]; rfl) (by kernel_rfl) (by kernel_rfl) (by kernel_rfl) (fun _ _ _ h => h) (Or.inl ⟨by rfl, ?_⟩) (by assumption) ?_
        rotate_left 1
        · intro w hSw; (try dsimp only at hSw); go_simp; (try with_reducible rfl)
        try simp only [Act.put, List.setIfInBounds_toArray, List.set_cons_zero, List.set_cons_succ]
        refine wpAnyH_take (i := 7) (v := ?_) (by simp only [List.getElem?_toArray, List.getElem?_cons_succ, List.getElem?_cons_zero]; rfl) (by kernel_rfl) (by kernel_rfl) (by kernel_rfl) (fun _ _ _ h => h) (Or.inl ⟨by rfl, ?_⟩) (by assumption) ?_
        rotate_left 1
        · intro w hSw; (try dsimp only at hSw); go_simp; (try with_reducible rfl)
        try simp only [Act.put, List.setIfInBounds_toArray, List.set_cons_zero, List.set_cons_succ]
        refine wpAnyH_take (i := 8) (v := ?_) (by simp only [List.getElem?_toArray, List.getElem?_cons_succ, List.getElem?_cons_zero]; rfl) (by kernel_rfl) (by kernel_rfl) (by kernel_rfl) (fun _ _ _ h => h) (Or.inl ⟨by rfl, ?_⟩) (by assumption) ?_
        rotate_left 1
        · intro w hSw; (try dsimp only at hSw); go_simp; (try with_reducible rfl)
        try simp only [Act.put, List.setIfInBounds_toArray, List.set_cons_zero, List.set_cons_succ]
        refine wpAnyH_take (i := 9) (v := ?_) (by simp only [List.getElem?_toArray, List.getElem?_cons_succ, List.getElem?_cons_zero]; rfl) (by kernel_rfl) (by kernel_rfl) (by kernel_rfl) (fun _ _ _ h => h) (Or.inl ⟨by rfl, ?_⟩) (by assumption) ?_
        rotate_left 1
        · intro w hSw; (try dsimp only at hSw); go_simp; (try with_reducible rfl)
        try simp only [Act.put, List.setIfInBounds_toArray, List.set_cons_zero, List.set_cons_succ]
        refine wpAnyH_take (i := 10) (v := ?_) (by simp only [List.getElem?_toArray, List.getElem?_cons_succ, List.getElem?_cons_zero]; rfl) (by kernel_rfl) (by kernel_rfl) (by kernel_rfl) (fun _ _ _ h => h) (Or.inl ⟨by rfl, ?_⟩) (by assumption) ?_
        rotate_left 1
        · intro w hSw; (try dsimp only at hSw); go_simp; (try with_reducible rfl)
        try simp only [Act.put, List.setIfInBounds_toArray, List.set_cons_zero, List.set_cons_succ]
        refine wpAnyH_ready (rs := [4]) (by kernel_rfl) (by simp) ?_
        refine AllReadyH.cons (by simp only [List.getElem?_toArray, List.getElem?_cons_succ, List.getElem?_cons_zero]; rfl) (fun K hK => ?_) AllReadyH.nil
        skip
        have cl := KL9.out _ BE.out
        go_simp
        clear cl
        clear hHeld
        refine hK.out _ _ (K9.out _ TE.out) (fun hHeld => ?_)
        clear hK K
        try simp only [Act.put, List.setIfInBounds_toArray, List.set_cons_zero, List.set_cons_succ]
        refine wpAnyH_ready (rs := [11]) (by kernel_rfl) (by simp) ?_
        refine AllReadyH.cons (by simp only [List.getElem?_toArray, List.getElem?_cons_succ, List.getElem?_cons_zero]; rfl) (fun K hK => ?_) AllReadyH.nil
        skip
        refine wp_rows _ _ 51 31 _ 1 24 rfl Tryz.underlying51 info31 rfl (by decide) nb ne (.slice sb nb cb) (.slice se ne ce) (Lb1.map (·.1)) ((ysOf B e).map (·.1)) rfl (OW9.out _ BE.out) rfl (XR9.out _ BE.out) (fun u hu => by obtain ⟨y, hy, rfl⟩ := List.mem_map.1 hu; obtain ⟨k, hk⟩ := List.getElem?_of_mem hy; obtain ⟨b9, bl9, _, _, rfl⟩ := ys_get B e hk; rfl) (by omega) (by omega) ?_
        intro v6 W6 o6 f6
        obtain ⟨s6, c6, rfl⟩ := sh_slice o6
        obtain ⟨g1, g2, g3, g4, g5⟩ := NX9.out _ BE.out _ _ _ o6 f6
        have SHN := hid (And.intro g1 g2)
        have T6 := TE.out.trans g5 GH.out
        have T7 := TE.out.trans g2.touch GH.out
        clear o6 f6 g1 g2 g5
        clear hHeld
        refine hK.out _ _ (K9.out _ T6) (fun hHeld => ?_)
        clear hK K
        try simp only [Act.put, List.setIfInBounds_toArray, List.set_cons_zero, List.set_cons_succ]
        refine wpAnyH_take (i := 12) (v := ?_) (by simp only [List.getElem?_toArray, List.getElem?_cons_succ, List.getElem?_cons_zero]; rfl) (by kernel_rfl) (by kernel_rfl) (by kernel_rfl) (fun _ _ _ h => h) (Or.inl ⟨by rfl, ?_⟩) (by assumption) ?_
        rotate_left 1
        · intro w hSw; (try dsimp only at hSw); go_simp; (try with_reducible rfl)
        try simp only [Act.put, List.setIfInBounds_toArray, List.set_cons_zero, List.set_cons_succ]
        refine wpAnyH_take (i := 13) (v := ?_) (by simp only [List.getElem?_toArray, List.getElem?_cons_succ, List.getElem?_cons_zero]; rfl) (by kernel_rfl) (by kernel_rfl) (by kernel_rfl) (fun _ _ _ h => h) (Or.inl ⟨by rfl, ?_⟩) (by assumption) ?_
        rotate_left 1
        · intro w hSw; (try dsimp only at hSw); go_simp; (try with_reducible rfl)
        try simp only [Act.put, List.setIfInBounds_toArray, List.set_cons_zero, List.set_cons_succ]
        refine wpAnyH_ready (rs := [14]) (by kernel_rfl) (by simp) ?_
        refine AllReadyH.cons (by simp only [List.getElem?_toArray, List.getElem?_cons_succ, List.getElem?_cons_zero]; rfl) (fun K hK => ?_) AllReadyH.nil
        go_simp
        clear hHeld
        refine hK.out _ _ (K9.out _ T7) (fun hHeld => ?_)
        clear hK K
        try simp only [Act.put, List.setIfInBounds_toArray, List.set_cons_zero, List.set_cons_succ]
        refine wpAnyH_done (by kernel_rfl) ?_ _
        refine NoPanic.normal ?_
        clear g3 g4 T6 T7
        have GN := SHN.out.2
        go_wp2_with fail
        clear V1
        refine ⟨⟨i + 1, _, sv, by go_num, by omega, by rw [LBN.out]; exact SHN.out.1, ?_⟩, ?_⟩
        · rw [LBN.out]; exact (HGR.out.below BE.out).trans GN
        · show L + 1 - ((i : Int) + 1).toNat < L + 1 - (i : Int).toNat
          omega
      · have hlt1 : ¬ (i : Int) < (L : Int) := by omega
        have hte : l.take i = l := by rw [List.take_of_length_le]; rw [← HL.out]; omega
        rw [hte] at hsh hgr
        have FIN := hid (And.intro hsh ((Grew.refl w S).below BW.out |>.trans hgr))
        clear hsh hgr hte
        go_wp2_with fail
        go_end0
        rw [HP.out]
        exact ⟨rfl, bv, sv, FIN.out⟩
  · go_simp
    obtain ⟨Y5, hY5⟩ : ∃ Y5, Y5 = Yd.alloc (Obj.cells #[.int .i64 x, .slice fa L fc] 47) := ⟨_, rfl⟩
    rw [← hY5]
    have B5 : Hid (Below W0.heap.size W0 Y5) := by rw [hY5]; exact B0.out.alloc B0.out.size _
    have R5 : Hid (Y5.heap[Yd.heap.size]? = some (.cells #[.int .i64 x, .slice fa L fc] 47 (0, 0))) := by rw [hY5]; exact heap_alloc_new Yd _
    clear hY5
    clear hHeld
    refine hK.out _ _ (K0.out _ B5.out) (fun hHeld => ?_)
    clear hK K
    try simp only [Act.put, List.setIfInBounds_toArray, List.set_cons_zero, List.set_cons_succ]
    refine wpAnyH_ready (rs := [4]) (by kernel_rfl) (by simp) ?_
    refine AllReadyH.cons (by simp only [List.getElem?_toArray, List.getElem?_cons_succ, List.getElem?_cons_zero]; rfl) (fun K hK => ?_) AllReadyH.nil
    skip
    have cl := KL.out _ B5.out
    go_simp
    clear cl
    clear hHeld
    refine hK.out _ _ (K0.out _ B5.out) (fun hHeld => ?_)
    clear hK K
    try simp only [Act.put, List.setIfInBounds_toArray, List.set_cons_zero, List.set_cons_succ]
    refine wpAnyH_ready (rs := [7]) (by kernel_rfl) (by simp) ?_
    refine AllReadyH.cons (by simp only [List.getElem?_toArray, List.getElem?_cons_succ, List.getElem?_cons_zero]; rfl) (fun K hK => ?_) AllReadyH.nil
    skip
    refine wp_far _ _ 53 47 _ 2 32 rfl Tryz.underlying53 info47 rfl (by decide) 0 ns 1 1 (.slice sv0 ns cv0) S.cells [.int .i64 x, .slice fa L fc] ⟨Yd.heap.size, 0, none⟩ rfl (OWN.out _ B5.out) rfl rfl (fun j u hu => by rw [add_zero_addr, cell_row R5.out]; simpa using hu) (fun u hu => by simp at hu; rcases hu with rfl | rfl <;> rfl) (by omega) (by omega) (Nat.zero_le _) ?_
    intro v6 W6 o6 f6
    obtain ⟨s6, c6, rfl⟩ := sh_slice o6
    obtain ⟨g1, g2, g3, g4⟩ := NXT.out _ B5.out _ _ _ o6 f6
    have SHN := hid (And.intro g1 g2)
    have T6 := K6.out _ _ _ B5.out g2
    clear o6 f6 g1 g2
    clear hHeld
    refine hK.out _ _ T6.1 (fun hHeld => ?_)
    clear hK K
    try simp only [Act.put, List.setIfInBounds_toArray, List.set_cons_zero, List.set_cons_succ]
    refine wpAnyH_take (i := 8) (v := ?_) (by simp only [List.getElem?_toArray, List.getElem?_cons_succ, List.getElem?_cons_zero]; rfl) (by kernel_rfl) (by kernel_rfl) (by kernel_rfl) (fun _ _ _ h => h) (Or.inl ⟨by rfl, ?_⟩) (by assumption) ?_
    rotate_left 1
    · intro w hSw; (try dsimp only at hSw); go_simp; (try with_reducible rfl)
    try simp only [Act.put, List.setIfInBounds_toArray, List.set_cons_zero, List.set_cons_succ]
    refine wpAnyH_take (i := 9) (v := ?_) (by simp only [List.getElem?_toArray, List.getElem?_cons_succ, List.getElem?_cons_zero]; rfl) (by kernel_rfl) (by kernel_rfl) (by kernel_rfl) (fun _ _ _ h => h) (Or.inl ⟨by rfl, ?_⟩) (by assumption) ?_
    rotate_left 1
    · intro w hSw; (try dsimp only at hSw); go_simp; (try with_reducible rfl)
    try simp only [Act.put, List.setIfInBounds_toArray, List.set_cons_zero, List.set_cons_succ]
    refine wpAnyH_ready (rs := [10]) (by kernel_rfl) (by simp) ?_
    refine AllReadyH.cons (by simp only [List.getElem?_toArray, List.getElem?_cons_succ, List.getElem?_cons_zero]; rfl) (fun K hK => ?_) AllReadyH.nil
    go_simp
    clear hHeld
    refine hK.out _ _ T6.2 (fun hHeld => ?_)
    clear hK K
    try simp only [Act.put, List.setIfInBounds_toArray, List.set_cons_zero, List.set_cons_succ]
    refine wpAnyH_done (by kernel_rfl) ?_ _
    refine NoPanic.normal ?_
    clear g3 g4 T6
    have STA : Hid (∃ sv, ShelfAt (W6.setCell ⟨p, 2, none⟩ (.slice s6 (ns + 1) c6)) { S with sv := sv, Ls := S.Ls ++ [(x, .slice fa L fc, l.length, l.flatMap SFile.cells)] } ∧ Grew W0 (W6.setCell ⟨p, 2, none⟩ (.slice s6 (ns + 1) c6)) S { S with sv := sv, Ls := S.Ls ++ [(x, .slice fa L fc, l.length, l.flatMap SFile.cells)] }) := ⟨_, SHN.out.1, BG.out _ _ _ B5.out SHN.out.2⟩
    obtain ⟨WS, hWS⟩ : ∃ WS, WS = W6.setCell ⟨p, 2, none⟩ (.slice s6 (ns + 1) c6) := ⟨_, rfl⟩
    rw [← hWS] at STA ⊢
    clear hWS SHN OWN NXT K6 R5 B5
    go_wp2_with fail
    go_loopw [4] (fun iv W => Hid (∃ (i : Nat) (bv sv : Value), iv = .int .i64 (i : Int) ∧ i ≤ L ∧ ShelfAt W { S with bv := bv, sv := sv, Lb := S.Lb ++ ysAll B (l.take i), Ls := S.Ls ++ [(x, Value.slice fa L fc, l.length, l.flatMap SFile.cells)] } ∧ Grew W0 W S { S with bv := bv, sv := sv, Lb := S.Lb ++ ysAll B (l.take i), Ls := S.Ls ++ [(x, Value.slice fa L fc, l.length, l.flatMap SFile.cells)] })) (fun iv _ => match iv with | .int _ i => L + 1 - i.toNat | _ => 0)
    case atStart =>
      obtain ⟨sv, h1, h2⟩ := STA.out
      exact ⟨0, S.bv, sv, rfl, Nat.zero_le _, by simpa [ysAll] using h1, by simpa [ysAll] using h2⟩
    case round =>
      clear STA
      obtain ⟨W2, hW2⟩ : ∃ W2, W2 = wr := ⟨_, rfl⟩
      rw [← hW2] at hrel ⊢
      clear hW2
      obtain ⟨i, bv, sv, rfl, hin, hsh, hgr⟩ := hrel.out
      clear hrel
      have T2 := hid hgr.touch
      have KB : Hid (∀ W', Touch S.hdr W0 W' → W'.cell? ⟨w.heap.size, 1, none⟩ = some (.slice fa L fc) ∧ StateAt W' n B (.slice fa L fc) l) := fun W' ht => by
        have hr := (ht.block _ (lt_of_block HR0.out) (fun hm => HBX.out _ (hdr_foot hm) rfl)).trans HR0.out
        have a1 := cell_row hr 1
        simp at a1
        exact ⟨a1, HST.out.kept fun b hb hl => ht.block b hl (fun hm => by have := HLO.out b (hdr_foot hm); omega)⟩
      have c1 := (KB.out _ T2.out).1
      rcases Nat.lt_or_eq_of_le hin with hlt | hlt
      · have hlt2 : i < l.length := by rw [← HL.out]; exact hlt
        obtain ⟨G, gc, hG, _, _⟩ := row_form HST.out.own (by omega)
        rw [← HL.out] at hG
        simp only [Value.slice.injEq, true_and] at hG
        obtain ⟨rfl, rfl⟩ := hG
        obtain ⟨e, he⟩ : ∃ e, l[i]? = some e := ⟨_, List.getElem?_eq_getElem hlt2⟩
        have hem := List.mem_of_getElem? he
        obtain ⟨se, ce, hsv⟩ := (HST.out.each e hem).sliceL
        obtain ⟨ne, hne⟩ : ∃ ne, ne = e.file.blocks.length := ⟨_, rfl⟩
        rw [← hne] at hsv
        obtain ⟨Lb1, hLb1⟩ : ∃ Lb1, Lb1 = S.Lb ++ ysAll B (l.take i) := ⟨_, rfl⟩
        obtain ⟨nb, hnb⟩ : ∃ nb, nb = Lb1.length := ⟨_, rfl⟩
        rw [← hLb1] at hsh hgr
        obtain ⟨sb, cb, hbv⟩ := sh_slice hsh.rb
        have hbv' : bv = .slice sb nb cb := by rw [hnb]; exact hbv
        have hye := ys_vals (HST.out.each e hem)
        have LBN : Hid (S.Lb ++ ysAll B (l.take (i + 1)) = Lb1 ++ ysOf B e) := by show _ = _; rw [ysAll_take he, hLb1, List.append_assoc]
        have hbd : nb + ne ≤ 1073741824 := by
          have h1 : (Lb1 ++ ysOf B e).length = nb + ne := by rw [List.length_append, hye.2, hnb, hne]
          have h2 := ysAll_le (B := B) (l := l) (i := i + 1)
          have h3 := ysAll_len (B := B) (l := l) (fun e he => (HST.out.each e he).len)
          have h4 := HLB.out
          rw [← LBN.out, List.length_append] at h1
          omega
        have K9 : Hid (∀ W', Touch S.hdr W0 W' → W'.cell? ⟨w.heap.size, 1, none⟩ = some (.slice (some ⟨G, 0, none⟩) L fc) ∧ W'.cell? ⟨G, i * 3 + 2, none⟩ = some (.slice se ne ce)) := fun W' ht => by
          obtain ⟨a1, a2⟩ := KB.out W' ht
          obtain ⟨_, _, b2⟩ := row_cells a2.own (k := i) (G := G) (gc := fc) (by rw [← HL.out]) hlt2
          have hee : l[i] = e := (List.getElem?_eq_some_iff.1 he).2
          rw [hee, hsv] at b2
          exact ⟨a1, b2⟩
        have KL9 : Hid (∀ W', Below W2.heap.size W2 W' → W'.cell? ⟨p, 0, none⟩ = some (.slice sb nb cb)) := fun W' hb => by
          have hr := (hb.block _ (lt_of_block hsh.row)).trans hsh.row
          have a0 := cell_row hr 0
          have a0' : W'.cell? ⟨S.p, 0, none⟩ = some bv := by simpa using a0
          rw [hbv', ← HP.out] at a0'
          exact a0'
        have OW9 : Hid (∀ W', Below W2.heap.size W2 W' → W'.ownsRow 0 31 1 (.slice sb nb cb) nb (Lb1.map (·.1))) := fun W' hb => by
          have ho : W'.ownsRow 0 31 1 bv Lb1.length (Lb1.map (·.1)) := own_kept (w' := W') hsh.rb fun g hg => hb.block g (own_block hsh.rb hg).2
          rw [hbv', ← hnb] at ho
          exact ho
        have st2 := (KB.out _ T2.out).2
        have XR9 : Hid (∀ W', Below W2.heap.size W2 W' → W'.ownsRow 0 31 1 (.slice se ne ce) ne ((ysOf B e).map (·.1))) := fun W' hb => by
          have ho := own_kept (w' := W') (st2.each e hem).own fun g hg => hb.block g (own_block (st2.each e hem).own hg).2
          rw [hye.1, ← hsv, hne]
          exact ho
        have GH : Hid (∀ b ∈ ({ S with bv := bv, sv := sv, Lb := Lb1, Ls := S.Ls ++ [(x, Value.slice (some ⟨G, 0, none⟩) L fc, l.length, l.flatMap SFile.cells)] } : Sg).hdr, b ∈ S.hdr ∨ W0.heap.size ≤ b) := hgr.hdr
        have NX9 : Hid (∀ Y5, Below W2.heap.size W2 Y5 → ∀ (s6 : Option Addr) (c6 : Nat) (W6 : World), W6.ownsRow 0 31 1 (.slice s6 (nb + ne) c6) (nb + ne) (Lb1.map (·.1) ++ (ysOf B e).map (·.1)) → (((Value.slice s6 (nb + ne) c6).ownBlock = (Value.slice sb nb cb).ownBlock ∧ Y5.grownBy W6 (Value.slice sb nb cb).ownBlock) ∨ ((∀ g, (Value.slice s6 (nb + ne) c6).ownBlock = some g → Y5.heap.size ≤ g) ∧ Y5.grownBy W6 none)) →
            ShelfAt (W6.setCell ⟨p, 0, none⟩ (.slice s6 (nb + ne) c6)) { S with bv := .slice s6 (nb + ne) c6, sv := sv, Lb := Lb1 ++ ysOf B e, Ls := S.Ls ++ [(x, Value.slice (some ⟨G, 0, none⟩) L fc, l.length, l.flatMap SFile.cells)] } ∧ Grew Y5 (W6.setCell ⟨p, 0, none⟩ (.slice s6 (nb + ne) c6)) { S with bv := bv, sv := sv, Lb := Lb1, Ls := S.Ls ++ [(x, Value.slice (some ⟨G, 0, none⟩) L fc, l.length, l.flatMap SFile.cells)] } { S with bv := .slice s6 (nb + ne) c6, sv := sv, Lb := Lb1 ++ ysOf B e, Ls := S.Ls ++ [(x, Value.slice (some ⟨G, 0, none⟩) L fc, l.length, l.flatMap SFile.cells)] } ∧ W6.cell? ⟨p, 0, none⟩ = some (.slice sb nb cb) ∧ W6.frozen? ⟨p, 0, none⟩ = false ∧ Touch ({ S with bv := bv, sv := sv, Lb := Lb1, Ls := S.Ls ++ [(x, Value.slice (some ⟨G, 0, none⟩) L fc, l.length, l.flatMap SFile.cells)] } : Sg).hdr Y5 W6) := fun Y5 hb s6 c6 W6 o6 f6 => by
          have h5 := hsh.kept (w' := Y5) fun b hm => hb.block b (hsh.lt b hm)
          have f7 := f6
          rw [← hbv'] at f7
          have hfam : Fam Y5 0 5 1 (Lb1 ++ ysOf B e) := by
            have stY : BlocksAt Y5 B e.sv e.bs e.file.blocks := (st2.each e hem).kept fun b hb2 => hb.block b (by rcases hb2 with h' | h'; exact (st2.each e hem).lt.1 b h'; exact (st2.each e hem).lt.2 b h')
            refine Fam.join h5.fb (ys_fam stY (List.nodup_append.1 (HST.out.from_ e hem).2.2).2.1 hB) (fun b hb1 hb2 => ?_)
            have hbe := ys_blks hb2
            have hge := (HST.out.from_ e hem).2.1 b hbe
            have hb1' : b ∈ blks (S.Lb ++ ysAll B (l.take i)) := by rw [← hLb1]; exact hb1
            rw [blks_append] at hb1'
            rcases List.mem_append.1 hb1' with h' | h'
            · have := HLO.out b (by simp [Sg.foot, h'])
              omega
            · obtain ⟨e', he', hb'⟩ := ysAll_blks h'
              obtain ⟨j, hj⟩ := List.getElem?_of_mem he'
              have hji : j < i := by
                have := (List.getElem?_eq_some_iff.1 hj).1
                simp at this
                omega
              rw [List.getElem?_take_of_lt hji] at hj
              have := List.pairwise_iff_getElem.1 HAP.out j i (List.getElem?_eq_some_iff.1 hj).1 hlt2 hji
              rw [(List.getElem?_eq_some_iff.1 hj).2, (List.getElem?_eq_some_iff.1 he).2] at this
              exact this.2 b hb' hbe
          have r := h5.pushB (bv' := .slice s6 (nb + ne) c6) (ys := ysOf B e) (by show World.ownsRow W6 0 31 1 _ (Lb1.length + (ysOf B e).length) (Lb1.map (·.1) ++ (ysOf B e).map (·.1)); rw [hye.2, ← hnb, ← hne]; exact o6) f7 hfam
          obtain ⟨q1, q2, q3, q4⟩ := r
          have q3' : W6.cell? ⟨S.p, 0, none⟩ = some bv := q3
          rw [hbv'] at q3'
          rw [HP.out]
          exact ⟨q1, q2, q3', q4, push_touch f7⟩
        have HGR := hid hgr
        have hlt1 : (i : Int) < (L : Int) := by omega
        have V1 : IntKind.i64.wrap ((i : Int) + 1) = (i : Int) + 1 := by rw [IntKind.wrap_i64]; omega
        have i0 : (0 : Int) ≤ (i : Int) := by omega
        clear hsh hgr hbv hbv' hye hsv hne hnb hLb1 he hem st2
        go_wp2_with fail
        refine wp_region_noPanic ?_
        refine wp_region_held_drew (S := fun W => W.cell? ⟨w.heap.size, 1, none⟩ = some (.slice (some ⟨G, 0, none⟩) L fc) ∧ W.cell? ⟨G, i * 3 + 2, none⟩ = some (.slice se ne ce)) (by kernel_rfl) (K9.out _ T2.out.drew) (fun hHeld => ?_)
        obtain ⟨Ye, hYe⟩ : ∃ Ye, Ye = W2.drew := ⟨_, rfl⟩
        rw [← hYe] at hHeld ⊢
        have BE : Hid (Below W2.heap.size W2 Ye) := by rw [hYe]; exact (Below.refl _ _).drew
        have TE : Hid (Touch S.hdr W0 Ye) := by rw [hYe]; exact T2.out.drew
        clear hYe
        refine wpAnyH_take (i := 0) (v := ?_) (by simp only [List.getElem?_toArray, List.getElem?_cons_zero]; rfl) (by kernel_rfl) (by kernel_rfl) (by kernel_rfl) (fun _ _ _ h => h) (Or.inl ⟨by rfl, ?_⟩) (by assumption) ?_
        rotate_left 1
        · intro w hSw; (try dsimp only at hSw); go_simp; (try with_reducible rfl)
        try simp only [Act.put, List.setIfInBounds_toArray, List.set_cons_zero, List.set_cons_succ]
        refine wpAnyH_take (i := 1) (v := ?_) (by simp only [List.getElem?_toArray, List.getElem?_cons_succ, List.getElem?_cons_zero]; rfl) (by kernel_rfl) (by kernel_rfl) (by kernel_rfl) (fun _ _ _ h => h) (Or.inl ⟨by rfl, ?_⟩) (by assumption) ?_
        rotate_left 1
        · intro w hSw; (try dsimp only at hSw); go_simp; (try with_reducible rfl)
        try simp only [Act.put, List.setIfInBounds_toArray, List.set_cons_zero, List.set_cons_succ]
        refine wpAnyH_take (i := 2) (v := ?_) (by simp only [List.getElem?_toArray, List.getElem?_cons_succ, List.getElem?_cons_zero]; rfl) (by kernel_rfl) (by kernel_rfl) (by kernel_rfl) (fun _ _ _ h => h) (Or.inl ⟨by rfl, ?_⟩) (by assumption) ?_
        rotate_left 1
        · intro w hSw; (try dsimp only at hSw); go_simp; (try with_reducible rfl)
        try simp only [Act.put, List.setIfInBounds_toArray, List.set_cons_zero, List.set_cons_succ]
        refine wpAnyH_take (i := 3) (v := ?_) (by simp only [List.getElem?_toArray, List.getElem?_cons_succ, List.getElem?_cons_zero]; rfl) (by kernel_rfl) (by kernel_rfl) (by kernel_rfl) (fun _ _ _ h => h) (Or.inl ⟨by rfl, ?_⟩) (by assumption) ?_
        rotate_left 1
        · intro w hSw; (try dsimp only at hSw); go_simp; (try with_reducible rfl)
        try simp only [Act.put, List.setIfInBounds_toArray, List.set_cons_zero, List.set_cons_succ]
        refine wpAnyH_take (i := 5) (v := ?_) (by simp only [List.getElem?_toArray, List.getElem?_cons_succ, List.getElem?_cons_zero]; rfl) (by kernel_rfl) (by kernel_rfl) (by kernel_rfl) (fun _ _ _ h => h) (Or.inl ⟨by rfl, ?_⟩) (by assumption) ?_
        rotate_left 1
        · intro w hSw; (try dsimp only at hSw); go_simp; (try with_reducible rfl)
        try simp only [Act.put, List.setIfInBounds_toArray, List.set_cons_zero, List.set_cons_succ]
        refine wpAnyH_take (i := 6) (v := ?_) (by simp only [List.getElem?_toArray, List.getElem?_cons_succ, List.getElem?_cons_zero]; rfl) (by kernel_rfl) (by kernel_rfl) (by kernel_rfl) (fun _ _ _ h => h) (Or.inl ⟨by rfl, ?_⟩) (by assumption) ?_
        rotate_left 1
        · intro w hSw; (try dsimp only at hSw); go_simp; (try with_reducible rfl)
        try simp only [Act.put, List.setIfInBounds_toArray, List.set_cons_zero, List.set_cons_succ]
        refine wpAnyH_take (i := 7) (v := ?_) (by simp only [List.getElem?_toArray, List.getElem?_cons_succ, List.getElem?_cons_zero]; rfl) (by kernel_rfl) (by kernel_rfl) (by kernel_rfl) (fun _ _ _ h => h) (Or.inl ⟨by rfl, ?_⟩) (by assumption) ?_
        rotate_left 1
        · intro w hSw; (try dsimp only at hSw); go_simp; (try with_reducible rfl)
        try simp only [Act.put, List.setIfInBounds_toArray, List.set_cons_zero, List.set_cons_succ]
        refine wpAnyH_take (i := 8) (v := ?_) (by simp only [List.getElem?_toArray, List.getElem?_cons_succ, List.getElem?_cons_zero]; rfl) (by kernel_rfl) (by kernel_rfl) (by kernel_rfl) (fun _ _ _ h => h) (Or.inl ⟨by rfl, ?_⟩) (by assumption) ?_
        rotate_left 1
        · intro w hSw; (try dsimp only at hSw); go_simp; (try with_reducible rfl)
        try simp only [Act.put, List.setIfInBounds_toArray, List.set_cons_zero, List.set_cons_succ]
        refine wpAnyH_take (i := 9) (v := ?_) (by simp only [List.getElem?_toArray, List.getElem?_cons_succ, List.getElem?_cons_zero]; rfl) (by kernel_rfl) (by kernel_rfl) (by kernel_rfl) (fun _ _ _ h => h) (Or.inl ⟨by rfl, ?_⟩) (by assumption) ?_
        rotate_left 1
        · intro w hSw; (try dsimp only at hSw); go_simp; (try with_reducible rfl)
        try simp only [Act.put, List.setIfInBounds_toArray, List.set_cons_zero, List.set_cons_succ]
        refine wpAnyH_take (i := 10) (v := ?_) (by simp only [List.getElem?_toArray, List.getElem?_cons_succ, List.getElem?_cons_zero]; rfl) (by kernel_rfl) (by kernel_rfl) (by kernel_rfl) (fun _ _ _ h => h) (Or.inl ⟨by rfl, ?_⟩) (by assumption) ?_
        rotate_left 1
        · intro w hSw; (try dsimp only at hSw); go_simp; (try with_reducible rfl)
        try simp only [Act.put, List.setIfInBounds_toArray, List.set_cons_zero, List.set_cons_succ]
        refine wpAnyH_ready (rs := [4]) (by kernel_rfl) (by simp) ?_
        refine AllReadyH.cons (by simp only [List.getElem?_toArray, List.getElem?_cons_succ, List.getElem?_cons_zero]; rfl) (fun K hK => ?_) AllReadyH.nil
        skip
        have cl := KL9.out _ BE.out
        go_simp
        clear cl
        clear hHeld
        refine hK.out _ _ (K9.out _ TE.out) (fun hHeld => ?_)
        clear hK K
        try simp only [Act.put, List.setIfInBounds_toArray, List.set_cons_zero, List.set_cons_succ]
        refine wpAnyH_ready (rs := [11]) (by kernel_rfl) (by simp) ?_
        refine AllReadyH.cons (by simp only [List.getElem?_toArray, List.getElem?_cons_succ, List.getElem?_cons_zero]; rfl) (fun K hK => ?_) AllReadyH.nil
        skip
        refine wp_rows _ _ 51 31 _ 1 24 rfl Tryz.underlying51 info31 rfl (by decide) nb ne (.slice sb nb cb) (.slice se ne ce) (Lb1.map (·.1)) ((ysOf B e).map (·.1)) rfl (OW9.out _ BE.out) rfl (XR9.out _ BE.out) (fun u hu => by obtain ⟨y, hy, rfl⟩ := List.mem_map.1 hu; obtain ⟨k, hk⟩ := List.getElem?_of_mem hy; obtain ⟨b9, bl9, _, _, rfl⟩ := ys_get B e hk; rfl) (by omega) (by omega) ?_
        intro v6 W6 o6 f6
        obtain ⟨s6, c6, rfl⟩ := sh_slice o6
        obtain ⟨g1, g2, g3, g4, g5⟩ := NX9.out _ BE.out _ _ _ o6 f6
        have SHN := hid (And.intro g1 g2)
        have T6 := TE.out.trans g5 GH.out
        have T7 := TE.out.trans g2.touch GH.out
        clear o6 f6 g1 g2 g5
        clear hHeld
        refine hK.out _ _ (K9.out _ T6) (fun hHeld => ?_)
        clear hK K
        try simp only [Act.put, List.setIfInBounds_toArray, List.set_cons_zero, List.set_cons_succ]
        refine wpAnyH_take (i := 12) (v := ?_) (by simp only [List.getElem?_toArray, List.getElem?_cons_succ, List.getElem?_cons_zero]; rfl) (by kernel_rfl) (by kernel_rfl) (by kernel_rfl) (fun _ _ _ h => h) (Or.inl ⟨by rfl, ?_⟩) (by assumption) ?_
        rotate_left 1
        · intro w hSw; (try dsimp only at hSw); go_simp; (try with_reducible rfl)
        try simp only [Act.put, List.setIfInBounds_toArray, List.set_cons_zero, List.set_cons_succ]
        refine wpAnyH_take (i := 13) (v := ?_) (by simp only [List.getElem?_toArray, List.getElem?_cons_succ, List.getElem?_cons_zero]; rfl) (by kernel_rfl) (by kernel_rfl) (by kernel_rfl) (fun _ _ _ h => h) (Or.inl ⟨by rfl, ?_⟩) (by assumption) ?_
        rotate_left 1
        · intro w hSw; (try dsimp only at hSw); go_simp; (try with_reducible rfl)
        try simp only [Act.put, List.setIfInBounds_toArray, List.set_cons_zero, List.set_cons_succ]
        refine wpAnyH_ready (rs := [14]) (by kernel_rfl) (by simp) ?_
        refine AllReadyH.cons (by simp only [List.getElem?_toArray, List.getElem?_cons_succ, List.getElem?_cons_zero]; rfl) (fun K hK => ?_) AllReadyH.nil
        go_simp
        clear hHeld
        refine hK.out _ _ (K9.out _ T7) (fun hHeld => ?_)
        clear hK K
        try simp only [Act.put, List.setIfInBounds_toArray, List.set_cons_zero, List.set_cons_succ]
        refine wpAnyH_done (by kernel_rfl) ?_ _
        refine NoPanic.normal ?_
        clear g3 g4 T6 T7
        have GN := SHN.out.2
        go_wp2_with fail
        clear V1
        refine ⟨⟨i + 1, _, sv, by go_num, by omega, by rw [LBN.out]; exact SHN.out.1, ?_⟩, ?_⟩
        · rw [LBN.out]; exact (HGR.out.below BE.out).trans GN
        · show L + 1 - ((i : Int) + 1).toNat < L + 1 - (i : Int).toNat
          omega
      · have hlt1 : ¬ (i : Int) < (L : Int) := by omega
        have hte : l.take i = l := by rw [List.take_of_length_le]; rw [← HL.out]; omega
        rw [hte] at hsh hgr
        have FIN := hid (And.intro hsh ((Grew.refl w S).below BW.out |>.trans hgr))
        clear hsh hgr hte
        go_wp2_with fail
        go_end0
        rw [HP.out]
        exact ⟨rfl, bv, sv, FIN.out⟩
end Go.Proofs.YtcpncfngadablaaGreatDoor
