import Derived.Test.YthehcjjckabljaaGreatDoorB20
namespace Go.Proofs.YthehcjjckabljaaGreatDoor
open Go.RowKit Go.Deep
set_option maxRecDepth 100000
section
variable {w w' : World}
theorem azA (b j : Nat) : (⟨b, 0, none⟩ : Addr).add j = ⟨b, j, none⟩ := by unfold Addr.add; split <;> simp_all
end
structure BlIn (w : World) (sv : Value) (blocks : List (List UInt8)) : Prop where
 sl : ∃ a c, sv = .slice a blocks.length c
 at_ : ∀ i (hi : i < blocks.length), ∃ a c xa xn xc, sv = .slice (some a) blocks.length c ∧ a.block < w.heap.size ∧ w.cell? (a.add i) = some (.slice xa xn xc) ∧ Shows w xa xn xc blocks[i]
structure StIn (w : World) (fv : Value) (l : List SFl) : Prop where
 sl : ∃ a c, fv = .slice a l.length c
 at_ : ∀ (k : Nat) (e : SFl), l[k]? = some e → ∃ a c, fv = .slice (some a) l.length c ∧ a.block < w.heap.size ∧ w.cell? (a.add (k * 3)) = some (encStr e.name) ∧ w.cell? ⟨(a.add (k * 3)).block, (a.add (k * 3)).off + 1, none⟩ = some (.bool e.file.shut) ∧ w.cell? ⟨(a.add (k * 3)).block, (a.add (k * 3)).off + 2, none⟩ = some e.sv ∧ BlIn w e.sv e.file.blocks
section
variable {w w' : World} {sv fv : Value} {blocks : List (List UInt8)} {l : List SFl}
theorem BlIn.below (h : BlIn w sv blocks) (hb : Below w.heap.size w w') : BlIn w' sv blocks :=
 ⟨h.sl, fun i hi => by
  obtain ⟨a, c, xa, xn, xc, e, hl, hc, hs⟩ := h.at_ i hi
  exact ⟨a, c, xa, xn, xc, e, Nat.lt_of_lt_of_le hl hb.size, (hb.cell (by rw [add_block]; exact hl)).trans hc, hs.touch (Tc.of_below (F := []) hb (Nat.le_refl _)) (by simp)⟩⟩
theorem StIn.below (h : StIn w fv l) (hb : Below w.heap.size w w') : StIn w' fv l :=
 ⟨h.sl, fun k e he => by
  obtain ⟨a, c, e1, hl, c0, c1, c2, hbl⟩ := h.at_ k e he
  have hc : ∀ q : Addr, q.block = (a.add (k * 3)).block → w'.cell? q = w.cell? q := fun q hq => hb.cell (by rw [hq, add_block]; exact hl)
  exact ⟨a, c, e1, Nat.lt_of_lt_of_le hl hb.size, (hc _ rfl).trans c0, (hc ⟨(a.add (k * 3)).block, (a.add (k * 3)).off + 1, none⟩ rfl).trans c1, (hc ⟨(a.add (k * 3)).block, (a.add (k * 3)).off + 2, none⟩ rfl).trans c2, hbl.below hb⟩⟩
end
section
variable {w w' : World}
theorem below_upA {n : Nat} {w2 : World} (h : Below (w.drewN n).heap.size (w.drewN n) w2) : ∀ (q : Addr) v, w.cell? q = some v → w2.cell? q = some v := fun q _ hv => (h.cell (p := q) (World.block_lt_of_cell? w _ hv)).trans hv
theorem BlIn.slice1 {sv : Value} {blocks : List (List UInt8)} (h : BlIn w sv blocks) (h0 : ¬ blocks.length = 0) : ∃ a c, sv = .slice (some a) blocks.length c := by
 obtain ⟨a, c, _, _, _, e, _⟩ := h.at_ 0 (by omega)
 exact ⟨a, c, e⟩
theorem StIn.one {fv : Value} {l : List SFl} (h : StIn w fv l) (h0 : ¬ l.length = 0) : ∃ a c, fv = .slice (some a) l.length c := by
 obtain ⟨a, c, e, _⟩ := h.at_ 0 _ (List.getElem?_eq_getElem (by omega))
 exact ⟨a, c, e⟩
theorem BlIn.round {sv : Value} {blocks : List (List UInt8)} {W wr : World} {k gc : Nat} {A : Addr} (h : BlIn w sv blocks) (hk : k < blocks.length) (hb : Below w.heap.size w W) (hq : Quiet W wr) (e : sv = .slice (some A) blocks.length gc) :
  ∃ xa xn xc, wr.cell? (A.add k) = some (.slice xa xn xc) ∧ ∀ n, (convert 118 9 (.slice xa xn xc)).run Tryz.prog (wr.drewN n) = .ok (encStr blocks[k]) (wr.drewN n) := by
 have hbr : Below w.heap.size w wr := hb.trans ((Quiet.touch hq []).below hb.size (by simp))
 obtain ⟨a, cap, xa, xn, xc, e1, _, c, hs⟩ := (h.below hbr).at_ k hk
 rw [e] at e1
 simp only [Value.slice.injEq, Option.some.injEq] at e1
 obtain ⟨rfl, _⟩ := e1
 exact ⟨xa, xn, xc, c, fun n => conv_shows (hs.touch (F := []) ((Tc.refl _ _).drewN n) (by simp))⟩
theorem StIn.read {fv : Value} {l : List SFl} {k gc : Nat} {A : Addr} {e : SFl} (h : StIn w fv l) (he : l[k]? = some e) (hv : fv = .slice (some A) l.length gc) : w.cell? (A.add (k * 3)) = some (encStr e.name) ∧ w.cell? ⟨(A.add (k * 3)).block, (A.add (k * 3)).off + 1, none⟩ = some (.bool e.file.shut) ∧ w.cell? ⟨(A.add (k * 3)).block, (A.add (k * 3)).off + 2, none⟩ = some e.sv ∧ BlIn w e.sv e.file.blocks := by
 obtain ⟨a, c, e1, _, c0, c1, c2, hb⟩ := h.at_ k e he
 rw [hv] at e1
 simp only [Value.slice.injEq, Option.some.injEq] at e1
 obtain ⟨rfl, _⟩ := e1
 exact ⟨c0, c1, c2, hb⟩
set_option maxRecDepth 100000 in
set_option maxHeartbeats 400000 in
theorem SameFile_in {s : ByteArray} {x : Bool} {sv1 sv2 : Value} {blocks : List (List UInt8)} (h1 : BlIn w sv1 blocks) (h2 : BlIn w sv2 blocks) (hn : blocks.length ≤ 1099511627776) :
  Calls Tryz.prog 66 #[.agg #[.string s, .bool x, sv1], .agg #[.string s, .bool x, sv2]] w fun e w' => e = .returned (.bool true) ∧ Below w.heap.size w w' := by
 by_cases h0 : blocks.length = 0
 ·obtain ⟨a1, c1, e1⟩ := h1.sl
  obtain ⟨a2, c2, e2⟩ := h2.sl
  rw [e1, e2, h0]
  clear h1 h2 e1 e2 h0
  cases x
  all_goals
   go_enter Tryz.func66, Tryz.ntmps66
   go_wp2
   refine wp_loop_rounds 1 ?_
   rw [rounds_succ]
   go_wp2
   go_ret
   exact ⟨rfl, ((Below.refl _ w).alloc (Nat.le_refl _) _).alloc (by simp) _⟩
 ·obtain ⟨A1, gc1, e1⟩ := h1.slice1 h0
  obtain ⟨A2, gc2, e2⟩ := h2.slice1 h0
  have H1 := hid h1
  have H2 := hid h2
  have E1 := hid e1
  have E2 := hid e2
  rw [e1, e2]
  clear h1 h2 e1 e2
  obtain ⟨W, hW⟩ : ∃ W, W = (w.alloc (.cells #[.string s, .bool x, .slice (some A1) blocks.length gc1] 113)).alloc (.cells #[.string s, .bool x, .slice (some A2) blocks.length gc2] 113) := ⟨_, rfl⟩
  have hW1 := heap_two w (.cells #[.string s, .bool x, .slice (some A1) blocks.length gc1] 113) (.cells #[.string s, .bool x, .slice (some A2) blocks.length gc2] 113)
  rw [← hW] at hW1
  have hTW : Below w.heap.size w W := by rw [hW]; exact ((Below.refl _ w).alloc (Nat.le_refl _) _).alloc (by simp) _
  have b1 := cRw hW1.1 2
  have b2 := cRw hW1.2 2
  simp at b1 b2
  have HE := hid hW
  have HTW := hid hTW
  clear hW hW1 hTW
  cases x
  all_goals
   go_enter Tryz.func66, Tryz.ntmps66
   go_wp2
   rw [← HE.out]
   go_loopw [5] (fun i wr => ∃ k : Nat, k ≤ blocks.length ∧ i = .int .i64 k ∧ Quiet W wr) (fun i _ => blocks.length - (intOf i).toNat)
   case atStart => exact ⟨0, Nat.zero_le _, rfl, 0, rfl⟩
   case round =>
    obtain ⟨k, hk, rfl, hq⟩ := hrel
    have d1 := (Quiet.cell hq _).trans b1
    have d2 := (Quiet.cell hq _).trans b2
    by_cases hlt : k < blocks.length
    ·obtain ⟨xa, xn, xc, g1, cv1⟩ := H1.out.round hlt HTW.out hq E1.out
     obtain ⟨ya, yn, yc, g2, cv2⟩ := H2.out.round hlt HTW.out hq E2.out
     have HQ := hid hq
     clear hq b1 b2
     go_wp2
     go_quiet (fail)
     go_wp2
     go_roundw
     case rel => exact ⟨k + 1, by omega, by go_num, quiet_more HQ.out _⟩
     case measure => simp [intOf]; omega
    ·have HQ := hid hq
     clear hq b1 b2
     go_wp2
     go_ret
     exact ⟨rfl, HTW.out.trans ((Quiet.touch HQ.out []).below HTW.out.size (by simp))⟩
set_option maxRecDepth 100000 in
set_option maxHeartbeats 400000 in
theorem SameState_in {x : Int} {fv1 fv2 : Value} {l1 l2 : List SFl} (h1 : StIn w fv1 l1) (h2 : StIn w fv2 l2) (hp : l1.map SFl.pub = l2.map SFl.pub) (hn : l1.length ≤ 1099511627776) (hnb : ∀ e ∈ l1, e.file.blocks.length ≤ 1099511627776) :
  Calls Tryz.prog 31 #[.agg #[.int .i64 x, fv1], .agg #[.int .i64 x, fv2]] w fun e w' => e = .returned (.bool true) ∧ Below w.heap.size w w' := by
 have hll : l1.length = l2.length := by simpa using congrArg List.length hp
 obtain ⟨a1, c1, e1⟩ := h1.sl
 obtain ⟨a2, c2, e2⟩ := h2.sl
 by_cases h0 : l1.length = 0
 ·rw [e1, e2, ← hll, h0]
  clear h1 h2 e1 e2 h0 hll hp
  go_enter Tryz.func31, Tryz.ntmps31
  go_wp2
  refine wp_loop_rounds 1 ?_
  rw [rounds_succ]
  go_wp2
  go_ret
  exact ⟨rfl, ((Below.refl _ w).alloc (Nat.le_refl _) _).alloc (by simp) _⟩
 ·clear e1 e2
  obtain ⟨A1, gc1, e1⟩ := h1.one h0
  obtain ⟨A2, gc2, e2⟩ := h2.one (by omega)
  have H1 := hid h1
  have H2 := hid h2
  have E1 := hid e1
  have E2 := hid e2
  have HP := hid hp
  have HNB := hid hnb
  have HL := hid hll
  rw [e1, e2, ← hll]
  clear h1 h2 e1 e2 hll hp hnb
  obtain ⟨W, hW⟩ : ∃ W, W = (w.alloc (.cells #[.int .i64 x, .slice (some A1) l1.length gc1] 42)).alloc (.cells #[.int .i64 x, .slice (some A2) l1.length gc2] 42) := ⟨_, rfl⟩
  have hW1 := heap_two w (.cells #[.int .i64 x, .slice (some A1) l1.length gc1] 42) (.cells #[.int .i64 x, .slice (some A2) l1.length gc2] 42)
  rw [← hW] at hW1
  have hTW : Below w.heap.size w W := by rw [hW]; exact ((Below.refl _ w).alloc (Nat.le_refl _) _).alloc (by simp) _
  have HW := hid hW1
  have HE := hid hW
  have HTW := hid hTW
  clear hW hW1 hTW
  go_enter Tryz.func31, Tryz.ntmps31
  go_wp2
  rw [← HE.out]
  go_loopw [5] (fun i wr => ∃ k : Nat, k ≤ l1.length ∧ i = .int .i64 k ∧ Below W.heap.size W wr) (fun i _ => l1.length - (intOf i).toNat)
  case atStart => exact ⟨0, Nat.zero_le _, rfl, Below.refl _ _⟩
  case round =>
   obtain ⟨k, hk, rfl, hq⟩ := hrel
   have r1 : wr.heap[w.heap.size]? = some (.cells #[.int .i64 x, .slice (some A1) l1.length gc1] 42) := (hq.block _ (ltB HW.out.1)).trans HW.out.1
   have r2 : wr.heap[w.heap.size + 1]? = some (.cells #[.int .i64 x, .slice (some A2) l1.length gc2] 42) := (hq.block _ (ltB HW.out.2)).trans HW.out.2
   have d1 := cRw r1 1
   have d2 := cRw r2 1
   simp at d1 d2
   have hbw : Below w.heap.size w wr := HTW.out.trans (hq.mono HTW.out.size)
   by_cases hlt : k < l1.length
   ·have hlt2 : k < l2.length := by have := HL.out; omega
    have hpk : l1[k].pub = l2[k].pub := by
     have := congrArg (fun l => l[k]?) HP.out
     simpa [List.getElem?_eq_getElem hlt, List.getElem?_eq_getElem hlt2] using this
    have hnm : l1[k].name = l2[k].name := congrArg Prod.fst hpk
    have hfl : l1[k].file = l2[k].file := congrArg Prod.snd hpk
    have S1 := H1.out.below hbw
    have S2 := H2.out.below hbw
    obtain ⟨c10, c11, c12, hb1⟩ := S1.read (List.getElem?_eq_getElem hlt) E1.out
    obtain ⟨c20, c21, c22, hb2⟩ := S2.read (List.getElem?_eq_getElem hlt2) E2.out
    rw [← hnm] at c20
    rw [← hfl] at c21 hb2
    have hnk := HNB.out _ (List.getElem_mem hlt)
    obtain ⟨s, hs⟩ : ∃ s, Value.string s = encStr l1[k].name := ⟨_, rfl⟩
    obtain ⟨y, hy⟩ : ∃ y, y = l1[k].file.shut := ⟨_, rfl⟩
    have HC := hid (fun n : Nat => SameFile_in (w := wr.drewN n) (s := s) (x := y) (hb1.below (w := wr) ⟨rfl, rfl, rfl, Nat.le_refl _, fun _ _ => rfl⟩) (hb2.below (w := wr) ⟨rfl, rfl, rfl, Nat.le_refl _, fun _ _ => rfl⟩) hnk)
    obtain ⟨ga1, gk1, hs1⟩ := hb1.sl
    obtain ⟨ga2, gk2, hs2⟩ := hb2.sl
    have HQ := hid hq
    have l1' := ltB r1
    have l2' := ltB r2
    obtain ⟨m, hm⟩ : ∃ m, m = l1[k].file.blocks.length := ⟨_, rfl⟩
    rw [← hm] at hs1 hs2
    rw [hs1] at HC c12
    rw [hs2] at HC c22
    rw [← hs] at c10 c20
    rw [← hy] at c11 c21
    clear hq r1 r2 hb1 hb2 hbw hs1 hs2 hs hy hnk hpk hnm hfl S1 S2 hm
    go_wp2
    go_region_held3 (fun V => (V.cell? ⟨w.heap.size, 1, none⟩ = some (.slice (some A1) l1.length gc1) ∧ V.cell? ⟨w.heap.size + 1, 1, none⟩ = some (.slice (some A2) l1.length gc2)) ∧ (V.cell? (A1.add (k * 3)) = some (.string s) ∧ V.cell? ⟨(A1.add (k * 3)).block, (A1.add (k * 3)).off + 1, none⟩ = some (.bool y) ∧ V.cell? ⟨(A1.add (k * 3)).block, (A1.add (k * 3)).off + 2, none⟩ = some (.slice ga1 m gk1)) ∧ V.cell? (A2.add (k * 3)) = some (.string s) ∧ V.cell? ⟨(A2.add (k * 3)).block, (A2.add (k * 3)).off + 1, none⟩ = some (.bool y) ∧ V.cell? ⟨(A2.add (k * 3)).block, (A2.add (k * 3)).off + 2, none⟩ = some (.slice ga2 m gk2)) (go_keep)
     (first | (go_at_call 66; refine (HC.out 1).mono ?_; rintro e w2 ⟨rfl, ht2⟩; have up := below_upA ht2; have z1 := up _ _ d1; have z2 := up _ _ d2; have z3 := up _ _ c10; have z4 := up _ _ c11; have z5 := up _ _ c12; have z6 := up _ _ c20; have z7 := up _ _ c21; have z8 := up _ _ c22; have HT2 := hid ht2; clear up ht2))
    go_wp2
    go_roundw
    case rel => exact ⟨k + 1, by omega, by go_num, HQ.out.trans (below_quiet HT2.out HQ.out.size)⟩
    case measure => simp [intOf]; omega
   ·have HQ := hid hbw
    clear hq r1 r2 hbw
    go_wp2
    go_ret
    exact ⟨rfl, HQ.out⟩
end
section
variable {w w' : World}
theorem copyIn_at {a : Addr} {B c : Nat} {bl : List UInt8} (h : ∀ j v, (Lib.byteCells bl)[j]? = some v → w.cell? (a.add j) = some v) (ha : a.block < w.heap.size) (hl : bl.length = B) (hc : B ≤ c) (h1 : 64 ≤ B) (h2 : B ≤ 65536) :
  Calls Tryz.prog 173 #[.slice (some a) B c, .int .i64 B] w fun e w' => e = .returned (sliceV w.heap.size B) ∧ BytesAt w' w.heap.size bl ∧ Tc [] w w' ∧ w'.heap.size = w.heap.size + 1 := by
 have h3 := copyBlock_any bl a c (B : Int) w (by omega) (by omega) (by omega) (by omega) h ha
 rw [cutB_whole (by omega), hl] at h3
 exact h3
set_option maxRecDepth 100000 in
set_option maxHeartbeats 400000 in
theorem copyBlocksIn_any {B : Nat} {sv : Value} {blocks : List (List UInt8)} (h : BlIn w sv blocks) (hlb : ∀ b ∈ blocks, b.length = B) (hB1 : 64 ≤ B) (hB2 : B ≤ 65536) (hn : blocks.length ≤ 1099511627776) :
  Calls Tryz.prog 121 #[sv] w fun e w' => ∃ sv' bs', e = .returned sv' ∧ BkA w' B sv' bs' blocks ∧ FreshB w.heap.size sv' bs' ∧ Below w.heap.size w w' := by
 by_cases h0 : blocks.length = 0
 ·obtain ⟨a1, c1, hsv⟩ := h.sl
  have hbl : blocks = [] := List.eq_nil_of_length_eq_zero h0
  subst hbl
  rw [hsv]
  clear h hsv
  simp only [List.length_nil]
  go_enter Tryz.func121, Tryz.ntmps121
  go_wp2
  refine wp_loop_rounds 1 ?_
  rw [rounds_succ]
  go_wp2
  go_ret
  exact ⟨.slice none 0 0, [], rfl, ⟨World.ownsRow_nil _ _ _ _, fun i b bl hb => by simp at hb⟩, ⟨by simp [Value.ownBlock], by simp, by simp [Value.ownBlock]⟩, Below.refl _ _⟩
 ·obtain ⟨A, gc, hsv⟩ := h.slice1 h0
  have H := hid h
  have HSV := hid hsv
  have HLB := hid hlb
  rw [hsv]
  clear h hsv hlb
  go_enter Tryz.func121, Tryz.ntmps121
  go_wp2
  go_loopw [3, 8] (fun v i wr => ∃ (k : Nat) (bs' : List Nat), k ≤ blocks.length ∧ i = .int .i64 k ∧ BkA wr B v bs' (blocks.take k) ∧ FreshB w.heap.size v bs' ∧ Below w.heap.size w wr) (fun _ i _ => blocks.length - (intOf i).toNat)
  case atStart => exact ⟨0, [], Nat.zero_le _, rfl, ⟨World.ownsRow_nil _ _ _ _, fun i b bl hb => by simp at hb⟩, ⟨by simp [Value.ownBlock], by simp, by simp [Value.ownBlock]⟩, Below.refl _ _⟩
  case round =>
   obtain ⟨k, bs', hk, rfl, hB, hF, hb⟩ := hrel
   by_cases hlt : k < blocks.length
   ·obtain ⟨A', cap, xa, xn, xc, e1, _, cG, hs⟩ := (H.out.below hb).at_ k hlt
    rw [HSV.out] at e1
    simp only [Value.slice.injEq, Option.some.injEq] at e1
    obtain ⟨rfl, -, -⟩ := e1
    have hlen : (blocks[k]'hlt).length = B := HLB.out _ (List.getElem_mem hlt)
    have hxn : xn = B := by rw [← hs.len, hlen]
    rw [hxn] at cG hs
    clear hxn
    obtain ⟨ad, rfl, lad, hcells⟩ := hs.at_ (by omega)
    have HC := hid (copyIn_at hcells lad hlen hs.cap hB1 hB2)
    have hl : (blocks.take k).length = k := by simp; omega
    have HB := hid hB
    have HF := hid hF
    have HBW := hid hb
    have HL := hid hl
    have HLEN := hid hlen
    clear hs hcells lad hB hF hb hl hlen
    go_wp2_with (first
     |(go_at_call 173; refine HC.out.mono ?_; rintro e w2 ⟨rfl, hb2, ht2, hz2⟩; have HB2 := hid hb2; have HT2 := hid ht2; have HZ2 := hid hz2; clear hb2 ht2 hz2)
     |(at_builtin; refine wpList_append_fresh _ rfl _ _ rfl u3 k (bs'.map fun b => sliceV b B) ⟨w2.heap.size, 0, none⟩ (sliceV wr.heap.size B) rfl rfl ?h1 ?h2 rfl ?h3 ?_; rotate_left 3; intro v' w3 r1 r2 r3; have H1 := hid r1; have H2 := hid r2; have H3 := hid r3; clear r1 r2 r3))
    case h1 =>
     have h := ownsRow_touch HB.out.own HT2.out (by simp)
     rw [HL.out] at h
     exact h.alloc _
    case h2 => exact cRw (heap_alloc_new w2 _) 0
    case h3 => omega
    have hz := HZ2.out
    have hbw := HBW.out.size
    have hl := HL.out
    have hr := HB.out.snoc (nb := blocks[k]) HF.out hbw (Nat.le_refl _) (by omega) HT2.out HLEN.out HB2.out (by rw [hl]; exact H1.out) H2.out H3.out
    have htk : blocks.take (k + 1) = blocks.take k ++ [blocks[k]] := List.take_succ_eq_append_getElem hlt
    have hbel : Below w.heap.size w w3 := HBW.out.trans (hr.2.2.below hbw (fun b hb => HF.out.1 b (by simpa using hb)))
    rw [← htk] at hr
    have HR := hid hr
    have HBE := hid hbel
    clear hr hbel htk hz hl hbw
    go_roundw
    case rel => first | exact ⟨k + 1, bs' ++ [wr.heap.size], by omega, by go_num, HR.out.1, HR.out.2.1, HBE.out⟩ | ((repeat apply Exists.intro); exact ⟨⟨k + 1, bs' ++ [wr.heap.size], by omega, by go_num, HR.out.1, HR.out.2.1, HBE.out⟩, rfl⟩)
    case measure => simp [intOf]; omega
   ·go_wp2
    go_ret
    have hk' : k = blocks.length := by omega
    subst hk'
    rw [List.take_length] at hB
    exact ⟨u3, bs', rfl, hB, hF, hb⟩
set_option maxRecDepth 100000 in
set_option maxHeartbeats 400000 in
theorem fileOfIn_any {B : Nat} {s : ByteArray} {x : Bool} {sv : Value} {blocks : List (List UInt8)} (h : BlIn w sv blocks) (hlb : ∀ b ∈ blocks, b.length = B) (hB1 : 64 ≤ B) (hB2 : B ≤ 65536) (hn : blocks.length ≤ 1099511627776) :
  Calls Tryz.prog 78 #[.agg #[.string s, .bool x, sv]] w fun e w' => ∃ L : Lay, e = .returned (ptr L.fb) ∧ FileAt w' B L ⟨x, blocks⟩ ∧ (∀ b ∈ L.foot, w.heap.size ≤ b) ∧ L.foot.Nodup ∧ Below w.heap.size w w' := by
 have HC := hid (fun o : Obj => copyBlocksIn_any (w := w.alloc o) (h.below ((Below.refl _ w).alloc (Nat.le_refl _) o)) hlb hB1 hB2 hn)
 obtain ⟨ga, gc, hsv⟩ := h.sl
 rw [hsv] at HC
 rw [hsv]
 clear h hsv
 cases x
 all_goals
  go_enter Tryz.func78, Tryz.ntmps78
  go_wp2_with (go_at_call 121; refine (HC.out _).mono ?_; rintro e w1 ⟨sv', bs', rfl, hb1, hf1, ht1⟩; have HB1 := hid hb1; have HF1 := hid hf1; have HT1 := hid ht1; obtain ⟨ka, kn, kc, hk⟩ := hb1.own_slice; clear hb1 hf1 ht1)
  go_ret
  first
   |(obtain ⟨h1, h2, h3, h4⟩ := fileOf_fin false HB1.out HF1.out HT1.out
     rw [hk] at h1 h2 h3
     exact ⟨_, rfl, h1, h2, h3, h4 _⟩)
   |(obtain ⟨h1, h2, h3, h4⟩ := fileOf_fin true HB1.out HF1.out HT1.out
     rw [hk] at h1 h2 h3
     exact ⟨_, rfl, h1, h2, h3, h4 _⟩)
end
def FOk (B : Int) (last s : ByteArray) (blocks : List (List UInt8)) : Prop := nameB s = true ∧ (Op.bytesLess s.toList last.toList || s.toList == last.toList) = false ∧ ∀ b ∈ blocks, (b.length : Int) = B
section
variable {w w' : World} {E : Nat → Addr} {lo : Nat}
set_option maxRecDepth 100000 in
set_option maxHeartbeats 1000000 in
theorem checkFile_first (V : Env w lo E) {B : Int} {s last : ByteArray} {x : Bool} {sa : Option Addr} {n c : Nat} (hs : ¬ (nameB s = true ∧ (Op.bytesLess s.toList last.toList || s.toList == last.toList) = false)) :
  Calls Tryz.prog 127 #[.agg #[.string s, .bool x, .slice sa n c], .string last, .int .i64 B] w fun e w' => e = .returned (errV E 10) ∧ Below w.heap.size w w' := by
 have c10 : ∀ o : Obj, (w.alloc o).cell? ⟨5, 0, none⟩ = some (errV E 10) := fun o => (V.alloc o).sents.var10
 by_cases h1 : nameB s = true
 ·have h2 : (Op.bytesLess s.toList last.toList || s.toList == last.toList) = true := by
   cases hq : (Op.bytesLess s.toList last.toList || s.toList == last.toList) with
   | true => rfl
   | false => exact absurd ⟨h1, hq⟩ hs
  clear hs V
  go_enter Tryz.func127, Tryz.ntmps127
  go_wp2_with (go_at_call 176; refine (isName_any _ _).mono ?_; rintro e w2 ⟨rfl, hw2⟩; rw [hw2]; clear hw2 w2)
  go_ret
  exact ⟨rfl, (Below.refl _ w).alloc (Nat.le_refl _) _⟩
 ·have h2 : nameB s = false := by simpa using h1
  clear hs V h1
  go_enter Tryz.func127, Tryz.ntmps127
  go_wp2_with (go_at_call 176; refine (isName_any _ _).mono ?_; rintro e w2 ⟨rfl, hw2⟩; rw [hw2]; clear hw2 w2)
  go_ret
  exact ⟨rfl, (Below.refl _ w).alloc (Nat.le_refl _) _⟩
set_option maxRecDepth 100000 in
set_option maxHeartbeats 1000000 in
theorem checkFile_in (V : Env w lo E) {B : Int} {s last : ByteArray} {x : Bool} {sv : Value} {blocks : List (List UInt8)} (h : BlIn w sv blocks) (hn : blocks.length ≤ 1099511627776) :
  Calls Tryz.prog 127 #[.agg #[.string s, .bool x, sv], .string last, .int .i64 B] w fun e w' => ((FOk B last s blocks ∧ e = .returned .nilIface) ∨ (¬ FOk B last s blocks ∧ e = .returned (errV E 10))) ∧ Below w.heap.size w w' := by
 obtain ⟨sa, sc, hsv⟩ := h.sl
 by_cases hs : nameB s = true ∧ (Op.bytesLess s.toList last.toList || s.toList == last.toList) = false
 ·obtain ⟨h1, h2⟩ := hs
  have c10 : ∀ o : Obj, (w.alloc o).cell? ⟨5, 0, none⟩ = some (errV E 10) := fun o => (V.alloc o).sents.var10
  obtain ⟨m, hm⟩ : ∃ m, m = blocks.length := ⟨_, rfl⟩
  have HH := hid h
  have HM := hid hm
  have HSV := hid hsv
  have YES : Hid ((∀ b ∈ blocks, (b.length : Int) = B) → FOk B last s blocks) := fun h3 => ⟨h1, h2, h3⟩
  have NO : Hid (∀ (k : Nat) b, blocks[k]? = some b → (b.length : Int) ≠ B → ¬ FOk B last s blocks) := fun k b hb hne hf => hne (hf.2.2 b (List.mem_of_getElem? hb))
  rw [hsv, ← hm]
  rw [← hm] at hn
  clear h V hsv hm
  go_enter Tryz.func127, Tryz.ntmps127
  go_wp2_with (go_at_call 176; refine (isName_any _ _).mono ?_; rintro e w2 ⟨rfl, hw2⟩; rw [hw2]; clear hw2 w2)
  go_loopw [23, 8] (fun i _ wr => Hid (∃ k : Nat, k ≤ m ∧ i = .int .i64 (k : Int) ∧ wr = w.alloc (.cells #[.string s, .bool x, .slice sa m sc] 113) ∧ ∀ (j : Nat) b, j < k → blocks[j]? = some b → (b.length : Int) = B)) (fun i _ _ => m - (intOf i).toNat)
  case atStart => exact ⟨0, Nat.zero_le _, rfl, rfl, fun j b hj => by omega⟩
  case round =>
   obtain ⟨k, hk, rfl, hwr, hall⟩ := hrel.out
   subst hwr
   clear hrel
   by_cases hlt : k < m
   ·obtain ⟨b, hb⟩ : ∃ b, blocks[k]? = some b := ⟨_, List.getElem?_eq_getElem (by have := HM.out; omega)⟩
    have hbe := (List.getElem?_eq_some_iff.1 hb).2
    obtain ⟨A, gc, xa, xn, xc, e1, lA, cA, sh⟩ := (HH.out.below ((Below.refl _ w).alloc (Nat.le_refl _) (.cells #[.string s, .bool x, .slice sa m sc] 113))).at_ k (by have := HM.out; omega)
    have e2 := HSV.out
    have e3 := HM.out
    rw [e2, ← e3] at e1
    simp only [Value.slice.injEq] at e1
    obtain ⟨rfl, -, -⟩ := e1
    have hxn : b.length = xn := by rw [hbe] at sh; exact sh.len
    have hk1 : (k : Int) < (m : Int) := by omega
    have k0 : (0 : Int) ≤ (k : Int) := by omega
    have V2 : IntKind.i64.wrap ((k : Int) + 1) = (k : Int) + 1 := by rw [IntKind.wrap_i64]; omega
    have HB := hid hb
    have HX := hid hxn
    have HA := hid hall
    clear sh e2 e3 hbe hb hxn hall
    by_cases hxB : (xn : Int) = B
    ·have hne : ((xn : Int) != B) = false := by simpa using hxB
     have NX : Hid (∀ (j : Nat) b, j < k + 1 → blocks[j]? = some b → (b.length : Int) = B) := fun j b' hj hb' => by
      by_cases hjk : j < k
      ·exact HA.out j b' hjk hb'
      ·have : j = k := by omega
       subst this
       have h9 := HB.out
       rw [h9] at hb'
       cases hb'
       have h8 := HX.out
       rw [h8]
       exact hxB
     go_wp2
     exact ⟨⟨k + 1, by omega, by simp, by first | rfl | trivial, NX.out⟩, by simp [intOf]; omega⟩
    ·have hne : ((xn : Int) != B) = true := by simpa using hxB
     go_wp2
     go_ret
     refine ⟨.inr ⟨NO.out k b HB.out (by have h8 := HX.out; rw [h8]; exact hxB), rfl⟩, (Below.refl _ w).alloc (Nat.le_refl _) _⟩
   ·have hk1 : ¬ (k : Int) < (m : Int) := by omega
    have OK : Hid (∀ b ∈ blocks, (b.length : Int) = B) := fun b hb => by
     obtain ⟨j, hj⟩ := List.getElem?_of_mem hb
     exact hall j b (by have := (List.getElem?_eq_some_iff.1 hj).1; have := HM.out; omega) hj
    clear hall
    go_wp2
    go_ret
    exact ⟨.inl ⟨YES.out OK.out, rfl⟩, (Below.refl _ w).alloc (Nat.le_refl _) _⟩
 ·rw [hsv]
  exact (checkFile_first V hs).mono fun e w' ⟨h1, h2⟩ => ⟨.inr ⟨fun hf => hs ⟨hf.1, hf.2.1⟩, h1⟩, h2⟩
end
def AllT (T : DataW Unit) : Prop := ∃ l, T = .map l ∧ ∀ x ∈ l, ∃ a k b : Int, x.2 = .agg [.lit (.int .i64 a), .lit (.int .i64 k), .lit (.int .i64 b)]
theorem AllT.trouble {T : DataW Unit} (h : AllT T) (n : Int) : ∃ a k b, TrI T n a k b := by
 obtain ⟨l, rfl, hl⟩ := h
 unfold TrI DataW.atKey
 simp only
 split
 ·next p hp => obtain ⟨a, k, b, e⟩ := hl p (List.mem_of_find?_eq_some hp); exact ⟨a, k, b, e⟩
 ·exact ⟨0, 0, 0, rfl⟩
theorem AllT.nil : AllT (.map []) := ⟨[], rfl, by simp⟩
theorem insert_mem {x y : Lit × DataW Unit} : ∀ {l : List (Lit × DataW Unit)}, y ∈ DataW.insert x l → y = x ∨ y ∈ l
 | [], h => by simp [DataW.insert] at h; exact .inl h
 | z :: r, h => by
  unfold DataW.insert at h
  split at h
  ·rcases List.mem_cons.1 h with h | h
   ·exact .inl h
   ·exact .inr h
  ·rcases List.mem_cons.1 h with h | h
   ·exact .inr (by simp [h])
   ·rcases insert_mem h with h | h
    ·exact .inl h
    ·exact .inr (List.mem_cons_of_mem _ h)
theorem AllT.put {T : DataW Unit} (h : AllT T) (n : Lit) (a k b : Int) : AllT (T.put n (.agg [.lit (.int .i64 a), .lit (.int .i64 k), .lit (.int .i64 b)])) := by
 obtain ⟨l, rfl, hl⟩ := h
 refine ⟨_, rfl, fun x hx => ?_⟩
 rcases insert_mem hx with rfl | hx
 ·exact ⟨a, k, b, rfl⟩
 ·exact hl x (List.mem_filter.1 hx).1
structure TrsAt (w : World) (sa : Option Addr) (l : List TrA) : Prop where
 at_ : ∀ k (hk : k < l.length), ∃ a, sa = some a ∧ a.block < w.heap.size ∧ w.cell? (a.add (k * 3)) = some (.int .i64 l[k].at_) ∧ w.cell? ⟨(a.add (k * 3)).block, (a.add (k * 3)).off + 1, none⟩ = some (.int .i64 l[k].kind) ∧ w.cell? ⟨(a.add (k * 3)).block, (a.add (k * 3)).off + 2, none⟩ = some (.int .i64 l[k].bytes)
 wf : ∀ k (hk : k < l.length), (Lit.int .i64 l[k].at_).wf = true
theorem tr_add_block (a : Addr) (i : Nat) : (a.add i).block = a.block := by unfold Addr.add; split <;> rfl
theorem TrsAt.read {w w' : World} {sa : Option Addr} {l : List TrA} (h : TrsAt w sa l) {k : Nat} (hk : k < l.length) (hb : Below w.heap.size w w') :
  ∃ a, sa = some a ∧ a.block < w.heap.size ∧ w'.cell? (a.add (k * 3)) = some (.int .i64 l[k].at_) ∧ w'.cell? ⟨(a.add (k * 3)).block, (a.add (k * 3)).off + 1, none⟩ = some (.int .i64 l[k].kind) ∧ w'.cell? ⟨(a.add (k * 3)).block, (a.add (k * 3)).off + 2, none⟩ = some (.int .i64 l[k].bytes) := by
 obtain ⟨a, e, hl, c0, c1, c2⟩ := h.at_ k hk
 have hc : ∀ q : Addr, q.block = (a.add (k * 3)).block → w'.cell? q = w.cell? q := fun q hq => hb.cell (by rw [hq, tr_add_block]; exact hl)
 exact ⟨a, e, hl, (hc _ rfl).trans c0, (hc ⟨(a.add (k * 3)).block, (a.add (k * 3)).off + 1, none⟩ rfl).trans c1, (hc ⟨(a.add (k * 3)).block, (a.add (k * 3)).off + 2, none⟩ rfl).trans c2⟩
theorem wrap_step {j m : Nat} (h : j < m) (h2 : m ≤ 1099511627776) : wrap64 ((j : Int) + 1) = (j : Int) + 1 := IntWalk.wrap64_in _ ⟨by omega, by omega⟩
theorem next_num (j : Nat) : Value.int .i64 ((j : Int) + 1) = Value.int .i64 ((j + 1 : Nat) : Int) := by simp
theorem less_step {j m : Nat} (h : j < m) : m - (intOf (.int .i64 ((j : Int) + 1))).toNat < m - (intOf (.int .i64 (j : Int))).toNat := by
 simp [intOf]
 omega
theorem tr_look {W : World} {mt n : Nat} {T : DataW Unit} {at_ a k b : Int} (hT : W.ownsMap Tryz.prog 3 trElem mt n T) (h : TrI T at_ a k b) (hw : (Lit.int .i64 at_).wf = true) :
  (Instr.lookup 98 (.map (some mt)) (.int .i64 at_) true).run Tryz.prog W = .ok (.tuple #[.agg #[.int .i64 a, .int .i64 k, .int .i64 b], .bool (Maps.has T (.int .i64 at_))]) W := by
 obtain ⟨v, ps, hrun, hv⟩ := hT.look_ok (t := 98) (e := 67) (Maps.int_keyed Tryz.underlying3) Tryz.underlying98 (Tryz.zero67 W) (zd := .agg [.lit (.int .i64 0), .lit (.int .i64 0), .lit (.int .i64 0)]) (zp := []) rfl (Maps.keyOf_int_mk Tryz.underlying3 hw)
 unfold TrI at h
 rw [h] at hv
 rw [hrun, trElem_inv hv]
theorem tr_store {W : World} {mt n : Nat} {T : DataW Unit} (hT : W.ownsMap Tryz.prog 3 trElem mt n T) (hn : n < 1099511627776) {at_ : Int} (hw : (Lit.int .i64 at_).wf = true) (k b : Int) :
  ∃ w2, (Instr.mapUpdate 98 (.map (some mt)) (.int .i64 at_) (.agg #[.int .i64 at_, .int .i64 k, .int .i64 b])).run Tryz.prog W = .ok () w2 ∧ w2.ownsMap Tryz.prog 3 trElem mt (n + 1) (T.put (.int .i64 at_) (.agg [.lit (.int .i64 at_), .lit (.int .i64 k), .lit (.int .i64 b)])) ∧ W.grownBy w2 (some mt) := by
 obtain ⟨w2, h1, h2, h3⟩ := hT.store (t := 98) (e := 67) (Maps.int_keyed Tryz.underlying3) Tryz.underlying98 (by unfold maxLen; omega) (Maps.keyOf_int_mk Tryz.underlying3 hw) (val := .agg #[.int .i64 at_, .int .i64 k, .int .i64 b]) (d := .agg [.lit (.int .i64 at_), .lit (.int .i64 k), .lit (.int .i64 b)]) (ps := []) rfl
 exact ⟨w2, h1, h2, h3.grown⟩
section
variable {w w' : World}
end
def DkC.newT (B : Nat) (Bs : Int) (T : DataW Unit) : DkC := ⟨B, Bs, true, [], T, ⟨0, 0, 0, 0, 0, 0, 0⟩⟩
theorem TrsAt.below {w w' : World} {sa : Option Addr} {l : List TrA} (h : TrsAt w sa l) (hb : Below w.heap.size w w') : TrsAt w' sa l :=
 ⟨fun k hk => by
  obtain ⟨a, e, h1, c0, c1, c2⟩ := h.read hk hb
  exact ⟨a, e, Nat.lt_of_lt_of_le h1 hb.size, c0, c1, c2⟩, h.wf⟩
section
variable {w : World}
theorem new_repT {w3 : World} {lo p mf mt : Nat} {B : Nat} {Bs : Int} {T : DataW Unit} (hrow : w3.heap[p]? = some (.cells (dRow (.newT B Bs T) mf mt) 102 (0, 0))) (hf : w3.ownsMap Tryz.prog 9 ptrElem mf 0 (.map [])) (ht : ∃ n, w3.ownsMap Tryz.prog 3 trElem mt n T) (h1 : p ≠ mf) (h2 : p ≠ mt) (h3 : mf ≠ mt) (hb : lo ≤ p ∧ lo ≤ mf ∧ lo ≤ mt) : Rep w3 lo p mf mt (.newT B Bs T) :=
 ⟨hrow, hf, ht, by simp [DkC.newT], by simp [DkC.foot, DkC.newT, h1, h2, h3], by simp [DkC.foot, DkC.newT]; exact hb, by simp [DkC.newT]⟩
end
def TIs (T : DataW Unit) (l : List TrA) : Prop :=
 AllT T ∧ (∀ n : Int, Maps.has T (.int .i64 n) = (l.find? fun t => t.hits n).isSome) ∧ ∀ n : Int, TrI T n (trFirst l n).at_ (trFirst l n).kind (trFirst l n).bytes
theorem TIs.nil : TIs (.map []) [] := ⟨AllT.nil, fun _ => rfl, fun _ => rfl⟩
theorem find_snoc (l : List TrA) (t : TrA) (n : Int) : (l ++ [t]).find? (fun t => t.hits n) = (l.find? fun t => t.hits n).or (if t.hits n then some t else none) := by
 rw [List.find?_append]
 congr 1
 simp only [List.find?_cons, List.find?_nil]
 cases t.hits n <;> rfl
theorem TIs.same {T : DataW Unit} {l : List TrA} {t : TrA} (h : TIs T l) (he : ∀ n, t.hits n = true → (l.find? fun t => t.hits n).isSome = true) : TIs T (l ++ [t]) := by
 have e : ∀ n, (l ++ [t]).find? (fun t => t.hits n) = l.find? fun t => t.hits n := fun n => by
  rw [find_snoc]
  cases hn : t.hits n with
  | false => simp
  | true =>
   have := he n hn
   cases hf : l.find? fun t => t.hits n with
   | none => rw [hf] at this; simp at this
   | some x => rfl
 refine ⟨h.1, fun n => by rw [e n]; exact h.2.1 n, fun n => ?_⟩
 have e2 : trFirst (l ++ [t]) n = trFirst l n := by unfold trFirst; rw [e n]
 rw [e2]
 exact h.2.2 n
theorem hits_at {t : TrA} {n : Int} (h : t.hits n = true) : t.at_ = n ∧ (t.kind = 1 ∨ t.kind = 2) := by
 unfold TrA.hits at h
 simpa using h
theorem hits_of {t : TrA} (h : t.kind = 1 ∨ t.kind = 2) : t.hits t.at_ = true := by
 unfold TrA.hits
 simpa using h
theorem TIs.skip {T : DataW Unit} {l : List TrA} {t : TrA} (h : TIs T l) (h1 : t.kind ≠ 1) (h2 : t.kind ≠ 2) : TIs T (l ++ [t]) :=
 h.same fun n hn => by have := (hits_at hn).2; omega
theorem TIs.taken {T : DataW Unit} {l : List TrA} {t : TrA} (h : TIs T l) (_h1 : t.kind = 1 ∨ t.kind = 2) (hh : Maps.has T (.int .i64 t.at_) = true) : TIs T (l ++ [t]) :=
 h.same fun n hn => by
  have := (hits_at hn).1
  subst this
  rw [← h.2.1]
  exact hh
theorem TIs.isMap {T : DataW Unit} {l : List TrA} (h : TIs T l) : Maps.IsMap T := by
 obtain ⟨e, rfl, _⟩ := h.1
 exact ⟨e, rfl⟩
theorem TIs.put {T : DataW Unit} {l : List TrA} {t : TrA} (h : TIs T l) (h1 : t.kind = 1 ∨ t.kind = 2) (hh : Maps.has T (.int .i64 t.at_) = false) : TIs (T.put (.int .i64 t.at_) (.agg [.lit (.int .i64 t.at_), .lit (.int .i64 t.kind), .lit (.int .i64 t.bytes)])) (l ++ [t]) := by
 have hno : l.find? (fun x => x.hits t.at_) = none := by
  have := h.2.1 t.at_
  rw [hh] at this
  cases hf : l.find? (fun x => x.hits t.at_) with
  | none => rfl
  | some x => rw [hf] at this; simp at this
 have e1 : (l ++ [t]).find? (fun x => x.hits t.at_) = some t := by rw [find_snoc, hno, hits_of h1]; rfl
 have e2 : ∀ n, n ≠ t.at_ → (l ++ [t]).find? (fun x => x.hits n) = l.find? fun x => x.hits n := fun n hn => by
  have : t.hits n = false := by
   cases hq : t.hits n with
   | false => rfl
   | true => exact absurd (hits_at hq).1.symm hn
  rw [find_snoc, this]
  simp
 refine ⟨h.1.put _ _ _ _, fun n => ?_, fun n => ?_⟩
 ·by_cases hn : n = t.at_
  ·subst hn
   rw [e1, Maps.has_put_same h.isMap (by trivial)]
   rfl
  ·rw [e2 n hn, Maps.has_put_other (by simp [hn]), h.2.1]
 ·by_cases hn : n = t.at_
  ·subst hn
   unfold TrI trFirst
   rw [e1, Maps.atKey_put_same h.isMap (by trivial)]
   rfl
  ·have := h.2.2 n
   unfold TrI trFirst at this ⊢
   rw [e2 n hn, Maps.atKey_put_other (by simp [hn]), this]
theorem TIs.from {T : DataW Unit} {l : List TrA} (h : TIs T l) (n : Int) : TFrom T l n := fun m _ => h.2.2 m
section
variable {w w' : World}
set_option maxRecDepth 100000 in
set_option maxHeartbeats 1000000 in
theorem byCall_x {sa : Option Addr} {ca : Nat} {l : List TrA} (hl : TrsAt w sa l) (hlen : l.length ≤ 1099511627776) :
  Calls Tryz.prog 128 #[.slice sa l.length ca] w fun e w' => e = .returned (.map (some w.heap.size)) ∧ (∃ n T, w'.ownsMap Tryz.prog 3 trElem w.heap.size n T ∧ TIs T l) ∧ Below w.heap.size w w' := by
 have hmm := @run_makeMap Tryz.prog
 have HL := hid hl
 have HLN := hid hlen
 clear hl hlen
 go_enter Tryz.func128, Tryz.ntmps128
 go_wp2
 clear hmm
 go_loopw [11] (fun i wr => ∃ (k n : Nat) (T : DataW Unit), k ≤ l.length ∧ i = .int .i64 k ∧ n ≤ k ∧ wr.ownsMap Tryz.prog 3 trElem w.heap.size n T ∧ TIs T (l.take k) ∧ Below w.heap.size w wr) (fun i _ => l.length - (intOf i).toNat)
 case atStart =>
  exact ⟨0, 0, .map [], Nat.zero_le _, rfl, Nat.le_refl _, empty_map _ _ _ _ (heap_alloc_new w _), TIs.nil, (Below.refl _ w).alloc (Nat.le_refl _) _⟩
 case round =>
  obtain ⟨k, n, T, hk, rfl, hnk, hm, hT, hb⟩ := hrel
  by_cases hlt : k < l.length
  ·obtain ⟨a, rfl, hblk, c0, c1, c2⟩ := HL.out.read hlt hb
   have hwf := HL.out.wf k hlt
   obtain ⟨at_, e0⟩ : ∃ x, x = l[k].at_ := ⟨_, rfl⟩
   obtain ⟨kd, e1⟩ : ∃ x, x = l[k].kind := ⟨_, rfl⟩
   obtain ⟨by_, e2⟩ : ∃ x, x = l[k].bytes := ⟨_, rfl⟩
   rw [← e0] at c0 hwf
   rw [← e1] at c1
   rw [← e2] at c2
   have HN : Hid ((kd = 1 ∨ kd = 2 → Maps.has T (.int .i64 at_) = true → TIs T (l.take (k + 1))) ∧ (kd = 1 ∨ kd = 2 → Maps.has T (.int .i64 at_) = false → TIs (T.put (.int .i64 at_) (.agg [.lit (.int .i64 at_), .lit (.int .i64 kd), .lit (.int .i64 by_)])) (l.take (k + 1))) ∧ (kd ≠ 1 → kd ≠ 2 → TIs T (l.take (k + 1)))) := by
    rw [e0, e1, e2, List.take_succ_eq_append_getElem hlt]
    exact ⟨fun h1 h2 => hT.taken h1 h2, fun h1 h2 => hT.put h1 h2, fun h1 h2 => hT.skip h1 h2⟩
   clear e0 e1 e2
   have hkI : (k : Int) < (l.length : Int) := by omega
   have hk0 : (0 : Int) ≤ (k : Int) := by omega
   have hwk := wrap_step hlt HLN.out
   obtain ⟨a1, k1, b1, ht⟩ := hT.1.trouble at_
   have hlw : w.heap.size < wr.heap.size := hm.lt
   have HM := hid hm
   have HB := hid hb
   have HT := hid hT
   have HLT := hid hlt
   have HNK := hid hnk
   have HBX : Hid (∀ o : Obj, Below w.heap.size w (wr.alloc o)) := hid fun o => hb.alloc hb.size o
   clear hk hlt hnk
   by_cases h1 : kd = 1
   ·subst h1
    have hmx := hm.alloc (.cells #[.int .i64 at_, .int .i64 1, .int .i64 by_] 67)
    have hlook := tr_look hmx ht hwf
    by_cases hh : Maps.has T (.int .i64 at_) = true
    ·have HN1 := hid (HN.out.1 (.inl rfl) hh)
     rw [hh] at hlook
     clear hm hb hT ht hmx hwf hh
     go_wp2
     try rw [hwk]
     exact ⟨⟨k + 1, n, T, HLT.out, next_num k, Nat.le_succ_of_le HNK.out, (HM.out.alloc _).alloc _, HN1.out, ((HB.out.alloc HB.out.size _).alloc (Nat.le_trans HB.out.size (by simp)) _)⟩, less_step HLT.out⟩
    ·have hh' : Maps.has T (.int .i64 at_) = false := by simpa using hh
     have HN2 := hid (HN.out.2.1 (.inl rfl) hh')
     rw [hh'] at hlook
     obtain ⟨w3, hst, hm3, hg3⟩ := tr_store (hmx.alloc (.cells #[.int .i64 a1, .int .i64 k1, .int .i64 b1] 67)) (Nat.lt_of_le_of_lt HNK.out (Nat.lt_of_lt_of_le HLT.out HLN.out)) hwf 1 by_
     have hb3 : Below w.heap.size w w3 := Below.grown ((HB.out.alloc HB.out.size _).alloc (Nat.le_trans HB.out.size (by simp)) _) hg3 (Nat.le_trans HB.out.size (by simp; omega)) (fun k h => by simp at h; omega)
     have HM3 := hid hm3
     have HB3 := hid hb3
     clear hm hb hT ht hmx hwf hh hh' hm3 hb3 hg3
     go_wp2
     try rw [hwk]
     exact ⟨⟨k + 1, n + 1, _, HLT.out, next_num k, Nat.succ_le_succ HNK.out, HM3.out, HN2.out, HB3.out⟩, less_step HLT.out⟩
   ·by_cases h2 : kd = 2
    ·subst h2
     clear h1
     have hmx := hm.alloc (.cells #[.int .i64 at_, .int .i64 2, .int .i64 by_] 67)
     have hlook := tr_look hmx ht hwf
     by_cases hh : Maps.has T (.int .i64 at_) = true
     ·have HN1 := hid (HN.out.1 (.inr rfl) hh)
      rw [hh] at hlook
      clear hm hb hT ht hmx hwf hh
      go_wp2
      try rw [hwk]
      exact ⟨⟨k + 1, n, T, HLT.out, next_num k, Nat.le_succ_of_le HNK.out, (HM.out.alloc _).alloc _, HN1.out, ((HB.out.alloc HB.out.size _).alloc (Nat.le_trans HB.out.size (by simp)) _)⟩, less_step HLT.out⟩
     ·have hh' : Maps.has T (.int .i64 at_) = false := by simpa using hh
      have HN2 := hid (HN.out.2.1 (.inr rfl) hh')
      rw [hh'] at hlook
      obtain ⟨w3, hst, hm3, hg3⟩ := tr_store (hmx.alloc (.cells #[.int .i64 a1, .int .i64 k1, .int .i64 b1] 67)) (Nat.lt_of_le_of_lt HNK.out (Nat.lt_of_lt_of_le HLT.out HLN.out)) hwf 2 by_
      have hb3 : Below w.heap.size w w3 := Below.grown ((HB.out.alloc HB.out.size _).alloc (Nat.le_trans HB.out.size (by simp)) _) hg3 (Nat.le_trans HB.out.size (by simp; omega)) (fun k h => by simp at h; omega)
      have HM3 := hid hm3
      have HB3 := hid hb3
      clear hm hb hT ht hmx hwf hh hh' hm3 hb3 hg3
      go_wp2
      try rw [hwk]
      exact ⟨⟨k + 1, n + 1, _, HLT.out, next_num k, Nat.succ_le_succ HNK.out, HM3.out, HN2.out, HB3.out⟩, less_step HLT.out⟩
    ·have HN3 := hid (HN.out.2.2 h1 h2)
     have n1 : (kd != 1) = true := by simp [h1]
     have n2 : (kd != 2) = true := by simp [h2]
     clear hm hb hT ht h1 h2 hwf
     go_wp2
     try rw [hwk]
     exact ⟨⟨k + 1, n, T, HLT.out, next_num k, Nat.le_succ_of_le HNK.out, HM.out.alloc _, HN3.out, HBX.out _⟩, less_step HLT.out⟩
  ·have hend : ¬ (k : Int) < (l.length : Int) := by omega
   have HM := hid (⟨n, T, hm, by rw [List.take_of_length_le (by omega)] at hT; exact hT⟩ : ∃ n T, wr.ownsMap Tryz.prog 3 trElem w.heap.size n T ∧ TIs T l)
   have HB := hid hb
   clear hm hT hb hnk hk hlt
   go_wp2
   go_ret
   exact ⟨rfl, HM.out, HB.out⟩
set_option maxRecDepth 100000 in
set_option maxHeartbeats 600000 in
theorem empty_x {B : Nat} {Bs : Int} {sa : Option Addr} {ca : Nat} {l : List TrA} (hl : TrsAt w sa l) (hlen : l.length ≤ 1099511627776) :
  Calls Tryz.prog 77 #[.agg #[.int .i64 B, .int .i64 Bs, .slice sa l.length ca]] w fun e w' => ∃ p mf mt T, e = .returned (ptr p) ∧ Rep w' w.heap.size p mf mt (.newT B Bs T) ∧ TIs T l ∧ Below w.heap.size w w' := by
 have hmm := @run_makeMap Tryz.prog
 have HL := hid (fun (W : World) (hb : Below w.heap.size w W) => byCall_x (ca := ca) (hl.below hb) hlen)
 have HX : Hid (Below w.heap.size w (w.alloc (.cells #[.int .i64 B, .int .i64 Bs, .slice sa l.length ca] 79))) := hid ((Below.refl _ w).alloc (Nat.le_refl _) _)
 have HY : Hid (∀ o, Below w.heap.size w (((w.alloc (.cells #[.int .i64 B, .int .i64 Bs, .slice sa l.length ca] 79)).alloc o).drew)) := hid fun o => (((Below.refl _ w).alloc (Nat.le_refl _) _).alloc (by simp) _).drew
 have HB3 : Hid (∀ W w2 : World, Below W.heap.size W w2 → W.cell? ⟨w.heap.size, 0, none⟩ = some (.int .i64 B) → W.cell? ⟨w.heap.size, 1, none⟩ = some (.int .i64 Bs) → W.cell? ⟨w.heap.size, 2, none⟩ = some (.slice sa l.length ca) →
   w2.cell? ⟨w.heap.size, 0, none⟩ = some (.int .i64 B) ∧ w2.cell? ⟨w.heap.size, 1, none⟩ = some (.int .i64 Bs) ∧ w2.cell? ⟨w.heap.size, 2, none⟩ = some (.slice sa l.length ca)) := hid fun W w2 hb h0 h1 h2 =>
  ⟨(hb.cell (World.block_lt_of_cell? W _ h0)).trans h0, (hb.cell (World.block_lt_of_cell? W _ h1)).trans h1, (hb.cell (World.block_lt_of_cell? W _ h2)).trans h2⟩
 clear hl hlen
 go_enter Tryz.func77, Tryz.ntmps77
 go_wp2
 go_region_held3 (fun V => V.cell? ⟨w.heap.size, 0, none⟩ = some (.int .i64 B) ∧ V.cell? ⟨w.heap.size, 1, none⟩ = some (.int .i64 Bs) ∧ V.cell? ⟨w.heap.size, 2, none⟩ = some (.slice sa l.length ca)) (go_keep)
  (first
   |(go_at_call 128; refine (HL.out _ HX.out.drew).mono ?_; rintro e w2 ⟨rfl, hT2, hb2⟩; have z2 := HB3.out _ w2 hb2 (by simp) (by simp) (by simp); have HT2 := hid hT2; have HBB := hid (HX.out.drew.trans (hb2.mono (by first | (simp; done) | (simp; omega)))); clear hT2 hb2)
   |(go_at_call 128; refine (HL.out _ (HY.out _)).mono ?_; rintro e w2 ⟨rfl, hT2, hb2⟩; have z2 := HB3.out _ w2 hb2 (by simp) (by simp) (by simp); have HT2 := hid hT2; have HBB := hid ((HY.out _).trans (hb2.mono (by first | (simp; done) | (simp; omega)))); have HOB := hid hb2; clear hT2 hb2))
 ·go_wp2
  go_ret
  obtain ⟨n, T, hT, hA⟩ := HT2.out
  have hT' : w2.ownsMap Tryz.prog 3 trElem (w.heap.size + 1 + 1) n T := by simpa using hT
  have hz := hT'.lt
  have hm : w2.heap[w.heap.size + 1]? = some (.map #[] 0) := (HOB.out.block _ (by simp)).trans (heap_two w (.cells #[.int .i64 B, .int .i64 Bs, .slice sa l.length ca] 79) (.map #[] 0)).2
  refine ⟨w2.heap.size, w.heap.size + 1, w.heap.size + 1 + 1, T, rfl, new_repT (heap_alloc_new w2 _) (empty_map _ _ _ _ ((Below.heap_alloc w2 _ _ (by omega)).trans hm)) ⟨n, hT'.alloc _⟩ (by omega) (by omega) (by omega) ⟨by omega, by omega, by omega⟩, hA, HBB.out.alloc HBB.out.size _⟩
 ·go_wp2
  go_ret
  obtain ⟨n, T, hT, hA⟩ := HT2.out
  have hT' : w2.ownsMap Tryz.prog 3 trElem (w.heap.size + 1) n T := by simpa using hT
  have hz := hT'.lt
  have h2 := heap_two w2 (.map #[] 0) (.cells #[.int .i64 B, .int .i64 Bs, .bool true, .map (some w2.heap.size), .map (some (w.heap.size + 1)), .int .i64 0, .int .i64 0, .int .i64 0, .int .i64 0, .int .i64 0, .int .i64 0, .int .i64 0] 102)
  refine ⟨w2.heap.size + 1, w2.heap.size, w.heap.size + 1, T, rfl, new_repT h2.2 (empty_map _ _ _ _ h2.1) ⟨n, (hT'.alloc _).alloc _⟩ (by omega) (by omega) (by omega) ⟨by omega, by omega, by omega⟩, hA, (HBB.out.alloc HBB.out.size _).alloc (Nat.le_trans HBB.out.size (by simp)) _⟩
end
def SetOk (B Bs : Int) : Prop := 64 ≤ B ∧ B ≤ 65536 ∧ B % 32 = 0 ∧ 0 ≤ Bs ∧ Bs ≤ 1099511627776
theorem SetOk.not {B Bs : Int} (h : ¬ SetOk B Bs) : B < 64 ∨ (¬ B < 64 ∧ 65536 < B) ∨ (¬ B < 64 ∧ ¬ 65536 < B ∧ ¬ B % 32 = 0) ∨ (¬ B < 64 ∧ ¬ 65536 < B ∧ B % 32 = 0 ∧ Bs < 0) ∨ (¬ B < 64 ∧ ¬ 65536 < B ∧ B % 32 = 0 ∧ ¬ Bs < 0 ∧ 1099511627776 < Bs) := by
 unfold SetOk at h
 omega
section
variable {w : World} {E : Nat → Addr} {lo : Nat}
set_option maxHeartbeats 1000000 in
theorem checkSetup_bad (S : ∀ o, Sents (w.alloc o) E) {B Bs : Int} {ga : Option Addr} {gn gc : Nat} (h : ¬ SetOk B Bs) :
  Calls Tryz.prog 126 #[.agg #[.int .i64 B, .int .i64 Bs, .slice ga gn gc]] w fun e w' => e = .returned (errV E 0) ∧ Below w.heap.size w w' := by
 have c0 : ∀ o : Obj, (w.alloc o).cell? ⟨10, 0, none⟩ = some (errV E 0) := fun o => (S o).var0
 have h2 := SetOk.not h
 clear h S
 rcases h2 with x1 | ⟨x1, x2⟩ | ⟨x1, x2, x3⟩ | ⟨x1, x2, x3, x4⟩ | ⟨x1, x2, x3, x4, x5⟩
 all_goals
  go_enter Tryz.func126, Tryz.ntmps126
  go_wp2
  go_ret
  exact ⟨rfl, (Below.refl _ w).alloc (Nat.le_refl _) _⟩
end
def FilesOk (B : Int) (l : List SFl) (k : Nat) : Prop := ∀ (j : Nat) (e : SFl), j < k → l[j]? = some e → FOk B ⟨(lastN l j).toArray⟩ ⟨e.name.toArray⟩ e.file.blocks
def MountV (sB B Bs : Int) (l : List SFl) (c : Option Nat) : Prop :=
 (c = none ∧ SetOk B Bs ∧ sB = B ∧ FilesOk B l l.length ∧ (usedN l l.length : Int) ≤ Bs) ∨
 (c = some 0 ∧ ¬ SetOk B Bs) ∨
 (c = some 10 ∧ SetOk B Bs ∧ ¬ (sB = B ∧ FilesOk B l l.length)) ∨
 (c = some 9 ∧ SetOk B Bs ∧ sB = B ∧ FilesOk B l l.length ∧ ¬ (usedN l l.length : Int) ≤ Bs)
def errOf (E : Nat → Addr) : Option Nat → Value
 | none => .nilIface
 | some c => errV E c
section
variable {w w' : World} {E : Nat → Addr} {lo : Nat}
set_option maxRecDepth 100000 in
set_option maxHeartbeats 1000000 in
theorem checkMount_bad (V : Env w lo E) {sB B Bs : Int} {fa ta : Option Addr} {fn fc tn tc : Nat} (h : ¬ SetOk B Bs) :
  Calls Tryz.prog 75 #[.agg #[.int .i64 sB, .slice fa fn fc], .agg #[.int .i64 B, .int .i64 Bs, .slice ta tn tc]] w fun e w' => e = .returned (errV E 0) ∧ Below w.heap.size w w' := by
 have HC := hid (fun o1 o2 : Obj => checkSetup_bad (w := (w.alloc o1).alloc o2) (E := E) (fun o3 => (((V.alloc o1).alloc o2).alloc o3).sents) (ga := ta) (gn := tn) (gc := tc) h)
 clear h V
 go_enter Tryz.func75, Tryz.ntmps75
 go_wp2_with (go_at_call 126; refine (HC.out _ _).mono ?_; rintro e w1 ⟨rfl, hb1⟩; have HB0 : Hid (Below w.heap.size w w1) := hid ((((Below.refl _ w).alloc (Nat.le_refl _) _).alloc (by simp) _).trans (hb1.mono (by simp; omega))); clear hb1)
 go_ret
 exact ⟨rfl, HB0.out⟩
set_option maxRecDepth 100000 in
set_option maxHeartbeats 1000000 in
theorem checkMount_other (V : Env w lo E) {sB B Bs : Int} {fa ta : Option Addr} {fn fc tn tc : Nat} (h : SetOk B Bs) (hne : ¬ sB = B) :
  Calls Tryz.prog 75 #[.agg #[.int .i64 sB, .slice fa fn fc], .agg #[.int .i64 B, .int .i64 Bs, .slice ta tn tc]] w fun e w' => e = .returned (errV E 10) ∧ Below w.heap.size w w' := by
 have HC := hid (fun W => checkSetup_ok (B := B) (Bs := Bs) (v := .slice ta tn tc) rfl h.1 h.2.1 h.2.2.1 h.2.2.2.1 h.2.2.2.2 W)
 have HV : Hid (∀ W, Below w.heap.size w W → W.cell? ⟨5, 0, none⟩ = some (errV E 10)) := fun W hb => (V.touch (Tc.of_below (F := []) hb (Nat.le_refl _)) (by simp)).sents.var10
 have hnb : (sB != B) = true := by simpa using hne
 obtain ⟨W, hW⟩ : ∃ W, W = (w.alloc (.cells #[.int .i64 sB, .slice fa fn fc] 42)).alloc (.cells #[.int .i64 B, .int .i64 Bs, .slice ta tn tc] 79) := ⟨_, rfl⟩
 have hW1 := heap_two w (.cells #[.int .i64 sB, .slice fa fn fc] 42) (.cells #[.int .i64 B, .int .i64 Bs, .slice ta tn tc] 79)
 rw [← hW] at hW1
 have hTW : Below w.heap.size w W := by rw [hW]; exact ((Below.refl _ w).alloc (Nat.le_refl _) _).alloc (by simp) _
 have HE := hid hW
 have HW := hid hW1
 have HTW := hid hTW
 clear h V hne hW hW1 hTW
 go_enter Tryz.func75, Tryz.ntmps75
 go_wp2_with fail
 rw [← HE.out]
 refine (HC.out _).mono ?_
 rintro e w1 ⟨rfl, hb1⟩
 have r1 : w1.heap[w.heap.size]? = _ := (hb1.block _ (ltB HW.out.1)).trans HW.out.1
 have r2 : w1.heap[w.heap.size + 1]? = _ := (hb1.block _ (ltB HW.out.2)).trans HW.out.2
 have a0 := cRw r1 0
 have b0 := cRw r2 0
 simp at a0 b0
 have hbw : Below w.heap.size w w1 := HTW.out.trans (hb1.mono HTW.out.size)
 have c10 := HV.out _ hbw
 have HBW := hid hbw
 clear r1 r2 hb1 hbw
 go_wp2
 go_ret
 exact ⟨rfl, HBW.out⟩
set_option maxRecDepth 100000 in
set_option maxHeartbeats 1000000 in
theorem checkMount_files (V : Env w lo E) {B Bs : Int} {fv : Value} {l : List SFl} {ta : Option Addr} {tn tc : Nat} (h : StIn w fv l) (hs : SetOk B Bs) (hn : l.length ≤ 1099511627776) (hu : usedN l l.length ≤ 1099511627776) :
  Calls Tryz.prog 75 #[.agg #[.int .i64 B, fv], .agg #[.int .i64 B, .int .i64 Bs, .slice ta tn tc]] w fun e w' => (∃ c, MountV B B Bs l c ∧ e = .returned (errOf E c)) ∧ Below w.heap.size w w' := by
 have HC := hid (fun W => checkSetup_ok (B := B) (Bs := Bs) (v := .slice ta tn tc) rfl hs.1 hs.2.1 hs.2.2.1 hs.2.2.2.1 hs.2.2.2.2 W)
 obtain ⟨fa, fc, hfv⟩ := h.sl
 have HV : Hid (∀ W, Below w.heap.size w W → Env W lo E) := fun W hb => V.touch (Tc.of_below (F := []) hb (Nat.le_refl _)) (by simp)
 have HS := hid h
 have HOK := hid hs
 have HFV := hid hfv
 rw [hfv]
 obtain ⟨W, hW⟩ : ∃ W, W = (w.alloc (.cells #[.int .i64 B, .slice fa l.length fc] 42)).alloc (.cells #[.int .i64 B, .int .i64 Bs, .slice ta tn tc] 79) := ⟨_, rfl⟩
 have hW1 := heap_two w (.cells #[.int .i64 B, .slice fa l.length fc] 42) (.cells #[.int .i64 B, .int .i64 Bs, .slice ta tn tc] 79)
 rw [← hW] at hW1
 have hTW : Below w.heap.size w W := by rw [hW]; exact ((Below.refl _ w).alloc (Nat.le_refl _) _).alloc (by simp) _
 have HE := hid hW
 have HW := hid hW1
 have HTW := hid hTW
 clear h hs V hfv hW hW1 hTW
 go_enter Tryz.func75, Tryz.ntmps75
 go_wp2_with fail
 rw [← HE.out]
 refine (HC.out _).mono ?_
 rintro e w1 ⟨rfl, hb1⟩
 have r1 : w1.heap[w.heap.size]? = _ := (hb1.block _ (ltB HW.out.1)).trans HW.out.1
 have r2 : w1.heap[w.heap.size + 1]? = _ := (hb1.block _ (ltB HW.out.2)).trans HW.out.2
 have a0 := cRw r1 0
 have a1 := cRw r1 1
 have b0 := cRw r2 0
 have b1 := cRw r2 1
 simp at a0 a1 b0 b1
 have hbw : Below w.heap.size w w1 := HTW.out.trans (hb1.mono HTW.out.size)
 have HBW := hid hbw
 have lz : w.heap.size + 1 < w1.heap.size := ltB r2
 have hnb : (B != B) = false := by simp
 clear r1 r2 hb1 hbw
 go_wp2
 go_loopw [6, 7, 25] (fun la us i wr => ∃ k : Nat, k ≤ l.length ∧ i = .int .i64 k ∧ la = encStr (lastN l k) ∧ us = .int .i64 (usedN l k) ∧ FilesOk B l k ∧ Below w1.heap.size w1 wr) (fun _ _ i _ => l.length - (intOf i).toNat)
 case atStart => exact ⟨0, Nat.zero_le _, rfl, rfl, rfl, fun j e hj => by omega, Below.refl _ _⟩
 case round =>
  obtain ⟨k, hk, rfl, rfl, rfl, hall, hbr⟩ := hrel
  have x0 := hbr.cell (p := ⟨w.heap.size + 1, 0, none⟩) lz
  have x1 := hbr.cell (p := ⟨w.heap.size + 1, 1, none⟩) lz
  rw [b0] at x0
  rw [b1] at x1
  have hzr : w.heap.size + 1 < wr.heap.size := Nat.lt_of_lt_of_le lz hbr.size
  have hub := usedN_le l k
  have hbwr : Below w.heap.size w wr := HBW.out.trans (hbr.mono HBW.out.size)
  have HALL := hid hall
  clear hall
  by_cases hlt : k < l.length
  ·obtain ⟨e0, he0⟩ : ∃ e0, l[k]? = some e0 := ⟨l[k], List.getElem?_eq_getElem hlt⟩
   obtain ⟨A, gc, hG⟩ := HS.out.one (by omega)
   rw [HFV.out] at hG
   simp only [Value.slice.injEq, true_and] at hG
   obtain ⟨rfl, rfl⟩ := hG
   obtain ⟨f0, f1, f2, hbl⟩ := (HS.out.below hbwr).read he0 HFV.out
   have hus := usedN_succ he0
   have hle := usedN_le l (k + 1)
   have hone : e0.file.blocks.length ≤ 1099511627776 := by omega
   have HK := hid (fun o : Obj => checkFile_in (w := wr.alloc o) (lo := lo) (E := E) (B := B) (s := ⟨e0.name.toArray⟩) (last := ⟨(lastN l k).toArray⟩) (x := e0.file.shut) ((HV.out _ hbwr).alloc o) (hbl.below ((Below.refl _ wr).alloc (Nat.le_refl _) o)) hone)
   obtain ⟨ga, gk, hsv⟩ := hbl.sl
   rw [hsv] at f2 HK
   have HUS := hid hus
   have HE0 := hid he0
   have HBR := hid hbr
   have HBWR := hid hbwr
   clear he0 hbl hsv hus hbr hbwr
   by_cases hok : FOk B ⟨(lastN l k).toArray⟩ ⟨e0.name.toArray⟩ e0.file.blocks
   ·have NX : Hid (FilesOk B l (k + 1)) := fun j e hj he => by
     by_cases hjk : j < k
     ·exact HALL.out j e hjk he
     ·have : j = k := by omega
      subst this
      have h9 := HE0.out
      rw [h9] at he
      cases he
      exact hok
    have HOKF := hid hok
    clear hok
    go_wp2_with (go_at_call 127; refine (HK.out _).mono ?_; rintro e w2 ⟨hres, ht2⟩; obtain rfl : e = .returned .nilIface := by { rcases hres with ⟨_, h⟩ | ⟨hc, _⟩; exact h; exact absurd HOKF.out hc }; clear hres; obtain ⟨q0, q1, q2, lq⟩ := box_up3 ht2; have HT2 := hid ht2; clear ht2)
    have hbn : Below w1.heap.size w1 w2 := HBR.out.trans (((Below.refl _ wr).alloc (Nat.le_refl _) _).trans (HT2.out.mono (by simp)) |>.mono HBR.out.size)
    have hla : encStr e0.name = encStr (lastN l (k + 1)) := by simp [lastN, HE0.out]
    have hue : (usedN l k : Int) + e0.file.blocks.length = (usedN l (k + 1) : Nat) := by rw [HUS.out]; simp
    have HBN := hid hbn
    have HLA := hid hla
    have HUE := hid hue
    clear hbn hla hue
    go_roundw
    case rel => first | exact ⟨k + 1, by omega, by go_num, HLA.out, by rw [HUE.out], NX.out, HBN.out⟩ | ((repeat apply Exists.intro); exact ⟨⟨k + 1, by omega, by go_num, HLA.out, by rw [HUE.out], NX.out, HBN.out⟩, rfl⟩)
    case measure => simp [intOf]; omega
   ·have NX : Hid (¬ FilesOk B l l.length) := fun hf => hok (hf k e0 hlt HE0.out)
    have HOKF := hid hok
    clear hok
    go_wp2_with (go_at_call 127; refine (HK.out _).mono ?_; rintro e w2 ⟨hres, ht2⟩; obtain rfl : e = .returned (errV E 10) := by { rcases hres with ⟨hc, _⟩ | ⟨_, h⟩; exact absurd hc HOKF.out; exact h }; clear hres; obtain ⟨q0, q1, q2, lq⟩ := box_up3 ht2; have HT2 := hid ht2; clear ht2)
    go_ret
    exact ⟨⟨some 10, .inr (.inr (.inl ⟨rfl, HOK.out, fun h => NX.out h.2⟩)), rfl⟩, HBWR.out.trans (((Below.refl _ wr).alloc (Nat.le_refl _) _).trans (HT2.out.mono (by simp)) |>.mono HBWR.out.size)⟩
  ·have hkk : k = l.length := by omega
   subst hkk
   have c9 := (HV.out _ hbwr).sents.var9
   have HBWR := hid hbwr
   have HBR := hid hbr
   clear hbr hbwr
   by_cases hu2 : (usedN l l.length : Int) ≤ Bs
   ·go_wp2
    go_ret
    exact ⟨⟨none, .inl ⟨rfl, HOK.out, rfl, HALL.out, hu2⟩, rfl⟩, HBWR.out⟩
   ·have hu3 : Bs < (usedN l l.length : Int) := by omega
    go_wp2
    go_ret
    exact ⟨⟨some 9, .inr (.inr (.inr ⟨rfl, HOK.out, rfl, HALL.out, by omega⟩)), rfl⟩, HBWR.out⟩
theorem checkMount_in (V : Env w lo E) {sB B Bs : Int} {fv : Value} {l : List SFl} {ta : Option Addr} {tn tc : Nat} (h : StIn w fv l) (hn : l.length ≤ 1099511627776) (hu : usedN l l.length ≤ 1099511627776) :
  Calls Tryz.prog 75 #[.agg #[.int .i64 sB, fv], .agg #[.int .i64 B, .int .i64 Bs, .slice ta tn tc]] w fun e w' => (∃ c, MountV sB B Bs l c ∧ e = .returned (errOf E c)) ∧ Below w.heap.size w w' := by
 by_cases hs : SetOk B Bs
 ·by_cases hb : sB = B
  ·subst hb
   exact checkMount_files V h hs hn hu
  ·obtain ⟨fa, fc, hfv⟩ := h.sl
   rw [hfv]
   exact (checkMount_other V hs hb).mono fun e w' ⟨h1, h2⟩ => ⟨⟨some 10, .inr (.inr (.inl ⟨rfl, hs, fun h => hb h.1⟩)), h1⟩, h2⟩
 ·obtain ⟨fa, fc, hfv⟩ := h.sl
  rw [hfv]
  exact (checkMount_bad V hs).mono fun e w' ⟨h1, h2⟩ => ⟨⟨some 0, .inr (.inl ⟨rfl, hs⟩), h1⟩, h2⟩
end
end Go.Proofs.YthehcjjckabljaaGreatDoor
