import Derived.Test.YtcpncfngadablaaGreatDoorZ17
namespace Go.Proofs.YtcpncfngadablaaGreatDoor
open Go.RowKit Go.Deep

section
variable {w w' : World} {E : Nat → Addr} {lo p mf mt : Nat} {D : DiskC}

/-- A list of blocks that can be read, whatever room each has behind it. -/
structure BlocksSh (w : World) (sv : Value) (blocks : List (List UInt8)) : Prop where
  sl : ∃ a c, sv = .slice a blocks.length c
  at_ : ∀ i (hi : i < blocks.length), ∃ G gc xa xn xc, sv = .slice (some ⟨G, 0, none⟩) blocks.length gc ∧ w.cell? ⟨G, i, none⟩ = some (.slice xa xn xc) ∧ Shows w xa xn xc blocks[i]

theorem bytes_shows {b B : Nat} {bl : List UInt8} (h : BytesAt w b bl) (hl : bl.length = B) : Shows w (some ⟨b, 0, none⟩) B B bl := by
  subst hl
  refine ⟨rfl, Nat.le_refl _, fun _ => ⟨_, rfl, lt_of_block h, fun j v hv => ?_⟩, fun e => by simp at e⟩
  exact bytes_src h j v hv

theorem BlocksAt.sh {B : Nat} {sv : Value} {bs : List Nat} {blocks : List (List UInt8)} (h : BlocksAt w B sv bs blocks) : BlocksSh w sv blocks := by
  refine ⟨h.sliceL, fun i hi => ?_⟩
  obtain ⟨g, cap, b, e, c, hl, hby, _⟩ := h.at hi
  exact ⟨g, cap, _, _, _, e, c, bytes_shows hby hl⟩

theorem BlocksSh.below {sv : Value} {blocks : List (List UInt8)} (h : BlocksSh w sv blocks) (hb : Below w.heap.size w w') : BlocksSh w' sv blocks :=
  ⟨h.sl, fun i hi => by
    obtain ⟨G, gc, xa, xn, xc, e, c, hs⟩ := h.at_ i hi
    exact ⟨G, gc, xa, xn, xc, e, (hb.cell (p := ⟨G, i, none⟩) (World.block_lt_of_cell? w _ c)).trans c, hs.touch (F := []) (Touch.of_below hb (Nat.le_refl _)) (by simp)⟩⟩
theorem BlocksSh.round {sv : Value} {blocks : List (List UInt8)} {W wr : World} {k G gc : Nat} (h : BlocksSh w sv blocks) (hk : k < blocks.length) (hb : Below w.heap.size w W) (hq : Quiet W wr) (e : sv = .slice (some ⟨G, 0, none⟩) blocks.length gc) :
    ∃ xa xn xc, wr.cell? ⟨G, k, none⟩ = some (.slice xa xn xc) ∧ ∀ n, (convert 31 9 (.slice xa xn xc)).run Tryz.prog (wr.drewN n) = .ok (encStr blocks[k]) (wr.drewN n) := by
  have hbr : Below w.heap.size w wr := hb.trans ((Quiet.touch hq []).below hb.size (by simp))
  obtain ⟨g, cap, xa, xn, xc, e1, c, hs⟩ := (h.below hbr).at_ k hk
  rw [e] at e1
  simp only [Value.slice.injEq, Option.some.injEq, Addr.mk.injEq] at e1
  obtain ⟨⟨rfl, _⟩, _⟩ := e1
  exact ⟨xa, xn, xc, c, fun n => conv_shows (hs.touch (F := []) ((Touch.refl _ _).drewN n) (by simp))⟩
theorem BlocksSh.slice1 {sv : Value} {blocks : List (List UInt8)} (h : BlocksSh w sv blocks) (h0 : ¬ blocks.length = 0) : ∃ g c, sv = .slice (some ⟨g, 0, none⟩) blocks.length c := by
  obtain ⟨G, gc, _, _, _, e, _⟩ := h.at_ 0 (by omega)
  exact ⟨G, gc, e⟩

set_option maxRecDepth 100000 in
set_option maxHeartbeats 400000 in
theorem SameFile_sh {s : ByteArray} {x : Bool} {sv1 sv2 : Value} {blocks : List (List UInt8)} (h1 : BlocksSh w sv1 blocks) (h2 : BlocksSh w sv2 blocks) (hn : blocks.length ≤ 1099511627776) :
    Calls Tryz.prog 41 #[.agg #[.string s, .bool x, sv1], .agg #[.string s, .bool x, sv2]] w fun e w' => e = .returned (.bool true) ∧ Below w.heap.size w w' := by
  by_cases h0 : blocks.length = 0
  · obtain ⟨a1, c1, e1⟩ := h1.sl
    obtain ⟨a2, c2, e2⟩ := h2.sl
    rw [e1, e2, h0]
    clear h1 h2 e1 e2 h0
    cases x
    all_goals
      go_enter Tryz.func41, Tryz.ntmps41
      go_wp2
      refine wp_loop_rounds 1 ?_
      rw [rounds_succ]
      go_wp2
      go_ret
      exact ⟨rfl, ((Below.refl _ w).alloc (Nat.le_refl _) _).alloc (by simp) _⟩
  · obtain ⟨G1, gc1, e1⟩ := h1.slice1 h0
    obtain ⟨G2, gc2, e2⟩ := h2.slice1 h0
    have H1 := hid h1
    have H2 := hid h2
    have E1 := hid e1
    have E2 := hid e2
    rw [e1, e2]
    clear h1 h2 e1 e2
    obtain ⟨W, hW⟩ : ∃ W, W = (w.alloc (.cells #[.string s, .bool x, .slice (some ⟨G1, 0, none⟩) blocks.length gc1] 71)).alloc (.cells #[.string s, .bool x, .slice (some ⟨G2, 0, none⟩) blocks.length gc2] 71) := ⟨_, rfl⟩
    have hW1 := heap_two w (.cells #[.string s, .bool x, .slice (some ⟨G1, 0, none⟩) blocks.length gc1] 71) (.cells #[.string s, .bool x, .slice (some ⟨G2, 0, none⟩) blocks.length gc2] 71)
    rw [← hW] at hW1
    have hTW : Below w.heap.size w W := by rw [hW]; exact ((Below.refl _ w).alloc (Nat.le_refl _) _).alloc (by simp) _
    have b1 := cell_row hW1.1 2
    have b2 := cell_row hW1.2 2
    simp at b1 b2
    have HE := hid hW
    have HTW := hid hTW
    clear hW hW1 hTW
    cases x
    all_goals
      go_enter Tryz.func41, Tryz.ntmps41
      go_wp2
      rw [← HE.out]
      go_loopw [5] (fun i wr => ∃ k : Nat, k ≤ blocks.length ∧ i = .int .i64 k ∧ Quiet W wr) (fun i _ => blocks.length - (intOf i).toNat)
      case atStart => exact ⟨0, Nat.zero_le _, rfl, 0, rfl⟩
      case round =>
        obtain ⟨k, hk, rfl, hq⟩ := hrel
        have d1 := (Quiet.cell hq _).trans b1
        have d2 := (Quiet.cell hq _).trans b2
        by_cases hlt : k < blocks.length
        · obtain ⟨xa, xn, xc, g1, cv1⟩ := H1.out.round hlt HTW.out hq E1.out
          obtain ⟨ya, yn, yc, g2, cv2⟩ := H2.out.round hlt HTW.out hq E2.out
          have HQ := hid hq
          clear hq b1 b2
          go_wp2
          go_quiet (fail)
          go_wp2
          go_roundw
          case rel => exact ⟨k + 1, by omega, by go_num, quiet_more HQ.out _⟩
          case measure => simp [intOf]; omega
        · have HQ := hid hq
          clear hq b1 b2
          go_wp2
          go_ret
          exact ⟨rfl, HTW.out.trans ((Quiet.touch HQ.out []).below HTW.out.size (by simp))⟩

/-- A state that can be read. -/
structure StateSh (w : World) (n : Nat) (fv : Value) (l : List SFile) : Prop where
  own : w.ownsRow n 71 3 fv l.length (l.flatMap SFile.cells)
  each : ∀ e ∈ l, BlocksSh w e.sv e.file.blocks

theorem StateAt.sh {n B : Nat} {fv : Value} {l : List SFile} (h : StateAt w n B fv l) : StateSh w n fv l := ⟨h.own, fun e he => (h.each e he).sh⟩
theorem StateSh.below {n : Nat} {fv : Value} {l : List SFile} (h : StateSh w n fv l) (hb : Below w.heap.size w w') : StateSh w' n fv l := ⟨row_below h.own hb, fun e he => (h.each e he).below hb⟩

set_option maxRecDepth 100000 in
set_option maxHeartbeats 400000 in
theorem SameState_sh {n1 n2 : Nat} {x : Int} {fv1 fv2 : Value} {l1 l2 : List SFile} (h1 : StateSh w n1 fv1 l1) (h2 : StateSh w n2 fv2 l2) (hp : l1.map SFile.pub = l2.map SFile.pub) (hn : l1.length ≤ 1099511627776) (hnb : ∀ e ∈ l1, e.file.blocks.length ≤ 1099511627776) :
    Calls Tryz.prog 17 #[.agg #[.int .i64 x, fv1], .agg #[.int .i64 x, fv2]] w fun e w' => e = .returned (.bool true) ∧ Below w.heap.size w w' := by
  have hll : l1.length = l2.length := by simpa using congrArg List.length hp
  obtain ⟨a1, c1, e1⟩ := row_slice h1.own
  obtain ⟨a2, c2, e2⟩ := row_slice h2.own
  by_cases h0 : l1.length = 0
  · rw [e1, e2, ← hll, h0]
    clear h1 h2 e1 e2 h0 hll hp
    go_enter Tryz.func17, Tryz.ntmps17
    go_wp2
    refine wp_loop_rounds 1 ?_
    rw [rounds_succ]
    go_wp2
    go_ret
    exact ⟨rfl, ((Below.refl _ w).alloc (Nat.le_refl _) _).alloc (by simp) _⟩
  · clear e1 e2
    obtain ⟨G1, gc1, e1, _⟩ := row_form h1.own (by omega)
    obtain ⟨G2, gc2, e2, _⟩ := row_form h2.own (by omega)
    have H1 := hid h1
    have H2 := hid h2
    have E1 := hid e1
    have E2 := hid e2
    have HP := hid hp
    have HNB := hid hnb
    have HL := hid hll
    rw [e1, e2, ← hll]
    clear h1 h2 e1 e2 hll hp hnb
    obtain ⟨W, hW⟩ : ∃ W, W = (w.alloc (.cells #[.int .i64 x, .slice (some ⟨G1, 0, none⟩) l1.length gc1] 47)).alloc (.cells #[.int .i64 x, .slice (some ⟨G2, 0, none⟩) l1.length gc2] 47) := ⟨_, rfl⟩
    have hW1 := heap_two w (.cells #[.int .i64 x, .slice (some ⟨G1, 0, none⟩) l1.length gc1] 47) (.cells #[.int .i64 x, .slice (some ⟨G2, 0, none⟩) l1.length gc2] 47)
    rw [← hW] at hW1
    have hTW : Below w.heap.size w W := by rw [hW]; exact ((Below.refl _ w).alloc (Nat.le_refl _) _).alloc (by simp) _
    have HW := hid hW1
    have HE := hid hW
    have HTW := hid hTW
    clear hW hW1 hTW
    go_enter Tryz.func17, Tryz.ntmps17
    go_wp2
    rw [← HE.out]
    go_loopw [5] (fun i wr => ∃ k : Nat, k ≤ l1.length ∧ i = .int .i64 k ∧ Below W.heap.size W wr) (fun i _ => l1.length - (intOf i).toNat)
    case atStart => exact ⟨0, Nat.zero_le _, rfl, Below.refl _ _⟩
    case round =>
      obtain ⟨k, hk, rfl, hq⟩ := hrel
      have r1 : wr.heap[w.heap.size]? = some (.cells #[.int .i64 x, .slice (some ⟨G1, 0, none⟩) l1.length gc1] 47) := (hq.block _ (lt_of_block HW.out.1)).trans HW.out.1
      have r2 : wr.heap[w.heap.size + 1]? = some (.cells #[.int .i64 x, .slice (some ⟨G2, 0, none⟩) l1.length gc2] 47) := (hq.block _ (lt_of_block HW.out.2)).trans HW.out.2
      have d1 := cell_row r1 1
      have d2 := cell_row r2 1
      simp at d1 d2
      have hbw : Below w.heap.size w wr := HTW.out.trans (hq.mono HTW.out.size)
      by_cases hlt : k < l1.length
      · have hlt2 : k < l2.length := by have := HL.out; omega
        have hpk : l1[k].pub = l2[k].pub := by
          have := congrArg (fun l => l[k]?) HP.out
          simpa [List.getElem?_eq_getElem hlt, List.getElem?_eq_getElem hlt2] using this
        have hnm : l1[k].name = l2[k].name := congrArg Prod.fst hpk
        have hfl : l1[k].file = l2[k].file := congrArg Prod.snd hpk
        have S1 := H1.out.below hbw
        have S2 := H2.out.below hbw
        obtain ⟨c10, c11, c12⟩ := row_cells S1.own E1.out hlt
        obtain ⟨c20, c21, c22⟩ := row_cells S2.own E2.out hlt2
        have hb1 := S1.each _ (List.getElem_mem hlt)
        have hb2 := S2.each _ (List.getElem_mem hlt2)
        rw [← hnm] at c20
        rw [← hfl] at c21 hb2
        have hnk := HNB.out _ (List.getElem_mem hlt)
        obtain ⟨s, hs⟩ : ∃ s, Value.string s = encStr l1[k].name := ⟨_, rfl⟩
        obtain ⟨y, hy⟩ : ∃ y, y = l1[k].file.shut := ⟨_, rfl⟩
        have HC := hid (fun n : Nat => SameFile_sh (w := wr.drewN n) (s := s) (x := y) (hb1.below (w := wr) ⟨rfl, rfl, rfl, Nat.le_refl _, fun _ _ => rfl⟩) (hb2.below (w := wr) ⟨rfl, rfl, rfl, Nat.le_refl _, fun _ _ => rfl⟩) hnk)
        obtain ⟨ga1, gk1, hs1⟩ := hb1.sl
        obtain ⟨ga2, gk2, hs2⟩ := hb2.sl
        have HQ := hid hq
        have l1' := lt_of_block r1
        have l2' := lt_of_block r2
        obtain ⟨m, hm⟩ : ∃ m, m = l1[k].file.blocks.length := ⟨_, rfl⟩
        rw [← hm] at hs1 hs2
        rw [hs1] at HC c12
        rw [hs2] at HC c22
        rw [← hs] at c10 c20
        rw [← hy] at c11 c21
        clear hq r1 r2 hb1 hb2 hbw hs1 hs2 hs hy hnk hpk hnm hfl S1 S2 hm
        go_wp2
        go_region_held3 (fun V => (V.cell? ⟨w.heap.size, 1, none⟩ = some (.slice (some ⟨G1, 0, none⟩) l1.length gc1) ∧ V.cell? ⟨w.heap.size + 1, 1, none⟩ = some (.slice (some ⟨G2, 0, none⟩) l1.length gc2)) ∧ (V.cell? ⟨G1, k * 3, none⟩ = some (.string s) ∧ V.cell? ⟨G1, k * 3 + 1, none⟩ = some (.bool y) ∧ V.cell? ⟨G1, k * 3 + 2, none⟩ = some (.slice ga1 m gk1)) ∧ V.cell? ⟨G2, k * 3, none⟩ = some (.string s) ∧ V.cell? ⟨G2, k * 3 + 1, none⟩ = some (.bool y) ∧ V.cell? ⟨G2, k * 3 + 2, none⟩ = some (.slice ga2 m gk2)) (go_keep)
          (first | (go_at_call 41; refine (HC.out 1).mono ?_; rintro e w2 ⟨rfl, ht2⟩; have up := below_up ht2; have z1 := up _ _ _ d1; have z2 := up _ _ _ d2; have z3 := up _ _ _ c10; have z4 := up _ _ _ c11; have z5 := up _ _ _ c12; have z6 := up _ _ _ c20; have z7 := up _ _ _ c21; have z8 := up _ _ _ c22; have HT2 := hid ht2; clear up ht2))
        go_wp2
        go_roundw
        case rel => exact ⟨k + 1, by omega, by go_num, HQ.out.trans (below_quiet HT2.out HQ.out.size)⟩
        case measure => simp [intOf]; omega
      · have HQ := hid hbw
        clear hq r1 r2 hbw
        go_wp2
        go_ret
        exact ⟨rfl, HQ.out⟩
end
end Go.Proofs.YtcpncfngadablaaGreatDoor
namespace Go.Proofs.YtcpncfngadablaaGreatDoor
open Go.RowKit Go.Deep

/-- No two files' lists of blocks lie in one place, no two blocks. -/
abbrev ApartS (l : List SFile) : Prop := l.Pairwise fun a b => (∀ x, a.sv.ownBlock = some x → b.sv.ownBlock ≠ some x) ∧ ∀ x ∈ a.bs, x ∉ b.bs

theorem ApartS_snoc {l : List SFile} {n : Nat} (h : ApartS l) (hl : ∀ e ∈ l, (∀ x, e.sv.ownBlock = some x → x < n) ∧ ∀ x ∈ e.bs, x < n) {e : SFile} (he : FreshB n e.sv e.bs) : ApartS (l ++ [e]) := by
  refine List.pairwise_append.2 ⟨h, List.pairwise_singleton _ _, fun a ha b hb => ⟨fun x hx hy => ?_, fun x hx hy => ?_⟩⟩
  · simp at hb
    subst hb
    have h1 := (hl a ha).1 x hx
    have h2 := he.1 x hy
    omega
  · simp at hb
    subst hb
    have h1 := (hl a ha).2 x hx
    have h2 := he.2.1 x hy
    omega

section
variable {w w' : World} {E : Nat → Addr} {lo p mf mt : Nat} {D : DiskC}

set_option maxRecDepth 100000 in
set_option maxHeartbeats 1000000 in
theorem State_apart (R : Rep w lo p mf mt D) (hS : Small D.pub) :
    Calls Tryz.prog 14 #[ptr p] w fun e w' => ∃ fv l, e = .returned (.agg #[.int .i64 D.B, fv]) ∧ StateAt w' w.heap.size D.B fv l ∧ l.map SFile.pub = D.ents.map Ent.pub ∧ ApartS l ∧ Below w.heap.size w w' := by
  obtain ⟨W, hW⟩ : ∃ W, W = (w.alloc (.cells #[.int .i64 0, .slice none 0 0] 47)).alloc (.cells #[.int .i64 D.B, .slice none 0 0] 47) := ⟨_, rfl⟩
  have hW1 : W.heap[w.heap.size]? = some (.cells #[.int .i64 0, .slice none 0 0] 47) ∧ W.heap[w.heap.size + 1]? = some (.cells #[.int .i64 D.B, .slice none 0 0] 47) := by rw [hW]; exact heap_two w _ _
  have hTW : Touch [] w W := by rw [hW]; exact ((Touch.refl [] w).alloc _).alloc _
  have RW := R.touch hTW (by simp)
  have hfl : D.ents.length ≤ 1099511627776 := by have := hS.files; simpa [DiskC.pub] using this
  have HRI := hid (rising_any RW hfl)
  have hB := hS.size
  simp only [DiskC.pub] at hB
  obtain ⟨hB1, hB2⟩ := hB
  have k0 := R.cell 0
  simp only [dRow] at k0
  have hp := lt_of_block R.row
  have HE := hid hW
  have HW := hid hW1
  have HTW := hid hTW
  have HR := hid RW
  have HSM := hid hS
  have HNF := hid (show w.heap.size + 1 ∉ D.foot p mf mt from fun h => by have := R.lt _ h; omega)
  clear R RW hW hW1 hTW hS
  go_enter Tryz.func14, Tryz.ntmps14
  go_wp2_with fail
  rw [← HE.out]
  refine HRI.out.mono ?_
  rintro e w1 ⟨v, rfl, hrow, hnil, hb1⟩
  rcases hrow.2 with ⟨hv, h2⟩ | ⟨G, gc, _, hv, _⟩
  · rw [hv]
    have hD : D.ents = [] := List.eq_nil_of_length_eq_zero h2
    have hinv : StInv w1 w1 (w.heap.size + 1) D D.ents.length (.slice none 0 0) [] := ⟨Touch.refl _ _, (hb1.block _ (lt_of_block HW.out.2)).trans HW.out.2, ⟨World.ownsRow_nil _ _ _ _, by simp, by simp⟩, by rw [hD]; rfl⟩
    have hfin := hid (state_fin hinv hb1.size (lt_of_block HW.out.2) HW.out.1 HTW.out hb1 rfl)
    have c0 := cell_row hinv.box 0
    have c1 := cell_row hinv.box 1
    have hr := hfin.out.1
    have r0 := cell_row hr 0
    have r1 := cell_row hr 1
    have f0 := unfrozen_row hr 0
    have f1 := unfrozen_row hr 1
    simp at r0 r1 c0 c1
    clear hinv hr hrow hnil hb1 hv hD h2
    go_wp2
    refine wp_loop_rounds 1 ?_
    rw [rounds_succ]
    go_wp2
    refine bodyPost_ret (v := .agg #[.int .i64 D.B, .slice none 0 0]) (by simp [results, Tryz.results14, go_sem, r0, r1]) rfl ?_
    exact ⟨.slice none 0 0, [], rfl, (hfin.out.2 _ _).1, (hfin.out.2 (.int .i64 D.B) (.slice none 0 0)).2.1, .nil, (hfin.out.2 _ _).2.2⟩
  · rw [hv]
    have HROW := hid hrow
    have HV := hid hv
    have HB1 := hid hb1
    clear hrow hnil hb1 hv
    go_wp2
    go_loopw [14] (fun i wr => ∃ (k : Nat) (fv : Value) (l : List SFile), k ≤ D.ents.length ∧ i = .int .i64 k ∧ StInv w1 wr (w.heap.size + 1) D k fv l ∧ ApartS l) (fun i _ => D.ents.length - (intOf i).toNat)
    case atStart => exact ⟨0, .slice none 0 0, [], Nat.zero_le _, rfl, ⟨Touch.refl _ _, (HB1.out.block _ (lt_of_block HW.out.2)).trans HW.out.2, ⟨World.ownsRow_nil _ _ _ _, by simp, by simp⟩, rfl⟩, .nil⟩
    case round =>
      obtain ⟨k, fv, l, hk, rfl, hinv, hap⟩ := hrel
      have hz1 : W.heap.size ≤ w1.heap.size := HB1.out.size
      have hzW : w.heap.size + 1 < W.heap.size := lt_of_block HW.out.2
      have R1 : Rep w1 lo p mf mt D := HR.out.touch (F := []) (Touch.of_below HB1.out (Nat.le_refl _)) (by simp)
      have Rr : Rep wr lo p mf mt D := R1.touch hinv.touch (fun b hb => by
        have h1 := HR.out.lt b hb
        have h2 : b < w.heap.size ∨ w.heap.size ≤ b := by omega
        simp
        intro e
        subst e
        exact HNF.out hb)
      by_cases hlt : k < D.ents.length
      · obtain ⟨e0, he0⟩ : ∃ e0, D.ents[k]? = some e0 := ⟨D.ents[k], List.getElem?_eq_getElem hlt⟩
        have hm : e0 ∈ D.ents := List.mem_of_getElem? he0
        have hrow0 := HROW.out
        have hGb : W.heap.size ≤ G ∧ G < w1.heap.size := hrow0.lt G (by rw [HV.out]; rfl)
        have cG : wr.cell? ⟨G, k, none⟩ = some (encStr e0.name) := by
          have h1 := hrow0.cells (g := G) (by rw [HV.out]; rfl) k (encStr e0.name) (by simp [he0])
          have hadd : (⟨G, 0, none⟩ : Addr).add k = ⟨G, k, none⟩ := by unfold Addr.add; split <;> simp_all
          rw [hadd] at h1
          exact (hinv.touch.cell (p := ⟨G, k, none⟩) hGb.2 (by simp; omega)).trans h1
        have hlk := (Quiet.rep (w' := wr.drew) ⟨1, rfl⟩ Rr).look1 hm
        have kp := Rr.cell 3
        simp only [dRow] at kp
        have hat := (Quiet.rep (w' := wr.drew) ⟨1, rfl⟩ Rr).each e0 hm
        have hbn : e0.file.blocks.length ≤ 1099511627776 := HSM.out.blocks e0.pub (List.mem_map.2 ⟨e0, hm, rfl⟩)
        have HTD := hid (told_any hat ⟨e0.name.toArray⟩ hB1 hB2 hbn)
        have hll := hinv.len hk
        have hsz : w1.heap.size ≤ wr.heap.size := hinv.touch.size
        have HFA := hid (state_facts Rr hinv.files hinv.box (by omega) hsz k hll)
        have cb := cell_row hinv.box 1
        simp at cb
        have lb := lt_of_block hinv.box
        have lp := lt_of_block Rr.row
        have HAP := hid hap
        have HI := hid hinv
        have HE0 := hid he0
        have HM := hid hm
        clear hinv he0 hm hrow0 hat Rr R1 hll hap
        go_wp2
        go_region_law (first
          | (refine step_append_file rfl _ _ rfl w1.heap.size fv k (l.flatMap SFile.cells) w2.heap.size (encStr e0.name) (.bool e0.file.shut) (.slice ga gn gcc) rfl rfl (ho2.out _).1 (heap_alloc_new w2 _) rfl rfl rfl (by omega) (ho2.out _).2.1 (fun g cap w3 r1 r2 => ?_); have q3 := (ho2.out _).2.2 w3 r2; have z3 := cell_row q3 1; have f3 := unfrozen_row q3 1; simp at z3; have H1 := hid r1; have H2 := hid r2; have HQ3 := hid q3; clear r1 r2 q3)
          | (go_simp; go_at_call 38; refine HTD.out.mono ?_; rintro e w2 ⟨sv', bs', rfl, hb2, hf2, ht2⟩; obtain ⟨ga, gn, gcc, hsv'⟩ := hb2.own_slice; obtain ⟨y1, y2, ⟨l1, l2⟩, ho2⟩ := HFA.out w2 ht2; have HB2 := hid hb2; have HF2 := hid hf2; have HT2 := hid ht2; clear hb2 hf2 ht2))
        all_goals
          have HN := hid (StInv.next HI.out hk HE0.out (by omega) HB2.out HF2.out HT2.out hsv' H1.out H2.out HQ3.out)
          have HA2 := hid (ApartS_snoc HAP.out (fun e he => (HI.out.files.each e he).lt) (e := ⟨e0.name, e0.file, sv', bs'⟩) HF2.out)
          clear hsv'
          go_wp2
          go_roundw
          case rel => first | exact ⟨k + 1, _, _, by omega, by go_num, HN.out, HA2.out⟩ | ((repeat apply Exists.intro); exact ⟨⟨k + 1, _, _, by omega, by go_num, HN.out, HA2.out⟩, rfl⟩)
          case measure => simp [intOf]; omega
      · have hkk : k = D.ents.length := by omega
        have hfin := hid (state_fin hinv hz1 hzW HW.out.1 HTW.out HB1.out hkk)
        have hfv : ∃ a n c, fv = .slice a n c := by
          rcases hinv.files.own.2 with ⟨h, _⟩ | ⟨g, cap, _, h, _⟩
          · exact ⟨none, 0, 0, h⟩
          · exact ⟨_, _, cap, h⟩
        obtain ⟨fa, fn, fc, hfv⟩ := hfv
        have c0 := cell_row hinv.box 0
        have c1 := cell_row hinv.box 1
        simp at c0 c1
        rw [hfv] at c1
        have hr := hfin.out.1
        have r0 := cell_row hr 0
        have r1 := cell_row hr 1
        have f0 := unfrozen_row hr 0
        have f1 := unfrozen_row hr 1
        simp at r0 r1
        have HFV := hid hfv
        have HAPE := hid hap
        clear hinv Rr R1 hr hfv hkk hap
        go_wp2
        refine bodyPost_ret (v := .agg #[.int .i64 D.B, .slice fa fn fc]) (by simp [results, Tryz.results14, go_sem, r0, r1]) rfl ?_
        rw [← HFV.out]
        exact ⟨fv, l, rfl, (hfin.out.2 _ _).1, (hfin.out.2 (.int .i64 D.B) fv).2.1, HAPE.out, (hfin.out.2 _ _).2.2⟩
end
end Go.Proofs.YtcpncfngadablaaGreatDoor
