import Derived.Test.YtcpncfngadablaaDoorZ28
import Derived.Test.YtcpncfngadablaaDoorZ20
namespace Go.Proofs.YtcpncfngadablaaDoor
open Go.RowKit Go.Deep

section
variable {w w' : World} {E : Nat → Addr} {lo p mf mt : Nat} {D : DiskC}

theorem StateAt.touch {n B : Nat} {fv : Value} {l : List SFile} {F : List Nat} (h : StateAt w n B fv l) (ht : Touch F w w') (hF : ∀ b ∈ F, b < n) : StateAt w' n B fv l :=
  h.kept fun b hn hlt => ht.block b hlt fun hb => by have := hF b hb; omega

set_option maxRecDepth 100000 in
set_option maxHeartbeats 2000000 in
/-- at a cut the disk holds what the call makes. -/
theorem cut_whole (V : Env w lo E) (R : Rep w lo p mf mt D) (hT : D.T = .map []) (ho : D.on = true) (hS : Small D.pub) (hcc : D.c.calls + 1 ≤ 1099511627776) (o : OpA) (hk : o.kind ≠ 2) (hok : (stepA o D.pub).1.e = 0) (hS2 : Small (stepA o D.pub).2)
    {n1 : Nat} {fv : Value} {l : List SFile} (h : StateAt w n1 D.B fv l) (hp : l.map SFile.pub = (stepA o D.pub).2.files) (hF : ∀ b ∈ D.foot p mf mt, b < n1) (hn1 : n1 ≤ w.heap.size) {sa : Option Addr} {n c : Nat} (hd : Shows w sa n c o.data) (hn : n ≤ 1073741824) :
    Calls Tryd.prog 15 #[.agg #[.int .i64 D.B, fv], ptr p, opV o.kind o.name o.N o.bit sa n c, .int .i64 D.B] w fun e w' => e = .returned (.bool true) ∧ Touch (D.foot p mf mt) w w' := by
  obtain ⟨a0, c0, e0⟩ := h.sliceL
  obtain ⟨kk, s, N, bit, d⟩ := o
  obtain ⟨W, hW⟩ : ∃ W, W = (w.alloc (.cells #[.int .i64 D.B, fv] 43)).alloc (.cells #[.int .i64 kk, .string s, .int .i64 N, .int .i64 bit, .slice sa n c] 40) := ⟨_, rfl⟩
  have hW1 := heap_two w (.cells #[.int .i64 D.B, fv] 43) (.cells #[.int .i64 kk, .string s, .int .i64 N, .int .i64 bit, .slice sa n c] 40)
  rw [← hW] at hW1
  have hTW : Below w.heap.size w W := by rw [hW]; exact ((Below.refl _ w).alloc (Nat.le_refl _) _).alloc (by simp) _
  have tW : Touch [] w W := Touch.of_below hTW (Nat.le_refl _)
  have RW := R.touch tW (by simp)
  have VW := V.touch tW (by simp)
  have hW2 := h.touch tW (by simp)
  have HST := hid (State_any RW hS)
  have HPR := hid (fun W2 (t : Touch [] W W2) => program_any (VW.touch t (by simp)) (RW.touch t (by simp)) hT ho hS hcc ⟨kk, s, N, bit, d⟩ (hd.touch (tW.trans t (by simp)) (by simp)) hn)
  have hB := (step_size ⟨kk, s, N, bit, d⟩ D.pub).1
  have hfew : l.length ≤ 1099511627776 ∧ ∀ e ∈ l, e.file.blocks.length ≤ 1099511627776 := by
    refine ⟨?_, fun e he => ?_⟩
    · have := hS2.files
      rw [← hp] at this
      simpa using this
    · exact hS2.blocks e.pub (by rw [← hp]; exact List.mem_map.2 ⟨e, he, rfl⟩)
  obtain ⟨T, hTT⟩ : ∃ T, T = (stepA ⟨kk, s, N, bit, d⟩ D.pub).1 := ⟨_, rfl⟩
  obtain ⟨A, hA⟩ : ∃ A, A = (stepA ⟨kk, s, N, bit, d⟩ D.pub).2 := ⟨_, rfl⟩
  rw [← hTT] at HPR hok
  rw [← hA] at HPR hB hp hS2
  have H := hid hW2
  have HP := hid hp
  have HEE := hid e0
  have HE := hid hW
  have HW := hid hW1
  have HTW := hid hTW
  have HFW := hid hfew
  have HF := hid hF
  have HBB := hid hB
  have HS2 := hid hS2
  have HOK := hid hok
  simp only [opV] at HPR ⊢
  rw [e0] at HE HW ⊢
  clear h hp R hS hW hW1 hTW e0 hfew tW RW VW hW2 V hT ho hcc hF hB hS2 hok hd hTT hA
  go_enter Tryd.func15, Tryd.ntmps15
  go_wp2_with fail
  rw [← HE.out]
  refine HST.out.mono ?_
  rintro e w1 ⟨fv1, l1, rfl, h1, hp1, hb1⟩
  obtain ⟨a1, c1, e1⟩ := h1.sliceL
  have z1 := fun i => cell_row ((hb1.block _ (lt_of_block HW.out.1)).trans HW.out.1) i
  have HC := hid (fun W2 (hb : Below w1.heap.size w1 W2) => SameState_some (w := W2) (x := (D.B : Int)) (H.out.below (hb1.trans (hb.mono hb1.size))) (h1.below hb) HFW.out.1 HFW.out.2)
  have HB1 := hid hb1
  rw [HEE.out, e1] at HC
  rw [e1]
  have lw := Nat.lt_of_lt_of_le (lt_of_block HW.out.1) hb1.size
  clear h1 hp1 hb1 e1
  go_wp2_with fail
  refine Calls.mono (HC.out _ ((Below.refl _ w1).alloc (Nat.le_refl _) _)) ?_
  rintro e w2 ⟨⟨b, rfl⟩, hb2⟩
  have hb12 : Below W.heap.size W w2 := HB1.out.trans ((((Below.refl _ w1).alloc (Nat.le_refl _) _).trans (hb2.mono (by simp))).mono HB1.out.size)
  clear z1
  cases b
  · have q1 := (hb12.block _ (lt_of_block HW.out.2)).trans HW.out.2
    have z2 := fun i => cell_row q1 i
    have l2 := lt_of_block q1
    have HB2 := hid hb12
    clear hb2 hb12 q1
    go_wp2_with fail
    refine Calls.mono (HPR.out w2 (Touch.of_below HB2.out (Nat.le_refl _))) ?_
    rintro e w3 ⟨v, rfl, ⟨dv, nv, hv, hd1, hd2⟩, D3, R3, hpub, _, ht3, _⟩
    obtain ⟨da, dn, dc, hdv⟩ : ∃ a n c, dv = .slice a n c := by
      rcases hd1.2 with ⟨h, _⟩ | ⟨g, cap, _, h, _⟩
      · exact ⟨none, 0, 0, h⟩
      · exact ⟨_, _, cap, h⟩
    obtain ⟨na, nn, nc, hnv⟩ : ∃ a n c, nv = .slice a n c := by
      rcases hd2.2 with ⟨h, _⟩ | ⟨g, cap, _, h, _⟩
      · exact ⟨none, 0, 0, h⟩
      · exact ⟨_, _, cap, h⟩
    rw [HOK.out, hdv, hnv] at hv
    have t3 : Touch (D.foot p mf mt) W w3 := (Touch.of_below (F := D.foot p mf mt) HB2.out (Nat.le_refl _)).trans ht3 fun b hb => .inl hb
    have hB3 : D3.B = D.B := by rw [show D3.B = D3.pub.B from rfl, hpub, HBB.out]; rfl
    have hnf : ∀ b, n1 ≤ b → b ∉ D.foot p mf mt := fun b hb hm => by have := HF.out b hm; omega
    have q1 := (t3.block _ (lt_of_block HW.out.1) (hnf _ hn1)).trans HW.out.1
    have q2 := (t3.block _ (lt_of_block HW.out.2) (hnf _ (by omega))).trans HW.out.2
    have HST2 := hid (fun W2 (t : Touch [] w3 W2) => State_any (R3.touch t (by simp)) (hpub ▸ HS2.out))
    rw [hB3] at HST2
    have hents : D3.ents.map Ent.pub = A.files := by rw [← hpub]; rfl
    have H3 := hid (H.out.touch t3 HF.out)
    have HT3 := hid t3
    have HEN := hid hents
    have HQ1 := hid q1
    have HQ2 := hid q2
    have l1 := lt_of_block q1
    have l2' := lt_of_block q2
    unfold toldV at hv
    subst hv
    clear R3 hpub ht3 t3 hB3 hnf q1 q2 hents hd1 hd2 hdv hnv z2 l2
    have hk2 : ¬ kk = 2 := hk
    clear hk
    go_wp2_with fail
    refine Calls.mono (HST2.out _ ((Touch.refl [] w3).alloc _)) ?_
    rintro e w4 ⟨fv4, l4, rfl, h4, hp4, hb4⟩
    obtain ⟨a4, c4, e4⟩ := h4.sliceL
    have hb34 : Below w3.heap.size w3 w4 := ((Below.refl _ w3).alloc (Nat.le_refl _) _).trans (hb4.mono (by simp))
    have z1 := fun i => cell_row ((hb34.block _ l1).trans HQ1.out) i
    have z2 := fun i => cell_row ((hb34.block _ l2').trans HQ2.out) i
    have l3 := Nat.lt_of_lt_of_le l1 hb34.size
    have l4' := Nat.lt_of_lt_of_le l2' hb34.size
    have HC4 := hid (fun W2 (hb : Below w4.heap.size w4 W2) => SameState_true (w := W2) (x := (D.B : Int)) (H3.out.below (hb34.trans (hb.mono hb34.size))) (h4.below hb) (HP.out.trans (HEN.out.symm.trans hp4.symm)) HFW.out.1 HFW.out.2)
    rw [HEE.out, e4] at HC4
    rw [e4]
    have HB4 := hid hb34
    clear h4 hp4 hb4 e4 hb34 l1 l2'
    go_wp2_with fail
    refine Calls.mono (HC4.out _ ((Below.refl _ w4).alloc (Nat.le_refl _) _)) ?_
    rintro e w5 ⟨rfl, hb5⟩
    have hb45 : Below w4.heap.size w4 w5 := ((Below.refl _ w4).alloc (Nat.le_refl _) _).trans (hb5.mono (by simp))
    have HB5 := hid hb45
    clear hb5 hb45
    go_wp2
    go_ret
    have b3 : Touch (D.foot p mf mt) w w3 := (Touch.of_below HTW.out (Nat.le_refl _)).trans HT3.out (fun b hb => .inl hb)
    exact ⟨rfl, b3.trans (Touch.of_below (F := []) (HB4.out.trans (HB5.out.mono HB4.out.size)) (Nat.le_refl _)) (by simp)⟩
  · have HB2 := hid hb12
    clear hb2 hb12
    go_wp2
    go_ret
    exact ⟨rfl, Touch.of_below (HTW.out.trans (HB2.out.mono HTW.out.size)) (Nat.le_refl _)⟩
end
end Go.Proofs.YtcpncfngadablaaDoor
namespace Go.Proofs.YtcpncfngadablaaDoor
open Go.RowKit Go.Deep

section
variable {w w' : World} {E : Nat → Addr} {lo p mf mt : Nat} {D : DiskC}

/-- A list of blocks that can be read, whatever room each has behind it. -/
structure BlocksSh (w : World) (sv : Value) (blocks : List (List UInt8)) : Prop where
  sl : ∃ a c, sv = .slice a blocks.length c
  at_ : ∀ i (hi : i < blocks.length), ∃ G gc xa xn xc, sv = .slice (some ⟨G, 0, none⟩) blocks.length gc ∧ w.cell? ⟨G, i, none⟩ = some (.slice xa xn xc) ∧ Shows w xa xn xc blocks[i]

theorem bytes_shows {b B : Nat} {bl : List UInt8} (h : BytesAt w b bl) (hl : bl.length = B) : Shows w (some ⟨b, 0, none⟩) B B bl := by
  subst hl
  refine ⟨rfl, Nat.le_refl _, fun _ => ⟨_, rfl, lt_of_block h, fun j v hv => ?_⟩, fun e => by simp at e⟩
  exact bytes_src h j v hv

theorem BlocksAt.sh {B : Nat} {sv : Value} {bs : List Nat} {blocks : List (List UInt8)} (h : BlocksAt w B sv bs blocks) : BlocksSh w sv blocks := by
  refine ⟨h.sliceL, fun i hi => ?_⟩
  obtain ⟨g, cap, b, e, c, hl, hby, _⟩ := h.at hi
  exact ⟨g, cap, _, _, _, e, c, bytes_shows hby hl⟩

theorem BlocksSh.below {sv : Value} {blocks : List (List UInt8)} (h : BlocksSh w sv blocks) (hb : Below w.heap.size w w') : BlocksSh w' sv blocks :=
  ⟨h.sl, fun i hi => by
    obtain ⟨G, gc, xa, xn, xc, e, c, hs⟩ := h.at_ i hi
    exact ⟨G, gc, xa, xn, xc, e, (hb.cell (p := ⟨G, i, none⟩) (World.block_lt_of_cell? w _ c)).trans c, hs.touch (F := []) (Touch.of_below hb (Nat.le_refl _)) (by simp)⟩⟩
theorem BlocksSh.round {sv : Value} {blocks : List (List UInt8)} {W wr : World} {k G gc : Nat} (h : BlocksSh w sv blocks) (hk : k < blocks.length) (hb : Below w.heap.size w W) (hq : Quiet W wr) (e : sv = .slice (some ⟨G, 0, none⟩) blocks.length gc) :
    ∃ xa xn xc, wr.cell? ⟨G, k, none⟩ = some (.slice xa xn xc) ∧ ∀ n, (convert 31 9 (.slice xa xn xc)).run Tryd.prog (wr.drewN n) = .ok (encStr blocks[k]) (wr.drewN n) := by
  have hbr : Below w.heap.size w wr := hb.trans ((Quiet.touch hq []).below hb.size (by simp))
  obtain ⟨g, cap, xa, xn, xc, e1, c, hs⟩ := (h.below hbr).at_ k hk
  rw [e] at e1
  simp only [Value.slice.injEq, Option.some.injEq, Addr.mk.injEq] at e1
  obtain ⟨⟨rfl, _⟩, _⟩ := e1
  exact ⟨xa, xn, xc, c, fun n => conv_shows (hs.touch (F := []) ((Touch.refl _ _).drewN n) (by simp))⟩
theorem BlocksSh.slice1 {sv : Value} {blocks : List (List UInt8)} (h : BlocksSh w sv blocks) (h0 : ¬ blocks.length = 0) : ∃ g c, sv = .slice (some ⟨g, 0, none⟩) blocks.length c := by
  obtain ⟨G, gc, _, _, _, e, _⟩ := h.at_ 0 (by omega)
  exact ⟨G, gc, e⟩

set_option maxRecDepth 100000 in
set_option maxHeartbeats 400000 in
theorem SameFile_sh {s : ByteArray} {x : Bool} {sv1 sv2 : Value} {blocks : List (List UInt8)} (h1 : BlocksSh w sv1 blocks) (h2 : BlocksSh w sv2 blocks) (hn : blocks.length ≤ 1099511627776) :
    Calls Tryd.prog 35 #[.agg #[.string s, .bool x, sv1], .agg #[.string s, .bool x, sv2]] w fun e w' => e = .returned (.bool true) ∧ Below w.heap.size w w' := by
  by_cases h0 : blocks.length = 0
  · obtain ⟨a1, c1, e1⟩ := h1.sl
    obtain ⟨a2, c2, e2⟩ := h2.sl
    rw [e1, e2, h0]
    clear h1 h2 e1 e2 h0
    cases x
    all_goals
      go_enter Tryd.func35, Tryd.ntmps35
      go_wp2
      refine wp_loop_rounds 1 ?_
      rw [rounds_succ]
      go_wp2
      go_ret
      exact ⟨rfl, ((Below.refl _ w).alloc (Nat.le_refl _) _).alloc (by simp) _⟩
  · obtain ⟨G1, gc1, e1⟩ := h1.slice1 h0
    obtain ⟨G2, gc2, e2⟩ := h2.slice1 h0
    have H1 := hid h1
    have H2 := hid h2
    have E1 := hid e1
    have E2 := hid e2
    rw [e1, e2]
    clear h1 h2 e1 e2
    obtain ⟨W, hW⟩ : ∃ W, W = (w.alloc (.cells #[.string s, .bool x, .slice (some ⟨G1, 0, none⟩) blocks.length gc1] 75)).alloc (.cells #[.string s, .bool x, .slice (some ⟨G2, 0, none⟩) blocks.length gc2] 75) := ⟨_, rfl⟩
    have hW1 := heap_two w (.cells #[.string s, .bool x, .slice (some ⟨G1, 0, none⟩) blocks.length gc1] 75) (.cells #[.string s, .bool x, .slice (some ⟨G2, 0, none⟩) blocks.length gc2] 75)
    rw [← hW] at hW1
    have hTW : Below w.heap.size w W := by rw [hW]; exact ((Below.refl _ w).alloc (Nat.le_refl _) _).alloc (by simp) _
    have b1 := cell_row hW1.1 2
    have b2 := cell_row hW1.2 2
    simp at b1 b2
    have HE := hid hW
    have HTW := hid hTW
    clear hW hW1 hTW
    cases x
    all_goals
      go_enter Tryd.func35, Tryd.ntmps35
      go_wp2
      rw [← HE.out]
      go_loopw [5] (fun i wr => ∃ k : Nat, k ≤ blocks.length ∧ i = .int .i64 k ∧ Quiet W wr) (fun i _ => blocks.length - (intOf i).toNat)
      case atStart => exact ⟨0, Nat.zero_le _, rfl, 0, rfl⟩
      case round =>
        obtain ⟨k, hk, rfl, hq⟩ := hrel
        have d1 := (Quiet.cell hq _).trans b1
        have d2 := (Quiet.cell hq _).trans b2
        by_cases hlt : k < blocks.length
        · obtain ⟨xa, xn, xc, g1, cv1⟩ := H1.out.round hlt HTW.out hq E1.out
          obtain ⟨ya, yn, yc, g2, cv2⟩ := H2.out.round hlt HTW.out hq E2.out
          have HQ := hid hq
          clear hq b1 b2
          go_wp2
          go_quiet (fail)
          go_wp2
          go_roundw
          case rel => exact ⟨k + 1, by omega, by go_num, quiet_more HQ.out _⟩
          case measure => simp [intOf]; omega
        · have HQ := hid hq
          clear hq b1 b2
          go_wp2
          go_ret
          exact ⟨rfl, HTW.out.trans ((Quiet.touch HQ.out []).below HTW.out.size (by simp))⟩

/-- A state that can be read. -/
structure StateSh (w : World) (n : Nat) (fv : Value) (l : List SFile) : Prop where
  own : w.ownsRow n 75 3 fv l.length (l.flatMap SFile.cells)
  each : ∀ e ∈ l, BlocksSh w e.sv e.file.blocks

theorem StateAt.sh {n B : Nat} {fv : Value} {l : List SFile} (h : StateAt w n B fv l) : StateSh w n fv l := ⟨h.own, fun e he => (h.each e he).sh⟩
theorem StateSh.below {n : Nat} {fv : Value} {l : List SFile} (h : StateSh w n fv l) (hb : Below w.heap.size w w') : StateSh w' n fv l := ⟨row_below h.own hb, fun e he => (h.each e he).below hb⟩

set_option maxRecDepth 100000 in
set_option maxHeartbeats 400000 in
theorem SameState_sh {n1 n2 : Nat} {x : Int} {fv1 fv2 : Value} {l1 l2 : List SFile} (h1 : StateSh w n1 fv1 l1) (h2 : StateSh w n2 fv2 l2) (hp : l1.map SFile.pub = l2.map SFile.pub) (hn : l1.length ≤ 1099511627776) (hnb : ∀ e ∈ l1, e.file.blocks.length ≤ 1099511627776) :
    Calls Tryd.prog 11 #[.agg #[.int .i64 x, fv1], .agg #[.int .i64 x, fv2]] w fun e w' => e = .returned (.bool true) ∧ Below w.heap.size w w' := by
  have hll : l1.length = l2.length := by simpa using congrArg List.length hp
  obtain ⟨a1, c1, e1⟩ := row_slice h1.own
  obtain ⟨a2, c2, e2⟩ := row_slice h2.own
  by_cases h0 : l1.length = 0
  · rw [e1, e2, ← hll, h0]
    clear h1 h2 e1 e2 h0 hll hp
    go_enter Tryd.func11, Tryd.ntmps11
    go_wp2
    refine wp_loop_rounds 1 ?_
    rw [rounds_succ]
    go_wp2
    go_ret
    exact ⟨rfl, ((Below.refl _ w).alloc (Nat.le_refl _) _).alloc (by simp) _⟩
  · clear e1 e2
    obtain ⟨G1, gc1, e1, _⟩ := row_form h1.own (by omega)
    obtain ⟨G2, gc2, e2, _⟩ := row_form h2.own (by omega)
    have H1 := hid h1
    have H2 := hid h2
    have E1 := hid e1
    have E2 := hid e2
    have HP := hid hp
    have HNB := hid hnb
    have HL := hid hll
    rw [e1, e2, ← hll]
    clear h1 h2 e1 e2 hll hp hnb
    obtain ⟨W, hW⟩ : ∃ W, W = (w.alloc (.cells #[.int .i64 x, .slice (some ⟨G1, 0, none⟩) l1.length gc1] 43)).alloc (.cells #[.int .i64 x, .slice (some ⟨G2, 0, none⟩) l1.length gc2] 43) := ⟨_, rfl⟩
    have hW1 := heap_two w (.cells #[.int .i64 x, .slice (some ⟨G1, 0, none⟩) l1.length gc1] 43) (.cells #[.int .i64 x, .slice (some ⟨G2, 0, none⟩) l1.length gc2] 43)
    rw [← hW] at hW1
    have hTW : Below w.heap.size w W := by rw [hW]; exact ((Below.refl _ w).alloc (Nat.le_refl _) _).alloc (by simp) _
    have HW := hid hW1
    have HE := hid hW
    have HTW := hid hTW
    clear hW hW1 hTW
    go_enter Tryd.func11, Tryd.ntmps11
    go_wp2
    rw [← HE.out]
    go_loopw [5] (fun i wr => ∃ k : Nat, k ≤ l1.length ∧ i = .int .i64 k ∧ Below W.heap.size W wr) (fun i _ => l1.length - (intOf i).toNat)
    case atStart => exact ⟨0, Nat.zero_le _, rfl, Below.refl _ _⟩
    case round =>
      obtain ⟨k, hk, rfl, hq⟩ := hrel
      have r1 : wr.heap[w.heap.size]? = some (.cells #[.int .i64 x, .slice (some ⟨G1, 0, none⟩) l1.length gc1] 43) := (hq.block _ (lt_of_block HW.out.1)).trans HW.out.1
      have r2 : wr.heap[w.heap.size + 1]? = some (.cells #[.int .i64 x, .slice (some ⟨G2, 0, none⟩) l1.length gc2] 43) := (hq.block _ (lt_of_block HW.out.2)).trans HW.out.2
      have d1 := cell_row r1 1
      have d2 := cell_row r2 1
      simp at d1 d2
      have hbw : Below w.heap.size w wr := HTW.out.trans (hq.mono HTW.out.size)
      by_cases hlt : k < l1.length
      · have hlt2 : k < l2.length := by have := HL.out; omega
        have hpk : l1[k].pub = l2[k].pub := by
          have := congrArg (fun l => l[k]?) HP.out
          simpa [List.getElem?_eq_getElem hlt, List.getElem?_eq_getElem hlt2] using this
        have hnm : l1[k].name = l2[k].name := congrArg Prod.fst hpk
        have hfl : l1[k].file = l2[k].file := congrArg Prod.snd hpk
        have S1 := H1.out.below hbw
        have S2 := H2.out.below hbw
        obtain ⟨c10, c11, c12⟩ := row_cells S1.own E1.out hlt
        obtain ⟨c20, c21, c22⟩ := row_cells S2.own E2.out hlt2
        have hb1 := S1.each _ (List.getElem_mem hlt)
        have hb2 := S2.each _ (List.getElem_mem hlt2)
        rw [← hnm] at c20
        rw [← hfl] at c21 hb2
        have hnk := HNB.out _ (List.getElem_mem hlt)
        obtain ⟨s, hs⟩ : ∃ s, Value.string s = encStr l1[k].name := ⟨_, rfl⟩
        obtain ⟨y, hy⟩ : ∃ y, y = l1[k].file.shut := ⟨_, rfl⟩
        have HC := hid (fun n : Nat => SameFile_sh (w := wr.drewN n) (s := s) (x := y) (hb1.below (w := wr) ⟨rfl, rfl, rfl, Nat.le_refl _, fun _ _ => rfl⟩) (hb2.below (w := wr) ⟨rfl, rfl, rfl, Nat.le_refl _, fun _ _ => rfl⟩) hnk)
        obtain ⟨ga1, gk1, hs1⟩ := hb1.sl
        obtain ⟨ga2, gk2, hs2⟩ := hb2.sl
        have HQ := hid hq
        have l1' := lt_of_block r1
        have l2' := lt_of_block r2
        obtain ⟨m, hm⟩ : ∃ m, m = l1[k].file.blocks.length := ⟨_, rfl⟩
        rw [← hm] at hs1 hs2
        rw [hs1] at HC c12
        rw [hs2] at HC c22
        rw [← hs] at c10 c20
        rw [← hy] at c11 c21
        clear hq r1 r2 hb1 hb2 hbw hs1 hs2 hs hy hnk hpk hnm hfl S1 S2 hm
        go_wp2
        go_region_held3 (fun V => (V.cell? ⟨w.heap.size, 1, none⟩ = some (.slice (some ⟨G1, 0, none⟩) l1.length gc1) ∧ V.cell? ⟨w.heap.size + 1, 1, none⟩ = some (.slice (some ⟨G2, 0, none⟩) l1.length gc2)) ∧ (V.cell? ⟨G1, k * 3, none⟩ = some (.string s) ∧ V.cell? ⟨G1, k * 3 + 1, none⟩ = some (.bool y) ∧ V.cell? ⟨G1, k * 3 + 2, none⟩ = some (.slice ga1 m gk1)) ∧ V.cell? ⟨G2, k * 3, none⟩ = some (.string s) ∧ V.cell? ⟨G2, k * 3 + 1, none⟩ = some (.bool y) ∧ V.cell? ⟨G2, k * 3 + 2, none⟩ = some (.slice ga2 m gk2)) (go_keep)
          (first | (go_at_call 35; refine (HC.out 1).mono ?_; rintro e w2 ⟨rfl, ht2⟩; have up := below_up ht2; have z1 := up _ _ _ d1; have z2 := up _ _ _ d2; have z3 := up _ _ _ c10; have z4 := up _ _ _ c11; have z5 := up _ _ _ c12; have z6 := up _ _ _ c20; have z7 := up _ _ _ c21; have z8 := up _ _ _ c22; have HT2 := hid ht2; clear up ht2))
        go_wp2
        go_roundw
        case rel => exact ⟨k + 1, by omega, by go_num, HQ.out.trans (below_quiet HT2.out HQ.out.size)⟩
        case measure => simp [intOf]; omega
      · have HQ := hid hbw
        clear hq r1 r2 hbw
        go_wp2
        go_ret
        exact ⟨rfl, HQ.out⟩
end
end Go.Proofs.YtcpncfngadablaaDoor
namespace Go.Proofs.YtcpncfngadablaaDoor
open Go.RowKit Go.Deep

theorem before_asym {a b : List UInt8} (h : bytesBefore a b = true) : bytesBefore b a = false := by
  have := behind h
  simp only [Bool.or_eq_false_iff] at this
  rw [← less_before]
  exact this.1
theorem before_ne {a b : List UInt8} (h : bytesBefore a b = true) : b ≠ a := by
  have := behind h
  simp only [Bool.or_eq_false_iff] at this
  simpa using this.2

/-- the names rise. -/
abbrev RisesS (l : List SFile) : Prop := l.Pairwise fun a b => bytesBefore a.name b.name = true

theorem sortS_rises_aux (l : List SFile) (h : RisesS l) : ∀ k, k ≤ l.length → sortS (l.take k) = l.take k
  | 0, _ => by simp [sortS]
  | k + 1, hk => by
    have hlt : k < l.length := by omega
    rw [List.take_succ_eq_append_getElem hlt, sortS_snoc, sortS_rises_aux l h k (by omega)]
    refine insS_none fun y hy => ?_
    obtain ⟨i, hi, rfl⟩ := List.getElem_of_mem hy
    have hi2 : i < k := by simp at hi; omega
    have e1 : (l.take k)[i] = l[i]'(by omega) := List.getElem_take
    rw [e1]
    exact before_asym (List.pairwise_iff_getElem.1 h i k (by omega) hlt hi2)
theorem sortS_rises {l : List SFile} (h : RisesS l) : sortS l = l := by
  have := sortS_rises_aux l h l.length (Nat.le_refl _)
  rwa [List.take_length] at this

theorem lessS_none {s : ByteArray} {l : List SFile} (h : ∀ y ∈ l, y.name ≠ nm s) : lessS s l = l := by
  unfold lessS
  rw [List.filter_eq_self]
  intro y hy
  simpa using h y hy

theorem insS_less {s : ByteArray} {e : SFile} (he : e.name = nm s) : ∀ (l : List SFile) (k : Nat) (hk : k < l.length), RisesS l → l[k].name = nm s → insS e (lessS s l) = l.set k e
  | [], k, hk, _, _ => by simp at hk
  | y :: r, 0, _, h, hy => by
    simp at hy
    have hr := List.pairwise_cons.1 h
    have hn : lessS s r = r := lessS_none fun z hz e1 => before_ne (hr.1 z hz) (by rw [e1, hy])
    have : lessS s (y :: r) = r := by
      have h1 : lessS s (y :: r) = lessS s r := by unfold lessS; rw [List.filter_cons]; simp [hy]
      rw [h1, hn]
    rw [this]
    cases r with
    | nil => rfl
    | cons z q =>
      have hb := hr.1 z (by simp)
      rw [hy, ← he] at hb
      simp [insS, hb]
  | y :: r, k + 1, hk, h, hy => by
    have hr := List.pairwise_cons.1 h
    have hk2 : k < r.length := by simpa using hk
    have hy2 : r[k].name = nm s := by simpa using hy
    have hb := hr.1 _ (List.getElem_mem hk2)
    rw [hy2] at hb
    have hne : y.name ≠ nm s := fun e1 => before_ne hb e1.symm
    have h1 : lessS s (y :: r) = y :: lessS s r := by unfold lessS; rw [List.filter_cons]; simp [hne]
    have hb2 := before_asym hb
    rw [← he] at hb2
    rw [h1]
    simp [insS, hb2, insS_less he r k hk2 hr.2 hy2]

/-- what cut makes of the files: the one of that name stands where it stood. -/
theorem sort_back {s : ByteArray} {e : SFile} (he : e.name = nm s) (l : List SFile) {k : Nat} (hk : k < l.length) (h : RisesS l) (hy : l[k].name = nm s) : sortS (lessS s l ++ [e]) = l.set k e := by
  have h2 : RisesS (lessS s l) := h.sublist List.filter_sublist
  rw [sortS_snoc, sortS_rises h2, insS_less he l k hk h hy]

/-- where a file stands. -/
theorem findA_at {files : List (List UInt8 × FileA)} {key : List UInt8} {f : FileA} (h : findA files key = some f) : ∃ k, ∃ hk : k < files.length, files[k] = (key, f) ∧ ∀ j (hj : j < k), (files[j]'(by omega)).1 ≠ key := by
  unfold findA at h
  cases hx : files.find? (fun e => decide (e.1 = key)) with
  | none => rw [hx] at h; simp at h
  | some x =>
    rw [hx] at h
    simp at h
    obtain ⟨h1, k, hk, h2, h3⟩ := List.find?_eq_some_iff_getElem.1 hx
    refine ⟨k, hk, ?_, fun j hj => ?_⟩
    · rw [h2]
      exact Prod.ext (by simpa using h1) h
    · simpa using h3 j hj

/-- a file that is set, in a list that rises: there alone. -/
theorem setA_at {files : List (List UInt8 × FileA)} {key : List UInt8} (g : FileA) {k : Nat} (hk : k < files.length) (h1 : files[k].1 = key) (hp : files.Pairwise fun a b => a.1 ≠ b.1) : setA key g files = files.set k (key, g) := by
  refine List.ext_getElem (by simp [setA]) fun i h2 h3 => ?_
  simp only [setA, List.getElem_map, List.getElem_set]
  have hi : i < files.length := by simpa [setA] using h2
  by_cases hik : k = i
  · subst hik
    simp [h1]
  · have hne : files[i].1 ≠ key := by
      rcases Nat.lt_or_gt_of_ne hik with h | h
      · have := List.pairwise_iff_getElem.1 hp k i hk hi h
        rw [h1] at this
        exact fun e => this e.symm
      · have := List.pairwise_iff_getElem.1 hp i k hi hk h
        rw [h1] at this
        exact this
    simp [hik, hne]

/-- the first bytes that are alike, then noughts: what is seen of a cut block. -/
theorem cut_tail {m : Nat} {bl : List UInt8} {k j : Nat} (hk : k < bl.length) (hne : (cutB m bl)[k]? ≠ bl[k]?) (hj : k ≤ j) (hj2 : j < bl.length) : (cutB m bl)[j]? = some 0 := by
  unfold cutB at *
  have hm : m ≤ k := by
    rcases Nat.lt_or_ge k m with h | h
    · exact absurd (by rw [List.getElem?_append_left (by simp; omega), List.getElem?_take_of_lt h]) hne
    · exact h
  rw [List.getElem?_append_right (by simp; omega), List.getElem?_replicate, if_pos (by simp; omega)]
end Go.Proofs.YtcpncfngadablaaDoor
