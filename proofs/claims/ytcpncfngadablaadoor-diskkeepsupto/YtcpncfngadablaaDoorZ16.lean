import Derived.Test.YtcpncfngadablaaDoorZ15
namespace Go.Proofs.YtcpncfngadablaaDoor
open Go.RowKit Go.Deep

section
variable {w w' : World} {E : Nat → Addr} {lo p mf mt : Nat} {D : DiskC}

/-- 'string(b)', b a block. -/
theorem conv_block {b B : Nat} {bl : List UInt8} (h : BytesAt w b bl) (hl : bl.length = B) : (convert 31 9 (sliceV b B)).run Tryd.prog w = .ok (encStr bl) w := by
  subst hl
  exact run_convert_bytes_back (P := Tryd.prog) w 31 9 5 ⟨b, 0, none⟩ bl.length bl Tryd.underlying31 Tryd.underlying5 Tryd.underlying9 (fun j hj => bytes_src h j _ (by simp [Lib.byteCells, List.getElem?_eq_getElem hj]))

theorem BlocksAt.slice0 {B : Nat} {sv : Value} {bs : List Nat} {blocks : List (List UInt8)} (h : BlocksAt w B sv bs blocks) (h0 : blocks.length = 0) : ∃ a c, sv = .slice a 0 c := by
  rcases h.own.2 with ⟨e, _⟩ | ⟨g, cap, _, e, _⟩
  · exact ⟨none, 0, e⟩
  · exact ⟨_, cap, by rw [e, h0]⟩
theorem BlocksAt.slice1 {B : Nat} {sv : Value} {bs : List Nat} {blocks : List (List UInt8)} (h : BlocksAt w B sv bs blocks) (h0 : ¬ blocks.length = 0) : ∃ g c, sv = .slice (some ⟨g, 0, none⟩) blocks.length c := by
  rcases h.own.2 with ⟨_, e⟩ | ⟨g, cap, _, e, _⟩
  · exact absurd e h0
  · exact ⟨g, cap, e⟩
theorem BlocksAt.round {B k G gc : Nat} {sv : Value} {bs : List Nat} {blocks : List (List UInt8)} {W wr : World} (h : BlocksAt w B sv bs blocks) (hk : k < blocks.length) (hb : Below w.heap.size w W) (hq : Quiet W wr) (e : sv = .slice (some ⟨G, 0, none⟩) blocks.length gc) :
    ∃ b, wr.cell? ⟨G, k, none⟩ = some (sliceV b B) ∧ ∀ n, (convert 31 9 (sliceV b B)).run Tryd.prog (wr.drewN n) = .ok (encStr blocks[k]) (wr.drewN n) := by
  obtain ⟨g, cap, b, e1, c, hl, hby, hm⟩ := h.at hk
  rw [e] at e1
  simp only [Value.slice.injEq, Option.some.injEq, Addr.mk.injEq] at e1
  obtain ⟨⟨rfl, _⟩, _⟩ := e1
  have hW : ∀ x, x < w.heap.size → wr.heap[x]? = w.heap[x]? := fun x hx => by rw [Quiet.heap hq]; exact hb.block x hx
  refine ⟨b, (World.cell?_of_block (hW G (World.block_lt_of_cell? w _ c))).trans c, fun n => conv_block ?_ hl⟩
  show wr.heap[b]? = _
  rw [hW b (lt_of_block hby)]
  exact hby

theorem quiet_more {W : World} (h : Quiet W w) (n : Nat) : Quiet W (w.drewN n) := by
  obtain ⟨m, rfl⟩ := h
  exact ⟨m + n, by simp⟩
theorem StateAt.slice0 {n B : Nat} {fv : Value} {l : List SFile} (h : StateAt w n B fv l) (h0 : l.length = 0) : ∃ a c, fv = .slice a 0 c := by
  rcases h.own.2 with ⟨e, _⟩ | ⟨g, cap, _, e, _⟩
  · exact ⟨none, 0, e⟩
  · exact ⟨_, cap, by rw [e, h0]⟩
theorem StateAt.slice1 {n B : Nat} {fv : Value} {l : List SFile} (h : StateAt w n B fv l) (h0 : ¬ l.length = 0) : ∃ g c, fv = .slice (some ⟨g, 0, none⟩) l.length c := by
  rcases h.own.2 with ⟨_, e⟩ | ⟨g, cap, _, e, _⟩
  · exact absurd e h0
  · exact ⟨g, cap, e⟩

theorem below_up {n : Nat} {w2 : World} (h : Below (w.drewN n).heap.size (w.drewN n) w2) : ∀ G i v, w.cell? ⟨G, i, none⟩ = some v → w2.cell? ⟨G, i, none⟩ = some v := fun G i _ hv => (h.cell (p := ⟨G, i, none⟩) (World.block_lt_of_cell? w _ hv)).trans hv
theorem below_quiet {n N : Nat} {w2 : World} (h : Below (w.drewN n).heap.size (w.drewN n) w2) (hN : N ≤ w.heap.size) : Below N w w2 := ⟨h.os, h.tape, h.output, h.size, fun b hb => h.block b (by show b < w.heap.size; omega)⟩
theorem flat3 {l : List SFile} : ∀ (k j : Nat) (e : SFile), l[k]? = some e → j < 3 → (l.flatMap SFile.cells)[3 * k + j]? = e.cells[j]? := by
  induction l with
  | nil => intro k j e h; simp at h
  | cons a r ih =>
    intro k j e h hj
    cases k with
    | zero =>
      simp at h
      subst h
      rw [List.flatMap_cons, List.getElem?_append_left (by simp [SFile.cells]; omega)]
      simp
    | succ k =>
      simp at h
      rw [List.flatMap_cons, List.getElem?_append_right (by simp [SFile.cells]; omega)]
      have := ih k j e h hj
      rw [← this]
      congr 1
      simp [SFile.cells]
      omega

theorem StateAt.cellsAt {n B G gc k : Nat} {fv : Value} {l : List SFile} {e : SFile} (h : StateAt w n B fv l) (he : l[k]? = some e) (hv : fv = .slice (some ⟨G, 0, none⟩) l.length gc) : w.cell? ⟨G, k * 3, none⟩ = some (encStr e.name) ∧ w.cell? ⟨G, k * 3 + 1, none⟩ = some (.bool e.file.shut) ∧ w.cell? ⟨G, k * 3 + 2, none⟩ = some e.sv := by
  have hadd : ∀ i, (⟨G, 0, none⟩ : Addr).add i = ⟨G, i, none⟩ := fun i => by unfold Addr.add; split <;> simp_all
  have hc := h.own.cells (g := G) (by rw [hv]; rfl)
  have c0 := hc (3 * k) (encStr e.name) (by have := flat3 k 0 e he (by omega); simpa [SFile.cells] using this)
  have c1 := hc (3 * k + 1) (.bool e.file.shut) (by have := flat3 k 1 e he (by omega); simpa [SFile.cells] using this)
  have c2 := hc (3 * k + 2) e.sv (by have := flat3 k 2 e he (by omega); simpa [SFile.cells] using this)
  rw [hadd, Nat.mul_comm] at c0 c1 c2
  exact ⟨c0, c1, c2⟩

theorem StateAt.round {n1 n2 B k G1 gc1 G2 gc2 : Nat} {fv1 fv2 : Value} {l1 l2 : List SFile} {wr : World} (h1 : StateAt w n1 B fv1 l1) (h2 : StateAt w n2 B fv2 l2) (hp : l1.map SFile.pub = l2.map SFile.pub) (hk : k < l1.length) (hb : Below w.heap.size w wr) (e1 : fv1 = .slice (some ⟨G1, 0, none⟩) l1.length gc1) (e2 : fv2 = .slice (some ⟨G2, 0, none⟩) l1.length gc2) (hnb : ∀ e ∈ l1, e.file.blocks.length ≤ 1099511627776) :
    ∃ (s : ByteArray) (y : Bool) (sv1 : Value) (bs1 : List Nat) (sv2 : Value) (bs2 : List Nat) (blocks : List (List UInt8)), (wr.cell? ⟨G1, k * 3, none⟩ = some (.string s) ∧ wr.cell? ⟨G1, k * 3 + 1, none⟩ = some (.bool y) ∧ wr.cell? ⟨G1, k * 3 + 2, none⟩ = some sv1) ∧
      (wr.cell? ⟨G2, k * 3, none⟩ = some (.string s) ∧ wr.cell? ⟨G2, k * 3 + 1, none⟩ = some (.bool y) ∧ wr.cell? ⟨G2, k * 3 + 2, none⟩ = some sv2) ∧ BlocksAt wr B sv1 bs1 blocks ∧ BlocksAt wr B sv2 bs2 blocks ∧ blocks.length ≤ 1099511627776 := by
  have hll : l1.length = l2.length := by simpa using congrArg List.length hp
  have he1 : l1[k]? = some l1[k] := List.getElem?_eq_getElem hk
  have he2 : l2[k]? = some (l2[k]'(by omega)) := List.getElem?_eq_getElem (by omega)
  have hpk : l1[k].pub = (l2[k]'(by omega)).pub := by
    have := congrArg (fun l => l[k]?) hp
    simpa [he1, he2] using this
  have c1 := h1.cellsAt he1 e1
  have c2 := h2.cellsAt he2 (by rw [e2, hll])
  have hn : l1[k].name = (l2[k]'(by omega)).name := congrArg Prod.fst hpk
  have hf : l1[k].file = (l2[k]'(by omega)).file := congrArg Prod.snd hpk
  rw [← hn, ← hf] at c2
  have b1 := h1.each _ (List.mem_of_getElem? he1)
  have b2 := h2.each _ (List.mem_of_getElem? he2)
  rw [← hf] at b2
  have up : ∀ G i v, w.cell? ⟨G, i, none⟩ = some v → wr.cell? ⟨G, i, none⟩ = some v := fun G i v h => (hb.cell (p := ⟨G, i, none⟩) (World.block_lt_of_cell? w _ h)).trans h
  have kb : ∀ sv bs bl, BlocksAt w B sv bs bl → BlocksAt wr B sv bs bl := fun sv bs bl h => h.kept fun b hb' => hb.block b (by rcases hb' with h' | h'; exact h.lt.1 b h'; exact h.lt.2 b h')
  exact ⟨_, _, _, _, _, _, _, ⟨up _ _ _ c1.1, up _ _ _ c1.2.1, up _ _ _ c1.2.2⟩, ⟨up _ _ _ c2.1, up _ _ _ c2.2.1, up _ _ _ c2.2.2⟩, kb _ _ _ b1, kb _ _ _ b2, hnb _ (List.mem_of_getElem? he1)⟩

set_option maxRecDepth 100000 in
set_option maxHeartbeats 400000 in
theorem SameFile_true {B : Nat} {s : ByteArray} {x : Bool} {sv1 sv2 : Value} {bs1 bs2 : List Nat} {blocks : List (List UInt8)} (h1 : BlocksAt w B sv1 bs1 blocks) (h2 : BlocksAt w B sv2 bs2 blocks) (hn : blocks.length ≤ 1099511627776) :
    Calls Tryd.prog 35 #[.agg #[.string s, .bool x, sv1], .agg #[.string s, .bool x, sv2]] w fun e w' => e = .returned (.bool true) ∧ Below w.heap.size w w' := by
  by_cases h0 : blocks.length = 0
  · obtain ⟨a1, c1, e1⟩ := h1.slice0 h0
    obtain ⟨a2, c2, e2⟩ := h2.slice0 h0
    rw [e1, e2]
    clear h1 h2 e1 e2 h0
    cases x
    all_goals
      go_enter Tryd.func35, Tryd.ntmps35
      go_wp2
      refine wp_loop_rounds 1 ?_
      rw [rounds_succ]
      go_wp2
      go_ret
      exact ⟨rfl, ((Below.refl _ w).alloc (Nat.le_refl _) _).alloc (by simp) _⟩
  · obtain ⟨G1, gc1, e1⟩ := h1.slice1 h0
    obtain ⟨G2, gc2, e2⟩ := h2.slice1 h0
    have H1 := hid h1
    have H2 := hid h2
    have E1 := hid e1
    have E2 := hid e2
    rw [e1, e2]
    clear h1 h2 e1 e2
    obtain ⟨W, hW⟩ : ∃ W, W = (w.alloc (.cells #[.string s, .bool x, .slice (some ⟨G1, 0, none⟩) blocks.length gc1] 75)).alloc (.cells #[.string s, .bool x, .slice (some ⟨G2, 0, none⟩) blocks.length gc2] 75) := ⟨_, rfl⟩
    have hW1 := heap_two w (.cells #[.string s, .bool x, .slice (some ⟨G1, 0, none⟩) blocks.length gc1] 75) (.cells #[.string s, .bool x, .slice (some ⟨G2, 0, none⟩) blocks.length gc2] 75)
    rw [← hW] at hW1
    have hTW : Below w.heap.size w W := by rw [hW]; exact ((Below.refl _ w).alloc (Nat.le_refl _) _).alloc (by simp) _
    have b1 := cell_row hW1.1 2
    have b2 := cell_row hW1.2 2
    simp at b1 b2
    have HE := hid hW
    have HTW := hid hTW
    clear hW hW1 hTW
    cases x
    all_goals
      go_enter Tryd.func35, Tryd.ntmps35
      go_wp2
      rw [← HE.out]
      go_loopw [5] (fun i wr => ∃ k : Nat, k ≤ blocks.length ∧ i = .int .i64 k ∧ Quiet W wr) (fun i _ => blocks.length - (intOf i).toNat)
      case atStart => exact ⟨0, Nat.zero_le _, rfl, 0, rfl⟩
      case round =>
        obtain ⟨k, hk, rfl, hq⟩ := hrel
        have d1 := (Quiet.cell hq _).trans b1
        have d2 := (Quiet.cell hq _).trans b2
        by_cases hlt : k < blocks.length
        · have f1 := hid (H1.out.round hlt HTW.out hq E1.out)
          have f2 := hid (H2.out.round hlt HTW.out hq E2.out)
          obtain ⟨x1, g1, cv1⟩ := f1.out
          obtain ⟨x2, g2, cv2⟩ := f2.out
          have HQ := hid hq
          clear hq b1 b2 f1 f2
          go_wp2
          go_quiet (fail)
          go_wp2
          go_roundw
          case rel => exact ⟨k + 1, by omega, by go_num, quiet_more HQ.out _⟩
          case measure => simp [intOf]; omega
        · have HQ := hid hq
          clear hq b1 b2
          go_wp2
          go_ret
          exact ⟨rfl, HTW.out.trans ((Quiet.touch HQ.out []).below HTW.out.size (by simp))⟩

set_option maxRecDepth 100000 in
set_option maxHeartbeats 400000 in
theorem SameState_true {n1 n2 B : Nat} {x : Int} {fv1 fv2 : Value} {l1 l2 : List SFile} (h1 : StateAt w n1 B fv1 l1) (h2 : StateAt w n2 B fv2 l2) (hp : l1.map SFile.pub = l2.map SFile.pub) (hn : l1.length ≤ 1099511627776) (hnb : ∀ e ∈ l1, e.file.blocks.length ≤ 1099511627776) :
    Calls Tryd.prog 11 #[.agg #[.int .i64 x, fv1], .agg #[.int .i64 x, fv2]] w fun e w' => e = .returned (.bool true) ∧ Below w.heap.size w w' := by
  have hll : l1.length = l2.length := by simpa using congrArg List.length hp
  by_cases h0 : l1.length = 0
  · obtain ⟨a1, c1, e1⟩ := h1.slice0 h0
    obtain ⟨a2, c2, e2⟩ := h2.slice0 (by omega)
    rw [e1, e2]
    clear h1 h2 e1 e2 h0 hll hp
    go_enter Tryd.func11, Tryd.ntmps11
    go_wp2
    refine wp_loop_rounds 1 ?_
    rw [rounds_succ]
    go_wp2
    go_ret
    exact ⟨rfl, ((Below.refl _ w).alloc (Nat.le_refl _) _).alloc (by simp) _⟩
  · obtain ⟨G1, gc1, e1⟩ := h1.slice1 h0
    obtain ⟨G2, gc2, e2⟩ := h2.slice1 (by omega)
    rw [← hll] at e2
    have H1 := hid h1
    have H2 := hid h2
    have E1 := hid e1
    have E2 := hid e2
    have HP := hid hp
    have HNB := hid hnb
    rw [e1, e2]
    clear h1 h2 e1 e2 hll hp hnb
    obtain ⟨W, hW⟩ : ∃ W, W = (w.alloc (.cells #[.int .i64 x, .slice (some ⟨G1, 0, none⟩) l1.length gc1] 43)).alloc (.cells #[.int .i64 x, .slice (some ⟨G2, 0, none⟩) l1.length gc2] 43) := ⟨_, rfl⟩
    have hW1 := heap_two w (.cells #[.int .i64 x, .slice (some ⟨G1, 0, none⟩) l1.length gc1] 43) (.cells #[.int .i64 x, .slice (some ⟨G2, 0, none⟩) l1.length gc2] 43)
    rw [← hW] at hW1
    have hTW : Below w.heap.size w W := by rw [hW]; exact ((Below.refl _ w).alloc (Nat.le_refl _) _).alloc (by simp) _
    have HW := hid hW1
    have HE := hid hW
    have HTW := hid hTW
    clear hW hW1 hTW
    go_enter Tryd.func11, Tryd.ntmps11
    go_wp2
    rw [← HE.out]
    go_loopw [5] (fun i wr => ∃ k : Nat, k ≤ l1.length ∧ i = .int .i64 k ∧ Below W.heap.size W wr) (fun i _ => l1.length - (intOf i).toNat)
    case atStart => exact ⟨0, Nat.zero_le _, rfl, Below.refl _ _⟩
    case round =>
      obtain ⟨k, hk, rfl, hq⟩ := hrel
      have r1 : wr.heap[w.heap.size]? = some (.cells #[.int .i64 x, .slice (some ⟨G1, 0, none⟩) l1.length gc1] 43) := (hq.block _ (lt_of_block HW.out.1)).trans HW.out.1
      have r2 : wr.heap[w.heap.size + 1]? = some (.cells #[.int .i64 x, .slice (some ⟨G2, 0, none⟩) l1.length gc2] 43) := (hq.block _ (lt_of_block HW.out.2)).trans HW.out.2
      have d1 := cell_row r1 1
      have d2 := cell_row r2 1
      simp at d1 d2
      have hbw : Below w.heap.size w wr := HTW.out.trans (hq.mono HTW.out.size)
      by_cases hlt : k < l1.length
      · obtain ⟨s, y, sv1, bs1, sv2, bs2, blocks, ⟨c10, c11, c12⟩, ⟨c20, c21, c22⟩, hb1, hb2, hnk⟩ := StateAt.round H1.out H2.out HP.out hlt hbw E1.out E2.out HNB.out
        have HC := hid (fun n : Nat => SameFile_true (w := wr.drewN n) (s := s) (x := y) (hb1.kept fun _ _ => rfl) (hb2.kept fun _ _ => rfl) hnk)
        obtain ⟨ga1, gn1, gk1, hs1⟩ := hb1.own_slice
        obtain ⟨ga2, gn2, gk2, hs2⟩ := hb2.own_slice
        have HQ := hid hq
        have l1' := lt_of_block r1
        have l2' := lt_of_block r2
        rw [hs1] at HC c12
        rw [hs2] at HC c22
        clear hq r1 r2 hb1 hb2 hbw hs1 hs2
        go_wp2
        go_region_held3 (fun V => (V.cell? ⟨w.heap.size, 1, none⟩ = some (.slice (some ⟨G1, 0, none⟩) l1.length gc1) ∧ V.cell? ⟨w.heap.size + 1, 1, none⟩ = some (.slice (some ⟨G2, 0, none⟩) l1.length gc2)) ∧ (V.cell? ⟨G1, k * 3, none⟩ = some (.string s) ∧ V.cell? ⟨G1, k * 3 + 1, none⟩ = some (.bool y) ∧ V.cell? ⟨G1, k * 3 + 2, none⟩ = some (.slice ga1 gn1 gk1)) ∧ V.cell? ⟨G2, k * 3, none⟩ = some (.string s) ∧ V.cell? ⟨G2, k * 3 + 1, none⟩ = some (.bool y) ∧ V.cell? ⟨G2, k * 3 + 2, none⟩ = some (.slice ga2 gn2 gk2)) (go_keep)
          (first | (go_at_call 35; refine (HC.out 1).mono ?_; rintro e w2 ⟨rfl, ht2⟩; have up := below_up ht2; have z1 := up _ _ _ d1; have z2 := up _ _ _ d2; have z3 := up _ _ _ c10; have z4 := up _ _ _ c11; have z5 := up _ _ _ c12; have z6 := up _ _ _ c20; have z7 := up _ _ _ c21; have z8 := up _ _ _ c22; have HT2 := hid ht2; clear up ht2))
        go_wp2
        go_roundw
        case rel => exact ⟨k + 1, by omega, by go_num, HQ.out.trans (below_quiet HT2.out HQ.out.size)⟩
        case measure => simp [intOf]; omega
      · have HQ := hid hbw
        clear hq r1 r2 hbw
        go_wp2
        go_ret
        exact ⟨rfl, HQ.out⟩
end
end Go.Proofs.YtcpncfngadablaaDoor
