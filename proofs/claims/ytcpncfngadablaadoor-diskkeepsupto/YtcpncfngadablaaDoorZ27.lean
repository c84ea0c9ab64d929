import Derived.Test.YtcpncfngadablaaDoorZ26
namespace Go.Proofs.YtcpncfngadablaaDoor
open Go.RowKit Go.Deep

section
variable {w w' : World} {E : Nat → Addr} {lo p mf mt : Nat} {D : DiskC}

theorem StateAt.one {n1 B k G1 gc1 : Nat} {fv1 : Value} {l1 : List SFile} {wr : World} (h1 : StateAt w n1 B fv1 l1) (hk : k < l1.length) (hb : Below w.heap.size w wr) (e1 : fv1 = .slice (some ⟨G1, 0, none⟩) l1.length gc1) :
    (wr.cell? ⟨G1, k * 3, none⟩ = some (encStr l1[k].name) ∧ wr.cell? ⟨G1, k * 3 + 1, none⟩ = some (.bool l1[k].file.shut) ∧ wr.cell? ⟨G1, k * 3 + 2, none⟩ = some l1[k].sv) ∧ ∃ bs, BlocksAt wr B l1[k].sv bs l1[k].file.blocks := by
  have he1 : l1[k]? = some l1[k] := List.getElem?_eq_getElem hk
  have c1 := h1.cellsAt he1 e1
  have b1 := h1.each _ (List.mem_of_getElem? he1)
  have up : ∀ G i v, w.cell? ⟨G, i, none⟩ = some v → wr.cell? ⟨G, i, none⟩ = some v := fun G i v h => (hb.cell (p := ⟨G, i, none⟩) (World.block_lt_of_cell? w _ h)).trans h
  have kb : ∀ sv bs bl, BlocksAt w B sv bs bl → BlocksAt wr B sv bs bl := fun sv bs bl h => h.kept fun b hb' => hb.block b (by rcases hb' with h' | h'; exact h.lt.1 b h'; exact h.lt.2 b h')
  exact ⟨⟨up _ _ _ c1.1, up _ _ _ c1.2.1, up _ _ _ c1.2.2⟩, _, kb _ _ _ b1⟩

set_option maxRecDepth 100000 in
set_option maxHeartbeats 400000 in
theorem SameState_some {n1 n2 B : Nat} {x : Int} {fv1 fv2 : Value} {l1 l2 : List SFile} (h1 : StateAt w n1 B fv1 l1) (h2 : StateAt w n2 B fv2 l2) (hn : l1.length ≤ 1099511627776) (hnb : ∀ e ∈ l1, e.file.blocks.length ≤ 1099511627776) :
    Calls Tryd.prog 11 #[.agg #[.int .i64 x, fv1], .agg #[.int .i64 x, fv2]] w fun e w' => (∃ b, e = .returned (.bool b)) ∧ Below w.heap.size w w' := by
  by_cases hll : l1.length = l2.length
  · by_cases h0 : l1.length = 0
    · obtain ⟨a1, c1, e1⟩ := h1.slice0 h0
      obtain ⟨a2, c2, e2⟩ := h2.slice0 (by omega)
      rw [e1, e2]
      clear h1 h2 e1 e2 h0 hll
      go_enter Tryd.func11, Tryd.ntmps11
      go_wp2
      refine wp_loop_rounds 1 ?_
      rw [rounds_succ]
      go_wp2
      go_ret
      exact ⟨⟨_, rfl⟩, ((Below.refl _ w).alloc (Nat.le_refl _) _).alloc (by simp) _⟩
    · obtain ⟨G1, gc1, e1⟩ := h1.slice1 h0
      obtain ⟨G2, gc2, e2⟩ := h2.slice1 (by omega)
      rw [← hll] at e2
      have H1 := hid h1
      have H2 := hid h2
      have E1 := hid e1
      have E2 := hid e2
      have HL := hid hll
      have HNB := hid hnb
      rw [e1, e2]
      clear h1 h2 e1 e2 hll hnb
      obtain ⟨W, hW⟩ : ∃ W, W = (w.alloc (.cells #[.int .i64 x, .slice (some ⟨G1, 0, none⟩) l1.length gc1] 43)).alloc (.cells #[.int .i64 x, .slice (some ⟨G2, 0, none⟩) l1.length gc2] 43) := ⟨_, rfl⟩
      have hW1 := heap_two w (.cells #[.int .i64 x, .slice (some ⟨G1, 0, none⟩) l1.length gc1] 43) (.cells #[.int .i64 x, .slice (some ⟨G2, 0, none⟩) l1.length gc2] 43)
      rw [← hW] at hW1
      have hTW : Below w.heap.size w W := by rw [hW]; exact ((Below.refl _ w).alloc (Nat.le_refl _) _).alloc (by simp) _
      have HW := hid hW1
      have HE := hid hW
      have HTW := hid hTW
      clear hW hW1 hTW
      go_enter Tryd.func11, Tryd.ntmps11
      go_wp2
      rw [← HE.out]
      go_loopw [5] (fun i wr => ∃ k : Nat, k ≤ l1.length ∧ i = .int .i64 k ∧ Below W.heap.size W wr) (fun i _ => l1.length - (intOf i).toNat)
      case atStart => exact ⟨0, Nat.zero_le _, rfl, Below.refl _ _⟩
      case round =>
        obtain ⟨k, hk, rfl, hq⟩ := hrel
        have r1 : wr.heap[w.heap.size]? = some (.cells #[.int .i64 x, .slice (some ⟨G1, 0, none⟩) l1.length gc1] 43) := (hq.block _ (lt_of_block HW.out.1)).trans HW.out.1
        have r2 : wr.heap[w.heap.size + 1]? = some (.cells #[.int .i64 x, .slice (some ⟨G2, 0, none⟩) l1.length gc2] 43) := (hq.block _ (lt_of_block HW.out.2)).trans HW.out.2
        have d1 := cell_row r1 1
        have d2 := cell_row r2 1
        simp at d1 d2
        have hbw : Below w.heap.size w wr := HTW.out.trans (hq.mono HTW.out.size)
        by_cases hlt : k < l1.length
        · obtain ⟨⟨c10, c11, c12⟩, bs1, hb1⟩ := H1.out.one hlt hbw E1.out
          obtain ⟨⟨c20, c21, c22⟩, bs2, hb2⟩ := H2.out.one (k := k) (by have := HL.out; omega) hbw (by rw [E2.out, HL.out])
          have hnk := HNB.out _ (List.getElem_mem hlt)
          obtain ⟨s1, hs1⟩ : ∃ s, Value.string s = encStr l1[k].name := ⟨_, rfl⟩
          obtain ⟨s2, hs2⟩ : ∃ s, Value.string s = encStr (l2[k]'(by have := HL.out; omega)).name := ⟨_, rfl⟩
          obtain ⟨y1, hy1⟩ : ∃ y, y = l1[k].file.shut := ⟨_, rfl⟩
          obtain ⟨y2, hy2⟩ : ∃ y, y = (l2[k]'(by have := HL.out; omega)).file.shut := ⟨_, rfl⟩
          have HC := hid (fun n : Nat => SameFile_some (w := wr.drewN n) (s1 := s1) (s2 := s2) (x1 := y1) (x2 := y2) (hb1.kept fun _ _ => rfl) (hb2.kept fun _ _ => rfl) hnk)
          obtain ⟨ga1, gn1, gk1, hv1⟩ := hb1.own_slice
          obtain ⟨ga2, gn2, gk2, hv2⟩ := hb2.own_slice
          have HQ := hid hq
          have l1' := lt_of_block r1
          have l2' := lt_of_block r2
          rw [hv1] at HC c12
          rw [hv2] at HC c22
          rw [← hs1] at c10
          rw [← hs2] at c20
          rw [← hy1] at c11
          rw [← hy2] at c21
          clear hq r1 r2 hb1 hb2 hbw hv1 hv2 hs1 hs2 hy1 hy2 hnk
          go_wp2
          go_region_held3 (fun V => (V.cell? ⟨w.heap.size, 1, none⟩ = some (.slice (some ⟨G1, 0, none⟩) l1.length gc1) ∧ V.cell? ⟨w.heap.size + 1, 1, none⟩ = some (.slice (some ⟨G2, 0, none⟩) l1.length gc2)) ∧ (V.cell? ⟨G1, k * 3, none⟩ = some (.string s1) ∧ V.cell? ⟨G1, k * 3 + 1, none⟩ = some (.bool y1) ∧ V.cell? ⟨G1, k * 3 + 2, none⟩ = some (.slice ga1 gn1 gk1)) ∧ V.cell? ⟨G2, k * 3, none⟩ = some (.string s2) ∧ V.cell? ⟨G2, k * 3 + 1, none⟩ = some (.bool y2) ∧ V.cell? ⟨G2, k * 3 + 2, none⟩ = some (.slice ga2 gn2 gk2)) (go_keep)
            (first | (go_at_call 35; refine (HC.out 1).mono ?_; rintro e w2 ⟨⟨bq, rfl⟩, ht2⟩; have up := below_up ht2; have z1 := up _ _ _ d1; have z2 := up _ _ _ d2; have z3 := up _ _ _ c10; have z4 := up _ _ _ c11; have z5 := up _ _ _ c12; have z6 := up _ _ _ c20; have z7 := up _ _ _ c21; have z8 := up _ _ _ c22; have HT2 := hid ht2; clear up ht2))
          cases bq
          · go_wp2
            go_ret
            exact ⟨⟨_, rfl⟩, HTW.out.trans ((HQ.out.trans (below_quiet HT2.out HQ.out.size)).mono HTW.out.size)⟩
          · go_wp2
            go_roundw
            case rel => exact ⟨k + 1, by omega, by go_num, HQ.out.trans (below_quiet HT2.out HQ.out.size)⟩
            case measure => simp [intOf]; omega
        · have HQ := hid hbw
          clear hq r1 r2 hbw
          go_wp2
          go_ret
          exact ⟨⟨_, rfl⟩, HQ.out⟩
  · obtain ⟨a1, c1, e1⟩ := h1.sliceL
    obtain ⟨a2, c2, e2⟩ := h2.sliceL
    rw [e1, e2]
    have hl2 : ¬ (l1.length : Int) = l2.length := by omega
    clear h1 h2 e1 e2
    go_enter Tryd.func11, Tryd.ntmps11
    go_wp2
    go_ret
    exact ⟨⟨_, rfl⟩, ((Below.refl _ w).alloc (Nat.le_refl _) _).alloc (by simp) _⟩
end
end Go.Proofs.YtcpncfngadablaaDoor
namespace Go.Proofs.YtcpncfngadablaaDoor
open Go.RowKit Go.Deep

section
variable {w w' : World} {E : Nat → Addr} {lo p mf mt : Nat} {D : DiskC}

/-- is it a call that may change what is held? -/
def changesB (k : Int) : Bool := k == 1 || k == 2 || k == 3 || k == 5

set_option maxHeartbeats 400000 in
theorem changes_any (k : Int) (s : ByteArray) (N bit : Int) (sa : Option Addr) (n c : Nat) :
    Calls Tryd.prog 14 #[opV k s N bit sa n c] w fun e w' => e = .returned (.bool (changesB k)) ∧ Below w.heap.size w w' := by
  unfold opV
  by_cases h1 : k = 1
  · subst h1
    go_enter Tryd.func14, Tryd.ntmps14
    go_wp2
    go_ret
    exact ⟨rfl, (Below.refl _ w).alloc (Nat.le_refl _) _⟩
  by_cases h2 : k = 2
  · subst h2
    go_enter Tryd.func14, Tryd.ntmps14
    go_wp2
    go_ret
    exact ⟨rfl, (Below.refl _ w).alloc (Nat.le_refl _) _⟩
  by_cases h3 : k = 3
  · subst h3
    go_enter Tryd.func14, Tryd.ntmps14
    go_wp2
    go_ret
    exact ⟨rfl, (Below.refl _ w).alloc (Nat.le_refl _) _⟩
  by_cases h5 : k = 5
  · subst h5
    go_enter Tryd.func14, Tryd.ntmps14
    go_wp2
    go_ret
    exact ⟨rfl, (Below.refl _ w).alloc (Nat.le_refl _) _⟩
  go_enter Tryd.func14, Tryd.ntmps14
  go_wp2
  go_ret
  exact ⟨by simp [changesB], (Below.refl _ w).alloc (Nat.le_refl _) _⟩

theorem nm_eq (l : List UInt8) (s : ByteArray) : ((⟨l.toArray⟩ : ByteArray).toList == s.toList) = decide (l = nm s) := by
  rw [ByteArray.toList_eq, ByteArray.toList_eq]
  rw [Bool.eq_iff_iff]
  simp [nm]

set_option maxRecDepth 100000 in
set_option maxHeartbeats 400000 in
theorem Find_at {n1 B k : Nat} {x : Int} {fv : Value} {l : List SFile} (s : ByteArray) (h : StateAt w n1 B fv l) (hk : k < l.length) (he : l[k].name = nm s) (hno : ∀ j (hj : j < k), l[j].name ≠ nm s) (hn : l.length ≤ 1099511627776) :
    Calls Tryd.prog 36 #[.agg #[.int .i64 x, fv], .string s] w fun e w' => e = .returned (.tuple #[.agg #[.string s, .bool l[k].file.shut, l[k].sv], .bool true]) ∧ Below w.heap.size w w' := by
  obtain ⟨G, gc, e⟩ := h.slice1 (by omega)
  have H := hid h
  have HEE := hid e
  have HN := hid hno
  have HK := hid he
  rw [e]
  clear h e hno he
  obtain ⟨W, hW⟩ : ∃ W, W = (w.alloc (.cells #[.int .i64 x, .slice (some ⟨G, 0, none⟩) l.length gc] 43)).alloc (.cells #[.string ⟨#[]⟩, .bool false, .slice none 0 0] 75) := ⟨_, rfl⟩
  have hW1 := heap_two w (.cells #[.int .i64 x, .slice (some ⟨G, 0, none⟩) l.length gc] 43) (.cells #[.string ⟨#[]⟩, .bool false, .slice none 0 0] 75)
  rw [← hW] at hW1
  have hTW : Below w.heap.size w W := by rw [hW]; exact ((Below.refl _ w).alloc (Nat.le_refl _) _).alloc (by simp) _
  have d1 := cell_row hW1.1 1
  simp at d1
  have d2 := fun i => cell_row hW1.2 i
  have d3 := fun i => unfrozen_row hW1.2 i
  have lw := lt_of_block hW1.2
  have HW := hid hW1
  have HE := hid hW
  have HTW := hid hTW
  clear hW hW1 hTW
  go_enter Tryd.func36, Tryd.ntmps36
  go_wp2
  rw [← HE.out]
  go_loopw [6] (fun i wr => ∃ j : Nat, j ≤ k ∧ i = .int .i64 j ∧ wr = W) (fun i _ => l.length - (intOf i).toNat)
  case atStart => exact ⟨0, Nat.zero_le _, rfl, rfl⟩
  case round =>
    obtain ⟨j, hj, rfl, rfl⟩ := hrel
    obtain ⟨⟨c0, c1, c2⟩, bs, hb⟩ := H.out.one (k := j) (by omega) HTW.out HEE.out
    obtain ⟨ga, gn, gk, hv⟩ := hb.own_slice
    obtain ⟨t, ht⟩ : ∃ t : ByteArray, t = ⟨(l[j]'(by omega)).name.toArray⟩ := ⟨_, rfl⟩
    have hq := nm_eq (l[j]'(by omega)).name s
    unfold encStr at c0
    rw [← ht] at c0 hq
    rw [hv] at c2
    by_cases hjk : j = k
    · subst hjk
      have e1 := HK.out
      have e2 : t = s := by rw [ht, e1]
      subst e2
      have HV := hid hv
      clear hb hq hv e1 ht
      go_wp2
      refine bodyPost_ret (v := .tuple #[.agg #[.string t, .bool l[j].file.shut, .slice ga gn gk], .bool true]) (by simp [results, Tryd.results36, go_sem, d2]) rfl ?_
      rw [← HV.out]
      exact ⟨rfl, HTW.out.trans (((((Touch.refl [w.heap.size + 1] wr).setCell (by simp) _).setCell (by simp) _).setCell (by simp) _).below HTW.out.size (by simp))⟩
    · have hne : (l[j]'(by omega)).name ≠ nm s := HN.out j (by omega)
      rw [decide_eq_false hne] at hq
      have hlt : j < l.length := by omega
      clear hb hv hne ht
      go_wp2
      go_roundw
      case rel => exact ⟨j + 1, by omega, by go_num, trivial⟩
      case measure => simp [intOf]; omega
end
end Go.Proofs.YtcpncfngadablaaDoor
namespace Go.Proofs.YtcpncfngadablaaDoor
open Go.RowKit Go.Deep

section
variable {w w' W wr : World} {E : Nat → Addr} {lo p mf mt sb : Nat} {D : DiskC} {x : Int} {fv : Value} {l : List SFile}

/-- A state that is being made: its box, and its files so far. -/
structure WInv (W wr : World) (sb : Nat) (x : Int) (fv : Value) (l : List SFile) : Prop where
  touch : Touch [sb] W wr
  box : wr.heap[sb]? = some (.cells #[.int .i64 x, fv] 43 (0, 0))
  own : wr.ownsRow W.heap.size 75 3 fv l.length (l.flatMap SFile.cells)

theorem owns_alloc {n : Nat} {cs : List Value} {k : Nat} (h : wr.ownsRow n 75 3 fv k cs) (o : Obj) : (wr.drew.alloc o).ownsRow n 75 3 fv k cs := by
  refine ⟨h.1, ?_⟩
  rcases h.2 with hn | ⟨g, cap, cur, hv, hb', hg, rest⟩
  · exact .inl hn
  · have hlt := lt_of_block hg
    exact .inr ⟨g, cap, cur, hv, hb', (Below.heap_alloc _ _ g (by show g < wr.heap.size; omega)).trans hg, rest⟩

theorem owns_mono {n m : Nat} {cs : List Value} {k : Nat} (h : wr.ownsRow n 75 3 fv k cs) (hm : m ≤ n) : wr.ownsRow m 75 3 fv k cs :=
  ⟨h.1, h.2.imp id fun ⟨g, cap, cur, h1, h2, h3⟩ => ⟨g, cap, cur, h1, Nat.le_trans hm h2, h3⟩⟩

theorem owns_low {n : Nat} {cs : List Value} {k b : Nat} (h : wr.ownsRow n 75 3 fv k cs) (hb : b < n) (i : Nat) (v : Value) : (wr.setCell ⟨b, i, none⟩ v).ownsRow n 75 3 fv k cs := by
  refine ⟨h.1, ?_⟩
  rcases h.2 with hn | ⟨g, cap, cur, hv, hb', hg, rest⟩
  · exact .inl hn
  · exact .inr ⟨g, cap, cur, hv, hb', (Below.heap_setCell _ _ _ _ (by show g ≠ b; omega)).trans hg, rest⟩

theorem WInv.facts (h : WInv W wr sb x fv l) (hsb : sb < W.heap.size) (o : Obj) :
    (wr.drew.alloc o).ownsRow W.heap.size 75 3 fv l.length (l.flatMap SFile.cells) ∧ W.heap.size ≤ (wr.drew.alloc o).heap.size ∧ ∀ w3, (wr.drew.alloc o).grownBy w3 fv.ownBlock → w3.heap[sb]? = some (.cells #[.int .i64 x, fv] 43 (0, 0)) := by
  have hs := h.touch.size
  have hd : wr.drew.heap.size = wr.heap.size := rfl
  refine ⟨owns_alloc h.own o, by simp; omega, fun w3 hg => ?_⟩
  have hne : some sb ≠ fv.ownBlock := fun e => by
    have := (h.own.lt sb e.symm).1
    omega
  rw [hg.block sb (by simp; omega) hne, Below.heap_alloc _ _ _ (by omega)]
  exact h.box

theorem WInv.next (h : WInv W wr sb x fv l) (hsb : sb < W.heap.size) {w3 : World} {g cap : Nat} {o : Obj} (e : SFile) (h1 : w3.ownsRow W.heap.size 75 3 (.slice (some ⟨g, 0, none⟩) (l.length + 1) cap) (l.length + 1) (l.flatMap SFile.cells ++ e.cells)) (h2 : (wr.drew.alloc o).grownBy w3 fv.ownBlock) (h3 : w3.heap[sb]? = some (.cells #[.int .i64 x, fv] 43 (0, 0))) :
    WInv W (w3.setCell ⟨sb, 1, none⟩ (.slice (some ⟨g, 0, none⟩) (l.length + 1) cap)) sb x (.slice (some ⟨g, 0, none⟩) (l.length + 1) cap) (l ++ [e]) := by
  have hs := h.touch.size
  have hd : wr.drew.heap.size = wr.heap.size := rfl
  have hsz : (wr.drew.alloc o).heap.size = wr.heap.size + 1 := by simp [hd]
  have hrow : ∀ b, fv.ownBlock = some b → W.heap.size ≤ b := fun b hb => (h.own.lt b hb).1
  refine ⟨?_, ?_, ?_⟩
  · have t : Touch [sb] W w3 := ⟨h2.os.trans h.touch.os, h2.tape.trans h.touch.tape, h2.output.trans h.touch.output, by have := h2.size; omega, fun b hb hbn => by
      rw [h2.block b (by omega) (fun e => by have := hrow b e.symm; omega), Below.heap_alloc _ _ _ (by omega)]
      exact h.touch.block b hb hbn⟩
    exact t.setCell (by simp) _
  · rw [heap_setCell_row h3 1]
    rfl
  · have hk : (w3.setCell ⟨sb, 1, none⟩ (.slice (some ⟨g, 0, none⟩) (l.length + 1) cap)).ownsRow W.heap.size 75 3 (.slice (some ⟨g, 0, none⟩) (l.length + 1) cap) (l.length + 1) (l.flatMap SFile.cells ++ e.cells) := by
      refine ⟨h1.1, ?_⟩
      rcases h1.2 with hn | ⟨g', cap', cur, hv, hb', hg, rest⟩
      · exact .inl hn
      · exact .inr ⟨g', cap', cur, hv, hb', (Below.heap_setCell _ _ _ _ (by show g' ≠ sb; omega)).trans hg, rest⟩
    simpa [List.flatMap_append] using hk

/-- the files but that of a name. -/
def lessS (s : ByteArray) (l : List SFile) : List SFile := l.filter fun e => !decide (e.name = nm s)

theorem lessS_out {s : ByteArray} {k : Nat} (hk : k < l.length) (he : l[k].name = nm s) : lessS s (l.take (k + 1)) = lessS s (l.take k) := by
  unfold lessS
  rw [List.take_succ_eq_append_getElem hk, List.filter_append]
  simp [he]
theorem lessS_in {s : ByteArray} {k : Nat} (hk : k < l.length) (he : ¬ l[k].name = nm s) : lessS s (l.take (k + 1)) = lessS s (l.take k) ++ [l[k]] := by
  unfold lessS
  rw [List.take_succ_eq_append_getElem hk, List.filter_append]
  simp [he]
theorem lessS_len (s : ByteArray) (l : List SFile) (k : Nat) : (lessS s (l.take k)).length ≤ l.length := by
  unfold lessS
  have h1 := List.length_filter_le (fun e : SFile => !decide (e.name = nm s)) (l.take k)
  have h2 := List.length_take_le' k l
  omega

set_option maxRecDepth 100000 in
set_option maxHeartbeats 1000000 in
theorem Without_any {n1 B : Nat} (s : ByteArray) (h : StateAt w n1 B fv l) (hn : l.length ≤ 1099511627776) :
    Calls Tryd.prog 38 #[.agg #[.int .i64 x, fv], .string s] w fun e w' => ∃ fv2, e = .returned (.agg #[.int .i64 x, fv2]) ∧ w'.ownsRow w.heap.size 75 3 fv2 (lessS s l).length ((lessS s l).flatMap SFile.cells) ∧ Below w.heap.size w w' := by
  obtain ⟨a0, c0, e0⟩ := h.sliceL
  obtain ⟨W, hW⟩ : ∃ W, W = ((w.alloc (.cells #[.int .i64 x, fv] 43)).alloc (.cells #[.int .i64 0, .slice none 0 0] 43)).alloc (.cells #[.int .i64 x, .slice none 0 0] 43) := ⟨_, rfl⟩
  have b0 : W.heap[w.heap.size]? = some (.cells #[.int .i64 x, fv] 43) := by rw [hW, Below.heap_alloc _ _ _ (by simp; omega)]; exact (heap_two w _ _).1
  have b1 : W.heap[w.heap.size + 1]? = some (.cells #[.int .i64 0, .slice none 0 0] 43) := by rw [hW, Below.heap_alloc _ _ _ (by simp)]; exact (heap_two w _ _).2
  have b2 : W.heap[w.heap.size + 2]? = some (.cells #[.int .i64 x, .slice none 0 0] 43) := by
    have := heap_alloc_new ((w.alloc (.cells #[.int .i64 x, fv] 43)).alloc (.cells #[.int .i64 0, .slice none 0 0] 43)) (.cells #[.int .i64 x, .slice none 0 0] 43)
    rw [← hW] at this
    simpa using this
  have hTW : Below w.heap.size w W := by rw [hW]; exact (((Below.refl _ w).alloc (Nat.le_refl _) _).alloc (by simp) _).alloc (by simp; omega) _
  have H := hid h
  have HEE := hid e0
  have HB0 := hid b0
  have HB1 := hid b1
  have HB2 := hid b2
  have HE := hid hW
  have HTW := hid hTW
  rw [e0] at HE ⊢
  clear h hW b0 b1 b2 hTW e0
  go_enter Tryd.func38, Tryd.ntmps38
  go_wp2
  rw [← HE.out]
  go_loopw [6] (fun i wr => ∃ (k : Nat) (fv2 : Value), k ≤ l.length ∧ i = .int .i64 k ∧ WInv W wr (w.heap.size + 2) x fv2 (lessS s (l.take k))) (fun i _ => l.length - (intOf i).toNat)
  case atStart => exact ⟨0, .slice none 0 0, Nat.zero_le _, rfl, Touch.refl _ _, HB2.out, World.ownsRow_nil _ _ _ _⟩
  case round =>
    obtain ⟨k, fv2, hk, rfl, hinv⟩ := hrel
    have lw := lt_of_block HB2.out
    have hbw : Below w.heap.size w wr := HTW.out.trans (hinv.touch.below HTW.out.size (by simp))
    have z0 : wr.cell? ⟨w.heap.size, 1, none⟩ = some fv := by
      have := cell_row ((hinv.touch.block _ (lt_of_block HB0.out) (by simp)).trans HB0.out) 1
      simpa using this
    rw [HEE.out] at z0
    have lr := hinv.touch.size
    by_cases hlt : k < l.length
    · obtain ⟨G, gc, eG⟩ := H.out.slice1 (by omega)
      obtain ⟨⟨c1, c2, c3⟩, bs, hb⟩ := H.out.one hlt hbw eG
      rw [HEE.out] at eG
      simp only [Value.slice.injEq, true_and] at eG
      obtain ⟨rfl, rfl⟩ := eG
      obtain ⟨ga, gn, gk, hv⟩ := hb.own_slice
      obtain ⟨t, ht⟩ : ∃ t : ByteArray, t = ⟨l[k].name.toArray⟩ := ⟨_, rfl⟩
      have hq := nm_eq l[k].name s
      have htv : Value.string t = encStr l[k].name := by rw [ht]
      unfold encStr at c1
      rw [← ht] at c1 hq
      have HV := hid hv
      rw [hv] at c3
      by_cases hne : l[k].name = nm s
      · rw [decide_eq_true hne] at hq
        have hnext := hid (lessS_out hlt hne)
        have HI := hid hinv
        clear hinv hb hv ht htv hne hbw
        go_wp2
        go_roundw
        case rel => exact ⟨k + 1, fv2, by omega, by go_num, by rw [hnext.out]; exact HI.out⟩
        case measure => simp [intOf]; omega
      · rw [decide_eq_false hne] at hq
        have hnext := hid (lessS_in hlt hne)
        have hll := lessS_len s l k
        have HFA := hid (fun o => hinv.facts lw o)
        have y1 := cell_row hinv.box 1
        simp at y1
        have yl := lt_of_block hinv.box
        obtain ⟨fa, fn, fc, hfv⟩ : ∃ a n c, fv2 = .slice a n c := by
          rcases hinv.own.2 with ⟨h, _⟩ | ⟨g, cap, _, h, _⟩
          · exact ⟨none, 0, 0, h⟩
          · exact ⟨_, _, cap, h⟩
        rw [hfv] at y1
        have HFV := hid hfv
        have HI := hid hinv
        have HTV := hid htv
        clear hinv hb hv ht htv hne hbw hfv
        go_wp2
        go_region_law (first
          | (refine step_append_file rfl _ _ rfl W.heap.size fv2 (lessS s (l.take k)).length ((lessS s (l.take k)).flatMap SFile.cells) wr.heap.size (.string t) (.bool l[k].file.shut) (.slice ga gn gk) (by rw [HFV.out]; rfl) rfl (HFA.out _).1 (heap_alloc_new wr.drew _) rfl rfl rfl (by omega) (HFA.out _).2.1 (fun g cap w3 r1 r2 => ?_); have q3 := (HFA.out _).2.2 w3 r2; have z3 := cell_row q3 1; have f3 := unfrozen_row q3 1; simp at z3; rw [HFV.out] at z3; have H1 := hid r1; have H2 := hid r2; have HQ3 := hid q3; clear r1 r2 q3)
          )
        all_goals
          have HN := hid (WInv.next HI.out lw l[k] (by have := H1.out; rw [HTV.out, ← HV.out] at this; exact this) H2.out HQ3.out)
          rw [← hnext.out] at HN
          go_wp2
          go_roundw
          case rel => first | exact ⟨k + 1, _, by omega, by go_num, HN.out⟩ | ((repeat apply Exists.intro); exact ⟨⟨k + 1, _, by omega, by go_num, HN.out⟩, rfl⟩)
          case measure => simp [intOf]; omega
    · have hkk : k = l.length := by omega
      have y0 := cell_row hinv.box 0
      have y1 := cell_row hinv.box 1
      have q1 := (hinv.touch.block _ (lt_of_block HB1.out) (by simp)).trans HB1.out
      have r0 := fun i => cell_row q1 i
      have r1 := fun i => unfrozen_row q1 i
      simp at y0 y1
      obtain ⟨fa, fn, fc, hfv⟩ : ∃ a n c, fv2 = .slice a n c := by
        rcases hinv.own.2 with ⟨h, _⟩ | ⟨g, cap, _, h, _⟩
        · exact ⟨none, 0, 0, h⟩
        · exact ⟨_, _, cap, h⟩
      rw [hfv] at y1
      have lq := lt_of_block q1
      have HFV := hid hfv
      have HI := hid hinv
      have HBW := hid hbw
      have HK := hid hkk
      clear hinv hfv hbw q1 hkk
      go_wp2
      refine bodyPost_ret (v := .agg #[.int .i64 x, .slice fa fn fc]) (by simp [results, Tryd.results38, go_sem, r0]) rfl ?_
      rw [← HFV.out]
      have hO := HI.out.own
      rw [HK.out, List.take_length] at hO
      exact ⟨fv2, rfl, owns_mono (owns_low (owns_low hO (by omega) _ _) (by omega) _ _) HTW.out.size, (HBW.out.setCell (by simp) _).setCell (by simp) _⟩
end
end Go.Proofs.YtcpncfngadablaaDoor
