import Derived.Test.YtcpncfngadablaaDoorD3
namespace Go.Proofs.YtcpncfngadablaaDoor
open Go.RowKit Go.Deep

/-- the name ahead of file k. -/
def lastN (l : List SFile) (k : Nat) : List UInt8 := match k with | 0 => [] | j + 1 => (l[j]?.map SFile.name).getD []
/-- the blocks of the first k files. -/
def usedN (l : List SFile) (k : Nat) : Nat := ((l.take k).map fun e => e.file.blocks.length).sum

theorem usedN_succ {l : List SFile} {k : Nat} {e : SFile} (h : l[k]? = some e) : usedN l (k + 1) = usedN l k + e.file.blocks.length := by
  unfold usedN
  obtain ⟨hk, rfl⟩ := List.getElem?_eq_some_iff.1 h
  rw [List.take_succ_eq_append_getElem hk, List.map_append, List.sum_append]
  simp only [List.map_cons, List.map_nil, List.sum_cons, List.sum_nil, Nat.add_zero]
theorem usedN_le (l : List SFile) (k : Nat) : usedN l k ≤ usedN l l.length := by
  unfold usedN
  rw [List.take_length]
  have h := congrArg (fun x => (x.map fun e : SFile => e.file.blocks.length).sum) (List.take_append_drop k l)
  simp only [List.map_append, List.sum_append] at h
  omega

/-- what Mount asks of a state's files. -/
structure GoodL (l : List SFile) : Prop where
  names : ∀ e ∈ l, nameB ⟨e.name.toArray⟩ = true
  rising : l.Pairwise fun a b => bytesBefore a.name b.name = true
  few : l.length ≤ 1099511627776
  blocks : usedN l l.length ≤ 1099511627776

theorem GoodL.one {l : List SFile} (h : GoodL l) {k : Nat} {e : SFile} (he : l[k]? = some e) : e.file.blocks.length ≤ 1099511627776 := by
  have h1 := usedN_succ he
  have h2 := usedN_le l (k + 1)
  have h3 := h.blocks
  omega

theorem GoodL.behind {l : List SFile} (h : GoodL l) {k : Nat} {e : SFile} (he : l[k]? = some e) : (Op.bytesLess e.name (lastN l k) || e.name == lastN l k) = false := by
  cases k with
  | zero =>
    have hn := h.names e (List.mem_of_getElem? he)
    have hne : e.name ≠ [] := by
      intro e1
      unfold nameB at hn
      simp at hn
      have := hn.1.1
      rw [show (⟨e.name.toArray⟩ : ByteArray).size = e.name.length from by show e.name.toArray.size = _; simp, e1] at this
      simp at this
    simp only [lastN]
    cases hx : e.name with
    | nil => exact absurd hx hne
    | cons a r => simp [Op.bytesLess]
  | succ j =>
    obtain ⟨hk, rfl⟩ := List.getElem?_eq_some_iff.1 he
    have hj : l[j]? = some (l[j]'(by omega)) := List.getElem?_eq_getElem (by omega)
    have hb := List.pairwise_iff_getElem.1 h.rising j (j + 1) (by omega) hk (by omega)
    have : lastN l (j + 1) = (l[j]'(by omega)).name := by simp [lastN, hj]
    rw [this]
    exact Go.Proofs.YtcpncfngadablaaDoor.behind hb

section
variable {w w' : World} {E : Nat → Addr} {lo p mf mt : Nat} {D : DiskC}

/-- file k of a state in a later world. -/
theorem StateAt.file {n B k G gc : Nat} {fv : Value} {l : List SFile} {e : SFile} {wr : World} (h : StateAt w n B fv l) (he : l[k]? = some e) (hb : Below w.heap.size w wr) (e1 : fv = .slice (some ⟨G, 0, none⟩) l.length gc) :
    wr.cell? ⟨G, k * 3, none⟩ = some (encStr e.name) ∧ wr.cell? ⟨G, k * 3 + 1, none⟩ = some (.bool e.file.shut) ∧ wr.cell? ⟨G, k * 3 + 2, none⟩ = some e.sv ∧ BlocksAt wr B e.sv e.bs e.file.blocks ∧ G < wr.heap.size := by
  have c := h.cellsAt he e1
  have b := h.each _ (List.mem_of_getElem? he)
  have up : ∀ i v, w.cell? ⟨G, i, none⟩ = some v → wr.cell? ⟨G, i, none⟩ = some v := fun i v h => (hb.cell (p := ⟨G, i, none⟩) (World.block_lt_of_cell? w _ h)).trans h
  exact ⟨up _ _ c.1, up _ _ c.2.1, up _ _ c.2.2, b.kept fun x hx => hb.block x (by rcases hx with h' | h'; exact b.lt.1 x h'; exact b.lt.2 x h'), World.block_lt_of_cell? wr _ (up _ _ c.1)⟩

set_option maxRecDepth 100000 in
set_option maxHeartbeats 400000 in
theorem checkMount_ok {n B : Nat} {Bs : Int} {fv : Value} {l : List SFile} (h : StateAt w n B fv l) (hg : GoodL l) (h1 : 64 ≤ B) (h2 : B ≤ 65536) (h3 : (B : Int) % 32 = 0) (h4 : 0 ≤ Bs) (h5 : Bs ≤ 1099511627776) (hu : (usedN l l.length : Int) ≤ Bs) :
    Calls Tryd.prog 31 #[.agg #[.int .i64 B, fv], .agg #[.int .i64 B, .int .i64 Bs, .slice none 0 0]] w fun e w' => e = .returned .nilIface ∧ Below w.heap.size w w' := by
  have HC := hid (fun W => checkSetup_ok (B := (B : Int)) (Bs := Bs) (v := .slice none 0 0) rfl (by omega) (by omega) h3 h4 h5 W)
  have hfs : ∃ fa fc, fv = .slice fa l.length fc := by
    rcases h.own.2 with ⟨e, h0⟩ | ⟨g, cap, _, e, _⟩
    · exact ⟨none, 0, by rw [e, h0]⟩
    · exact ⟨_, cap, e⟩
  obtain ⟨fa, fc, hfv⟩ := hfs
  have HS := hid h
  have HG := hid hg
  have HU := hid hu
  have HFV := hid hfv
  rw [hfv]
  obtain ⟨W, hW⟩ : ∃ W, W = (w.alloc (.cells #[.int .i64 B, .slice fa l.length fc] 43)).alloc (.cells #[.int .i64 B, .int .i64 Bs, .slice none 0 0] 29) := ⟨_, rfl⟩
  have hW1 := heap_two w (.cells #[.int .i64 B, .slice fa l.length fc] 43) (.cells #[.int .i64 B, .int .i64 Bs, .slice none 0 0] 29)
  rw [← hW] at hW1
  have hTW : Below w.heap.size w W := by rw [hW]; exact ((Below.refl _ w).alloc (Nat.le_refl _) _).alloc (by simp) _
  have HE := hid hW
  have HW := hid hW1
  have HTW := hid hTW
  clear h hg hu hfv h3 hW hW1 hTW
  go_enter Tryd.func31, Tryd.ntmps31
  go_wp2_with fail
  rw [← HE.out]
  refine (HC.out _).mono ?_
  rintro e w1 ⟨rfl, hb1⟩
  have r1 : w1.heap[w.heap.size]? = _ := (hb1.block _ (lt_of_block HW.out.1)).trans HW.out.1
  have r2 : w1.heap[w.heap.size + 1]? = _ := (hb1.block _ (lt_of_block HW.out.2)).trans HW.out.2
  have a0 := cell_row r1 0
  have a1 := cell_row r1 1
  have b0 := cell_row r2 0
  have b1 := cell_row r2 1
  simp at a0 a1 b0 b1
  have hbw : Below w.heap.size w w1 := HTW.out.trans (hb1.mono HTW.out.size)
  have HR1 := hid r1
  have HR2 := hid r2
  have HBW := hid hbw
  have lz : w.heap.size + 1 < w1.heap.size := lt_of_block r2
  have hnb : ((B : Int) != (B : Int)) = false := by simp
  clear r1 r2 hb1 hbw
  go_wp2
  go_loopw [6, 7, 25] (fun la us i wr => ∃ k : Nat, k ≤ l.length ∧ i = .int .i64 k ∧ la = encStr (lastN l k) ∧ us = .int .i64 (usedN l k) ∧ Below w1.heap.size w1 wr) (fun _ _ i _ => l.length - (intOf i).toNat)
  case atStart => exact ⟨0, Nat.zero_le _, rfl, rfl, rfl, Below.refl _ _⟩
  case round =>
    obtain ⟨k, hk, rfl, rfl, rfl, hbr⟩ := hrel
    have x0 := hbr.cell (p := ⟨w.heap.size + 1, 0, none⟩) lz
    have x1 := hbr.cell (p := ⟨w.heap.size + 1, 1, none⟩) lz
    rw [b0] at x0
    rw [b1] at x1
    have hzr : w.heap.size + 1 < wr.heap.size := Nat.lt_of_lt_of_le lz hbr.size
    have hub := usedN_le l k
    have hgb := HG.out.blocks
    have hfew := HG.out.few
    by_cases hlt : k < l.length
    · obtain ⟨e0, he0⟩ : ∃ e0, l[k]? = some e0 := ⟨l[k], List.getElem?_eq_getElem hlt⟩
      obtain ⟨G, gc, hG⟩ := HS.out.slice1 (by omega)
      rw [HFV.out] at hG
      simp only [Value.slice.injEq, true_and] at hG
      obtain ⟨rfl, rfl⟩ := hG
      have hbwr : Below w.heap.size w wr := HBW.out.trans (hbr.mono HBW.out.size)
      obtain ⟨f0, f1, f2, hbl, lG⟩ := HS.out.file he0 hbwr HFV.out
      have hone := HG.out.one he0
      have hus := usedN_succ he0
      have hle := usedN_le l (k + 1)
      have HK := hid (fun o : Obj => checkFile_ok (w := wr.alloc o) (s := ⟨e0.name.toArray⟩) (last := ⟨(lastN l k).toArray⟩) (x := e0.file.shut) (hbl.kept fun b hb => Below.heap_alloc wr o b (by rcases hb with h' | h'; exact hbl.lt.1 b h'; exact hbl.lt.2 b h')) hone (HG.out.names e0 (List.mem_of_getElem? he0)) (by have hx := HG.out.behind he0; simpa [ByteArray.toList_eq] using hx))
      obtain ⟨ga, gn, gk, hsv⟩ := hbl.own_slice
      have hgn : gn = e0.file.blocks.length := by
        rcases hbl.own.2 with ⟨h, h'⟩ | ⟨g, cap, _, h, _⟩
        · rw [hsv] at h; simp at h; omega
        · rw [hsv] at h; simp at h; exact h.2.1
      subst hgn
      rw [hsv] at f2 HK
      have HUS := hid hus
      have HE0 := hid he0
      have HBR := hid hbr
      clear he0 hbl hsv hus hbr hbwr
      go_wp2_with (go_at_call 52; refine (HK.out _).mono ?_; rintro e w2 ⟨rfl, ht2⟩; obtain ⟨q0, q1, q2, lq⟩ := box_up3 ht2; have HT2 := hid ht2; clear ht2)
      have hbn : Below w1.heap.size w1 w2 := HBR.out.trans (((Below.refl _ wr).alloc (Nat.le_refl _) _).trans (HT2.out.mono (by simp)) |>.mono HBR.out.size)
      have hla : encStr e0.name = encStr (lastN l (k + 1)) := by simp [lastN, HE0.out]
      have hue : (usedN l k : Int) + e0.file.blocks.length = (usedN l (k + 1) : Nat) := by rw [HUS.out]; simp
      have HBN := hid hbn
      have HLA := hid hla
      have HUE := hid hue
      clear hbn hla hue
      go_roundw
      case rel => first | exact ⟨k + 1, by omega, by go_num, HLA.out, by rw [HUE.out], HBN.out⟩ | ((repeat apply Exists.intro); exact ⟨⟨k + 1, by omega, by go_num, HLA.out, by rw [HUE.out], HBN.out⟩, rfl⟩)
      case measure => simp [intOf]; omega
    · have hkk : k = l.length := by omega
      have hu := HU.out
      subst hkk
      have HBR := hid hbr
      clear hbr
      go_wp2
      go_ret
      exact ⟨rfl, HBW.out.trans (HBR.out.mono HBW.out.size)⟩
end
end Go.Proofs.YtcpncfngadablaaDoor
