import Derived.Deep.LoopGhost
import Derived.Test.YtcpncfngadablaaGreatDoorZ05
namespace Go.Proofs.YtcpncfngadablaaGreatDoor
open Go.RowKit Go.Deep

section
variable {w w' : World} {E : Nat → Addr} {lo p mf mt : Nat} {D : DiskC}

theorem FileAt.slice {B : Nat} {L : Lay} {f : FileA} (h : FileAt w B L f) : ∃ a c, L.sv = .slice a f.blocks.length c := by
  rcases h.own.2 with ⟨h1, h2⟩ | ⟨g, cap, cur, h1, _⟩
  · exact ⟨none, 0, by rw [h1, h2]⟩
  · exact ⟨_, cap, h1⟩

/-! ### Length -/
set_option maxHeartbeats 400000 in
theorem Length_err (V : Env w lo E) (s : ByteArray) (i : Nat) (hi : i < 11)
    (hf : Calls Tryz.prog 65 #[ptr p, .string s] w fun e w' => e = .returned (.tuple #[.pointer none, errV E i]) ∧ ∃ n, w' = w.drewN n) :
    Calls Tryz.prog 29 #[ptr p, .string s] w fun e w' => e = .returned (.tuple #[.int .i64 0, .bool false, .int .i64 (code i)]) ∧ Touch [] w w' := by
  have H := hid hf
  clear hf
  go_enter Tryz.func29, Tryz.ntmps29
  go_wp2_with (first | (go_at_call 65; refine H.out.mono ?_; rintro e w1 ⟨rfl, hq⟩; have HT := hid (tell_err (Quiet.env hq V).sents i hi); have HQ := hid (Quiet.touch hq []); clear hq) | (go_at_call 26; refine HT.out.mono ?_; rintro e w2 ⟨rfl, rfl⟩))
  go_ret3
  exact ⟨rfl, HQ.out⟩

set_option maxHeartbeats 400000 in
theorem Length_ok (R : Rep w lo p mf mt D) (s : ByteArray) (ho : D.on = true) (hn : nameB s = true) {e0 : Ent} (hf : findE D.ents (nm s) = some e0) :
    Calls Tryz.prog 29 #[ptr p, .string s] w fun e w' => e = .returned (.tuple #[.int .i64 e0.file.blocks.length, .bool e0.file.shut, .int .i64 0]) ∧ Touch [] w w' := by
  have H := hid (find_some R s ho hn hf)
  have hat := R.each e0 (findE_mem hf).1
  obtain ⟨ga, gc, hsv⟩ := hat.slice
  have c0 := cell_row hat.row 0
  have c1 := cell_row hat.row 1
  rw [hsv] at c0 c1
  simp at c0 c1
  clear hf hat hsv R
  cases hs : e0.file.shut
  all_goals
    rw [hs] at c0
    simp at c0
    go_enter Tryz.func29, Tryz.ntmps29
    go_wp2_with (go_at_call 65; refine H.out.mono ?_; rintro e w1 ⟨rfl, hq⟩; have d0 := (Quiet.cell hq _).trans c0; have d1 := (Quiet.cell hq _).trans c1; have HQ := hid (Quiet.touch hq []); clear hq)
    go_quiet (fail)
    go_wp2
    go_ret3
    exact ⟨rfl, HQ.out.drewN _⟩

def lengthA (s : ByteArray) (A : PubA) : Int × Bool × Int :=
  if nameB s then
    match findA A.files (nm s) with
    | none => (0, false, 12)
    | some f => (f.blocks.length, f.shut, 0)
  else (0, false, 11)

theorem Length_any (V : Env w lo E) (R : Rep w lo p mf mt D) (ho : D.on = true) (s : ByteArray) :
    Calls Tryz.prog 29 #[ptr p, .string s] w fun e w' => e = .returned (.tuple #[.int .i64 (lengthA s D.pub).1, .bool (lengthA s D.pub).2.1, .int .i64 (lengthA s D.pub).2.2]) ∧ Touch [] w w' := by
  unfold lengthA
  have hfp : findA D.pub.files (nm s) = (findE D.ents (nm s)).map Ent.file := find_pub _ _
  by_cases hn : nameB s = true
  · rw [if_pos hn, hfp]
    cases hf : findE D.ents (nm s) with
    | none => exact Length_err V s 4 (by omega) (find_none V.sents R s ho hn hf)
    | some e0 => exact Length_ok R s ho hn hf
  · rw [if_neg hn]
    exact Length_err V s 3 (by omega) (find_bad V.sents R s ho (by simpa using hn))

/-! ### has -/
set_option maxHeartbeats 400000 in
theorem has_any {B : Nat} {L : Lay} {f : FileA} (hat : FileAt w B L f) (i : Int) :
    Calls Tryz.prog 90 #[ptr L.fb, .int .i64 i] w fun e w' => e = .returned (.bool (decide (0 ≤ i ∧ i < f.blocks.length))) ∧ w' = w := by
  obtain ⟨ga, gc, hsv⟩ := hat.slice
  have c1 := cell_row hat.row 1
  rw [hsv] at c1
  simp at c1
  clear hat hsv
  by_cases h0 : 0 ≤ i
  · by_cases h1 : i < (f.blocks.length : Int)
    · have hd : decide (0 ≤ i ∧ i < (f.blocks.length : Int)) = true := by simp [h0, h1]
      rw [hd]
      clear hd
      go_enter Tryz.func90, Tryz.ntmps90
      go_wp2
      go_ret
      exact ⟨rfl, rfl⟩
    · have hd : decide (0 ≤ i ∧ i < (f.blocks.length : Int)) = false := by simp; omega
      rw [hd]
      clear hd
      go_enter Tryz.func90, Tryz.ntmps90
      go_wp2
      go_ret
      exact ⟨rfl, rfl⟩
  · have hd : decide (0 ≤ i ∧ i < (f.blocks.length : Int)) = false := by simp; omega
    rw [hd]
    clear hd
    go_enter Tryz.func90, Tryz.ntmps90
    go_wp2
    go_ret
    exact ⟨rfl, rfl⟩
end
end Go.Proofs.YtcpncfngadablaaGreatDoor
namespace Go.Proofs.YtcpncfngadablaaGreatDoor
open Go.RowKit Go.Deep

section
variable {w w' : World} {E : Nat → Addr} {lo p mf mt : Nat} {D : DiskC}

set_option maxHeartbeats 400000 in
theorem carry_fetch (R : Rep w lo p mf mt D) {a k b : Int} (hk1 : (k == 1) = false) (hk2 : (k == 2) = false) :
    Calls Tryz.prog 67 #[ptr p, .agg #[.int .i64 a, .int .i64 k, .int .i64 b], .func (.func 91) #[] #[]] w fun e w' => e = .returned .nilIface ∧ Touch [] w w' := by
  have k0 := R.cell 0
  simp only [dRow] at k0
  have hp := lt_of_block R.row
  go_enter Tryz.func67, Tryz.ntmps67
  go_wp2_with go_in
  go_end0
  go_wp2
  go_ret
  exact ⟨rfl, (Touch.refl [] w).alloc _⟩

set_option maxHeartbeats 400000 in
theorem fetch_err (s : ByteArray) (i : Int) (j : Nat)
    (hf : Calls Tryz.prog 65 #[ptr p, .string s] w fun e w' => e = .returned (.tuple #[.pointer none, errV E j]) ∧ ∃ n, w' = w.drewN n) :
    Calls Tryz.prog 64 #[ptr p, .string s, .int .i64 i] w fun e w' => e = .returned (.tuple #[.slice none 0 0, errV E j]) ∧ Touch [] w w' := by
  have H := hid hf
  clear hf
  go_enter Tryz.func64, Tryz.ntmps64
  go_wp2_with (go_at_call 65; refine H.out.mono ?_; rintro e w1 ⟨rfl, hq⟩; have HQ := hid (Quiet.touch hq []); clear hq)
  go_ret2
  exact ⟨rfl, HQ.out⟩

set_option maxHeartbeats 400000 in
theorem fetch_open (V : Env w lo E) (R : Rep w lo p mf mt D) (s : ByteArray) (i : Int) (ho : D.on = true) (hn : nameB s = true) {e0 : Ent} (hf : findE D.ents (nm s) = some e0) (hs : e0.file.shut = false) :
    Calls Tryz.prog 64 #[ptr p, .string s, .int .i64 i] w fun e w' => e = .returned (.tuple #[.slice none 0 0, errV E 7]) ∧ Touch [] w w' := by
  have H := hid (find_some R s ho hn hf)
  have c0 := cell_row (R.each e0 (findE_mem hf).1).row 0
  simp [hs] at c0
  have c7 := V.sents.var 7 (by omega)
  clear hf hs
  go_enter Tryz.func64, Tryz.ntmps64
  go_wp2_with (go_at_call 65; refine H.out.mono ?_; rintro e w1 ⟨rfl, hq⟩; have d0 := (Quiet.cell hq _).trans c0; have d7 := (Quiet.cell hq _).trans c7; have HQ := hid (Quiet.touch hq []); clear hq c0 c7)
  go_quiet (fail)
  go_wp2
  go_ret2
  exact ⟨rfl, HQ.out.drewN _⟩

set_option maxHeartbeats 400000 in
theorem fetch_out (V : Env w lo E) (R : Rep w lo p mf mt D) (s : ByteArray) (i : Int) (ho : D.on = true) (hn : nameB s = true) {e0 : Ent} (hf : findE D.ents (nm s) = some e0) (hs : e0.file.shut = true) (hi : ¬ (0 ≤ i ∧ i < e0.file.blocks.length)) :
    Calls Tryz.prog 64 #[ptr p, .string s, .int .i64 i] w fun e w' => e = .returned (.tuple #[.slice none 0 0, errV E 8]) ∧ Touch [] w w' := by
  have H := hid (find_some R s ho hn hf)
  have hat := R.each e0 (findE_mem hf).1
  have c0 := cell_row hat.row 0
  simp [hs] at c0
  have c8 := V.sents.var 8 (by omega)
  have hd : decide (0 ≤ i ∧ i < (e0.file.blocks.length : Int)) = false := by simpa using hi
  have HA := hid hat
  clear hf hs hi hat
  go_enter Tryz.func64, Tryz.ntmps64
  go_wp2_with (first
    | (go_at_call 65; refine H.out.mono ?_; rintro e w1 ⟨rfl, hq⟩; have d0 := (Quiet.cell hq _).trans c0; have d8 := (Quiet.cell hq _).trans c8; have HQ := hid hq; clear hq c0 c8)
    | (go_at_call 90; refine (has_any (HA.out.kept fun b _ => by rw [Quiet.heap HQ.out]) i).mono ?_; rintro e w2 ⟨rfl, rfl⟩))
  go_quiet (fail)
  go_wp2
  go_ret2
  exact ⟨rfl, (Quiet.touch HQ.out []).drewN _⟩

/-- where block i of a file lies. -/
theorem FileAt.at {B : Nat} {L : Lay} {f : FileA} (h : FileAt w B L f) {i : Nat} (hi : i < f.blocks.length) :
    ∃ g cap b, L.sv = .slice (some ⟨g, 0, none⟩) f.blocks.length cap ∧ f.blocks.length ≤ cap ∧ w.cell? ⟨g, i, none⟩ = some (sliceV b B) ∧ f.blocks[i].length = B ∧ BytesAt w b f.blocks[i] ∧ L.bs[i]? = some b ∧ L.sv.ownBlock = some g := by
  have hlen := h.len
  have hb : L.bs[i]? = some (L.bs[i]'(by omega)) := List.getElem?_eq_getElem (by omega)
  have hbl := h.bytes i _ f.blocks[i] hb (List.getElem?_eq_getElem hi)
  rcases h.own.2 with ⟨_, h2⟩ | ⟨g, cap, cur, h1, _, hg, hc, _⟩
  · omega
  · refine ⟨g, cap, _, h1, hc, ?_, hbl.1, hbl.2, hb, by rw [h1]; rfl⟩
    have hc2 := h.own.cells (g := g) (by rw [h1]; rfl) i (sliceV (L.bs[i]'(by omega)) B) (by simp [hb])
    have hadd : (⟨g, 0, none⟩ : Addr).add i = ⟨g, i, none⟩ := by unfold Addr.add; split <;> simp_all
    rw [hadd] at hc2
    exact hc2

theorem bytes_src {b : Nat} {bl : List UInt8} (h : BytesAt w b bl) : ∀ j v, (Lib.byteCells bl)[j]? = some v → w.cell? ((⟨b, 0, none⟩ : Addr).add j) = some v := by
  intro j v hv
  have hadd : (⟨b, 0, none⟩ : Addr).add j = ⟨b, j, none⟩ := by unfold Addr.add; split <;> simp_all
  rw [hadd, cell_row h j]
  simpa using hv

theorem copy_at {b B : Nat} {bl : List UInt8} (h : BytesAt w b bl) (hl : bl.length = B) (h1 : 64 ≤ B) (h2 : B ≤ 65536) :
    Calls Tryz.prog 71 #[sliceV b B, .int .i64 B] w fun e w' => e = .returned (sliceV w.heap.size B) ∧ BytesAt w' w.heap.size bl ∧ Touch [] w w' ∧ w'.heap.size = w.heap.size + 1 := by
  have h3 := copyBlock_any bl ⟨b, 0, none⟩ bl.length (B : Int) w (by omega) (Nat.le_refl _) (by omega) (by omega) (bytes_src h) (lt_of_block h)
  rw [cutB_whole (by omega), hl] at h3
  exact h3

set_option maxRecDepth 100000 in
set_option maxHeartbeats 400000 in
theorem fetch_ok (R : Rep w lo p mf mt D) (s : ByteArray) (i : Int) (ho : D.on = true) (hn : nameB s = true) {e0 : Ent} (hf : findE D.ents (nm s) = some e0) (hs : e0.file.shut = true) (hi0 : 0 ≤ i) (hi1 : i < e0.file.blocks.length) {a k b : Int} (hT : TroubleIs D.T D.c.calls a k b) (hk1 : (k == 1) = false) (hk2 : (k == 2) = false) (hS : Small D.pub) :
    Calls Tryz.prog 64 #[ptr p, .string s, .int .i64 i] w fun e w' => ∃ g, e = .returned (.tuple #[sliceV g D.B, .nilIface]) ∧ w.heap.size ≤ g ∧ BytesAt w' g (e0.file.blocks[i.toNat]'(by omega)) ∧ Rep w' lo p mf mt D.numbered ∧ Touch [p, mt] w w' := by
  have H := hid (find_some R s ho hn hf)
  have hm := (findE_mem hf).1
  have hat := R.each e0 hm
  have c0 := cell_row hat.row 0
  simp [hs] at c0
  have hd : decide (0 ≤ i ∧ i < (e0.file.blocks.length : Int)) = true := by simp; omega
  have h0 := hS.calls.1
  have h1 := hS.calls.2
  have hB := hS.size
  simp only [DiskC.pub] at h0 h1 hB
  obtain ⟨hB1, hB2⟩ := hB
  have HA := hid hat
  have HR := hid R
  clear hf hs hat R hS
  go_enter Tryz.func64, Tryz.ntmps64
  go_wp2_with (first
    | (go_at_call 65; refine H.out.mono ?_; rintro e w1 ⟨rfl, hq⟩; have d0 := (Quiet.cell hq _).trans c0; have HQ := hid hq; clear hq c0)
    | (go_at_call 90; refine (has_any (HA.out.kept fun b _ => by rw [Quiet.heap HQ.out]) i).mono ?_; rintro e w2 ⟨rfl, rfl⟩)
    | (go_at_call 68; refine (number_any (Quiet.rep HQ.out HR.out) hT h0 h1).mono ?_; rintro e w3 ⟨rfl, hR3, ht3⟩)
    | (go_at_call 67; refine (carry_fetch hR3 hk1 hk2).mono ?_; rintro e w4 ⟨rfl, ht4⟩; have hR4 := hR3.touch ht4 (by simp); obtain ⟨g, cap, bb, hsv, hcap, hcg, hlen, hby, _, _⟩ := (hR4.each e0 hm).at (i := i.toNat) (by omega); have r1 := cell_row (hR4.each e0 hm).row 1; have r0 := hR4.cell 0; rw [hsv] at r1; simp only [dRow] at r0; have HC := hid (copy_at (w := w4.drew) hby hlen hB1 hB2); have HR4 := hid hR4; clear hby hlen hR4 hsv))
  go_region_held3 (fun W => W.cell? ⟨e0.lay.fb, 1, none⟩ = some (.slice (some ⟨g, 0, none⟩) e0.file.blocks.length cap) ∧ W.cell? ⟨g, i.toNat, none⟩ = some (sliceV bb D.B) ∧ W.cell? ⟨p, 0, none⟩ = some (.int .i64 D.B)) (go_keep)
    (first | (go_at_call 71; refine HC.out.mono ?_; rintro e w5 ⟨rfl, hb5, ht5, hz5⟩; have HB5 := hid hb5; have HT5 := hid ht5; have v1 := (ht5.cell (p := ⟨e0.lay.fb, 1, none⟩) (World.block_lt_of_cell? w4 _ r1) (by simp)).trans r1; have v2 := (ht5.cell (p := ⟨g, i.toNat, none⟩) (World.block_lt_of_cell? w4 _ hcg) (by simp)).trans hcg; have v3 := (ht5.cell (p := ⟨p, 0, none⟩) (World.block_lt_of_cell? w4 _ r0) (by simp)).trans r0; clear hb5 ht5 hz5))
  go_wp2
  go_ret2
  have t4 : Touch [p, mt] w w4 := ((Quiet.touch HQ.out [p, mt]).trans ht3 (by simp)).trans ht4 (by simp)
  have t5 : Touch [] w4 w5 := (Touch.refl [] w4).drew.trans HT5.out (by simp)
  exact ⟨w4.heap.size, rfl, t4.size, HB5.out, HR4.out.touch t5 (by simp), t4.trans t5 (by simp)⟩

/-! ### Read -/
set_option maxHeartbeats 400000 in
theorem Read_err {s : ByteArray} {i : Int} {j : Nat} (V : Env w lo E) (hj : j < 11) (h1 : j ≠ 1) (h9 : j ≠ 9) (h : Calls Tryz.prog 64 #[ptr p, .string s, .int .i64 i] w fun e w' => e = .returned (.tuple #[.slice none 0 0, errV E j]) ∧ Touch [] w w') :
    Calls Tryz.prog 28 #[ptr p, .string s, .int .i64 i] w fun e w' => e = .returned (.tuple #[.slice none 0 0, .int .i64 (code j)]) ∧ Touch [] w w' := by
  have H := hid h
  clear h
  go_enter Tryz.func28, Tryz.ntmps28
  go_wp2_with (first | (go_at_call 64; refine H.out.mono ?_; rintro e w1 ⟨rfl, ht⟩; have HA := hid (answer_err (p := p) (V.touch ht (by simp)).sents j hj h1 h9)) | (go_at_call 33; refine HA.out.mono ?_; rintro e w2 ⟨rfl, rfl⟩))
  go_ret2
  exact ⟨rfl, ht⟩

set_option maxRecDepth 100000 in
set_option maxHeartbeats 400000 in
theorem Read_ok (V : Env w lo E) (R : Rep w lo p mf mt D) (s : ByteArray) (i : Int) (ho : D.on = true) (hn : nameB s = true) {e0 : Ent} (hf : findE D.ents (nm s) = some e0) (hs : e0.file.shut = true) (hi0 : 0 ≤ i) (hi1 : i < e0.file.blocks.length) (hT : D.T = .map []) (hS : Small D.pub) :
    Calls Tryz.prog 28 #[ptr p, .string s, .int .i64 i] w fun e w' => ∃ g, e = .returned (.tuple #[sliceV g D.B, .int .i64 0]) ∧ w.heap.size ≤ g ∧ BytesAt w' g (e0.file.blocks[i.toNat]'(by omega)) ∧ Rep w' lo p mf mt { D.numbered with c := { D.numbered.c with reads := D.c.reads + 1 } } ∧ Touch [p, mt] w w' := by
  have H := hid (fetch_ok R s i ho hn hf hs hi0 hi1 (a := 0) (k := 0) (b := 0) (by rw [hT]; exact no_trouble _) (by decide) (by decide) hS)
  have hF : ∀ b ∈ [p, mt], lo ≤ b := fun b hb => R.base b (by simp at hb; rcases hb with rfl | rfl <;> simp [DiskC.foot])
  have hr := hS.reads
  simp only [DiskC.pub] at hr
  obtain ⟨hr1, hr2⟩ := hr
  have hp := lt_of_block R.row
  clear hf hs R hS hT
  go_enter Tryz.func28, Tryz.ntmps28
  go_wp2_with (first
    | (go_at_call 64; refine H.out.mono ?_; rintro e w1 ⟨g, rfl, hg, hb1, hR1, ht1⟩; have k6 := hR1.cell 6; have f6 := hR1.unfrozen 6; simp only [dRow, DiskC.numbered] at k6; have HR1 := hid hR1; have HB1 := hid hb1; have HV1 := hid (V.touch ht1 hF); have HT1 := hid ht1; clear hR1 hb1 ht1)
    | (go_at_call 33; refine (answer_nil (E := E) (p := p) ?_).mono ?_; exact (HV1.out.touch (F := [p]) ((Touch.refl [p] w1).setCell (p := ⟨p, 6, none⟩) (by simp) _) (fun b hb => hF b (by simp at hb; simp [hb]))).sents; rintro e w2 ⟨rfl, rfl⟩))
  go_ret2
  have t1 : Touch [p] w1 (w1.setCell ⟨p, 6, none⟩ (.int .i64 (D.c.reads + 1))) := (Touch.refl [p] w1).setCell (by simp) _
  refine ⟨g, rfl, hg, ?_, HR1.out.setRow rfl rfl rfl t1 ?_, HT1.out.trans t1 (by simp)⟩
  · show (w1.setCell _ _).heap[g]? = _
    rw [Below.heap_setCell _ _ _ _ (by show g ≠ p; omega)]
    exact HB1.out
  · rw [heap_setCell_row HR1.out.row 6]
    rfl

def readA (s : ByteArray) (i : Int) (A : PubA) : Option (List UInt8) × Int × PubA :=
  if nameB s then
    match findA A.files (nm s) with
    | none => (none, 12, A)
    | some f => if f.shut then
        if 0 ≤ i ∧ i < f.blocks.length then (f.blocks[i.toNat]?, 0, { A with c := { A.c with calls := A.c.calls + 1, reads := A.c.reads + 1 } }) else (none, 16, A)
      else (none, 15, A)
  else (none, 11, A)

/-- what Read hands back: nothing, or new memory that holds the block. -/
def Told1 (w' : World) (n B : Nat) (o : Option (List UInt8)) (v : Value) : Prop :=
  match o with
  | none => v = .slice none 0 0
  | some bl => ∃ g, v = sliceV g B ∧ n ≤ g ∧ BytesAt w' g bl ∧ bl.length = B

/-- as 'Did', the disk's memory being where it was. -/
def DidIn (w w' : World) (lo p mf mt : Nat) (D : DiskC) (A' : PubA) : Prop :=
  ∃ D', Rep w' lo p mf mt D' ∧ D'.pub = A' ∧ D'.T = .map [] ∧ Touch (D.foot p mf mt) w w' ∧ D'.foot p mf mt = D.foot p mf mt

theorem Read_any (V : Env w lo E) (R : Rep w lo p mf mt D) (hT : D.T = .map []) (ho : D.on = true) (hS : Small D.pub) (s : ByteArray) (i : Int) :
    Calls Tryz.prog 28 #[ptr p, .string s, .int .i64 i] w fun e w' => ∃ v, e = .returned (.tuple #[v, .int .i64 (readA s i D.pub).2.1]) ∧ Told1 w' w.heap.size D.B (readA s i D.pub).1 v ∧ DidIn w w' lo p mf mt D (readA s i D.pub).2.2 := by
  unfold readA
  have hfp : findA D.pub.files (nm s) = (findE D.ents (nm s)).map Ent.file := find_pub _ _
  have err : ∀ j, j < 11 → j ≠ 1 → j ≠ 9 → (Calls Tryz.prog 64 #[ptr p, .string s, .int .i64 i] w fun e w' => e = .returned (.tuple #[.slice none 0 0, errV E j]) ∧ Touch [] w w') →
      Calls Tryz.prog 28 #[ptr p, .string s, .int .i64 i] w fun e w' => ∃ v, e = .returned (.tuple #[v, .int .i64 (code j)]) ∧ Told1 w' w.heap.size D.B none v ∧ DidIn w w' lo p mf mt D D.pub := fun j hj h1 h9 h =>
    (Read_err V hj h1 h9 h).mono fun e w1 ⟨e1, ht⟩ => ⟨.slice none 0 0, e1, rfl, D, R.touch ht (by simp), rfl, hT, ht.mono (by simp), rfl⟩
  by_cases hn : nameB s = true
  · rw [if_pos hn, hfp]
    cases hf : findE D.ents (nm s) with
    | none => exact err 4 (by omega) (by omega) (by omega) (fetch_err s i 4 (find_none V.sents R s ho hn hf))
    | some e0 =>
      simp only [Option.map_some]
      cases hs : e0.file.shut with
      | false => exact err 7 (by omega) (by omega) (by omega) (fetch_open V R s i ho hn hf hs)
      | true =>
        simp only [if_true]
        by_cases hi : 0 ≤ i ∧ i < e0.file.blocks.length
        · rw [if_pos hi]
          refine (Read_ok V R s i ho hn hf hs hi.1 hi.2 hT hS).mono fun e w1 ⟨g, e1, hg, hb, hR, ht⟩ => ⟨sliceV g D.B, e1, ?_, _, hR, rfl, ?_, ht.mono ?_, rfl⟩
          · rw [List.getElem?_eq_getElem (by omega)]
            refine ⟨g, rfl, hg, hb, ?_⟩
            exact ((R.each e0 (findE_mem hf).1).at (i := i.toNat) (by omega)).choose_spec.choose_spec.choose_spec.2.2.2.1
          · show D.T.del _ = _
            rw [hT]
            rfl
          · intro b hb
            simp at hb
            rcases hb with rfl | rfl <;> simp [DiskC.foot]
        · rw [if_neg hi]
          exact err 8 (by omega) (by omega) (by omega) (fetch_out V R s i ho hn hf hs hi)
  · rw [if_neg hn]
    exact err 3 (by omega) (by omega) (by omega) (fetch_err s i 3 (find_bad V.sents R s ho (by simpa using hn)))
end
end Go.Proofs.YtcpncfngadablaaGreatDoor
namespace Go.Proofs.YtcpncfngadablaaGreatDoor
open Go.RowKit Go.Deep

section
variable {w w' : World} {E : Nat → Addr} {lo p mf mt : Nat} {D : DiskC}

/-- bytes that a slice shows. -/
structure Shows (w : World) (sa : Option Addr) (n c : Nat) (d : List UInt8) : Prop where
  len : d.length = n
  cap : n ≤ c
  at_ : 0 < n → ∃ a, sa = some a ∧ a.block < w.heap.size ∧ ∀ j v, (Lib.byteCells d)[j]? = some v → w.cell? (a.add j) = some v
  nil : sa = none → n = 0 ∧ c = 0

/-- what Op.data makes of the bytes. -/
def dataA (N : Int) (B : Nat) (d : List UInt8) : List UInt8 := if N = 0 then d else d.take B ++ List.replicate (B - d.length) 0

theorem append_nil_nil (ty : TypeId) (w : World) (a : Option Addr) (c : Nat) : (Builtin.append_ #[31, 31] ty #[.slice none 0 0, .slice a 0 c]).run Tryz.prog w = .ok (.slice none 0 0) w := by
  obtain ⟨i, hi, hz0, hz1, hz2⟩ := info_parts Tryz.info5
  cases a <;> simp [Builtin.append_, run_underlying Tryz.underlying31, sizeOf, typeInfo, hi, Builtin.lenOf, Builtin.firstCells, loadCells, loadCellsFrom]

/-- 'append([]byte(nil), s...)'. -/
theorem run_append_bytes (ty : TypeId) (w : World) {sa : Option Addr} {n c : Nat} {d : List UInt8} (h : Shows w sa n c d) (hn : n ≤ 1099511627776) :
    ∃ v w', (Builtin.append_ #[31, 31] ty #[.slice none 0 0, .slice sa n c]).run Tryz.prog w = .ok v w' ∧ w'.ownsRow w.heap.size 5 1 v n (Lib.byteCells d) ∧ Below w.heap.size w w' := by
  by_cases h0 : n = 0
  · subst h0
    have hd : d = [] := List.eq_nil_of_length_eq_zero h.len
    subst hd
    exact ⟨_, _, append_nil_nil ty w sa c, World.ownsRow_nil _ _ _ _, Below.refl _ _⟩
  · obtain ⟨a, rfl, ha, hc⟩ := h.at_ (by omega)
    obtain ⟨i, hi, hz0, hz1, hz2⟩ := info_parts Tryz.info5
    obtain ⟨v', w', hr, ho, hg, _⟩ := run_append_own (P := Tryz.prog) w w.heap.size 31 ty 5 i (.int .u8 0) 1 1 Tryz.underlying31 hi hz0 hz1 hz2 rfl (by decide) (.slice none 0 0) 0 [] (World.ownsRow_nil _ _ _ _) a n c (Lib.byteCells d) (by rw [Lib.byteCells_length, h.len]; omega) hc (byteCells_one' d) (by unfold maxLen; omega) (by omega) (Nat.le_refl _)
    refine ⟨v', w', hr, ?_, (Below.refl _ w).grown hg (Nat.le_refl _) (by simp [Value.ownBlock])⟩
    simpa using ho

/-- an owned row of bytes is shown by its slice. -/
theorem shows_own {base n : Nat} {v : Value} {d : List UInt8} (h : w.ownsRow base 5 1 v n (Lib.byteCells d)) : ∃ sa c, v = .slice sa n c ∧ Shows w sa n c d ∧ ∀ a, sa = some a → base ≤ a.block := by
  have hl : d.length = n := by simpa [Lib.byteCells_length] using h.1
  rcases h.2 with ⟨rfl, rfl⟩ | ⟨g, cap, cur, rfl, hb, hg, hn, _⟩
  · exact ⟨none, 0, rfl, ⟨hl, Nat.le_refl _, fun h => by omega, fun _ => ⟨rfl, rfl⟩⟩, by simp⟩
  · refine ⟨some ⟨g, 0, none⟩, cap, rfl, ⟨hl, hn, fun _ => ⟨_, rfl, lt_of_block hg, fun j v hv => h.cells (g := g) rfl j v hv⟩, by simp⟩, ?_⟩
    intro a ha
    simp at ha
    subst ha
    exact hb

/-- 'append(b, 0)', in a walk. -/
theorem wpList_append_zero (w : World) {ops : Array Oper} {rest : List Oper} {o : Oper} {a : Act} {Q : Exit → Act → World → Prop} (hgd : o.guard = none) (s x : Operand)
    (hop : o.op = Op.call { callee := Callee.builtin Builtin.append, args := #[s, x], argTypes := #[31, 31] })
    (base : Nat) (v : Value) (n : Nat) (d : List UInt8) (ad : Addr) (hs : a.eval s = v) (hx : a.eval x = .slice (some ad) 1 1) (hown : w.ownsRow base 5 1 v n (Lib.byteCells d)) (hu : w.cell? ad = some (.int .u8 0)) (hn : n ≤ 1099511627776) (hb : base ≤ w.heap.size)
    (hK : ∀ v' w', w'.ownsRow base 5 1 v' (n + 1) (Lib.byteCells (d ++ [0])) → Below base w w' → wpList Tryz.prog ops Q rest (a.put o.dst v') w') : wpList Tryz.prog ops Q (o :: rest) a w := by
  refine wpList_plain hgd fun K' hK' => ?_
  obtain ⟨i, hi, hz0, hz1, hz2⟩ := info_parts Tryz.info5
  have hnews : ∀ j u, [Value.int .u8 0][j]? = some u → w.cell? (ad.add j) = some u := by
    intro j u hu'
    cases j with
    | zero => simp at hu'; subst hu'; simpa [Addr.add] using hu
    | succ j => simp at hu'
  obtain ⟨v', w', hrun, ho, hg, _⟩ := run_append_own (P := Tryz.prog) w base 31 o.type 5 i (.int .u8 0) 1 1 Tryz.underlying31 hi hz0 hz1 hz2 rfl (by decide) v n _ hown ad 1 1 [.int .u8 0] rfl hnews (by simp [Value.oneCell']) (by unfold maxLen; omega) (by omega) hb
  have ho' : w'.ownsRow base 5 1 v' (n + 1) (Lib.byteCells (d ++ [0])) := by
    rw [Lib.byteCells_append]
    exact ho
  have hbw : Below base w w' := (Below.refl _ w).grown hg hb (fun k hk => (hown.lt k hk).1)
  unfold Oper.wp
  simp [execOp, hop, resolve, invoke, builtin, hs, hx, hrun, Result.andThen]
  exact hK' _ _ (hK v' w' ho' hbw)
end
end Go.Proofs.YtcpncfngadablaaGreatDoor
