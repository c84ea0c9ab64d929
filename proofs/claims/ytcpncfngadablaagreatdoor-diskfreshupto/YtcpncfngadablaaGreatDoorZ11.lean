import Derived.Test.YtcpncfngadablaaGreatDoorZ10
namespace Go.Proofs.YtcpncfngadablaaGreatDoor
open Go.RowKit Go.Deep

section
variable {w w' : World} {E : Nat → Addr} {lo p mf mt : Nat} {D : DiskC}


/-- the counts as a value. -/
def Cnt.val (c : Cnt) : Value := .agg #[.int .i64 c.calls, .int .i64 c.reads, .int .i64 c.appends, .int .i64 c.faults, .int .i64 c.full, .int .i64 c.used, .int .i64 c.most]

set_option maxRecDepth 100000 in
set_option maxHeartbeats 400000 in
theorem Counts_any (R : Rep w lo p mf mt D) : Calls Tryz.prog 31 #[ptr p] w fun e w' => e = .returned D.c.val ∧ Below w.heap.size w w' := by
  have k5 := R.cell 5
  have k6 := R.cell 6
  have k7 := R.cell 7
  have k8 := R.cell 8
  have k9 := R.cell 9
  have k10 := R.cell 10
  have k11 := R.cell 11
  simp only [dRow] at k5 k6 k7 k8 k9 k10 k11
  have hp := lt_of_block R.row
  unfold Cnt.val
  go_enter Tryz.func31, Tryz.ntmps31
  go_wp2
  refine bodyPost_ret (v := .agg #[.int .i64 D.c.calls, .int .i64 D.c.reads, .int .i64 D.c.appends, .int .i64 D.c.faults, .int .i64 D.c.full, .int .i64 D.c.used, .int .i64 D.c.most]) (by simp [results, Tryz.results31, go_sem]) rfl ⟨rfl, ?_⟩
  exact (Below.refl _ w).alloc (Nat.le_refl _) _

set_option maxHeartbeats 400000 in
theorem Names_any (R : Rep w lo p mf mt D) (ho : D.on = true) (hS : D.ents.length ≤ 1099511627776) :
    Calls Tryz.prog 30 #[ptr p] w fun e w' => ∃ v, e = .returned v ∧ w'.ownsRow w.heap.size 9 1 v D.ents.length ((D.ents.map Ent.name).map encStr) ∧ (v = .slice none 0 0 ↔ D.ents = []) ∧ Below w.heap.size w w' := by
  have k2 := R.cell 2
  simp only [dRow, ho] at k2
  have H := hid (rising_any R hS)
  go_enter Tryz.func30, Tryz.ntmps30
  go_wp2_with (go_at_call 37; refine H.out.mono ?_; rintro e w1 ⟨v, rfl, h1, h2, h3⟩; have H1 := hid h1; have H2 := hid h2; clear h1 h2)
  go_ret
  exact ⟨v, rfl, H1.out, H2.out, h3⟩

/-! ### Spoil -/
theorem Quiet.frozen (h : Quiet w w') (a : Addr) : w'.frozen? a = w.frozen? a := by obtain ⟨n, rfl⟩ := h; rfl
set_option maxHeartbeats 400000 in
theorem spoil_err (s : ByteArray) (i bit : Int) (j : Nat)
    (hf : Calls Tryz.prog 92 #[ptr p, .string s] w fun e w' => e = .returned (.tuple #[.pointer none, errV E j]) ∧ ∃ n, w' = w.drewN n) :
    Calls Tryz.prog 66 #[ptr p, .string s, .int .i64 i, .int .i64 bit] w fun e w' => e = .returned (errV E j) ∧ Touch [] w w' := by
  have H := hid hf
  clear hf
  go_enter Tryz.func66, Tryz.ntmps66
  go_wp2_with (go_at_call 92; refine H.out.mono ?_; rintro e w1 ⟨rfl, hq⟩; have HQ := hid (Quiet.touch hq []); clear hq)
  go_ret
  exact ⟨rfl, HQ.out⟩

set_option maxRecDepth 100000 in
set_option maxHeartbeats 400000 in
theorem spoil_out (V : Env w lo E) (R : Rep w lo p mf mt D) (s : ByteArray) (i bit : Int) (hn : nameB s = true) {e0 : Ent} (hf : findE D.ents (nm s) = some e0) (hB : 64 ≤ D.B ∧ D.B ≤ 65536) (hi : ¬ ((0 ≤ i ∧ i < e0.file.blocks.length) ∧ 0 ≤ bit ∧ bit < 8 * D.B)) :
    Calls Tryz.prog 66 #[ptr p, .string s, .int .i64 i, .int .i64 bit] w fun e w' => e = .returned (errV E 8) ∧ Touch [] w w' := by
  have H := hid (look_some R s hn hf)
  have hat := R.each e0 (findE_mem hf).1
  have k0 := R.cell 0
  simp only [dRow] at k0
  have c8 := V.sents.var 8 (by omega)
  have HA := hid hat
  obtain ⟨hB1, hB2⟩ := hB
  clear hf hat
  by_cases h1 : 0 ≤ i ∧ i < (e0.file.blocks.length : Int)
  · have hd : decide (0 ≤ i ∧ i < (e0.file.blocks.length : Int)) = true := by simpa using h1
    by_cases h2 : bit < 0
    · clear hi h1
      go_enter Tryz.func66, Tryz.ntmps66
      go_wp2_with (first
        | (go_at_call 92; refine H.out.mono ?_; rintro e w1 ⟨rfl, hq⟩; have d0 := (Quiet.cell hq _).trans k0; have d8 := (Quiet.cell hq _).trans c8; have HQ := hid hq; clear hq k0 c8)
        | (go_at_call 90; refine (has_any (HA.out.kept fun b _ => by rw [Quiet.heap HQ.out]) i).mono ?_; rintro e w2 ⟨rfl, rfl⟩))
      go_ret
      exact ⟨rfl, Quiet.touch HQ.out []⟩
    · have h3 : 8 * (D.B : Int) ≤ bit := by omega
      have h4 : 0 ≤ bit := by omega
      clear hi h1 h2
      go_enter Tryz.func66, Tryz.ntmps66
      go_wp2_with (first
        | (go_at_call 92; refine H.out.mono ?_; rintro e w1 ⟨rfl, hq⟩; have d0 := (Quiet.cell hq _).trans k0; have d8 := (Quiet.cell hq _).trans c8; have HQ := hid hq; clear hq k0 c8)
        | (go_at_call 90; refine (has_any (HA.out.kept fun b _ => by rw [Quiet.heap HQ.out]) i).mono ?_; rintro e w2 ⟨rfl, rfl⟩))
      go_ret
      exact ⟨rfl, Quiet.touch HQ.out []⟩
  · have hd : decide (0 ≤ i ∧ i < (e0.file.blocks.length : Int)) = false := by simpa using h1
    clear hi h1
    go_enter Tryz.func66, Tryz.ntmps66
    go_wp2_with (first
      | (go_at_call 92; refine H.out.mono ?_; rintro e w1 ⟨rfl, hq⟩; have d0 := (Quiet.cell hq _).trans k0; have d8 := (Quiet.cell hq _).trans c8; have HQ := hid hq; clear hq k0 c8)
      | (go_at_call 90; refine (has_any (HA.out.kept fun b _ => by rw [Quiet.heap HQ.out]) i).mono ?_; rintro e w2 ⟨rfl, rfl⟩))
    go_ret
    exact ⟨rfl, Quiet.touch HQ.out []⟩

/-- a byte with a bit turned. -/
def flipB (c : UInt8) (bit : Int) : UInt8 := UInt8.ofNat (c.toNat ^^^ (2 ^ (bit % 8).toNat % 256))

theorem flip_val (c : UInt8) (bit : Int) : bits BinOp.xor IntKind.u8 (c.toNat : Int) (2 ^ (bit % 8).toNat % 256) = ((flipB c bit).toNat : Int) := by
  have hc : c.toNat < 256 := c.toNat_lt
  have h2 : (2 ^ (bit % 8).toNat % 256 : Int) = ((2 ^ (bit % 8).toNat % 256 : Nat) : Int) := by
    rw [Int.natCast_emod, Int.natCast_pow]
    rfl
  rw [h2, u8_xor_nat _ _ hc (Nat.mod_lt _ (by omega))]
  congr 1
  unfold flipB
  rw [UInt8.toNat_ofNat']
  have : c.toNat ^^^ (2 ^ (bit % 8).toNat % 256) < 2 ^ 8 := Nat.xor_lt_two_pow (by omega) (Nat.mod_lt _ (by omega))
  exact (Nat.mod_eq_of_lt this).symm

set_option maxRecDepth 100000 in
set_option maxHeartbeats 1000000 in
theorem spoil_walk (R : Rep w lo p mf mt D) (s : ByteArray) (i bit : Int) (hn : nameB s = true) {e0 : Ent} (hf : findE D.ents (nm s) = some e0) (hB : 64 ≤ D.B ∧ D.B ≤ 65536) (hi1 : 0 ≤ i) (hi2 : i < e0.file.blocks.length) (hb1 : 0 ≤ bit) (hb2 : bit < 8 * D.B) {g gc bb : Nat} {c : UInt8} (hsv : e0.lay.sv = .slice (some ⟨g, 0, none⟩) e0.file.blocks.length gc) (cg : w.cell? ⟨g, i.toNat, none⟩ = some (sliceV bb D.B)) (cb : w.cell? ⟨bb, (bit / 8).toNat, none⟩ = some (.int .u8 c.toNat)) (fb : w.frozen? ⟨bb, (bit / 8).toNat, none⟩ = false) :
    Calls Tryz.prog 66 #[ptr p, .string s, .int .i64 i, .int .i64 bit] w fun e w' => e = .returned .nilIface ∧ ∃ w1, Quiet w w1 ∧ w' = (w1.setCell ⟨bb, (bit / 8).toNat, none⟩ (.int .u8 (flipB c bit).toNat)).drew := by
  have H := hid (look_some R s hn hf)
  have hat := R.each e0 (findE_mem hf).1
  have k0 := R.cell 0
  simp only [dRow] at k0
  have c1 := cell_row hat.row 1
  rw [hsv] at c1
  simp at c1
  have HA := hid hat
  obtain ⟨hB1, hB2⟩ := hB
  have hd : decide (0 ≤ i ∧ i < (e0.file.blocks.length : Int)) = true := by simp; omega
  have HV := hid (flip_val c bit)
  clear hf hat hsv
  go_enter Tryz.func66, Tryz.ntmps66
  go_wp2_with (first
    | (go_at_call 92; refine H.out.mono ?_; rintro e w1 ⟨rfl, hq⟩; have d0 := (Quiet.cell hq _).trans k0; have d1 := (Quiet.cell hq _).trans c1; have d2 := (Quiet.cell hq _).trans cg; have d3 := (Quiet.cell hq _).trans cb; have f3 := (Quiet.frozen hq _).trans fb; have HQ := hid hq; clear hq k0 c1 cg cb fb)
    | (go_at_call 90; refine (has_any (HA.out.kept fun b _ => by rw [Quiet.heap HQ.out]) i).mono ?_; rintro e w2 ⟨rfl, rfl⟩))
  go_region
  go_wp2
  go_ret
  refine ⟨rfl, _, HQ.out, ?_⟩
  rw [HV.out]

theorem byte_set (bl : List UInt8) (k : Nat) (c : UInt8) : (Lib.byteCells bl).toArray.setIfInBounds k (.int .u8 c.toNat) = (Lib.byteCells (bl.set k c)).toArray := by
  apply Array.toList_inj.1
  simp [Lib.byteCells, List.map_set]

/-- A bit of a block has been turned. -/
theorem Rep.spoil (R : Rep w lo p mf mt D) {n : List UInt8} {e0 : Ent} (hf : findE D.ents n = some e0) {i k bb : Nat} {c : UInt8} (hi : i < e0.file.blocks.length) (hm : e0.lay.bs[i]? = some bb) (hby : BytesAt w bb e0.file.blocks[i]) (hlo : lo ≤ w.heap.size) :
    Rep (w.setCell ⟨bb, k, none⟩ (.int .u8 c.toNat)) lo p mf mt { D with ents := setE n { e0.file with blocks := e0.file.blocks.set i (e0.file.blocks[i].set k c) } e0.lay D.ents } ∧ Touch e0.lay.foot w (w.setCell ⟨bb, k, none⟩ (.int .u8 c.toNat)) := by
  obtain ⟨he0, _⟩ := findE_mem hf
  have hat := R.each e0 he0
  have hnd := R.parts.1 e0 he0
  have hmb : bb ∈ e0.lay.bs := List.mem_of_getElem? hm
  have ht : Touch e0.lay.foot w (w.setCell ⟨bb, k, none⟩ (.int .u8 c.toNat)) := (Touch.refl _ w).setCell (.inl (by simp [Lay.foot, hmb])) _
  have hnd' := hnd
  have hfoot0 : e0.lay.foot = e0.lay.fb :: (e0.lay.sv.ownBlock.toList ++ e0.lay.bs) := rfl
  rw [hfoot0, List.nodup_cons, List.nodup_append] at hnd
  have hother : ∀ b, b ≠ bb → (w.setCell ⟨bb, k, none⟩ (.int .u8 c.toNat)).heap[b]? = w.heap[b]? := fun b hb => Below.heap_setCell _ _ _ _ hb
  refine ⟨R.setFile hf rfl ⟨?_, ⟨?_, ?_⟩, ?_⟩ (fun b hb => .inl hb) hnd' ht hlo, ht⟩
  · rw [hother _ (fun e => hnd.1 (by simp [e, hmb]))]
    exact hat.row
  · have := hat.own.1
    simpa using this
  · have h2 := hat.own.2
    simp only [List.length_set]
    rcases h2 with h | ⟨g, cap, cur, h, hb0, hg, r⟩
    · exact .inl h
    · refine .inr ⟨g, cap, cur, h, hb0, ?_, r⟩
      rw [hother g (fun e => hnd.2.2.2 g (by simp [h, Value.ownBlock]) bb hmb e)]
      exact hg
  · intro j b bl hb hbl
    by_cases hj : j = i
    · subst hj
      rw [hm] at hb
      simp at hb
      subst hb
      rw [List.getElem?_set_self (by simpa using hi)] at hbl
      simp at hbl
      subst hbl
      refine ⟨?_, ?_⟩
      · rw [List.length_set]
        exact (hat.bytes j _ _ hm (List.getElem?_eq_getElem hi)).1
      · show (w.setCell _ _).heap[_]? = _
        rw [heap_setCell_row hby k, byte_set]
    · rw [List.getElem?_set_ne (fun e => hj e.symm)] at hbl
      have h1 := hat.bytes j b bl hb hbl
      refine ⟨h1.1, ?_⟩
      show (w.setCell _ _).heap[b]? = _
      rw [hother b (fun e => ?_)]
      · exact h1.2
      · subst e
        have hnb := hnd.2.2.1
        have e1 := (List.getElem?_eq_some_iff.1 hb)
        have e2 := (List.getElem?_eq_some_iff.1 hm)
        obtain ⟨l1, v1⟩ := e1
        obtain ⟨l2, v2⟩ := e2
        rcases Nat.lt_or_gt_of_ne hj with h | h
        · exact List.pairwise_iff_getElem.1 hnb j i l1 l2 h (v1.trans v2.symm)
        · exact List.pairwise_iff_getElem.1 hnb i j l2 l1 h (v2.trans v1.symm)

def spoilA (s : ByteArray) (i bit : Int) (A : PubA) : Int × PubA :=
  if nameB s then
    match findA A.files (nm s) with
    | none => (12, A)
    | some f => if (0 ≤ i ∧ i < f.blocks.length) ∧ 0 ≤ bit ∧ bit < 8 * A.B then (0, { A with files := setA (nm s) { f with blocks := f.blocks.set i.toNat ((f.blocks[i.toNat]?.getD []).set (bit / 8).toNat (flipB ((f.blocks[i.toNat]?.getD [])[(bit / 8).toNat]?.getD 0) bit)) } A.files }) else (16, A)
  else (11, A)

set_option maxHeartbeats 400000 in
theorem Spoil_of {s : ByteArray} {i bit : Int} {r : Value} {v : Int} {Post : World → Prop} (h : Calls Tryz.prog 66 #[ptr p, .string s, .int .i64 i, .int .i64 bit] w fun e w' => e = .returned r ∧ Post w')
    (ha : ∀ w1, Post w1 → Calls Tryz.prog 26 #[r] w1 fun e w' => e = .returned (.int .i64 v) ∧ w' = w1) :
    Calls Tryz.prog 32 #[ptr p, .string s, .int .i64 i, .int .i64 bit] w fun e w' => e = .returned (.int .i64 v) ∧ Post w' := by
  have H := hid h
  have HA := hid ha
  clear h ha
  go_enter Tryz.func32, Tryz.ntmps32
  go_wp2_with (first | (go_at_call 66; refine H.out.mono ?_; rintro e w1 ⟨rfl, hp⟩) | (go_at_call 26; refine (HA.out _ hp).mono ?_; rintro e w2 ⟨rfl, rfl⟩))
  go_ret
  exact ⟨rfl, hp⟩

theorem Spoil_any (V : Env w lo E) (R : Rep w lo p mf mt D) (hT : D.T = .map []) (hS : Small D.pub) (s : ByteArray) (i bit : Int) :
    Calls Tryz.prog 32 #[ptr p, .string s, .int .i64 i, .int .i64 bit] w fun e w' => e = .returned (.int .i64 (spoilA s i bit D.pub).1) ∧ Did w w' lo p mf mt D (spoilA s i bit D.pub).2 := by
  unfold spoilA
  have hfp : findA D.pub.files (nm s) = (findE D.ents (nm s)).map Ent.file := find_pub _ _
  have hB := hS.size
  simp only [DiskC.pub] at hB
  have err : ∀ j, j < 11 → (Calls Tryz.prog 66 #[ptr p, .string s, .int .i64 i, .int .i64 bit] w fun e w' => e = .returned (errV E j) ∧ Touch [] w w') →
      Calls Tryz.prog 32 #[ptr p, .string s, .int .i64 i, .int .i64 bit] w fun e w' => e = .returned (.int .i64 (code j)) ∧ Did w w' lo p mf mt D D.pub := fun j hj h =>
    (Spoil_of h fun w1 ht => tell_err (V.touch ht (by simp)).sents j hj).mono fun e w2 ⟨e1, e2⟩ => ⟨e1, Did.same R hT e2⟩
  by_cases hn : nameB s = true
  · rw [if_pos hn, hfp]
    cases hf : findE D.ents (nm s) with
    | none => exact err 4 (by omega) (spoil_err s i bit 4 (look_none V.sents R s hn hf))
    | some e0 =>
      simp only [Option.map_some]
      by_cases hi : (0 ≤ i ∧ i < e0.file.blocks.length) ∧ 0 ≤ bit ∧ bit < 8 * D.B
      · have hi' : (0 ≤ i ∧ i < e0.file.blocks.length) ∧ 0 ≤ bit ∧ bit < 8 * D.pub.B := hi
        rw [if_pos hi']
        have hk : i.toNat < e0.file.blocks.length := by omega
        obtain ⟨g, gc, bb, hsv, _, cg, hlen, hby, hm, _⟩ := (R.each e0 (findE_mem hf).1).at hk
        have hkb : (bit / 8).toNat < e0.file.blocks[i.toNat].length := by omega
        have cb : w.cell? ⟨bb, (bit / 8).toNat, none⟩ = some (.int .u8 (e0.file.blocks[i.toNat][(bit / 8).toNat]).toNat) := by
          rw [cell_row hby]
          simp [Lib.byteCells, hkb]
        have hw := spoil_walk R s i bit hn hf hB hi.1.1 hi.1.2 hi.2.1 hi.2.2 hsv cg cb (unfrozen_row hby _)
        have hpost : ∀ w1 w2, Quiet w w1 → w2 = (w1.setCell ⟨bb, (bit / 8).toNat, none⟩ (.int .u8 (flipB (e0.file.blocks[i.toNat][(bit / 8).toNat]) bit).toNat)).drew → Rep w2 lo p mf mt { D with ents := setE (nm s) { e0.file with blocks := e0.file.blocks.set i.toNat (e0.file.blocks[i.toNat].set (bit / 8).toNat (flipB (e0.file.blocks[i.toNat][(bit / 8).toNat]) bit)) } e0.lay D.ents } ∧ Touch e0.lay.foot w w2 := by
          intro w1 w2 hq e
          subst e
          have hr := (Quiet.rep hq R).spoil (k := (bit / 8).toNat) (c := flipB (e0.file.blocks[i.toNat][(bit / 8).toNat]) bit) hf hk hm (by show w1.heap[bb]? = _; rw [Quiet.heap hq]; exact hby) (by rw [Quiet.heap hq]; exact V.room)
          exact ⟨Quiet.rep ⟨1, rfl⟩ hr.1, ((Quiet.touch hq _).trans hr.2 (fun b hb => .inl hb)).drew⟩
        have h := Spoil_of (v := 0) (hw.mono fun e w2 ⟨e1, w1, hq, e2⟩ => ⟨e1, hpost w1 w2 hq e2⟩) fun w1 _ => tell_nil w1
        refine h.mono fun e w2 ⟨e1, hR, ht⟩ => ⟨e1, _, hR, ?_, hT, ht.mono (foot_ent hf), foot_set hf rfl fun b hb => .inl hb⟩
        simp only [DiskC.pub, set_pub, List.getElem?_eq_getElem hk, Option.getD_some, List.getElem?_eq_getElem hkb]
      · have hi' : ¬ ((0 ≤ i ∧ i < e0.file.blocks.length) ∧ 0 ≤ bit ∧ bit < 8 * D.pub.B) := hi
        rw [if_neg hi']
        exact err 8 (by omega) (spoil_out V R s i bit hn hf hB hi)
  · rw [if_neg hn]
    exact err 3 (by omega) (spoil_err s i bit 3 (look_bad V.sents s (by simpa using hn)))
end
end Go.Proofs.YtcpncfngadablaaGreatDoor
