import Derived.Test.YtfmmmhcpdinhgabDoorZ12
/-
  The document's reading: an item that is an output.
-/
namespace Go.Proofs.YtfmmmhcpdinhgabDoor
open Go.RowKit Go.Deep PureNet PureRd
set_option maxRecDepth 100000

set_option maxHeartbeats 8000000 in
theorem item_out (T : Nat → List UInt8) (w W : World) (r : Nat) (text : List UInt8) (s : Rs) (x : Dx) (y : Wd) (t : List Wd) (v e1 e2 : Value) (h : Dr w W r text (dOf s) x) (hv : WA W w.heap.size text (y :: t) v) (hf : s.fault = none) (hm : s.mode = 1) (hy : y.1 = outW) (ho : s.outs ≠ 65536) (hso : s.outs ≤ 65536) (he : enC text (y :: t) = [e1, e2]) (hl : ∀ z ∈ t, z.1.length ≤ 1048576) (hum : (usesOf 0 s.lines).length ≤ 1048576) :
    Calls Tryd.prog 21 #[.pointer (some ⟨r, 0, none⟩), .agg #[v, e1, e2]] W (LineIs w W r text (lineF T (y :: t) s)) := by
  obtain ⟨a0, ha0⟩ : ∃ a0 : Int, a0 = ((spotN (text.take y.2)).1 : Int) := ⟨_, rfl⟩
  obtain ⟨b0, hb0⟩ : ∃ b0 : Int, b0 = ((spotN (text.take y.2)).2 : Int) := ⟨_, rfl⟩
  obtain ⟨g, c, rfl, hgM, hgW, wc⟩ := hv.word
  obtain ⟨WB, hWB, bb, hd, hv2, r53, r30, r71⟩ := pre_line (z1 := .slice (some ⟨g, 0, none⟩) (t.length + 1) c) (z2 := e1) (z3 := e2) h hv (str y.1) (.int .i64 a0) (.int .i64 b0)
  obtain ⟨k0, k1, k2⟩ := wc 0 y rfl
  rw [← ha0] at k1
  rw [← hb0] at k2
  have hrB := hd.size
  have hsz : W.heap.size + 1 + 1 < WB.heap.size := (Array.getElem?_eq_some_iff.1 r71).1
  have HW : Hid (w.heap.size ≤ W.heap.size) := h.below.size
  have BB := hid bb
  have HBX := hid h.box
  have DD := hid hd
  have c53 := fun j => cell_row r53 j
  have c71 := fun j => cell_row r71 j
  have R30 := hid r30
  have cr1 := cell_row hd.box 1
  have cr2 := cell_row hd.box 2
  obtain ⟨g', c', hgc, _, _, wc2⟩ := hv2.word
  simp only [Value.slice.injEq, Option.some.injEq, Addr.mk.injEq, and_true, true_and] at hgc
  obtain ⟨rfl, rfl⟩ := hgc
  rw [List.length_cons]
  have HWB := hid hWB
  have FC := hid (fun W a b => fault_any 140 a b W)
  have FM := hid (fun W => form_any y.1 W)
  have hm61 : (rcells (dOf s) x)[1]? = some x.gv := rfl
  rw [hm61] at cr1
  have hm62 : (rcells (dOf s) x)[2]? = some x.ov := rfl
  rw [hm62] at cr2
  obtain ⟨sg, cg, hgv⟩ := own_shape h.gates
  obtain ⟨so, co, hov⟩ := own_shape h.outs
  rw [hgv] at cr1
  rw [hov] at cr2
  obtain ⟨ng, hng⟩ : ∃ ng, ng = (dOf s).gs.length := ⟨_, rfl⟩
  rw [← hng] at cr1
  obtain ⟨no, hno⟩ : ∃ no, no = (dOf s).outs := ⟨_, rfl⟩
  rw [← hno] at cr2
  have HLW := hid hl
  have HUM := hid hum
  clear hl hum
  obtain ⟨fw, hfw⟩ : ∃ fw : List UInt8, fw = [117] := ⟨_, rfl⟩
  have hfm : formW y.1 = fw := by rw [hfw, hy]; rfl
  rw [hfm] at FM
  have hw1 : (fw == []) = false := by rw [hfw]; rfl
  have hw2 : fw.isEmpty = false := by rw [hfw]; rfl
  have hy1 : (y.1 == [111, 117, 116, 112, 117, 116]) = true := by rw [hy]; rfl
  have ho1 : ((no : Int) == 65536) = false := by
    rw [hno]
    have : (dOf s).outs = s.outs := rfl
    rw [this]
    simp
    omega
  have hWBs : WB.heap.size = W.heap.size + 1 + 1 + 1 := by rw [hWB]; simp
  have hrB2 : r < W.heap.size + 1 + 1 + 1 := by omega
  have hf4 : fw.length ≤ 4 := by rw [hfw]; decide
  have HE := hid he
  have H0 := hid h
  have LG : Hid (∀ (q : Option (Int × Nat)) (jt : It), chk T s fw y t it0 = (q, jt) → (∀ p, q = some p → (lineF T (y :: t) s).fault = some p) ∧ (q = none → ∃ l, lineF T (y :: t) s = outed s l jt)) := fun q jt hc => line_out T hf hm hy ho q jt (by rw [← hfw]; exact hc)
  have HA0 := hid ha0
  have HB0 := hid hb0
  have HFW := hid hfw
  have WC2 := hid wc2
  have HF := hid hf
  have HSO := hid hso
  clear wc wc2 hm hno hng hgv hov hm61 hm62 hy ha0 hb0 hfw hf ho hso he hfm
  have R53 := hid r53
  have R71 := hid r71
  clear h hv hd hv2 bb hWB r53 r30 r71
  go_enter Tryd.func21, Tryd.ntmps21
  go_wp2_with (first
    | (rw [← HWB.out])
    | (go_at_call 39; refine (FM.out _).mono ?_; rintro e w1 ⟨rfl, hw1⟩; rw [hw1]; clear hw1)
    | (go_at_call 10; refine (FC.out _ _ _).mono ?_; rintro e w4 ⟨rfl, b4⟩; have B4 : Hid (Below W.heap.size W w4) := BB.out.trans (b4.mono BB.out.size); have r4 := (b4.block _ (by omega)).trans R30.out; have c4 := fun j => cell_row r4 j; have f4 := fun j => unfrozen_row r4 j; have hs4 : W.heap.size + 1 < w4.heap.size := (Array.getElem?_eq_some_iff.1 r4).1; clear b4 r4))
  have START : Hid (∀ WL, WL = ((WB.alloc (Obj.cells #[.int .i64 0, .string ⟨#[]⟩, .int .i64 0, .int .i64 0, .int .i64 0, .int .i64 0] 57)).alloc (Obj.cells #[.int .i64 0, .int .i64 0] 28)) → Lp W WL text (.slice (some ⟨g, 0, none⟩) (t.length + 1) c) e1 e2 (str y.1) (.int .i64 a0) (.int .i64 b0) (-1 : Int) it0 0 0 (.slice none 0 0)) := fun WL hWL => by
    have b1 : Below WB.heap.size WB WL := by rw [hWL]; exact (((Below.refl _ _).alloc (Nat.le_refl _) _).alloc (by simp) _)
    have n1 : WL.heap[W.heap.size + 1 + 1 + 1]? = some (.cells #[.int .i64 0, .string ⟨#[]⟩, .int .i64 0, .int .i64 0, .int .i64 0, .int .i64 0] 57 (0, 0)) := by
      rw [hWL, Lib.alloc_old _ _ _ (by simp [hWBs]), ← hWBs]
      exact heap_alloc_new WB _
    have n2 : WL.heap[W.heap.size + 1 + 1 + 1 + 1]? = some (.cells #[.int .i64 0, .int .i64 0] 28 (0, 0)) := by
      have := heap_alloc_new (WB.alloc (Obj.cells #[.int .i64 0, .string ⟨#[]⟩, .int .i64 0, .int .i64 0, .int .i64 0, .int .i64 0] 57)) (Obj.cells #[.int .i64 0, .int .i64 0] 28)
      rw [hWL]
      simpa [hWBs] using this
    exact ⟨BB.out.trans (b1.mono BB.out.size), (b1.block _ (by omega)).trans R53.out, (b1.block _ (by omega)).trans R30.out, (b1.block _ (by omega)).trans R71.out, n1, n2, World.ownsRow_nil _ _ _ _⟩
  go_loopw [11, 12] (fun uv iv WL => Hid (∃ (i : Nat) (it : It) (p q : Int), iv = .int .i64 (i : Int) ∧ i ≤ fw.length ∧ i ≤ t.length ∧ Lp W WL text (.slice (some ⟨g, 0, none⟩) (t.length + 1) c) e1 e2 (str y.1) (.int .i64 a0) (.int .i64 b0) (-1 : Int) it p q uv ∧ it.us.length ≤ i ∧ (∃ l, (y :: t)[i]? = some l ∧ chk T s (fw.drop i) l (t.drop i) it = chk T s fw y t it0))) (fun _ iv _ => match iv with | .int _ i => fw.length + 1 - i.toNat | _ => 0)
  case atStart => exact ⟨0, it0, 0, 0, rfl, Nat.zero_le _, Nat.zero_le _, START.out _ rfl, Nat.le_refl _, y, rfl, rfl⟩
  case round =>
    clear START
    obtain ⟨WW, hWW⟩ : ∃ WW, WW = wr := ⟨_, rfl⟩
    rw [← hWW] at hrel ⊢
    clear hWW
    obtain ⟨i, it, p, q, rfl, hif, hit, hlp, hus, l, hl, hck⟩ := hrel.out
    obtain ⟨su, cu, rfl⟩ := own_shape hlp.own
    clear hrel
    have hs := hlp.size
    have c53' := fun j => cell_row hlp.r53 j
    have cg := fun j => cell_row hlp.rg j
    have fg := fun j => unfrozen_row hlp.rg j
    have cn := fun j => cell_row hlp.rn j
    have fn := fun j => unfrozen_row hlp.rn j
    have LP := hid hlp
    have DW := hid (H0.out.on hlp.below)
    have hil : i < fw.length ∨ i = fw.length := by omega
    have hitl : i < t.length ∨ i = t.length := by omega
    have CK := hid hck
    have HL := hid hl
    have hgL : g < WW.heap.size := by omega
    clear hlp hck hl c53 c71 cr1 cr2 k0 k1 k2
    rcases hil with hlt | hlt
    · have hlt1 : (i : Int) < (fw.length : Int) := by omega
      have v1 : IntKind.i64.wrap ((i : Int) + 1) = (i : Int) + 1 := by rw [IntKind.wrap_i64]; omega
      rcases hitl with hn | hn
      · obtain ⟨z, hz⟩ : ∃ z, t[i]? = some z := ⟨_, List.getElem?_eq_getElem hn⟩
        obtain ⟨a9, ha9⟩ : ∃ qq : Int, qq = ((spotN (text.take z.2)).1 : Int) := ⟨_, rfl⟩
        obtain ⟨b9, hb9⟩ : ∃ qq : Int, qq = ((spotN (text.take z.2)).2 : Int) := ⟨_, rfl⟩
        have kg : WW.heap[g]? = WB.heap[g]? := (LP.out.below.block g hgW).trans (BB.out.block g hgW).symm
        obtain ⟨m0, m1, m2⟩ := WC2.out (i + 1) z (by simpa using hz)
        have m0' : WW.cell? ⟨g, (i + 1) * 3, none⟩ = some (str z.1) := (World.cell?_of_block kg).trans m0
        have m1' : WW.cell? ⟨g, (i + 1) * 3 + 1, none⟩ = some (.int .i64 a9) := by rw [ha9]; exact (World.cell?_of_block kg).trans m1
        have m2' : WW.cell? ⟨g, (i + 1) * 3 + 2, none⟩ = some (.int .i64 b9) := by rw [hb9]; exact (World.cell?_of_block kg).trans m2
        have HA9 := hid ha9
        have HB9 := hid hb9
        have HZ := hid hz
        have hn1 : ¬ (t.length : Int) + 1 ≤ (i : Int) + 1 := by omega
        have v4 : ((i : Int) + 1).toNat = i + 1 := by omega
        have v5 : (0 : Int) ≤ (i : Int) + 1 := by omega
        have v6 : (i : Int) + 1 < (t.length : Int) + 1 := by omega
        have hltS : i < (⟨fw.toArray⟩ : ByteArray).size := by show i < fw.toArray.size; simpa using hlt
        obtain ⟨cc, hcc⟩ : ∃ cc, (⟨fw.toArray⟩ : ByteArray)[i]'hltS = cc := ⟨_, rfl⟩
        have HCC : Hid (fw.drop i = cc :: fw.drop (i + 1)) := by
          show _ = _
          rw [List.drop_eq_getElem_cons hlt, ← hcc]
          rfl
        have NM := hid (fun W => nameD_list z.1 W (HLW.out z (List.mem_of_getElem? hz)))
        obtain ⟨WT, hWT⟩ : ∃ WT, WT = WW.alloc (Obj.cells #[str z.1, .int .i64 a9, .int .i64 b9] 71) := ⟨_, rfl⟩
        have bT : Below WW.heap.size WW WT := by rw [hWT]; exact (Below.refl _ _).alloc (Nat.le_refl _) _
        have LT := hid (LP.out.on bT)
        have RT : Hid (WT.heap[WW.heap.size]? = some (.cells #[str z.1, .int .i64 a9, .int .i64 b9] 71 (0, 0))) := by rw [hWT]; exact heap_alloc_new WW _
        have ct := fun j => cell_row RT.out j
        have hst := (Array.getElem?_eq_some_iff.1 RT.out).1
        have HWT := hid hWT
        clear m0 m1 m2 kg ha9 hb9 hz hWT bT
        have c4u : cc = 117 := by
          have h1 := HCC.out
          rw [HFW.out] at h1
          have hi0 : i = 0 := by
            have h2 : fw.length = 1 := by rw [HFW.out]; rfl
            omega
          rw [hi0] at h1
          simpa using h1.symm
        subst c4u
        obtain ⟨nmv, hnmv⟩ : ∃ b, b = nameL z.1 := ⟨_, rfl⟩
        rw [← hnmv] at NM
        have h0 := CK.out
        rw [HCC.out, List.drop_eq_getElem_cons hn, (List.getElem?_eq_some_iff.1 HZ.out).2] at h0
        simp only [chk, if_neg (show ¬ (117 : UInt8) = 110 by decide), if_neg (show ¬ (117 : UInt8) = 111 by decide), if_neg (show ¬ (117 : UInt8) = 102 by decide), ← hnmv] at h0
        have H00 := hid h0
        have EQU : Hid ([str z.1, .int .i64 a9, .int .i64 b9, .int .i64 (-1 : Int), .int .i64 (it.us.length : Int)] = usC1 text ⟨z, (-1 : Int), (it.us.length : Int)⟩) := by show _ = _; rw [HA9.out, HB9.out]; rfl
        have hus4 : it.us.length ≤ 4 := by omega
        clear h0 hnmv
        cases nmv with
        | false =>
          have HFL : Hid ((lineF T (y :: t) s).fault = some (140, z.2)) := (LG.out _ _ H00.out.symm).1 _ rfl
          have HFV : Hid (faV text (140, z.2) = .agg #[.int .i64 140, .int .i64 a9, .int .i64 b9]) := by show _ = _; rw [HA9.out, HB9.out]; rfl
          go_wp2_with (first
            | (rw [← HWT.out])
            | (have z6 := L6; clear z6; go_at_call 10; refine (FC.out _ _ _).mono ?_; rintro e w4 ⟨rfl, b4⟩; have L9 := hid (L6.out.on b4); have B4 : Hid (Below W.heap.size W w4) := L9.out.below; have c4 := fun j => cell_row L9.out.r30 j; have f4 := fun j => unfrozen_row L9.out.r30 j; have hs4 : W.heap.size + 1 < w4.heap.size := (Array.getElem?_eq_some_iff.1 L9.out.r30).1; clear b4)
            | (have z3 := L3; clear z3; at_builtin; refine app_one rfl _ _ 47 74 _ 5 48 rfl underUse infoUse rfl (by decide) (W.heap.size + 5) it.us.length (.slice su it.us.length cu) (usC text (usOf (-1 : Int) it.us)) [str z.1, .int .i64 a9, .int .i64 b9, .int .i64 (-1 : Int), .int .i64 (it.us.length : Int)] ⟨w3.heap.size, 0, none⟩ rfl (L3.out.on ((Below.refl _ _).alloc (Nat.le_refl _) _)).own rfl rfl (fun j u hu => by rw [add_zero_addr, cell_row (heap_alloc_new w3 _)]; simpa using hu) (fun u hu => by simp only [List.mem_cons, List.not_mem_nil, or_false] at hu; rcases hu with rfl | rfl | rfl | rfl | rfl <;> rfl) (by omega) (by omega) (by have := L3.out.size; simp; omega) ?_; intro v6 w6 o6 g6; obtain ⟨sv6, cv6, rfl⟩ := own_shape o6; have LA := L3.out.on ((Below.refl w3.heap.size w3).alloc (Nat.le_refl _) (Obj.cells [str z.1, .int .i64 a9, .int .i64 b9, .int .i64 (-1 : Int), .int .i64 (it.us.length : Int)].toArray 74)); have EQ := EQU.out; have o6' := o6; rw [EQ] at o6'; have L6 := hid (LA.push o6' g6); have q6 := (g6.block WW.heap.size (by simp; omega) (fun e => own_ne LA.own ((Lib.alloc_old w3 _ _ hq3).trans Q3.out) (by decide) e.symm)).trans ((Lib.alloc_old w3 _ _ hq3).trans Q3.out); have c6 := fun j => cell_row q6 j; have hq6 := (Array.getElem?_eq_some_iff.1 q6).1; have hs6 := L6.out.size; clear o6 o6' g6 LA EQ q6)
            | (go_at_call 20; refine (NM.out _).mono ?_; rintro e w3 ⟨rfl, b3⟩; have L3 := hid (LT.out.on b3); have q3 := (b3.block WW.heap.size (by have := (Array.getElem?_eq_some_iff.1 RT.out).1; omega)).trans RT.out; have cq := fun j => cell_row q3 j; have hq3 := (Array.getElem?_eq_some_iff.1 q3).1; have Q3 := hid q3; have hs3 := L3.out.size; clear b3 q3))
          exact bodyPost_ret (v := .agg #[.int .i64 140, .int .i64 a9, .int .i64 b9]) (by simp [results, Tryd.results21, go_sem, c4]) rfl ⟨ans_below (by have := HW.out; omega) (B4.out.mono HW.out) _ _ _, (kp_below B4.out).ans (by omega), .inl ⟨_, HFL.out, congrArg _ HFV.out.symm⟩⟩
        | true =>
          go_wp2_with (first
            | (rw [← HWT.out])
            | (have z3 := L3; clear z3; at_builtin; refine app_one rfl _ _ 47 74 _ 5 48 rfl underUse infoUse rfl (by decide) (W.heap.size + 5) it.us.length (.slice su it.us.length cu) (usC text (usOf (-1 : Int) it.us)) [str z.1, .int .i64 a9, .int .i64 b9, .int .i64 (-1 : Int), .int .i64 (it.us.length : Int)] ⟨w3.heap.size, 0, none⟩ rfl (L3.out.on ((Below.refl _ _).alloc (Nat.le_refl _) _)).own rfl rfl (fun j u hu => by rw [add_zero_addr, cell_row (heap_alloc_new w3 _)]; simpa using hu) (fun u hu => by simp only [List.mem_cons, List.not_mem_nil, or_false] at hu; rcases hu with rfl | rfl | rfl | rfl | rfl <;> rfl) (by omega) (by omega) (by have := L3.out.size; simp; omega) ?_; intro v6 w6 o6 g6; obtain ⟨sv6, cv6, rfl⟩ := own_shape o6; have LA := L3.out.on ((Below.refl w3.heap.size w3).alloc (Nat.le_refl _) (Obj.cells [str z.1, .int .i64 a9, .int .i64 b9, .int .i64 (-1 : Int), .int .i64 (it.us.length : Int)].toArray 74)); have EQ := EQU.out; have o6' := o6; rw [EQ] at o6'; have L6 := hid (LA.push o6' g6); have q6 := (g6.block WW.heap.size (by simp; omega) (fun e => own_ne LA.own ((Lib.alloc_old w3 _ _ hq3).trans Q3.out) (by decide) e.symm)).trans ((Lib.alloc_old w3 _ _ hq3).trans Q3.out); have c6 := fun j => cell_row q6 j; have hq6 := (Array.getElem?_eq_some_iff.1 q6).1; have hs6 := L6.out.size; clear o6 o6' g6 LA EQ q6)
            | (go_at_call 20; refine (NM.out _).mono ?_; rintro e w3 ⟨rfl, b3⟩; have L3 := hid (LT.out.on b3); have q3 := (b3.block WW.heap.size (by have := (Array.getElem?_eq_some_iff.1 RT.out).1; omega)).trans RT.out; have cq := fun j => cell_row q3 j; have hq3 := (Array.getElem?_eq_some_iff.1 q3).1; have Q3 := hid q3; have hs3 := L3.out.size; clear b3 q3))
          refine ⟨⟨i + 1, { it with us := it.us ++ [z] }, p, q, by go_num, by omega, by omega, L6.out, by show (it.us ++ [z]).length ≤ i + 1; simp; omega, z, by simpa using HZ.out, by rw [← H00.out]; simp⟩, ?_⟩
          show fw.length + 1 - ((i : Int) + 1).toNat < fw.length + 1 - (i : Int).toNat
          omega
      · obtain ⟨a9, ha9⟩ : ∃ qq : Int, qq = ((spotN (text.take (l.2 + l.1.length))).1 : Int) := ⟨_, rfl⟩
        obtain ⟨b9, hb9⟩ : ∃ qq : Int, qq = ((spotN (text.take (l.2 + l.1.length))).2 : Int) := ⟨_, rfl⟩
        have hlast : (y :: t).getLast? = some l := by
          rw [List.getLast?_eq_getElem?]
          have h1 := HL.out
          rw [hn] at h1
          simpa using h1
        have he1 : e1 = .int .i64 a9 ∧ e2 = .int .i64 b9 := by
          have h1 := HE.out
          rw [enC, hlast] at h1
          simp [spI] at h1
          rw [ha9, hb9]
          exact ⟨h1.1.symm, h1.2.symm⟩
        obtain ⟨rfl, rfl⟩ := he1
        have HFL : Hid ((lineF T (y :: t) s).fault = some (140, l.2 + l.1.length)) := by
          have h1 := CK.out
          obtain ⟨cc, cs, hcs⟩ : ∃ cc cs, fw.drop i = cc :: cs := by
            cases hd : fw.drop i with
            | nil => simp at hd; omega
            | cons cc cs => exact ⟨cc, cs, rfl⟩
          rw [hcs, List.drop_of_length_le (by omega)] at h1
          exact (LG.out _ _ h1.symm).1 _ rfl
        have HFV : Hid (faV text (140, l.2 + l.1.length) = .agg #[.int .i64 140, .int .i64 a9, .int .i64 b9]) := by show _ = _; rw [ha9, hb9]; rfl
        have hn1 : (t.length : Int) + 1 ≤ (i : Int) + 1 := by omega
        clear ha9 hb9 hlast hn hit hif hlt
        go_wp2_with (first
          | (go_at_call 10; refine (FC.out _ _ _).mono ?_; rintro e w4 ⟨rfl, b4⟩; have B4 : Hid (Below W.heap.size W w4) := LP.out.below.trans (b4.mono LP.out.below.size); have r4 := (b4.block _ (by omega)).trans LP.out.r30; have c4 := fun j => cell_row r4 j; have f4 := fun j => unfrozen_row r4 j; have hs4 : W.heap.size + 1 < w4.heap.size := (Array.getElem?_eq_some_iff.1 r4).1; clear b4 r4))
        exact bodyPost_ret (v := .agg #[.int .i64 140, .int .i64 a9, .int .i64 b9]) (by simp [results, Tryd.results21, go_sem, c4]) rfl ⟨ans_below (by have := HW.out; omega) (B4.out.mono HW.out) _ _ _, (kp_below B4.out).ans (by omega), .inl ⟨_, HFL.out, congrArg _ HFV.out.symm⟩⟩
    · have hdr : fw.drop i = [] := by rw [hlt]; exact List.drop_length
      have hlt1 : ¬ (i : Int) < (fw.length : Int) := by omega
      have w1 : IntKind.i64.wrap ((fw.length : Int) + 1) = (fw.length : Int) + 1 := by rw [IntKind.wrap_i64]; omega
      rcases hitl with hn | hn
      · skip
        obtain ⟨z, hz⟩ : ∃ z, t[fw.length]? = some z := ⟨_, List.getElem?_eq_getElem (by omega)⟩
        obtain ⟨a9, ha9⟩ : ∃ qq : Int, qq = ((spotN (text.take z.2)).1 : Int) := ⟨_, rfl⟩
        obtain ⟨b9, hb9⟩ : ∃ qq : Int, qq = ((spotN (text.take z.2)).2 : Int) := ⟨_, rfl⟩
        have kg : WW.heap[g]? = WB.heap[g]? := (LP.out.below.block g hgW).trans (BB.out.block g hgW).symm
        obtain ⟨m0, m1, m2⟩ := WC2.out (fw.length + 1) z (by simpa using hz)
        have m1' : WW.cell? ⟨g, (fw.length + 1) * 3 + 1, none⟩ = some (.int .i64 a9) := by rw [ha9]; exact (World.cell?_of_block kg).trans m1
        have m2' : WW.cell? ⟨g, (fw.length + 1) * 3 + 2, none⟩ = some (.int .i64 b9) := by rw [hb9]; exact (World.cell?_of_block kg).trans m2
        have HFL : Hid ((lineF T (y :: t) s).fault = some (140, z.2)) := by
          refine (LG.out (some (140, z.2)) it ?_).1 _ rfl
          have h1 := CK.out
          have hti : t.drop i = z :: t.drop (i + 1) := by
            rw [List.drop_eq_getElem_cons hn]
            congr 1
            have h2 := (List.getElem?_eq_some_iff.1 hz).2
            simpa [hlt] using h2
          rw [hdr, hti] at h1
          rw [← h1]
          rfl
        have HFV : Hid (faV text (140, z.2) = .agg #[.int .i64 140, .int .i64 a9, .int .i64 b9]) := by show _ = _; rw [ha9, hb9]; rfl
        have v4 : ((fw.length : Int) + 1).toNat = fw.length + 1 := by omega
        have v5 : (0 : Int) ≤ (fw.length : Int) + 1 := by omega
        have v6 : (fw.length : Int) + 1 < (t.length : Int) + 1 := by omega
        clear m0 m1 m2 kg ha9 hb9 hz hn hdr hit hif
        go_wp2_with (first
          | (go_at_call 10; refine (FC.out _ _ _).mono ?_; rintro e w4 ⟨rfl, b4⟩; have B4 : Hid (Below W.heap.size W w4) := LP.out.below.trans (b4.mono LP.out.below.size); have r4 := (b4.block _ (by omega)).trans LP.out.r30; have c4 := fun j => cell_row r4 j; have f4 := fun j => unfrozen_row r4 j; have hs4 : W.heap.size + 1 < w4.heap.size := (Array.getElem?_eq_some_iff.1 r4).1; clear b4 r4))
        exact bodyPost_ret (v := .agg #[.int .i64 140, .int .i64 a9, .int .i64 b9]) (by simp [results, Tryd.results21, go_sem, c4]) rfl ⟨ans_below (by have := HW.out; omega) (B4.out.mono HW.out) _ _ _, (kp_below B4.out).ans (by omega), .inl ⟨_, HFL.out, congrArg _ HFV.out.symm⟩⟩
      · have HCK : Hid (chk T s fw y t it0 = (none, it)) := by
          show _ = _
          rw [← CK.out, hdr, List.drop_of_length_le (by omega)]
          rfl
        obtain ⟨ll, hll⟩ := (LG.out none it HCK.out).2 rfl
        have HLL := hid hll
        have TE0 : Hid (Te w W WW r text (dOf s) x (str y.1) (.int .i64 a0) (.int .i64 b0) 0 it.nm it.op p q) := ⟨DW.out, LP.out.r30, LP.out.r71, LP.out.rg, LP.out.rn, LP.out.below.mono HW.out, kp_below LP.out.below⟩
        have CAU : Hid (CellsAt WW su (usC text (usOf (-1 : Int) it.us)) ∧ (su = none → cu = 0)) := by
          obtain ⟨sa, c', hv, hc, hnl, _⟩ := own_cells LP.out.own
          simp only [Value.slice.injEq, true_and] at hv
          obtain ⟨rfl, rfl⟩ := hv
          exact ⟨hc, hnl⟩
        have hus4 : it.us.length ≤ 4 := by omega
        have cru := (cell_row DW.out.box 5).trans (show (rcells (dOf s) x)[5]? = some x.uv from rfl)
        have hrW : r < WW.heap.size := DW.out.size
        have hng2 : ¬ ((t.length : Int) + 1 > (fw.length : Int) + 1) := by omega
        clear hll hn hdr
        go_wp2_with (first
          | (have z9 := TE9; clear z9; rw [← HW9.out])
          | (have z7 := TE7; clear z7; rw [← HW7.out])
          | (have z7 := TE7; clear z7; at_builtin; refine mk_far rfl _ _ 23 _ 8 rfl Tryd.underlying23 info3 rfl (by decide) (⟨TE7.out.dr.outs, TE7.out.dr.below⟩ : Mk w W7 3 1 x.ov (dOf s).outs (List.replicate (dOf s).outs (.int .i64 0))) [.int .i64 0] 3 _ rfl rfl rfl rfl (fun u hu => by simp at hu; subst hu; rfl) (by have := HSO.out; show s.outs ≤ _; omega) (by have := HSO.out; show (s.outs + 1) * 8 ≤ _; omega) ?_; intro sx cx w8 g8 m8 f8; obtain ⟨bx8, t9⟩ := (TE7.out.on ((Below.refl W7.heap.size W7).alloc (Nat.le_refl _) (Obj.cells [Value.int .i64 0].toArray 3))).outp H0.out rfl m8.own g8 f8; have c8 := fun j => cell_row bx8 j; have u8 := fun j => unfrozen_row bx8 j; have hb8 := (Array.getElem?_eq_some_iff.1 bx8).1; obtain ⟨W9, hW9⟩ : ∃ W9, W9 = w8.setCell ⟨r, 2, none⟩ (.slice sx ((dOf s).outs + 1) cx) := ⟨_, rfl⟩; rw [← hW9] at t9; have TE9 := hid t9; have HW9 := hid hW9; have c4 := fun j => cell_row TE9.out.r30 j; have f4 := fun j => unfrozen_row TE9.out.r30 j; have hs4 : W.heap.size + 1 < W9.heap.size := (Array.getElem?_eq_some_iff.1 TE9.out.r30).1; clear g8 m8 f8 bx8 t9 hW9)
          | (at_builtin; refine wpl_cells _ rfl _ _ 47 rfl w.heap.size 74 _ 5 48 underUse infoUse rfl (by decide) x.uv (dOf s).us.length (usC text (dOf s).us) rfl TE0.out.dr.uses su it.us.length cu (usC text (usOf (-1 : Int) it.us)) rfl (by rw [usC_len, usOf_len]) CAU.out.1 CAU.out.2 (usC_one _ _) (by have := HUM.out; show (usesOf 0 s.lines).length + _ ≤ maxLen; unfold maxLen; omega) (by have := HUM.out; show ((usesOf 0 s.lines).length + _) * 48 ≤ _; omega) TE0.out.dr.below.size ?_; intro v6 w6 o6 f6; obtain ⟨sv6, cv6, rfl⟩ := own_shape o6; obtain ⟨bx6, t7⟩ := TE0.out.use (us := usOf (-1 : Int) it.us) H0.out (by rw [usOf_len]; exact o6) f6.grown; have c6 := fun j => cell_row bx6 j; have u6 := fun j => unfrozen_row bx6 j; have hb6 := (Array.getElem?_eq_some_iff.1 bx6).1; obtain ⟨W7, hW7⟩ : ∃ W7, W7 = w6.setCell ⟨r, 5, none⟩ (.slice sv6 ((dOf s).us.length + it.us.length) cv6) := ⟨_, rfl⟩; rw [← hW7] at t7; have TE7 := hid t7; have HW7 := hid hW7; have cro7 := (cell_row TE7.out.dr.box 2).trans (show _ = some x.ov from rfl); have hr7 := TE7.out.dr.size; have hs7 := TE7.out.size; clear o6 f6 bx6 t7 hW7))
        exact bodyPost_ret (v := .agg #[.int .i64 0, .int .i64 0, .int .i64 0]) (by simp [results, Tryd.results21, go_sem, c4]) rfl ⟨ans_below (by have := HW.out; omega) TE9.out.bl _ _ _, TE9.out.kp.ans (by omega), .inr ⟨by rw [HLL.out]; exact HF.out, rfl, _, by rw [HLL.out, dOf_outed]; exact TE9.out.dr.ans TE9.out.r30 (by have := HW.out; omega) _ _ _⟩⟩
end Go.Proofs.YtfmmmhcpdinhgabDoor
/-
  The document's reading while its names become places.
-/
namespace Go.Proofs.YtfmmmhcpdinhgabDoor
open Go.RowKit Go.Deep PureNet PureRd
set_option maxRecDepth 100000

structure Rz (w W : World) (r : Nat) (text : List UInt8) (d : Db) (x : Dx) (os : List Int) : Prop where
  box : W.heap[r]? = some (.cells (rcells d x) 49 (0, 0))
  low : w.heap.size ≤ r
  krow : W.heap[x.kb]? = some (.cells #[x.nv, x.pv] 45 (0, 0))
  klow : w.heap.size ≤ x.kb
  kon : W.ownsRow w.heap.size 9 1 x.nv x.N.length (ns x.N)
  kop : W.ownsRow w.heap.size 3 1 x.pv x.P.length (nu x.P)
  gates : W.ownsRow w.heap.size 57 6 x.gv d.gs.length (gas d.gs)
  outs : W.ownsRow w.heap.size 3 1 x.ov os.length (nu os)
  ats : W.ownsRow w.heap.size 28 2 x.av d.ats.length (atC text d.ats)
  uses : W.ownsRow w.heap.size 74 5 x.uv d.us.length (usC text d.us)
  two : ∀ g, x.ov.ownBlock = some g → x.pv.ownBlock ≠ some g
  hPl : x.P.length = x.N.length
  rise : Rising x.N
  pl : ∀ k : List UInt8, placeN x.N x.P ⟨k.toArray⟩ = plI (d.pl k)
  below : Below w.heap.size w W
section
variable {w W W' : World} {r : Nat} {text : List UInt8} {d : Db} {x : Dx} {os : List Int}
theorem Rz.of (h : Dr w W r text d x) : Rz w W r text d x (List.replicate d.outs 0) :=
  ⟨h.box, h.low, h.krow, h.klow, h.kon, h.kop, h.gates, by rw [List.length_replicate, nu, List.map_replicate]; exact h.outs, h.ats, h.uses, h.two, h.hPl, h.rise, h.pl, h.below⟩
theorem Rz.size (h : Rz w W r text d x os) : r < W.heap.size := (Array.getElem?_eq_some_iff.1 h.box).1
theorem Rz.ksize (h : Rz w W r text d x os) : x.kb < W.heap.size := (Array.getElem?_eq_some_iff.1 h.krow).1
theorem Rz.on (h : Rz w W r text d x os) (hb : Below W.heap.size W W') : Rz w W' r text d x os :=
  ⟨(hb.block _ h.size).trans h.box, h.low, (hb.block _ h.ksize).trans h.krow, h.klow, ownsRow_below h.kon hb, ownsRow_below h.kop hb, ownsRow_below h.gates hb, ownsRow_below h.outs hb, ownsRow_below h.ats hb, ownsRow_below h.uses hb, h.two, h.hPl, h.rise, h.pl, h.below.trans (hb.mono h.below.size)⟩
theorem Rz.place (h : Rz w W r text d x os) (hN : x.N.length ≤ 1048576) (k : List UInt8) :
    Calls Tryd.prog 22 #[.pointer (some ⟨x.kb, 0, none⟩), str k] W fun e w' => e = .returned (.int .i64 (plI (d.pl k))) ∧ Below W.heap.size W w' := by
  obtain ⟨sn, cn, e1, hcn, _⟩ := own_cells h.kon
  obtain ⟨sp, cp, e2, hcp, _⟩ := own_cells h.kop
  have hk := h.krow
  rw [e1, e2, h.hPl] at hk
  have := placeD_any x.kb sn sp cn cp x.N x.P ⟨k.toArray⟩ W hk hcn hcp h.hPl h.rise hN
  rw [h.pl k] at this
  exact this
/-- a place is put among the outs. -/
theorem Rz.out (h : Rz w W r text d x os) {g c k : Nat} (hv : x.ov = .slice (some ⟨g, 0, none⟩) os.length c) (p : Int) : Rz w (W.setCell ⟨g, k, none⟩ (.int .i64 p)) r text d x (os.set k p) := by
  obtain ⟨o1, g1⟩ := ShfKit.own_set (j := k) h.outs hv (.int .i64 p)
  have hob : x.ov.ownBlock = some g := by rw [hv]; rfl
  have keep : ∀ {e size n : Nat} {v : Value} {xs : List Value}, W.ownsRow w.heap.size e size v n xs → e ≠ 3 → (W.setCell ⟨g, k, none⟩ (.int .i64 p)).ownsRow w.heap.size e size v n xs := fun ho h1 => own_kept ho h.outs g1 h1
  obtain ⟨c1, f1, hk1⟩ := Lib.ownsRow_kind h.outs g hob
  have n1 : r ≠ g := fun e => by
    have h1 := h.box
    rw [e, hk1] at h1
    simp at h1
  have n2 : x.kb ≠ g := fun e => by
    have h1 := h.krow
    rw [e, hk1] at h1
    simp at h1
  have o2 : (W.setCell ⟨g, k, none⟩ (.int .i64 p)).ownsRow w.heap.size 3 1 x.ov (os.set k p).length (nu (os.set k p)) := by
    rw [List.length_set, nu, List.map_set]
    exact o1
  exact ⟨(Below.heap_setCell W _ _ _ n1).trans h.box, h.low, (Below.heap_setCell W _ _ _ n2).trans h.krow, h.klow, keep h.kon (by decide), own_same h.kop (fun j hj => Below.heap_setCell W _ _ _ (fun e => h.two g hob (by have e2 : j = g := e; rw [← e2]; exact hj))), keep h.gates (by decide), o2, keep h.ats (by decide), keep h.uses (by decide), h.two, h.hPl, h.rise, h.pl, h.below.setCell (p := ⟨g, k, none⟩) (h.outs.lt g hob).1 _⟩
theorem gas_set (gs : List Ga) (j : Nat) (g : Ga) (hj : j < gs.length) : ((((((gas gs).set (j * 6) (.int .i64 g.kind)).set (j * 6 + 1) (.string g.name)).set (j * 6 + 2) (.int .i64 g.op)).set (j * 6 + 3) (.int .i64 g.a)).set (j * 6 + 4) (.int .i64 g.b)).set (j * 6 + 5) (.int .i64 g.c) = gas (gs.set j g) := by
  induction gs generalizing j with
  | nil => simp at hj
  | cons a t ih =>
    have e : ∀ (b : Ga) (l : List Ga), gas (b :: l) = [.int .i64 b.kind, .string b.name, .int .i64 b.op, .int .i64 b.a, .int .i64 b.b, .int .i64 b.c] ++ gas l := fun b l => by simp [gas, ga]
    cases j with
    | zero =>
      rw [e, List.set_cons_zero, e]
      rfl
    | succ j =>
      have hj2 : j < t.length := by simpa using hj
      have e6 : ∀ k, j * 6 + 6 + k = j * 6 + k + 6 := fun k => by omega
      have e60 : (j + 1) * 6 = j * 6 + 6 := by omega
      rw [e, List.set_cons_succ, e, ← ih j hj2, e60, e6 1, e6 2, e6 3, e6 4, e6 5]
      rfl
/-- a line is written over. -/
def putGa (W : World) (g j : Nat) (y : Ga) : World := (((((W.setCell ⟨g, j * 6, none⟩ (.int .i64 y.kind)).setCell ⟨g, j * 6 + 1, none⟩ (.string y.name)).setCell ⟨g, j * 6 + 2, none⟩ (.int .i64 y.op)).setCell ⟨g, j * 6 + 3, none⟩ (.int .i64 y.a)).setCell ⟨g, j * 6 + 4, none⟩ (.int .i64 y.b)).setCell ⟨g, j * 6 + 5, none⟩ (.int .i64 y.c)
theorem putGa_other (W : World) (g j : Nat) (y : Ga) (k : Nat) (hk : k ≠ g) : (putGa W g j y).heap[k]? = W.heap[k]? := by
  unfold putGa
  rw [Below.heap_setCell _ _ _ _ (show k ≠ g from hk), Below.heap_setCell _ _ _ _ (show k ≠ g from hk), Below.heap_setCell _ _ _ _ (show k ≠ g from hk), Below.heap_setCell _ _ _ _ (show k ≠ g from hk), Below.heap_setCell _ _ _ _ (show k ≠ g from hk), Below.heap_setCell _ _ _ _ (show k ≠ g from hk)]
theorem putGa_below {w0 : World} {B : Nat} (h : Below B w0 W) (g j : Nat) (y : Ga) (hg : B ≤ g) : Below B w0 (putGa W g j y) :=
  (((((h.setCell (p := ⟨g, j * 6, none⟩) hg _).setCell (p := ⟨g, j * 6 + 1, none⟩) hg _).setCell (p := ⟨g, j * 6 + 2, none⟩) hg _).setCell (p := ⟨g, j * 6 + 3, none⟩) hg _).setCell (p := ⟨g, j * 6 + 4, none⟩) hg _).setCell (p := ⟨g, j * 6 + 5, none⟩) hg _
theorem own_put {B n : Nat} {gs : List Ga} {v : Value} (h : W.ownsRow B 57 6 v n (gas gs)) {g c j : Nat} (hv : v = .slice (some ⟨g, 0, none⟩) n c) (hj : j < gs.length) (y : Ga) : (putGa W g j y).ownsRow B 57 6 v n (gas (gs.set j y)) := by
  rw [← gas_set gs j y hj]
  exact (ShfKit.own_set (ShfKit.own_set (ShfKit.own_set (ShfKit.own_set (ShfKit.own_set (ShfKit.own_set h hv _).1 hv _).1 hv _).1 hv _).1 hv _).1 hv _).1
theorem Rz.line (h : Rz w W r text d x os) {g c j : Nat} (hv : x.gv = .slice (some ⟨g, 0, none⟩) d.gs.length c) (hj : j < d.gs.length) (y : Ga) : Rz w (putGa W g j y) r text { d with gs := d.gs.set j y } x os := by
  have hob : x.gv.ownBlock = some g := by rw [hv]; rfl
  obtain ⟨c1, f1, hk1⟩ := Lib.ownsRow_kind h.gates g hob
  have keep : ∀ {e size n : Nat} {v : Value} {xs : List Value}, W.ownsRow w.heap.size e size v n xs → e ≠ 57 → (putGa W g j y).ownsRow w.heap.size e size v n xs := fun ho h1 => own_same ho (fun k hk => putGa_other W g j y k (fun e => by
    obtain ⟨c2, f2, hk2⟩ := Lib.ownsRow_kind ho k hk
    rw [e, hk1] at hk2
    simp at hk2
    exact h1 hk2.2.1.symm))
  have n1 : r ≠ g := fun e => by
    have h1 := h.box
    rw [e, hk1] at h1
    simp at h1
  have n2 : x.kb ≠ g := fun e => by
    have h1 := h.krow
    rw [e, hk1] at h1
    simp at h1
  exact ⟨(putGa_other W g j y r n1).trans h.box, h.low, (putGa_other W g j y x.kb n2).trans h.krow, h.klow, keep h.kon (by decide), keep h.kop (by decide), by show (putGa W g j y).ownsRow w.heap.size 57 6 x.gv (d.gs.set j y).length (gas (d.gs.set j y)); rw [List.length_set]; exact own_put h.gates hv hj y, keep h.outs (by decide), keep h.ats (by decide), keep h.uses (by decide), h.two, h.hPl, h.rise, h.pl, putGa_below h.below g j y (h.gates.lt g hob).1⟩
theorem usC_at (text : List UInt8) (us : List Us) : ∀ (k j : Nat) (u : Us), us[k]? = some u → j < 5 → (usC text us)[k * 5 + j]? = (usC1 text u)[j]? := by
  induction us with
  | nil => intro k j u h; simp at h
  | cons z t ih =>
    intro k j u h hj
    have e : usC text (z :: t) = usC1 text z ++ usC text t := by simp [usC]
    have hl : (usC1 text z).length = 5 := rfl
    rw [e]
    cases k with
    | zero =>
      simp at h
      subst h
      rw [Nat.zero_mul, Nat.zero_add, List.getElem?_append_left (by omega)]
    | succ k =>
      rw [List.getElem?_append_right (by omega)]
      have : (k + 1) * 5 + j - (usC1 text z).length = k * 5 + j := by omega
      rw [this]
      exact ih k j u (by simpa using h) hj
end
/-! ### counts -/
def cntU (us : List Us) : Nat := (us.filter fun u => decide (u.gate < 0)).length
theorem cntU_app (a b : List Us) : cntU (a ++ b) = cntU a + cntU b := by simp [cntU]
theorem cntU_usOf (g : Int) (us : List Wd) : cntU (usOf g us) = if g < 0 then us.length else 0 := by
  unfold cntU
  by_cases h : g < 0
  · rw [if_pos h, List.filter_eq_self.2 (fun u hu => ?_), usOf_len]
    simp only [usOf, List.mem_map] at hu
    obtain ⟨y, _, rfl⟩ := hu
    simpa using h
  · rw [if_neg h, List.filter_eq_nil_iff.2 (fun u hu => ?_)]
    · rfl
    · simp only [usOf, List.mem_map] at hu
      obtain ⟨y, _, rfl⟩ := hu
      simpa using h
theorem cntU_usesOf : ∀ (ls : List Ln) (j : Nat), (∀ l ∈ ls, LnOk l) → cntU (usesOf j ls) = outsN ls
  | [], j, _ => rfl
  | l :: t, j, h => by
    have hl := h l (by simp)
    have ht := fun j => cntU_usesOf t j (fun m hm => h m (List.mem_cons_of_mem _ hm))
    rw [usesOf, outsN_cons]
    by_cases hk : l.kind = 0
    · rw [if_pos hk, if_pos hk, cntU_app, cntU_usOf, if_pos (by decide), ht, hl.2.2, hk]
      show 1 + outsN t = outsN t + 1
      omega
    · rw [if_neg hk, if_neg hk, cntU_app, cntU_usOf, if_neg (by omega), ht]
      omega
theorem usOf_mem {g : Int} {us : List Wd} (h3 : us.length ≤ 3) {u : Us} (hu : u ∈ usOf g us) : u.gate = g ∧ 0 ≤ u.op ∧ u.op ≤ 2 := by
  simp only [usOf, List.mem_map] at hu
  obtain ⟨y, hy, rfl⟩ := hu
  have := List.mem_zipIdx hy
  refine ⟨rfl, by show (0 : Int) ≤ (y.2 : Int); omega, ?_⟩
  show (y.2 : Int) ≤ 2
  omega
theorem usesOf_in : ∀ (ls : List Ln) (j : Nat), (∀ l ∈ ls, l.uses.length ≤ 3) → ∀ u ∈ usesOf j ls, (u.gate = -1 ∨ (0 ≤ u.gate ∧ u.gate < ((j + (gatesOf ls).length : Nat) : Int))) ∧ 0 ≤ u.op ∧ u.op ≤ 2
  | [], j, _, u, hu => by simp [usesOf] at hu
  | l :: t, j, h, u, hu => by
    have hl := h l (by simp)
    have ht := fun j => usesOf_in t j (fun m hm => h m (List.mem_cons_of_mem _ hm)) u
    rw [usesOf] at hu
    rw [gatesOf_cons]
    by_cases hk : l.kind = 0
    · rw [if_pos hk] at hu
      rw [if_pos hk]
      rcases List.mem_append.1 hu with hu | hu
      · obtain ⟨a, b⟩ := usOf_mem hl hu
        exact ⟨.inl a, b⟩
      · exact ht j hu
    · rw [if_neg hk] at hu
      rw [if_neg hk]
      rcases List.mem_append.1 hu with hu | hu
      · obtain ⟨a, b⟩ := usOf_mem hl hu
        refine ⟨.inr ⟨by omega, ?_⟩, b⟩
        rw [a, List.length_cons]
        omega
      · obtain ⟨a, b⟩ := ht (j + 1) hu
        refine ⟨a.imp id (fun ⟨a1, a2⟩ => ⟨a1, ?_⟩), b⟩
        rw [List.length_cons]
        have : j + ((gatesOf t).length + 1) = j + 1 + (gatesOf t).length := by omega
        rw [this]
        exact a2
end Go.Proofs.YtfmmmhcpdinhgabDoor
/-
  The document's own leans, Count, firsts.
-/
namespace Go.Proofs.YtfmmmhcpdinhgabDoor
open Go.RowKit Go.Deep PureNet
set_option maxRecDepth 100000

/-- on how many lines a line leans, and which, as a value. -/
def leansV (g : Ga) : Value := if g.kind = 2 then .tuple #[.int .i64 2, .agg #[.int .i64 g.a, .int .i64 g.b, .int .i64 0]] else if g.kind = 4 then .tuple #[.int .i64 3, .agg #[.int .i64 g.a, .int .i64 g.b, .int .i64 g.c]] else .tuple #[.int .i64 0, .agg #[.int .i64 0, .int .i64 0, .int .i64 0]]
end Go.Proofs.YtfmmmhcpdinhgabDoor
/-
  Lines that bear on something: marks, and the rest turned.
-/
namespace PureNet
set_option maxRecDepth 100000

theorem way_snoc {l : List Ga} {i j k : Nat} (h : Way l i j) (h2 : Leans l j k) : Way l i k := by
  induction h using PureNet.Way.ind with
  | one h1 => exact .more h1 (.one h2)
  | more h1 _ ih => exact .more h1 (ih h2)
end PureNet
/-
  Circles: where each line of a set leans on one of it, one of it is in a circle.
-/
namespace PureNet
set_option maxRecDepth 100000

theorem holes (n : Nat) : ∀ f : Nat → Nat, (∀ k, k ≤ n → f k < n) → ∃ a b, a < b ∧ b ≤ n ∧ f a = f b := by
  induction n with
  | zero => intro f h; have := h 0 (Nat.le_refl _); omega
  | succ n ih =>
    intro f h
    by_cases hx : ∃ k, k ≤ n ∧ f k = f (n + 1)
    · obtain ⟨k, hk, e⟩ := hx
      exact ⟨k, n + 1, by omega, Nat.le_refl _, e⟩
    · have hne : ∀ k, k ≤ n → f k ≠ f (n + 1) := fun k hk e => hx ⟨k, hk, e⟩
      obtain ⟨a, b, hab, hb, e⟩ := ih (fun k => if f k = n then f (n + 1) else f k) (fun k hk => by
        have h1 := h k (by omega)
        have h2 := h (n + 1) (Nat.le_refl _)
        have h3 := hne k hk
        show (if f k = n then f (n + 1) else f k) < n
        split <;> omega)
      refine ⟨a, b, hab, by omega, ?_⟩
      have ha := hne a (by omega)
      have hb' := hne b hb
      have e2 : (if f a = n then f (n + 1) else f a) = (if f b = n then f (n + 1) else f b) := e
      split at e2 <;> split at e2 <;> omega
end PureNet
/-
  The lines of a circuit, each behind those on which it leans: plain mathematics.
-/
namespace PureNet
set_option maxRecDepth 100000

/-- who leans on whom: targets and users, in their order. -/
def entsOf (l : List Ga) : List (Nat × Nat) := l.zipIdx.flatMap fun p => (leansOn p.1).map fun a => (a.toNat, p.2)
theorem ents_snoc (l : List Ga) (g : Ga) : entsOf (l ++ [g]) = entsOf l ++ (leansOn g).map fun a => (a.toNat, l.length) := by simp [entsOf, List.zipIdx_append]
theorem ents_take (l : List Ga) (i : Nat) (g : Ga) (h : l[i]? = some g) : entsOf (l.take (i + 1)) = entsOf (l.take i) ++ (leansOn g).map fun a => (a.toNat, i) := by
  have hi := (List.getElem?_eq_some_iff.1 h).1
  rw [List.take_add_one, h]
  simp only [Option.toList_some]
  rw [ents_snoc, List.length_take, Nat.min_eq_left (by omega)]
theorem ents_mem (l : List Ga) (y x : Nat) : (y, x) ∈ entsOf l ↔ ∃ g a, l[x]? = some g ∧ a ∈ leansOn g ∧ a.toNat = y := by
  unfold entsOf
  rw [List.mem_flatMap]
  constructor
  · rintro ⟨⟨g, i⟩, hp, hm⟩
    rw [List.mem_map] at hm
    obtain ⟨a, ha, e⟩ := hm
    have hp' := List.mem_zipIdx_iff_getElem?.1 hp
    simp only [Prod.mk.injEq] at e
    obtain ⟨rfl, rfl⟩ := e
    exact ⟨g, a, hp', ha, rfl⟩
  · rintro ⟨g, a, hg, ha, rfl⟩
    exact ⟨(g, x), List.mem_zipIdx_iff_getElem?.2 hg, List.mem_map.2 ⟨a, ha, rfl⟩⟩
theorem leans_len (g : Ga) : (leansOn g).length ≤ 3 := by unfold leansOn; split; simp; split <;> simp
theorem ents_take_len (l : List Ga) : ∀ i, i ≤ l.length → (entsOf (l.take i)).length ≤ 3 * i := by
  intro i
  induction i with
  | zero => intro _; simp [entsOf]
  | succ i ih =>
    intro h
    have hg : l[i]? = some l[i] := List.getElem?_eq_getElem (by omega)
    rw [ents_take l i _ hg, List.length_append, List.length_map]
    have := ih (by omega)
    have := leans_len l[i]
    omega
theorem ents_len (l : List Ga) : (entsOf l).length ≤ 3 * l.length := by
  have := ents_take_len l l.length (Nat.le_refl _)
  rwa [List.take_length] at this

/-- the last entry below m whose target is y, or -1. -/
def lastI (E : List (Nat × Nat)) (y : Nat) : Nat → Int
  | 0 => -1
  | m + 1 => if (E.getD m (0, 0)).1 = y then (m : Int) else lastI E y m
theorem lastI_lt (E : List (Nat × Nat)) (y m : Nat) : -1 ≤ lastI E y m ∧ lastI E y m < m := by
  induction m with
  | zero => simp [lastI]
  | succ m ih => unfold lastI; split <;> omega
theorem lastI_hit (E : List (Nat × Nat)) (y m k : Nat) (h : lastI E y m = (k : Int)) : k < m ∧ (E.getD k (0, 0)).1 = y ∧ ∀ j, k < j → j < m → (E.getD j (0, 0)).1 ≠ y := by
  induction m with
  | zero => simp [lastI] at h
  | succ m ih =>
    unfold lastI at h
    split at h
    · next he =>
      obtain rfl : m = k := by omega
      exact ⟨by omega, he, fun j h1 h2 => by omega⟩
    · next he =>
      obtain ⟨h1, h2, h3⟩ := ih h
      refine ⟨by omega, h2, fun j h4 h5 => ?_⟩
      by_cases hjm : j = m
      · rw [hjm]; exact he
      · exact h3 j h4 (by omega)
theorem lastI_none (E : List (Nat × Nat)) (y m : Nat) (h : lastI E y m < 0) : ∀ j, j < m → (E.getD j (0, 0)).1 ≠ y := by
  induction m with
  | zero => intro j hj; omega
  | succ m ih =>
    unfold lastI at h
    split at h
    · omega
    · next he =>
      intro j hj
      by_cases hjm : j = m
      · rw [hjm]; exact he
      · exact ih h j (by omega)

/-! ### how many are not done -/
def cntP (p : Nat → Bool) (m : Nat) : Nat := ((List.range m).filter p).length
theorem cntP_succ (p : Nat → Bool) (m : Nat) : cntP p (m + 1) = cntP p m + (if p m = true then 1 else 0) := by
  unfold cntP
  rw [List.range_succ, List.filter_append, List.length_append]
  cases h : p m <;> simp [h]
theorem cntP_congr {p q : Nat → Bool} {m : Nat} (h : ∀ j, j < m → p j = q j) : cntP p m = cntP q m := by
  induction m with
  | zero => rfl
  | succ m ih => rw [cntP_succ, cntP_succ, ih (fun j hj => h j (by omega)), h m (by omega)]
theorem cntP_zero {p : Nat → Bool} {m : Nat} : cntP p m = 0 ↔ ∀ j, j < m → p j = false := by
  induction m with
  | zero => simp [cntP]
  | succ m ih =>
    rw [cntP_succ]
    constructor
    · intro h j hj
      have h1 : cntP p m = 0 := by omega
      have h2 : p m = false := by cases hp : p m with | false => rfl | true => rw [hp] at h; simp at h
      by_cases hjm : j = m
      · rw [hjm]; exact h2
      · exact ih.1 h1 j (by omega)
    · intro h
      rw [ih.2 (fun j hj => h j (by omega)), h m (by omega)]
      simp
theorem cntP_less {p q : Nat → Bool} {m k : Nat} (hk : k < m) (hp : p k = true) (hq : q k = false) (h : ∀ j, j < m → j ≠ k → p j = q j) : cntP p m = cntP q m + 1 := by
  induction m with
  | zero => omega
  | succ m ih =>
    rw [cntP_succ, cntP_succ]
    by_cases hkm : k = m
    · subst hkm
      rw [hp, hq, cntP_congr (fun j hj => h j (by omega) (by omega))]
      simp
    · rw [ih (by omega) (fun j hj hne => h j (by omega) hne), h m (by omega) (by omega)]
      omega
theorem cntP_le (p : Nat → Bool) (m : Nat) : cntP p m ≤ m := by
  unfold cntP
  have := List.length_filter_le p (List.range m)
  simpa using this

/-- how many operands of a line are not done. -/
def waits (E : List (Nat × Nat)) (done : Nat → Bool) (x : Nat) : Nat := cntP (fun j => decide ((E.getD j (0, 0)).2 = x) && !done j) E.length

/-- what holds while lines are laid: D: the entries that are done. -/
structure LayS (l : List Ga) (out : List Nat) (q : Nat) (D : Nat → Bool) : Prop where
  nd : out.Nodup
  lt : ∀ x ∈ out, x < l.length
  zero : ∀ x, x < l.length → (x ∈ out ↔ waits (entsOf l) D x = 0)
  sub : ∀ j, j < (entsOf l).length → D j = true → ((entsOf l).getD j (0, 0)).1 ∈ out.take (q + 1)
  ord : ∀ (k x : Nat), out[k]? = some x → ∀ y, (y, x) ∈ entsOf l → ∃ m, m < k ∧ out[m]? = some y
theorem getD_mem {E : List (Nat × Nat)} {j : Nat} (h : j < E.length) : E.getD j (0, 0) ∈ E := by
  rw [List.getD_eq_getElem?_getD, List.getElem?_eq_getElem h]
  exact List.getElem_mem h
theorem mem_take_at {out : List Nat} {q y : Nat} (h : y ∈ out.take q) : ∃ m, m < q ∧ out[m]? = some y := by
  obtain ⟨m, hm, e⟩ := List.getElem_of_mem h
  have hm2 : m < q ∧ m < out.length := by rw [List.length_take] at hm; omega
  refine ⟨m, hm2.1, ?_⟩
  rw [List.getElem_take] at e
  rw [List.getElem?_eq_getElem hm2.2, e]
theorem waits_congr {E : List (Nat × Nat)} {D D' : Nat → Bool} {x : Nat} (h : ∀ j, j < E.length → (E.getD j (0, 0)).2 = x → D j = D' j) : waits E D x = waits E D' x := by
  unfold waits
  refine cntP_congr fun j hj => ?_
  by_cases hx : (E.getD j (0, 0)).2 = x
  · rw [h j hj hx]
  · simp only [hx, decide_false, Bool.false_and]
theorem LayS.congr {l : List Ga} {out : List Nat} {q : Nat} {D D' : Nat → Bool} (h : LayS l out q D) (hD : ∀ j, j < (entsOf l).length → D j = D' j) : LayS l out q D' :=
  ⟨h.nd, h.lt, fun x hx => by rw [h.zero x hx, waits_congr (fun j hj _ => hD j hj)], fun j hj hd => h.sub j hj (by rw [hD j hj]; exact hd), h.ord⟩
/-- an operand of a line is done. -/
theorem LayS.one {l : List Ga} {out : List Nat} {q k y x : Nat} {D D' : Nat → Bool} (h : LayS l out q D) (hk : k < (entsOf l).length) (hE : (entsOf l).getD k (0, 0) = (y, x)) (hq : out[q]? = some y) (hx : x < l.length) (hDk : D k = false) (hDk' : D' k = true) (hD : ∀ j, j < (entsOf l).length → j ≠ k → D j = D' j) :
    waits (entsOf l) D x = waits (entsOf l) D' x + 1 ∧ (waits (entsOf l) D' x = 0 → LayS l (out ++ [x]) q D') ∧ (waits (entsOf l) D' x ≠ 0 → LayS l out q D') := by
  have hql := (List.getElem?_eq_some_iff.1 hq).1
  have hw : waits (entsOf l) D x = waits (entsOf l) D' x + 1 := by
    refine cntP_less hk ?_ ?_ fun j hj hne => ?_
    · simp only [hE, hDk, decide_true, Bool.not_false, Bool.and_true]
    · simp only [hDk', Bool.not_true, Bool.and_false]
    · rw [hD j hj hne]
  have hz : ∀ z, z ≠ x → waits (entsOf l) D z = waits (entsOf l) D' z := fun z hne => waits_congr fun j hj h2 => hD j hj (by
    rintro rfl
    rw [hE] at h2
    exact hne h2.symm)
  have hnx : x ∉ out := fun hm => by
    have := (h.zero x hx).1 hm
    omega
  have hsub : ∀ j, j < (entsOf l).length → D' j = true → ((entsOf l).getD j (0, 0)).1 ∈ out.take (q + 1) := fun j hj hd => by
    by_cases hjk : j = k
    · subst hjk
      rw [hE]
      rw [List.take_add_one, hq]
      simp
    · exact h.sub j hj (by rw [hD j hj hjk]; exact hd)
  refine ⟨hw, fun h0 => ?_, fun h0 => ?_⟩
  · refine ⟨?_, fun z hz' => ?_, fun z hz' => ?_, fun j hj hd => ?_, fun m z hm y' hy => ?_⟩
    · rw [List.nodup_append]
      refine ⟨h.nd, by simp, fun a ha b hb => ?_⟩
      simp at hb
      subst hb
      rintro rfl
      exact hnx ha
    · rcases List.mem_append.1 hz' with h1 | h1
      · exact h.lt z h1
      · simp at h1; subst h1; exact hx
    · rw [List.mem_append]
      by_cases hzx : z = x
      · subst hzx
        constructor
        · intro _; exact h0
        · intro _; right; simp
      · rw [← hz z hzx, ← h.zero z hz']
        constructor
        · rintro (h1 | h1)
          · exact h1
          · simp at h1; exact absurd h1 hzx
        · intro h1; exact .inl h1
    · rw [List.take_append_of_le_length (by omega)]
      exact hsub j hj hd
    · by_cases hml : m < out.length
      · rw [List.getElem?_append_left hml] at hm
        obtain ⟨m2, h2, h3⟩ := h.ord m z hm y' hy
        exact ⟨m2, h2, by rw [List.getElem?_append_left (by omega)]; exact h3⟩
      · rw [List.getElem?_append_right (by omega)] at hm
        have hm0 := (List.getElem?_eq_some_iff.1 hm).1
        simp at hm0
        have hmq : m = out.length := by omega
        subst hmq
        simp at hm
        subst hm
        obtain ⟨j, hj, ej⟩ := List.getElem_of_mem hy
        have eg : (entsOf l).getD j (0, 0) = (y', x) := by rw [List.getD_eq_getElem?_getD, List.getElem?_eq_getElem hj, ej]; rfl
        have hdj : D' j = true := by
          have := cntP_zero.1 h0 j hj
          simp only [eg, decide_true, Bool.true_and] at this
          simpa using this
        have hmem := hsub j hj hdj
        rw [eg] at hmem
        obtain ⟨m2, h2, h3⟩ := mem_take_at hmem
        exact ⟨m2, by omega, by rw [List.getElem?_append_left (by omega)]; exact h3⟩
  · refine ⟨h.nd, h.lt, fun z hz' => ?_, hsub, h.ord⟩
    by_cases hzx : z = x
    · subst hzx
      constructor
      · intro h1; exact absurd h1 hnx
      · intro h1; exact absurd h1 h0
    · rw [← hz z hzx]
      exact h.zero z hz'
/-- an entry is done: its target has been taken up, or it is of the one that is being taken up, and above e. -/
def doneAt (E : List (Nat × Nat)) (out : List Nat) (q : Nat) (e : Int) (j : Nat) : Bool := decide ((E.getD j (0, 0)).1 ∈ out.take q) || (decide (out[q]? = some (E.getD j (0, 0)).1) && decide (e < (j : Int)))
theorem doneAt_app (E : List (Nat × Nat)) (out : List Nat) (x q : Nat) (e : Int) (j : Nat) (hq : q < out.length) : doneAt E (out ++ [x]) q e j = doneAt E out q e j := by
  unfold doneAt
  rw [List.take_append_of_le_length (by omega), List.getElem?_append_left hq]
theorem nodup_take {out : List Nat} (h : out.Nodup) {q y : Nat} (hq : out[q]? = some y) : y ∉ out.take q := fun hm => by
  obtain ⟨m, hm1, hm2⟩ := mem_take_at hm
  have hql := (List.getElem?_eq_some_iff.1 hq).1
  have := (List.getElem?_inj hql h).1 (hq.trans hm2.symm)
  omega
theorem done_enter {E : List (Nat × Nat)} {out : List Nat} {q y : Nat} (hq : out[q]? = some y) (j : Nat) (hj : j < E.length) : decide ((E.getD j (0, 0)).1 ∈ out.take q) = doneAt E out q (lastI E y E.length) j := by
  unfold doneAt
  rw [hq]
  by_cases hy : (E.getD j (0, 0)).1 = y
  · have hle : ¬ lastI E y E.length < (j : Int) := by
      rcases Int.lt_or_le (lastI E y E.length) 0 with h0 | h0
      · exact absurd hy (lastI_none _ _ _ h0 j hj)
      · obtain ⟨k, hk⟩ := Int.eq_ofNat_of_zero_le h0
        rw [hk]
        obtain ⟨_, _, h3⟩ := lastI_hit _ _ _ k hk
        intro hlt
        exact h3 j (by omega) hj hy
    rw [decide_eq_false hle, Bool.and_false, Bool.or_false]
  · have : ¬ (some y = some (E.getD j (0, 0)).1) := fun e => hy (Option.some.inj e).symm
    rw [decide_eq_false this, Bool.false_and, Bool.or_false]
theorem done_leave {E : List (Nat × Nat)} {out : List Nat} {q y : Nat} {e : Int} (hq : out[q]? = some y) (he : e < 0) (j : Nat) : doneAt E out q e j = decide ((E.getD j (0, 0)).1 ∈ out.take (q + 1)) := by
  unfold doneAt
  rw [hq, List.take_add_one, hq]
  have : e < (j : Int) := by omega
  simp only [this, decide_true, Bool.and_true, Option.toList_some, List.mem_append, List.mem_singleton]
  rw [← Bool.decide_or]
  refine decide_eq_decide.2 ?_
  constructor
  · rintro (h | h)
    · exact .inl h
    · exact .inr (Option.some.inj h).symm
  · rintro (h | h)
    · exact .inl h
    · exact .inr (by rw [h])
/-- the first entry of a line. -/
theorem LayS.enter {l : List Ga} {out : List Nat} {q y : Nat} (h : LayS l out q (fun j => decide (((entsOf l).getD j (0, 0)).1 ∈ out.take q))) (hq : out[q]? = some y) : LayS l out q (doneAt (entsOf l) out q (lastI (entsOf l) y (entsOf l).length)) := h.congr fun j hj => done_enter hq j hj
/-- the next one. -/
theorem done_next {l : List Ga} {out : List Nat} {q y k : Nat} (hnd : out.Nodup) (hq : out[q]? = some y) (hE : ((entsOf l).getD k (0, 0)).1 = y) :
    doneAt (entsOf l) out q k k = false ∧ doneAt (entsOf l) out q (lastI (entsOf l) y k) k = true ∧ ∀ j, j < (entsOf l).length → j ≠ k → doneAt (entsOf l) out q k j = doneAt (entsOf l) out q (lastI (entsOf l) y k) j := by
  have hno := nodup_take hnd hq
  have hl := lastI_lt (entsOf l) y k
  refine ⟨?_, ?_, fun j hj hne => ?_⟩
  · unfold doneAt
    rw [hE]
    simp [hno]
  · unfold doneAt
    rw [hE, hq]
    simp [hl.2]
  · unfold doneAt
    by_cases hy : ((entsOf l).getD j (0, 0)).1 = y
    · have : ((k : Int) < (j : Int)) ↔ (lastI (entsOf l) y k < (j : Int)) := by
        constructor
        · intro h; omega
        · intro h
          rcases Nat.lt_or_ge j k with hjk | hjk
          · exfalso
            rcases Int.lt_or_le (lastI (entsOf l) y k) 0 with h0 | h0
            · exact lastI_none _ _ _ h0 j hjk hy
            · obtain ⟨m, hm⟩ := Int.eq_ofNat_of_zero_le h0
              rw [hm] at h
              exact (lastI_hit _ _ _ m hm).2.2 j (by omega) hjk hy
          · omega
      rw [decide_eq_decide.2 this]
    · have : ¬ (some y = some ((entsOf l).getD j (0, 0)).1) := fun e => hy (Option.some.inj e).symm
      rw [hq, decide_eq_false this, Bool.false_and, Bool.false_and]
/-- all of a line's entries are done. -/
theorem LayS.leave {l : List Ga} {out : List Nat} {q y : Nat} {e : Int} (h : LayS l out q (doneAt (entsOf l) out q e)) (hq : out[q]? = some y) (he : e < 0) : LayS l out (q + 1) (fun j => decide (((entsOf l).getD j (0, 0)).1 ∈ out.take (q + 1))) := by
  have h2 : LayS l out q (fun j => decide (((entsOf l).getD j (0, 0)).1 ∈ out.take (q + 1))) := h.congr fun j _ => done_leave hq he j
  refine ⟨h2.nd, h2.lt, h2.zero, fun j hj hd => ?_, h2.ord⟩
  have := of_decide_eq_true hd
  rw [List.take_add_one]
  exact List.mem_append_left _ this
/-- at first. -/
theorem LayS.start {l : List Ga} {out : List Nat} (hnd : out.Nodup) (ho : ∀ x, x ∈ out ↔ ∃ g, l[x]? = some g ∧ leansOn g = []) : LayS l out 0 (fun j => decide (((entsOf l).getD j (0, 0)).1 ∈ out.take 0)) := by
  refine ⟨hnd, fun x hx => ?_, fun x hx => ?_, fun j hj hd => by simp at hd, fun k x hk y hy => ?_⟩
  · obtain ⟨g, hg, _⟩ := (ho x).1 hx
    exact (List.getElem?_eq_some_iff.1 hg).1
  · rw [ho x]
    constructor
    · rintro ⟨g, hg, h0⟩
      refine cntP_zero.2 fun j hj => ?_
      by_cases h2 : ((entsOf l).getD j (0, 0)).2 = x
      · exfalso
        have hm := getD_mem hj
        rw [show (entsOf l).getD j (0, 0) = (((entsOf l).getD j (0, 0)).1, x) by rw [← h2]] at hm
        obtain ⟨g', a, hg', ha, _⟩ := (ents_mem l _ _).1 hm
        rw [hg] at hg'
        cases hg'
        rw [h0] at ha
        cases ha
      · simp only [h2, decide_false, Bool.false_and]
    · intro h0
      refine ⟨l[x], List.getElem?_eq_getElem hx, ?_⟩
      cases hl : leansOn l[x] with
      | nil => rfl
      | cons a r =>
        exfalso
        have hm : (a.toNat, x) ∈ entsOf l := (ents_mem l _ _).2 ⟨l[x], a, List.getElem?_eq_getElem hx, by rw [hl]; simp, rfl⟩
        obtain ⟨j, hj, ej⟩ := List.getElem_of_mem hm
        have eg : (entsOf l).getD j (0, 0) = (a.toNat, x) := by rw [List.getD_eq_getElem?_getD, List.getElem?_eq_getElem hj, ej]; rfl
        have := cntP_zero.1 h0 j hj
        simp only [eg, decide_true, Bool.true_and, List.take_zero, List.not_mem_nil, decide_false, Bool.not_false] at this
        cases this
  · exfalso
    obtain ⟨g, hg, h0⟩ := (ho x).1 (List.mem_of_getElem? hk)
    obtain ⟨g', a, hg', ha, _⟩ := (ents_mem l _ _).1 hy
    rw [hg] at hg'
    cases hg'
    rw [h0] at ha
    cases ha
end PureNet
