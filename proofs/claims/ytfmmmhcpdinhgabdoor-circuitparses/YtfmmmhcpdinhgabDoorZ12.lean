import Derived.Test.YtfmmmhcpdinhgabDoorZ11
/-
  The document's reading: an item's words.
-/
namespace Go.Proofs.YtfmmmhcpdinhgabDoor
open Go.RowKit Go.Deep PureNet PureRd
set_option maxRecDepth 100000

theorem opFrom_range (T : Nat → List UInt8) (l : List UInt8) : ∀ n k, opFrom T l n k = -1 ∨ 0 ≤ opFrom T l n k := by
  intro n
  induction n with
  | zero => intro k; exact .inl rfl
  | succ n ih =>
    intro k
    unfold opFrom
    split
    · exact .inr (by omega)
    · exact ih _
theorem formW_len (k : List UInt8) : (formW k).length ≤ 4 := by
  unfold formW
  repeat' split
  all_goals decide
/-- an item in the making: its five blocks, the names that it uses. -/
structure Lp (W WL : World) (text : List UInt8) (v e1 e2 : Value) (q1 q2 q3 : Value) (gate : Int) (it : It) (p q : Int) (uv : Value) : Prop where
  below : Below W.heap.size W WL
  r53 : WL.heap[W.heap.size]? = some (.cells #[v, e1, e2] 53 (0, 0))
  r30 : WL.heap[W.heap.size + 1]? = some (.cells #[.int .i64 0, .int .i64 0, .int .i64 0] 30 (0, 0))
  r71 : WL.heap[W.heap.size + 1 + 1]? = some (.cells #[q1, q2, q3] 71 (0, 0))
  rg : WL.heap[W.heap.size + 1 + 1 + 1]? = some (.cells #[.int .i64 0, str it.nm, .int .i64 it.op, .int .i64 0, .int .i64 0, .int .i64 0] 57 (0, 0))
  rn : WL.heap[W.heap.size + 1 + 1 + 1 + 1]? = some (.cells #[.int .i64 p, .int .i64 q] 28 (0, 0))
  own : WL.ownsRow (W.heap.size + 5) 74 5 uv it.us.length (usC text (usOf gate it.us))
section
variable {W WL W' : World} {text : List UInt8} {v e1 e2 q1 q2 q3 uv : Value} {gate p q : Int} {it : It}
theorem Lp.size (h : Lp W WL text v e1 e2 q1 q2 q3 gate it p q uv) : W.heap.size + 5 ≤ WL.heap.size := (Array.getElem?_eq_some_iff.1 h.rn).1
theorem Lp.on (h : Lp W WL text v e1 e2 q1 q2 q3 gate it p q uv) (hb : Below WL.heap.size WL W') : Lp W W' text v e1 e2 q1 q2 q3 gate it p q uv := by
  have hs := h.size
  exact ⟨h.below.trans (hb.mono h.below.size), (hb.block _ (by omega)).trans h.r53, (hb.block _ (by omega)).trans h.r30, (hb.block _ (by omega)).trans h.r71, (hb.block _ (by omega)).trans h.rg, (hb.block _ (by omega)).trans h.rn, ownsRow_below h.own hb⟩
/-- a block of an item turned: the row of the names that it uses stays. -/
theorem Lp.keep (h : Lp W WL text v e1 e2 q1 q2 q3 gate it p q uv) {k i : Nat} {u : Value} (hk : k < W.heap.size + 5) : (WL.setCell ⟨k, i, none⟩ u).ownsRow (W.heap.size + 5) 74 5 uv it.us.length (usC text (usOf gate it.us)) := ShfKit.own_kept h.own fun g hg => Below.heap_setCell WL _ _ _ (by have := (h.own.lt g hg).1; show g ≠ k; omega)
theorem Lp.nm (h : Lp W WL text v e1 e2 q1 q2 q3 gate it p q uv) (n : List UInt8) : Lp W (WL.setCell ⟨W.heap.size + 1 + 1 + 1, 1, none⟩ (str n)) text v e1 e2 q1 q2 q3 gate { it with nm := n } p q uv :=
  ⟨h.below.setCell (p := ⟨W.heap.size + 1 + 1 + 1, 1, none⟩) (show W.heap.size ≤ W.heap.size + 1 + 1 + 1 by omega) _, (Below.heap_setCell WL _ _ _ (by show _ ≠ W.heap.size + 1 + 1 + 1; omega)).trans h.r53, (Below.heap_setCell WL _ _ _ (by show _ ≠ W.heap.size + 1 + 1 + 1; omega)).trans h.r30, (Below.heap_setCell WL _ _ _ (by show _ ≠ W.heap.size + 1 + 1 + 1; omega)).trans h.r71, by have := row_set (i := 1) (u := str n) h.rg; simpa using this, (Below.heap_setCell WL _ _ _ (by show _ ≠ W.heap.size + 1 + 1 + 1; omega)).trans h.rn, h.keep (by omega)⟩
theorem Lp.oper (h : Lp W WL text v e1 e2 q1 q2 q3 gate it p q uv) (n : Int) : Lp W (WL.setCell ⟨W.heap.size + 1 + 1 + 1, 2, none⟩ (.int .i64 n)) text v e1 e2 q1 q2 q3 gate { it with op := n } p q uv :=
  ⟨h.below.setCell (p := ⟨W.heap.size + 1 + 1 + 1, 2, none⟩) (show W.heap.size ≤ W.heap.size + 1 + 1 + 1 by omega) _, (Below.heap_setCell WL _ _ _ (by show _ ≠ W.heap.size + 1 + 1 + 1; omega)).trans h.r53, (Below.heap_setCell WL _ _ _ (by show _ ≠ W.heap.size + 1 + 1 + 1; omega)).trans h.r30, (Below.heap_setCell WL _ _ _ (by show _ ≠ W.heap.size + 1 + 1 + 1; omega)).trans h.r71, by have := row_set (i := 2) (u := .int .i64 n) h.rg; simpa using this, (Below.heap_setCell WL _ _ _ (by show _ ≠ W.heap.size + 1 + 1 + 1; omega)).trans h.rn, h.keep (by omega)⟩
theorem Lp.posn (h : Lp W WL text v e1 e2 q1 q2 q3 gate it p q uv) (n : Nat) : Lp W WL text v e1 e2 q1 q2 q3 gate { it with pos := n } p q uv := ⟨h.below, h.r53, h.r30, h.r71, h.rg, h.rn, h.own⟩
theorem Lp.ps (h : Lp W WL text v e1 e2 q1 q2 q3 gate it p q uv) (a b : Int) : Lp W ((WL.setCell ⟨W.heap.size + 1 + 1 + 1 + 1, 0, none⟩ (.int .i64 a)).setCell ⟨W.heap.size + 1 + 1 + 1 + 1, 1, none⟩ (.int .i64 b)) text v e1 e2 q1 q2 q3 gate it a b uv := by
  have one : ∀ {WL' : World} {p' q' : Int} (h : Lp W WL' text v e1 e2 q1 q2 q3 gate it p' q' uv) (i : Nat) (n : Int) (p2 q2' : Int), (#[Value.int .i64 p', .int .i64 q'] : Array Value).setIfInBounds i (.int .i64 n) = #[.int .i64 p2, .int .i64 q2'] → Lp W (WL'.setCell ⟨W.heap.size + 1 + 1 + 1 + 1, i, none⟩ (.int .i64 n)) text v e1 e2 q1 q2 q3 gate it p2 q2' uv := fun h i n p2 q2' he =>
    ⟨h.below.setCell (p := ⟨W.heap.size + 1 + 1 + 1 + 1, i, none⟩) (show W.heap.size ≤ W.heap.size + 1 + 1 + 1 + 1 by omega) _, (Below.heap_setCell _ _ _ _ (by show _ ≠ W.heap.size + 1 + 1 + 1 + 1; omega)).trans h.r53, (Below.heap_setCell _ _ _ _ (by show _ ≠ W.heap.size + 1 + 1 + 1 + 1; omega)).trans h.r30, (Below.heap_setCell _ _ _ _ (by show _ ≠ W.heap.size + 1 + 1 + 1 + 1; omega)).trans h.r71, (Below.heap_setCell _ _ _ _ (by show _ ≠ W.heap.size + 1 + 1 + 1 + 1; omega)).trans h.rg, by have := row_set (i := i) (u := .int .i64 n) h.rn; rw [he] at this; exact this, h.keep (by omega)⟩
  exact one (one h 0 a a q rfl) 1 b a b rfl
/-- a name more that the item uses. -/
theorem Lp.push (h : Lp W WL text v e1 e2 q1 q2 q3 gate it p q uv) {w6 : World} {v6 : Value} {z : Wd} (o6 : w6.ownsRow (W.heap.size + 5) 74 5 v6 (it.us.length + 1) (usC text (usOf gate it.us) ++ usC1 text ⟨z, gate, (it.us.length : Int)⟩)) (g6 : WL.grownBy w6 uv.ownBlock) : Lp W w6 text v e1 e2 q1 q2 q3 gate { it with us := it.us ++ [z] } p q v6 := by
  have hs := h.size
  have keep : ∀ k, k < W.heap.size + 5 → w6.heap[k]? = WL.heap[k]? := fun k hk => g6.block k (by omega) (fun e => by have := (h.own.lt k e.symm).1; omega)
  refine ⟨h.below.grown g6 h.below.size (fun j hj => by have := (h.own.lt j hj).1; omega), (keep _ (by omega)).trans h.r53, (keep _ (by omega)).trans h.r30, (keep _ (by omega)).trans h.r71, (keep _ (by omega)).trans h.rg, (keep _ (by omega)).trans h.rn, ?_⟩
  show w6.ownsRow (W.heap.size + 5) 74 5 v6 (it.us ++ [z]).length (usC text (usOf gate (it.us ++ [z])))
  rw [List.length_append, usOf_snoc, usC_snoc]
  exact o6
end
set_option maxHeartbeats 8000000 in
theorem item_gate (T : Nat → List UInt8) (w W : World) (r : Nat) (text : List UInt8) (s : Rs) (x : Dx) (y : Wd) (t : List Wd) (v e1 e2 : Value) (h : Dr w W r text (dOf s) x) (hv : WA W w.heap.size text (y :: t) v) (hf : s.fault = none) (hm : s.mode = 1) (hy : y.1 ≠ outW) (hw : formW y.1 ≠ []) (hg : (gatesOf s.lines).length = s.names.length) (ho : s.names.length ≠ 65536) (hsm : s.names.length ≤ 65536) (he : enC text (y :: t) = [e1, e2]) (hops : OpsD W T) (hl : ∀ z ∈ t, z.1.length ≤ 1048576) (hum : (usesOf 0 s.lines).length ≤ 1048576) :
    Calls Tryd.prog 21 #[.pointer (some ⟨r, 0, none⟩), .agg #[v, e1, e2]] W (LineIs w W r text (lineF T (y :: t) s)) := by
  have hN : x.N.length ≤ 65536 := by
    have h1 : x.N.length = s.names.length := h.nn.1
    omega
  obtain ⟨a0, ha0⟩ : ∃ a0 : Int, a0 = ((spotN (text.take y.2)).1 : Int) := ⟨_, rfl⟩
  obtain ⟨b0, hb0⟩ : ∃ b0 : Int, b0 = ((spotN (text.take y.2)).2 : Int) := ⟨_, rfl⟩
  obtain ⟨g, c, rfl, hgM, hgW, wc⟩ := hv.word
  obtain ⟨WB, hWB, bb, hd, hv2, r53, r30, r71⟩ := pre_line (z1 := .slice (some ⟨g, 0, none⟩) (t.length + 1) c) (z2 := e1) (z3 := e2) h hv (str y.1) (.int .i64 a0) (.int .i64 b0)
  obtain ⟨k0, k1, k2⟩ := wc 0 y rfl
  rw [← ha0] at k1
  rw [← hb0] at k2
  have hrB := hd.size
  have hsz : W.heap.size + 1 + 1 < WB.heap.size := (Array.getElem?_eq_some_iff.1 r71).1
  have HW : Hid (w.heap.size ≤ W.heap.size) := h.below.size
  have BB := hid bb
  have HBX := hid h.box
  have DD := hid hd
  have c53 := fun j => cell_row r53 j
  have c71 := fun j => cell_row r71 j
  have R30 := hid r30
  have cr1 := cell_row hd.box 1
  have cr2 := cell_row hd.box 2
  obtain ⟨g', c', hgc, _, _, wc2⟩ := hv2.word
  simp only [Value.slice.injEq, Option.some.injEq, Addr.mk.injEq, and_true, true_and] at hgc
  obtain ⟨rfl, rfl⟩ := hgc
  rw [List.length_cons]
  have HWB := hid hWB
  have FC := hid (fun W a b => fault_any 140 a b W)
  have FM := hid (fun W => form_any y.1 W)
  have hm61 : (rcells (dOf s) x)[1]? = some x.gv := rfl
  rw [hm61] at cr1
  have hm62 : (rcells (dOf s) x)[2]? = some x.ov := rfl
  rw [hm62] at cr2
  obtain ⟨sg, cg, hgv⟩ := own_shape h.gates
  obtain ⟨so, co, hov⟩ := own_shape h.outs
  rw [hgv] at cr1
  rw [hov] at cr2
  obtain ⟨ng, hng⟩ : ∃ ng, ng = (dOf s).gs.length := ⟨_, rfl⟩
  rw [← hng] at cr1
  obtain ⟨no, hno⟩ : ∃ no, no = (dOf s).outs := ⟨_, rfl⟩
  rw [← hno] at cr2
  have HLW := hid hl
  have HUM := hid hum
  clear hl hum
  obtain ⟨fw, hfw⟩ : ∃ fw, fw = formW y.1 := ⟨_, rfl⟩
  rw [← hfw] at FM hw
  have hw1 : (fw == []) = false := by simpa using hw
  have hy1 : (y.1 == [111, 117, 116, 112, 117, 116]) = false := by simpa [outW] using hy
  have ho1 : ((ng : Int) == 65536) = false := by
    rw [hng]
    have : (dOf s).gs.length = s.names.length := hg
    rw [this]
    simp
    omega
  have hWBs : WB.heap.size = W.heap.size + 1 + 1 + 1 := by rw [hWB]; simp
  have hrB2 : r < W.heap.size + 1 + 1 + 1 := by omega
  have hw2 : fw.isEmpty = false := by simpa using hw
  have hf4 : fw.length ≤ 4 := by rw [hfw]; exact formW_len _
  have HE := hid he
  have HOPS := hid hops
  have H0 := hid h
  have LG := hid ((line_gate (t := t) T hf hm hy (by rw [← hfw]; exact hw)).2 ho)
  rw [← hfw] at LG
  have HA0 := hid ha0
  have HB0 := hid hb0
  have HFW := hid hfw
  have HNG := hid hng
  have WC2 := hid wc2
  have HM := hid hm
  have HY := hid hy
  have HF := hid hf
  have HG := hid hg
  have HWN := hid hw
  have HO := hid ho
  have HSM := hid hsm
  clear wc wc2 hm hw hno hgv hov hm61 hm62 hy ha0 hb0 hfw hng hf hg ho hsm he hops
  have R53 := hid r53
  have R71 := hid r71
  clear h hv hd hv2 bb hWB r53 r30 r71
  go_enter Tryd.func21, Tryd.ntmps21
  go_wp2_with (first
    | (rw [← HWB.out])
    | (go_at_call 39; refine (FM.out _).mono ?_; rintro e w1 ⟨rfl, hw1⟩; rw [hw1]; clear hw1)
    | (go_at_call 10; refine (FC.out _ _ _).mono ?_; rintro e w4 ⟨rfl, b4⟩; have B4 : Hid (Below W.heap.size W w4) := BB.out.trans (b4.mono BB.out.size); have r4 := (b4.block _ (by omega)).trans R30.out; have c4 := fun j => cell_row r4 j; have f4 := fun j => unfrozen_row r4 j; have hs4 : W.heap.size + 1 < w4.heap.size := (Array.getElem?_eq_some_iff.1 r4).1; clear b4 r4))
  have START : Hid (∀ WL, WL = ((WB.alloc (Obj.cells #[.int .i64 0, .string ⟨#[]⟩, .int .i64 0, .int .i64 0, .int .i64 0, .int .i64 0] 57)).alloc (Obj.cells #[.int .i64 0, .int .i64 0] 28)) → Lp W WL text (.slice (some ⟨g, 0, none⟩) (t.length + 1) c) e1 e2 (str y.1) (.int .i64 a0) (.int .i64 b0) (ng : Int) it0 0 0 (.slice none 0 0)) := fun WL hWL => by
    have b1 : Below WB.heap.size WB WL := by rw [hWL]; exact (((Below.refl _ _).alloc (Nat.le_refl _) _).alloc (by simp) _)
    have n1 : WL.heap[W.heap.size + 1 + 1 + 1]? = some (.cells #[.int .i64 0, .string ⟨#[]⟩, .int .i64 0, .int .i64 0, .int .i64 0, .int .i64 0] 57 (0, 0)) := by
      rw [hWL, Lib.alloc_old _ _ _ (by simp [hWBs]), ← hWBs]
      exact heap_alloc_new WB _
    have n2 : WL.heap[W.heap.size + 1 + 1 + 1 + 1]? = some (.cells #[.int .i64 0, .int .i64 0] 28 (0, 0)) := by
      have := heap_alloc_new (WB.alloc (Obj.cells #[.int .i64 0, .string ⟨#[]⟩, .int .i64 0, .int .i64 0, .int .i64 0, .int .i64 0] 57)) (Obj.cells #[.int .i64 0, .int .i64 0] 28)
      rw [hWL]
      simpa [hWBs] using this
    exact ⟨BB.out.trans (b1.mono BB.out.size), (b1.block _ (by omega)).trans R53.out, (b1.block _ (by omega)).trans R30.out, (b1.block _ (by omega)).trans R71.out, n1, n2, World.ownsRow_nil _ _ _ _⟩
  go_loopw [11, 12] (fun uv iv WL => Hid (∃ (i : Nat) (it : It) (p q : Int), iv = .int .i64 (i : Int) ∧ i ≤ fw.length ∧ i ≤ t.length ∧ Lp W WL text (.slice (some ⟨g, 0, none⟩) (t.length + 1) c) e1 e2 (str y.1) (.int .i64 a0) (.int .i64 b0) (ng : Int) it p q uv ∧ it.us.length ≤ i ∧ (0 < i → [Value.int .i64 p, .int .i64 q] = spI text it.pos) ∧ ((102 : UInt8) ∈ fw.drop i → it.op = 0) ∧ (∃ l, (y :: t)[i]? = some l ∧ chk T s (fw.drop i) l (t.drop i) it = chk T s fw y t it0))) (fun _ iv _ => match iv with | .int _ i => fw.length + 1 - i.toNat | _ => 0)
  case atStart => exact ⟨0, it0, 0, 0, rfl, Nat.zero_le _, Nat.zero_le _, START.out _ rfl, Nat.le_refl _, fun h => absurd h (by omega), fun _ => rfl, y, rfl, rfl⟩
  case round =>
    clear START
    obtain ⟨WW, hWW⟩ : ∃ WW, WW = wr := ⟨_, rfl⟩
    rw [← hWW] at hrel ⊢
    clear hWW
    obtain ⟨i, it, p, q, rfl, hif, hit, hlp, hus, hpq, hop0, l, hl, hck⟩ := hrel.out
    obtain ⟨su, cu, rfl⟩ := own_shape hlp.own
    clear hrel
    have hs := hlp.size
    have c53' := fun j => cell_row hlp.r53 j
    have cg := fun j => cell_row hlp.rg j
    have fg := fun j => unfrozen_row hlp.rg j
    have cn := fun j => cell_row hlp.rn j
    have fn := fun j => unfrozen_row hlp.rn j
    have LP := hid hlp
    have DW := hid (H0.out.on hlp.below)
    have hil : i < fw.length ∨ i = fw.length := by omega
    have hitl : i < t.length ∨ i = t.length := by omega
    have CK := hid hck
    have HL := hid hl
    have HPQ := hid hpq
    have HOP := hid hop0
    have hgL : g < WW.heap.size := by omega
    clear hlp hck hl hpq hop0 c53 c71 cr1 cr2 k0 k1 k2
    rcases hil with hlt | hlt
    · have hlt1 : (i : Int) < (fw.length : Int) := by omega
      have v1 : IntKind.i64.wrap ((i : Int) + 1) = (i : Int) + 1 := by rw [IntKind.wrap_i64]; omega
      rcases hitl with hn | hn
      · obtain ⟨z, hz⟩ : ∃ z, t[i]? = some z := ⟨_, List.getElem?_eq_getElem hn⟩
        obtain ⟨a9, ha9⟩ : ∃ qq : Int, qq = ((spotN (text.take z.2)).1 : Int) := ⟨_, rfl⟩
        obtain ⟨b9, hb9⟩ : ∃ qq : Int, qq = ((spotN (text.take z.2)).2 : Int) := ⟨_, rfl⟩
        have kg : WW.heap[g]? = WB.heap[g]? := (LP.out.below.block g hgW).trans (BB.out.block g hgW).symm
        obtain ⟨m0, m1, m2⟩ := WC2.out (i + 1) z (by simpa using hz)
        have m0' : WW.cell? ⟨g, (i + 1) * 3, none⟩ = some (str z.1) := (World.cell?_of_block kg).trans m0
        have m1' : WW.cell? ⟨g, (i + 1) * 3 + 1, none⟩ = some (.int .i64 a9) := by rw [ha9]; exact (World.cell?_of_block kg).trans m1
        have m2' : WW.cell? ⟨g, (i + 1) * 3 + 2, none⟩ = some (.int .i64 b9) := by rw [hb9]; exact (World.cell?_of_block kg).trans m2
        have HA9 := hid ha9
        have HB9 := hid hb9
        have HZ := hid hz
        have hn1 : ¬ (t.length : Int) + 1 ≤ (i : Int) + 1 := by omega
        have v4 : ((i : Int) + 1).toNat = i + 1 := by omega
        have v5 : (0 : Int) ≤ (i : Int) + 1 := by omega
        have v6 : (i : Int) + 1 < (t.length : Int) + 1 := by omega
        have hltS : i < (⟨fw.toArray⟩ : ByteArray).size := by show i < fw.toArray.size; simpa using hlt
        obtain ⟨cc, hcc⟩ : ∃ cc, (⟨fw.toArray⟩ : ByteArray)[i]'hltS = cc := ⟨_, rfl⟩
        have HCC : Hid (fw.drop i = cc :: fw.drop (i + 1)) := by
          show _ = _
          rw [List.drop_eq_getElem_cons hlt, ← hcc]
          rfl
        have NM := hid (fun W => nameD_list z.1 W (HLW.out z (List.mem_of_getElem? hz)))
        obtain ⟨WT, hWT⟩ : ∃ WT, WT = WW.alloc (Obj.cells #[str z.1, .int .i64 a9, .int .i64 b9] 71) := ⟨_, rfl⟩
        have bT : Below WW.heap.size WW WT := by rw [hWT]; exact (Below.refl _ _).alloc (Nat.le_refl _) _
        have LT := hid (LP.out.on bT)
        have RT : Hid (WT.heap[WW.heap.size]? = some (.cells #[str z.1, .int .i64 a9, .int .i64 b9] 71 (0, 0))) := by rw [hWT]; exact heap_alloc_new WW _
        have ct := fun j => cell_row RT.out j
        have hst := (Array.getElem?_eq_some_iff.1 RT.out).1
        have HWT := hid hWT
        clear m0 m1 m2 kg ha9 hb9 hz hWT bT
        by_cases c1 : cc = 110
        · subst c1
          cases hnm : nameL z.1 with
          | false =>
            rw [hnm] at NM
            have HFL : Hid ((lineF T (y :: t) s).fault = some (140, z.2)) := by
              have h1 := CK.out
              rw [HCC.out, List.drop_eq_getElem_cons hn, (List.getElem?_eq_some_iff.1 HZ.out).2] at h1
              refine (LG.out (some (140, z.2)) it ?_).1 _ rfl
              rw [← h1]
              simp [chk, hnm]
            have HFV : Hid (faV text (140, z.2) = .agg #[.int .i64 140, .int .i64 a9, .int .i64 b9]) := by show _ = _; rw [HA9.out, HB9.out]; rfl
            go_wp2_with (first
              | (rw [← HWT.out])
              | (have z3 := L3; clear z3; rw [← HW8.out])
              | (have z8 := L8; clear z8; go_at_call 10; refine (FC.out _ _ _).mono ?_; rintro e w4 ⟨rfl, b4⟩; have B4 : Hid (Below W.heap.size W w4) := L8.out.below.trans (b4.mono L8.out.below.size); have r4 := (b4.block _ (by have := L8.out.size; omega)).trans L8.out.r30; have c4 := fun j => cell_row r4 j; have f4 := fun j => unfrozen_row r4 j; have hs4 : W.heap.size + 1 < w4.heap.size := (Array.getElem?_eq_some_iff.1 r4).1; clear b4 r4)
              | (go_at_call 20; refine (NM.out _).mono ?_; rintro e w3 ⟨rfl, b3⟩; have L3 := hid (LT.out.on b3); have q3 := (b3.block WW.heap.size (by have := (Array.getElem?_eq_some_iff.1 RT.out).1; omega)).trans RT.out; have cq := fun j => cell_row q3 j; have hq3 := (Array.getElem?_eq_some_iff.1 q3).1; have c3g := fun j => cell_row L3.out.rg j; have f3g := fun j => unfrozen_row L3.out.rg j; have c3n := fun j => cell_row L3.out.rn j; have f3n := fun j => unfrozen_row L3.out.rn j; have hs3 := L3.out.size; clear b3; obtain ⟨W8, hW8⟩ : ∃ W8, W8 = ((w3.setCell ⟨W.heap.size + 1 + 1 + 1, 1, none⟩ (str z.1)).setCell ⟨W.heap.size + 1 + 1 + 1 + 1, 0, none⟩ (.int .i64 a9)).setCell ⟨W.heap.size + 1 + 1 + 1 + 1, 1, none⟩ (.int .i64 b9) := ⟨_, rfl⟩; have L8 := hid ((L3.out.nm z.1).ps a9 b9); rw [← hW8] at L8; have q8 : W8.heap[WW.heap.size]? = some (.cells #[str z.1, .int .i64 a9, .int .i64 b9] 71 (0, 0)) := (by rw [hW8]; exact (Below.heap_setCell _ _ _ _ (by show WW.heap.size ≠ W.heap.size + 1 + 1 + 1 + 1; omega)).trans ((Below.heap_setCell _ _ _ _ (by show WW.heap.size ≠ W.heap.size + 1 + 1 + 1 + 1; omega)).trans ((Below.heap_setCell _ _ _ _ (by show WW.heap.size ≠ W.heap.size + 1 + 1 + 1; omega)).trans q3))); have c8 := fun j => cell_row q8 j; have hq8 := (Array.getElem?_eq_some_iff.1 q8).1; have HW8 := hid hW8; clear hW8 q3 q8))
            refine wp_region_noPanic ?_
            refine wp_region_held_drew (S := fun _ => True) (by kernel_rfl) trivial (fun hHeld => ?_)
            refine wpAnyH_take (i := 0) (v := ?_) (by simp only [List.getElem?_toArray, List.getElem?_cons_zero]; rfl) (by kernel_rfl) (by kernel_rfl) (by kernel_rfl) (fun _ _ _ h => h) (Or.inl ⟨by rfl, ?_⟩) (by assumption) ?_
            rotate_left 1
            · intro w hSw; (try dsimp only at hSw); go_simp; (try with_reducible rfl)
            try simp only [Act.put, List.setIfInBounds_toArray, List.set_cons_zero, List.set_cons_succ]
            refine wpAnyH_take (i := 1) (v := ?_) (by simp only [List.getElem?_toArray, List.getElem?_cons_succ, List.getElem?_cons_zero]; rfl) (by kernel_rfl) (by kernel_rfl) (by kernel_rfl) (fun _ _ _ h => h) (Or.inl ⟨by rfl, ?_⟩) (by assumption) ?_
            rotate_left 1
            · intro w hSw; (try dsimp only at hSw); go_simp; (try with_reducible rfl)
            try simp only [Act.put, List.setIfInBounds_toArray, List.set_cons_zero, List.set_cons_succ]
            refine wpAnyH_take (i := 2) (v := undef) (by simp only [List.getElem?_toArray, List.getElem?_cons_succ, List.getElem?_cons_zero]; rfl) (by kernel_rfl) (by kernel_rfl) (by kernel_rfl) (fun _ _ _ h => h) (Or.inr ⟨by rfl, rfl⟩) (by assumption) ?_
            try simp only [Act.put, List.setIfInBounds_toArray, List.set_cons_zero, List.set_cons_succ]
            refine wpAnyH_take (i := 3) (v := undef) (by simp only [List.getElem?_toArray, List.getElem?_cons_succ, List.getElem?_cons_zero]; rfl) (by kernel_rfl) (by kernel_rfl) (by kernel_rfl) (fun _ _ _ h => h) (Or.inr ⟨by rfl, rfl⟩) (by assumption) ?_
            try simp only [Act.put, List.setIfInBounds_toArray, List.set_cons_zero, List.set_cons_succ]
            refine wpAnyH_take (i := 4) (v := undef) (by simp only [List.getElem?_toArray, List.getElem?_cons_succ, List.getElem?_cons_zero]; rfl) (by kernel_rfl) (by kernel_rfl) (by kernel_rfl) (fun _ _ _ h => h) (Or.inr ⟨by rfl, rfl⟩) (by assumption) ?_
            try simp only [Act.put, List.setIfInBounds_toArray, List.set_cons_zero, List.set_cons_succ]
            refine wpAnyH_take (i := 5) (v := undef) (by simp only [List.getElem?_toArray, List.getElem?_cons_succ, List.getElem?_cons_zero]; rfl) (by kernel_rfl) (by kernel_rfl) (by kernel_rfl) (fun _ _ _ h => h) (Or.inr ⟨by rfl, rfl⟩) (by assumption) ?_
            try simp only [Act.put, List.setIfInBounds_toArray, List.set_cons_zero, List.set_cons_succ]
            refine wpAnyH_take (i := 6) (v := undef) (by simp only [List.getElem?_toArray, List.getElem?_cons_succ, List.getElem?_cons_zero]; rfl) (by kernel_rfl) (by kernel_rfl) (by kernel_rfl) (fun _ _ _ h => h) (Or.inr ⟨by rfl, rfl⟩) (by assumption) ?_
            try simp only [Act.put, List.setIfInBounds_toArray, List.set_cons_zero, List.set_cons_succ]
            refine wpAnyH_take (i := 7) (v := undef) (by simp only [List.getElem?_toArray, List.getElem?_cons_succ, List.getElem?_cons_zero]; rfl) (by kernel_rfl) (by kernel_rfl) (by kernel_rfl) (fun _ _ _ h => h) (Or.inr ⟨by rfl, rfl⟩) (by assumption) ?_
            try simp only [Act.put, List.setIfInBounds_toArray, List.set_cons_zero, List.set_cons_succ]
            refine wpAnyH_take (i := 8) (v := undef) (by simp only [List.getElem?_toArray, List.getElem?_cons_succ, List.getElem?_cons_zero]; rfl) (by kernel_rfl) (by kernel_rfl) (by kernel_rfl) (fun _ _ _ h => h) (Or.inr ⟨by rfl, rfl⟩) (by assumption) ?_
            try simp only [Act.put, List.setIfInBounds_toArray, List.set_cons_zero, List.set_cons_succ]
            refine wpAnyH_take (i := 9) (v := undef) (by simp only [List.getElem?_toArray, List.getElem?_cons_succ, List.getElem?_cons_zero]; rfl) (by kernel_rfl) (by kernel_rfl) (by kernel_rfl) (fun _ _ _ h => h) (Or.inr ⟨by rfl, rfl⟩) (by assumption) ?_
            try simp only [Act.put, List.setIfInBounds_toArray, List.set_cons_zero, List.set_cons_succ]
            refine wpAnyH_take (i := 10) (v := ?_) (by simp only [List.getElem?_toArray, List.getElem?_cons_succ, List.getElem?_cons_zero]; rfl) (by kernel_rfl) (by kernel_rfl) (by kernel_rfl) (fun _ _ _ h => h) (Or.inl ⟨by rfl, ?_⟩) (by assumption) ?_
            rotate_left 1
            · intro w hSw; (try dsimp only at hSw); go_simp; (try with_reducible rfl)
            try simp only [Act.put, List.setIfInBounds_toArray, List.set_cons_zero, List.set_cons_succ]
            refine wpAnyH_done (by kernel_rfl) ?_ _
            refine NoPanic.normal ?_
            go_wp2_with (first
              | (go_at_call 10; refine (FC.out _ _ _).mono ?_; rintro e w4 ⟨rfl, b4⟩; have L9 := hid ((L8.out.on (Below.refl _ _).drew).on b4); have B4 : Hid (Below W.heap.size W w4) := L9.out.below; have c4 := fun j => cell_row L9.out.r30 j; have f4 := fun j => unfrozen_row L9.out.r30 j; have hs4 : W.heap.size + 1 < w4.heap.size := (Array.getElem?_eq_some_iff.1 L9.out.r30).1; clear b4))
            exact bodyPost_ret (v := .agg #[.int .i64 140, .int .i64 a9, .int .i64 b9]) (by simp [results, Tryd.results21, go_sem, c4]) rfl ⟨ans_below (by have := HW.out; omega) (B4.out.mono HW.out) _ _ _, (kp_below B4.out).ans (by omega), .inl ⟨_, HFL.out, congrArg _ HFV.out.symm⟩⟩
          | true =>
            have PLC : Hid (∀ W3, Dr w W3 r text (dOf s) x → Calls Tryd.prog 22 #[.pointer (some ⟨x.kb, 0, none⟩), str z.1] W3 fun e w' => e = .returned (.int .i64 (plI (placeOf s z.1))) ∧ Below W3.heap.size W3 w') := fun W3 h3 => h3.place (by omega) z.1
            rw [hnm] at NM
            go_wp2_with (first
              | (rw [← HWT.out])
              | (have z3 := L3; clear z3; rw [← HW8.out])
              | (go_at_call 20; refine (NM.out _).mono ?_; rintro e w3 ⟨rfl, b3⟩; have L3 := hid (LT.out.on b3); have q3 := (b3.block WW.heap.size (by have := (Array.getElem?_eq_some_iff.1 RT.out).1; omega)).trans RT.out; have cq := fun j => cell_row q3 j; have hq3 := (Array.getElem?_eq_some_iff.1 q3).1; have c3g := fun j => cell_row L3.out.rg j; have f3g := fun j => unfrozen_row L3.out.rg j; have c3n := fun j => cell_row L3.out.rn j; have f3n := fun j => unfrozen_row L3.out.rn j; have hs3 := L3.out.size; clear b3; obtain ⟨W8, hW8⟩ : ∃ W8, W8 = ((w3.setCell ⟨W.heap.size + 1 + 1 + 1, 1, none⟩ (str z.1)).setCell ⟨W.heap.size + 1 + 1 + 1 + 1, 0, none⟩ (.int .i64 a9)).setCell ⟨W.heap.size + 1 + 1 + 1 + 1, 1, none⟩ (.int .i64 b9) := ⟨_, rfl⟩; have L8 := hid ((L3.out.nm z.1).ps a9 b9); rw [← hW8] at L8; have q8 : W8.heap[WW.heap.size]? = some (.cells #[str z.1, .int .i64 a9, .int .i64 b9] 71 (0, 0)) := (by rw [hW8]; exact (Below.heap_setCell _ _ _ _ (by show WW.heap.size ≠ W.heap.size + 1 + 1 + 1 + 1; omega)).trans ((Below.heap_setCell _ _ _ _ (by show WW.heap.size ≠ W.heap.size + 1 + 1 + 1 + 1; omega)).trans ((Below.heap_setCell _ _ _ _ (by show WW.heap.size ≠ W.heap.size + 1 + 1 + 1; omega)).trans q3))); have c8 := fun j => cell_row q8 j; have hq8 := (Array.getElem?_eq_some_iff.1 q8).1; have Q8 := hid q8; have D8 := hid (H0.out.on L8.out.below); have HW8 := hid hW8; clear hW8 q3 q8))
            have S8 : W8.drew.cell? ⟨r, 3, none⟩ = some (.pointer (some ⟨x.kb, 0, none⟩)) ∧ W8.drew.cell? ⟨WW.heap.size, 0, none⟩ = some (str z.1) := ⟨(cell_row D8.out.box 3).trans rfl, c8 0⟩
            refine wp_region_noPanic ?_
            refine wp_region_held_drew (S := fun W => W.cell? ⟨r, 3, none⟩ = some (.pointer (some ⟨x.kb, 0, none⟩)) ∧ W.cell? ⟨WW.heap.size, 0, none⟩ = some (str z.1)) (by kernel_rfl) S8 (fun hHeld => ?_)
            refine wpAnyH_take (i := 0) (v := ?_) (by simp only [List.getElem?_toArray, List.getElem?_cons_zero]; rfl) (by kernel_rfl) (by kernel_rfl) (by kernel_rfl) (fun _ _ _ h => h) (Or.inl ⟨by rfl, ?_⟩) (by assumption) ?_
            rotate_left 1
            · intro w hSw; (try dsimp only at hSw); go_simp; (try with_reducible rfl)
            try simp only [Act.put, List.setIfInBounds_toArray, List.set_cons_zero, List.set_cons_succ]
            refine wpAnyH_take (i := 1) (v := ?_) (by simp only [List.getElem?_toArray, List.getElem?_cons_succ, List.getElem?_cons_zero]; rfl) (by kernel_rfl) (by kernel_rfl) (by kernel_rfl) (fun _ _ _ h => h) (Or.inl ⟨by rfl, ?_⟩) (by assumption) ?_
            rotate_left 1
            · intro w hSw; (try dsimp only at hSw); go_simp; (try with_reducible rfl)
            try simp only [Act.put, List.setIfInBounds_toArray, List.set_cons_zero, List.set_cons_succ]
            refine wpAnyH_take (i := 2) (v := ?_) (by simp only [List.getElem?_toArray, List.getElem?_cons_succ, List.getElem?_cons_zero]; rfl) (by kernel_rfl) (by kernel_rfl) (by kernel_rfl) (fun _ _ _ h => h) (Or.inl ⟨by rfl, ?_⟩) (by assumption) ?_
            rotate_left 1
            · intro w hSw; (try dsimp only at hSw); go_simp; (try with_reducible rfl)
            try simp only [Act.put, List.setIfInBounds_toArray, List.set_cons_zero, List.set_cons_succ]
            refine wpAnyH_take (i := 3) (v := ?_) (by simp only [List.getElem?_toArray, List.getElem?_cons_succ, List.getElem?_cons_zero]; rfl) (by kernel_rfl) (by kernel_rfl) (by kernel_rfl) (fun _ _ _ h => h) (Or.inl ⟨by rfl, ?_⟩) (by assumption) ?_
            rotate_left 1
            · intro w hSw; (try dsimp only at hSw); go_simp; (try with_reducible rfl)
            try simp only [Act.put, List.setIfInBounds_toArray, List.set_cons_zero, List.set_cons_succ]
            refine wpAnyH_take (i := 4) (v := ?_) (by simp only [List.getElem?_toArray, List.getElem?_cons_succ, List.getElem?_cons_zero]; rfl) (by kernel_rfl) (by kernel_rfl) (by kernel_rfl) (fun _ _ _ h => h) (Or.inl ⟨by rfl, ?_⟩) (by assumption) ?_
            rotate_left 1
            · intro w hSw; (try dsimp only at hSw); go_simp; (try with_reducible rfl)
            try simp only [Act.put, List.setIfInBounds_toArray, List.set_cons_zero, List.set_cons_succ]
            refine wpAnyH_take (i := 5) (v := ?_) (by simp only [List.getElem?_toArray, List.getElem?_cons_succ, List.getElem?_cons_zero]; rfl) (by kernel_rfl) (by kernel_rfl) (by kernel_rfl) (fun _ _ _ h => h) (Or.inl ⟨by rfl, ?_⟩) (by assumption) ?_
            rotate_left 1
            · intro w hSw; (try dsimp only at hSw); go_simp; (try with_reducible rfl)
            try simp only [Act.put, List.setIfInBounds_toArray, List.set_cons_zero, List.set_cons_succ]
            refine wpAnyH_take (i := 6) (v := ?_) (by simp only [List.getElem?_toArray, List.getElem?_cons_succ, List.getElem?_cons_zero]; rfl) (by kernel_rfl) (by kernel_rfl) (by kernel_rfl) (fun _ _ _ h => h) (Or.inl ⟨by rfl, ?_⟩) (by assumption) ?_
            rotate_left 1
            · intro w hSw; (try dsimp only at hSw); go_simp; (try with_reducible rfl)
            try simp only [Act.put, List.setIfInBounds_toArray, List.set_cons_zero, List.set_cons_succ]
            refine wpAnyH_take (i := 7) (v := ?_) (by simp only [List.getElem?_toArray, List.getElem?_cons_succ, List.getElem?_cons_zero]; rfl) (by kernel_rfl) (by kernel_rfl) (by kernel_rfl) (fun _ _ _ h => h) (Or.inl ⟨by rfl, ?_⟩) (by assumption) ?_
            rotate_left 1
            · intro w hSw; (try dsimp only at hSw); go_simp; (try with_reducible rfl)
            try simp only [Act.put, List.setIfInBounds_toArray, List.set_cons_zero, List.set_cons_succ]
            refine wpAnyH_ready (rs := [8]) (by kernel_rfl) (by simp) ?_
            refine AllReadyH.cons (by simp only [List.getElem?_toArray, List.getElem?_cons_succ, List.getElem?_cons_zero]; rfl) (fun K hK => ?_) AllReadyH.nil
            go_simp
            go_at_call 22
            refine (PLC.out _ (D8.out.on (Below.refl _ _).drew)).mono ?_
            rintro e w5 ⟨rfl, b5⟩
            have L5 := hid ((L8.out.on (Below.refl _ _).drew).on b5)
            have q5 := (b5.block WW.heap.size (by simpa using hq8)).trans Q8.out
            have c5 := fun j => cell_row q5 j
            have hq5 := (Array.getElem?_eq_some_iff.1 q5).1
            clear b5 q5
            have S5 : w5.cell? ⟨r, 3, none⟩ = some (.pointer (some ⟨x.kb, 0, none⟩)) ∧ w5.cell? ⟨WW.heap.size, 0, none⟩ = some (str z.1) := ⟨(cell_row (H0.out.on L5.out.below).box 3).trans rfl, c5 0⟩
            clear hHeld
            refine hK.out _ _ S5 (fun hHeld => ?_)
            clear hK K
            try simp only [Act.put, List.setIfInBounds_toArray, List.set_cons_zero, List.set_cons_succ]
            refine wpAnyH_take (i := 9) (v := ?_) (by simp only [List.getElem?_toArray, List.getElem?_cons_succ, List.getElem?_cons_zero]; rfl) (by kernel_rfl) (by kernel_rfl) (by kernel_rfl) (fun _ _ _ h => h) (Or.inl ⟨by rfl, ?_⟩) (by assumption) ?_
            rotate_left 1
            · intro w hSw; (try dsimp only at hSw); go_simp; (try with_reducible rfl)
            try simp only [Act.put, List.setIfInBounds_toArray, List.set_cons_zero, List.set_cons_succ]
            refine wpAnyH_take (i := 10) (v := ?_) (by simp only [List.getElem?_toArray, List.getElem?_cons_succ, List.getElem?_cons_zero]; rfl) (by kernel_rfl) (by kernel_rfl) (by kernel_rfl) (fun _ _ _ h => h) (Or.inl ⟨by rfl, ?_⟩) (by assumption) ?_
            rotate_left 1
            · intro w hSw; (try dsimp only at hSw); go_simp; (try with_reducible rfl)
            try simp only [Act.put, List.setIfInBounds_toArray, List.set_cons_zero, List.set_cons_succ]
            refine wpAnyH_done (by kernel_rfl) ?_ _
            refine NoPanic.normal ?_
            have h0 := CK.out
            rw [HCC.out, List.drop_eq_getElem_cons hn, (List.getElem?_eq_some_iff.1 HZ.out).2] at h0
            have H00 := hid h0
            clear h0
            obtain ⟨pv9, hpv9⟩ : ∃ o, o = plI (placeOf s z.1) := ⟨_, rfl⟩
            rw [← hpv9]
            have HP9 := hid hpv9
            clear hpv9
            by_cases hp : (0 : Int) ≤ pv9
            · have hsome : (placeOf s z.1).isSome = true := (plI_neg _).1 (by rw [← HP9.out]; exact hp)
              have HFL : Hid ((lineF T (y :: t) s).fault = some (141, z.2)) := by
                refine (LG.out (some (141, z.2)) it ?_).1 _ rfl
                rw [← H00.out]
                simp [chk, hnm, hsome]
              have HFV : Hid (faV text (141, z.2) = .agg #[.int .i64 141, .int .i64 a9, .int .i64 b9]) := by show _ = _; rw [HA9.out, HB9.out]; rfl
              have FC2 := hid (fun W a b => fault_any 141 a b W)
              clear hsome
              go_wp2_with (first
                | (go_at_call 10; refine (FC2.out _ _ _).mono ?_; rintro e w4 ⟨rfl, b4⟩; have L9 := hid (L5.out.on b4); have B4 : Hid (Below W.heap.size W w4) := L9.out.below; have c4 := fun j => cell_row L9.out.r30 j; have f4 := fun j => unfrozen_row L9.out.r30 j; have hs4 : W.heap.size + 1 < w4.heap.size := (Array.getElem?_eq_some_iff.1 L9.out.r30).1; clear b4))
              exact bodyPost_ret (v := .agg #[.int .i64 141, .int .i64 a9, .int .i64 b9]) (by simp [results, Tryd.results21, go_sem, c4]) rfl ⟨ans_below (by have := HW.out; omega) (B4.out.mono HW.out) _ _ _, (kp_below B4.out).ans (by omega), .inl ⟨_, HFL.out, congrArg _ HFV.out.symm⟩⟩
            · have hsome : (placeOf s z.1).isSome = false := by
                cases h1 : (placeOf s z.1).isSome with
                | false => rfl
                | true => exact absurd ((plI_neg _).2 h1) (by rw [← HP9.out]; exact hp)
              have HCN : Hid (chk T s (fw.drop (i + 1)) z (t.drop (i + 1)) { it with nm := z.1, pos := z.2 } = chk T s fw y t it0) := by
                show _ = _
                rw [← H00.out]
                simp [chk, hnm, hsome]
              clear hsome
              go_wp2
              refine ⟨⟨i + 1, { it with nm := z.1, pos := z.2 }, a9, b9, by go_num, by omega, by omega, L5.out.posn z.2, by show it.us.length ≤ i + 1; omega, fun _ => by rw [HA9.out, HB9.out]; rfl, fun hm => HOP.out (by rw [HCC.out]; exact List.mem_cons_of_mem _ hm), z, by simpa using HZ.out, HCN.out⟩, ?_⟩
              show fw.length + 1 - ((i : Int) + 1).toNat < fw.length + 1 - (i : Int).toNat
              omega
        · by_cases c2 : cc = 111
          · subst c2
            obtain ⟨nmv, hnmv⟩ : ∃ b, b = nameL z.1 := ⟨_, rfl⟩
            rw [← hnmv] at NM
            obtain ⟨ov9, hov9⟩ : ∃ o, o = opF T z.1 := ⟨_, rfl⟩
            have hor : ov9 = -1 ∨ 0 ≤ ov9 := by rw [hov9]; exact opFrom_range T z.1 16 0
            have OPC : Hid (∀ W3, Lp W W3 text (.slice (some ⟨g, 0, none⟩) (t.length + 1) c) e1 e2 (str y.1) (.int .i64 a0) (.int .i64 b0) (ng : Int) it p q (.slice su it.us.length cu) → Calls Tryd.prog 40 #[str z.1] W3 fun e w' => e = .returned (.int .i64 ov9) ∧ w' = W3) := fun W3 h3 => by rw [hov9]; exact operator_doc T z.1 W3 (HOPS.out.on h3.below HOPS.out.pos)
            have HV9 := hid hov9
            clear hnmv hov9 c1
            rcases hor with hor | hor
            · subst hor
              have HFL : Hid ((lineF T (y :: t) s).fault = some (140, z.2)) := by
                have h1 := CK.out
                rw [HCC.out, List.drop_eq_getElem_cons hn, (List.getElem?_eq_some_iff.1 HZ.out).2] at h1
                refine (LG.out (some (140, z.2)) it ?_).1 _ rfl
                rw [← h1]
                simp [chk, ← HV9.out]
              have HFV : Hid (faV text (140, z.2) = .agg #[.int .i64 140, .int .i64 a9, .int .i64 b9]) := by show _ = _; rw [HA9.out, HB9.out]; rfl
              go_wp2_with (first
                | (rw [← HWT.out])
                | (have z3 := L3; clear z3; rw [← HW8.out])
                | (have z8 := L8; clear z8; go_at_call 10; refine (FC.out _ _ _).mono ?_; rintro e w4 ⟨rfl, b4⟩; have L9 := hid (L8.out.on b4); have B4 : Hid (Below W.heap.size W w4) := L9.out.below; have c4 := fun j => cell_row L9.out.r30 j; have f4 := fun j => unfrozen_row L9.out.r30 j; have hs4 : W.heap.size + 1 < w4.heap.size := (Array.getElem?_eq_some_iff.1 L9.out.r30).1; clear b4)
                | (have z3 := L3; clear z3; go_at_call 40; refine (OPC.out _ L3.out).mono ?_; rintro e w5 ⟨rfl, hw5⟩; rw [hw5]; clear hw5)
                | (go_at_call 20; refine (NM.out _).mono ?_; rintro e w3 ⟨rfl, b3⟩; have L3 := hid (LT.out.on b3); have q3 := (b3.block WW.heap.size (by have := (Array.getElem?_eq_some_iff.1 RT.out).1; omega)).trans RT.out; have cq := fun j => cell_row q3 j; have hq3 := (Array.getElem?_eq_some_iff.1 q3).1; have c3g := fun j => cell_row L3.out.rg j; have f3g := fun j => unfrozen_row L3.out.rg j; have hs3 := L3.out.size; clear b3; obtain ⟨W8, hW8⟩ : ∃ W8, W8 = w3.setCell ⟨W.heap.size + 1 + 1 + 1, 2, none⟩ (.int .i64 (-1)) := ⟨_, rfl⟩; have L8 := hid (L3.out.oper (-1)); rw [← hW8] at L8; have c8g := fun j => cell_row L8.out.rg j; have q8 : W8.heap[WW.heap.size]? = some (.cells #[str z.1, .int .i64 a9, .int .i64 b9] 71 (0, 0)) := (by rw [hW8]; exact (Below.heap_setCell _ _ _ _ (by show WW.heap.size ≠ W.heap.size + 1 + 1 + 1; omega)).trans q3); have c8 := fun j => cell_row q8 j; have hq8 := (Array.getElem?_eq_some_iff.1 q8).1; have HW8 := hid hW8; clear hW8 q3 q8))
              exact bodyPost_ret (v := .agg #[.int .i64 140, .int .i64 a9, .int .i64 b9]) (by simp [results, Tryd.results21, go_sem, c4]) rfl ⟨ans_below (by have := HW.out; omega) (B4.out.mono HW.out) _ _ _, (kp_below B4.out).ans (by omega), .inl ⟨_, HFL.out, congrArg _ HFV.out.symm⟩⟩
            · have HCN : Hid (chk T s (fw.drop (i + 1)) z (t.drop (i + 1)) { it with op := ov9 } = chk T s fw y t it0) := by
                have h1 := CK.out
                rw [HCC.out, List.drop_eq_getElem_cons hn, (List.getElem?_eq_some_iff.1 HZ.out).2] at h1
                show _ = _
                rw [← h1]
                have : ¬ opF T z.1 = -1 := by rw [← HV9.out]; omega
                simp [chk, this, HV9.out]
              go_wp2_with (first
                | (rw [← HWT.out])
                | (have z3 := L3; clear z3; rw [← HW8.out])
                | (have z8 := L8; clear z8; go_at_call 10; refine (FC.out _ _ _).mono ?_; rintro e w4 ⟨rfl, b4⟩; have L9 := hid (L8.out.on b4); have B4 : Hid (Below W.heap.size W w4) := L9.out.below; have c4 := fun j => cell_row L9.out.r30 j; have f4 := fun j => unfrozen_row L9.out.r30 j; have hs4 : W.heap.size + 1 < w4.heap.size := (Array.getElem?_eq_some_iff.1 L9.out.r30).1; clear b4)
                | (have z3 := L3; clear z3; go_at_call 40; refine (OPC.out _ L3.out).mono ?_; rintro e w5 ⟨rfl, hw5⟩; rw [hw5]; clear hw5)
                | (go_at_call 20; refine (NM.out _).mono ?_; rintro e w3 ⟨rfl, b3⟩; have L3 := hid (LT.out.on b3); have q3 := (b3.block WW.heap.size (by have := (Array.getElem?_eq_some_iff.1 RT.out).1; omega)).trans RT.out; have cq := fun j => cell_row q3 j; have hq3 := (Array.getElem?_eq_some_iff.1 q3).1; have c3g := fun j => cell_row L3.out.rg j; have f3g := fun j => unfrozen_row L3.out.rg j; have hs3 := L3.out.size; clear b3; obtain ⟨W8, hW8⟩ : ∃ W8, W8 = w3.setCell ⟨W.heap.size + 1 + 1 + 1, 2, none⟩ (.int .i64 ov9) := ⟨_, rfl⟩; have L8 := hid (L3.out.oper ov9); rw [← hW8] at L8; have c8g := fun j => cell_row L8.out.rg j; have q8 : W8.heap[WW.heap.size]? = some (.cells #[str z.1, .int .i64 a9, .int .i64 b9] 71 (0, 0)) := (by rw [hW8]; exact (Below.heap_setCell _ _ _ _ (by show WW.heap.size ≠ W.heap.size + 1 + 1 + 1; omega)).trans q3); have c8 := fun j => cell_row q8 j; have hq8 := (Array.getElem?_eq_some_iff.1 q8).1; have HW8 := hid hW8; clear hW8 q3 q8))
              refine ⟨⟨i + 1, { it with op := ov9 }, p, q, by go_num, by omega, by omega, L8.out, by show it.us.length ≤ i + 1; omega, fun _ => HPQ.out (form_first (k := y.1) HY.out (by rw [← HFW.out]; exact HCC.out) (by decide)), fun hm => absurd hm (form_op (k := y.1) (.inl rfl) (by rw [← HFW.out]; exact HCC.out)), z, by simpa using HZ.out, HCN.out⟩, ?_⟩
              show fw.length + 1 - ((i : Int) + 1).toNat < fw.length + 1 - (i : Int).toNat
              omega
          · by_cases c3 : cc = 102
            · subst c3
              obtain ⟨nmv, hnmv⟩ : ∃ b, b = nameL z.1 := ⟨_, rfl⟩
              rw [← hnmv] at NM
              have h0 := CK.out
              rw [HCC.out, List.drop_eq_getElem_cons hn, (List.getElem?_eq_some_iff.1 HZ.out).2] at h0
              have H00 := hid h0
              clear h0 hnmv c1 c2
              by_cases d1 : z.1 = [49]
              · have HCN : Hid (chk T s (fw.drop (i + 1)) z (t.drop (i + 1)) { it with op := 1 } = chk T s fw y t it0) := by
                  show _ = _
                  rw [← H00.out]
                  simp [chk, fvF, d1]
                have d2 : (z.1 == [49]) = true := by simp [d1]
                have d3 : (z.1 == [48]) = false := by rw [d1]; rfl
                clear d1
                go_wp2_with (first
                  | (rw [← HWT.out])
                  | (go_at_call 20; refine (NM.out _).mono ?_; rintro e w3 ⟨rfl, b3⟩; have L3 := hid (LT.out.on b3); have q3 := (b3.block WW.heap.size (by have := (Array.getElem?_eq_some_iff.1 RT.out).1; omega)).trans RT.out; have cq := fun j => cell_row q3 j; have hq3 := (Array.getElem?_eq_some_iff.1 q3).1; have c3g := fun j => cell_row L3.out.rg j; have f3g := fun j => unfrozen_row L3.out.rg j; have hs3 := L3.out.size; clear b3 q3))
                refine ⟨⟨i + 1, { it with op := 1 }, p, q, by go_num, by omega, by omega, L3.out.oper 1, by show it.us.length ≤ i + 1; omega, fun _ => HPQ.out (form_first (k := y.1) HY.out (by rw [← HFW.out]; exact HCC.out) (by decide)), fun hm => absurd hm (form_op (k := y.1) (.inr rfl) (by rw [← HFW.out]; exact HCC.out)), z, by simpa using HZ.out, HCN.out⟩, ?_⟩
                show fw.length + 1 - ((i : Int) + 1).toNat < fw.length + 1 - (i : Int).toNat
                omega
              · have d2 : (z.1 == [49]) = false := by simpa using d1
                by_cases d4 : z.1 = [48]
                · have d3 : (z.1 == [48]) = true := by simp [d4]
                  have HCN : Hid (chk T s (fw.drop (i + 1)) z (t.drop (i + 1)) { it with op := 0 } = chk T s fw y t it0) := by
                    show _ = _
                    rw [← H00.out]
                    simp [chk, fvF, d4]
                  clear d1 d4
                  go_wp2_with (first
                    | (rw [← HWT.out])
                    | (go_at_call 20; refine (NM.out _).mono ?_; rintro e w3 ⟨rfl, b3⟩; have L3 := hid (LT.out.on b3); have q3 := (b3.block WW.heap.size (by have := (Array.getElem?_eq_some_iff.1 RT.out).1; omega)).trans RT.out; have cq := fun j => cell_row q3 j; have hq3 := (Array.getElem?_eq_some_iff.1 q3).1; have c3g := fun j => cell_row L3.out.rg j; have f3g := fun j => unfrozen_row L3.out.rg j; have hs3 := L3.out.size; clear b3 q3))
                  have hop : it.op = 0 := HOP.out (by rw [HCC.out]; simp)
                  have L30 : Lp W w3 text (.slice (some ⟨g, 0, none⟩) (t.length + 1) c) e1 e2 (str y.1) (.int .i64 a0) (.int .i64 b0) (ng : Int) { it with op := 0 } p q (.slice su it.us.length cu) := by rw [← hop]; exact L3.out
                  refine ⟨⟨i + 1, { it with op := 0 }, p, q, by go_num, by omega, by omega, L30, by show it.us.length ≤ i + 1; omega, fun _ => HPQ.out (form_first (k := y.1) HY.out (by rw [← HFW.out]; exact HCC.out) (by decide)), fun hm => absurd hm (form_op (k := y.1) (.inr rfl) (by rw [← HFW.out]; exact HCC.out)), z, by simpa using HZ.out, HCN.out⟩, ?_⟩
                  show fw.length + 1 - ((i : Int) + 1).toNat < fw.length + 1 - (i : Int).toNat
                  omega
                · have d3 : (z.1 == [48]) = false := by simpa using d4
                  have HFL : Hid ((lineF T (y :: t) s).fault = some (140, z.2)) := by
                    refine (LG.out (some (140, z.2)) it ?_).1 _ rfl
                    rw [← H00.out]
                    simp [chk, fvF, d1, d4]
                  have HFV : Hid (faV text (140, z.2) = .agg #[.int .i64 140, .int .i64 a9, .int .i64 b9]) := by show _ = _; rw [HA9.out, HB9.out]; rfl
                  clear d1 d4
                  go_wp2_with (first
                    | (rw [← HWT.out])
                    | (have z8 := L3; clear z8; go_at_call 10; refine (FC.out _ _ _).mono ?_; rintro e w4 ⟨rfl, b4⟩; have L9 := hid (L3.out.on b4); have B4 : Hid (Below W.heap.size W w4) := L9.out.below; have c4 := fun j => cell_row L9.out.r30 j; have f4 := fun j => unfrozen_row L9.out.r30 j; have hs4 : W.heap.size + 1 < w4.heap.size := (Array.getElem?_eq_some_iff.1 L9.out.r30).1; clear b4)
                    | (go_at_call 20; refine (NM.out _).mono ?_; rintro e w3 ⟨rfl, b3⟩; have L3 := hid (LT.out.on b3); have q3 := (b3.block WW.heap.size (by have := (Array.getElem?_eq_some_iff.1 RT.out).1; omega)).trans RT.out; have cq := fun j => cell_row q3 j; have hq3 := (Array.getElem?_eq_some_iff.1 q3).1; have c3g := fun j => cell_row L3.out.rg j; have f3g := fun j => unfrozen_row L3.out.rg j; have hs3 := L3.out.size; clear b3 q3))
                  exact bodyPost_ret (v := .agg #[.int .i64 140, .int .i64 a9, .int .i64 b9]) (by simp [results, Tryd.results21, go_sem, c4]) rfl ⟨ans_below (by have := HW.out; omega) (B4.out.mono HW.out) _ _ _, (kp_below B4.out).ans (by omega), .inl ⟨_, HFL.out, congrArg _ HFV.out.symm⟩⟩
            · obtain ⟨nmv, hnmv⟩ : ∃ b, b = nameL z.1 := ⟨_, rfl⟩
              rw [← hnmv] at NM
              have h0 := CK.out
              rw [HCC.out, List.drop_eq_getElem_cons hn, (List.getElem?_eq_some_iff.1 HZ.out).2] at h0
              simp only [chk, if_neg c1, if_neg c2, if_neg c3, ← hnmv] at h0
              have H00 := hid h0
              have EQU : Hid ([str z.1, .int .i64 a9, .int .i64 b9, .int .i64 (ng : Int), .int .i64 (it.us.length : Int)] = usC1 text ⟨z, (ng : Int), (it.us.length : Int)⟩) := by show _ = _; rw [HA9.out, HB9.out]; rfl
              have hus4 : it.us.length ≤ 4 := by omega
              have c4u := form_u (k := y.1) (by rw [← HFW.out]; exact HCC.out) c1 c2 c3
              subst c4u
              clear h0 hnmv c1 c2 c3
              cases nmv with
              | false =>
                have HFL : Hid ((lineF T (y :: t) s).fault = some (140, z.2)) := (LG.out _ _ H00.out.symm).1 _ rfl
                have HFV : Hid (faV text (140, z.2) = .agg #[.int .i64 140, .int .i64 a9, .int .i64 b9]) := by show _ = _; rw [HA9.out, HB9.out]; rfl
                go_wp2_with (first
                  | (rw [← HWT.out])
                  | (have z6 := L6; clear z6; go_at_call 10; refine (FC.out _ _ _).mono ?_; rintro e w4 ⟨rfl, b4⟩; have L9 := hid (L6.out.on b4); have B4 : Hid (Below W.heap.size W w4) := L9.out.below; have c4 := fun j => cell_row L9.out.r30 j; have f4 := fun j => unfrozen_row L9.out.r30 j; have hs4 : W.heap.size + 1 < w4.heap.size := (Array.getElem?_eq_some_iff.1 L9.out.r30).1; clear b4)
                  | (have z3 := L3; clear z3; at_builtin; refine app_one rfl _ _ 47 74 _ 5 48 rfl underUse infoUse rfl (by decide) (W.heap.size + 5) it.us.length (.slice su it.us.length cu) (usC text (usOf (ng : Int) it.us)) [str z.1, .int .i64 a9, .int .i64 b9, .int .i64 (ng : Int), .int .i64 (it.us.length : Int)] ⟨w3.heap.size, 0, none⟩ rfl (L3.out.on ((Below.refl _ _).alloc (Nat.le_refl _) _)).own rfl rfl (fun j u hu => by rw [add_zero_addr, cell_row (heap_alloc_new w3 _)]; simpa using hu) (fun u hu => by simp only [List.mem_cons, List.not_mem_nil, or_false] at hu; rcases hu with rfl | rfl | rfl | rfl | rfl <;> rfl) (by omega) (by omega) (by have := L3.out.size; simp; omega) ?_; intro v6 w6 o6 g6; obtain ⟨sv6, cv6, rfl⟩ := own_shape o6; have LA := L3.out.on ((Below.refl w3.heap.size w3).alloc (Nat.le_refl _) (Obj.cells [str z.1, .int .i64 a9, .int .i64 b9, .int .i64 (ng : Int), .int .i64 (it.us.length : Int)].toArray 74)); have EQ := EQU.out; have o6' := o6; rw [EQ] at o6'; have L6 := hid (LA.push o6' g6); have q6 := (g6.block WW.heap.size (by simp; omega) (fun e => own_ne LA.own ((Lib.alloc_old w3 _ _ hq3).trans Q3.out) (by decide) e.symm)).trans ((Lib.alloc_old w3 _ _ hq3).trans Q3.out); have c6 := fun j => cell_row q6 j; have hq6 := (Array.getElem?_eq_some_iff.1 q6).1; have hs6 := L6.out.size; clear o6 o6' g6 LA EQ q6)
                  | (go_at_call 20; refine (NM.out _).mono ?_; rintro e w3 ⟨rfl, b3⟩; have L3 := hid (LT.out.on b3); have q3 := (b3.block WW.heap.size (by have := (Array.getElem?_eq_some_iff.1 RT.out).1; omega)).trans RT.out; have cq := fun j => cell_row q3 j; have hq3 := (Array.getElem?_eq_some_iff.1 q3).1; have Q3 := hid q3; have hs3 := L3.out.size; clear b3 q3))
                exact bodyPost_ret (v := .agg #[.int .i64 140, .int .i64 a9, .int .i64 b9]) (by simp [results, Tryd.results21, go_sem, c4]) rfl ⟨ans_below (by have := HW.out; omega) (B4.out.mono HW.out) _ _ _, (kp_below B4.out).ans (by omega), .inl ⟨_, HFL.out, congrArg _ HFV.out.symm⟩⟩
              | true =>
                go_wp2_with (first
                  | (rw [← HWT.out])
                  | (have z3 := L3; clear z3; at_builtin; refine app_one rfl _ _ 47 74 _ 5 48 rfl underUse infoUse rfl (by decide) (W.heap.size + 5) it.us.length (.slice su it.us.length cu) (usC text (usOf (ng : Int) it.us)) [str z.1, .int .i64 a9, .int .i64 b9, .int .i64 (ng : Int), .int .i64 (it.us.length : Int)] ⟨w3.heap.size, 0, none⟩ rfl (L3.out.on ((Below.refl _ _).alloc (Nat.le_refl _) _)).own rfl rfl (fun j u hu => by rw [add_zero_addr, cell_row (heap_alloc_new w3 _)]; simpa using hu) (fun u hu => by simp only [List.mem_cons, List.not_mem_nil, or_false] at hu; rcases hu with rfl | rfl | rfl | rfl | rfl <;> rfl) (by omega) (by omega) (by have := L3.out.size; simp; omega) ?_; intro v6 w6 o6 g6; obtain ⟨sv6, cv6, rfl⟩ := own_shape o6; have LA := L3.out.on ((Below.refl w3.heap.size w3).alloc (Nat.le_refl _) (Obj.cells [str z.1, .int .i64 a9, .int .i64 b9, .int .i64 (ng : Int), .int .i64 (it.us.length : Int)].toArray 74)); have EQ := EQU.out; have o6' := o6; rw [EQ] at o6'; have L6 := hid (LA.push o6' g6); have q6 := (g6.block WW.heap.size (by simp; omega) (fun e => own_ne LA.own ((Lib.alloc_old w3 _ _ hq3).trans Q3.out) (by decide) e.symm)).trans ((Lib.alloc_old w3 _ _ hq3).trans Q3.out); have c6 := fun j => cell_row q6 j; have hq6 := (Array.getElem?_eq_some_iff.1 q6).1; have hs6 := L6.out.size; clear o6 o6' g6 LA EQ q6)
                  | (go_at_call 20; refine (NM.out _).mono ?_; rintro e w3 ⟨rfl, b3⟩; have L3 := hid (LT.out.on b3); have q3 := (b3.block WW.heap.size (by have := (Array.getElem?_eq_some_iff.1 RT.out).1; omega)).trans RT.out; have cq := fun j => cell_row q3 j; have hq3 := (Array.getElem?_eq_some_iff.1 q3).1; have Q3 := hid q3; have hs3 := L3.out.size; clear b3 q3))
                refine ⟨⟨i + 1, { it with us := it.us ++ [z] }, p, q, by go_num, by omega, by omega, L6.out, by show (it.us ++ [z]).length ≤ i + 1; simp; omega, fun _ => HPQ.out (form_first (k := y.1) HY.out (by rw [← HFW.out]; exact HCC.out) (by decide)), fun hm => HOP.out (by rw [HCC.out]; exact List.mem_cons_of_mem _ hm), z, by simpa using HZ.out, by rw [← H00.out]; simp⟩, ?_⟩
                show fw.length + 1 - ((i : Int) + 1).toNat < fw.length + 1 - (i : Int).toNat
                omega
      · obtain ⟨a9, ha9⟩ : ∃ qq : Int, qq = ((spotN (text.take (l.2 + l.1.length))).1 : Int) := ⟨_, rfl⟩
        obtain ⟨b9, hb9⟩ : ∃ qq : Int, qq = ((spotN (text.take (l.2 + l.1.length))).2 : Int) := ⟨_, rfl⟩
        have hlast : (y :: t).getLast? = some l := by
          rw [List.getLast?_eq_getElem?]
          have h1 := HL.out
          rw [hn] at h1
          simpa using h1
        have he1 : e1 = .int .i64 a9 ∧ e2 = .int .i64 b9 := by
          have h1 := HE.out
          rw [enC, hlast] at h1
          simp [spI] at h1
          rw [ha9, hb9]
          exact ⟨h1.1.symm, h1.2.symm⟩
        obtain ⟨rfl, rfl⟩ := he1
        have HFL : Hid ((lineF T (y :: t) s).fault = some (140, l.2 + l.1.length)) := by
          have h1 := CK.out
          obtain ⟨cc, cs, hcs⟩ : ∃ cc cs, fw.drop i = cc :: cs := by
            cases hd : fw.drop i with
            | nil => simp at hd; omega
            | cons cc cs => exact ⟨cc, cs, rfl⟩
          rw [hcs, List.drop_of_length_le (by omega)] at h1
          exact (LG.out _ _ h1.symm).1 _ rfl
        have HFV : Hid (faV text (140, l.2 + l.1.length) = .agg #[.int .i64 140, .int .i64 a9, .int .i64 b9]) := by show _ = _; rw [ha9, hb9]; rfl
        have hn1 : (t.length : Int) + 1 ≤ (i : Int) + 1 := by omega
        clear ha9 hb9 hlast hn hit hif hlt
        go_wp2_with (first
          | (go_at_call 10; refine (FC.out _ _ _).mono ?_; rintro e w4 ⟨rfl, b4⟩; have B4 : Hid (Below W.heap.size W w4) := LP.out.below.trans (b4.mono LP.out.below.size); have r4 := (b4.block _ (by omega)).trans LP.out.r30; have c4 := fun j => cell_row r4 j; have f4 := fun j => unfrozen_row r4 j; have hs4 : W.heap.size + 1 < w4.heap.size := (Array.getElem?_eq_some_iff.1 r4).1; clear b4 r4))
        exact bodyPost_ret (v := .agg #[.int .i64 140, .int .i64 a9, .int .i64 b9]) (by simp [results, Tryd.results21, go_sem, c4]) rfl ⟨ans_below (by have := HW.out; omega) (B4.out.mono HW.out) _ _ _, (kp_below B4.out).ans (by omega), .inl ⟨_, HFL.out, congrArg _ HFV.out.symm⟩⟩
    · have hdr : fw.drop i = [] := by rw [hlt]; exact List.drop_length
      have hlt1 : ¬ (i : Int) < (fw.length : Int) := by omega
      have w1 : IntKind.i64.wrap ((fw.length : Int) + 1) = (fw.length : Int) + 1 := by rw [IntKind.wrap_i64]; omega
      rcases hitl with hn | hn
      · skip
        obtain ⟨z, hz⟩ : ∃ z, t[fw.length]? = some z := ⟨_, List.getElem?_eq_getElem (by omega)⟩
        obtain ⟨a9, ha9⟩ : ∃ qq : Int, qq = ((spotN (text.take z.2)).1 : Int) := ⟨_, rfl⟩
        obtain ⟨b9, hb9⟩ : ∃ qq : Int, qq = ((spotN (text.take z.2)).2 : Int) := ⟨_, rfl⟩
        have kg : WW.heap[g]? = WB.heap[g]? := (LP.out.below.block g hgW).trans (BB.out.block g hgW).symm
        obtain ⟨m0, m1, m2⟩ := WC2.out (fw.length + 1) z (by simpa using hz)
        have m1' : WW.cell? ⟨g, (fw.length + 1) * 3 + 1, none⟩ = some (.int .i64 a9) := by rw [ha9]; exact (World.cell?_of_block kg).trans m1
        have m2' : WW.cell? ⟨g, (fw.length + 1) * 3 + 2, none⟩ = some (.int .i64 b9) := by rw [hb9]; exact (World.cell?_of_block kg).trans m2
        have HFL : Hid ((lineF T (y :: t) s).fault = some (140, z.2)) := by
          refine (LG.out (some (140, z.2)) it ?_).1 _ rfl
          have h1 := CK.out
          have hti : t.drop i = z :: t.drop (i + 1) := by
            rw [List.drop_eq_getElem_cons hn]
            congr 1
            have h2 := (List.getElem?_eq_some_iff.1 hz).2
            simpa [hlt] using h2
          rw [hdr, hti] at h1
          rw [← h1]
          rfl
        have HFV : Hid (faV text (140, z.2) = .agg #[.int .i64 140, .int .i64 a9, .int .i64 b9]) := by show _ = _; rw [ha9, hb9]; rfl
        have v4 : ((fw.length : Int) + 1).toNat = fw.length + 1 := by omega
        have v5 : (0 : Int) ≤ (fw.length : Int) + 1 := by omega
        have v6 : (fw.length : Int) + 1 < (t.length : Int) + 1 := by omega
        clear m0 m1 m2 kg ha9 hb9 hz hn hdr hit hif
        go_wp2_with (first
          | (go_at_call 10; refine (FC.out _ _ _).mono ?_; rintro e w4 ⟨rfl, b4⟩; have B4 : Hid (Below W.heap.size W w4) := LP.out.below.trans (b4.mono LP.out.below.size); have r4 := (b4.block _ (by omega)).trans LP.out.r30; have c4 := fun j => cell_row r4 j; have f4 := fun j => unfrozen_row r4 j; have hs4 : W.heap.size + 1 < w4.heap.size := (Array.getElem?_eq_some_iff.1 r4).1; clear b4 r4))
        exact bodyPost_ret (v := .agg #[.int .i64 140, .int .i64 a9, .int .i64 b9]) (by simp [results, Tryd.results21, go_sem, c4]) rfl ⟨ans_below (by have := HW.out; omega) (B4.out.mono HW.out) _ _ _, (kp_below B4.out).ans (by omega), .inl ⟨_, HFL.out, congrArg _ HFV.out.symm⟩⟩
      · have HCK : Hid (chk T s fw y t it0 = (none, it)) := by
          show _ = _
          rw [← CK.out, hdr, List.drop_of_length_le (by omega)]
          rfl
        obtain ⟨ll, hll⟩ := (LG.out none it HCK.out).2 rfl
        have HLL := hid hll
        have HNP : Hid (placeOf s it.nm = none) := chk_fresh T (k := y.1) (by rw [← HFW.out]; exact HWN.out) HY.out (by rw [← HFW.out]; exact HCK.out)
        have TE0 : Hid (Te w W WW r text (dOf s) x (str y.1) (.int .i64 a0) (.int .i64 b0) 0 it.nm it.op p q) := ⟨DW.out, LP.out.r30, LP.out.r71, LP.out.rg, LP.out.rn, LP.out.below.mono HW.out, kp_below LP.out.below⟩
        have HPP : Hid ([Value.int .i64 p, .int .i64 q] = spI text it.pos) := HPQ.out (by
          have := HWN.out
          have h1 : fw.length ≠ 0 := fun e => this (List.eq_nil_of_length_eq_zero e)
          omega)
        have CAU : Hid (CellsAt WW su (usC text (usOf (ng : Int) it.us)) ∧ (su = none → cu = 0)) := by
          obtain ⟨sa, c', hv, hc, hnl, _⟩ := own_cells LP.out.own
          simp only [Value.slice.injEq, true_and] at hv
          obtain ⟨rfl, rfl⟩ := hv
          exact ⟨hc, hnl⟩
        have hus4 : it.us.length ≤ 4 := by omega
        have cru := (cell_row DW.out.box 5).trans (show (rcells (dOf s) x)[5]? = some x.uv from rfl)
        have hrW : r < WW.heap.size := DW.out.size
        have hng2 : ¬ ((t.length : Int) + 1 > (fw.length : Int) + 1) := by omega
        clear hll hn hdr
        go_upto_block 3 with (first
          | (have z7 := TE7; clear z7; rw [← HW7.out])
          | (at_builtin; refine wpl_cells _ rfl _ _ 47 rfl w.heap.size 74 _ 5 48 underUse infoUse rfl (by decide) x.uv (dOf s).us.length (usC text (dOf s).us) rfl TE0.out.dr.uses su it.us.length cu (usC text (usOf (ng : Int) it.us)) rfl (by rw [usC_len, usOf_len]) CAU.out.1 CAU.out.2 (usC_one _ _) (by have := HUM.out; show (usesOf 0 s.lines).length + _ ≤ maxLen; unfold maxLen; omega) (by have := HUM.out; show ((usesOf 0 s.lines).length + _) * 48 ≤ _; omega) TE0.out.dr.below.size ?_; intro v6 w6 o6 f6; obtain ⟨sv6, cv6, rfl⟩ := own_shape o6; obtain ⟨bx6, t7⟩ := TE0.out.use (us := usOf (ng : Int) it.us) H0.out (by rw [usOf_len]; exact o6) f6.grown; have c6 := fun j => cell_row bx6 j; have u6 := fun j => unfrozen_row bx6 j; have hb6 := (Array.getElem?_eq_some_iff.1 bx6).1; obtain ⟨W7, hW7⟩ : ∃ W7, W7 = w6.setCell ⟨r, 5, none⟩ (.slice sv6 ((dOf s).us.length + it.us.length) cv6) := ⟨_, rfl⟩; rw [← hW7] at t7; have TE7 := hid t7; have HW7 := hid hW7; have c71 := fun j => cell_row TE7.out.r71 j; have cg7 := fun j => cell_row TE7.out.rg j; have ug7 := fun j => unfrozen_row TE7.out.rg j; have hs7 := TE7.out.size; clear o6 f6 bx6 t7 hW7))
        obtain ⟨kw, hkw⟩ : ∃ kw, kw = kindW y.1 := ⟨_, rfl⟩
        have HKW := hid hkw
        go_cut [] (fun wx => wx = W7.setCell ⟨W.heap.size + 1 + 1 + 1, 0, none⟩ (.int .i64 kw))
        case first =>
          by_cases k0 : y.1 = [105, 110, 112, 117, 116]
          · have f0 : (y.1 == [105, 110, 112, 117, 116]) = true := by simp [k0]
            have hk : kw = 1 := by rw [hkw, k0]; rfl
            clear hkw k0
            go_wp2_with fail
            go_meet
            rw [hk]
          by_cases k1 : y.1 = [103, 97, 116, 101]
          · have f1 : (y.1 == [103, 97, 116, 101]) = true := by simp [k1]
            have g0 : (y.1 == [105, 110, 112, 117, 116]) = false := by rw [k1]; rfl
            have hk : kw = 2 := by rw [hkw, k1]; rfl
            clear hkw k0 k1
            go_wp2_with fail
            go_meet
            rw [hk]
          by_cases k2 : y.1 = [109, 117, 120]
          · have f2 : (y.1 == [109, 117, 120]) = true := by simp [k2]
            have g0 : (y.1 == [105, 110, 112, 117, 116]) = false := by rw [k2]; rfl
            have g1 : (y.1 == [103, 97, 116, 101]) = false := by rw [k2]; rfl
            have hk : kw = 4 := by rw [hkw, k2]; rfl
            clear hkw k0 k1 k2
            go_wp2_with fail
            go_meet
            rw [hk]
          by_cases k3 : y.1 = [108, 97, 116, 99, 104]
          · have f3 : (y.1 == [108, 97, 116, 99, 104]) = true := by simp [k3]
            have g0 : (y.1 == [105, 110, 112, 117, 116]) = false := by rw [k3]; rfl
            have g1 : (y.1 == [103, 97, 116, 101]) = false := by rw [k3]; rfl
            have g2 : (y.1 == [109, 117, 120]) = false := by rw [k3]; rfl
            have hk : kw = 3 := by rw [hkw, k3]; rfl
            clear hkw k0 k1 k2 k3
            go_wp2_with fail
            go_meet
            rw [hk]
          exfalso
          have h1 := HWN.out
          rw [HFW.out] at h1
          apply h1
          unfold formW
          rw [if_neg k0, if_neg k1, if_neg k2, if_neg k3, if_neg HY.out]
        case rest =>
        rw [hcut]
        have TE8 := hid (TE7.out.kind H0.out ⟨rfl, rfl⟩ kw)
        have HLL2 : Hid (lineF T (y :: t) s = added kw s ll it) := by show _ = _; rw [HLL.out, HKW.out]
        have HK0 : Hid (kw ≠ 0) := by show kw ≠ 0; rw [HKW.out]; exact kindW_pos (by rw [← HFW.out]; exact HWN.out) HY.out
        refine ‹∀ (a : Act) (w_1 : World), Code.wp Tryd.prog ((Tryd.f21.body.bind (tailReg 52)).getD .skip) (bodyPost Tryd.prog Tryd.f21 (LineIs w W r text (lineF T (y :: t) s))) a w_1 → _› _ _ ?_
        exact item_tail T w W _ r ng text s x y t it p q kw ll sv6 cv6 _ _ _ H0 TE8 HNP HPP HLL2 HK0 HG HSM HNG HF hN HW _ _ _ _ _ _ _ _ _ _ _ _ _ _ _ _ _ _ _ _ _ _ _ _ _ _ _ _ _ _ _ _ _ _ _ _ _ _ _ _ _ _ _ _ _ _ _ _ _ _ _ _ _ _ _ _ _ _ _ _ _ _ _ _ _ _ _ _ _ _ _ _ _ _ _ _ _ _ _ _ _ _ _ _ _ _ _ _ _ _ _ _ _ _ _ _ _ _ _ _ _ _ _ _ _ _ _ _ _ _ _ _ _ _ _ _ _ _ _ _ _ _ _ _ _ _ _ _ _ _ _ _ _ _ _ _ _ _ _ _ _ _ _ _ _ _ _ _ _ _ _ _ _ _ _ _ _ _ _ _ _ _ _ _ _ _ _ _ _ _ _ _ _ _ _ _ _ _ _ _ _ _ _ _ _ _ _ _ _ _ _ _ _ _ _ _ _ _ _ _ _ _ _ _ _ _ _ _ _ _ _ _ _ _ _ _ _ _ _ _ _ _ _ _ _ _ _
end Go.Proofs.YtfmmmhcpdinhgabDoor
