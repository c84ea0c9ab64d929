import Derived.Test.YtdkboifpdodonacGreatDoorZ29
set_option linter.unusedSimpArgs false
/-
 FormulaFresh: the law.
-/
namespace Go.Proofs.YtdkboifpdodonacGreatDoor
open Go.RowKit Go.Deep PureCnf PureForm ShfKit
set_option maxRecDepth 100000

theorem tabs_on {w W : World} (h : Lib.Utf8Tabs 2 3 w) (hb : Below w.heap.size w W) : Lib.Utf8Tabs 2 3 W := by
 obtain ⟨l1, l2⟩ := tabs_lt h
 exact ⟨fun c hc => below_cell hb l1 (h.1 c hc), fun i hi => ⟨below_cell hb l2 (h.2 i hi).1, below_cell hb l2 (h.2 i hi).2⟩⟩
def PN (W : World) (F : List Nd) (e : Ending) (W' : World) : Prop := (∃ sa ca a b c, e = .returned (.tuple #[.slice sa F.length ca, .agg #[.int .i64 a, .int .i64 b, .int .i64 c]]) ∧ W'.ownsRow W.heap.size 44 2 (.slice sa F.length ca) F.length (ndL F)) ∧ Below W.heap.size W W'
def PC (W : World) (V : Int) (E L : List Int) (ne nl : Nat) (e : Ending) (W' : World) : Prop := (∃ se ce sl cl a b c, e = .returned (.tuple #[cnfV V se ne ce sl nl cl, .agg #[.int .i64 a, .int .i64 b, .int .i64 c]]) ∧ RowsO W' W.heap.size (.slice se ne ce) (.slice sl nl cl) E L ∧ IntsAt W' se E ∧ IntsAt W' sl L) ∧ Below W.heap.size W W'
def PI (W : World) (V : Int) (E L : List Int) (ne nl : Nat) (e : Ending) (W' : World) : Prop := (∃ se ce sl cl a b c, e = .returned (.tuple #[cnfV V se ne ce sl nl cl, .agg #[.int .i64 a, .int .i64 b, .int .i64 c]]) ∧ Own W' W.heap.size se E ∧ Own W' W.heap.size sl L) ∧ Below W.heap.size W W'
/-- where all lies. -/
structure Or9 (w : World) (a0 ba bb bx bc bd by' br bs bq : Nat) : Prop where
 w : w.heap.size ≤ a0
 a : a0 ≤ ba
 b : ba + 1 ≤ bb
 x : bb + 1 ≤ bx
 c : bx + 1 ≤ bc
 d : bc + 2 ≤ bd
 y : bd + 2 ≤ by'
 r : by' + 2 ≤ br
 s : br + 1 ≤ bs
 q : bs + 1 ≤ bq
/-- the four boxes. -/
structure Bx4 (W : World) (bc bd by' bq : Nat) (C D Y Q : Array Value) : Prop where
 c : W.heap[bc]? = some (.cells C 33 (0, 0))
 d : W.heap[bd]? = some (.cells D 33 (0, 0))
 y : W.heap[by']? = some (.cells Y 33 (0, 0))
 q : W.heap[bq]? = some (.cells Q 33 (0, 0))
theorem Bx4.on {W W' : World} {bc bd by' bq : Nat} {C D Y Q : Array Value} (h : Bx4 W bc bd by' bq C D Y Q) (hb : Below W.heap.size W W') : Bx4 W' bc bd by' bq C D Y Q :=
 ⟨(hb.block _ (Array.getElem?_eq_some_iff.1 h.c).1).trans h.c, (hb.block _ (Array.getElem?_eq_some_iff.1 h.d).1).trans h.d, (hb.block _ (Array.getElem?_eq_some_iff.1 h.y).1).trans h.y, (hb.block _ (Array.getElem?_eq_some_iff.1 h.q).1).trans h.q⟩
theorem Bx4.cells {W : World} {bc bd by' bq : Nat} {C D Y Q : Array Value} (h : Bx4 W bc bd by' bq C D Y Q) : (∀ j, W.cell? ⟨bc, j, none⟩ = C[j]?) ∧ (∀ j, W.cell? ⟨bd, j, none⟩ = D[j]?) ∧ (∀ j, W.cell? ⟨by', j, none⟩ = Y[j]?) ∧ (∀ j, W.cell? ⟨bq, j, none⟩ = Q[j]?) ∧ bc < W.heap.size ∧ bd < W.heap.size ∧ by' < W.heap.size ∧ bq < W.heap.size :=
 ⟨fun j => cell_row h.c j, fun j => cell_row h.d j, fun j => cell_row h.y j, fun j => cell_row h.q j, (Array.getElem?_eq_some_iff.1 h.c).1, (Array.getElem?_eq_some_iff.1 h.d).1, (Array.getElem?_eq_some_iff.1 h.y).1, (Array.getElem?_eq_some_iff.1 h.q).1⟩
theorem told33 {W W9 : World} {b : Nat} {a0 a1 a2 : Value} (h1 : W.heap[b]? = some (.cells #[a0, a1, a2] 33 (0, 0))) (u0 u1 u2 : Value)
  (h9 : W9 = ((W.setCell ⟨b, 0, none⟩ u0).setCell ⟨b, 1, none⟩ u1).setCell ⟨b, 2, none⟩ u2) :
  W9.heap[b]? = some (.cells #[u0, u1, u2] 33 (0, 0)) ∧ Below b W W9 ∧ ∀ k, k ≠ b → W9.heap[k]? = W.heap[k]? := by
 refine ⟨?_, ?_, fun k k1 => ?_⟩
 ·rw [h9]
  simp [World.setCell, Array.getElem?_modify, h1]
 ·rw [h9]
  exact (((Below.refl b W).setCell (p := ⟨b, 0, none⟩) (Nat.le_refl _) _).setCell (p := ⟨b, 1, none⟩) (Nat.le_refl _) _).setCell (p := ⟨b, 2, none⟩) (Nat.le_refl _) _
 ·rw [h9, Below.heap_setCell _ _ _ _ (show k ≠ b from k1), Below.heap_setCell _ _ _ _ (show k ≠ b from k1), Below.heap_setCell _ _ _ _ (show k ≠ b from k1)]
theorem far_of {W : World} {B e size n m c : Nat} {sa : Option Addr} {xs : List Value} (h : W.ownsRow B e size (.slice sa n c) m xs) : ∀ a, sa = some a → B ≤ a.block := fun a ha => by
 rcases h.2 with ⟨hv, _⟩ | ⟨g, cap, cur, hv, hb, _⟩
 ·simp only [Value.slice.injEq] at hv
  rw [hv.1] at ha
  cases ha
 ·simp only [Value.slice.injEq] at hv
  rw [hv.1] at ha
  have : a = ⟨g, 0, none⟩ := (Option.some.inj ha).symm
  rw [this]
  exact hb
set_option maxHeartbeats 4000000 in
theorem fresh_law (s1 s2 s3 : ByteArray) (w : World) (h1 : s1.size ≤ 9223372036854775807) (h2 : s2.size ≤ 9223372036854775807) (h3 : s3.size ≤ 9223372036854775807) (hT : Lib.Utf8Tabs 2 3 w) (g o c : Nat) (hsg : Ref.SignsAt w g o c) (hal : Calls Tryz.prog 4 #[] w fun e w' => e = .returned (.bool true) ∧ Below w.heap.size w w') :
  Calls Tryz.prog 3 #[.string s1, .string s2, .string s3] w fun e w' => e = .returned (.bool true) ∧ Below w.heap.size w w' := by
 obtain ⟨F1, hF1⟩ : ∃ F, F = outF s1.data.toList := ⟨_, rfl⟩
 obtain ⟨F2, hF2⟩ : ∃ F, F = outF s2.data.toList := ⟨_, rfl⟩
 obtain ⟨C3, hC3⟩ : ∃ C, C = outC s3.data.toList := ⟨_, rfl⟩
 obtain ⟨Cy, hCy⟩ : ∃ C, C = outC fixC := ⟨_, rfl⟩
 have L1 : Hid (F1.length ≤ 4194304) := by show _ ≤ _; rw [hF1]; exact outF_few _
 have L2 : Hid (F2.length ≤ 4194304) := by show _ ≤ _; rw [hF2]; exact outF_few _
 have L3 : Hid (C3.2.1.length ≤ 4194304 ∧ C3.2.2.length ≤ 4194304) := by show _ ∧ _; rw [hC3]; exact outC_few _
 have LyE : Hid (Cy.2.1.length = 2) := by show _ = _; rw [hCy]; exact fixC_E
 have LyL : Hid (Cy.2.2.length = 4) := by show _ = _; rw [hCy]; exact fixC_L
 have AL := hid hal
 have PA1 : Hid (∀ W, Below w.heap.size w W → Calls Tryz.prog 5 #[.string s1] W (PN W F1)) := fun W hb => (parse_landed s1 W h1 (tabs_on hT hb)).mono fun e W' h => ⟨by rw [hF1]; exact h.1.got, h.2⟩
 have PA2 : Hid (∀ W, Below w.heap.size w W → Calls Tryz.prog 5 #[.string s2] W (PN W F2)) := fun W hb => (parse_landed s2 W h2 (tabs_on hT hb)).mono fun e W' h => ⟨by rw [hF2]; exact h.1.got, h.2⟩
 have PD1 : Hid (∀ W, Below w.heap.size w W → Calls Tryz.prog 7 #[.string s1] W (PN W F1)) := fun W hb => (Ref.parse_own s1 W g o c (hsg.below hb) h1).mono fun e W' h => ⟨by rw [hF1]; exact gotF h.1, h.2⟩
 have PD2 : Hid (∀ W, Below w.heap.size w W → Calls Tryz.prog 7 #[.string s2] W (PN W F2)) := fun W hb => (Ref.parse_own s2 W g o c (hsg.below hb) h2).mono fun e W' h => ⟨by rw [hF2]; exact gotF h.1, h.2⟩
 have CA3 : Hid (∀ W, Calls Tryz.prog 6 #[.string s3] W (PC W C3.1 C3.2.1 C3.2.2 C3.2.1.length C3.2.2.length)) := fun W => (parses_landed s3 W h3).mono fun e W' h => ⟨by rw [hC3]; exact h.1.got, h.2⟩
 have CAy : Hid (∀ W, Calls Tryz.prog 6 #[.string ⟨fixC.toArray⟩] W (PC W Cy.1 Cy.2.1 Cy.2.2 2 4)) := fun W => (parses_landed ⟨fixC.toArray⟩ W (by decide)).mono fun e W' h => ⟨by
  obtain ⟨se, ce, sl, cl, a, b, c, h4, h5, h6, h7⟩ := h.1.got
  have e0 : (⟨fixC.toArray⟩ : ByteArray).data.toList = fixC := rfl
  rw [e0, ← hCy] at h4 h5 h6 h7
  rw [LyE.out, LyL.out] at h4 h5
  exact ⟨se, ce, sl, cl, a, b, c, h4, h5, h6, h7⟩, h.2⟩
 have CD3 : Hid (∀ W, Calls Tryz.prog 8 #[.string s3] W (PI W C3.1 C3.2.1 C3.2.2 C3.2.1.length C3.2.2.length)) := fun W => (Cn.parses_own s3 W h3).mono fun e W' h => ⟨by rw [hC3]; exact gotI h.1, h.2⟩
 obtain ⟨NV3, E3, M3⟩ := C3
 obtain ⟨NVy, Ey, My⟩ := Cy
 dsimp only at L3 LyE LyL CA3 CAy CD3
 clear hF1 hF2 hC3 hCy hT hsg hal h1 h2 h3
 go_enter Tryz.func3, Tryz.ntmps3
 go_upto_region 4 with (go_at_call 4; refine AL.out.mono ?_; rintro e W1 ⟨rfl, b1⟩; have B0 := hid b1; clear b1)
 go_upto_region 5 with (go_at_call 5; refine (PA1.out _ B0.out).mono ?_; rintro e V1 ⟨⟨sa1, ca1, x1, y1, z1, rfl, o1⟩, b1⟩)
 obtain ⟨Wa, hWa⟩ : ∃ Wa, Wa = V1.alloc (Obj.cells #[Value.int .i64 x1, Value.int .i64 y1, Value.int .i64 z1] 28) := ⟨_, rfl⟩
 rw [← hWa]
 have ZA := hid (Nz.of o1 b1 hWa)
 obtain ⟨ba, hba⟩ : ∃ ba, ba = V1.heap.size := ⟨_, rfl⟩
 rw [← hba] at ZA ⊢
 have B1 : Hid (Below w.heap.size w Wa) := B0.out.trans (ZA.out.below.mono B0.out.size)
 clear hWa hba o1 b1
 go_upto_region 6 with (go_at_call 5; refine (PA1.out _ B1.out).mono ?_; rintro e V2 ⟨⟨sa2, ca2, x2, y2, z2, rfl, o2⟩, b2⟩)
 obtain ⟨Wb, hWb⟩ : ∃ Wb, Wb = V2.alloc (Obj.cells #[Value.int .i64 x2, Value.int .i64 y2, Value.int .i64 z2] 28) := ⟨_, rfl⟩
 rw [← hWb]
 have ZB := hid (Nz.of o2 b2 hWb)
 obtain ⟨bb, hbb⟩ : ∃ bb, bb = V2.heap.size := ⟨_, rfl⟩
 rw [← hbb] at ZB ⊢
 have B2 : Hid (Below w.heap.size w Wb) := B1.out.trans (ZB.out.below.mono B1.out.size)
 clear hWb hbb o2 b2
 go_upto_region 7 with (go_at_call 5; refine (PA2.out _ B2.out).mono ?_; rintro e V3 ⟨⟨sa3, ca3, x3, y3, z3, rfl, o3⟩, b3⟩)
 obtain ⟨Wx, hWx⟩ : ∃ Wx, Wx = V3.alloc (Obj.cells #[Value.int .i64 x3, Value.int .i64 y3, Value.int .i64 z3] 28) := ⟨_, rfl⟩
 rw [← hWx]
 have ZX := hid (Nz.of o3 b3 hWx)
 obtain ⟨bx, hbx⟩ : ∃ bx, bx = V3.heap.size := ⟨_, rfl⟩
 rw [← hbx] at ZX ⊢
 have B3 : Hid (Below w.heap.size w Wx) := B2.out.trans (ZX.out.below.mono B2.out.size)
 clear hWx hbx o3 b3
 go_upto_region 8 with (go_at_call 6; refine (CA3.out _).mono ?_; rintro e V4 ⟨⟨se4, ce4, sl4, cl4, x4, y4, z4, rfl, o4, q4, r4⟩, b4⟩)
 obtain ⟨Wc, hWc⟩ : ∃ Wc, Wc = (V4.alloc (Obj.cells #[Value.int .i64 NV3, Value.slice se4 E3.length ce4, Value.slice sl4 M3.length cl4] 33)).alloc (Obj.cells #[Value.int .i64 x4, Value.int .i64 y4, Value.int .i64 z4] 28) := ⟨_, rfl⟩
 rw [← hWc]
 have ZC := hid (Cz.of o4 q4 r4 b4 hWc)
 obtain ⟨bc, hbc⟩ : ∃ bc, bc = V4.heap.size := ⟨_, rfl⟩
 rw [← hbc] at ZC ⊢
 have B4 : Hid (Below w.heap.size w Wc) := B3.out.trans (ZC.out.below.mono B3.out.size)
 clear hWc hbc o4 q4 b4 r4
 go_upto_region 9 with (go_at_call 6; refine (CA3.out _).mono ?_; rintro e V5 ⟨⟨se5, ce5, sl5, cl5, x5, y5, z5, rfl, o5, q5, r5⟩, b5⟩)
 obtain ⟨Wd, hWd⟩ : ∃ Wd, Wd = (V5.alloc (Obj.cells #[Value.int .i64 NV3, Value.slice se5 E3.length ce5, Value.slice sl5 M3.length cl5] 33)).alloc (Obj.cells #[Value.int .i64 x5, Value.int .i64 y5, Value.int .i64 z5] 28) := ⟨_, rfl⟩
 rw [← hWd]
 have ZD := hid (Cz.of o5 q5 r5 b5 hWd)
 obtain ⟨bd, hbd⟩ : ∃ bd, bd = V5.heap.size := ⟨_, rfl⟩
 rw [← hbd] at ZD ⊢
 have B5 : Hid (Below w.heap.size w Wd) := B4.out.trans (ZD.out.below.mono B4.out.size)
 clear hWd hbd o5 q5 b5 r5
 go_upto_region 10 with (go_at_call 6; refine (CAy.out _).mono ?_; rintro e V6 ⟨⟨se6, ce6, sl6, cl6, x6, y6, z6, rfl, o6, q6, r6⟩, b6⟩)
 obtain ⟨Wy, hWy⟩ : ∃ Wy, Wy = (V6.alloc (Obj.cells #[Value.int .i64 NVy, Value.slice se6 2 ce6, Value.slice sl6 4 cl6] 33)).alloc (Obj.cells #[Value.int .i64 x6, Value.int .i64 y6, Value.int .i64 z6] 28) := ⟨_, rfl⟩
 rw [← hWy]
 have ZY := hid (Cz.of o6 q6 r6 b6 hWy)
 obtain ⟨by1, hby1⟩ : ∃ by1, by1 = V6.heap.size := ⟨_, rfl⟩
 rw [← hby1] at ZY ⊢
 have B6 : Hid (Below w.heap.size w Wy) := B5.out.trans (ZY.out.below.mono B5.out.size)
 clear hWy hby1 o6 q6 b6 r6
 go_upto_region 11 with (go_at_call 7; refine (PD1.out _ B6.out).mono ?_; rintro e V7 ⟨⟨sa7, ca7, x7, y7, z7, rfl, o7⟩, b7⟩)
 obtain ⟨Wr, hWr⟩ : ∃ Wr, Wr = V7.alloc (Obj.cells #[Value.int .i64 x7, Value.int .i64 y7, Value.int .i64 z7] 28) := ⟨_, rfl⟩
 rw [← hWr]
 have ZR := hid (Nz.of o7 b7 hWr)
 obtain ⟨br, hbr⟩ : ∃ br, br = V7.heap.size := ⟨_, rfl⟩
 rw [← hbr] at ZR ⊢
 have B7 : Hid (Below w.heap.size w Wr) := B6.out.trans (ZR.out.below.mono B6.out.size)
 clear hWr hbr o7 b7
 go_upto_region 12 with (go_at_call 7; refine (PD2.out _ B7.out).mono ?_; rintro e V8 ⟨⟨sa8, ca8, x8, y8, z8, rfl, o8⟩, b8⟩)
 obtain ⟨Ws, hWs⟩ : ∃ Ws, Ws = V8.alloc (Obj.cells #[Value.int .i64 x8, Value.int .i64 y8, Value.int .i64 z8] 28) := ⟨_, rfl⟩
 rw [← hWs]
 have ZS := hid (Nz.of o8 b8 hWs)
 obtain ⟨bs, hbs⟩ : ∃ bs, bs = V8.heap.size := ⟨_, rfl⟩
 rw [← hbs] at ZS ⊢
 have B8 : Hid (Below w.heap.size w Ws) := B7.out.trans (ZS.out.below.mono B7.out.size)
 clear hWs hbs o8 b8
 go_upto_region 13 with (go_at_call 8; refine (CD3.out _).mono ?_; rintro e V9 ⟨⟨se9, ce9, sl9, cl9, x9, y9, z9, rfl, o9, q9⟩, b9⟩)
 obtain ⟨Wq, hWq⟩ : ∃ Wq, Wq = (V9.alloc (Obj.cells #[Value.int .i64 NV3, Value.slice se9 E3.length ce9, Value.slice sl9 M3.length cl9] 33)).alloc (Obj.cells #[Value.int .i64 x9, Value.int .i64 y9, Value.int .i64 z9] 28) := ⟨_, rfl⟩
 rw [← hWq]
 have ZQ := hid (Dz.of o9 q9 b9 hWq)
 obtain ⟨bq, hbq⟩ : ∃ bq, bq = V9.heap.size := ⟨_, rfl⟩
 rw [← hbq] at ZQ ⊢
 have B9 : Hid (Below w.heap.size w Wq) := B8.out.trans (ZQ.out.below.mono B8.out.size)
 clear hWq hbq o9 q9 b9
 have sA := ZA.out.size
 have sB := ZB.out.size
 have sX := ZX.out.size
 have sC := ZC.out.size
 have sD := ZD.out.size
 have sY := ZY.out.size
 have sR := ZR.out.size
 have sS := ZS.out.size
 have OR : Hid (Or9 w W1.heap.size ba bb bx bc bd by1 br bs bq) := ⟨B0.out.size, ZA.out.low, by have := ZB.out.low; omega, by have := ZX.out.low; omega, by have := ZC.out.low; omega, by have := ZD.out.low; omega, by have := ZY.out.low; omega, by have := ZR.out.low; omega, by have := ZS.out.low; omega, by have := ZQ.out.low; omega⟩
 have HSQ : Hid (Wq.heap.size = bq + 2) := ZQ.out.size
 have bS : Below Ws.heap.size Ws Wq := ZQ.out.below
 have bR : Below Wr.heap.size Wr Wq := ZS.out.below.trans (bS.mono ZS.out.below.size)
 have bY : Below Wy.heap.size Wy Wq := ZR.out.below.trans (bR.mono ZR.out.below.size)
 have bD : Below Wd.heap.size Wd Wq := ZY.out.below.trans (bY.mono ZY.out.below.size)
 have bC : Below Wc.heap.size Wc Wq := ZD.out.below.trans (bD.mono ZD.out.below.size)
 have bX : Below Wx.heap.size Wx Wq := ZC.out.below.trans (bC.mono ZC.out.below.size)
 have bB : Below Wb.heap.size Wb Wq := ZX.out.below.trans (bX.mono ZX.out.below.size)
 have bA : Below Wa.heap.size Wa Wq := ZB.out.below.trans (bB.mono ZB.out.below.size)
 have OA : Hid (Wq.ownsRow W1.heap.size 44 2 (.slice sa1 F1.length ca1) F1.length (ndL F1)) := by have h := ownsRow_below ZA.out.own bA; exact h
 have OB : Hid (Wq.ownsRow (ba + 1) 44 2 (.slice sa2 F1.length ca2) F1.length (ndL F1)) := by have h := ownsRow_below ZB.out.own bB; rw [sA] at h; exact h
 have OX : Hid (Wq.ownsRow (bb + 1) 44 2 (.slice sa3 F2.length ca3) F2.length (ndL F2)) := by have h := ownsRow_below ZX.out.own bX; rw [sB] at h; exact h
 have OR7 : Hid (Wq.ownsRow (by1 + 2) 44 2 (.slice sa7 F1.length ca7) F1.length (ndL F1)) := by have h := ownsRow_below ZR.out.own bR; rw [sY] at h; exact h
 have OS : Hid (Wq.ownsRow (br + 1) 44 2 (.slice sa8 F2.length ca8) F2.length (ndL F2)) := by have h := ownsRow_below ZS.out.own bS; rw [sR] at h; exact h
 have OC : Hid (RowsO Wq (bx + 1) (.slice se4 E3.length ce4) (.slice sl4 M3.length cl4) E3 M3) := by have h := ZC.out.rows.on bC; rw [sX] at h; exact h
 have IC : Hid (IntsAt Wq se4 E3 ∧ IntsAt Wq sl4 M3) := ⟨ZC.out.iE.below bC, ZC.out.iL.below bC⟩
 have HC : Hid ((∀ k, (Value.slice se4 E3.length ce4).ownBlock = some k → k < bc) ∧ ∀ k, (Value.slice sl4 M3.length cl4).ownBlock = some k → k < bc) := ⟨ZC.out.hE, ZC.out.hL⟩
 have OD : Hid (RowsO Wq (bc + 2) (.slice se5 E3.length ce5) (.slice sl5 M3.length cl5) E3 M3) := by have h := ZD.out.rows.on bD; rw [sC] at h; exact h
 have ID : Hid (IntsAt Wq se5 E3 ∧ IntsAt Wq sl5 M3) := ⟨ZD.out.iE.below bD, ZD.out.iL.below bD⟩
 have HD : Hid ((∀ k, (Value.slice se5 E3.length ce5).ownBlock = some k → k < bd) ∧ ∀ k, (Value.slice sl5 M3.length cl5).ownBlock = some k → k < bd) := ⟨ZD.out.hE, ZD.out.hL⟩
 have OY : Hid (RowsO Wq (bd + 2) (.slice se6 2 ce6) (.slice sl6 4 cl6) Ey My) := by have h := ZY.out.rows.on bY; rw [sD] at h; exact h
 have IY : Hid (IntsAt Wq se6 Ey ∧ IntsAt Wq sl6 My) := ⟨ZY.out.iE.below bY, ZY.out.iL.below bY⟩
 have HY : Hid ((∀ k, (Value.slice se6 2 ce6).ownBlock = some k → k < by1) ∧ ∀ k, (Value.slice sl6 4 cl6).ownBlock = some k → k < by1) := ⟨ZY.out.hE, ZY.out.hL⟩
 have OQ : Hid (Own Wq (bs + 1) se9 E3 ∧ Own Wq (bs + 1) sl9 M3) := by have h := ZQ.out.oE; have h2 := ZQ.out.oL; rw [sS] at h h2; exact ⟨h, h2⟩
 have HA : Hid (∀ k, (Value.slice sa1 F1.length ca1).ownBlock = some k → k < ba) := ZA.out.hi
 have HBb : Hid (∀ k, (Value.slice sa2 F1.length ca2).ownBlock = some k → k < bb) := ZB.out.hi
 have HX : Hid (∀ k, (Value.slice sa3 F2.length ca3).ownBlock = some k → k < bx) := ZX.out.hi
 have BX : Hid (Bx4 Wq bc bd by1 bq #[.int .i64 NV3, .slice se4 E3.length ce4, .slice sl4 M3.length cl4] #[.int .i64 NV3, .slice se5 E3.length ce5, .slice sl5 M3.length cl5] #[.int .i64 NVy, .slice se6 2 ce6, .slice sl6 4 cl6] #[.int .i64 NV3, .slice se9 E3.length ce9, .slice sl9 M3.length cl9]) := ⟨(bC.block _ (Array.getElem?_eq_some_iff.1 ZC.out.box).1).trans ZC.out.box, (bD.block _ (Array.getElem?_eq_some_iff.1 ZD.out.box).1).trans ZD.out.box, (bY.block _ (Array.getElem?_eq_some_iff.1 ZY.out.box).1).trans ZY.out.box, ZQ.out.box⟩
 clear sA sB sX sC sD sY sR sS bS bR bY bD bC bX bB bA ZA ZB ZX ZC ZD ZY ZR ZS ZQ B1 B2 B3 B4 B5 B6 B7 B8
 have S1 : Hid (∀ V, Below Wq.heap.size Wq V → Calls Tryz.prog 9 #[.slice sa1 F1.length ca1, .slice sa7 F1.length ca7] V fun e w' => e = .returned (.bool true) ∧ Below V.heap.size V w') := fun V hb => Doc.same_true F1 sa1 sa7 ca1 ca7 V (by have := L1.out; omega) (nodes_of (ownsRow_below OA.out hb)) (nodes_of (ownsRow_below OR7.out hb))
 have S2 : Hid (∀ V, Below Wq.heap.size Wq V → Calls Tryz.prog 9 #[.slice sa2 F1.length ca2, .slice sa7 F1.length ca7] V fun e w' => e = .returned (.bool true) ∧ Below V.heap.size V w') := fun V hb => Doc.same_true F1 sa2 sa7 ca2 ca7 V (by have := L1.out; omega) (nodes_of (ownsRow_below OB.out hb)) (nodes_of (ownsRow_below OR7.out hb))
 have S3 : Hid (∀ V, Below Wq.heap.size Wq V → Calls Tryz.prog 9 #[.slice sa3 F2.length ca3, .slice sa8 F2.length ca8] V fun e w' => e = .returned (.bool true) ∧ Below V.heap.size V w') := fun V hb => Doc.same_true F2 sa3 sa8 ca3 ca8 V (by have := L2.out; omega) (nodes_of (ownsRow_below OX.out hb)) (nodes_of (ownsRow_below OS.out hb))
 have T1 : Hid (∀ V, Below Wq.heap.size Wq V → Calls Tryz.prog 10 #[cnfV NV3 se4 E3.length ce4 sl4 M3.length cl4, cnfV NV3 se9 E3.length ce9 sl9 M3.length cl9] V fun e w' => e = .returned (.bool true) ∧ Below V.heap.size V w') := fun V hb => sameCnf_true NV3 E3 M3 se4 sl4 se9 sl9 ce4 cl4 ce9 cl9 V (by have := L3.out.1; omega) (by have := L3.out.2; omega) (IC.out.1.below hb) (IC.out.2.below hb) (OQ.out.1.ints.below hb) (OQ.out.2.ints.below hb)
 have T2 : Hid (∀ V, Below Wq.heap.size Wq V → Calls Tryz.prog 10 #[cnfV NV3 se5 E3.length ce5 sl5 M3.length cl5, cnfV NV3 se9 E3.length ce9 sl9 M3.length cl9] V fun e w' => e = .returned (.bool true) ∧ Below V.heap.size V w') := fun V hb => sameCnf_true NV3 E3 M3 se5 sl5 se9 sl9 ce5 cl5 ce9 cl9 V (by have := L3.out.1; omega) (by have := L3.out.2; omega) (ID.out.1.below hb) (ID.out.2.below hb) (OQ.out.1.ints.below hb) (OQ.out.2.ints.below hb)
 obtain ⟨p1, p2, p3, p4, p5, p6, p7, p8⟩ := BX.out.cells
 have G0 : Hid (Below Wq.heap.size Wq Wq) := Below.refl _ _
 go_upto_region 15 with (first
  |(have q := G4; clear q; go_at_call 10; refine (T2.out _ G4.out).mono ?_; rintro e u5 ⟨rfl, b5⟩; have G5 : Hid (Below Wq.heap.size Wq u5) := G4.out.trans (b5.mono G4.out.size); clear b5 G4 p1 p2 p3 p4 p5 p6 p7 p8; obtain ⟨p1, p2, p3, p4, p5, p6, p7, p8⟩ := (BX.out.on G5.out).cells)
  |(have q := G3; clear q; go_at_call 10; refine (T1.out _ G3.out).mono ?_; rintro e u4 ⟨rfl, b5⟩; have G4 : Hid (Below Wq.heap.size Wq u4) := G3.out.trans (b5.mono G3.out.size); clear b5 G3 p1 p2 p3 p4 p5 p6 p7 p8; obtain ⟨p1, p2, p3, p4, p5, p6, p7, p8⟩ := (BX.out.on G4.out).cells)
  |(have q := G2; clear q; go_at_call 9; refine (S3.out _ G2.out).mono ?_; rintro e u3 ⟨rfl, b5⟩; have G3 : Hid (Below Wq.heap.size Wq u3) := G2.out.trans (b5.mono G2.out.size); clear b5 G2 p1 p2 p3 p4 p5 p6 p7 p8; obtain ⟨p1, p2, p3, p4, p5, p6, p7, p8⟩ := (BX.out.on G3.out).cells)
  |(have q := G1; clear q; go_at_call 9; refine (S2.out _ G1.out).mono ?_; rintro e u2 ⟨rfl, b5⟩; have G2 : Hid (Below Wq.heap.size Wq u2) := G1.out.trans (b5.mono G1.out.size); clear b5 G1 p1 p2 p3 p4 p5 p6 p7 p8; obtain ⟨p1, p2, p3, p4, p5, p6, p7, p8⟩ := (BX.out.on G2.out).cells)
  |(have q := G0; clear q; go_at_call 9; refine (S1.out _ G0.out).mono ?_; rintro e u1 ⟨rfl, b5⟩; have G1 : Hid (Below Wq.heap.size Wq u1) := G0.out.trans (b5.mono G0.out.size); clear b5 G0 p1 p2 p3 p4 p5 p6 p7 p8; obtain ⟨p1, p2, p3, p4, p5, p6, p7, p8⟩ := (BX.out.on G1.out).cells))
 clear S1 S2 S3 T1 T2 p1 p2 p3 p4 p5 p6 p7 p8
 obtain ⟨oW, oA, oB, oX, oC, oD, oY, oR, oS, oQ⟩ := OR.out
 have hq5 : bq + 2 ≤ u5.heap.size := by have := G5.out.size; rw [HSQ.out] at this; exact this
 obtain ⟨D1, hD1⟩ : ∃ D : List Rw, D = [(Value.slice sa1 F1.length ca1, F1.length, ndL F1), (Value.slice sa2 F1.length ca2, F1.length, ndL F1), (Value.slice sa3 F2.length ca3, F2.length, ndL F2)] := ⟨_, rfl⟩
 obtain ⟨D2, hD2⟩ : ∃ D : List Rw, D = [(Value.slice se4 E3.length ce4, E3.length, ci E3), (Value.slice sl4 M3.length cl4, M3.length, ci M3), (Value.slice se5 E3.length ce5, E3.length, ci E3), (Value.slice sl5 M3.length cl5, M3.length, ci M3), (Value.slice se6 2 ce6, 2, ci Ey), (Value.slice sl6 4 cl6, 4, ci My)] := ⟨_, rfl⟩
 obtain ⟨VG, hVG⟩ : ∃ VG, VG = u5.alloc (Obj.cells #[Value.slice sa1 F1.length ca1, Value.slice sa2 F1.length ca2, Value.slice sa3 F2.length ca3] 23) := ⟨_, rfl⟩
 have bVG : Below Wq.heap.size Wq VG := by rw [hVG]; exact G5.out.alloc (by have := HSQ.out; omega) _
 have sVG : VG.heap.size = u5.heap.size + 1 := by rw [hVG]; simp
 have o1 : ∀ d ∈ D1, VG.ownsRow w.heap.size 44 2 d.1 d.2.1 d.2.2 := fun d hd => by
  rw [hD1] at hd
  simp only [List.mem_cons, List.not_mem_nil, or_false] at hd
  rcases hd with rfl | rfl | rfl
  ·exact own_base (ownsRow_below OA.out bVG) (by omega)
  ·exact own_base (ownsRow_below OB.out bVG) (by omega)
  ·exact own_base (ownsRow_below OX.out bVG) (by omega)
 have z1 : ∀ d ∈ D1, ∀ k, d.1.ownBlock = some k → w.heap.size ≤ k ∧ k < by1 + 2 := fun d hd k hk => by
  rw [hD1] at hd
  simp only [List.mem_cons, List.not_mem_nil, or_false] at hd
  rcases hd with rfl | rfl | rfl
  ·have h1 := (own_block OA.out hk).1; have h2 := HA.out k hk; omega
  ·have h1 := (own_block OB.out hk).1; have h2 := HBb.out k hk; omega
  ·have h1 := (own_block OX.out hk).1; have h2 := HX.out k hk; omega
 have a1 : D1.Pairwise fun x y => ∀ k, x.1.ownBlock = some k → y.1.ownBlock ≠ some k := by
  rw [hD1]
  refine List.Pairwise.cons (fun y hy k h1 h2 => ?_) (List.Pairwise.cons (fun y hy k h1 h2 => ?_) (List.Pairwise.cons (fun y hy => by simp at hy) List.Pairwise.nil))
  ·have g1 := HA.out k h1
   simp only [List.mem_cons, List.not_mem_nil, or_false] at hy
   rcases hy with rfl | rfl
   ·have g2 := (own_block OB.out h2).1; omega
   ·have g2 := (own_block OX.out h2).1; omega
  ·have g1 := HBb.out k h1
   simp only [List.mem_cons, List.not_mem_nil, or_false] at hy
   rcases hy with rfl
   have g2 := (own_block OX.out h2).1; omega
 have NAP : Hid (Calls Tryz.prog 11 #[.slice (some ⟨u5.heap.size, 0, none⟩) 3 3] VG fun e W' => e = .returned (.bool true) ∧ KeptD VG W' D1) := by
  have h := nodes_apart D1 u5.heap.size 3 w.heap.size VG (mkAp o1 a1 (by rw [hD1, hVG]; exact heap_alloc_new u5 _) (by decide)) (by omega) (by rw [hD1]; simp) (fun d hd => by
   rw [hD1] at hd
   simp only [List.mem_cons, List.not_mem_nil, or_false] at hd
   have := L1.out
   have := L2.out
   rcases hd with rfl | rfl | rfl <;> assumption)
  have e3 : D1.length = 3 := by rw [hD1]; rfl
  rw [e3] at h
  exact h
 have k1 : ∀ d ∈ D1, ∃ B size, VG.ownsRow B 44 size d.1 d.2.1 d.2.2 := fun d hd => ⟨_, _, o1 d hd⟩
 have bxG := BX.out.on bVG
 have BX6 : Hid (∀ W', KeptD VG W' D1 → Bx4 W' bc bd by1 bq #[.int .i64 NV3, .slice se4 E3.length ce4, .slice sl4 M3.length cl4] #[.int .i64 NV3, .slice se5 E3.length ce5, .slice sl5 M3.length cl5] #[.int .i64 NVy, .slice se6 2 ce6, .slice sl6 4 cl6] #[.int .i64 NV3, .slice se9 E3.length ce9, .slice sl9 M3.length cl9]) := fun W' kd => ⟨(kd.kind k1 bxG.c (by decide)).trans bxG.c, (kd.kind k1 bxG.d (by decide)).trans bxG.d, (kd.kind k1 bxG.y (by decide)).trans bxG.y, (kd.kind k1 bxG.q (by decide)).trans bxG.q⟩
 have Z6 : Hid (∀ W', KeptD VG W' D1 → Below w.heap.size VG W' ∧ ∀ k, by1 + 2 ≤ k → k < VG.heap.size → W'.heap[k]? = VG.heap[k]?) := fun W' kd => kd.zone z1 (by omega)
 obtain ⟨VI, hVI⟩ : ∃ VI : World → World, VI = fun W' => W'.alloc (Obj.cells #[Value.slice se4 E3.length ce4, Value.slice sl4 M3.length cl4, Value.slice se5 E3.length ce5, Value.slice sl5 M3.length cl5, Value.slice se6 2 ce6, Value.slice sl6 4 cl6] 31) := ⟨_, rfl⟩
 have o2 : ∀ W', KeptD VG W' D1 → ∀ d ∈ D2, (VI W').ownsRow w.heap.size 3 1 d.1 d.2.1 d.2.2 := fun W' kd d hd => by
  have bI : Below W'.heap.size W' (VI W') := by rw [hVI]; exact (Below.refl _ _).alloc (Nat.le_refl _) _
  have kk : ∀ {B n : Nat} {v : Value} {xs : List Value}, Wq.ownsRow B 3 1 v n xs → w.heap.size ≤ B → (VI W').ownsRow w.heap.size 3 1 v n xs := fun ho hB => own_base (ownsRow_below (own_kind_kept kd k1 (ownsRow_below ho bVG) (by decide)) bI) hB
  rw [hD2] at hd
  simp only [List.mem_cons, List.not_mem_nil, or_false] at hd
  rcases hd with rfl | rfl | rfl | rfl | rfl | rfl
  ·exact kk OC.out.oe (by omega)
  ·exact kk OC.out.ol (by omega)
  ·exact kk OD.out.oe (by omega)
  ·exact kk OD.out.ol (by omega)
  ·have h := OY.out.oe; rw [LyE.out] at h; exact kk h (by omega)
  ·have h := OY.out.ol; rw [LyL.out] at h; exact kk h (by omega)
 have z2 : ∀ d ∈ D2, ∀ k, d.1.ownBlock = some k → w.heap.size ≤ k ∧ k < by1 + 2 := fun d hd k hk => by
  rw [hD2] at hd
  simp only [List.mem_cons, List.not_mem_nil, or_false] at hd
  rcases hd with rfl | rfl | rfl | rfl | rfl | rfl
  ·have h1 := (own_block OC.out.oe hk).1; have h2 := HC.out.1 k hk; omega
  ·have h1 := (own_block OC.out.ol hk).1; have h2 := HC.out.2 k hk; omega
  ·have h1 := (own_block OD.out.oe hk).1; have h2 := HD.out.1 k hk; omega
  ·have h1 := (own_block OD.out.ol hk).1; have h2 := HD.out.2 k hk; omega
  ·have h1 := (own_block OY.out.oe hk).1; have h2 := HY.out.1 k hk; omega
  ·have h1 := (own_block OY.out.ol hk).1; have h2 := HY.out.2 k hk; omega
 have a2 : D2.Pairwise fun x y => ∀ k, x.1.ownBlock = some k → y.1.ownBlock ≠ some k := by
  rw [hD2]
  have n1 : ∀ {v v2 : Value}, (v.ownBlock = none ∨ v.ownBlock ≠ v2.ownBlock) → ∀ k, v.ownBlock = some k → v2.ownBlock ≠ some k := fun h k h1 h2 => by
   rcases h with h | h
   ·rw [h] at h1; cases h1
   ·exact h (h1.trans h2.symm)
  refine List.Pairwise.cons (fun y hy k h1 h2 => ?_) (List.Pairwise.cons (fun y hy k h1 h2 => ?_) (List.Pairwise.cons (fun y hy k h1 h2 => ?_) (List.Pairwise.cons (fun y hy k h1 h2 => ?_) (List.Pairwise.cons (fun y hy k h1 h2 => ?_) (List.Pairwise.cons (fun y hy => by simp at hy) List.Pairwise.nil)))))
  ·have g1 := HC.out.1 k h1
   simp only [List.mem_cons, List.not_mem_nil, or_false] at hy
   rcases hy with rfl | rfl | rfl | rfl | rfl
   ·exact n1 OC.out.apart k h1 h2
   ·have g2 := (own_block OD.out.oe h2).1; omega
   ·have g2 := (own_block OD.out.ol h2).1; omega
   ·have g2 := (own_block OY.out.oe h2).1; omega
   ·have g2 := (own_block OY.out.ol h2).1; omega
  ·have g1 := HC.out.2 k h1
   simp only [List.mem_cons, List.not_mem_nil, or_false] at hy
   rcases hy with rfl | rfl | rfl | rfl
   ·have g2 := (own_block OD.out.oe h2).1; omega
   ·have g2 := (own_block OD.out.ol h2).1; omega
   ·have g2 := (own_block OY.out.oe h2).1; omega
   ·have g2 := (own_block OY.out.ol h2).1; omega
  ·have g1 := HD.out.1 k h1
   simp only [List.mem_cons, List.not_mem_nil, or_false] at hy
   rcases hy with rfl | rfl | rfl
   ·exact n1 OD.out.apart k h1 h2
   ·have g2 := (own_block OY.out.oe h2).1; omega
   ·have g2 := (own_block OY.out.ol h2).1; omega
  ·have g1 := HD.out.2 k h1
   simp only [List.mem_cons, List.not_mem_nil, or_false] at hy
   rcases hy with rfl | rfl
   ·have g2 := (own_block OY.out.oe h2).1; omega
   ·have g2 := (own_block OY.out.ol h2).1; omega
  ·have g1 := HY.out.1 k h1
   simp only [List.mem_cons, List.not_mem_nil, or_false] at hy
   rcases hy with rfl
   exact n1 OY.out.apart k h1 h2
 have IAP : Hid (∀ W', KeptD VG W' D1 → Calls Tryz.prog 12 #[.slice (some ⟨W'.heap.size, 0, none⟩) 6 6] (VI W') fun e W'' => e = .returned (.bool true) ∧ KeptD (VI W') W'' D2) := fun W' kd => by
  have sI : (VI W').heap.size = W'.heap.size + 1 := by rw [hVI]; simp
  have h9 := (Z6.out W' kd).1.size
  have h := ints_apart D2 W'.heap.size 6 w.heap.size (VI W') (mkAp (o2 W' kd) a2 (by rw [hD2, hVI]; exact heap_alloc_new W' _) (by decide)) (by omega) (by rw [hD2]; simp) (fun d hd => by
   rw [hD2] at hd
   simp only [List.mem_cons, List.not_mem_nil, or_false] at hd
   have := L3.out
   rcases hd with rfl | rfl | rfl | rfl | rfl | rfl
   ·exact this.1
   ·exact this.2
   ·exact this.1
   ·exact this.2
   ·show 2 ≤ 4194304; omega
   ·show 4 ≤ 4194304; omega)
  have e6 : D2.length = 6 := by rw [hD2]; rfl
  rw [e6] at h
  exact h
 have FIN : Hid (∀ W' W'', KeptD VG W' D1 → KeptD (VI W') W'' D2 → Below w.heap.size w W'' ∧ W''.ownsRow (by1 + 2) 44 2 (.slice sa7 F1.length ca7) F1.length (ndL F1) ∧ W''.ownsRow (br + 1) 44 2 (.slice sa8 F2.length ca8) F2.length (ndL F2) ∧ Own W'' (bs + 1) se9 E3 ∧ Own W'' (bs + 1) sl9 M3 ∧ Bx4 W'' bc bd by1 bq #[.int .i64 NV3, .slice se4 E3.length ce4, .slice sl4 M3.length cl4] #[.int .i64 NV3, .slice se5 E3.length ce5, .slice sl5 M3.length cl5] #[.int .i64 NVy, .slice se6 2 ce6, .slice sl6 4 cl6] #[.int .i64 NV3, .slice se9 E3.length ce9, .slice sl9 M3.length cl9] ∧ VG.heap.size ≤ W''.heap.size) := fun W' W'' kd kd2 => by
  have bI : Below W'.heap.size W' (VI W') := by rw [hVI]; exact (Below.refl _ _).alloc (Nat.le_refl _) _
  obtain ⟨q1, q2⟩ := Z6.out W' kd
  have sz := q1.size
  have szI := bI.size
  obtain ⟨q3, q4⟩ := kd2.zone z2 (by omega)
  have up : ∀ k, by1 + 2 ≤ k → k < VG.heap.size → W''.heap[k]? = VG.heap[k]? := fun k g1 g2 => by rw [q4 k g1 (by omega), bI.block k (by omega), q2 k g1 g2]
  have k2 : ∀ d ∈ D2, ∃ B size, (VI W').ownsRow B 3 size d.1 d.2.1 d.2.2 := fun d hd => ⟨_, _, o2 W' kd d hd⟩
  have bx := (BX6.out W' kd).on bI
  refine ⟨((B9.out.trans (bVG.mono (by have := HSQ.out; omega))).trans q1).trans ((bI.mono (by omega)).trans q3), own_kept (ownsRow_below OR7.out bVG) (fun k hk => up k (own_block OR7.out hk).1 ?_), own_kept (ownsRow_below OS.out bVG) (fun k hk => up k (by have := (own_block OS.out hk).1; omega) ?_), ?_, ?_, ⟨(kd2.kind k2 bx.c (by decide)).trans bx.c, (kd2.kind k2 bx.d (by decide)).trans bx.d, (kd2.kind k2 bx.y (by decide)).trans bx.y, (kd2.kind k2 bx.q (by decide)).trans bx.q⟩, by have := q3.size; omega⟩
  ·have := (own_block OR7.out hk).2; have := bVG.size; omega
  ·have := (own_block OS.out hk).2; have := bVG.size; omega
  ·exact IntsAt.kept (OQ.out.1.on bVG) (by have := q3.size; omega) (fun k g1 g2 => up k (by omega) g2)
  ·exact IntsAt.kept (OQ.out.2.on bVG) (by have := q3.size; omega) (fun k g1 g2 => up k (by omega) g2)
 have HVG := hid hVG
 have HVI := hid hVI
 have IA2 : Hid (∀ W', KeptD VG W' D1 → Calls Tryz.prog 12 #[.slice (some ⟨W'.heap.size, 0, none⟩) 6 6] (W'.alloc (Obj.cells #[Value.slice se4 E3.length ce4, Value.slice sl4 M3.length cl4, Value.slice se5 E3.length ce5, Value.slice sl5 M3.length cl5, Value.slice se6 2 ce6, Value.slice sl6 4 cl6] 31)) fun e W'' => e = .returned (.bool true) ∧ KeptD (VI W') W'' D2) := fun W' kd => by have h := IAP.out W' kd; rw [hVI] at h ⊢; exact h
 obtain ⟨p1, p2, p3, p4, p5, p6, p7, p8⟩ := (BX.out.on G5.out).cells
 clear o1 z1 a1 k1 bxG o2 z2 a2 hD1 hD2 hVG hVI bVG OA OB OX HA HBb HX OC OD OY IC ID IY HC HD HY IAP
 go_upto_region 17 with (first
  |(have q := KD1; clear q; go_at_call 12; refine (IA2.out _ KD1.out).mono ?_; rintro e u7 ⟨rfl, kd2⟩; have KD2 := hid kd2; clear kd2 p1 p2 p3 p4 p5 p6 p7 p8)
  |(go_at_call 11; rw [← HVG.out]; refine NAP.out.mono ?_; rintro e u6 ⟨rfl, kd1⟩; have KD1 := hid kd1; clear kd1 p1 p2 p3 p4 p5 p6 p7 p8; obtain ⟨p1, p2, p3, p4, p5, p6, p7, p8⟩ := (BX6.out _ KD1.out).cells))
 obtain ⟨f1, f2, f3, f4, f5, f6, f7⟩ := FIN.out _ _ KD1.out KD2.out
 have BW7 := hid f1
 have R7 := hid f2
 have S7 := hid f3
 have QE7 := hid f4
 have QL7 := hid f5
 have BX7 := hid f6
 have hu7 : bq + 3 ≤ u7.heap.size := by omega
 clear f1 f2 f3 f4 f5 f6 f7 FIN KD1 KD2 NAP BX6 Z6 IA2 HVG HVI BX OR7 OS OQ
 go_upto_region 18 with (go_at_call 5; refine (PA1.out _ BW7.out).mono ?_; rintro e V17 ⟨⟨sa17, ca17, x17, y17, z17, rfl, o17⟩, b17⟩; have A17 := hid o17; have B17 := hid b17; clear o17 b17)
 have BW17 : Hid (Below w.heap.size w V17) := BW7.out.trans (B17.out.mono BW7.out.size)
 go_upto_region 19 with (go_at_call 5; refine (PA2.out _ BW17.out).mono ?_; rintro e V18 ⟨⟨sa18, ca18, x18, y18, z18, rfl, o18⟩, b18⟩; have A18 := hid o18; have B18 := hid b18; clear o18 b18)
 have hs17 := B17.out.size
 have hs18 := B18.out.size
 have B78 : Hid (Below u7.heap.size u7 V18) := B17.out.trans (B18.out.mono hs17)
 go_upto_region 20 with (go_at_call 6; refine (CA3.out _).mono ?_; rintro e V19 ⟨⟨se19, ce19, sl19, cl19, x19, y19, z19, rfl, o19, i19, j19⟩, b19⟩; have A19 := hid o19; have I19 := hid i19; have J19 := hid j19; have B19 := hid b19; have BX9 := hid ((BX7.out.on B78.out).on b19); have e1 := (fun j => cell_row BX9.out.c j); have e2 := (fun j => unfrozen_row BX9.out.c j); have e3 := (Array.getElem?_eq_some_iff.1 BX9.out.c).1; clear o19 i19 j19 b19)
 obtain ⟨V20, hV20⟩ : ∃ V20, V20 = ((V19.setCell ⟨bc, 0, none⟩ (.int .i64 NV3)).setCell ⟨bc, 1, none⟩ (.slice se19 E3.length ce19)).setCell ⟨bc, 2, none⟩ (.slice sl19 M3.length cl19) := ⟨_, rfl⟩
 rw [← hV20]
 obtain ⟨t1, t2, t3⟩ := told33 BX9.out.c _ _ _ hV20
 have hs19 := B19.out.size
 have B79 : Hid (Below u7.heap.size u7 V19) := B78.out.trans (B19.out.mono (by omega))
 have nA : Hid (NodesAt V20 sa17 F1) := nodes_of (own_kept (ownsRow_below (ownsRow_below A17.out B18.out) B19.out) (fun k hk => t3 k (by have := (own_block A17.out hk).1; omega)))
 have nX : Hid (NodesAt V20 sa18 F2) := nodes_of (own_kept (ownsRow_below A18.out B19.out) (fun k hk => t3 k (by have := (own_block A18.out hk).1; omega)))
 have nR : Hid (NodesAt V20 sa7 F1) := nodes_of (own_kept (ownsRow_below R7.out B79.out) (fun k hk => t3 k (by have := (own_block R7.out hk).1; omega)))
 have nS : Hid (NodesAt V20 sa8 F2) := nodes_of (own_kept (ownsRow_below S7.out B79.out) (fun k hk => t3 k (by have := (own_block S7.out hk).1; omega)))
 have sz20 := t2.size
 have iE : Hid (IntsAt V20 se19 E3) := (IntsAt.kept (base := V18.heap.size) ⟨I19.out, far_of A19.out.oe⟩ sz20 (fun k g1 g2 => t3 k (by omega))).ints
 have iL : Hid (IntsAt V20 sl19 M3) := (IntsAt.kept (base := V18.heap.size) ⟨J19.out, far_of A19.out.ol⟩ sz20 (fun k g1 g2 => t3 k (by omega))).ints
 have qE : Hid (IntsAt V20 se9 E3) := (IntsAt.kept (QE7.out.on B79.out) sz20 (fun k g1 g2 => t3 k (by omega))).ints
 have qL : Hid (IntsAt V20 sl9 M3) := (IntsAt.kept (QL7.out.on B79.out) sz20 (fun k g1 g2 => t3 k (by omega))).ints
 have rq := (t3 bq (by omega)).trans BX9.out.q
 have RC := hid t1
 have RQ := hid rq
 have BW20 : Hid (Below w.heap.size w V20) := (BW7.out.trans (B79.out.mono BW7.out.size)).trans (t2.mono (by omega))
 have S1 : Hid (∀ V, Below V20.heap.size V20 V → Calls Tryz.prog 9 #[.slice sa17 F1.length ca17, .slice sa7 F1.length ca7] V fun e w' => e = .returned (.bool true) ∧ Below V.heap.size V w') := fun V hb => Doc.same_true F1 sa17 sa7 ca17 ca7 V (by have := L1.out; omega) (nA.out.below hb) (nR.out.below hb)
 have S2 : Hid (∀ V, Below V20.heap.size V20 V → Calls Tryz.prog 9 #[.slice sa18 F2.length ca18, .slice sa8 F2.length ca8] V fun e w' => e = .returned (.bool true) ∧ Below V.heap.size V w') := fun V hb => Doc.same_true F2 sa18 sa8 ca18 ca8 V (by have := L2.out; omega) (nX.out.below hb) (nS.out.below hb)
 have T1 : Hid (∀ V, Below V20.heap.size V20 V → Calls Tryz.prog 10 #[cnfV NV3 se19 E3.length ce19 sl19 M3.length cl19, cnfV NV3 se9 E3.length ce9 sl9 M3.length cl9] V fun e w' => e = .returned (.bool true) ∧ Below V.heap.size V w') := fun V hb => sameCnf_true NV3 E3 M3 se19 sl19 se9 sl9 ce19 cl19 ce9 cl9 V (by have := L3.out.1; omega) (by have := L3.out.2; omega) (iE.out.below hb) (iL.out.below hb) (qE.out.below hb) (qL.out.below hb)
 have CEL : Hid (∀ V, Below V20.heap.size V20 V → (∀ j, V.cell? ⟨bc, j, none⟩ = (#[.int .i64 NV3, .slice se19 E3.length ce19, .slice sl19 M3.length cl19] : Array Value)[j]?) ∧ (∀ j, V.cell? ⟨bq, j, none⟩ = (#[.int .i64 NV3, .slice se9 E3.length ce9, .slice sl9 M3.length cl9] : Array Value)[j]?) ∧ bc < V.heap.size ∧ bq < V.heap.size) := fun V hb => by
  have c1 := (hb.block _ (Array.getElem?_eq_some_iff.1 RC.out).1).trans RC.out
  have c2 := (hb.block _ (Array.getElem?_eq_some_iff.1 RQ.out).1).trans RQ.out
  exact ⟨fun j => cell_row c1 j, fun j => cell_row c2 j, (Array.getElem?_eq_some_iff.1 c1).1, (Array.getElem?_eq_some_iff.1 c2).1⟩
 clear t1 t2 t3 rq hV20 e1 e2 e3
 have G0 : Hid (Below V20.heap.size V20 V20) := Below.refl _ _
 go_wp2_with (first
  |(have q := G2; clear q; go_at_call 10; refine (T1.out _ G2.out).mono ?_; rintro e u12 ⟨rfl, b5⟩; have G3 : Hid (Below V20.heap.size V20 u12) := G2.out.trans (b5.mono G2.out.size); clear b5 G2)
  |(have q := G1; clear q; go_at_call 9; refine (S2.out _ G1.out).mono ?_; rintro e u11 ⟨rfl, b5⟩; have G2 : Hid (Below V20.heap.size V20 u11) := G1.out.trans (b5.mono G1.out.size); obtain ⟨p1, p2, p3, p4⟩ := CEL.out _ G2.out; clear b5 G1)
  |(have q := G0; clear q; go_at_call 9; refine (S1.out _ G0.out).mono ?_; rintro e u10 ⟨rfl, b5⟩; have G1 : Hid (Below V20.heap.size V20 u10) := G0.out.trans (b5.mono G0.out.size); clear b5 G0))
 go_ret
 exact ⟨rfl, BW20.out.trans (G3.out.mono BW20.out.size)⟩
end Go.Proofs.YtdkboifpdodonacGreatDoor
/-
 The rows of this seat: the tables that are laid.
-/

namespace Go.Proofs.YtdkboifpdodonacGreatDoor
open Go.ChangeShapes Go.WideShapes Go.ChangeAt Go.RowKit Go.Deep PureCnf PureForm

theorem own : ownKnob Tryz.prog.godebug = none := by kernel_rfl
theorem laidOut : laidOutB Tryz.prog = true := by kernel_rfl
/-- the tables that the calls read. -/
def Met (W : World) : Prop := Tab W ∧ Lib.Utf8Tabs 2 3 W
theorem parseK : Doc.ParseC Met 5 := ⟨fun s w hk hs => parse_landed s w hs hk.2, fun _ _ hk hb => ⟨hk.1.below hb, tabs_on hk.2 hb⟩⟩
theorem printK : Doc.PrintK Met 13 := fun f sa ca w hk hn hl => print14 f sa ca w hk.1 hn hl
set_option maxRecDepth 100000 in
theorem first_is : (Rows.laid_unicode_utf8_first : DataW Unit) = Lib.firstData := by kernel_rfl
set_option maxRecDepth 100000 in
theorem accept_is : (Rows.laid_unicode_utf8_acceptRanges : DataW Unit) = Lib.acceptData := by kernel_rfl
set_option maxRecDepth 100000 in
theorem u8extra : U8Extra Tryz.prog Tryz.lays197_ren := ⟨by kernel_rfl, by kernel_rfl, by kernel_rfl, by kernel_rfl, by kernel_rfl, by kernel_rfl, by kernel_rfl⟩
set_option maxRecDepth 100000 in
theorem pow10_is : (Rows.laid_internal_strconv_uint64pow10 : DataW Unit) = Lib.tabData .u64 Lib.pow10Tab := by kernel_rfl
set_option maxRecDepth 100000 in
theorem met6 {W : World} (h : laidMet Tryz.prog [("math/bits.deBruijn32tab", Rows.laid_math_bits_deBruijn32tab), ("math/bits.deBruijn64tab", Rows.laid_math_bits_deBruijn64tab), ("internal/strconv.uint64pow10", Rows.laid_internal_strconv_uint64pow10), ("strata/strataref13.signs", Rows.laid_strata_strataref13_signs), ("unicode/utf8.acceptRanges", Rows.laid_unicode_utf8_acceptRanges), ("unicode/utf8.first", Rows.laid_unicode_utf8_first)] W) : Met W := by
 obtain ⟨ps, hl, _⟩ := h
 have h3 := Lib.LaidVars_reads hl "unicode/utf8.first" Rows.laid_unicode_utf8_first (by simp)
 have h4 := Lib.LaidVars_reads hl "unicode/utf8.acceptRanges" Rows.laid_unicode_utf8_acceptRanges (by simp)
 have h5 := Lib.LaidVars_reads hl "internal/strconv.uint64pow10" Rows.laid_internal_strconv_uint64pow10 (by simp)
 rw [first_is] at h3
 rw [accept_is] at h4
 refine ⟨?_, utf8Tabs_of_reads (P := Tryz.prog) (ρ := Tryz.lays197_ren) { Tryz.lays197 with } u8extra h3 h4⟩
 obtain ⟨g', t', cs, fuel, p, hg', ht', hvar, hd⟩ := h5
 obtain rfl : 4 = g' := Option.some.inj ((show Tryz.prog.globalNamed "internal/strconv.uint64pow10" = some 4 by kernel_rfl).symm.trans hg')
 obtain rfl : 194 = t' := Option.some.inj ((show (Tryz.prog.globals[4]?).map (·.type) = some 194 by kernel_rfl).symm.trans ht')
 rw [pow10_is] at hd
 unfold Tab Lib.TabIs
 rw [hvar, ← Lib.cells_of_tab Tryz.underlying194 (by exact Tryz.underlying188) (by kernel_rfl) (by kernel_rfl) hd]

set_option maxRecDepth 100000 in
theorem signs6 {W : World} (h : laidMet Tryz.prog [("math/bits.deBruijn32tab", Rows.laid_math_bits_deBruijn32tab), ("math/bits.deBruijn64tab", Rows.laid_math_bits_deBruijn64tab), ("internal/strconv.uint64pow10", Rows.laid_internal_strconv_uint64pow10), ("strata/strataref13.signs", Rows.laid_strata_strataref13_signs), ("unicode/utf8.acceptRanges", Rows.laid_unicode_utf8_acceptRanges), ("unicode/utf8.first", Rows.laid_unicode_utf8_first)] W) : ∃ g o c, Ref.SignsAt W g o c := by
 obtain ⟨ps, hl, _⟩ := h
 have h3 := Lib.LaidVars_reads hl "strata/strataref13.signs" Rows.laid_strata_strataref13_signs (by simp)
 rw [Ref.laid_is] at h3
 obtain ⟨g0, t0, cs, fuel, p, hg0, ht0, hv0, hd0⟩ := h3
 have hg : Tryz.prog.globalNamed "strata/strataref13.signs" = some 0 := by kernel_rfl
 obtain rfl := Option.some.inj (hg.symm.trans hg0)
 have ht : (Tryz.prog.globals[0]?).map (·.type) = some 107 := by kernel_rfl
 obtain rfl := Option.some.inj (ht.symm.trans ht0)
 obtain ⟨l0⟩ := cs
 obtain ⟨g, o, cap, hcs, hlt, hat⟩ := Ref.laid_table hd0
 have hcs' : l0 = [.slice (some ⟨g, o, none⟩) 21 cap] := hcs
 subst hcs'
 have hc : W.cell? ⟨0, 0, none⟩ = some (.slice (some ⟨g, o, none⟩) 21 cap) := by simpa using World.var?_cell hg0 hv0 0
 exact ⟨g, o, cap, hlt, World.block_lt_of_cell? W _ hc, hc, hat⟩
end Go.Proofs.YtdkboifpdodonacGreatDoor
/-
 FormulaFresh: the row and its card.
-/

namespace Go.Proofs.YtdkboifpdodonacGreatDoor
open Go.ChangeShapes Go.WideShapes Go.ChangeAt Go.RowKit Go.Deep PureCnf PureForm

set_option maxRecDepth 100000 in
theorem formulaFresh_contract (H : Type) (enc : TypeId × Value → H) (W : World) (base : Nat) (args : Array Value) (ds gs : List (DataW H)) (before : List MemPlace)
  (hval : ∀ (j : Nat) t v, Tryz.f3.params[j]? = some t → args[j]? = some v → Value.okWide Tryz.prog W .any base t v)
  (hW : DataW.Whole enc Tryz.prog Tryz.f3.params.toList Rows.formulaFreshSpec.vars false W args.toList ds gs before)
  (hsz0 : (DataW.weightsEach Tryz.prog (Tryz.f3.params.toList ++ (OpenSpec.ofChange Rows.formulaFreshSpec).bare.plain.varTypes Tryz.prog) (ds ++ gs)).all (· ≤ reachBytes) = true) (hL : laidMetH Tryz.prog Rows.formulaFreshRow.laid W) :
  Calls Tryz.prog 3 args W fun e W' => ∃ v, e = .returned v ∧ Rows.formulaFreshSpec.post enc Tryz.prog Tryz.f3 false true false false W args v W' := by
 have hsz := hsz0
 clear hsz0
 have hW' := hW
 obtain ⟨p, q, hA0, hV, rfl, hfz, hnd⟩ := hW
 have hA : DataW.TrodAll enc Tryz.prog W 0 (fun _ => true) true Tryz.f3.params.toList args.toList ds p := hA0
 rw [Tryz.params3] at hA hval hsz
 obtain ⟨v0, vs0, d0, ds0, p0, q0, hargs0, rfl, rfl, h0, r0⟩ := trodAll_cons hA
 obtain ⟨v1, vs1, d1, ds1, p1, q1, rfl, rfl, rfl, h1, r1⟩ := trodAll_cons r0
 obtain ⟨v2, vs2, d2, ds2, p2, q2, rfl, rfl, rfl, h2, r2⟩ := trodAll_cons r1
 obtain ⟨rfl, rfl, rfl⟩ := trodAll_nil r2
 obtain rfl : args = #[v0, v1, v2] := by cases args; simp_all
 obtain ⟨rfl, rfl⟩ := trodVars_none hV
 clear hA0
 simp only [List.append_nil] at hW'
 have hlt0 : ∀ x ∈ p0, x.block < W.heap.size := fun x hx => by simpa using hW'.lt x (by simp [hx])
 obtain ⟨s0, rfl, rfl, rfl, hs0⟩ := Go.ChangeMaps.open_string Tryz.underlying9 (hval 0 9 v0 rfl rfl) h0
 have hz0 : s0.size ≤ 140737488351232 := by
  have hr : reachBytes = 140737488351232 := by decide
  have h2 := List.all_eq_true.1 hsz _ (DataW.weights_mem_each (j := 0) rfl rfl s0.size (by simp [DataW.weights]))
  have h3 : s0.size ≤ reachBytes := by simpa using h2
  omega
 have hlt1 : ∀ x ∈ p1, x.block < W.heap.size := fun x hx => by simpa using hW'.lt x (by simp [hx])
 obtain ⟨s1, rfl, rfl, rfl, hs1⟩ := Go.ChangeMaps.open_string Tryz.underlying9 (hval 1 9 v1 rfl rfl) h1
 have hz1 : s1.size ≤ 140737488351232 := by
  have hr : reachBytes = 140737488351232 := by decide
  have h2 := List.all_eq_true.1 hsz _ (DataW.weights_mem_each (j := 1) rfl rfl s1.size (by simp [DataW.weights]))
  have h3 : s1.size ≤ reachBytes := by simpa using h2
  omega
 have hlt2 : ∀ x ∈ p2, x.block < W.heap.size := fun x hx => by simpa using hW'.lt x (by simp [hx])
 obtain ⟨s2, rfl, rfl, rfl, hs2⟩ := Go.ChangeMaps.open_string Tryz.underlying9 (hval 2 9 v2 rfl rfl) h2
 have hz2 : s2.size ≤ 140737488351232 := by
  have hr : reachBytes = 140737488351232 := by decide
  have h2x := List.all_eq_true.1 hsz _ (DataW.weights_mem_each (j := 2) rfl rfl s2.size (by simp [DataW.weights]))
  have h3 : s2.size ≤ reachBytes := by simpa using h2x
  omega
 obtain ⟨g, o, c, hsg⟩ := signs6 hL
 refine (fresh_law s0 s1 s2 W (by omega) (by omega) (by omega) (met6 hL).2 g o c hsg (Doc.alive_any parseK printK W (met6 hL))).mono fun e W' ⟨he, hnx⟩ => ?_
 subst he
 refine ⟨_, rfl, _, _, _, [], _, [], hW', ?_, trodAll_mk3 (Below.trod laidOut (by kernel_rfl) (of_decide_eq_true (by kernel_rfl)) h0 hnx hlt0) (Below.trod laidOut (by kernel_rfl) (of_decide_eq_true (by kernel_rfl)) h1 hnx hlt1) (Below.trod laidOut (by kernel_rfl) (of_decide_eq_true (by kernel_rfl)) h2 hnx hlt2), rfl, hnx.frame _, fun h => by cases h⟩
 exact trodAll_mk1 (shut_bool Tryz.underlying4 _)

set_option maxRecDepth 100000 in
theorem formulaFresh_lifted (os : Os) (started : os.Started) (H : Type) (enc : TypeId × Value → H) (F : Stop.Interp) :
  ReturnsInHanded {} Tryz.checked os 3 .any ((OpenSpec.ofChange Rows.formulaFreshSpec).preRow enc Tryz.prog Tryz.f3 Rows.formulaFreshRow.domain false Rows.formulaFreshRow.laid) (((OpenSpec.ofChange Rows.formulaFreshSpec).at F).post enc Tryz.prog Tryz.f3 false true false false) := by
 obtain ⟨lw, hlw⟩ : ∃ lw : World, lw = (fun w0 : World => { w0 with heap := ((((((w0.heap.modify 0 fun
   | .cells _ t frozen => .cells #[.slice (some ⟨(World.holding Tryz.prog default ⟨#[], #[], []⟩).heap.size + 0, 0, none⟩) 21 21] t frozen
   | o => o).modify 5 fun
   | .cells _ t frozen => .cells #[.int .u8 0, .int .u8 1, .int .u8 28, .int .u8 2, .int .u8 29, .int .u8 14, .int .u8 24, .int .u8 3, .int .u8 30, .int .u8 22, .int .u8 20, .int .u8 15, .int .u8 25, .int .u8 17, .int .u8 4, .int .u8 8, .int .u8 31, .int .u8 27, .int .u8 13, .int .u8 23, .int .u8 21, .int .u8 19, .int .u8 16, .int .u8 7, .int .u8 26, .int .u8 12, .int .u8 18, .int .u8 6, .int .u8 11, .int .u8 5, .int .u8 10, .int .u8 9] t frozen
   | o => o).modify 6 fun
   | .cells _ t frozen => .cells #[.int .u8 0, .int .u8 1, .int .u8 56, .int .u8 2, .int .u8 57, .int .u8 49, .int .u8 28, .int .u8 3, .int .u8 61, .int .u8 58, .int .u8 42, .int .u8 50, .int .u8 38, .int .u8 29, .int .u8 17, .int .u8 4, .int .u8 62, .int .u8 47, .int .u8 59, .int .u8 36, .int .u8 45, .int .u8 43, .int .u8 51, .int .u8 22, .int .u8 53, .int .u8 39, .int .u8 33, .int .u8 30, .int .u8 24, .int .u8 18, .int .u8 12, .int .u8 5, .int .u8 63, .int .u8 55, .int .u8 48, .int .u8 27, .int .u8 60, .int .u8 41, .int .u8 37, .int .u8 16, .int .u8 46, .int .u8 35, .int .u8 44, .int .u8 21, .int .u8 52, .int .u8 32, .int .u8 23, .int .u8 11, .int .u8 54, .int .u8 26, .int .u8 40, .int .u8 15, .int .u8 34, .int .u8 20, .int .u8 31, .int .u8 10, .int .u8 25, .int .u8 14, .int .u8 19, .int .u8 9, .int .u8 13, .int .u8 8, .int .u8 7, .int .u8 6] t frozen
   | o => o).modify 4 fun
   | .cells _ t frozen => .cells #[.int .u64 1, .int .u64 10, .int .u64 100, .int .u64 1000, .int .u64 10000, .int .u64 100000, .int .u64 1000000, .int .u64 10000000, .int .u64 100000000, .int .u64 1000000000, .int .u64 10000000000, .int .u64 100000000000, .int .u64 1000000000000, .int .u64 10000000000000, .int .u64 100000000000000, .int .u64 1000000000000000, .int .u64 10000000000000000, .int .u64 100000000000000000, .int .u64 1000000000000000000, .int .u64 10000000000000000000] t frozen
   | o => o).modify 2 fun
   | .cells _ t frozen => .cells ((List.range 256).map fun c => Value.int .u8 (Lib.firstT c)).toArray t frozen
   | o => o).modify 3 fun
   | .cells _ t frozen => .cells ((List.range 16).flatMap fun i => [Value.int .u8 (Lib.accLo i), Value.int .u8 (Lib.accHi i)]).toArray t frozen
   | o => o) }) (World.holding Tryz.prog os ⟨#[.cells #[.string ⟨#[60, 45, 62]⟩, .int .i64 7, .int .i64 10, .string ⟨#[45, 62]⟩, .int .i64 7, .int .i64 9, .string ⟨#[33]⟩, .int .i64 4, .int .i64 0, .string ⟨#[126]⟩, .int .i64 4, .int .i64 0, .string ⟨#[38]⟩, .int .i64 7, .int .i64 6, .string ⟨#[124]⟩, .int .i64 7, .int .i64 7, .string ⟨#[94]⟩, .int .i64 7, .int .i64 8, .string ⟨#[40]⟩, .int .i64 8, .int .i64 0, .string ⟨#[41]⟩, .int .i64 9, .int .i64 0, .string ⟨#[44]⟩, .int .i64 10, .int .i64 0, .string ⟨#[58]⟩, .int .i64 11, .int .i64 0, .string ⟨#[194, 172]⟩, .int .i64 4, .int .i64 0, .string ⟨#[226, 136, 167]⟩, .int .i64 7, .int .i64 6, .string ⟨#[226, 136, 168]⟩, .int .i64 7, .int .i64 7, .string ⟨#[226, 138, 149]⟩, .int .i64 7, .int .i64 8, .string ⟨#[226, 134, 146]⟩, .int .i64 7, .int .i64 9, .string ⟨#[226, 134, 148]⟩, .int .i64 7, .int .i64 10, .string ⟨#[226, 136, 131]⟩, .int .i64 5, .int .i64 4, .string ⟨#[226, 136, 128]⟩, .int .i64 5, .int .i64 5, .string ⟨#[226, 138, 164]⟩, .int .i64 2, .int .i64 1, .string ⟨#[226, 138, 165]⟩, .int .i64 2, .int .i64 0] 108], #[], []⟩) := ⟨_, rfl⟩
 have hos : lw.os = os := by rw [hlw]; rfl
 have hv : (lw.forCall (fun _ _ => 0) ⟨#[], #[.string ⟨#[]⟩, .string ⟨#[]⟩, .string ⟨#[]⟩], []⟩).variablesRefB Tryz.checked.prog = true := by rw [hlw]; kernel_rfl
 have hr : ((lw.forCall (fun _ _ => 0) ⟨#[], #[.string ⟨#[]⟩, .string ⟨#[]⟩, .string ⟨#[]⟩], []⟩).heap.toList.drop Tryz.checked.prog.globals.size).take ((begin Tryz.checked.prog (fun _ _ => 0) default).world.heap.size - Tryz.checked.prog.globals.size) = (begin Tryz.checked.prog (fun _ _ => 0) default).world.heap.toList.drop Tryz.checked.prog.globals.size := by rw [hlw]; kernel_rfl
 have hok : Input.okWideB Tryz.checked.prog (lw.forCall (fun _ _ => 0) ⟨#[], #[.string ⟨#[]⟩, .string ⟨#[]⟩, .string ⟨#[]⟩], []⟩) 3 ⟨#[], #[.string ⟨#[]⟩, .string ⟨#[]⟩, .string ⟨#[]⟩], []⟩ = true := by rw [hlw]; kernel_rfl
 have hx : DataW.whole enc Tryz.prog (lw.forCall (fun _ _ => 0) ⟨#[], #[.string ⟨#[]⟩, .string ⟨#[]⟩, .string ⟨#[]⟩], []⟩).memory Tryz.f3.params.toList Rows.formulaFreshSpec.vars false #[Value.string ⟨#[]⟩, Value.string ⟨#[]⟩, Value.string ⟨#[]⟩].toList 8 = some ([.lit (.string []), .lit (.string []), .lit (.string [])], [], []) := by rw [hlw]; kernel_rfl
 have hlm : laidMet Tryz.prog Rows.formulaFreshRow.laid (lw.forCall (fun _ _ => 0) ⟨#[], #[.string ⟨#[]⟩, .string ⟨#[]⟩, .string ⟨#[]⟩], []⟩).memory := by rw [hlw]; exact laidMet_of_run' 8 (by kernel_rfl) (by kernel_rfl)
 clear hlw
 refine returnsInHanded_of_row (C := Tryz.checked) (s := OpenSpec.ofChange Rows.formulaFreshSpec) own started (by kernel_rfl) Tryz.func3
  (witness_row_atRef (enc := enc) (C := Tryz.checked) false lw #[.string ⟨#[]⟩, .string ⟨#[]⟩, .string ⟨#[]⟩] hos hv hr hok
   (OpenSpec.preRow_of_cond 8 hx (by kernel_rfl) (fun k hk => by cases hk) (by kernel_rfl) hlm)) ?_
 intro W base args ds gs before hval hW _ _ hsz hL _ _
 exact formulaFresh_contract H enc W base args ds gs before hval hW hsz hL

theorem formulaFresh_said : Rows.FormulaFreshSaid :=
 OpenClaim.holds_of_cond 3 Tryz.f3 rfl rfl rfl rfl rfl rfl rfl ⟨rfl, rfl, rfl, rfl, rfl⟩ rfl rfl rfl rfl rfl (by kernel_rfl) Tryz.func3 (by kernel_rfl)
  (of_decide_eq_true (by kernel_rfl)) (by unfold Func.isWrapper; first | (rw [if_pos (by decide +kernel)]; kernel_rfl) | (rw [if_neg (by decide +kernel)]; exact ⟨rfl, rfl⟩))
  (fun os started H enc _ F => by rw [OpenClaim.pre_eq_preRow]; exact formulaFresh_lifted os started H enc F)

/-- no parameter wants a stand-in. -/
theorem formulaFresh_plain (f : FuncId) (fn : Func) (hf : Tryz.pinned.checked.prog.funcNamed "strata/stratalaw13.FormulaFresh" = some f) (hfn : Tryz.pinned.checked.prog.funcs[f]? = some fn) :
  true = Tryz.pinned.checked.prog.looks [] ∧ ∀ (j : Nat) t, fn.params[j]? = some t → Tryz.pinned.checked.prog.wantsStandIn t = false := by
 obtain rfl : f = 3 := Option.some.inj ((show Tryz.prog.funcNamed "strata/stratalaw13.FormulaFresh" = some 3 by kernel_rfl).symm.trans hf) |>.symm
 obtain rfl : fn = Tryz.f3 := (Option.some.inj (Tryz.func3.symm.trans hfn)).symm
 refine ⟨by kernel_rfl, fun j t ht => ?_⟩
 rw [Tryz.params3] at ht
 have hm : t = 9 := by
  have := Array.mem_of_getElem? ht
  simpa using this
 subst hm
 exact (show Tryz.prog.wantsStandIn 9 = false by kernel_rfl)

theorem formulaFresh_holds : Rows.FormulaFreshCardSaid :=
 Claim7.holds_tied_plain_at .later [] _ _ _ _ formulaFresh_said (fun _ h => by cases h) (by kernel_rfl) (fun _ h => by cases h) formulaFresh_row_tie rfl ⟨rfl, rfl⟩ (by kernel_rfl) rfl formulaFresh_plain (by kernel_rfl)
#print axioms formulaFresh_holds
end Go.Proofs.YtdkboifpdodonacGreatDoor
