import Derived.Test.YtfmmmhcpdinhgabDoorZ25
/-
  The document's own Parse.
-/
namespace Go.Proofs.YtfmmmhcpdinhgabDoor
open Go.RowKit Go.Deep PureNet PureRd
set_option maxRecDepth 100000

set_option maxHeartbeats 4000000 in
theorem parse_doc (T : Nat → List UInt8) (text : List UInt8) (w : World) (hl : text.length ≤ 1048576) (hops : OpsD w T) :
    Calls Tryd.prog 5 #[str text] w fun e W => ReadIs w.heap.size T text e W ∧ Below w.heap.size w W := by
  obtain ⟨w0, hw0⟩ : ∃ w0, w0 = (w.alloc (.cells #[.string ⟨#[]⟩, .slice none 0 0, .slice none 0 0] 25)).alloc (.cells #[.int .i64 0, .int .i64 0, .int .i64 0] 30) := ⟨_, rfl⟩
  have hs0 : w0.heap.size = w.heap.size + 2 := by rw [hw0]; simp
  have A0 : Ans w w0 := by
    refine ⟨by rw [hw0]; exact ((Below.refl w.heap.size w).alloc (Nat.le_refl _) _).alloc (by simp) _, ?_, ?_⟩
    · rw [hw0]
      exact (Lib.alloc_old _ _ _ (by simp)).trans (heap_alloc_new w _)
    · have e1 : (w.alloc (.cells #[.string ⟨#[]⟩, .slice none 0 0, .slice none 0 0] 25)).heap.size = w.heap.size + 1 := by simp
      rw [hw0, ← e1]
      exact heap_alloc_new _ _
  have RSV := hid resolve_doc
  have LN := hid (lines_doc text w0 hl)
  have HW0 := hid hw0
  have HA0 := hid A0
  have HS0 := hid hs0
  have HOPS := hid hops
  have HL := hid hl
  have hlt : ¬ ((1048576 : Int) < (text.length : Int)) := by omega
  have ne : w.heap.size ≠ w.heap.size + 1 := by omega
  have ne' : w.heap.size + 1 ≠ w.heap.size := by omega
  obtain ⟨p1, hp1⟩ : ∃ p1 : Int, p1 = ((spotN text).1 : Int) := ⟨_, rfl⟩
  obtain ⟨p2, hp2⟩ : ∃ p2 : Int, p2 = ((spotN text).2 : Int) := ⟨_, rfl⟩
  have HP1 := hid hp1
  have HP2 := hid hp2
  clear hw0 A0 hops hs0 hl hp1 hp2
  go_enter Tryd.func5, Tryd.ntmps5
  go_wp2_with (first
    | (have q := HW0; clear q; rw [← HW0.out]; clear HW0)
    | (go_at_call 11; refine LN.out.mono ?_; rintro e W3 ⟨ls, ov, rfl, own3, hwa, hmap, b3⟩; obtain ⟨so, co, rfl⟩ := own_shape own3; rw [← HP1.out, ← HP2.out]; have OWN3 := hid own3; have HWA := hid hwa; have HMAP := hid hmap; have B3 := hid b3; clear own3 hwa hmap b3))
  obtain ⟨W4, hW4⟩ : ∃ W4, W4 = W3.alloc (Obj.cells #[.int .i64 p1, .int .i64 p2] 28) := ⟨_, rfl⟩
  rw [← hW4]
  have hs4 : W4.heap.size = W3.heap.size + 1 := by rw [hW4]; simp
  obtain ⟨W6, hW6⟩ : ∃ W6, W6 = (W4.alloc (Obj.cells #[.slice none 0 0, .slice none 0 0] 45)).alloc (Obj.cells #[.string ⟨#[]⟩, .slice none 0 0, .slice none 0 0, .pointer (some ⟨W3.heap.size + 1, 0, none⟩), .slice none 0 0, .slice none 0 0, .bool false] 49) := ⟨_, rfl⟩
  rw [← hW6]
  have ST : Hid (Dr W4 W6 (W3.heap.size + 1 + 1) text (dOf PureRd.start) ⟨W3.heap.size + 1, .slice none 0 0, .slice none 0 0, .slice none 0 0, .slice none 0 0, .slice none 0 0, .slice none 0 0, [], []⟩) := by
    have := Dr.start (w := W4) (text := text) (W := W6) (by rw [hW6, hs4])
    rw [hs4] at this
    exact this
  have b34 : Below W3.heap.size W3 W4 := by rw [hW4]; exact (Below.refl _ _).alloc (Nat.le_refl _) _
  have R28 : Hid (W4.heap[W3.heap.size]? = some (.cells #[.int .i64 p1, .int .i64 p2] 28 (0, 0))) := by rw [hW4]; exact heap_alloc_new W3 _
  have hw03 : w.heap.size + 2 ≤ W3.heap.size := by have := B3.out.size; rw [HS0.out] at this; exact this
  have BW : Hid (∀ WL, Below W4.heap.size W4 WL → Below (w.heap.size + 2) w0 WL ∧ Below W3.heap.size W3 WL) := fun WL hb => by
    have h1 : Below W3.heap.size W3 WL := b34.trans (hb.mono (by omega))
    refine ⟨?_, h1⟩
    have h2 := B3.out
    rw [HS0.out] at h2
    exact h2.trans (h1.mono hw03)
  have OPS4 : Hid (OpsD W4 T) := by
    have h1 := HOPS.out.on HA0.out.below HOPS.out.pos
    have h2 := h1.on B3.out h1.pos
    exact h2.on b34 h2.pos
  have hnl : Hid (ls.length = (linesO text).length) := by show _ = _; rw [← HMAP.out]; simp
  have HSZ4 := hid hs4
  clear hW4 hW6 b34 hs4 LN
  go_loopw [7] (fun iv WL => Hid (∃ (i : Nat) (s : Rs) (x : Dx), iv = .int .i64 (i : Int) ∧ i ≤ ls.length ∧ Lo T text W4 WL (W3.heap.size + 1 + 1) i s x)) (fun iv _ => match iv with | .int _ i => ls.length + 1 - i.toNat | _ => 0)
  case atStart => exact ⟨0, PureRd.start, _, rfl, Nat.zero_le _, ⟨rfl, rfl, Inv.start, Ov.start, Nat.zero_le _, rfl, ST.out⟩⟩
  case round =>
    clear ST
    obtain ⟨WW, hWW⟩ : ∃ WW, WW = wr := ⟨_, rfl⟩
    rw [← hWW] at hrel ⊢
    clear hWW
    obtain ⟨i, s, x, rfl, hin, hlo⟩ := hrel.out
    clear hrel
    have LOO := hid hlo
    obtain ⟨bw0, bw3⟩ := BW.out WW hlo.dr.below
    have AW := hid (HA0.out.on bw0)
    have BW3 := hid bw3
    have hrW := hlo.dr.size
    have hsW : W3.heap.size + 1 ≤ WW.heap.size := by
      have h1 := hlo.dr.below.size
      rw [HSZ4.out] at h1
      exact h1
    have hil : i < ls.length ∨ i = ls.length := by omega
    rcases hil with hlt2 | hlt2
    · obtain ⟨z, hz⟩ : ∃ z, ls[i]? = some z := ⟨_, List.getElem?_eq_getElem hlt2⟩
      obtain ⟨ws, v⟩ := z
      have hzm := List.mem_of_getElem? hz
      have hlw : (linesO text)[i]? = some ws := by rw [← HMAP.out, List.getElem?_map, hz]; rfl
      have hwm := List.mem_of_getElem? hlw
      obtain ⟨hne, hfew⟩ := linesO_few text ws hwm
      have hall : ∀ q ∈ ls, q.1 ≠ [] := fun q hq => (linesO_few text q.1 (by rw [← HMAP.out]; exact List.mem_map_of_mem hq)).1
      obtain ⟨ea, eb, hen⟩ := enC_two text hne
      obtain ⟨y, t, rfl⟩ : ∃ y t, ws = y :: t := by
        cases ws with
        | nil => exact absurd rfl hne
        | cons y t => exact ⟨y, t, rfl⟩
      have OWNW : WW.ownsRow w0.heap.size 53 3 (.slice so ls.length co) ls.length (lnC text ls) := ShfKit.own_kept OWN3.out (fun g hg => bw3.block g (OWN3.out.lt g hg).2)
      have at_ : ∀ j, j < 3 → (lnC text ls)[i * 3 + j]? = some ((v :: [Value.int .i64 ea, .int .i64 eb])[j]?.getD undef) := fun j hj => by
        rw [lnC_at text ls hall i j (y :: t, v) hz hj]
        show (v :: enC text (y :: t))[j]? = _
        rw [hen]
        have hl3 : (v :: [Value.int .i64 ea, .int .i64 eb]).length = 3 := rfl
        rw [List.getElem?_eq_getElem (by omega)]
        rfl
      obtain ⟨gl, cl, hgl, _, hglW, k0, _⟩ := ShfKit.own_cell OWNW (at_ 0 (by omega))
      obtain ⟨gl1, cl1, hgl1, _, _, k1, _⟩ := ShfKit.own_cell OWNW (at_ 1 (by omega))
      obtain ⟨gl2, cl2, hgl2, _, _, k2, _⟩ := ShfKit.own_cell OWNW (at_ 2 (by omega))
      simp only [Value.slice.injEq, true_and] at hgl hgl1 hgl2
      obtain ⟨rfl, rfl⟩ := hgl
      obtain ⟨e1, hq1⟩ := hgl1
      obtain ⟨e2, hq2⟩ := hgl2
      clear hq1 hq2
      simp only [Option.some.injEq, Addr.mk.injEq, and_true] at e1 e2
      subst e1 e2
      have k0' : WW.cell? ⟨gl, i * 3, none⟩ = some v := k0
      have k1' : WW.cell? ⟨gl, i * 3 + 1, none⟩ = some (.int .i64 ea) := k1
      have k2' : WW.cell? ⟨gl, i * 3 + 2, none⟩ = some (.int .i64 eb) := k2
      have WAW : WA WW W4.heap.size text (y :: t) v := (HWA.out (y :: t, v) hzm).kept (by have := HSZ4.out; omega) (fun g _ h => bw3.block g h)
      have LINE := hid (line_whole T W4 WW (W3.heap.size + 1 + 1) text s x y t v (.int .i64 ea) (.int .i64 eb) hlo.dr WAW hlo.flt hen (fun q hq => Nat.le_trans (hfew q (List.mem_cons_of_mem _ hq)) HL.out) hlo.mode hlo.inv hlo.ov OPS4.out)
      rw [hlo.first] at LINE
      obtain ⟨gv, cv, rfl, _⟩ := WAW.word
      have HLW := hid hlw
      have hls : ls.length ≤ 1048577 := by
        have h1 := linesO_len text
        have h2 := hnl.out
        have h3 := HL.out
        omega
      have hlt3 : (i : Int) < (ls.length : Int) := by omega
      have v1 : IntKind.i64.wrap ((i : Int) + 1) = (i : Int) + 1 := by rw [IntKind.wrap_i64]; omega
      clear k0 k1 k2 hz hzm hlw hwm hne hfew hall hen OWNW at_ WAW bw0 bw3 hlo
      rw [List.length_cons] at k0' LINE
      go_upto_region 9 with (go_at_call 12; refine LINE.out.mono ?_; rintro e w3 ⟨b3, _, h3⟩; have BL3 := hid b3; have HE := hid (line_res h3); obtain ⟨A, B, C, rfl, HX⟩ := HE.out; clear b3 h3 HE)
      obtain ⟨WX, hWX⟩ : ∃ WX, WX = w3.alloc (Obj.cells #[.int .i64 A, .int .i64 B, .int .i64 C] 30) := ⟨_, rfl⟩
      rw [← hWX]
      have bX : Below w3.heap.size w3 WX := by rw [hWX]; exact (Below.refl _ _).alloc (Nat.le_refl _) _
      have QX : Hid (WX.heap[w3.heap.size]? = some (.cells #[.int .i64 A, .int .i64 B, .int .i64 C] 30 (0, 0))) := by rw [hWX]; exact heap_alloc_new w3 _
      have cX := fun j => cell_row QX.out j
      have hsX := (Array.getElem?_eq_some_iff.1 QX.out).1
      have BLX : Hid (Below W4.heap.size W4 WX) := (LOO.out.dr.below.trans BL3.out).trans (bX.mono (Nat.le_trans LOO.out.dr.below.size BL3.out.size))
      have hw3 : w.heap.size + 2 ≤ w3.heap.size := by
        have h1 := BL3.out.size
        omega
      have BX := hid bX
      clear hWX bX
      rcases HX.out with ⟨p, hp, hfv⟩ | ⟨hnf, hz, x', hd'⟩
      · have hA : A = p.1 ∧ B = ((spotN (text.take p.2)).1 : Int) ∧ C = ((spotN (text.take p.2)).2 : Int) := by
          simp only [faV, Value.agg.injEq] at hfv
          simp at hfv
          exact ⟨hfv.1.symm, hfv.2.1.symm, hfv.2.2.symm⟩
        have hA0 : (A != 0) = true := by
          rw [bne_iff_ne, hA.1]
          exact line_code T y t LOO.out.flt LOO.out.mode p hp
        have RIS : Hid ((readLinesF T text PureRd.start).fault = some p ∧ faultV text p = .tuple #[.agg #[.string ⟨#[]⟩, .slice none 0 0, .slice none 0 0], .agg #[.int .i64 A, .int .i64 B, .int .i64 C]]) := by
          refine ⟨LOO.out.fault HLW.out hp, ?_⟩
          rw [hA.1, hA.2.1, hA.2.2]
          rfl
        have AX := hid (HA0.out.on (BW.out WX BLX.out).1)
        clear hA hfv hp HX
        go_upto_region 10 with fail
        have mixed := Tryd.lays161.mixed
        obtain ⟨a1, a2, a3, a4, a5, a6, a7, a8, a9, a10, a11, a12, a13, a14⟩ := AX.out.cells
        obtain ⟨d1, d2, d3, d4, d5, d6, d7, d8, d9, d10, d11, d12, d13, d14⟩ := AX.out.drew.cells
        have nb : w3.heap.size ≠ w.heap.size := by omega
        have nb' : w.heap.size ≠ w3.heap.size := by omega
        have nc : w3.heap.size ≠ w.heap.size + 1 := by omega
        have nc' : w.heap.size + 1 ≠ w3.heap.size := by omega
        have q0 : WX.drew.cell? ⟨w3.heap.size, 0, none⟩ = some (.int .i64 A) := cX 0
        have q1 : WX.drew.cell? ⟨w3.heap.size, 1, none⟩ = some (.int .i64 B) := cX 1
        have q2 : WX.drew.cell? ⟨w3.heap.size, 2, none⟩ = some (.int .i64 C) := cX 2
        have hsXd : w3.heap.size < WX.drew.heap.size := hsX
        go_region
        all_goals
          (generalize hW9 : World.drew (World.setCell _ _ _) = W9
           obtain ⟨n1, n2, n3, n4⟩ := AX.out.told _ _ _ _ _ _ W9 hW9.symm
           have N1 := hid n1
           have N2 := hid n2
           have N3 := hid n3
           clear hW9 n1 n2 n3 n4 a1 a2 a3 a4 a5 a6 a7 a8 a9 a10 a11 a12 a13 a14 d1 d2 d3 d4 d5 d6 d7 d8 d9 d10 d11 d12 d13 d14 q0 q1 q2
           go_wp2
           refine bodyPost_ret (results_cir rfl _ _ _ _ _ _ _ _ _ _ rfl rfl N1.out N2.out) rfl ?_
           exact ⟨.inl ⟨p, RIS.out.1, congrArg _ RIS.out.2.symm⟩, N3.out⟩)
      · have hA : A = 0 := by
          simp only [Value.agg.injEq] at hz
          simp at hz
          exact hz.1
        have hA0 : (A != 0) = false := by rw [hA]; rfl
        have LN2 := hid (LOO.out.next HLW.out hnf (hd'.on BX.out))
        clear hA hz hnf hd' HX
        go_wp2_with fail
        refine ⟨⟨i + 1, _, _, by go_num, by omega, LN2.out⟩, ?_⟩
        show ls.length + 1 - ((i : Int) + 1).toNat < ls.length + 1 - (i : Int).toNat
        omega
    · have hlt3 : ¬ (i : Int) < (ls.length : Int) := by omega
      have hiL : Hid (i = (linesO text).length) := by show _ = _; rw [hlt2]; exact hnl.out
      have crd := (cell_row hlo.dr.box 6).trans (show (rcells (dOf s) x)[6]? = some (.bool (s.mode == 2)) from rfl)
      obtain ⟨a1, a2, a3, a4, a5, a6, a7, a8, a9, a10, a11, a12, a13, a14⟩ := AW.out.cells
      have r28 := (hlo.dr.below.block _ (by have := HSZ4.out; omega)).trans R28.out
      have c28 := fun j => cell_row r28 j
      have FC := hid (fun W a b => fault_any 140 a b W)
      clear bw0 bw3 hlo r28
      by_cases hm : s.mode = 2
      · have hm2 : (s.mode == 2) = true := by simp [hm]
        rw [hm2] at crd
        have HRD := hid (LOO.out.whole hiL.out hm)
        have RS := hid (RSV.out W4 WW (W3.heap.size + 1 + 1) text s x LOO.out.dr LOO.out.inv LOO.out.ov LOO.out.flt)
        have HW4 : Hid (w.heap.size + 2 ≤ W4.heap.size) := by
          show _ ≤ _
          have h1 := HSZ4.out
          omega
        have HBT : Hid (∀ WX, Below W4.heap.size WW WX → Ans w WX) := fun WX hb => HA0.out.on (BW.out WX (LOO.out.dr.below.trans hb)).1
        clear a1 a2 a3 a4 a5 a6 a7 a8 a9 a10 a11 a12 a13 a14 c28 FC
        clear hlt2
        go_upto_region 13 with fail
        clear crd
        go_cut [9] (fun v WX => Hid (∃ (q : Nat) (A B C : Int), v = .pointer (some ⟨q, 0, none⟩) ∧ ResT text w W4 (W3.heap.size + 1 + 1) s x q A B C WX))
        case first =>
          go_wp2_with (go_at_call 13; refine RS.out.mono ?_; rintro e w3 h3; have BL3 := hid h3.1; have HE := hid (res_res h3); obtain ⟨A, B, C, rfl, HX⟩ := HE.out; clear h3 HE)
          go_meet
          have bX : Below w3.heap.size w3 (w3.alloc (Obj.cells #[.int .i64 A, .int .i64 B, .int .i64 C] 30)) := (Below.refl _ _).alloc (Nat.le_refl _) _
          refine ⟨w3.heap.size, A, B, C, rfl, ?_, heap_alloc_new w3 _, HBT.out _ (BL3.out.trans (bX.mono (Nat.le_trans LOO.out.dr.below.size BL3.out.size))), ?_⟩
          · have h1 := BL3.out.size
            have h2 := LOO.out.dr.below.size
            have h3 := HW4.out
            omega
          · rcases HX.out with h1 | ⟨gs, os, h1, _, _, h4, h5⟩
            · exact .inl h1
            · exact .inr ⟨gs, os, h1, h4, h5.on bX⟩
        case rest =>
        obtain ⟨q, A, B, C, rfl, hrt⟩ := hcut.out
        have HRT := hid hrt
        have HI := hid LOO.out.inv
        have HO := hid LOO.out.ov
        have HF := hid LOO.out.flt
        refine ‹∀ (a : Act) (w_1 : World), Code.wp Tryd.prog ((Tryd.f5.body.bind (tailReg 14)).getD .skip) (bodyPost Tryd.prog Tryd.f5 (fun e W => ReadIs w.heap.size T text e W ∧ Below w.heap.size w W)) a w_1 → _› _ _ ?_
        exact parse_tail T text w W4 _ (W3.heap.size + 1 + 1) q s x A B C HRT HRD HI HO HF HW4 _ _ _ _ _ _ _ _ _ _ _ _ _ _ _ _ _ _ _ _ _ _ _ _ _ _ _ _ _ _ _ _ _ _ _ _ _ _ _ _ _ _ _ _ _ _ _ _ _ _ _ _ _ _ _ _ _ _ _ _ _ _ _ _ _ _ _ _ _ _ _ _ _ _ _ _ _ _
      · have hm2 : (s.mode == 2) = false := by simpa using hm
        rw [hm2] at crd
        have RIS : Hid ((readLinesF T text PureRd.start).fault = some (140, text.length) ∧ faultV text (140, text.length) = .tuple #[.agg #[.string ⟨#[]⟩, .slice none 0 0, .slice none 0 0], .agg #[.int .i64 140, .int .i64 p1, .int .i64 p2]]) := by
          refine ⟨LOO.out.short hiL.out hm, ?_⟩
          rw [HP1.out, HP2.out, faultV, List.take_length]
        clear hm hm2 a1 a2 a3 a4 a5 a6 a7 a8 a9 a10 a11 a12 a13 a14
        go_wp2_with (go_at_call 10; refine (FC.out _ _ _).mono ?_; rintro e w5 ⟨rfl, b5⟩; have A5 := hid (AW.out.on (b5.mono (by omega))); obtain ⟨a1, a2, a3, a4, a5, a6, a7, a8, a9, a10, a11, a12, a13, a14⟩ := A5.out.cells; clear b5)
        refine bodyPost_ret (results_cir rfl _ _ _ _ _ _ _ _ _ _ rfl rfl (A5.out.told0 _ _ _ _ _ _ _ rfl).1 (A5.out.told0 _ _ _ _ _ _ _ rfl).2.1) rfl ?_
        exact ⟨.inl ⟨_, RIS.out.1, congrArg _ RIS.out.2.symm⟩, (A5.out.told0 _ _ _ _ _ _ _ rfl).2.2.1⟩
end Go.Proofs.YtfmmmhcpdinhgabDoor
/-
  What a text is read to, by itself; texts that are too long.
-/
namespace Go.Proofs.YtfmmmhcpdinhgabDoor
open Go.RowKit Go.Deep PureNet PureRd
set_option maxRecDepth 100000

def net0 : Net := ⟨⟨#[]⟩, [], []⟩
def fltN (text : List UInt8) (p : Int × Nat) : Int × Int × Int := (p.1, ((spotN (text.take p.2)).1 : Int), ((spotN (text.take p.2)).2 : Int))
/-- what a text is read to: the circuit and the fault. -/
def RR (T : Nat → List UInt8) (text : List UInt8) (c : Net) (f : Int × Int × Int) : Prop :=
  (∃ p, (readLinesF T text PureRd.start).fault = some p ∧ c = net0 ∧ f = fltN text p) ∨
  ((readLinesF T text PureRd.start).fault = none ∧ ∃ y gs os, connF (readLinesF T text PureRd.start) (readLinesF T text PureRd.start).lines [] [] = (some y, gs, os) ∧ c = net0 ∧ f = fltN text (142, y.2)) ∨
  ((readLinesF T text PureRd.start).fault = none ∧ ∃ gs os k, connF (readLinesF T text PureRd.start) (readLinesF T text PureRd.start).lines [] [] = (none, gs, os) ∧ CircleIs gs k ∧
    ((k ≠ -1 ∧ c = net0 ∧ f = fltN text (143, (readLinesF T text PureRd.start).names.getD k.toNat 0)) ∨ (k = -1 ∧ c = ⟨⟨(readLinesF T text PureRd.start).cname.toArray⟩, gs, os⟩ ∧ f = (0, 0, 0))))
theorem RR.one {T : Nat → List UInt8} {text : List UInt8} {c c' : Net} {f f' : Int × Int × Int} (h : RR T text c f) (h' : RR T text c' f') : c = c' ∧ f = f' := by
  rcases h with ⟨p, h1, rfl, rfl⟩ | ⟨h1, y, gs, os, h2, rfl, rfl⟩ | ⟨h1, gs, os, k, h2, h3, h4⟩
  · rcases h' with ⟨q, g1, rfl, rfl⟩ | ⟨g1, _⟩ | ⟨g1, _⟩
    · rw [h1] at g1
      cases g1
      exact ⟨rfl, rfl⟩
    · rw [h1] at g1
      cases g1
    · rw [h1] at g1
      cases g1
  · rcases h' with ⟨q, g1, _⟩ | ⟨_, y', gs', os', g2, rfl, rfl⟩ | ⟨_, gs', os', k', g2, _⟩
    · rw [h1] at g1
      cases g1
    · rw [h2] at g2
      cases g2
      exact ⟨rfl, rfl⟩
    · rw [h2] at g2
      cases g2
  · rcases h' with ⟨q, g1, _⟩ | ⟨_, y', gs', os', g2, _⟩ | ⟨_, gs', os', k', g2, g3, g4⟩
    · rw [h1] at g1
      cases g1
    · rw [h2] at g2
      cases g2
    · rw [h2] at g2
      cases g2
      obtain rfl := circle_one h3 g3
      rcases h4 with ⟨a, rfl, rfl⟩ | ⟨a, rfl, rfl⟩
      · rcases g4 with ⟨b, rfl, rfl⟩ | ⟨b, _⟩
        · exact ⟨rfl, rfl⟩
        · exact absurd b a
      · rcases g4 with ⟨b, _⟩ | ⟨b, rfl, rfl⟩
        · exact absurd a b
        · exact ⟨rfl, rfl⟩
/-- the circuit and the fault in memory of their own. -/
def GotC (B : Nat) (W : World) (c : Net) (f : Int × Int × Int) (e : Ending) : Prop :=
  ∃ sg cg so co, e = .returned (.tuple #[cirV c sg cg so co, .agg #[.int .i64 f.1, .int .i64 f.2.1, .int .i64 f.2.2]]) ∧ W.ownsRow B 57 6 (.slice sg c.gates.length cg) c.gates.length (gas c.gates) ∧ W.ownsRow B 3 1 (.slice so c.outs.length co) c.outs.length (nu c.outs)
theorem got_none (B : Nat) (W : World) (f : Int × Int × Int) (e : Ending) (he : e = .returned (.tuple #[.agg #[.string ⟨#[]⟩, .slice none 0 0, .slice none 0 0], .agg #[.int .i64 f.1, .int .i64 f.2.1, .int .i64 f.2.2]])) : GotC B W net0 f e :=
  ⟨none, 0, none, 0, he, World.ownsRow_nil _ _ _ _, World.ownsRow_nil _ _ _ _⟩
theorem ReadIs.got {B : Nat} {T : Nat → List UInt8} {text : List UInt8} {e : Ending} {W : World} (h : ReadIs B T text e W) : ∃ c f, RR T text c f ∧ GotC B W c f e := by
  rcases h with ⟨p, h1, rfl⟩ | ⟨h1, y, gs, os, h2, rfl⟩ | ⟨h1, gs, os, k, h2, h3, ⟨h4, rfl⟩ | ⟨h4, sg, cg, so, co, rfl, h5, h6⟩⟩
  · exact ⟨net0, _, .inl ⟨p, h1, rfl, rfl⟩, got_none _ _ (fltN text p) _ rfl⟩
  · exact ⟨net0, _, .inr (.inl ⟨h1, y, gs, os, h2, rfl, rfl⟩), got_none _ _ (fltN text (142, y.2)) _ rfl⟩
  · exact ⟨net0, _, .inr (.inr ⟨h1, gs, os, k, h2, h3, .inl ⟨h4, rfl, rfl⟩⟩), got_none _ _ (fltN text (143, _)) _ rfl⟩
  · exact ⟨_, _, .inr (.inr ⟨h1, gs, os, k, h2, h3, .inr ⟨h4, rfl, rfl⟩⟩), sg, cg, so, co, rfl, h5, h6⟩
/-- the lines one by one keep the count of the outs. -/
theorem ov_fold (T : Nat → List UInt8) : ∀ (ls : List (List Wd)) (s : Rs), (∀ l ∈ ls, l ≠ []) → Ov s → Inv s → s.fault = none → s.mode ≤ 2 → (foldL T ls s).fault = none → Ov (foldL T ls s) ∧ Inv (foldL T ls s)
  | [], s, _, ho, hi, _, _, _ => ⟨ho, hi⟩
  | l :: t, s, hne, ho, hi, hf, hm, h => by
    rw [foldL, if_pos hf] at h ⊢
    cases l with
    | nil => exact absurd rfl (hne [] (by simp))
    | cons y r =>
      have h2 : (lineF T (y :: r) s).fault = none := by
        by_cases h3 : (lineF T (y :: r) s).fault = none
        · exact h3
        · rw [foldL_fault T _ _ h3] at h
          exact absurd h h3
      obtain ⟨o1, m1, m2⟩ := Ov.line T y r ho hf hm h2
      exact ov_fold T t _ (fun l hl => hne l (List.mem_cons_of_mem _ hl)) o1 (hi.line T _) h2 m2 h
theorem connF_outs (s : Rs) : ∀ (ls : List Ln) (gs : List Ga) (os : List Int) (gs' : List Ga) (os' : List Int), connF s ls gs os = (none, gs', os') → os'.length = os.length + outsN ls
  | [], gs, os, gs', os', h => by
    simp only [connF, Prod.mk.injEq, true_and] at h
    rw [← h.2]
    rfl
  | l :: t, gs, os, gs', os', h => by
    rw [connF] at h
    split at h
    · cases h
    · rw [outsN_cons]
      split at h
      · next hk =>
        rw [if_pos hk, connF_outs s t _ _ _ _ h, List.length_append]
        simp only [List.length_cons, List.length_nil]
        omega
      · next hk => rw [if_neg hk, connF_outs s t _ _ _ _ h]
theorem RR.few {T : Nat → List UInt8} {text : List UInt8} {c : Net} {f : Int × Int × Int} (h : RR T text c f) : c.gates.length ≤ 65536 ∧ c.outs.length ≤ 65536 := by
  rcases h with ⟨p, h1, rfl, rfl⟩ | ⟨h1, y, gs, os, h2, rfl, rfl⟩ | ⟨h1, gs, os, k, h2, h3, ⟨h4, rfl, rfl⟩ | ⟨h4, rfl, rfl⟩⟩
  · exact ⟨Nat.zero_le _, Nat.zero_le _⟩
  · exact ⟨Nat.zero_le _, Nat.zero_le _⟩
  · exact ⟨Nat.zero_le _, Nat.zero_le _⟩
  · have e := read_fold T text PureRd.start
    have hs : readLinesF T text PureRd.start = foldL T (linesO text) PureRd.start := by
      rw [e]
      split
      · next hm =>
        rw [e, if_pos hm] at h1
        by_cases h5 : (foldL T (linesO text) PureRd.start).fault = none
        · rw [refuse_set h5] at h1
          cases h1
        · obtain ⟨p, hp⟩ := Option.ne_none_iff_exists'.1 h5
          rw [refuse_stays hp] at h1
          exact absurd h1 h5
      · rfl
    rw [hs] at h1 h2 ⊢
    obtain ⟨ho, hi⟩ := ov_fold T _ _ (fun l hl => (linesO_few text l hl).1) Ov.start Inv.start rfl (Nat.zero_le _) h1
    have hft := connF_fit hi h2
    refine ⟨by show gs.length ≤ 65536; rw [hft.1]; exact hi.many h1, ?_⟩
    show os.length ≤ 65536
    rw [connF_outs _ _ _ _ _ _ h2, ho.outs]
    have := ho.few
    simp only [List.length_nil]
    omega
/-- a text's answer: one that is too long is refused as that. -/
def Rd (T : Nat → List UInt8) (text : List UInt8) (c : Net) (f : Int × Int × Int) : Prop := (text.length ≤ 1048576 ∧ RR T text c f) ∨ (1048576 < text.length ∧ c = net0 ∧ f = (5, 0, 0))
theorem Rd.one {T : Nat → List UInt8} {text : List UInt8} {c c' : Net} {f f' : Int × Int × Int} (h : Rd T text c f) (h' : Rd T text c' f') : c = c' ∧ f = f' := by
  rcases h with ⟨a, h⟩ | ⟨a, rfl, rfl⟩
  · rcases h' with ⟨b, h'⟩ | ⟨b, _⟩
    · exact h.one h'
    · omega
  · rcases h' with ⟨b, h'⟩ | ⟨b, rfl, rfl⟩
    · omega
    · exact ⟨rfl, rfl⟩
theorem Rd.few {T : Nat → List UInt8} {text : List UInt8} {c : Net} {f : Int × Int × Int} (h : Rd T text c f) : c.gates.length ≤ 65536 ∧ c.outs.length ≤ 65536 := by
  rcases h with ⟨_, h⟩ | ⟨_, rfl, rfl⟩
  · exact h.few
  · exact ⟨Nat.zero_le _, Nat.zero_le _⟩
theorem Ans.fresh (w : World) {w0 : World} (hw0 : w0 = (w.alloc (.cells #[.string ⟨#[]⟩, .slice none 0 0, .slice none 0 0] 25)).alloc (.cells #[.int .i64 0, .int .i64 0, .int .i64 0] 30)) : Ans w w0 := by
  refine ⟨by rw [hw0]; exact ((Below.refl w.heap.size w).alloc (Nat.le_refl _) _).alloc (by simp) _, ?_, ?_⟩
  · rw [hw0]
    exact (Lib.alloc_old _ _ _ (by simp)).trans (heap_alloc_new w _)
  · have e1 : (w.alloc (.cells #[.string ⟨#[]⟩, .slice none 0 0, .slice none 0 0] 25)).heap.size = w.heap.size + 1 := by simp
    rw [hw0, ← e1]
    exact heap_alloc_new _ _
set_option maxHeartbeats 2000000 in
theorem parse_long (text : List UInt8) (w : World) (hl : 1048576 < text.length) :
    Calls Tryd.prog 4 #[str text] w fun e W => GotC w.heap.size W net0 (5, 0, 0) e ∧ Below w.heap.size w W := by
  obtain ⟨w0, hw0⟩ : ∃ w0, w0 = (w.alloc (.cells #[.string ⟨#[]⟩, .slice none 0 0, .slice none 0 0] 25)).alloc (.cells #[.int .i64 0, .int .i64 0, .int .i64 0] 30) := ⟨_, rfl⟩
  have A0 := hid (Ans.fresh w hw0)
  have HW0 := hid hw0
  have hlt : (1048576 : Int) < (text.length : Int) := by omega
  have ne : w.heap.size ≠ w.heap.size + 1 := by omega
  have ne' : w.heap.size + 1 ≠ w.heap.size := by omega
  obtain ⟨a1, a2, a3, a4, a5, a6, a7, a8, a9, a10, a11, a12, a13, a14⟩ := A0.out.cells
  clear hw0
  go_enter Tryd.func4, Tryd.ntmps4
  go_wp2_with (have q := HW0; clear q; rw [← HW0.out]; clear HW0)
  refine bodyPost_ret (results_cir rfl _ _ _ _ _ _ _ _ _ _ rfl rfl (A0.out.told0 _ _ _ _ _ _ _ rfl).1 (A0.out.told0 _ _ _ _ _ _ _ rfl).2.1) rfl ?_
  exact ⟨got_none _ _ _ _ rfl, (A0.out.told0 _ _ _ _ _ _ _ rfl).2.2.1⟩
theorem parse_all (T : Nat → List UInt8) (text : List UInt8) (w : World) (hops : OpsT w T) (hkd : KindsAt w) :
    Calls Tryd.prog 4 #[str text] w fun e W => ∃ c f, Rd T text c f ∧ GotC w.heap.size W c f e ∧ Below w.heap.size w W := by
  by_cases hl : text.length ≤ 1048576
  · refine (parse_any T text w hl hops hkd).mono ?_
    rintro e W ⟨h1, h2⟩
    obtain ⟨c, f, h3, h4⟩ := h1.got
    exact ⟨c, f, .inl ⟨hl, h3⟩, h4, h2⟩
  · refine (parse_long text w (by omega)).mono ?_
    rintro e W ⟨h1, h2⟩
    exact ⟨_, _, .inr ⟨by omega, rfl, rfl⟩, h1, h2⟩
end Go.Proofs.YtfmmmhcpdinhgabDoor
/-
  The document's own Parse of any text.
-/
namespace Go.Proofs.YtfmmmhcpdinhgabDoor
open Go.RowKit Go.Deep PureNet PureRd
set_option maxRecDepth 100000

set_option maxHeartbeats 2000000 in
theorem parse_long_doc (text : List UInt8) (w : World) (hl : 1048576 < text.length) :
    Calls Tryd.prog 5 #[str text] w fun e W => GotC w.heap.size W net0 (5, 0, 0) e ∧ Below w.heap.size w W := by
  obtain ⟨w0, hw0⟩ : ∃ w0, w0 = (w.alloc (.cells #[.string ⟨#[]⟩, .slice none 0 0, .slice none 0 0] 25)).alloc (.cells #[.int .i64 0, .int .i64 0, .int .i64 0] 30) := ⟨_, rfl⟩
  have A0 := hid (Ans.fresh w hw0)
  have HS0 : Hid (w0.heap.size = w.heap.size + 2) := by show _ = _; rw [hw0]; simp
  have HW0 := hid hw0
  have hlt : (1048576 : Int) < (text.length : Int) := by omega
  have ne : w.heap.size ≠ w.heap.size + 1 := by omega
  have ne' : w.heap.size + 1 ≠ w.heap.size := by omega
  have FC := hid (fun W a b => fault_any 5 a b W)
  clear hw0
  go_enter Tryd.func5, Tryd.ntmps5
  go_wp2_with (first
    | (have q := HW0; clear q; rw [← HW0.out]; clear HW0)
    | (go_at_call 10; refine (FC.out _ _ _).mono ?_; rintro e w5 ⟨rfl, b5⟩; have A5 := hid (A0.out.on (by rw [HS0.out] at b5; exact b5)); obtain ⟨a1, a2, a3, a4, a5, a6, a7, a8, a9, a10, a11, a12, a13, a14⟩ := A5.out.cells; clear b5))
  refine bodyPost_ret (results_cir rfl _ _ _ _ _ _ _ _ _ _ rfl rfl (A5.out.told0 _ _ _ _ _ _ _ rfl).1 (A5.out.told0 _ _ _ _ _ _ _ rfl).2.1) rfl ?_
  exact ⟨got_none _ _ _ _ rfl, (A5.out.told0 _ _ _ _ _ _ _ rfl).2.2.1⟩
theorem parse_all_doc (T : Nat → List UInt8) (text : List UInt8) (w : World) (hops : OpsD w T) :
    Calls Tryd.prog 5 #[str text] w fun e W => ∃ c f, Rd T text c f ∧ GotC w.heap.size W c f e ∧ Below w.heap.size w W := by
  by_cases hl : text.length ≤ 1048576
  · refine (parse_doc T text w hl hops).mono ?_
    rintro e W ⟨h1, h2⟩
    obtain ⟨c, f, h3, h4⟩ := h1.got
    exact ⟨c, f, .inl ⟨hl, h3⟩, h4, h2⟩
  · refine (parse_long_doc text w (by omega)).mono ?_
    rintro e W ⟨h1, h2⟩
    exact ⟨_, _, .inr ⟨by omega, rfl, rfl⟩, h1, h2⟩
end Go.Proofs.YtfmmmhcpdinhgabDoor
/-
  The law's own text is read.
-/
namespace Go.Proofs.YtfmmmhcpdinhgabDoor
open Go.RowKit Go.Deep PureNet PureRd
set_option maxRecDepth 100000

def opsL : List (List UInt8) := [[122, 101, 114, 111], [110, 111, 114], [108, 101, 115, 115], [110, 111, 116, 97], [100, 105, 102, 102], [110, 111, 116, 98], [120, 111, 114], [110, 97, 110, 100], [97, 110, 100], [105, 102, 102], [98], [105, 109, 112], [97], [114, 101, 118], [111, 114], [111, 110, 101]]
/-- the operators' words. -/
def opW (k : Nat) : List UInt8 := opsL.getD k []
def fixedT : List UInt8 := [99, 105, 114, 99, 117, 105, 116, 32, 116, 119, 111, 10, 105, 110, 112, 117, 116, 32, 97, 10, 103, 97, 116, 101, 32, 98, 32, 97, 110, 100, 32, 97, 32, 97, 10, 111, 117, 116, 112, 117, 116, 32, 98, 10, 101, 110, 100, 10]
def fixedG : List Ga := [⟨1, ⟨#[97]⟩, 0, 0, 0, 0⟩, ⟨2, ⟨#[98]⟩, 8, 0, 0, 0⟩]
theorem fixed_fault : (readLinesF opW fixedT PureRd.start).fault = none := by kernel_rfl
theorem fixed_conn : connF (readLinesF opW fixedT PureRd.start) (readLinesF opW fixedT PureRd.start).lines [] [] = (none, fixedG, [1]) := by kernel_rfl
theorem fixed_free : CircleIs fixedG (-1) := by
  refine .inl ⟨rfl, fun i hw => ?_⟩
  have key : ∀ a b, Leans fixedG a b → b < a := fun a b hl => by
    obtain ⟨g, h1, h2⟩ := hl
    rcases a with _ | _ | a
    · simp [fixedG] at h1
      subst h1
      simp [leansOn] at h2
    · simp [fixedG] at h1
      subst h1
      simp [leansOn] at h2
      omega
    · simp [fixedG] at h1
  have := hw (fun a b => b < a) key (fun a b c h1 h2 => Nat.lt_trans h2 (key a b h1))
  omega
theorem fixed_ok {c : Net} {f : Int × Int × Int} (h : Rd opW fixedT c f) : f = (0, 0, 0) := by
  rcases h with ⟨_, h⟩ | ⟨h, _⟩
  · rcases h with ⟨p, h1, _⟩ | ⟨h1, y, gs, os, h2, _⟩ | ⟨h1, gs, os, k, h2, h3, h4⟩
    · rw [fixed_fault] at h1
      cases h1
    · rw [fixed_conn] at h2
      cases h2
    · rw [fixed_conn] at h2
      cases h2
      have := circle_one h3 fixed_free
      rcases h4 with ⟨h5, _⟩ | ⟨_, _, h5⟩
      · exact absurd this h5
      · exact h5
  · have : fixedT.length = 48 := rfl
    omega
end Go.Proofs.YtfmmmhcpdinhgabDoor
/-
  The law's marked: a circuit's lists are written over and grown.
-/
namespace Go.Proofs.YtfmmmhcpdinhgabDoor
open Go.RowKit Go.Deep PureNet PureRd
set_option maxRecDepth 100000

/-- the line that marked writes. -/
def gaM (v : Int) : Ga := ⟨v, ⟨#[]⟩, 0, 0, 0, 0⟩
/-- append of one, in the text's order, told where it lies. -/
theorem wpl_one {ops : Array Oper} {rest : List Oper} {o : Oper} {a : Act} {Q : Exit → Act → World → Prop} {W : World} (hg : o.guard = none) (s x : Operand) (t : TypeId) (hop : o.op = Op.call { callee := Callee.builtin Builtin.append, args := #[s, x], argTypes := #[t, t] })
    (B : Nat) (e : TypeId) (z : Value) (size bytes : Nat) (ht : Tryd.prog.underlying t = some (.slice e)) (hinf : (Tryd.prog.info? e).map (fun i => (i.zero, i.size, i.bytes)) = some (some z, size, bytes))
    (hzs : z.cells.size = size) (hsz : 0 < size) (v : Value) (n : Nat) (xs : List Value) (hs : a.eval s = v) (hown : W.ownsRow B e size v n xs) (news : List Value) (u : TypeId) (ad : Nat) (had : ad = W.heap.size) (hx : a.eval x = .slice (some ⟨ad, 0, none⟩) 1 1) (hl : news.length = size) (h1 : ∀ u ∈ news, u.oneCell' = true) (hn : n ≤ 1099511627776) (hby : (n + 1) * bytes ≤ 140737488355328) (hbase : B ≤ W.heap.size)
    (hK : ∀ v' w', w'.ownsRow B e size v' (n + 1) (xs ++ news) → Far (W.alloc (.cells news.toArray u)) w' v v' → wpList Tryd.prog ops Q rest (a.put o.dst v') w') :
    wpList Tryd.prog ops Q (o :: rest) a (W.alloc (.cells news.toArray u)) := by
  subst had
  exact wpl_cells _ hg s x t hop B e z size bytes ht hinf hzs hsz v n xs hs (ownsRow_below hown ((Below.refl _ _).alloc (Nat.le_refl _) _)) (some ⟨W.heap.size, 0, none⟩) 1 1 news hx (by rw [hl, Nat.one_mul]) ⟨fun k u hu => ⟨W.heap.size, 0, rfl, by simp, by rw [Nat.zero_add, cell_row (heap_alloc_new W _)]; simpa using hu⟩⟩ (fun e => by cases e) h1 (by unfold maxLen; omega) hby (by simp; omega) hK
/-- what marked has in memory: its own circuit, its answer, the two lists; what it may have turned. -/
structure Mkd (w W : World) (B : Nat) (g0 o0 : Option Nat) (nm : ByteArray) (gv ov : Value) (gs : List Ga) (os : List Int) : Prop where
  box : W.heap[w.heap.size]? = some (.cells #[.string nm, gv, ov] 25 (0, 0))
  res : W.heap[w.heap.size + 1]? = some (.cells #[.string ⟨#[]⟩, .slice none 0 0, .slice none 0 0] 25 (0, 0))
  gates : W.ownsRow B 57 6 gv gs.length (gas gs)
  outs : W.ownsRow B 3 1 ov os.length (nu os)
  gb : ∀ k, gv.ownBlock = some k → g0 = some k ∨ w.heap.size ≤ k
  ob : ∀ k, ov.ownBlock = some k → o0 = some k ∨ w.heap.size ≤ k
  b0 : Below 0 w W
  kept : ∀ k, k < w.heap.size → g0 ≠ some k → o0 ≠ some k → W.heap[k]? = w.heap[k]?
section
variable {w W : World} {B : Nat} {g0 o0 : Option Nat} {nm : ByteArray} {gv ov : Value} {gs : List Ga} {os : List Int}
theorem Mkd.start (hg : w.ownsRow B 57 6 gv gs.length (gas gs)) (ho : w.ownsRow B 3 1 ov os.length (nu os)) (hW : W = (w.alloc (.cells #[.string nm, gv, ov] 25)).alloc (.cells #[.string ⟨#[]⟩, .slice none 0 0, .slice none 0 0] 25)) : Mkd w W B gv.ownBlock ov.ownBlock nm gv ov gs os := by
  have s1 : (w.alloc (.cells #[.string nm, gv, ov] 25)).heap.size = w.heap.size + 1 := by simp
  have b : Below w.heap.size w W := by rw [hW]; exact ((Below.refl _ _).alloc (Nat.le_refl _) _).alloc (by omega) _
  refine ⟨?_, ?_, ownsRow_below hg b, ownsRow_below ho b, fun k h => .inl h, fun k h => .inl h, b.mono (Nat.zero_le _), fun k hk _ _ => b.block k hk⟩
  · rw [hW]
    exact (Lib.alloc_old _ _ _ (by omega)).trans (heap_alloc_new w _)
  · rw [hW, ← s1]
    exact heap_alloc_new _ _
theorem Mkd.ne25 {e size n b : Nat} {v : Value} {xs : List Value} {cs : Array Value} (ho : W.ownsRow B e size v n xs) (hb : W.heap[b]? = some (.cells cs 25 (0, 0))) (he : e ≠ 25) : v.ownBlock ≠ some b := fun h => by
  obtain ⟨c, f, hk⟩ := Lib.ownsRow_kind ho b h
  rw [hb] at hk
  simp at hk
  exact he hk.2.1.symm
theorem Mkd.neGO (h : Mkd w W B g0 o0 nm gv ov gs os) {k : Nat} (hk : gv.ownBlock = some k) : ov.ownBlock ≠ some k := fun h2 => by
  obtain ⟨c, f, hk1⟩ := Lib.ownsRow_kind h.gates k hk
  obtain ⟨c2, f2, hk2⟩ := Lib.ownsRow_kind h.outs k h2
  rw [hk1] at hk2
  simp at hk2
/-- one list is written or grown: of its block alone. -/
theorem Mkd.turnG (h : Mkd w W B g0 o0 nm gv ov gs os) {W' : World} {b : Option Nat} (hg : W.grownBy W' b) (hb : ∀ k, b = some k → gv.ownBlock = some k ∨ W.heap.size ≤ k) :
    W'.heap[w.heap.size]? = some (.cells #[.string nm, gv, ov] 25 (0, 0)) ∧ W'.heap[w.heap.size + 1]? = some (.cells #[.string ⟨#[]⟩, .slice none 0 0, .slice none 0 0] 25 (0, 0)) ∧ W'.ownsRow B 3 1 ov os.length (nu os) ∧ Below 0 w W' ∧ ∀ k, k < w.heap.size → g0 ≠ some k → o0 ≠ some k → W'.heap[k]? = w.heap[k]? := by
  have bl : ∀ k, k < W.heap.size → gv.ownBlock ≠ some k → W'.heap[k]? = W.heap[k]? := fun k hk hn => hg.block k hk (fun e => by
    rcases hb k e.symm with h1 | h1
    · exact hn h1
    · omega)
  have s1 := (Array.getElem?_eq_some_iff.1 h.box).1
  have s2 := (Array.getElem?_eq_some_iff.1 h.res).1
  refine ⟨(bl _ s1 (Mkd.ne25 h.gates h.box (by decide))).trans h.box, (bl _ s2 (Mkd.ne25 h.gates h.res (by decide))).trans h.res, own_same h.outs (fun k hk => bl k (h.outs.lt k hk).2 (fun e => h.neGO e hk)), ⟨hg.os.trans h.b0.os, hg.tape.trans h.b0.tape, hg.output.trans h.b0.output, Nat.le_trans h.b0.size hg.size, fun k hk => by omega⟩, fun k hk h1 h2 => ?_⟩
  refine (bl k (Nat.lt_of_lt_of_le hk h.b0.size) (fun e => ?_)).trans (h.kept k hk h1 h2)
  rcases h.gb k e with h3 | h3
  · exact h1 h3
  · omega
theorem Mkd.turnO (h : Mkd w W B g0 o0 nm gv ov gs os) {W' : World} {b : Option Nat} (hg : W.grownBy W' b) (hb : ∀ k, b = some k → ov.ownBlock = some k ∨ W.heap.size ≤ k) :
    W'.heap[w.heap.size]? = some (.cells #[.string nm, gv, ov] 25 (0, 0)) ∧ W'.heap[w.heap.size + 1]? = some (.cells #[.string ⟨#[]⟩, .slice none 0 0, .slice none 0 0] 25 (0, 0)) ∧ W'.ownsRow B 57 6 gv gs.length (gas gs) ∧ Below 0 w W' ∧ ∀ k, k < w.heap.size → g0 ≠ some k → o0 ≠ some k → W'.heap[k]? = w.heap[k]? := by
  have bl : ∀ k, k < W.heap.size → ov.ownBlock ≠ some k → W'.heap[k]? = W.heap[k]? := fun k hk hn => hg.block k hk (fun e => by
    rcases hb k e.symm with h1 | h1
    · exact hn h1
    · omega)
  have s1 := (Array.getElem?_eq_some_iff.1 h.box).1
  have s2 := (Array.getElem?_eq_some_iff.1 h.res).1
  refine ⟨(bl _ s1 (Mkd.ne25 h.outs h.box (by decide))).trans h.box, (bl _ s2 (Mkd.ne25 h.outs h.res (by decide))).trans h.res, own_same h.gates (fun k hk => bl k (h.gates.lt k hk).2 (fun e => h.neGO hk e)), ⟨hg.os.trans h.b0.os, hg.tape.trans h.b0.tape, hg.output.trans h.b0.output, Nat.le_trans h.b0.size hg.size, fun k hk => by omega⟩, fun k hk h1 h2 => ?_⟩
  refine (bl k (Nat.lt_of_lt_of_le hk h.b0.size) (fun e => ?_)).trans (h.kept k hk h1 h2)
  rcases h.ob k e with h3 | h3
  · exact h2 h3
  · omega
/-- a line is written over. -/
theorem Mkd.line (h : Mkd w W B g0 o0 nm gv ov gs os) {g c j : Nat} (hv : gv = .slice (some ⟨g, 0, none⟩) gs.length c) (hj : j < gs.length) (y : Ga) : Mkd w (putGa W g j y) B g0 o0 nm gv ov (gs.set j y) os := by
  have hob : gv.ownBlock = some g := by rw [hv]; rfl
  have b0 := putGa_below (Below.refl 0 W) g j y (Nat.zero_le _)
  have hg : W.grownBy (putGa W g j y) (some g) := ⟨b0.os, b0.tape, b0.output, b0.size, fun k _ hn => putGa_other W g j y k (fun e => hn (by rw [e]))⟩
  obtain ⟨t1, t2, t3, t4, t5⟩ := h.turnG hg (fun k e => .inl (by rw [hob]; exact e))
  exact ⟨t1, t2, by rw [List.length_set]; exact own_put h.gates hv hj y, t3, h.gb, h.ob, t4, t5⟩
/-- an output is written over. -/
theorem Mkd.out (h : Mkd w W B g0 o0 nm gv ov gs os) {g c j : Nat} (hv : ov = .slice (some ⟨g, 0, none⟩) os.length c) (p : Int) : Mkd w (W.setCell ⟨g, j, none⟩ (.int .i64 p)) B g0 o0 nm gv ov gs (os.set j p) := by
  have hob : ov.ownBlock = some g := by rw [hv]; rfl
  obtain ⟨o1, g1⟩ := ShfKit.own_set (j := j) h.outs hv (.int .i64 p)
  obtain ⟨t1, t2, t3, t4, t5⟩ := h.turnO g1 (fun k e => .inl e)
  exact ⟨t1, t2, t3, by rw [List.length_set, nu, List.map_set]; exact o1, h.gb, h.ob, t4, t5⟩
theorem Mkd.alloc (h : Mkd w W B g0 o0 nm gv ov gs os) (o : Obj) : Mkd w (W.alloc o) B g0 o0 nm gv ov gs os := by
  have b : Below W.heap.size W (W.alloc o) := (Below.refl _ _).alloc (Nat.le_refl _) _
  have s1 := (Array.getElem?_eq_some_iff.1 h.box).1
  have s2 := (Array.getElem?_eq_some_iff.1 h.res).1
  exact ⟨(b.block _ s1).trans h.box, (b.block _ s2).trans h.res, ownsRow_below h.gates b, ownsRow_below h.outs b, h.gb, h.ob, h.b0.trans (b.mono (Nat.zero_le _)), fun k hk h1 h2 => (b.block k (Nat.lt_of_lt_of_le hk h.b0.size)).trans (h.kept k hk h1 h2)⟩
/-- a line is appended, and the list is put back. -/
theorem Mkd.gate (h : Mkd w W B g0 o0 nm gv ov gs os) {v' : Value} {W' : World} (g : Ga) (o4 : W'.ownsRow B 57 6 v' (gs.length + 1) (gas gs ++ ga g)) (f4 : Far W W' gv v') :
    W'.heap[w.heap.size]? = some (.cells #[.string nm, gv, ov] 25 (0, 0)) ∧ Mkd w (W'.setCell ⟨w.heap.size, 1, none⟩ v') B g0 o0 nm v' ov (gs ++ [g]) os := by
  obtain ⟨t1, t2, t3, t4, t5⟩ := h.turnG f4.grown (fun k e => .inl e)
  refine ⟨t1, ?_⟩
  have far : ∀ k, k ≠ w.heap.size → (W'.setCell ⟨w.heap.size, 1, none⟩ v').heap[k]? = W'.heap[k]? := fun k hk => Below.heap_setCell W' ⟨w.heap.size, 1, none⟩ v' k hk
  refine ⟨(row_set t1).trans rfl, (far _ (by omega)).trans t2, ?_, own_same t3 (fun k hk => far k (fun e => Mkd.ne25 t3 t1 (by decide) (e ▸ hk))), fun k hk => ?_, h.ob, t4.setCell (p := ⟨w.heap.size, 1, none⟩) (Nat.zero_le _) _, fun k hk h1 h2 => (far k (by omega)).trans (t5 k hk h1 h2)⟩
  · rw [gas_snoc, List.length_append]
    exact own_same o4 (fun k hk => far k (fun e => Mkd.ne25 o4 t1 (by decide) (e ▸ hk)))
  · rcases f4.blk k hk with h1 | h1
    · exact h.gb k h1
    · exact .inr (Nat.le_trans h.b0.size h1)
theorem Mkd.outp (h : Mkd w W B g0 o0 nm gv ov gs os) {v' : Value} {W' : World} (p : Int) (o4 : W'.ownsRow B 3 1 v' (os.length + 1) (nu os ++ [.int .i64 p])) (f4 : Far W W' ov v') :
    W'.heap[w.heap.size]? = some (.cells #[.string nm, gv, ov] 25 (0, 0)) ∧ Mkd w (W'.setCell ⟨w.heap.size, 2, none⟩ v') B g0 o0 nm gv v' gs (os ++ [p]) := by
  obtain ⟨t1, t2, t3, t4, t5⟩ := h.turnO f4.grown (fun k e => .inl e)
  refine ⟨t1, ?_⟩
  have far : ∀ k, k ≠ w.heap.size → (W'.setCell ⟨w.heap.size, 2, none⟩ v').heap[k]? = W'.heap[k]? := fun k hk => Below.heap_setCell W' ⟨w.heap.size, 2, none⟩ v' k hk
  refine ⟨(row_set t1).trans rfl, (far _ (by omega)).trans t2, own_same t3 (fun k hk => far k (fun e => Mkd.ne25 t3 t1 (by decide) (e ▸ hk))), ?_, h.gb, fun k hk => ?_, t4.setCell (p := ⟨w.heap.size, 2, none⟩) (Nat.zero_le _) _, fun k hk h1 h2 => (far k (by omega)).trans (t5 k hk h1 h2)⟩
  · have e : nu (os ++ [p]) = nu os ++ [.int .i64 p] := by simp [nu]
    rw [e, List.length_append]
    exact own_same o4 (fun k hk => far k (fun e => Mkd.ne25 o4 t1 (by decide) (e ▸ hk)))
  · rcases f4.blk k hk with h1 | h1
    · exact h.ob k h1
    · exact .inr (Nat.le_trans h.b0.size h1)
/-- what marked leaves. -/
structure Mked (w W : World) (B : Nat) (g0 o0 : Option Nat) (gv ov : Value) (gs : List Ga) (os : List Int) : Prop where
  gates : W.ownsRow B 57 6 gv gs.length (gas gs)
  outs : W.ownsRow B 3 1 ov os.length (nu os)
  gb : ∀ k, gv.ownBlock = some k → g0 = some k ∨ w.heap.size ≤ k
  ob : ∀ k, ov.ownBlock = some k → o0 = some k ∨ w.heap.size ≤ k
  b0 : Below 0 w W
  kept : ∀ k, k < w.heap.size → g0 ≠ some k → o0 ≠ some k → W.heap[k]? = w.heap[k]?
theorem Mkd.told (h : Mkd w W B g0 o0 nm gv ov gs os) {W' : World} (hW : W' = ((W.setCell ⟨w.heap.size + 1, 0, none⟩ (.string nm)).setCell ⟨w.heap.size + 1, 1, none⟩ gv).setCell ⟨w.heap.size + 1, 2, none⟩ ov) :
    (∀ j, W'.cell? ⟨w.heap.size + 1, j, none⟩ = (#[.string nm, gv, ov] : Array Value)[j]?) ∧ Mked w W' B g0 o0 gv ov gs os := by
  have r1 := row_set (i := 2) (u := ov) (row_set (i := 1) (u := gv) (row_set (i := 0) (u := .string nm) h.res))
  have far : ∀ k, k ≠ w.heap.size + 1 → W'.heap[k]? = W.heap[k]? := fun k hk => by
    rw [hW, Below.heap_setCell _ _ _ _ (show k ≠ w.heap.size + 1 from hk), Below.heap_setCell _ _ _ _ (show k ≠ w.heap.size + 1 from hk), Below.heap_setCell _ _ _ _ (show k ≠ w.heap.size + 1 from hk)]
  refine ⟨fun j => by rw [hW]; exact cell_row r1 j, ?_⟩
  refine ⟨own_same h.gates (fun k hk => far k (fun e => Mkd.ne25 h.gates h.res (by decide) (e ▸ hk))), own_same h.outs (fun k hk => far k (fun e => Mkd.ne25 h.outs h.res (by decide) (e ▸ hk))), h.gb, h.ob, ?_, fun k hk h1 h2 => (far k (by omega)).trans (h.kept k hk h1 h2)⟩
  rw [hW]
  exact ((h.b0.setCell (p := ⟨w.heap.size + 1, 0, none⟩) (Nat.zero_le _) _).setCell (p := ⟨w.heap.size + 1, 1, none⟩) (Nat.zero_le _) _).setCell (p := ⟨w.heap.size + 1, 2, none⟩) (Nat.zero_le _) _
end
end Go.Proofs.YtfmmmhcpdinhgabDoor
/-
  The law's marked, walked.
-/
namespace Go.Proofs.YtfmmmhcpdinhgabDoor
open Go.RowKit Go.Deep PureNet PureRd
set_option maxRecDepth 100000

/-- the first i are m, the others are as they were. -/
def mkUp {α : Type} (m : α) (i : Nat) (l : List α) : List α := List.replicate i m ++ l.drop i
theorem mkUp_len {α : Type} (m : α) (i : Nat) (l : List α) (hi : i ≤ l.length) : (mkUp m i l).length = l.length := by simp [mkUp]; omega
theorem mkUp_step {α : Type} (m : α) (i : Nat) (l : List α) (hi : i < l.length) : (mkUp m i l).set i m = mkUp m (i + 1) l := by
  unfold mkUp
  rw [List.drop_eq_getElem_cons hi, List.set_append_right _ _ (by simp), List.length_replicate, Nat.sub_self, List.set_cons_zero, List.replicate_succ', List.append_assoc]
  rfl
theorem mkUp_all {α : Type} (m : α) (l : List α) : mkUp m l.length l = List.replicate l.length m := by simp [mkUp]
theorem own_there {W : World} {B n : Nat} {gs : List Ga} {gv : Value} (h : W.ownsRow B 57 6 gv n (gas gs)) (j : Nat) (hj : j < gs.length) : ∃ g c, gv = .slice (some ⟨g, 0, none⟩) n c ∧ g < W.heap.size ∧ W.there g (j * 6) 6 := by
  have at_ : ∀ jj, jj < 6 → (gas gs)[j * 6 + jj]? = some ((ga gs[j])[jj]?.getD undef) := fun jj hjj => by
    rw [gas_at gs j jj hj hjj]
    have hl : (ga gs[j]).length = 6 := rfl
    rw [List.getElem?_eq_getElem (by omega)]
    rfl
  obtain ⟨g, c, h1, h2, h3, _⟩ := ShfKit.own_cell h (at_ 0 (by omega))
  refine ⟨g, c, h1, h3, fun jj hjj => ?_⟩
  obtain ⟨g', c', h1', h2', h3', h4', h5'⟩ := ShfKit.own_cell h (at_ jj hjj)
  rw [h1] at h1'
  simp only [Value.slice.injEq, Option.some.injEq, Addr.mk.injEq, and_true, true_and] at h1'
  rw [h1'.1, h4']
  exact ⟨rfl, h5'⟩
theorem size57 : (Tryd.prog.info? 57).map (·.size) = some 6 := by kernel_rfl
theorem ga_one (g : Ga) : ∀ u ∈ ga g, u.oneCell' = true := fun u hu => by
  simp only [ga, List.mem_cons, List.not_mem_nil, or_false] at hu
  rcases hu with rfl | rfl | rfl | rfl | rfl | rfl <;> rfl

theorem one_cells (k : Int) (s : ByteArray) (a b c d : Int) : (#[Value.int .i64 k, .string s, .int .i64 a, .int .i64 b, .int .i64 c, .int .i64 d] : Array Value).all (·.oneCell') = true := by
  rw [← Array.all_toList]
  rfl

set_option maxHeartbeats 4000000 in
theorem marked_any (nm : ByteArray) (gs : List Ga) (os : List Int) (v : Int) (gv ov : Value) (B : Nat) (w : World) (hg : w.ownsRow B 57 6 gv gs.length (gas gs)) (ho : w.ownsRow B 3 1 ov os.length (nu os)) (hB : B ≤ w.heap.size) (hl : gs.length ≤ 1048576) (hlo : os.length ≤ 1048576) (hv : -100 ≤ v ∧ v ≤ 100) :
    Calls Tryd.prog 7 #[.agg #[.string nm, gv, ov], .int .i64 v] w fun e W => ∃ gv' ov', e = .returned (.agg #[.string nm, gv', ov']) ∧ Mked w W B gv.ownBlock ov.ownBlock gv' ov' (List.replicate gs.length (gaM v) ++ List.replicate 8 (gaM (v + 1))) (List.replicate os.length v ++ List.replicate 8 (v + 1)) := by
  obtain ⟨W0, hW0⟩ : ∃ W0, W0 = (w.alloc (.cells #[.string nm, gv, ov] 25)).alloc (.cells #[.string ⟨#[]⟩, .slice none 0 0, .slice none 0 0] 25) := ⟨_, rfl⟩
  have ST := hid (Mkd.start (nm := nm) hg ho hW0)
  have HW0 := hid hW0
  obtain ⟨g0, hg0⟩ : ∃ g0, g0 = gv.ownBlock := ⟨_, rfl⟩
  obtain ⟨o0, ho0⟩ : ∃ o0, o0 = ov.ownBlock := ⟨_, rfl⟩
  rw [← hg0, ← ho0] at ST ⊢
  obtain ⟨sg, cg, rfl⟩ := own_shape hg
  obtain ⟨so, co, rfl⟩ := own_shape ho
  obtain ⟨n, hn⟩ : ∃ n, n = gs.length := ⟨_, rfl⟩
  obtain ⟨m, hm⟩ : ∃ m, m = os.length := ⟨_, rfl⟩
  have hl2 : n ≤ 1048576 := by omega
  have hlo2 : m ≤ 1048576 := by omega
  have w1 : IntKind.i64.wrap (v + 1) = v + 1 := by rw [IntKind.wrap_i64]; omega
  rw [← hn, ← hm] at ST HW0 ⊢
  have HB := hid hB
  have HN := hid hn
  have HM := hid hm
  clear hg ho hW0 hg0 ho0 hn hm hl hlo hv hB
  go_enter Tryd.func7, Tryd.ntmps7
  go_wp2_with (rw [← HW0.out]; clear HW0)
  go_loopw [5] (fun iv W => Hid (∃ i : Nat, iv = .int .i64 (i : Int) ∧ i ≤ n ∧ Mkd w W B g0 o0 nm (.slice sg n cg) (.slice so m co) (mkUp (gaM v) i gs) os)) (fun iv _ => match iv with | .int _ i => n + 1 - i.toNat | _ => 0)
  case atStart => exact ⟨0, rfl, Nat.zero_le _, ST.out⟩
  case round =>
    clear ST
    obtain ⟨W1, hW1⟩ : ∃ W1, W1 = wr := ⟨_, rfl⟩
    rw [← hW1] at hrel ⊢
    clear hW1
    obtain ⟨i, rfl, hin, hmk⟩ := hrel.out
    clear hrel
    have MK := hid hmk
    have c1 := fun j => cell_row hmk.box j
    have hs1 := (Array.getElem?_eq_some_iff.1 hmk.box).1
    have hil : i < n ∨ i = n := by omega
    rcases hil with hlt | hlt
    · have hilt : i < (mkUp (gaM v) i gs).length := by rw [mkUp_len _ _ _ (by rw [← HN.out]; exact hin), ← HN.out]; exact hlt
      obtain ⟨g, c, hgv, hgs, hth⟩ := own_there hmk.gates i hilt
      have hgv2 := hgv
      rw [mkUp_len _ _ _ (by rw [← HN.out]; exact hin), ← HN.out] at hgv2
      simp only [Value.slice.injEq, true_and] at hgv2
      obtain ⟨rfl, rfl⟩ := hgv2
      have NX := hid (hmk.line hgv hilt (gaM v))
      rw [mkUp_step _ _ _ (by rw [← HN.out]; exact hlt)] at NX
      have TH := hid hth
      have hlt1 : (i : Int) < (n : Int) := by omega
      have v1 : IntKind.i64.wrap ((i : Int) + 1) = (i : Int) + 1 := by rw [IntKind.wrap_i64]; omega
      clear hmk hgv hth hilt
      go_wp2_with ((with_reducible show wpList _ _ _ (Oper.mk _ (Op.store 57 _ _) _ _ _ _ :: _) _ _); refine wpList_store_mid rfl 57 _ _ rfl g (i * 6) #[.int .i64 v, .string ⟨#[]⟩, .int .i64 0, .int .i64 0, .int .i64 0, .int .i64 0] rfl rfl TH.out size57 (one_cells _ _ _ _ _ _) ?_; rw [show W1.setCells g (i * 6) (#[.int .i64 v, .string ⟨#[]⟩, .int .i64 0, .int .i64 0, .int .i64 0, .int .i64 0] : Array Value).toList = putGa W1 g i (gaM v) from rfl])
      refine ⟨⟨i + 1, by go_num, by omega, NX.out⟩, ?_⟩
      show n + 1 - ((i : Int) + 1).toNat < n + 1 - (i : Int).toNat
      omega
    · have hlt1 : ¬ (i : Int) < (n : Int) := by omega
      have ST2 : Hid (Mkd w W1 B g0 o0 nm (.slice sg n cg) (.slice so m co) (List.replicate n (gaM v)) os) := by
        have h1 := MK.out
        rw [hlt, HN.out, mkUp_all, ← HN.out] at h1
        exact h1
      clear hmk MK hin hlt
      go_wp2_with fail
      go_loopw [6] (fun iv W => Hid (∃ i : Nat, iv = .int .i64 (i : Int) ∧ i ≤ m ∧ Mkd w W B g0 o0 nm (.slice sg n cg) (.slice so m co) (List.replicate n (gaM v)) (mkUp v i os))) (fun iv _ => match iv with | .int _ i => m + 1 - i.toNat | _ => 0)
      case atStart => exact ⟨0, rfl, Nat.zero_le _, ST2.out⟩
      case round =>
        clear ST2 c1 hs1 hlt1
        obtain ⟨W2, hW2⟩ : ∃ W2, W2 = wr := ⟨_, rfl⟩
        rw [← hW2] at hrel ⊢
        clear hW2
        obtain ⟨q, rfl, hin, hmk⟩ := hrel.out
        clear hrel
        have MK := hid hmk
        have c1 := fun j => cell_row hmk.box j
        have hs1 := (Array.getElem?_eq_some_iff.1 hmk.box).1
        have hil : q < m ∨ q = m := by omega
        rcases hil with hlt | hlt
        · have hln : (mkUp v q os).length = m := by rw [mkUp_len _ _ _ (by rw [← HM.out]; exact hin), ← HM.out]
          obtain ⟨z, hz⟩ : ∃ z, (nu (mkUp v q os))[q]? = some z := ⟨_, List.getElem?_eq_getElem (by rw [nu, List.length_map, hln]; exact hlt)⟩
          obtain ⟨g, c, hov, _, hgs, k1, k2⟩ := ShfKit.own_cell hmk.outs hz
          have hov2 := hov
          rw [hln] at hov2
          simp only [Value.slice.injEq, true_and] at hov2
          obtain ⟨rfl, rfl⟩ := hov2
          have NX := hid (hmk.out (j := q) hov v)
          rw [mkUp_step _ _ _ (by rw [← HM.out]; exact hlt)] at NX
          have hlt1 : (q : Int) < (m : Int) := by omega
          have v1 : IntKind.i64.wrap ((q : Int) + 1) = (q : Int) + 1 := by rw [IntKind.wrap_i64]; omega
          clear hmk hov hz hln
          go_wp2_with fail
          refine ⟨⟨q + 1, by go_num, by omega, NX.out⟩, ?_⟩
          show m + 1 - ((q : Int) + 1).toNat < m + 1 - (q : Int).toNat
          omega
        · have hlt1 : ¬ (q : Int) < (m : Int) := by omega
          have ST3 : Hid (Mkd w W2 B g0 o0 nm (.slice sg n cg) (.slice so m co) (List.replicate n (gaM v)) (List.replicate m v)) := by
            have h1 := MK.out
            rw [hlt, HM.out, mkUp_all, ← HM.out] at h1
            exact h1
          clear hmk MK hin hlt
          go_wp2_with fail
          go_loopw [7] (fun iv W => Hid (∃ (i : Nat) (gv ov : Value), iv = .int .i64 (i : Int) ∧ i ≤ 8 ∧ Mkd w W B g0 o0 nm gv ov (List.replicate n (gaM v) ++ List.replicate i (gaM (v + 1))) (List.replicate m v ++ List.replicate i (v + 1)))) (fun iv _ => match iv with | .int _ i => 8 + 1 - i.toNat | _ => 0)
          case atStart => exact ⟨0, _, _, rfl, Nat.zero_le _, by rw [List.replicate_zero, List.replicate_zero, List.append_nil, List.append_nil]; exact ST3.out⟩
          case round =>
            clear ST3 c1 hs1 hlt1
            obtain ⟨W3, hW3⟩ : ∃ W3, W3 = wr := ⟨_, rfl⟩
            rw [← hW3] at hrel ⊢
            clear hW3
            obtain ⟨i3, gv, ov, rfl, hin, hmk⟩ := hrel.out
            clear hrel
            obtain ⟨G3, hG3⟩ : ∃ G3, G3 = List.replicate n (gaM v) ++ List.replicate i3 (gaM (v + 1)) := ⟨_, rfl⟩
            obtain ⟨O3, hO3⟩ : ∃ O3, O3 = List.replicate m v ++ List.replicate i3 (v + 1) := ⟨_, rfl⟩
            rw [← hG3, ← hO3] at hmk
            obtain ⟨sx, cx, rfl⟩ := own_shape hmk.gates
            obtain ⟨sy, cy, rfl⟩ := own_shape hmk.outs
            have lg : G3.length ≤ 1048584 := by rw [hG3, List.length_append, List.length_replicate, List.length_replicate]; omega
            have lo : O3.length ≤ 1048584 := by rw [hO3, List.length_append, List.length_replicate, List.length_replicate]; omega
            have MK := hid hmk
            have HG3 := hid hG3
            have HO3 := hid hO3
            have c1 := fun j => cell_row hmk.box j
            have hs1 := (Array.getElem?_eq_some_iff.1 hmk.box).1
            have hsB : Hid (B ≤ W3.heap.size) := Nat.le_trans HB.out hmk.b0.size
            have hil : i3 < 8 ∨ i3 = 8 := by omega
            rcases hil with hlt | hlt
            · have hlt1 : (i3 : Int) < 8 := by omega
              have v1 : IntKind.i64.wrap ((i3 : Int) + 1) = (i3 : Int) + 1 := by rw [IntKind.wrap_i64]; omega
              clear hmk hG3 hO3
              go_wp2_with (first
                | (rw [← HW7.out])
                | (rw [← HW5.out])
                | (have q := M5; clear q; at_builtin; refine wpl_one rfl _ _ 23 rfl B 3 _ 1 8 Tryd.underlying23 info3 rfl (by decide) (.slice sy O3.length cy) O3.length (nu O3) rfl M5.out.outs [.int .i64 (v + 1)] 3 _ rfl rfl rfl (fun u hu => by simp at hu; subst hu; rfl) (by omega) (by omega) (Nat.le_trans HB.out M5.out.b0.size) ?_; intro v6 w6 o6 g6; obtain ⟨sv6, cv6, rfl⟩ := own_shape o6; obtain ⟨t6, m6⟩ := (M5.out.alloc _).outp (v + 1) o6 g6; have c6 := fun j => cell_row t6 j; have f6 := fun j => unfrozen_row t6 j; have hb6 := (Array.getElem?_eq_some_iff.1 t6).1; obtain ⟨W7, hW7⟩ : ∃ W7, W7 = w6.setCell ⟨w.heap.size, 2, none⟩ (.slice sv6 (O3.length + 1) cv6) := ⟨_, rfl⟩; rw [← hW7] at m6; have HW7 := hid hW7; have M7 := hid m6; clear o6 g6 t6 m6 hW7)
                | (at_builtin; refine wpl_one rfl _ _ 22 rfl B 57 _ 6 56 Tryd.underlying22 info38 rfl (by decide) (.slice sx G3.length cx) G3.length (gas G3) rfl MK.out.gates [.int .i64 (v + 1), .string ⟨#[]⟩, .int .i64 0, .int .i64 0, .int .i64 0, .int .i64 0] 57 _ rfl rfl rfl (ga_one (gaM (v + 1))) (by omega) (by omega) hsB.out ?_; intro v4 w4 o4 g4; obtain ⟨sv4, cv4, rfl⟩ := own_shape o4; obtain ⟨t4, m4⟩ := (MK.out.alloc _).gate (gaM (v + 1)) o4 g4; have c4 := fun j => cell_row t4 j; have f4 := fun j => unfrozen_row t4 j; have hb4 := (Array.getElem?_eq_some_iff.1 t4).1; obtain ⟨W5, hW5⟩ : ∃ W5, W5 = w4.setCell ⟨w.heap.size, 1, none⟩ (.slice sv4 (G3.length + 1) cv4) := ⟨_, rfl⟩; rw [← hW5] at m4; have HW5 := hid hW5; have M5 := hid m4; have c5 := fun j => cell_row m4.box j; have hb5 := (Array.getElem?_eq_some_iff.1 m4.box).1; clear o4 g4 t4 m4 hW5))
              have eG : G3 ++ [gaM (v + 1)] = List.replicate n (gaM v) ++ List.replicate (i3 + 1) (gaM (v + 1)) := by rw [HG3.out, List.append_assoc, ← List.replicate_succ']
              have eO : O3 ++ [v + 1] = List.replicate m v ++ List.replicate (i3 + 1) (v + 1) := by rw [HO3.out, List.append_assoc, ← List.replicate_succ']
              have h7 := M7.out
              rw [eG, eO] at h7
              refine ⟨⟨i3 + 1, _, _, by go_num, by omega, h7⟩, ?_⟩
              show 8 + 1 - ((i3 : Int) + 1).toNat < 8 + 1 - (i3 : Int).toNat
              omega
            · have hlt1 : ¬ (i3 : Int) < 8 := by omega
              subst hlt
              have c2 := fun j => cell_row hmk.res j
              have f2 := fun j => unfrozen_row hmk.res j
              have hs2 := (Array.getElem?_eq_some_iff.1 hmk.res).1
              have ne : w.heap.size ≠ w.heap.size + 1 := by omega
              have ne' : w.heap.size + 1 ≠ w.heap.size := by omega
              clear hmk hG3 hO3
              go_wp2_with fail
              obtain ⟨z, m9⟩ := MK.out.told rfl
              have z0 := z 0
              have z1 := z 1
              have z2 := z 2
              refine bodyPost_ret (v := .agg #[.string nm, .slice sx G3.length cx, .slice sy O3.length cy]) (by simp [results, Tryd.results7, go_sem, z0, z1, z2]) rfl ⟨_, _, rfl, ?_⟩
              show Mked w _ B g0 o0 _ _ (List.replicate n (gaM v) ++ List.replicate 8 (gaM (v + 1))) (List.replicate m v ++ List.replicate 8 (v + 1))
              rw [← HG3.out, ← HO3.out]
              exact m9
end Go.Proofs.YtfmmmhcpdinhgabDoor
