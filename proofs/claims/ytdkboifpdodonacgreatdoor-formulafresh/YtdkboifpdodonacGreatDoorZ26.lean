import Derived.Test.YtdkboifpdodonacGreatDoorZ25
set_option linter.unusedSimpArgs false
/-
 The landed program's readClauses.
-/
namespace Go.Proofs.YtdkboifpdodonacGreatDoor
open Go.RowKit Go.Deep PureCnf
set_option maxRecDepth 100000

theorem Res.under {w WA W : World} (h : Res w WA) (hb : Below (w.heap.size + 2) WA W) : Res w W :=
 ⟨(hb.block _ (by omega)).trans h.r0, (hb.block _ (by omega)).trans h.r1, h.below.trans (hb.mono (by omega))⟩

/-- the two lists as rows of their own. -/
structure RowsO (W : World) (base : Nat) (ve vl : Value) (E L : List Int) : Prop where
 oe : W.ownsRow base 3 1 ve E.length (ci E)
 ol : W.ownsRow base 3 1 vl L.length (ci L)
 apart : ve.ownBlock = none ∨ ve.ownBlock ≠ vl.ownBlock
theorem RowsO.store {W : World} {base b i : Nat} {v ve vl : Value} {E L : List Int} (h : RowsO W base ve vl E L) (hb : b < base) : RowsO (W.setCell ⟨b, i, none⟩ v) base ve vl E L := ⟨ownsRow_store h.oe hb, ownsRow_store h.ol hb, h.apart⟩
theorem RowsO.mono {W : World} {base b2 : Nat} {ve vl : Value} {E L : List Int} (h : RowsO W base ve vl E L) (hb : b2 ≤ base) : RowsO W b2 ve vl E L := ⟨ShfKit.own_base h.oe hb, ShfKit.own_base h.ol hb, h.apart⟩
theorem RowsO.on {W W' : World} {base : Nat} {ve vl : Value} {E L : List Int} (h : RowsO W base ve vl E L) (hb : Below W.heap.size W W') : RowsO W' base ve vl E L := ⟨ownsRow_below h.oe hb, ownsRow_below h.ol hb, h.apart⟩
/-- what readClauses answers: a fault that is told, or the clauses. -/
def ReadC (l : List UInt8) (base : Nat) (e : Ending) (w' : World) : Prop :=
 (∃ (c : Int) (at_ : Nat), c ≠ 0 ∧ parseN l = .error (c, some at_) ∧ e = .returned (.tuple #[cnfV 0 none 0 0 none 0 0, faultV c (spotN (l.take at_))])) ∨
 ∃ (V : Int) (E L : List Int), parseN l = .ok (V, E, L) ∧ ∃ se ce sl cl, e = .returned (.tuple #[cnfV V se E.length ce sl L.length cl, faultV 0 (0, 0)]) ∧ Own w' base se E ∧ Own w' base sl L ∧ E.length ≤ ce ∧ L.length ≤ cl ∧ RowsO w' base (.slice se E.length ce) (.slice sl L.length cl) E L

set_option maxHeartbeats 4000000 in
set_option maxRecDepth 100000 in
theorem readClauses_any (s : ByteArray) (w : World) (hs : s.size ≤ 1048576) :
  Calls Tryz.prog 16 #[.string s] w fun e w' => ReadC s.data.toList w.heap.size e w' ∧ Below w.heap.size w w' := by
 obtain ⟨WA, hWA⟩ : ∃ WA, WA = (w.alloc (Obj.cells #[.int .i64 0, .slice none 0 0, .slice none 0 0] 33 (0, 0))).alloc (Obj.cells #[.int .i64 0, .int .i64 0, .int .i64 0] 28 (0, 0)) := ⟨_, rfl⟩
 have hr : Res w WA := by
  rw [hWA]
  refine ⟨(Below.heap_alloc _ _ _ (by simp)).trans (heap_alloc_new w _), ?_, ((Below.refl _ _).alloc (Nat.le_refl _) _).alloc (by simp) _⟩
  have := heap_alloc_new (w.alloc (Obj.cells #[.int .i64 0, .slice none 0 0, .slice none 0 0] 33 (0, 0))) (Obj.cells #[.int .i64 0, .int .i64 0, .int .i64 0] 28 (0, 0))
  simpa using this
 have hsz : WA.heap.size = w.heap.size + 2 := by rw [hWA]; simp
 obtain ⟨WB, hWB⟩ : ∃ WB, WB = WA.alloc (Obj.cells #[.int .i64 0, .slice none 0 0, .slice none 0 0, .bool false, .int .i64 0] 99 (0, 0)) := ⟨_, rfl⟩
 obtain ⟨b, hb⟩ : ∃ b, b = WA.heap.size := ⟨_, rfl⟩
 have hb2 : b = w.heap.size + 2 := by omega
 have hcl : Cl WA WB b 0 [] [] (.slice none 0 0) (.slice none 0 0) false 0 := by
  rw [hWB, hb]
  exact ⟨heap_alloc_new WA _, World.ownsRow_nil _ _ _ _, World.ownsRow_nil _ _ _ _, .inl rfl, (Below.refl _ _).alloc (Nat.le_refl _) _⟩
 obtain ⟨l, hl⟩ : ∃ l, l = s.data.toList := ⟨_, rfl⟩
 have hlen : l.length = s.size := by rw [hl]; simp
 have hS0 : Sofar l 0 0 0 0 [] [] false := ⟨fun _ => ⟨rfl, rfl, rfl, rfl, rfl⟩, fun h => Bool.noConfusion h⟩
 rw [← hl]
 have HR := hid hr
 have HWA := hid hWA
 have HWB := hid hWB
 have HCL := hid hcl
 have HS := hid hS0
 have HL := hid hl
 have HLEN := hid hlen
 have HSZ := hid hsz
 have HBB := hid hb
 have HB2 := hid hb2
 clear hWA hWB hr hcl hS0 hl hlen hsz hb hb2
 go_enter Tryz.func16, Tryz.ntmps16
 go_wp2_with (first | (rw [← HWA.out]) | (rw [← HWB.out]))
 rw [← HBB.out]
 go_loopw [5] (fun av W => ∃ i : Nat, av = .int .i64 i ∧ i ≤ s.size + 1 ∧ Hid (∃ line V C E L ve vl bg, Sofar l i line V C E L bg ∧ Cl WA W b V E L ve vl bg C)) (fun av _ => s.size + 1 - (intOf av).toNat)
 case atStart => exact ⟨0, rfl, Nat.zero_le _, 0, 0, 0, [], [], _, _, false, HS.out, HCL.out⟩
 case round =>
  obtain ⟨i, rfl, hi, HP⟩ := hrel
  obtain ⟨line, V, C, E, L, ve, vl, bg, hS, hCl⟩ := HP.out
  by_cases hlt : i < s.size
  ·have hil : i < l.length := by rw [HLEN.out]; exact hlt
   have hll : l.length ≤ 1048576 := by rw [HLEN.out]; exact hs
   obtain ⟨e, he⟩ : ∃ e, e = runW lineB l i l.length := ⟨_, rfl⟩
   have e0 : i ≤ e := by rw [he]; exact runW_ge _ _ _ _
   have e1 : e ≤ s.size := by rw [he, ← HLEN.out]; exact runW_le (by omega)
   have hx : (s.extract i s.size).data.toList = cutL l i l.length := by
    rw [Lib.extract_data, ← HL.out]
    unfold cutL
    rw [List.take_of_length_le (by rw [List.length_drop, HLEN.out]; omega), List.take_of_length_le (Nat.le_refl _)]
   have hxs : (s.extract i s.size).size ≤ 1099511627776 := by
    have : (s.extract i s.size).data.toList.length = (s.extract i s.size).size := by simp
    rw [hx, cutL_length (Nat.le_refl _)] at this
    omega
   have HCUT := hid (cut13 (s.extract i s.size) wr hxs)
   rw [hx, cutL_tw (Nat.le_refl _), ← he] at HCUT
   have HWD := fun W => hid (words_any l i e line W e0 (by rw [HLEN.out]; exact e1) (by omega))
   have HST := fun W (ve vl v : Value) (B : Nat) (h : Cl WA W b V E L ve vl bg C) (hr : WRow W B v (lineWords l i e line)) (hB : b < B) => hid (line_step l i line hil hll h (by rw [← he]; exact hr) hB hS)
   simp only [← he] at HST
   have hXl : (cutL l i e).length = e - i := cutL_length (by rw [HLEN.out]; exact e1)
   obtain ⟨X, hX⟩ : ∃ X, X = cutL l i e := ⟨_, rfl⟩
   rw [← hX] at HCUT hXl
   simp only [← hX] at HWD
   have HC0 := hid hCl
   clear hx hxs he hX hS hCl HP HS HCL hil hll
   go_wp2_with fail
   refine HCUT.out.mono ?_
   rintro x1 w1 ⟨⟨x, y, rfl⟩, b1⟩
   have HC1 := hid (HC0.out.on b1)
   clear b1 HC0
   go_wp2_with fail
   refine (HWD _).out.mono ?_
   rintro x2 w2 ⟨v, rfl, hv⟩
   have HC2 := hid (HC1.out.on hv.below)
   have hbs := HC1.out.size
   have HW2 := hid hv.own
   clear hv HC1
   go_wp2_with fail
   refine (HST _ _ _ _ _ HC2.out HW2.out (by omega)).out.mono ?_
   rintro x3 w3 ⟨c, at_, rfl, V', C', E', L', ve', vl', bg', hc3, hok, hno⟩
   have HC3 := hid hc3
   have HOK := hid hok
   have HNO := hid hno
   clear hc3 hok hno HC2 HW2 hbs HST HWD HCUT
   by_cases hc : c = 0
   ·have HS4 := hid (HOK.out hc)
    subst hc
    clear HOK HNO
    go_wp2_with fail
    go_roundw
    case rel =>
     refine ⟨e + 1, ?_, by omega, line + 1, V', C', E', L', ve', vl', bg', HS4.out, HC3.out⟩
     rw [show (i : Int) + (((e - i : Nat) : Int) + 1) = ((e + 1 : Nat) : Int) by omega]
    case measure => simp [intOf]; omega
   ·obtain ⟨hp, hat⟩ := HNO.out hc
    have HPE := hid hp
    have HNZ := hid hc
    have hc2 : (c != 0) = true := by simpa using hc
    rw [HLEN.out] at hat
    have HPL := fun W => hid (place16 s at_ W (by omega) hat)
    simp only [← HL.out] at HPL
    have HR3 := hid (HR.out.under (by rw [← HB2.out]; exact HC3.out.below))
    clear hp hc HOK HNO HC3
    go_wp2_with (go_at_call 41; refine (HPL _).out.mono ?_; rintro x4 w4 ⟨rfl, b4⟩; have hr4 := HR3.out.on b4; have c0 := fun j => cell_row hr4.r0 j; have c1 := fun j => cell_row hr4.r1 j; have f0 := fun j => unfrozen_row hr4.r0 j; have f1 := fun j => unfrozen_row hr4.r1 j; have HR4 := hid hr4; clear b4 hr4)
    exact bodyPost_ret (v := .tuple #[cnfV 0 none 0 0 none 0 0, .agg #[.int .i64 c, .int .i64 ((spotN (l.take at_)).1 : Int), .int .i64 ((spotN (l.take at_)).2 : Int)]]) (by simp [results, Tryz.results16, go_sem, c0, c1]) rfl ⟨.inl ⟨c, at_, HNZ.out, HPE.out, rfl⟩, ((((((HR4.out.below.setCell (p := ⟨w.heap.size, 0, none⟩) (by simp) _).setCell (p := ⟨w.heap.size, 1, none⟩) (by simp) _).setCell (p := ⟨w.heap.size, 2, none⟩) (by simp) _).setCell (p := ⟨w.heap.size + 1, 0, none⟩) (by simp) _).setCell (p := ⟨w.heap.size + 1, 1, none⟩) (by simp) _).setCell (p := ⟨w.heap.size + 1, 2, none⟩) (by simp) _)⟩
  ·have hpn : piecesFrom l i line = [] := piecesFrom_end (by rw [HLEN.out]; exact hlt)
   have hll : ¬ 1048576 < l.length := by rw [HLEN.out]; omega
   have HR3 := hid (HR.out.under (by rw [← HB2.out]; exact hCl.below))
   have HPL := fun W => hid (place16 s s.size W (by omega) (Nat.le_refl _))
   simp only [← HL.out] at HPL
   have hpos : ∀ (c : Int) (at_ : Nat), c ≠ 0 → at_ = s.size → parseN l = .error (c, some at_) → parseN l = .error (c, some s.size) := fun c a _ h1 h2 => by rw [h2, h1]
   obtain ⟨⟨se, ce, rfl, hce⟩, sl, cl, rfl, hcl⟩ := hCl.forms
   have d0 := fun j => cell_row hCl.row j
   cases bg with
   | false =>
    have hP : Hid (parseN l = .error (135, some s.size)) := by
     have h2 := (hS.no rfl).2.2.2.2
     rw [hpn] at h2
     refine hpos 135 l.length (by decide) HLEN.out (parseN_head (f := (135, l.length)) hll ?_)
     rw [h2]
     rfl
    clear hS hCl HP HS HCL hpn hll hpos
    go_wp2_with (go_at_call 41; refine (HPL _).out.mono ?_; rintro x4 w4 ⟨rfl, b4⟩; have hr4 := HR3.out.on b4; have c0 := fun j => cell_row hr4.r0 j; have c1 := fun j => cell_row hr4.r1 j; have f0 := fun j => unfrozen_row hr4.r0 j; have f1 := fun j => unfrozen_row hr4.r1 j; have HR4 := hid hr4; clear b4 hr4)
    exact bodyPost_ret (v := .tuple #[cnfV 0 none 0 0 none 0 0, .agg #[.int .i64 135, .int .i64 ((spotN (l.take s.size)).1 : Int), .int .i64 ((spotN (l.take s.size)).2 : Int)]]) (by simp [results, Tryz.results16, go_sem, c0, c1]) rfl ⟨.inl ⟨135, s.size, by decide, hP.out, rfl⟩, ((((((HR4.out.below.setCell (p := ⟨w.heap.size, 0, none⟩) (by simp) _).setCell (p := ⟨w.heap.size, 1, none⟩) (by simp) _).setCell (p := ⟨w.heap.size, 2, none⟩) (by simp) _).setCell (p := ⟨w.heap.size + 1, 0, none⟩) (by simp) _).setCell (p := ⟨w.heap.size + 1, 1, none⟩) (by simp) _).setCell (p := ⟨w.heap.size + 1, 2, none⟩) (by simp) _)⟩
   | true =>
    obtain ⟨a1, a2, a3, a4, a5, a6, op, a7, a8⟩ := hS.yes rfl
    rw [hpn] at a7
    by_cases hEC : (E.length : Int) < C
    ·have hP : Hid (parseN l = .error (135, some s.size)) := by
      refine hpos 135 l.length (by decide) HLEN.out (parseN_err (f := (135, l.length)) hll a1 ?_)
      rw [← a2, ← a3, a7, bodyRun, if_pos (.inr hEC)]
     have hEC2 : decide ((E.length : Int) < C) = true := by simpa using hEC
     clear hS hCl HP HS HCL hpn hll hpos a1 a2 a3 a5 a6 a7 a8
     go_wp2_with (go_at_call 41; refine (HPL _).out.mono ?_; rintro x4 w4 ⟨rfl, b4⟩; have hr4 := HR3.out.on b4; have c0 := fun j => cell_row hr4.r0 j; have c1 := fun j => cell_row hr4.r1 j; have f0 := fun j => unfrozen_row hr4.r0 j; have f1 := fun j => unfrozen_row hr4.r1 j; have HR4 := hid hr4; clear b4 hr4)
     exact bodyPost_ret (v := .tuple #[cnfV 0 none 0 0 none 0 0, .agg #[.int .i64 135, .int .i64 ((spotN (l.take s.size)).1 : Int), .int .i64 ((spotN (l.take s.size)).2 : Int)]]) (by simp [results, Tryz.results16, go_sem, c0, c1]) rfl ⟨.inl ⟨135, s.size, by decide, hP.out, rfl⟩, ((((((HR4.out.below.setCell (p := ⟨w.heap.size, 0, none⟩) (by simp) _).setCell (p := ⟨w.heap.size, 1, none⟩) (by simp) _).setCell (p := ⟨w.heap.size, 2, none⟩) (by simp) _).setCell (p := ⟨w.heap.size + 1, 0, none⟩) (by simp) _).setCell (p := ⟨w.heap.size + 1, 1, none⟩) (by simp) _).setCell (p := ⟨w.heap.size + 1, 2, none⟩) (by simp) _)⟩
    ·have hop : ¬ (op = true ∨ (E.length : Int) < C) := by
      rintro (h | h)
      ·exact hEC (a8 h)
      ·exact hEC h
     have hbr : bodyRun l.length V C ((piecesFrom l 0 0).drop 4) [] [] false = .ok (E, L) := by rw [a7, bodyRun, if_neg hop]
     have hP : Hid (parseN l = .ok (V, E, L)) := by
      show _ = _
      have := parseN_ok (x := (E, L)) hll a1 (by rw [← a2, ← a3]; exact hbr)
      rw [← a2] at this
      exact this
     have hwf := bodyRun_wf ((piecesFrom l 0 0).drop 4) [] [] false (by simp) (by simp) (by simp) hbr
     have IE := hid (ints_own hCl.oe hwf.1)
     have IL := hid (ints_own hCl.ol hwf.2)
     have IR : Hid (RowsO _ _ (.slice se E.length ce) (.slice sl L.length cl) E L) := ⟨hCl.oe, hCl.ol, hCl.apart⟩
     have hEC2 : decide ((E.length : Int) < C) = false := by simpa using hEC
     have c0 := fun j => cell_row HR3.out.r0 j
     have c1 := fun j => cell_row HR3.out.r1 j
     have f0 := fun j => unfrozen_row HR3.out.r0 j
     have f1 := fun j => unfrozen_row HR3.out.r1 j
     clear hS hCl HP HS HCL hpn hll hpos a1 a2 a3 a5 a6 a7 a8 hop hbr hwf
     go_wp2_with fail
     have hbb := HB2.out
     refine bodyPost_ret (v := .tuple #[cnfV V se E.length ce sl L.length cl, .agg #[.int .i64 0, .int .i64 0, .int .i64 0]]) (by simp [results, Tryz.results16, go_sem, c0, c1]) rfl ⟨.inr ⟨V, E, L, hP.out, se, ce, sl, cl, rfl, ?_, ?_, hce, hcl, ?_⟩, ((((((HR3.out.below.setCell (p := ⟨w.heap.size, 0, none⟩) (by simp) _).setCell (p := ⟨w.heap.size, 1, none⟩) (by simp) _).setCell (p := ⟨w.heap.size, 2, none⟩) (by simp) _).setCell (p := ⟨w.heap.size + 1, 0, none⟩) (by simp) _).setCell (p := ⟨w.heap.size + 1, 1, none⟩) (by simp) _).setCell (p := ⟨w.heap.size + 1, 2, none⟩) (by simp) _)⟩
     ·exact ((((((IE.out.store (by omega)).store (by omega)).store (by omega)).store (by omega)).store (by omega)).store (by omega)).mono (by omega)
     ·exact ((((((IL.out.store (by omega)).store (by omega)).store (by omega)).store (by omega)).store (by omega)).store (by omega)).mono (by omega)
     ·exact ((((((IR.out.store (by omega)).store (by omega)).store (by omega)).store (by omega)).store (by omega)).store (by omega)).mono (by omega)
end Go.Proofs.YtdkboifpdodonacGreatDoor
/-
 The landed program's ParseCnf: it reads just what the document's does.
-/
namespace Go.Proofs.YtdkboifpdodonacGreatDoor
open Go.RowKit Go.Deep PureCnf
set_option maxRecDepth 100000

theorem Own.on {W W' : World} {base : Nat} {sa : Option Addr} {l : List Int} (h : Own W base sa l) (hb : Below W.heap.size W W') : Own W' base sa l := ⟨h.ints.below hb, h.far⟩

/-- what reading a text answers, its lists as rows of their own. -/
def ParsedO (l : List UInt8) (base : Nat) (e : Ending) (w' : World) : Prop := match parseN l with
 | .error f => e = .returned (.tuple #[cnfV 0 none 0 0 none 0 0, faultOf l f])
 | .ok x => ∃ se ce sl cl, e = .returned (.tuple #[cnfV x.1 se x.2.1.length ce sl x.2.2.length cl, faultV 0 (0, 0)]) ∧ Own w' base se x.2.1 ∧ Own w' base sl x.2.2 ∧ x.2.1.length ≤ ce ∧ x.2.2.length ≤ cl ∧ RowsO w' base (.slice se x.2.1.length ce) (.slice sl x.2.2.length cl) x.2.1 x.2.2
theorem ParsedO.err {l : List UInt8} {base : Nat} {f : Int × Option Nat} {e : Ending} {w' : World} (h : parseN l = .error f) (he : e = .returned (.tuple #[cnfV 0 none 0 0 none 0 0, faultOf l f])) : ParsedO l base e w' := by
 unfold ParsedO; rw [h]; exact he

set_option maxHeartbeats 1000000 in
theorem own_long (s : ByteArray) (w : World) (h63 : s.size ≤ 9223372036854775807) (hs : 1048576 < s.size) :
  Calls Tryz.prog 6 #[.string s] w fun e w' => ParsedO s.data.toList w.heap.size e w' ∧ Below w.heap.size w w' := by
 have HP : Hid (parseN s.data.toList = .error (5, none)) := by
  show _ = _
  unfold parseN
  rw [if_pos (by simpa using hs)]
 obtain ⟨WA, hWA⟩ : ∃ WA, WA = (w.alloc (Obj.cells #[.int .i64 0, .slice none 0 0, .slice none 0 0] 33 (0, 0))).alloc (Obj.cells #[.int .i64 0, .int .i64 0, .int .i64 0] 28 (0, 0)) := ⟨_, rfl⟩
 have hr : Res w WA := by
  rw [hWA]
  refine ⟨(Below.heap_alloc _ _ _ (by simp)).trans (heap_alloc_new w _), ?_, ((Below.refl _ _).alloc (Nat.le_refl _) _).alloc (by simp) _⟩
  have := heap_alloc_new (w.alloc (Obj.cells #[.int .i64 0, .slice none 0 0, .slice none 0 0] 33 (0, 0))) (Obj.cells #[.int .i64 0, .int .i64 0, .int .i64 0] 28 (0, 0))
  simpa using this
 have c0 := fun j => cell_row hr.r0 j
 have c1 := fun j => cell_row hr.r1 j
 have f0 := fun j => unfrozen_row hr.r0 j
 have f1 := fun j => unfrozen_row hr.r1 j
 have HR := hid hr
 have HWA := hid hWA
 have hgt : (1048576 : Int) < (s.size : Int) := by omega
 clear hWA hr
 go_enter Tryz.func6, Tryz.ntmps6
 go_wp2_with (rw [← HWA.out])
 exact bodyPost_ret (v := .tuple #[cnfV 0 none 0 0 none 0 0, .agg #[.int .i64 5, .int .i64 0, .int .i64 0]]) (by simp [results, Tryz.results6, go_sem, c0, c1]) rfl ⟨ParsedO.err HP.out rfl, ((((((HR.out.below.setCell (p := ⟨w.heap.size, 0, none⟩) (by simp) _).setCell (p := ⟨w.heap.size, 1, none⟩) (by simp) _).setCell (p := ⟨w.heap.size, 2, none⟩) (by simp) _).setCell (p := ⟨w.heap.size + 1, 0, none⟩) (by simp) _).setCell (p := ⟨w.heap.size + 1, 1, none⟩) (by simp) _).setCell (p := ⟨w.heap.size + 1, 2, none⟩) (by simp) _)⟩

set_option maxHeartbeats 2000000 in
set_option maxRecDepth 100000 in
theorem own_short (s : ByteArray) (w : World) (hs : s.size ≤ 1048576) :
  Calls Tryz.prog 6 #[.string s] w fun e w' => ParsedO s.data.toList w.heap.size e w' ∧ Below w.heap.size w w' := by
 obtain ⟨WA, hWA⟩ : ∃ WA, WA = (w.alloc (Obj.cells #[.int .i64 0, .slice none 0 0, .slice none 0 0] 33 (0, 0))).alloc (Obj.cells #[.int .i64 0, .int .i64 0, .int .i64 0] 28 (0, 0)) := ⟨_, rfl⟩
 have hr : Res w WA := by
  rw [hWA]
  refine ⟨(Below.heap_alloc _ _ _ (by simp)).trans (heap_alloc_new w _), ?_, ((Below.refl _ _).alloc (Nat.le_refl _) _).alloc (by simp) _⟩
  have := heap_alloc_new (w.alloc (Obj.cells #[.int .i64 0, .slice none 0 0, .slice none 0 0] 33 (0, 0))) (Obj.cells #[.int .i64 0, .int .i64 0, .int .i64 0] 28 (0, 0))
  simpa using this
 have HR := hid hr
 have HWA := hid hWA
 have HRC := hid (readClauses_any s WA hs)
 have hle : (s.size : Int) ≤ 1048576 := by omega
 obtain ⟨l, hl⟩ : ∃ l, l = s.data.toList := ⟨_, rfl⟩
 rw [← hl] at HRC ⊢
 clear hWA hr hl
 go_enter Tryz.func6, Tryz.ntmps6
 go_wp2_with (first | (rw [← HWA.out]))
 refine HRC.out.mono ?_
 rintro x w1 ⟨hrc, b1⟩
 have hr1 := HR.out.on b1
 have HR1 := hid hr1
 have hsz := hr1.size
 rcases hrc with ⟨c, at_, hc, hp, rfl⟩ | ⟨V, E, L, hp, se, ce, sl, cl, rfl, hE, hL, hce, hcl, hRO⟩
 ·obtain ⟨a, ha⟩ : ∃ a : Nat, a = (spotN (l.take at_)).1 := ⟨_, rfl⟩
  obtain ⟨d, hd⟩ : ∃ d : Nat, d = (spotN (l.take at_)).2 := ⟨_, rfl⟩
  have HP : Hid (ParsedO l w.heap.size (.returned (.tuple #[cnfV 0 none 0 0 none 0 0, .agg #[.int .i64 c, .int .i64 (a : Int), .int .i64 (d : Int)]])) = fun _ => True) := by
   show _ = _
   funext W
   refine propext ⟨fun _ => trivial, fun _ => ParsedO.err hp ?_⟩
   rw [ha, hd]; rfl
  unfold faultV
  rw [← ha, ← hd]
  have hc2 : (c != 0) = true := by simpa using hc
  obtain ⟨WX, hWX⟩ : ∃ WX, WX = (w1.alloc (Obj.cells #[.int .i64 0, .slice none 0 0, .slice none 0 0] 33 (0, 0))).alloc (Obj.cells #[.int .i64 c, .int .i64 (a : Int), .int .i64 (d : Int)] 28 (0, 0)) := ⟨_, rfl⟩
  have tX : Below w1.heap.size w1 WX := by rw [hWX]; exact ((Below.refl _ _).alloc (Nat.le_refl _) _).alloc (by simp) _
  have q1 : WX.heap[w1.heap.size + 1]? = some (.cells #[.int .i64 c, .int .i64 (a : Int), .int .i64 (d : Int)] 28 (0, 0)) := by
   have := heap_alloc_new (w1.alloc (Obj.cells #[.int .i64 0, .slice none 0 0, .slice none 0 0] 33 (0, 0))) (Obj.cells #[.int .i64 c, .int .i64 (a : Int), .int .i64 (d : Int)] 28 (0, 0))
   rw [hWX]; simpa using this
  have hr2 := HR1.out.on tX
  have c0 := fun j => cell_row hr2.r0 j
  have c1 := fun j => cell_row hr2.r1 j
  have f0 := fun j => unfrozen_row hr2.r0 j
  have f1 := fun j => unfrozen_row hr2.r1 j
  have c2 := fun j => cell_row q1 j
  have HWX := hid hWX
  have HR2 := hid hr2
  clear hp ha hd hc hWX tX q1 hr2 hr1 b1 HRC
  go_wp2_with (rw [← HWX.out])
  go_region_law (fail)
  all_goals
   go_wp2_with fail
   exact bodyPost_ret (v := .tuple #[cnfV 0 none 0 0 none 0 0, .agg #[.int .i64 c, .int .i64 (a : Int), .int .i64 (d : Int)]]) (by simp [results, Tryz.results6, go_sem, c0, c1]) rfl ⟨by rw [HP.out]; trivial, ((((((HR2.out.below.setCell (p := ⟨w.heap.size, 0, none⟩) (by simp) _).setCell (p := ⟨w.heap.size, 1, none⟩) (by simp) _).setCell (p := ⟨w.heap.size, 2, none⟩) (by simp) _).setCell (p := ⟨w.heap.size + 1, 0, none⟩) (by simp) _).setCell (p := ⟨w.heap.size + 1, 1, none⟩) (by simp) _).setCell (p := ⟨w.heap.size + 1, 2, none⟩) (by simp) _).drew⟩
 ·have HP := hid hp
  unfold faultV
  obtain ⟨WX, hWX⟩ : ∃ WX, WX = (w1.alloc (Obj.cells #[.int .i64 V, .slice se E.length ce, .slice sl L.length cl] 33 (0, 0))).alloc (Obj.cells #[.int .i64 0, .int .i64 0, .int .i64 0] 28 (0, 0)) := ⟨_, rfl⟩
  have tX : Below w1.heap.size w1 WX := by rw [hWX]; exact ((Below.refl _ _).alloc (Nat.le_refl _) _).alloc (by simp) _
  have q0 : WX.heap[w1.heap.size]? = some (.cells #[.int .i64 V, .slice se E.length ce, .slice sl L.length cl] 33 (0, 0)) := by
   rw [hWX]; exact (Below.heap_alloc _ _ _ (by simp)).trans (heap_alloc_new w1 _)
  have q1 : WX.heap[w1.heap.size + 1]? = some (.cells #[.int .i64 0, .int .i64 0, .int .i64 0] 28 (0, 0)) := by
   have := heap_alloc_new (w1.alloc (Obj.cells #[.int .i64 V, .slice se E.length ce, .slice sl L.length cl] 33 (0, 0))) (Obj.cells #[.int .i64 0, .int .i64 0, .int .i64 0] 28 (0, 0))
   rw [hWX]; simpa using this
  have hr2 := HR1.out.on tX
  have c0 := fun j => cell_row hr2.r0 j
  have c1 := fun j => cell_row hr2.r1 j
  have f0 := fun j => unfrozen_row hr2.r0 j
  have f1 := fun j => unfrozen_row hr2.r1 j
  have c2 := fun j => cell_row q0 j
  have c3 := fun j => cell_row q1 j
  have HWX := hid hWX
  have HR2 := hid hr2
  have IE := hid (hE.on tX)
  have IL := hid (hL.on tX)
  have IR := hid (hRO.on tX)
  have hwa := HR.out.size
  clear hp hWX tX q0 q1 hr2 hr1 b1 HRC hE hL hRO
  go_upto_region 4 with fail
  rw [← HWX.out]
  go_wp2_with fail
  refine bodyPost_ret (v := .tuple #[cnfV V se E.length ce sl L.length cl, .agg #[.int .i64 0, .int .i64 0, .int .i64 0]]) (by simp [results, Tryz.results6, go_sem, c0, c1]) rfl ⟨?_, ((((((HR2.out.below.setCell (p := ⟨w.heap.size, 0, none⟩) (by simp) _).setCell (p := ⟨w.heap.size, 1, none⟩) (by simp) _).setCell (p := ⟨w.heap.size, 2, none⟩) (by simp) _).setCell (p := ⟨w.heap.size + 1, 0, none⟩) (by simp) _).setCell (p := ⟨w.heap.size + 1, 1, none⟩) (by simp) _).setCell (p := ⟨w.heap.size + 1, 2, none⟩) (by simp) _)⟩
  unfold ParsedO
  rw [HP.out]
  refine ⟨se, ce, sl, cl, rfl, ?_, ?_, hce, hcl, ?_⟩
  ·exact ((((((IE.out.store (by omega)).store (by omega)).store (by omega)).store (by omega)).store (by omega)).store (by omega)).mono (by omega)
  ·exact ((((((IL.out.store (by omega)).store (by omega)).store (by omega)).store (by omega)).store (by omega)).store (by omega)).mono (by omega)
  ·exact ((((((IR.out.store (by omega)).store (by omega)).store (by omega)).store (by omega)).store (by omega)).store (by omega)).mono (by omega)
theorem parses_landed (s : ByteArray) (w : World) (h : s.size ≤ 9223372036854775807) : Calls Tryz.prog 6 #[.string s] w fun e w' => ParsedO s.data.toList w.heap.size e w' ∧ Below w.heap.size w w' := by
 by_cases hs : s.size ≤ 1048576
 ·exact own_short s w hs
 ·exact own_long s w h (by omega)
end Go.Proofs.YtdkboifpdodonacGreatDoor
/-
 Grounds of the walks in this seat.
-/
namespace Go.Proofs.YtdkboifpdodonacGreatDoor.Cn
open Go.RowKit Go.Deep PureCnf
set_option maxRecDepth 100000

theorem hid {q : Prop} (h : q) : Hid q := h


/-- a string of these bytes. -/
abbrev str (l : List UInt8) : Value := .string ⟨l.toArray⟩

/-- numbers that can be read there. -/
structure IntsAt (w : World) (sa : Option Addr) (l : List Int) : Prop where
 at_ : ∀ k (hk : k < l.length), ∃ a, sa = some a ∧ a.block < w.heap.size ∧ w.cell? (a.add k) = some (.int .i64 l[k])
 wf : ∀ k (hk : k < l.length), -9223372036854775808 ≤ l[k] ∧ l[k] ≤ 9223372036854775807

theorem add_block (a : Addr) (j : Nat) : (a.add j).block = a.block := by unfold Addr.add; split <;> rfl



/-- clauses, as a value. -/
abbrev cnfV (V : Int) (se : Option Addr) (ne ce : Nat) (sl : Option Addr) (nl cl : Nat) : Value := .agg #[.int .i64 V, .slice se ne ce, .slice sl nl cl]


theorem add_zero_addr (g j : Nat) : (⟨g, 0, none⟩ : Addr).add j = ⟨g, j, none⟩ := by
 unfold Addr.add
 split <;> simp_all

theorem cell_row {w : World} {b : Nat} {c : Array Value} {t : TypeId} {fz : Nat × Nat} (h : w.heap[b]? = some (.cells c t fz)) (i : Nat) : w.cell? ⟨b, i, none⟩ = c[i]? := by simp [World.cell?, h]

theorem below_cell {B b o : Nat} {w w' : World} {x : Value} (hb : Below B w w') (hlt : b < B) (h : w.cell? ⟨b, o, none⟩ = some x) : w'.cell? ⟨b, o, none⟩ = some x := (hb.cell (p := ⟨b, o, none⟩) hlt).trans h






theorem info3 : (Tryz.prog.info? 3).map (fun i => (i.zero, i.size, i.bytes)) = some (some (.int .i64 0), 1, 8) := by kernel_rfl

def ci (l : List Int) : List Value := l.map fun x => Value.int .i64 x






theorem unfrozen_row {w : World} {b : Nat} {c : Array Value} {t : TypeId} (h : w.heap[b]? = some (.cells c t (0, 0))) (i : Nat) : w.frozen? ⟨b, i, none⟩ = false := by simp [World.frozen?, h]




theorem IntsAt.store {W : World} {b : Nat} {sa : Option Addr} {l : List Int} (h : IntsAt W sa l) (hne : ∀ a, sa = some a → a.block ≠ b) (i : Nat) (v : Value) : IntsAt (W.setCell ⟨b, i, none⟩ v) sa l :=
 ⟨fun k hk => by
  obtain ⟨a, e, hb, c⟩ := h.at_ k hk
  refine ⟨a, e, by simpa [World.setCell] using hb, ?_⟩
  rw [← c]
  exact World.cell?_of_block (Below.heap_setCell W _ _ _ (by rw [add_block]; exact hne a e)), h.wf⟩

end Go.Proofs.YtdkboifpdodonacGreatDoor.Cn
/-
 The document's own digit, white, number.
-/
namespace Go.Proofs.YtdkboifpdodonacGreatDoor.Cn
open Go.RowKit Go.Deep PureCnf
set_option maxRecDepth 100000

def whiteB (c : UInt8) : Bool := decide (c.toNat = 32 ∨ c.toNat = 9 ∨ c.toNat = 13)

set_option maxHeartbeats 400000 in
theorem digit_any (c : UInt8) (w : World) : Calls Tryz.prog 43 #[.int .u8 (c.toNat : Int)] w fun e w' => e = .returned (.bool (digB c)) ∧ w' = w := by
 by_cases h1 : 48 ≤ (c.toNat : Int)
 ·by_cases h2 : (c.toNat : Int) ≤ 57
  ·have HD : Hid (digB c = true) := by show _ = _; unfold digB; simp; omega
   go_enter Tryz.func43, Tryz.ntmps43
   go_wp2
   go_ret
   rw [HD.out]
   exact ⟨rfl, rfl⟩
  ·have HD : Hid (digB c = false) := by show _ = _; unfold digB; simp; omega
   go_enter Tryz.func43, Tryz.ntmps43
   go_wp2
   go_ret
   rw [HD.out]
   exact ⟨rfl, rfl⟩
 ·have HD : Hid (digB c = false) := by show _ = _; unfold digB; simp; omega
  go_enter Tryz.func43, Tryz.ntmps43
  go_wp2
  go_ret
  rw [HD.out]
  exact ⟨rfl, rfl⟩

set_option maxHeartbeats 400000 in
theorem white_any (c : UInt8) (w : World) : Calls Tryz.prog 47 #[.int .u8 (c.toNat : Int)] w fun e w' => e = .returned (.bool (whiteB c)) ∧ w' = w := by
 by_cases h1 : (c.toNat : Int) = 32
 ·have HD : Hid (whiteB c = true) := by show _ = _; unfold whiteB; simp; omega
  rw [h1]
  clear h1
  go_enter Tryz.func47, Tryz.ntmps47
  go_wp2
  go_ret
  rw [HD.out]
  exact ⟨rfl, rfl⟩
 ·by_cases h2 : (c.toNat : Int) = 9
  ·have HD : Hid (whiteB c = true) := by show _ = _; unfold whiteB; simp; omega
   rw [h2]
   clear h2 h1
   go_enter Tryz.func47, Tryz.ntmps47
   go_wp2
   go_ret
   rw [HD.out]
   exact ⟨rfl, rfl⟩
  ·by_cases h3 : (c.toNat : Int) = 13
   ·have HD : Hid (whiteB c = true) := by show _ = _; unfold whiteB; simp; omega
    rw [h3]
    clear h2 h1 h3
    go_enter Tryz.func47, Tryz.ntmps47
    go_wp2
    go_ret
    rw [HD.out]
    exact ⟨rfl, rfl⟩
   ·have HD : Hid (whiteB c = false) := by show _ = _; unfold whiteB; simp; omega
    have g1 : ((c.toNat : Int) == 32) = false := by simp; omega
    have g2 : ((c.toNat : Int) == 9) = false := by simp; omega
    have g3 : ((c.toNat : Int) == 13) = false := by simp; omega
    clear h1 h2 h3
    go_enter Tryz.func47, Tryz.ntmps47
    go_wp2
    go_ret
    rw [HD.out]
    exact ⟨rfl, rfl⟩

theorem list_at (s : ByteArray) (k : Nat) (h : k < s.size) : s.data.toList[k]'(by simpa using h) = s[k] := rfl

set_option maxHeartbeats 1000000 in
theorem number_any (s : ByteArray) (most : Nat) (w : World) (hs : s.size ≤ 1099511627776) (hm : most ≤ 1099511627776) :
  Calls Tryz.prog 48 #[.string s, .int .i64 (most : Int)] w fun e w' => e = .returned (.int .i64 (numB s.data.toList most)) ∧ w' = w := by
 have hlen : s.data.toList.length = s.size := by simp
 cases hp : plainB s.data.toList with
 | false =>
  have HN := hid (numB_plain (most := most) hp)
  by_cases h0 : s.size = 0
  ·clear hp
   go_enter Tryz.func48, Tryz.ntmps48
   go_wp2
   go_ret
   rw [HN.out]
   exact ⟨rfl, rfl⟩
  ·have h1 : 1 < s.size ∧ s.data.toList.head? = some 48 := by
    have hne : s.data.toList ≠ [] := fun e => h0 (by rw [← hlen, e]; rfl)
    simpa [plainB, hne] using hp
   obtain ⟨h2, h3⟩ := h1
   have h4 : (s[0].toNat : Int) = 48 := by
    rw [List.head?_eq_getElem?, List.getElem?_eq_getElem (by omega)] at h3
    have := Option.some.inj h3
    rw [list_at s 0 (by omega)] at this
    rw [this]; rfl
   have h5 : ((s.size : Int) == 0) = false := by rw [beq_eq_false_iff_ne]; omega
   clear hp h0 h3
   go_enter Tryz.func48, Tryz.ntmps48
   go_wp2
   go_ret
   rw [HN.out]
   exact ⟨rfl, rfl⟩
 | true =>
  have h0 : s.data.toList ≠ [] := fun e => by rw [e] at hp; simp [plainB] at hp
  have h1 : 0 < s.size := by
   rcases Nat.eq_zero_or_pos s.size with h | h
   ·exact absurd (List.eq_nil_of_length_eq_zero (hlen.trans h)) h0
   ·exact h
  have h2 : s.size = 1 ∨ (1 < s.size ∧ ((s[0].toNat : Int) == 48) = false) := by
   by_cases h : 1 < s.size
   ·refine .inr ⟨h, ?_⟩
    have h3 : s.data.toList.head? ≠ some 48 := by simpa [plainB, h0, h] using hp
    rw [List.head?_eq_getElem?, List.getElem?_eq_getElem (by omega), list_at s 0 (by omega)] at h3
    have h4 : s[0].toNat ≠ 48 := fun e => h3 (by rw [← UInt8.toNat_inj.1 (show s[0].toNat = (48 : UInt8).toNat from e)])
    simp; omega
   ·exact .inl (by omega)
  have h5 : ((s.size : Int) == 0) = false := by rw [beq_eq_false_iff_ne]; omega
  have HP := hid hp
  have HL := hid hlen
  clear hp h0 hlen
  rcases h2 with h2 | ⟨h2, h6⟩
  all_goals
   go_enter Tryz.func48, Tryz.ntmps48
   go_wp2
   go_loop [5, 6] (fun n i => ∃ k : Nat, k ≤ s.size ∧ i = .int .i64 k ∧ n = .int .i64 (valN (s.data.toList.take k) : Int) ∧ valN (s.data.toList.take k) ≤ most ∧ Hid ((s.data.toList.take k).all digB = true)) (fun _ i => s.size - (intOf i).toNat)
   case atStart => exact ⟨0, Nat.zero_le _, rfl, rfl, Nat.zero_le _, rfl⟩
   case round =>
    obtain ⟨k, hk, rfl, rfl, hv, HA⟩ := hrel
    by_cases hlt : k < s.size
    ·have hlt' : k < s.data.toList.length := by rw [HL.out]; exact hlt
     have HDG := hid (digit_any s[k] w)
     cases hd : digB s[k] with
     | false =>
      rw [hd] at HDG
      have HN := hid (numB_off (most := most) hlt' hd)
      clear hd
      go_wp2_with (go_at_call 43; refine HDG.out.mono ?_; rintro e w' ⟨rfl, rfl⟩)
      go_ret
      rw [HN.out]
      exact ⟨rfl, rfl⟩
     | true =>
      rw [hd] at HDG
      have hr : 48 ≤ s[k].toNat ∧ s[k].toNat ≤ 57 := by simpa [digB] using hd
      have hv1 : Hid ((valN (s.data.toList.take (k + 1)) : Int) = 10 * (valN (s.data.toList.take k) : Int) + ((s[k].toNat : Int) - 48)) := by
       show _ = _
       rw [take_snoc _ k hlt', valN_snoc, list_at s k hlt]; omega
      have HA1 : Hid ((s.data.toList.take (k + 1)).all digB = true) := by
       show _ = _
       rw [take_snoc _ k hlt', List.all_append, HA.out, list_at s k hlt]
       simp [hd]
      clear hd
      obtain ⟨r1, r2⟩ := hr
      have r3 : (48 : Int) ≤ (s[k].toNat : Int) := by omega
      have r4 : (s[k].toNat : Int) ≤ 57 := by omega
      have r5 : (0 : Int) ≤ (valN (s.data.toList.take k) : Int) := by omega
      have r6 : (valN (s.data.toList.take k) : Int) ≤ 1099511627776 := by omega
      by_cases hgt : (most : Int) < 10 * (valN (s.data.toList.take k) : Int) + ((s[k].toNat : Int) - 48)
      ·have HN := hid (numB_great (l := s.data.toList) (most := most) (k := k + 1) (by have := hv1.out; omega))
       go_wp2_with (go_at_call 43; refine HDG.out.mono ?_; rintro e w' ⟨rfl, rfl⟩)
       go_ret
       rw [HN.out]
       exact ⟨rfl, rfl⟩
      ·go_wp2_with (go_at_call 43; refine HDG.out.mono ?_; rintro e w' ⟨rfl, rfl⟩)
       exact ⟨⟨k + 1, hlt, by go_num, by rw [hv1.out], by have := hv1.out; omega, HA1.out⟩, by simp [intOf]; omega⟩
    ·have HE : Hid (numB s.data.toList most = (valN (s.data.toList.take k) : Int)) := by
      show _ = _
      have e : s.data.toList.take k = s.data.toList := List.take_of_length_le (by rw [HL.out]; omega)
      have ha := HA.out
      rw [e] at ha hv ⊢
      exact numB_end HP.out ha hv
     go_wp2
     go_ret
     rw [HE.out]
     exact ⟨rfl, rfl⟩
end Go.Proofs.YtdkboifpdodonacGreatDoor.Cn
/-
 The document's own spot, literal.
-/
namespace Go.Proofs.YtdkboifpdodonacGreatDoor.Cn
open Go.RowKit Go.Deep PureCnf
set_option maxRecDepth 100000

/-- the place behind these bytes: line and column. -/
def spotN (l : List UInt8) : Nat × Nat := l.foldl (fun p c => if c.toNat = 10 then (p.1 + 1, 1) else (p.1, p.2 + 1)) (1, 1)
theorem spotN_snoc (l : List UInt8) (c : UInt8) : spotN (l ++ [c]) = if c.toNat = 10 then ((spotN l).1 + 1, 1) else ((spotN l).1, (spotN l).2 + 1) := by simp [spotN, List.foldl_append]
theorem spotN_le (l : List UInt8) : (spotN l).1 ≤ l.length + 1 ∧ (spotN l).2 ≤ l.length + 1 := by
 have e : ∀ m : List UInt8, (spotN m.reverse).1 ≤ m.length + 1 ∧ (spotN m.reverse).2 ≤ m.length + 1 := by
  intro m
  induction m with
  | nil => simp [spotN]
  | cons c t ih =>
   rw [List.reverse_cons, spotN_snoc]
   split <;> simp <;> omega
 have := e l.reverse
 simpa using this

/-- one box of two numbers, and the place of the result. -/
structure PosBox (w W : World) (line col : Nat) : Prop where
 r0 : W.heap[w.heap.size]? = some (.cells #[.int .i64 0, .int .i64 0] 26 (0, 0))
 r1 : W.heap[w.heap.size + 1]? = some (.cells #[.int .i64 line, .int .i64 col] 26 (0, 0))
 below : Below w.heap.size w W

theorem PosBox.store {w W : World} {line col : Nat} (h : PosBox w W line col) (a b : Nat) : PosBox w ((W.setCell ⟨w.heap.size + 1, 0, none⟩ (.int .i64 a)).setCell ⟨w.heap.size + 1, 1, none⟩ (.int .i64 b)) a b := by
 refine ⟨?_, ?_, (h.below.setCell (by simp) _).setCell (by simp) _⟩
 ·rw [Below.heap_setCell _ _ _ _ (by simp), Below.heap_setCell _ _ _ _ (by simp)]; exact h.r0
 ·have hb := (Array.getElem?_eq_some_iff.1 h.r1).1
  simp [World.setCell, Array.getElem?_modify, h.r1]
theorem PosBox.store1 {w W : World} {line col : Nat} (h : PosBox w W line col) (b : Nat) : PosBox w (W.setCell ⟨w.heap.size + 1, 1, none⟩ (.int .i64 b)) line b := by
 refine ⟨?_, ?_, h.below.setCell (by simp) _⟩
 ·rw [Below.heap_setCell _ _ _ _ (by simp)]; exact h.r0
 ·have hb := (Array.getElem?_eq_some_iff.1 h.r1).1
  simp [World.setCell, Array.getElem?_modify, h.r1]

set_option maxHeartbeats 1000000 in
theorem spot_any (s : ByteArray) (i : Nat) (w : World) (hs : s.size ≤ 1099511627776) (hi : i ≤ s.size) :
  Calls Tryz.prog 26 #[.string s, .int .i64 (i : Int)] w fun e w' => e = .returned (.agg #[.int .i64 ((spotN (s.data.toList.take i)).1 : Int), .int .i64 ((spotN (s.data.toList.take i)).2 : Int)]) ∧ Below w.heap.size w w' := by
 go_enter Tryz.func26, Tryz.ntmps26
 go_wp2
 go_loopw [6] (fun q W => ∃ k : Nat, k ≤ i ∧ q = .int .i64 k ∧ Hid (PosBox w W (spotN (s.data.toList.take k)).1 (spotN (s.data.toList.take k)).2)) (fun q _ => i - (intOf q).toNat)
 case atStart =>
  refine ⟨0, Nat.zero_le _, rfl, ?_⟩
  show PosBox _ _ _ _
  refine ⟨?_, ?_, ((Below.refl _ _).alloc (Nat.le_refl _) _).alloc (by simp) _⟩
  ·exact (Below.heap_alloc _ _ _ (by simp)).trans (heap_alloc_new w _)
  ·have := heap_alloc_new (w.alloc (Obj.cells #[.int .i64 0, .int .i64 0] 26 (0, 0))) (Obj.cells #[.int .i64 1, .int .i64 1] 26 (0, 0))
   simpa [spotN] using this
 case round =>
  obtain ⟨k, hk, rfl, HB⟩ := hrel
  have c0 := fun j => cell_row HB.out.r1 j
  have f0 := fun j => unfrozen_row HB.out.r1 j
  have hle := spotN_le (s.data.toList.take k)
  have hl : (s.data.toList.take k).length ≤ k := List.length_take_le _ _
  by_cases hlt : k < i
  ·have hks : k < s.size := by omega
   have HSN : Hid (spotN (s.data.toList.take (k + 1)) = if s[k].toNat = 10 then ((spotN (s.data.toList.take k)).1 + 1, 1) else ((spotN (s.data.toList.take k)).1, (spotN (s.data.toList.take k)).2 + 1)) := by
    show _ = _
    rw [take_snoc _ k (by simpa using hks), spotN_snoc, list_at s k hks]
   obtain ⟨line, hline⟩ : ∃ x, x = (spotN (s.data.toList.take k)).1 := ⟨_, rfl⟩
   obtain ⟨col, hcol⟩ : ∃ x, x = (spotN (s.data.toList.take k)).2 := ⟨_, rfl⟩
   rw [← hline, ← hcol] at HB HSN c0 hle
   clear hline hcol
   obtain ⟨l1, l2⟩ := hle
   by_cases h10 : (s[k].toNat : Int) = 10
   ·have e : s[k].toNat = 10 := by omega
    have HR : Hid (spotN (s.data.toList.take (k + 1)) = (line + 1, 1)) := by show _ = _; rw [HSN.out, if_pos e]
    clear e HSN
    go_wp2
    refine ⟨⟨k + 1, hlt, by go_num, ?_⟩, by simp [intOf]; omega⟩
    show PosBox _ _ _ _
    rw [HR.out]
    exact HB.out.store (line + 1) 1
   ·have h10b : ((s[k].toNat : Int) == 10) = false := by rw [beq_eq_false_iff_ne]; omega
    have HR : Hid (spotN (s.data.toList.take (k + 1)) = (line, col + 1)) := by show _ = _; rw [HSN.out, if_neg (by omega)]
    clear HSN h10
    go_wp2
    refine ⟨⟨k + 1, hlt, by go_num, ?_⟩, by simp [intOf]; omega⟩
    show PosBox _ _ _ _
    rw [HR.out]
    exact HB.out.store1 (col + 1)
  ·have hkk : k = i := by omega
   subst hkk
   have c1 := fun j => cell_row HB.out.r0 j
   have f1 := fun j => unfrozen_row HB.out.r0 j
   go_wp2
   exact bodyPost_ret (v := .agg #[.int .i64 ((spotN (s.data.toList.take k)).1 : Int), .int .i64 ((spotN (s.data.toList.take k)).2 : Int)]) (by simp [results, Tryz.results26, go_sem, c1]) rfl ⟨rfl, (HB.out.below.setCell (by simp) _).setCell (by simp) _⟩

/-- of a word: the literal, 0 if it is none. -/
def litN (l : List UInt8) : Int := if l.head? = some 45 then (if 0 < numB l.tail 2147483647 then -numB l.tail 2147483647 else 0) else (if 0 ≤ numB l 2147483647 then numB l 2147483647 else 0)
def litOk (l : List UInt8) : Bool := if l.head? = some 45 then decide (0 < numB l.tail 2147483647) else decide (0 ≤ numB l 2147483647)

theorem extract_list (s : ByteArray) (i j : Nat) : (s.extract i j).data.toList = (s.data.toList.drop i).take (j - i) := by
 rw [ByteArray.data_extract, Array.toList_extract]

theorem head_at (s : ByteArray) (h : 0 < s.size) : s.data.toList.head? = some s[0] := by
 rw [List.head?_eq_getElem?, List.getElem?_eq_getElem (by simpa using h), list_at s 0 h]

set_option maxHeartbeats 1000000 in
theorem literal_any (s : ByteArray) (w : World) (hs : s.size ≤ 1099511627776) :
  Calls Tryz.prog 30 #[.string s] w fun e w' => e = .returned (.tuple #[.int .i64 (litN s.data.toList), .bool (litOk s.data.toList)]) ∧ w' = w := by
 by_cases hm : s.data.toList.head? = some 45
 ·have h0 : 0 < s.size := by
   rcases Nat.eq_zero_or_pos s.size with h | h
   ·have : s.data.toList = [] := List.eq_nil_of_length_eq_zero (by simpa using h)
    rw [this] at hm; cases hm
   ·exact h
  have h1 : (s[0].toNat : Int) = 45 := by
   rw [head_at s h0] at hm
   rw [Option.some.inj hm]; rfl
  have htl : (s.extract 1 s.size).data.toList = s.data.toList.tail := by
   rw [extract_list, List.take_of_length_le (by simp), List.drop_one]
  have hn0 := number_any (s.extract 1 s.size) 2147483647 w (by rw [ByteArray.size_extract]; omega) (by omega)
  rw [htl] at hn0
  have hr := numB_range s.data.toList.tail 2147483647
  have HL : Hid (litN s.data.toList = if 0 < numB s.data.toList.tail 2147483647 then -numB s.data.toList.tail 2147483647 else 0) := by show _ = _; unfold litN; rw [if_pos hm]
  have HO : Hid (litOk s.data.toList = decide (0 < numB s.data.toList.tail 2147483647)) := by show _ = _; unfold litOk; rw [if_pos hm]
  obtain ⟨n, hn⟩ : ∃ n, n = numB s.data.toList.tail 2147483647 := ⟨_, rfl⟩
  rw [← hn] at hn0 hr HL HO
  have HN : Hid (Calls Tryz.prog 48 #[.string (s.extract 1 s.size), .int .i64 2147483647] w fun e w' => e = .returned (.int .i64 n) ∧ w' = w) := hn0
  clear hm hn htl hn0
  obtain ⟨r1, r2⟩ := hr
  have r3 : n ≤ 2147483647 := by omega
  clear r2
  by_cases hp : 0 < n
  ·have a1 : ¬ n < 0 := by omega
   have a2 : (n == 0) = false := by rw [beq_eq_false_iff_ne]; omega
   go_enter Tryz.func30, Tryz.ntmps30
   go_wp2_with (go_at_call 48; refine HN.out.mono ?_; rintro e w' ⟨rfl, rfl⟩)
   go_ret2
   rw [HL.out, HO.out, if_pos hp, decide_eq_true hp]
   exact ⟨rfl, rfl⟩
  ·by_cases hz : n = 0
   ·subst hz
    go_enter Tryz.func30, Tryz.ntmps30
    go_wp2_with (go_at_call 48; refine HN.out.mono ?_; rintro e w' ⟨rfl, rfl⟩)
    go_ret2
    rw [HL.out, HO.out]
    exact ⟨rfl, rfl⟩
   ·have a1 : n < 0 := by omega
    go_enter Tryz.func30, Tryz.ntmps30
    go_wp2_with (go_at_call 48; refine HN.out.mono ?_; rintro e w' ⟨rfl, rfl⟩)
    go_ret2
    rw [HL.out, HO.out, if_neg (by omega), decide_eq_false (by omega)]
    exact ⟨rfl, rfl⟩
 ·have hr := numB_range s.data.toList 2147483647
  have hn0 := number_any s 2147483647 w hs (by omega)
  have HL : Hid (litN s.data.toList = if 0 ≤ numB s.data.toList 2147483647 then numB s.data.toList 2147483647 else 0) := by show _ = _; unfold litN; rw [if_neg hm]
  have HO : Hid (litOk s.data.toList = decide (0 ≤ numB s.data.toList 2147483647)) := by show _ = _; unfold litOk; rw [if_neg hm]
  have hq : s.size = 0 ∨ (0 < s.size ∧ ∀ h : 0 < s.size, ((s[0].toNat : Int) == 45) = false) := by
   rcases Nat.eq_zero_or_pos s.size with h | h
   ·exact .inl h
   ·refine .inr ⟨h, fun _ => ?_⟩
    rw [head_at s h] at hm
    rw [beq_eq_false_iff_ne]
    intro e
    exact hm (by rw [UInt8.toNat_inj.1 (show s[0].toNat = (45 : UInt8).toNat by have : (45 : UInt8).toNat = 45 := rfl; omega)])
  obtain ⟨n, hn⟩ : ∃ n, n = numB s.data.toList 2147483647 := ⟨_, rfl⟩
  rw [← hn] at hn0 hr HL HO
  have HN : Hid (Calls Tryz.prog 48 #[.string s, .int .i64 2147483647] w fun e w' => e = .returned (.int .i64 n) ∧ w' = w) := hn0
  clear hm hn hn0
  obtain ⟨r1, r2⟩ := hr
  have r3 : n ≤ 2147483647 := by omega
  clear r2
  rcases hq with hq | ⟨hq, hq2⟩
  ·by_cases hp : 0 ≤ n
   ·have a1 : ¬ n < 0 := by omega
    have a2 : ¬ (0 : Int) < (s.size : Int) := by omega
    go_enter Tryz.func30, Tryz.ntmps30
    go_wp2_with (go_at_call 48; refine HN.out.mono ?_; rintro e w' ⟨rfl, rfl⟩)
    go_ret2
    rw [HL.out, HO.out, if_pos hp, decide_eq_true hp]
    exact ⟨rfl, rfl⟩
   ·have a1 : n < 0 := by omega
    have a2 : ¬ (0 : Int) < (s.size : Int) := by omega
    go_enter Tryz.func30, Tryz.ntmps30
    go_wp2_with (go_at_call 48; refine HN.out.mono ?_; rintro e w' ⟨rfl, rfl⟩)
    go_ret2
    rw [HL.out, HO.out, if_neg (by omega), decide_eq_false (by omega)]
    exact ⟨rfl, rfl⟩
  ·have q2 := hq2 hq
   clear hq2
   by_cases hp : 0 ≤ n
   ·have a1 : ¬ n < 0 := by omega
    go_enter Tryz.func30, Tryz.ntmps30
    go_wp2_with (go_at_call 48; refine HN.out.mono ?_; rintro e w' ⟨rfl, rfl⟩)
    go_ret2
    rw [HL.out, HO.out, if_pos hp, decide_eq_true hp]
    exact ⟨rfl, rfl⟩
   ·have a1 : n < 0 := by omega
    go_enter Tryz.func30, Tryz.ntmps30
    go_wp2_with (go_at_call 48; refine HN.out.mono ?_; rintro e w' ⟨rfl, rfl⟩)
    go_ret2
    rw [HL.out, HO.out, if_neg (by omega), decide_eq_false (by omega)]
    exact ⟨rfl, rfl⟩
end Go.Proofs.YtdkboifpdodonacGreatDoor.Cn
