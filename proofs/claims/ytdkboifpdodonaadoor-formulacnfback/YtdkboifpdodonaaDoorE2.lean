/-
  The landed program's readClauses.
-/
import Derived.Test.YtdkboifpdodonaaDoorE1
namespace Go.Proofs.YtdkboifpdodonaaDoor
open Go.RowKit Go.Deep PureCnf
set_option maxRecDepth 100000

theorem Res.under {w WA W : World} (h : Res w WA) (hb : Below (w.heap.size + 2) WA W) : Res w W :=
  ⟨(hb.block _ (by omega)).trans h.r0, (hb.block _ (by omega)).trans h.r1, h.below.trans (hb.mono (by omega))⟩

/-- what readClauses answers: a fault that is told, or the clauses. -/
def ReadC (l : List UInt8) (base : Nat) (e : Ending) (w' : World) : Prop :=
  (∃ (c : Int) (at_ : Nat), c ≠ 0 ∧ parseN l = .error (c, some at_) ∧ e = .returned (.tuple #[cnfV 0 none 0 0 none 0 0, faultV c (spotN (l.take at_))])) ∨
  ∃ (V : Int) (E L : List Int), parseN l = .ok (V, E, L) ∧ ∃ se ce sl cl, e = .returned (.tuple #[cnfV V se E.length ce sl L.length cl, faultV 0 (0, 0)]) ∧ Own w' base se E ∧ Own w' base sl L ∧ E.length ≤ ce ∧ L.length ≤ cl

set_option maxHeartbeats 4000000 in
set_option maxRecDepth 100000 in
theorem readClauses_any (s : ByteArray) (w : World) (hs : s.size ≤ 1048576) :
    Calls Tryd.prog 30 #[.string s] w fun e w' => ReadC s.data.toList w.heap.size e w' ∧ Below w.heap.size w w' := by
  obtain ⟨WA, hWA⟩ : ∃ WA, WA = (w.alloc (Obj.cells #[.int .i64 0, .slice none 0 0, .slice none 0 0] 24 (0, 0))).alloc (Obj.cells #[.int .i64 0, .int .i64 0, .int .i64 0] 33 (0, 0)) := ⟨_, rfl⟩
  have hr : Res w WA := by
    rw [hWA]
    refine ⟨(Below.heap_alloc _ _ _ (by simp)).trans (heap_alloc_new w _), ?_, ((Below.refl _ _).alloc (Nat.le_refl _) _).alloc (by simp) _⟩
    have := heap_alloc_new (w.alloc (Obj.cells #[.int .i64 0, .slice none 0 0, .slice none 0 0] 24 (0, 0))) (Obj.cells #[.int .i64 0, .int .i64 0, .int .i64 0] 33 (0, 0))
    simpa using this
  have hsz : WA.heap.size = w.heap.size + 2 := by rw [hWA]; simp
  obtain ⟨WB, hWB⟩ : ∃ WB, WB = WA.alloc (Obj.cells #[.int .i64 0, .slice none 0 0, .slice none 0 0, .bool false, .int .i64 0] 93 (0, 0)) := ⟨_, rfl⟩
  obtain ⟨b, hb⟩ : ∃ b, b = WA.heap.size := ⟨_, rfl⟩
  have hb2 : b = w.heap.size + 2 := by omega
  have hcl : Cl WA WB b 0 [] [] (.slice none 0 0) (.slice none 0 0) false 0 := by
    rw [hWB, hb]
    exact ⟨heap_alloc_new WA _, World.ownsRow_nil _ _ _ _, World.ownsRow_nil _ _ _ _, .inl rfl, (Below.refl _ _).alloc (Nat.le_refl _) _⟩
  obtain ⟨l, hl⟩ : ∃ l, l = s.data.toList := ⟨_, rfl⟩
  have hlen : l.length = s.size := by rw [hl]; simp
  have hS0 : Sofar l 0 0 0 0 [] [] false := ⟨fun _ => ⟨rfl, rfl, rfl, rfl, rfl⟩, fun h => Bool.noConfusion h⟩
  rw [← hl]
  have HR := hid hr
  have HWA := hid hWA
  have HWB := hid hWB
  have HCL := hid hcl
  have HS := hid hS0
  have HL := hid hl
  have HLEN := hid hlen
  have HSZ := hid hsz
  have HBB := hid hb
  have HB2 := hid hb2
  clear hWA hWB hr hcl hS0 hl hlen hsz hb hb2
  go_enter Tryd.func30, Tryd.ntmps30
  go_wp2_with (first | (rw [← HWA.out]) | (rw [← HWB.out]))
  rw [← HBB.out]
  go_loopw [5] (fun av W => ∃ i : Nat, av = .int .i64 i ∧ i ≤ s.size + 1 ∧ Hid (∃ line V C E L ve vl bg, Sofar l i line V C E L bg ∧ Cl WA W b V E L ve vl bg C)) (fun av _ => s.size + 1 - (intOf av).toNat)
  case atStart => exact ⟨0, rfl, Nat.zero_le _, 0, 0, 0, [], [], _, _, false, HS.out, HCL.out⟩
  case round =>
    obtain ⟨i, rfl, hi, HP⟩ := hrel
    obtain ⟨line, V, C, E, L, ve, vl, bg, hS, hCl⟩ := HP.out
    by_cases hlt : i < s.size
    · have hil : i < l.length := by rw [HLEN.out]; exact hlt
      have hll : l.length ≤ 1048576 := by rw [HLEN.out]; exact hs
      obtain ⟨e, he⟩ : ∃ e, e = runW lineB l i l.length := ⟨_, rfl⟩
      have e0 : i ≤ e := by rw [he]; exact runW_ge _ _ _ _
      have e1 : e ≤ s.size := by rw [he, ← HLEN.out]; exact runW_le (by omega)
      have hx : (s.extract i s.size).data.toList = cutL l i l.length := by
        rw [Lib.extract_data, ← HL.out]
        unfold cutL
        rw [List.take_of_length_le (by rw [List.length_drop, HLEN.out]; omega), List.take_of_length_le (Nat.le_refl _)]
      have hxs : (s.extract i s.size).size ≤ 1099511627776 := by
        have : (s.extract i s.size).data.toList.length = (s.extract i s.size).size := by simp
        rw [hx, cutL_length (Nat.le_refl _)] at this
        omega
      have HCUT := hid (cut13 (s.extract i s.size) wr hxs)
      rw [hx, cutL_tw (Nat.le_refl _), ← he] at HCUT
      have HWD := fun W => hid (words_any l i e line W e0 (by rw [HLEN.out]; exact e1) (by omega))
      have HST := fun W (ve vl v : Value) (B : Nat) (h : Cl WA W b V E L ve vl bg C) (hr : WRow W B v (lineWords l i e line)) (hB : b < B) => hid (line_step l i line hil hll h (by rw [← he]; exact hr) hB hS)
      simp only [← he] at HST
      have hXl : (cutL l i e).length = e - i := cutL_length (by rw [HLEN.out]; exact e1)
      obtain ⟨X, hX⟩ : ∃ X, X = cutL l i e := ⟨_, rfl⟩
      rw [← hX] at HCUT hXl
      simp only [← hX] at HWD
      have HC0 := hid hCl
      clear hx hxs he hX hS hCl HP HS HCL hil hll
      go_wp2_with fail
      refine HCUT.out.mono ?_
      rintro x1 w1 ⟨⟨x, y, rfl⟩, b1⟩
      have HC1 := hid (HC0.out.on b1)
      clear b1 HC0
      go_wp2_with fail
      refine (HWD _).out.mono ?_
      rintro x2 w2 ⟨v, rfl, hv⟩
      have HC2 := hid (HC1.out.on hv.below)
      have hbs := HC1.out.size
      have HW2 := hid hv.own
      clear hv HC1
      go_wp2_with fail
      refine (HST _ _ _ _ _ HC2.out HW2.out (by omega)).out.mono ?_
      rintro x3 w3 ⟨c, at_, rfl, V', C', E', L', ve', vl', bg', hc3, hok, hno⟩
      have HC3 := hid hc3
      have HOK := hid hok
      have HNO := hid hno
      clear hc3 hok hno HC2 HW2 hbs HST HWD HCUT
      by_cases hc : c = 0
      · have HS4 := hid (HOK.out hc)
        subst hc
        clear HOK HNO
        go_wp2_with fail
        go_roundw
        case rel =>
          refine ⟨e + 1, ?_, by omega, line + 1, V', C', E', L', ve', vl', bg', HS4.out, HC3.out⟩
          rw [show (i : Int) + (((e - i : Nat) : Int) + 1) = ((e + 1 : Nat) : Int) by omega]
        case measure => simp [intOf]; omega
      · obtain ⟨hp, hat⟩ := HNO.out hc
        have HPE := hid hp
        have HNZ := hid hc
        have hc2 : (c != 0) = true := by simpa using hc
        rw [HLEN.out] at hat
        have HPL := fun W => hid (place16 s at_ W (by omega) hat)
        simp only [← HL.out] at HPL
        have HR3 := hid (HR.out.under (by rw [← HB2.out]; exact HC3.out.below))
        clear hp hc HOK HNO HC3
        go_wp2_with (go_at_call 54; refine (HPL _).out.mono ?_; rintro x4 w4 ⟨rfl, b4⟩; have hr4 := HR3.out.on b4; have c0 := fun j => cell_row hr4.r0 j; have c1 := fun j => cell_row hr4.r1 j; have f0 := fun j => unfrozen_row hr4.r0 j; have f1 := fun j => unfrozen_row hr4.r1 j; have HR4 := hid hr4; clear b4 hr4)
        exact bodyPost_ret (v := .tuple #[cnfV 0 none 0 0 none 0 0, .agg #[.int .i64 c, .int .i64 ((spotN (l.take at_)).1 : Int), .int .i64 ((spotN (l.take at_)).2 : Int)]]) (by simp [results, Tryd.results30, go_sem, c0, c1]) rfl ⟨.inl ⟨c, at_, HNZ.out, HPE.out, rfl⟩, ((((((HR4.out.below.setCell (p := ⟨w.heap.size, 0, none⟩) (by simp) _).setCell (p := ⟨w.heap.size, 1, none⟩) (by simp) _).setCell (p := ⟨w.heap.size, 2, none⟩) (by simp) _).setCell (p := ⟨w.heap.size + 1, 0, none⟩) (by simp) _).setCell (p := ⟨w.heap.size + 1, 1, none⟩) (by simp) _).setCell (p := ⟨w.heap.size + 1, 2, none⟩) (by simp) _)⟩
    · have hpn : piecesFrom l i line = [] := piecesFrom_end (by rw [HLEN.out]; exact hlt)
      have hll : ¬ 1048576 < l.length := by rw [HLEN.out]; omega
      have HR3 := hid (HR.out.under (by rw [← HB2.out]; exact hCl.below))
      have HPL := fun W => hid (place16 s s.size W (by omega) (Nat.le_refl _))
      simp only [← HL.out] at HPL
      have hpos : ∀ (c : Int) (at_ : Nat), c ≠ 0 → at_ = s.size → parseN l = .error (c, some at_) → parseN l = .error (c, some s.size) := fun c a _ h1 h2 => by rw [h2, h1]
      obtain ⟨⟨se, ce, rfl, hce⟩, sl, cl, rfl, hcl⟩ := hCl.forms
      have d0 := fun j => cell_row hCl.row j
      cases bg with
      | false =>
        have hP : Hid (parseN l = .error (135, some s.size)) := by
          have h2 := (hS.no rfl).2.2.2.2
          rw [hpn] at h2
          refine hpos 135 l.length (by decide) HLEN.out (parseN_head (f := (135, l.length)) hll ?_)
          rw [h2]
          rfl
        clear hS hCl HP HS HCL hpn hll hpos
        go_wp2_with (go_at_call 54; refine (HPL _).out.mono ?_; rintro x4 w4 ⟨rfl, b4⟩; have hr4 := HR3.out.on b4; have c0 := fun j => cell_row hr4.r0 j; have c1 := fun j => cell_row hr4.r1 j; have f0 := fun j => unfrozen_row hr4.r0 j; have f1 := fun j => unfrozen_row hr4.r1 j; have HR4 := hid hr4; clear b4 hr4)
        exact bodyPost_ret (v := .tuple #[cnfV 0 none 0 0 none 0 0, .agg #[.int .i64 135, .int .i64 ((spotN (l.take s.size)).1 : Int), .int .i64 ((spotN (l.take s.size)).2 : Int)]]) (by simp [results, Tryd.results30, go_sem, c0, c1]) rfl ⟨.inl ⟨135, s.size, by decide, hP.out, rfl⟩, ((((((HR4.out.below.setCell (p := ⟨w.heap.size, 0, none⟩) (by simp) _).setCell (p := ⟨w.heap.size, 1, none⟩) (by simp) _).setCell (p := ⟨w.heap.size, 2, none⟩) (by simp) _).setCell (p := ⟨w.heap.size + 1, 0, none⟩) (by simp) _).setCell (p := ⟨w.heap.size + 1, 1, none⟩) (by simp) _).setCell (p := ⟨w.heap.size + 1, 2, none⟩) (by simp) _)⟩
      | true =>
        obtain ⟨a1, a2, a3, a4, a5, a6, op, a7, a8⟩ := hS.yes rfl
        rw [hpn] at a7
        by_cases hEC : (E.length : Int) < C
        · have hP : Hid (parseN l = .error (135, some s.size)) := by
            refine hpos 135 l.length (by decide) HLEN.out (parseN_err (f := (135, l.length)) hll a1 ?_)
            rw [← a2, ← a3, a7, bodyRun, if_pos (.inr hEC)]
          have hEC2 : decide ((E.length : Int) < C) = true := by simpa using hEC
          clear hS hCl HP HS HCL hpn hll hpos a1 a2 a3 a5 a6 a7 a8
          go_wp2_with (go_at_call 54; refine (HPL _).out.mono ?_; rintro x4 w4 ⟨rfl, b4⟩; have hr4 := HR3.out.on b4; have c0 := fun j => cell_row hr4.r0 j; have c1 := fun j => cell_row hr4.r1 j; have f0 := fun j => unfrozen_row hr4.r0 j; have f1 := fun j => unfrozen_row hr4.r1 j; have HR4 := hid hr4; clear b4 hr4)
          exact bodyPost_ret (v := .tuple #[cnfV 0 none 0 0 none 0 0, .agg #[.int .i64 135, .int .i64 ((spotN (l.take s.size)).1 : Int), .int .i64 ((spotN (l.take s.size)).2 : Int)]]) (by simp [results, Tryd.results30, go_sem, c0, c1]) rfl ⟨.inl ⟨135, s.size, by decide, hP.out, rfl⟩, ((((((HR4.out.below.setCell (p := ⟨w.heap.size, 0, none⟩) (by simp) _).setCell (p := ⟨w.heap.size, 1, none⟩) (by simp) _).setCell (p := ⟨w.heap.size, 2, none⟩) (by simp) _).setCell (p := ⟨w.heap.size + 1, 0, none⟩) (by simp) _).setCell (p := ⟨w.heap.size + 1, 1, none⟩) (by simp) _).setCell (p := ⟨w.heap.size + 1, 2, none⟩) (by simp) _)⟩
        · have hop : ¬ (op = true ∨ (E.length : Int) < C) := by
            rintro (h | h)
            · exact hEC (a8 h)
            · exact hEC h
          have hbr : bodyRun l.length V C ((piecesFrom l 0 0).drop 4) [] [] false = .ok (E, L) := by rw [a7, bodyRun, if_neg hop]
          have hP : Hid (parseN l = .ok (V, E, L)) := by
            show _ = _
            have := parseN_ok (x := (E, L)) hll a1 (by rw [← a2, ← a3]; exact hbr)
            rw [← a2] at this
            exact this
          have hwf := bodyRun_wf ((piecesFrom l 0 0).drop 4) [] [] false (by simp) (by simp) (by simp) hbr
          have IE := hid (ints_own hCl.oe hwf.1)
          have IL := hid (ints_own hCl.ol hwf.2)
          have hEC2 : decide ((E.length : Int) < C) = false := by simpa using hEC
          have c0 := fun j => cell_row HR3.out.r0 j
          have c1 := fun j => cell_row HR3.out.r1 j
          have f0 := fun j => unfrozen_row HR3.out.r0 j
          have f1 := fun j => unfrozen_row HR3.out.r1 j
          clear hS hCl HP HS HCL hpn hll hpos a1 a2 a3 a5 a6 a7 a8 hop hbr hwf
          go_wp2_with fail
          have hbb := HB2.out
          refine bodyPost_ret (v := .tuple #[cnfV V se E.length ce sl L.length cl, .agg #[.int .i64 0, .int .i64 0, .int .i64 0]]) (by simp [results, Tryd.results30, go_sem, c0, c1]) rfl ⟨.inr ⟨V, E, L, hP.out, se, ce, sl, cl, rfl, ?_, ?_, hce, hcl⟩, ((((((HR3.out.below.setCell (p := ⟨w.heap.size, 0, none⟩) (by simp) _).setCell (p := ⟨w.heap.size, 1, none⟩) (by simp) _).setCell (p := ⟨w.heap.size, 2, none⟩) (by simp) _).setCell (p := ⟨w.heap.size + 1, 0, none⟩) (by simp) _).setCell (p := ⟨w.heap.size + 1, 1, none⟩) (by simp) _).setCell (p := ⟨w.heap.size + 1, 2, none⟩) (by simp) _)⟩
          · exact ((((((IE.out.store (by omega)).store (by omega)).store (by omega)).store (by omega)).store (by omega)).store (by omega)).mono (by omega)
          · exact ((((((IL.out.store (by omega)).store (by omega)).store (by omega)).store (by omega)).store (by omega)).store (by omega)).mono (by omega)
end Go.Proofs.YtdkboifpdodonaaDoor
