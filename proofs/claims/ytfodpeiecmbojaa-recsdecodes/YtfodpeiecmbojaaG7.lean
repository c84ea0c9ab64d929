/-
  RecsEncodes: the walk.
-/
import Derived.Test.YtfodpeiecmbojaaG3
import Derived.Test.YtfodpeiecmbojaaG5
import Derived.Test.YtfodpeiecmbojaaG6
namespace Go.Proofs.Ytfodpeiecmbojaa
open Go.RowKit Go.Deep PureCrc

theorem OwnR.touch {w w' : World} {base n : Nat} {v : Value} {l : List Nat} {F : List Nat} (h : OwnR w base v n l) (ht : Touch F w w') (hF : ∀ k, v.ownBlock = some k → k ∉ F) : OwnR w' base v n l := by
  refine ⟨h.1, ?_⟩
  rcases h.2 with hn | ⟨g, cap, cur, hv, hb, hg, rest⟩
  · exact .inl hn
  · exact .inr ⟨g, cap, cur, hv, hb, (ht.block g (lt_of_block hg) (hF g (by rw [hv]; rfl))).trans hg, rest⟩

/-- a row of records and two marks, as its slice shows it. -/
theorem full_shape {w : World} {base n : Nat} {v : Value} {l : List Nat} (h : OwnR w base v (n + 2) l) : ∃ g cap, v = .slice (some ⟨g, 0, none⟩) (n + 2) cap ∧ base ≤ g ∧ g < w.heap.size ∧ n + 2 ≤ cap ∧ Wd w g 0 l := by
  rcases h.2 with ⟨_, hn⟩ | ⟨g, cap, cur, hv, hb, hg, hc, _, _, ht⟩
  · omega
  · refine ⟨g, cap, hv, hb, lt_of_block hg, hc, fun i hi => ?_⟩
    have h1 := h.cells (g := g) (by rw [hv]; rfl) i (.int .u64 (l[i] : Int)) (by simp [wcl, List.getElem?_eq_getElem hi])
    have ha : (⟨g, 0, none⟩ : Addr).add i = ⟨g, 0 + i, none⟩ := by unfold Addr.add; split <;> simp_all
    rw [ha] at h1
    exact h1
theorem Wd.front {w : World} {b o : Nat} {l m : List Nat} (h : Wd w b o (l ++ m)) : Wd w b o l := fun i hi => by
  have := h i (by rw [List.length_append]; omega)
  rw [List.getElem_append_left hi] at this
  exact this

theorem OwnR.set {w : World} {base g cap m : Nat} {l : List Nat} (h : OwnR w base (.slice (some ⟨g, 0, none⟩) m cap) m l) {i : Nat} (hi : i < l.length) (v : Nat) :
    OwnR (w.setCell ⟨g, i, none⟩ (.int .u64 (v : Int))) base (.slice (some ⟨g, 0, none⟩) m cap) m (l.set i v) ∧ w.cell? ⟨g, i, none⟩ = some (.int .u64 (l[i] : Int)) ∧ w.frozen? ⟨g, i, none⟩ = false := by
  have hl := h.len
  rcases h.2 with ⟨hv, _⟩ | ⟨g', cap', cur, hv, hb, hg, hc, hm, hs, ht⟩
  · simp at hv
  · simp at hv
    obtain ⟨rfl, rfl⟩ := hv
    have hcs : i < cur.size := by omega
    have hcell : cur[i]? = some (.int .u64 (l[i] : Int)) := by
      have h1 : (cur.toList.take (m * 4))[i]? = (wcl l)[i]? := by rw [ht]
      rw [List.getElem?_take_of_lt (by omega)] at h1
      simpa [wcl, List.getElem?_eq_getElem hi] using h1
    refine ⟨⟨by simp [wcl]; omega, .inr ⟨g, cap, cur.setIfInBounds i (.int .u64 (v : Int)), rfl, hb, heap_setCell_row hg i _, hc, hm, by simp [hs], ?_⟩⟩, (cell_row hg i).trans hcell, unfrozen_row hg i⟩
    rw [Array.toList_setIfInBounds, List.take_set, ht]
    simp [wcl, List.map_set]

set_option maxRecDepth 100000 in
set_option maxHeartbeats 8000000 in
theorem encodes_law (kind place wide : Int) (sa : Option Addr) (n c : Nat) (ws : List Nat) (w : World) (hk : I64 kind) (hp : I64 place) (hr : Rs w sa n ws) (hlt : ∀ x ∈ ws, x < 18446744073709551616) (hn2 : n ≤ 4398046511000) :
    Calls Try.prog 6 #[pieceV kind place wide sa n c] w fun e w' => e = .returned (.bool true) ∧ Touch [] w w' := by
  have hn : n ≤ 4398046511102 := by omega
  have hl := hr.len
  obtain ⟨bs, bl, bn, E1, R1⟩ := enc_pair kind place wide hk hp n ws hl hlt
  obtain ⟨bz, zl, zn, E2, R2⟩ := enc_pair kind place wide hk hp n (rev ws n n) (rev_length hl n (Nat.le_refl _)) (fun x hx => hlt x (rev_mem n hx))
  have P3 := hid (fun (ws2 : List Nat) (h1 : ws2.length = 4 * n) (h2 : ∀ x ∈ ws2, x < 18446744073709551616) => enc_pair kind place wide hk hp n ws2 h1 h2)
  obtain ⟨er, her⟩ : ∃ er, er = encE kind place wide n := ⟨_, rfl⟩
  rw [← her] at E1 R1 E2 R2 P3
  obtain ⟨w0, hw0⟩ : ∃ w0, w0 = w.alloc (.cells #[.int .i64 kind, .int .i64 place, .slice sa n c, .int .i64 wide] 34) := ⟨_, rfl⟩
  have rb : w0.heap[w.heap.size]? = some (.cells #[.int .i64 kind, .int .i64 place, .slice sa n c, .int .i64 wide] 34 (0, 0)) := by rw [hw0]; exact heap_alloc_new w _
  have t0 : Touch [] w w0 := by rw [hw0]; exact (Touch.refl [] w).alloc _
  have cb := fun i => cell_row rb i
  have HW0 := hid hw0
  have T0 := hid t0
  have RL : Hid (∀ W, Touch [] w W → Rs W sa n ws) := fun W h => hr.touch h (by simp)
  have HE1 := hid E1
  have HE2 := hid E2
  have HR1 := hid R1
  have HR2 := hid R2
  have HL := hid hl
  have HLT := hid hlt
  have BL := hid bl
  have ZL := hid zl
  clear hw0 rb t0 hr E1 E2 R1 R2 hk hp her hl hlt bl zl
  unfold pieceV
  go_enter Try.func6, Try.ntmps6
  go_wp2_with (first | (rw [← HW0.out]))
  have A1 := hid (roomy_any (c := c) (RL.out w0 T0.out) hn)
  with_reducible refine A1.out.mono ?_
  rintro e w1 ⟨sf, rfl, f1, t1⟩
  obtain ⟨gf, cf, rfl, hgf, hgl, hcf, hwf⟩ := full_shape f1
  have S1 := hid t1.size
  have T1 := hid (T0.out.trans t1 (by simp))
  have F1 := hid f1
  have HGF := hid hgf
  have HGL := hid hgl
  have hcf' : n ≤ cf := by omega
  clear f1 t1 hwf A1 hgf hgl hcf HW0 cb
  go_wp2_with fail
  have RF : Hid (∀ W, Touch [] w1 W → OwnR W w0.heap.size (.slice (some ⟨gf, 0, none⟩) (n + 2) cf) (n + 2) (ws ++ [7, 7, 7, 7, 8, 8, 8, 8])) := fun W h => F1.out.touch h (by simp)
  have RN : Hid (∀ W, Touch [] w1 W → Rs W (some ⟨gf, 0, none⟩) n ws) := fun W h => ⟨HL.out, fun _ => by
    obtain ⟨g', c', e', _, hl', _, hw'⟩ := full_shape (RF.out W h)
    simp only [Value.slice.injEq, Option.some.injEq, Addr.mk.injEq, and_true, true_and] at e'
    obtain ⟨rfl, _⟩ := e'
    exact ⟨gf, 0, rfl, hl', hw'.front⟩⟩
  have RW : Hid (∀ W, Touch [] w1 W → Rs W sa n ws) := fun W h => RL.out W (T1.out.trans h (by simp))
  have u1 : Touch [] w1 w1 := Touch.refl _ _
  -- x
  with_reducible refine (HE1.out w1 _ cf (RN.out w1 u1)).mono ?_
  rintro e w2 ⟨x, rfl, ox, t2⟩
  have U2 := hid t2
  have OX := hid ox
  clear ox t2 u1
  go_wp2_with fail
  -- y
  with_reducible refine (HE1.out w2 _ cf (RN.out w2 U2.out)).mono ?_
  rintro e w3 ⟨y, rfl, oy, t3⟩
  have U3 := hid (U2.out.trans t3 (by simp))
  have V3 := hid t3
  have OY := hid oy
  clear oy t3
  go_wp2_with fail
  -- turned
  with_reducible refine (turned_any (c := c) (RW.out w3 U3.out) hn).mono ?_
  rintro e w4 ⟨tv, rfl, o4, t4⟩
  obtain ⟨st, ct, rfl, hct, hst⟩ := o4.shape
  have U4 := hid (U3.out.trans t4 (by simp))
  have V4 := hid t4
  have HST := hid hst
  clear o4 t4 hct hst
  go_wp2_with fail
  -- z
  with_reducible refine (HE2.out w4 _ ct HST.out).mono ?_
  rintro e w5 ⟨z, rfl, oz, t5⟩
  have U5 := hid (U4.out.trans t5 (by simp))
  have V5 := hid t5
  have OZ := hid oz
  clear oz t5 HST
  go_wp2_with fail
  -- c
  with_reducible refine (HR1.out w5 _ c (RW.out w5 U5.out)).mono ?_
  rintro e w6 ⟨cv, rfl, oc, t6⟩
  have U6 := hid (U5.out.trans t6 (by simp))
  have V6 := hid t6
  have OC := hid oc
  clear oc t6
  go_wp2_with fail
  -- turned
  with_reducible refine (turned_any (c := c) (RW.out w6 U6.out) hn).mono ?_
  rintro e w7 ⟨tv2, rfl, o7, t7⟩
  obtain ⟨st2, ct2, rfl, hct, hst⟩ := o7.shape
  have U7 := hid (U6.out.trans t7 (by simp))
  have V7 := hid t7
  have HST := hid hst
  clear o7 t7 hct hst
  go_wp2_with fail
  -- d
  with_reducible refine (HR2.out w7 _ ct2 HST.out).mono ?_
  rintro e w8 ⟨dv, rfl, od, t8⟩
  have U8 := hid (U7.out.trans t8 (by simp))
  have z58 : Touch [] w5 w8 := ((V6.out.trans V7.out (by simp)).trans t8 (by simp))
  have z38 : Touch [] w3 w8 := ((V4.out.trans V5.out (by simp)).trans z58 (by simp))
  have z28 : Touch [] w2 w8 := V3.out.trans z38 (by simp)
  have z68 : Touch [] w6 w8 := V7.out.trans t8 (by simp)
  have ox8 : OwnB w8 w1.heap.size x bs := OX.out.touch z28 (by simp)
  have oy8 : OwnB w8 w2.heap.size y bs := OY.out.touch z38 (by simp)
  have oz8 : OwnB w8 w4.heap.size z bz := OZ.out.touch z58 (by simp)
  have oc8 : OwnB w8 w5.heap.size cv bs := OC.out.touch z68 (by simp)
  have x1 := conv_own ox8
  have x2 := conv_own oy8
  have x3 := conv_own oz8
  have x4 := conv_own oc8
  have x5 := conv_own od
  obtain ⟨Sb, hSb⟩ : ∃ S, S = strOf bs := ⟨_, rfl⟩
  obtain ⟨Sz, hSz⟩ : ∃ S, S = strOf bz := ⟨_, rfl⟩
  rw [← hSb] at x1 x2 x4
  rw [← hSz] at x3 x5
  have HSB := hid hSb
  have LX : Hid (∀ k, x.ownBlock = some k → w1.heap.size ≤ k ∧ k < w2.heap.size) := fun k hk => OX.out.lt k hk
  have LY : Hid (∀ k, y.ownBlock = some k → w2.heap.size ≤ k ∧ k < w3.heap.size) := fun k hk => OY.out.lt k hk
  have LZ : Hid (∀ k, z.ownBlock = some k → w4.heap.size ≤ k ∧ k < w5.heap.size) := fun k hk => OZ.out.lt k hk
  have LC : Hid (∀ k, cv.ownBlock = some k → w5.heap.size ≤ k ∧ k < w6.heap.size) := fun k hk => OC.out.lt k hk
  have s12 := U2.out.size
  have s23 := V3.out.size
  have s34 := V4.out.size
  have s45 := V5.out.size
  have s56 := V6.out.size
  have HSS := hid (And.intro s12 (And.intro s23 (And.intro s34 (And.intro s45 s56))))
  have OX8 := hid ox8
  have OY8 := hid oy8
  have OZ8 := hid oz8
  have OC8 := hid oc8
  clear ox8 oy8 oz8 oc8 od z58 z38 z28 z68 t8 OX OY OZ OC s12 s23 s34 s45 s56 hSb hSz U2 U3 U4 U5 U6 U7 V3 V4 V5 V6 V7 HST HE2 HR2
  go_wp2_with fail
  -- roomy, same
  with_reducible refine (roomy_any (c := c) (RW.out w8 U8.out) hn).mono ?_
  rintro e w9 ⟨rv, rfl, o9, t9⟩
  obtain ⟨sr, cr, rfl, _, hsr⟩ := o9.shape
  have U9 := hid (U8.out.trans t9 (by simp))
  have W9 := hid t9
  obtain ⟨_, _, e9, _, hs9⟩ := (RF.out w9 U9.out).shape
  simp only [Value.slice.injEq, true_and] at e9
  have e9a := e9.1
  rw [← e9a] at hs9
  clear e9 e9a
  have SM := hid (same_true cf cr hs9 hsr (by omega))
  clear o9 t9 hsr hs9 x1 x2 x3 x4 x5
  go_wp2_with fail
  with_reducible refine SM.out.mono ?_
  rintro e w10 ⟨rfl, q10, hq10⟩
  have t10 : Touch [] w9 w10 := by rw [hq10]; exact (Touch.refl _ _).drewN _
  have U10 := hid (U9.out.trans t10 (by simp))
  have z810 : Touch [] w8 w10 := W9.out.trans t10 (by simp)
  have b12 := HSS.out.1
  have b23 := HSS.out.2.1
  have b34 := HSS.out.2.2.1
  have b45 := HSS.out.2.2.2.1
  have ox10 : OwnB w10 w1.heap.size x bs := OX8.out.touch z810 (by simp)
  have oy10 : OwnB w10 w1.heap.size y bs := (OY8.out.touch z810 (by simp)).base (fun k hk => by have := (LY.out k hk).1; omega)
  have oz10 : OwnB w10 w1.heap.size z bz := (OZ8.out.touch z810 (by simp)).base (fun k hk => by have := (LZ.out k hk).1; omega)
  have oc10 : OwnB w10 w5.heap.size cv bs := OC8.out.touch z810 (by simp)
  have AP := hid (apart_any w1.heap.size x y z bs bs bz w10 ox10 oy10 oz10 U10.out.size
    (fun k h1 h2 => by have := LX.out k h1; have := LY.out k h2; omega)
    (fun k h1 h2 => by have := LX.out k h1; have := LZ.out k h2; omega)
    (fun k h1 h2 => by have := LY.out k h1; have := LZ.out k h2; omega) bn bn zn)
  have OC10 := hid oc10
  have HF1 := hid (fun W => fit_any wide W)
  have HF2 := hid (fun W => rfit_any wide W)
  obtain ⟨fz, hfz⟩ : ∃ fz, fz = fitN wide := ⟨_, rfl⟩
  rw [← hfz] at HF1 HF2
  clear hq10 t10 z810 ox10 oy10 oz10 oc10 SM W9 OX8 OY8 OZ8 OC8 b12 b23 b34 b45 hfz
  go_wp2_with (first
    | (go_at_call 12; with_reducible refine (HF1.out _).mono ?_; rintro e w4 ⟨rfl, hh⟩; have hh := hh.symm; subst hh)
    | (go_at_call 17; with_reducible refine (HF2.out _).mono ?_; rintro e w4 ⟨rfl, hh⟩; have hh := hh.symm; subst hh))
  -- apart
  with_reducible refine AP.out.mono ?_
  rintro e w11 ⟨rfl, t11⟩
  have u11 : Touch [] w1 w11 := U10.out.trans t11 (fun b hb => by
    right
    have b12 := HSS.out.1
    have b23 := HSS.out.2.1
    have b34 := HSS.out.2.2.1
    simp only [List.mem_append, Option.mem_toList] at hb
    rcases hb with h | h | h
    · exact (LX.out b h).1
    · have := (LY.out b h).1; omega
    · have := (LZ.out b h).1; omega)
  have oc11 : OwnB w11 w5.heap.size cv bs := OC10.out.touch t11 (fun k hk hm => by
    have b23 := HSS.out.2.1
    have b34 := HSS.out.2.2.1
    have b45 := HSS.out.2.2.2.1
    have hc5 := (LC.out k hk).1
    simp only [List.mem_append, Option.mem_toList] at hm
    rcases hm with h | h | h
    · have := (LX.out k h).2; omega
    · have := (LY.out k h).2; omega
    · have := (LZ.out k h).2; omega)
  have U11 := hid u11
  have OC11 := hid oc11
  clear t11 u11 oc11 AP OC10 LX LY LZ LC HSS HF1 HF2
  go_wp2_with fail
  -- x again
  with_reducible refine (HE1.out w11 _ cf (RN.out w11 U11.out)).mono ?_
  rintro e w12 ⟨xx, rfl, ox, t12⟩
  have oc12 : OwnB w12 w5.heap.size cv bs := OC11.out.touch t12 (by simp)
  have x1 := conv_own ox
  have x2 := conv_own oc12
  rw [← HSB.out] at x1 x2
  have U12 := hid (U11.out.trans t12 (by simp))
  clear ox t12 oc12 OC11
  go_wp2_with fail
  with_reducible refine (roomy_any (c := c) (RW.out w12 U12.out) hn).mono ?_
  rintro e w13 ⟨rv2, rfl, o9, t9⟩
  obtain ⟨sr2, cr2, rfl, _, hsr⟩ := o9.shape
  have U13 := hid (U12.out.trans t9 (by simp))
  obtain ⟨_, _, e9, _, hs9⟩ := (RF.out w13 U13.out).shape
  simp only [Value.slice.injEq, true_and] at e9
  have e9a := e9.1
  rw [← e9a] at hs9
  clear e9 e9a
  have SM := hid (same_true cf cr2 hs9 hsr (by omega))
  clear o9 t9 hsr hs9 x1 x2
  go_wp2_with fail
  with_reducible refine SM.out.mono ?_
  rintro e w14 ⟨rfl, q14, hq14⟩
  have u14 : Touch [] w1 w14 := U13.out.trans (show Touch [] w13 w14 by rw [hq14]; exact (Touch.refl _ _).drewN _) (by simp)
  have f14 := RF.out w14 u14
  have T14 := hid (T1.out.trans u14 (by simp))
  have F14 := hid f14
  clear hq14 u14 f14 SM U8 U9 U10 U11 U12 U13 RF RN HE1 HR1 F1
  go_wp2_with fail
  have hg0 : w.heap.size ≤ gf := Nat.le_trans T0.out.size HGF.out
  have HG0 := hid hg0
  clear hg0 T1 RW RL HSB S1
  go_loopw [18] (fun i W => ∃ (k : Nat) (ws2 : List Nat), k ≤ n ∧ i = .int .i64 k ∧ ws2.length = 4 * n ∧ (∀ x ∈ ws2, x < 18446744073709551616) ∧ OwnR W w0.heap.size (.slice (some ⟨gf, 0, none⟩) (n + 2) cf) (n + 2) (ws2 ++ [7, 7, 7, 7, 8, 8, 8, 8]) ∧ Touch [] w W) (fun i _ => n - (intOf i).toNat)
  case atStart => exact ⟨0, ws, Nat.zero_le _, rfl, HL.out, HLT.out, F14.out, T14.out⟩
  case round =>
    obtain ⟨k, ws2, hk, rfl, h1, h2, h3, h4⟩ := hrel
    by_cases hlt : k < n
    · have hi : k * 4 + k % 4 < (ws2 ++ [7, 7, 7, 7, 8, 8, 8, 8]).length := by rw [List.length_append]; omega
      have hi2 : k * 4 + k % 4 < ws2.length := by omega
      obtain ⟨s1, s2, s3⟩ := h3.set hi (((ws2 ++ [7, 7, 7, 7, 8, 8, 8, 8])[k * 4 + k % 4] + 1) % 18446744073709551616)
      have hx : (ws2 ++ [7, 7, 7, 7, 8, 8, 8, 8])[k * 4 + k % 4] < 18446744073709551616 := by
        rw [List.getElem_append_left hi2]
        exact h2 _ (List.getElem_mem hi2)
      obtain ⟨x, hxd⟩ : ∃ x, x = (ws2 ++ [7, 7, 7, 7, 8, 8, 8, 8])[k * 4 + k % 4] := ⟨_, rfl⟩
      rw [← hxd] at s1 s2 hx
      rw [List.set_append_left _ _ hi2] at s1
      have htm : (k : Int).tmod 4 = ((k % 4 : Nat) : Int) := by rw [Int.tmod_eq_emod_of_nonneg (by omega)]; omega
      have HLS : Hid ((ws2.set (k * 4 + k % 4) ((x + 1) % 18446744073709551616)).length = 4 * n) := by show _ = _; rw [List.length_set]; exact h1
      have HMS : Hid (∀ y ∈ ws2.set (k * 4 + k % 4) ((x + 1) % 18446744073709551616), y < 18446744073709551616) := fun y hy => by
        rcases List.mem_or_eq_of_mem_set hy with h | rfl
        · exact h2 y h
        · exact Nat.mod_lt _ (by decide)
      have hwr : IntKind.u64.wrap ((x : Int) + 1) = (((x + 1) % 18446744073709551616 : Nat) : Int) := by rw [IntKind.wrap_u64]; omega
      have HS1 := hid s1
      have H4 := hid h4
      have HWR := hid hwr
      have hm4 : k % 4 < 4 := by omega
      clear h1 h2 h3 h4 s1 hxd hi hi2 hwr
      go_wp2_with fail
      go_region
      all_goals
        go_wp2_with fail
        rw [HWR.out]
        exact ⟨⟨k + 1, _, hlt, rfl, HLS.out, HMS.out, HS1.out, (H4.out.setCell (.inr HG0.out) _).drew⟩, by simp [intOf]; omega⟩
    · have e : k = n := by omega
      subst e
      obtain ⟨b3, l3, m3, E3, R3⟩ := P3.out ws2 h1 h2
      obtain ⟨g', c', e', _, hl', _, hw'⟩ := full_shape h3
      simp only [Value.slice.injEq, Option.some.injEq, Addr.mk.injEq, and_true, true_and] at e'
      have hg' := e'.1
      rw [← hg'] at hl' hw'
      have hrs : Rs wr (some ⟨gf, 0, none⟩) k ws2 := ⟨h1, fun _ => ⟨gf, 0, rfl, hl', hw'.front⟩⟩
      have HRS := hid hrs
      have HE3 := hid E3
      have HR3 := hid R3
      have H4 := hid h4
      clear h1 h2 h3 h4 hl' hw' e' hg' hrs E3 R3 P3 F14 T14 l3 m3 BL ZL HL HLT
      go_wp2_with (first
        | (at_builtin; refine wpList_copyR _ rfl _ rfl (some ⟨gf, 0, none⟩) k cf ws2 rfl HRS.out hn ?_; intro v1 w1 r1 r2; have O1 := hid r1; have B1 := hid r2; clear r1 r2))
      obtain ⟨s5, c5, rfl, _, hs5⟩ := O1.out.shape
      with_reducible refine (HR3.out _ _ c5 hs5).mono ?_
      rintro e w6 ⟨cv2, rfl, oc, t6⟩
      have V6 := hid t6
      have OC := hid oc
      have tb : Touch [] wr w6 := (Touch.of_below B1.out (Nat.le_refl _)).trans t6 (by simp)
      have TB := hid tb
      have RS6 := hid (HRS.out.touch tb (by simp))
      clear oc t6 tb hs5
      go_wp2_with fail
      with_reducible refine (HE3.out w6 _ cf RS6.out).mono ?_
      rintro e w7 ⟨xv, rfl, ox, t7⟩
      have oc7 := OC.out.touch t7 (by simp)
      have x1 := conv_own ox
      have x2 := conv_own oc7
      obtain ⟨S3, hS3⟩ : ∃ S, S = strOf b3 := ⟨_, rfl⟩
      rw [← hS3] at x1 x2
      have T7 := hid ((H4.out.trans TB.out (by simp)).trans t7 (by simp))
      clear ox oc7 t7 hS3 OC
      go_wp2_with fail
      go_ret
      exact ⟨rfl, T7.out⟩
end Go.Proofs.Ytfodpeiecmbojaa
