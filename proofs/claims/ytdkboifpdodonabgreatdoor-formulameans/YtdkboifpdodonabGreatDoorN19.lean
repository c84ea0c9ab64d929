import Derived.Test.YtdkboifpdodonabGreatDoorN18
set_option linter.unusedSimpArgs false
/-
  FormulaMeans: the law over contracts of the program's Parse, Print and Eval.
-/
namespace Go.Proofs.YtdkboifpdodonabGreatDoor.Doc
open Go.RowKit Go.Deep PureCnf PureForm
set_option maxRecDepth 100000

set_option maxHeartbeats 4000000 in
set_option maxRecDepth 100000 in
theorem means_neg {K : World → Prop} (hP : ParseC K 13) (hR : PrintK K 11) (hE : EvalC 18) (f g : List Nd) (sf sg : Option Addr) (cf cg : Nat) (v : Int) (L : List Bool) (sb : Option Addr) (cb : Nat) (w : World) (hk : K w) (hf : NodesAt w sf f) (hg : NodesAt w sg g) (hb : BitsAt w sb L) (hcf : sf = none → cf = 0) (hcg : sg = none → cg = 0) (hcb : sb = none → cb = 0)
    (hlf : f.length ≤ 9223372036854775807) (hlg : g.length ≤ 9223372036854775807) (hL : L.length ≤ 140737488351232) (hv0 : -9223372036854775808 ≤ v) (hv1 : v ≤ 9223372036854775807) (hneg : v < 0) :
    Calls Tryz.prog 7 #[.slice sf f.length cf, .slice sg g.length cg, .int .i64 v, .slice sb L.length cb] w fun e w' => e = .returned (.bool true) ∧ Below w.heap.size w w' := by
  have HA := hid (alive_any hP hR w hk)
  obtain ⟨a, n1, hV1, hz1, hy1⟩ := eval_shape f L
  obtain ⟨b, n2, hV2, hz2, hy2⟩ := eval_shape g L
  have E1 : Hid (∀ (W : World), Below w.heap.size w W → Calls Tryz.prog 18 #[.slice sf f.length cf, .slice sb L.length cb] W fun e w' => e = .returned (.tuple #[.bool a, .int .i64 n1]) ∧ Below W.heap.size W w') := fun W hW => by
    have := hE f sf cf L sb cb W (hf.below hW) (hb.below hW) (by omega) (by omega)
    rwa [hV1] at this
  have E2 : Hid (∀ (W : World), Below w.heap.size w W → Calls Tryz.prog 18 #[.slice sg g.length cg, .slice sb L.length cb] W fun e w' => e = .returned (.tuple #[.bool b, .int .i64 n2]) ∧ Below W.heap.size W w') := fun W hW => by
    have := hE g sg cg L sb cb W (hg.below hW) (hb.below hW) (by omega) (by omega)
    rwa [hV2] at this
  have R1 : Hid (∀ (W : World), Below w.heap.size w W → Calls Tryz.prog 19 #[.slice sf f.length cf, .slice sb L.length cb] W fun e w' => e = .returned (.tuple #[.bool a, .int .i64 n1]) ∧ Below W.heap.size W w') := fun W hW => by
    have := eval_any f sf cf L sb cb W (hf.below hW) (hb.below hW) (by omega) (by omega)
    rwa [hV1] at this
  have R2 : Hid (∀ (W : World), Below w.heap.size w W → Calls Tryz.prog 19 #[.slice sg g.length cg, .slice sb L.length cb] W fun e w' => e = .returned (.tuple #[.bool b, .int .i64 n2]) ∧ Below W.heap.size W w') := fun W hW => by
    have := eval_any g sg cg L sb cb W (hg.below hW) (hb.below hW) (by omega) (by omega)
    rwa [hV2] at this
  obtain ⟨vn, hvn, hrem⟩ : ∃ vn : Nat, vn < 1000 ∧ Int.tmod (-(v + 1)) 1000 = (vn : Int) := by
    refine ⟨(Int.tmod (-(v + 1)) 1000).toNat, ?_, ?_⟩
    · have := Int.tmod_lt_of_pos (-(v + 1)) (show (0 : Int) < 1000 by decide)
      omega
    · have := Int.tmod_nonneg 1000 (show (0 : Int) ≤ -(v + 1) by omega)
      omega
  have HEV := hid hE
  have HF := hid hf
  have HG := hid hg
  have HB := hid hb
  have HCF := hid hcf
  have HCG := hid hcg
  have HCB := hid hcb
  clear hP hR hE hk hf hg hb hcf hcg hcb hV1 hV2
  by_cases h1 : n1 = 0
  · subst h1
    by_cases h2 : n2 = 0
    · subst h2
      have ea := hz1 rfl
      have eb := hz2 rfl
      have hf6 := ok_small ea
      have hg6 := ok_small eb
      have EA := hid ea
      have EB := hid eb
      clear hz1 hz2 hy1 hy2 ea eb
      cases a <;> cases b
      · go_enter Tryz.func7, Tryz.ntmps7
        go_wp2_with (first
          | (have q := B4; clear q; go_at_call 19; refine (R2.out _ B4.out).mono ?_; rintro e w5 ⟨rfl, b5⟩; have B5 := hid (B4.out.trans (b5.mono B4.out.size)); clear b5)
          | (have q := B3; clear q; go_at_call 19; refine (R1.out _ B3.out).mono ?_; rintro e w4 ⟨rfl, b4⟩; have B4 := hid (B3.out.trans (b4.mono B3.out.size)); clear b4)
          | (have q := B2; clear q; go_at_call 18; refine (E2.out _ B2.out).mono ?_; rintro e w3 ⟨rfl, b3⟩; have B3 := hid (B2.out.trans (b3.mono B2.out.size)); clear b3)
          | (have q := B1; clear q; go_at_call 18; refine (E1.out _ B1.out).mono ?_; rintro e w2 ⟨rfl, b2⟩; have B2 := hid (B1.out.trans (b2.mono B1.out.size)); clear b2)
          | (go_at_call 9; refine HA.out.mono ?_; rintro e w1 ⟨rfl, b1⟩; have B1 := hid b1; clear b1))
        have HROW : Hid (∀ W, Below (w5.alloc (Obj.cells #[.bool false, .bool false, .bool false, .bool true, .bool true] 45)).heap.size (w5.alloc (Obj.cells #[.bool false, .bool false, .bool false, .bool true, .bool true] 45)) W → ∀ k : Nat, k < 5 → W.cell? ⟨w5.heap.size, k, none⟩ = some (.bool (wantB false false k))) := fun W hW k hk5 => by
          have r := (hW.block w5.heap.size (by simp)).trans (heap_alloc_new w5 _)
          rw [cell_row r]
          obtain rfl | rfl | rfl | rfl | rfl : k = 0 ∨ k = 1 ∨ k = 2 ∨ k = 3 ∨ k = 4 := by omega
          all_goals rfl
        have BK : Hid (Below w.heap.size w (w5.alloc (Obj.cells #[.bool false, .bool false, .bool false, .bool true, .bool true] 45))) := B5.out.alloc B5.out.size _
        go_loopw [19] (fun kv W => ∃ k : Nat, k ≤ 5 ∧ kv = .int .i64 (k : Int) ∧ Hid (Below (w5.alloc (Obj.cells #[.bool false, .bool false, .bool false, .bool true, .bool true] 45)).heap.size (w5.alloc (Obj.cells #[.bool false, .bool false, .bool false, .bool true, .bool true] 45)) W)) (fun kv _ => 5 - (intOf kv).toNat)
        case atStart => exact ⟨0, by omega, rfl, Below.refl _ _⟩
        case round =>
          obtain ⟨k, hk5, rfl, HW⟩ := hrel
          have BW : Hid (Below w.heap.size w wr) := BK.out.trans (HW.out.mono BK.out.size)
          by_cases hlt : k < 5
          · have hltI : (k : Int) < 5 := by omega
            obtain ⟨y, hy⟩ : ∃ y, y = wantB false false k := ⟨_, rfl⟩
            obtain ⟨l, hl⟩ : ∃ l, l = f ++ g ++ [((6 : Int) + (k : Int), 0)] := ⟨_, rfl⟩
            obtain ⟨x, n3, hV3, hz3, hy3⟩ := eval_shape l L
            obtain ⟨p, hp⟩ : ∃ p, p = formedF l := ⟨_, rfl⟩
            have HP3 : Hid (p = true → x = y ∧ n3 = 0) := fun e => by
              rw [hy]
              exact hy3 _ (by rw [hl]; exact both_ok EA.out EB.out hlt (by rw [← hl, ← hp]; exact e))
            have hll : l.length ≤ 1099511627776 := by rw [hl]; simp; omega
            have C1 : Hid (∀ W, Below w.heap.size w W → Calls Tryz.prog 20 #[.slice sf f.length cf, .slice sg g.length cg, .int .i64 (6 + (k : Int))] W fun e w' => ∃ sx cx, e = .returned (.slice sx l.length cx) ∧ NodesAt w' sx l ∧ Below W.heap.size W w') := fun W hW => by
              rw [hl]
              exact both_any f g sf sg cf cg (6 + (k : Int)) W (HF.out.below hW) (HG.out.below hW) HCF.out HCG.out (by omega)
            have C2 : Hid (∀ W sx cx, Below w.heap.size w W → NodesAt W sx l → Calls Tryz.prog 18 #[.slice sx l.length cx, .slice sb L.length cb] W fun e w' => e = .returned (.tuple #[.bool x, .int .i64 n3]) ∧ Below W.heap.size W w') := fun W sx cx hW hn => by
              have := HEV.out l sx cx L sb cb W hn (HB.out.below hW) (by omega) (by omega)
              rwa [hV3] at this
            have C3 : Hid (∀ W sx cx, NodesAt W sx l → Calls Tryz.prog 21 #[.slice sx l.length cx] W fun e w' => e = .returned (.bool p) ∧ Below W.heap.size W w') := fun W sx cx hn => by
              have := formed_any l sx cx W hn (by omega)
              rwa [← hp] at this
            have HRK : Hid (∀ W, Below wr.heap.size wr W → W.cell? ⟨w5.heap.size, k, none⟩ = some (.bool y)) := fun W hW => by
              rw [hy]
              exact HROW.out W (HW.out.trans (hW.mono HW.out.size)) k hlt
            clear hl hV3 hz3 hy3 hp hll hy
            cases p with
            | true =>
              obtain ⟨rfl, rfl⟩ := HP3.out rfl
              clear HP3
              cases x
              all_goals
                go_wp2_with (first
                  | (have q := D2; clear q; go_at_call 21; refine (C3.out _ _ _ N2.out).mono ?_; rintro e w8 ⟨rfl, b8⟩; have ck := HRK.out w8 (D2.out.trans (b8.mono D2.out.size)); have hs8 : w5.heap.size < w8.heap.size := (Nat.lt_of_lt_of_le (Nat.lt_of_lt_of_le (by simp) HW.out.size) (D2.out.trans (b8.mono D2.out.size)).size); have D3 := hid (D2.out.trans (b8.mono D2.out.size)); clear b8)
                  | (have q := D1; clear q; go_at_call 18; refine (C2.out _ _ _ (BW.out.trans (D1.out.mono BW.out.size)) N1.out).mono ?_; rintro e w7 ⟨rfl, b7⟩; have N2 := hid (N1.out.below b7); have D2 := hid (D1.out.trans (b7.mono D1.out.size)); clear b7)
                  | (go_at_call 20; refine (C1.out _ BW.out).mono ?_; rintro e w6 ⟨sx, cx, rfl, n6, b6⟩; have N1 := hid n6; have D1 := hid b6; clear b6 n6))
                exact ⟨⟨k + 1, hlt, by go_num, HW.out.trans (D3.out.mono HW.out.size)⟩, by simp [intOf]; omega⟩
            | false =>
              go_wp2_with (first
                | (have q := D2; clear q; go_at_call 21; refine (C3.out _ _ _ N2.out).mono ?_; rintro e w8 ⟨rfl, b8⟩; have D3 := hid (D2.out.trans (b8.mono D2.out.size)); clear b8)
                | (have q := D1; clear q; go_at_call 18; refine (C2.out _ _ _ (BW.out.trans (D1.out.mono BW.out.size)) N1.out).mono ?_; rintro e w7 ⟨rfl, b7⟩; have N2 := hid (N1.out.below b7); have D2 := hid (D1.out.trans (b7.mono D1.out.size)); clear b7)
                | (go_at_call 20; refine (C1.out _ BW.out).mono ?_; rintro e w6 ⟨sx, cx, rfl, n6, b6⟩; have N1 := hid n6; have D1 := hid b6; clear b6 n6))
              exact ⟨⟨k + 1, hlt, by go_num, HW.out.trans (D3.out.mono HW.out.size)⟩, by simp [intOf]; omega⟩
          · have hk : k = 5 := by omega
            subst hk
            obtain ⟨l2, hl2⟩ : ∃ l, l = f ++ [((3 : Int), (0 : Int))] := ⟨_, rfl⟩
            obtain ⟨l4, hl4⟩ : ∃ l, l = f ++ [((4 : Int), (vn : Int))] := ⟨_, rfl⟩
            obtain ⟨l5, hl5⟩ : ∃ l, l = f ++ [((5 : Int), (vn : Int))] := ⟨_, rfl⟩
            obtain ⟨x2, n3, hV3, hz3, hy3⟩ := eval_shape l2 L
            obtain ⟨x4, n4, hV4, hz4, hy4⟩ := eval_shape l4 L
            obtain ⟨x5, n5, hV5, hz5, hy5⟩ := eval_shape l5 L
            obtain ⟨p, hp⟩ : ∃ p, p = formedF l2 := ⟨_, rfl⟩
            obtain ⟨lo, hlo⟩ : ∃ x, x = turnB f L vn false := ⟨_, rfl⟩
            obtain ⟨hi, hhi⟩ : ∃ x, x = turnB f L vn true := ⟨_, rfl⟩
            have HP2 : Hid (p = true → x2 = !false ∧ n3 = 0) := fun e => hy3 _ (by rw [hl2]; exact not_ok EA.out (by rw [← hl2, ← hp]; exact e))
            have HQ : Hid ((x4 = (lo || hi) ∧ n4 = 0 ∧ x5 = (lo && hi) ∧ n5 = 0) ∨ n4 ≠ 0) := by
              rcases quant_ok (v := vn) (by omega) EA.out with ⟨q1, q2⟩ | ⟨n, q1⟩
              · rw [← hl4, ← hlo, ← hhi] at q1
                rw [← hl5, ← hlo, ← hhi] at q2
                exact .inl ⟨(hy4 _ q1).1, (hy4 _ q1).2, (hy5 _ q2).1, (hy5 _ q2).2⟩
              · right
                intro h0
                have := hz4 h0
                rw [hl4, q1] at this
                cases this
            have h2l : l2.length ≤ 1099511627776 := by rw [hl2]; simp; omega
            have h4l : l4.length ≤ 1099511627776 := by rw [hl4]; simp; omega
            have h5l : l5.length ≤ 1099511627776 := by rw [hl5]; simp; omega
            have O2 : Hid (∀ W, Below w.heap.size w W → Calls Tryz.prog 22 #[.slice sf f.length cf, .agg #[.int .i64 3, .int .i64 0]] W fun e w' => ∃ sx cx, e = .returned (.slice sx l2.length cx) ∧ NodesAt w' sx l2 ∧ Below W.heap.size W w') := fun W hW => by
              rw [hl2]; exact over_any f sf cf (3, 0) W (HF.out.below hW) HCF.out (by omega)
            have O4 : Hid (∀ W, Below w.heap.size w W → Calls Tryz.prog 22 #[.slice sf f.length cf, .agg #[.int .i64 4, .int .i64 (vn : Int)]] W fun e w' => ∃ sx cx, e = .returned (.slice sx l4.length cx) ∧ NodesAt w' sx l4 ∧ Below W.heap.size W w') := fun W hW => by
              rw [hl4]; exact over_any f sf cf (4, (vn : Int)) W (HF.out.below hW) HCF.out (by omega)
            have O5 : Hid (∀ W, Below w.heap.size w W → Calls Tryz.prog 22 #[.slice sf f.length cf, .agg #[.int .i64 5, .int .i64 (vn : Int)]] W fun e w' => ∃ sx cx, e = .returned (.slice sx l5.length cx) ∧ NodesAt w' sx l5 ∧ Below W.heap.size W w') := fun W hW => by
              rw [hl5]; exact over_any f sf cf (5, (vn : Int)) W (HF.out.below hW) HCF.out (by omega)
            have V2 : Hid (∀ W sx cx, Below w.heap.size w W → NodesAt W sx l2 → Calls Tryz.prog 18 #[.slice sx l2.length cx, .slice sb L.length cb] W fun e w' => e = .returned (.tuple #[.bool x2, .int .i64 n3]) ∧ Below W.heap.size W w') := fun W sx cx hW hn => by
              have := HEV.out l2 sx cx L sb cb W hn (HB.out.below hW) (by omega) (by omega)
              rwa [hV3] at this
            have V4 : Hid (∀ W sx cx, Below w.heap.size w W → NodesAt W sx l4 → Calls Tryz.prog 18 #[.slice sx l4.length cx, .slice sb L.length cb] W fun e w' => e = .returned (.tuple #[.bool x4, .int .i64 n4]) ∧ Below W.heap.size W w') := fun W sx cx hW hn => by
              have := HEV.out l4 sx cx L sb cb W hn (HB.out.below hW) (by omega) (by omega)
              rwa [hV4] at this
            have W4 : Hid (∀ W sx cx, Below w.heap.size w W → NodesAt W sx l4 → Calls Tryz.prog 19 #[.slice sx l4.length cx, .slice sb L.length cb] W fun e w' => e = .returned (.tuple #[.bool x4, .int .i64 n4]) ∧ Below W.heap.size W w') := fun W sx cx hW hn => by
              have := eval_any l4 sx cx L sb cb W hn (HB.out.below hW) (by omega) (by omega)
              rwa [hV4] at this
            have V5 : Hid (∀ W sx cx, Below w.heap.size w W → NodesAt W sx l5 → Calls Tryz.prog 18 #[.slice sx l5.length cx, .slice sb L.length cb] W fun e w' => e = .returned (.tuple #[.bool x5, .int .i64 n5]) ∧ Below W.heap.size W w') := fun W sx cx hW hn => by
              have := HEV.out l5 sx cx L sb cb W hn (HB.out.below hW) (by omega) (by omega)
              rwa [hV5] at this
            have F2 : Hid (∀ W sx cx, NodesAt W sx l2 → Calls Tryz.prog 21 #[.slice sx l2.length cx] W fun e w' => e = .returned (.bool p) ∧ Below W.heap.size W w') := fun W sx cx hn => by
              have := formed_any l2 sx cx W hn (by omega)
              rwa [← hp] at this
            have T0 : Hid (∀ W u, Below w.heap.size w W → Calls Tryz.prog 23 #[.slice sb L.length cb, .int .i64 (vn : Int), .bool u] W fun e w' => ∃ sx cx M, e = .returned (.slice sx M.length cx) ∧ BitsAt w' sx M ∧ M.length ≤ 140737488351232 ∧ bitsE M = upd (bitsE L) (vn : Int) u ∧ Below W.heap.size W w') := fun W u hW => set_any L sb cb vn u W (HB.out.below hW) HCB.out hL hvn
            have U0 : Hid (∀ W sx cx M, Below w.heap.size w W → BitsAt W sx M → M.length ≤ 140737488351232 → bitsE M = upd (bitsE L) (vn : Int) false → Calls Tryz.prog 18 #[.slice sf f.length cf, .slice sx M.length cx] W fun e w' => e = .returned (.tuple #[.bool lo, .int .i64 0]) ∧ Below W.heap.size W w') := fun W sx cx M hW hx hm hM => by
              have := HEV.out f sf cf M sx cx W (HF.out.below hW) hx (by omega) hm
              rw [turn_ok EA.out hM, ← hlo] at this
              exact this
            have U1 : Hid (∀ W sx cx M, Below w.heap.size w W → BitsAt W sx M → M.length ≤ 140737488351232 → bitsE M = upd (bitsE L) (vn : Int) true → Calls Tryz.prog 18 #[.slice sf f.length cf, .slice sx M.length cx] W fun e w' => e = .returned (.tuple #[.bool hi, .int .i64 0]) ∧ Below W.heap.size W w') := fun W sx cx M hW hx hm hM => by
              have := HEV.out f sf cf M sx cx W (HF.out.below hW) hx (by omega) hm
              rw [turn_ok EA.out hM, ← hhi] at this
              exact this
            clear hl2 hl4 hl5 hV3 hV4 hV5 hz3 hz4 hz5 hy3 hy4 hy5 hp hlo hhi h2l h4l h5l hk5 hlt HROW
            have hq := HQ.out
            clear HQ
            have hp2 : (p = true ∧ x2 = !false ∧ n3 = 0) ∨ p = false := by
              cases p with
              | true => exact .inl ⟨rfl, HP2.out rfl⟩
              | false => exact .inr rfl
            clear HP2
            rcases hp2 with ⟨rfl, rfl, rfl⟩ | rfl
            all_goals
              rcases hq with ⟨rfl, rfl, rfl, rfl⟩ | hq
              · go_wp2_with (first
                  | (have q := Z16; clear q; go_at_call 18; refine (V5.out _ _ _ Z16.out N16.out).mono ?_; rintro e w17 ⟨rfl, b17⟩; have Z17 := hid (Z16.out.trans (b17.mono Z16.out.size)); clear b17)
                  | (have q := Z15; clear q; go_at_call 22; refine (O5.out _ Z15.out).mono ?_; rintro e w16 ⟨s16, c16, rfl, n16, b16⟩; have N16 := hid n16; have Z16 := hid (Z15.out.trans (b16.mono Z15.out.size)); clear b16; clear n16)
                  | (have q := Z14; clear q; go_at_call 19; refine (W4.out _ _ _ Z14.out N14.out).mono ?_; rintro e w15 ⟨rfl, b15⟩; have Z15 := hid (Z14.out.trans (b15.mono Z14.out.size)); clear b15)
                  | (have q := Z13; clear q; go_at_call 18; refine (V4.out _ _ _ Z13.out N13.out).mono ?_; rintro e w14 ⟨rfl, b14⟩; have N14 := hid (N13.out.below b14); have Z14 := hid (Z13.out.trans (b14.mono Z13.out.size)); clear b14)
                  | (have q := Z12; clear q; go_at_call 22; refine (O4.out _ Z12.out).mono ?_; rintro e w13 ⟨s13, c13, rfl, n13, b13⟩; have N13 := hid n13; have Z13 := hid (Z12.out.trans (b13.mono Z12.out.size)); clear b13; clear n13)
                  | (have q := Z11; clear q; go_at_call 18; refine (U1.out _ _ _ _ Z11.out X11.out.1 X11.out.2.1 X11.out.2.2).mono ?_; rintro e w12 ⟨rfl, b12⟩; have Z12 := hid (Z11.out.trans (b12.mono Z11.out.size)); clear b12)
                  | (have q := Z10; clear q; go_at_call 23; refine (T0.out _ true Z10.out).mono ?_; rintro e w11 ⟨s11, c11, M1, rfl, x11, y11, u11, b11⟩; have X11 := hid (And.intro x11 (And.intro y11 u11)); have Z11 := hid (Z10.out.trans (b11.mono Z10.out.size)); clear b11; clear x11 y11 u11)
                  | (have q := Z9; clear q; go_at_call 18; refine (U0.out _ _ _ _ Z9.out X9.out.1 X9.out.2.1 X9.out.2.2).mono ?_; rintro e w10 ⟨rfl, b10⟩; have Z10 := hid (Z9.out.trans (b10.mono Z9.out.size)); clear b10)
                  | (have q := Z8; clear q; go_at_call 23; refine (T0.out _ false Z8.out).mono ?_; rintro e w9 ⟨s9, c9, M0, rfl, x9, y9, u9, b9⟩; have X9 := hid (And.intro x9 (And.intro y9 u9)); have Z9 := hid (Z8.out.trans (b9.mono Z8.out.size)); clear b9; clear x9 y9 u9)
                  | (have q := Z7; clear q; go_at_call 21; refine (F2.out _ _ _ N7.out).mono ?_; rintro e w8 ⟨rfl, b8⟩; have Z8 := hid (Z7.out.trans (b8.mono Z7.out.size)); clear b8)
                  | (have q := Z6; clear q; go_at_call 18; refine (V2.out _ _ _ Z6.out N6.out).mono ?_; rintro e w7 ⟨rfl, b7⟩; have N7 := hid (N6.out.below b7); have Z7 := hid (Z6.out.trans (b7.mono Z6.out.size)); clear b7)
                  | (go_at_call 22; refine (O2.out _ BW.out).mono ?_; rintro e w6 ⟨s6, c6, rfl, n6, b6⟩; have N6 := hid n6; have Z6 := hid (BW.out.trans (b6.mono BW.out.size)); clear b6 n6))
                all_goals
                  go_ret
                  first
                    | exact ⟨rfl, Z17.out⟩
                    | (cases lo <;> cases hi <;> first | exact ⟨rfl, Z17.out⟩ | contradiction | (exfalso; simp_all))
              · have b4 : (n4 == 0) = false := by rw [beq_eq_false_iff_ne]; exact hq
                go_wp2_with (first
                  | (have q := Z16; clear q; go_at_call 18; refine (V5.out _ _ _ Z16.out N16.out).mono ?_; rintro e w17 ⟨rfl, b17⟩; have Z17 := hid (Z16.out.trans (b17.mono Z16.out.size)); clear b17)
                  | (have q := Z15; clear q; go_at_call 22; refine (O5.out _ Z15.out).mono ?_; rintro e w16 ⟨s16, c16, rfl, n16, b16⟩; have N16 := hid n16; have Z16 := hid (Z15.out.trans (b16.mono Z15.out.size)); clear b16; clear n16)
                  | (have q := Z14; clear q; go_at_call 19; refine (W4.out _ _ _ Z14.out N14.out).mono ?_; rintro e w15 ⟨rfl, b15⟩; have Z15 := hid (Z14.out.trans (b15.mono Z14.out.size)); clear b15)
                  | (have q := Z13; clear q; go_at_call 18; refine (V4.out _ _ _ Z13.out N13.out).mono ?_; rintro e w14 ⟨rfl, b14⟩; have N14 := hid (N13.out.below b14); have Z14 := hid (Z13.out.trans (b14.mono Z13.out.size)); clear b14)
                  | (have q := Z12; clear q; go_at_call 22; refine (O4.out _ Z12.out).mono ?_; rintro e w13 ⟨s13, c13, rfl, n13, b13⟩; have N13 := hid n13; have Z13 := hid (Z12.out.trans (b13.mono Z12.out.size)); clear b13; clear n13)
                  | (have q := Z11; clear q; go_at_call 18; refine (U1.out _ _ _ _ Z11.out X11.out.1 X11.out.2.1 X11.out.2.2).mono ?_; rintro e w12 ⟨rfl, b12⟩; have Z12 := hid (Z11.out.trans (b12.mono Z11.out.size)); clear b12)
                  | (have q := Z10; clear q; go_at_call 23; refine (T0.out _ true Z10.out).mono ?_; rintro e w11 ⟨s11, c11, M1, rfl, x11, y11, u11, b11⟩; have X11 := hid (And.intro x11 (And.intro y11 u11)); have Z11 := hid (Z10.out.trans (b11.mono Z10.out.size)); clear b11; clear x11 y11 u11)
                  | (have q := Z9; clear q; go_at_call 18; refine (U0.out _ _ _ _ Z9.out X9.out.1 X9.out.2.1 X9.out.2.2).mono ?_; rintro e w10 ⟨rfl, b10⟩; have Z10 := hid (Z9.out.trans (b10.mono Z9.out.size)); clear b10)
                  | (have q := Z8; clear q; go_at_call 23; refine (T0.out _ false Z8.out).mono ?_; rintro e w9 ⟨s9, c9, M0, rfl, x9, y9, u9, b9⟩; have X9 := hid (And.intro x9 (And.intro y9 u9)); have Z9 := hid (Z8.out.trans (b9.mono Z8.out.size)); clear b9; clear x9 y9 u9)
                  | (have q := Z7; clear q; go_at_call 21; refine (F2.out _ _ _ N7.out).mono ?_; rintro e w8 ⟨rfl, b8⟩; have Z8 := hid (Z7.out.trans (b8.mono Z7.out.size)); clear b8)
                  | (have q := Z6; clear q; go_at_call 18; refine (V2.out _ _ _ Z6.out N6.out).mono ?_; rintro e w7 ⟨rfl, b7⟩; have N7 := hid (N6.out.below b7); have Z7 := hid (Z6.out.trans (b7.mono Z6.out.size)); clear b7)
                  | (go_at_call 22; refine (O2.out _ BW.out).mono ?_; rintro e w6 ⟨s6, c6, rfl, n6, b6⟩; have N6 := hid n6; have Z6 := hid (BW.out.trans (b6.mono BW.out.size)); clear b6 n6))
                all_goals
                  go_ret
                  first
                    | exact ⟨rfl, Z17.out⟩
                    | (exfalso; omega)
      · go_enter Tryz.func7, Tryz.ntmps7
        go_wp2_with (first
          | (have q := B4; clear q; go_at_call 19; refine (R2.out _ B4.out).mono ?_; rintro e w5 ⟨rfl, b5⟩; have B5 := hid (B4.out.trans (b5.mono B4.out.size)); clear b5)
          | (have q := B3; clear q; go_at_call 19; refine (R1.out _ B3.out).mono ?_; rintro e w4 ⟨rfl, b4⟩; have B4 := hid (B3.out.trans (b4.mono B3.out.size)); clear b4)
          | (have q := B2; clear q; go_at_call 18; refine (E2.out _ B2.out).mono ?_; rintro e w3 ⟨rfl, b3⟩; have B3 := hid (B2.out.trans (b3.mono B2.out.size)); clear b3)
          | (have q := B1; clear q; go_at_call 18; refine (E1.out _ B1.out).mono ?_; rintro e w2 ⟨rfl, b2⟩; have B2 := hid (B1.out.trans (b2.mono B1.out.size)); clear b2)
          | (go_at_call 9; refine HA.out.mono ?_; rintro e w1 ⟨rfl, b1⟩; have B1 := hid b1; clear b1))
        have HROW : Hid (∀ W, Below (w5.alloc (Obj.cells #[.bool false, .bool true, .bool true, .bool true, .bool false] 45)).heap.size (w5.alloc (Obj.cells #[.bool false, .bool true, .bool true, .bool true, .bool false] 45)) W → ∀ k : Nat, k < 5 → W.cell? ⟨w5.heap.size, k, none⟩ = some (.bool (wantB false true k))) := fun W hW k hk5 => by
          have r := (hW.block w5.heap.size (by simp)).trans (heap_alloc_new w5 _)
          rw [cell_row r]
          obtain rfl | rfl | rfl | rfl | rfl : k = 0 ∨ k = 1 ∨ k = 2 ∨ k = 3 ∨ k = 4 := by omega
          all_goals rfl
        have BK : Hid (Below w.heap.size w (w5.alloc (Obj.cells #[.bool false, .bool true, .bool true, .bool true, .bool false] 45))) := B5.out.alloc B5.out.size _
        go_loopw [19] (fun kv W => ∃ k : Nat, k ≤ 5 ∧ kv = .int .i64 (k : Int) ∧ Hid (Below (w5.alloc (Obj.cells #[.bool false, .bool true, .bool true, .bool true, .bool false] 45)).heap.size (w5.alloc (Obj.cells #[.bool false, .bool true, .bool true, .bool true, .bool false] 45)) W)) (fun kv _ => 5 - (intOf kv).toNat)
        case atStart => exact ⟨0, by omega, rfl, Below.refl _ _⟩
        case round =>
          obtain ⟨k, hk5, rfl, HW⟩ := hrel
          have BW : Hid (Below w.heap.size w wr) := BK.out.trans (HW.out.mono BK.out.size)
          by_cases hlt : k < 5
          · have hltI : (k : Int) < 5 := by omega
            obtain ⟨y, hy⟩ : ∃ y, y = wantB false true k := ⟨_, rfl⟩
            obtain ⟨l, hl⟩ : ∃ l, l = f ++ g ++ [((6 : Int) + (k : Int), 0)] := ⟨_, rfl⟩
            obtain ⟨x, n3, hV3, hz3, hy3⟩ := eval_shape l L
            obtain ⟨p, hp⟩ : ∃ p, p = formedF l := ⟨_, rfl⟩
            have HP3 : Hid (p = true → x = y ∧ n3 = 0) := fun e => by
              rw [hy]
              exact hy3 _ (by rw [hl]; exact both_ok EA.out EB.out hlt (by rw [← hl, ← hp]; exact e))
            have hll : l.length ≤ 1099511627776 := by rw [hl]; simp; omega
            have C1 : Hid (∀ W, Below w.heap.size w W → Calls Tryz.prog 20 #[.slice sf f.length cf, .slice sg g.length cg, .int .i64 (6 + (k : Int))] W fun e w' => ∃ sx cx, e = .returned (.slice sx l.length cx) ∧ NodesAt w' sx l ∧ Below W.heap.size W w') := fun W hW => by
              rw [hl]
              exact both_any f g sf sg cf cg (6 + (k : Int)) W (HF.out.below hW) (HG.out.below hW) HCF.out HCG.out (by omega)
            have C2 : Hid (∀ W sx cx, Below w.heap.size w W → NodesAt W sx l → Calls Tryz.prog 18 #[.slice sx l.length cx, .slice sb L.length cb] W fun e w' => e = .returned (.tuple #[.bool x, .int .i64 n3]) ∧ Below W.heap.size W w') := fun W sx cx hW hn => by
              have := HEV.out l sx cx L sb cb W hn (HB.out.below hW) (by omega) (by omega)
              rwa [hV3] at this
            have C3 : Hid (∀ W sx cx, NodesAt W sx l → Calls Tryz.prog 21 #[.slice sx l.length cx] W fun e w' => e = .returned (.bool p) ∧ Below W.heap.size W w') := fun W sx cx hn => by
              have := formed_any l sx cx W hn (by omega)
              rwa [← hp] at this
            have HRK : Hid (∀ W, Below wr.heap.size wr W → W.cell? ⟨w5.heap.size, k, none⟩ = some (.bool y)) := fun W hW => by
              rw [hy]
              exact HROW.out W (HW.out.trans (hW.mono HW.out.size)) k hlt
            clear hl hV3 hz3 hy3 hp hll hy
            cases p with
            | true =>
              obtain ⟨rfl, rfl⟩ := HP3.out rfl
              clear HP3
              cases x
              all_goals
                go_wp2_with (first
                  | (have q := D2; clear q; go_at_call 21; refine (C3.out _ _ _ N2.out).mono ?_; rintro e w8 ⟨rfl, b8⟩; have ck := HRK.out w8 (D2.out.trans (b8.mono D2.out.size)); have hs8 : w5.heap.size < w8.heap.size := (Nat.lt_of_lt_of_le (Nat.lt_of_lt_of_le (by simp) HW.out.size) (D2.out.trans (b8.mono D2.out.size)).size); have D3 := hid (D2.out.trans (b8.mono D2.out.size)); clear b8)
                  | (have q := D1; clear q; go_at_call 18; refine (C2.out _ _ _ (BW.out.trans (D1.out.mono BW.out.size)) N1.out).mono ?_; rintro e w7 ⟨rfl, b7⟩; have N2 := hid (N1.out.below b7); have D2 := hid (D1.out.trans (b7.mono D1.out.size)); clear b7)
                  | (go_at_call 20; refine (C1.out _ BW.out).mono ?_; rintro e w6 ⟨sx, cx, rfl, n6, b6⟩; have N1 := hid n6; have D1 := hid b6; clear b6 n6))
                exact ⟨⟨k + 1, hlt, by go_num, HW.out.trans (D3.out.mono HW.out.size)⟩, by simp [intOf]; omega⟩
            | false =>
              go_wp2_with (first
                | (have q := D2; clear q; go_at_call 21; refine (C3.out _ _ _ N2.out).mono ?_; rintro e w8 ⟨rfl, b8⟩; have D3 := hid (D2.out.trans (b8.mono D2.out.size)); clear b8)
                | (have q := D1; clear q; go_at_call 18; refine (C2.out _ _ _ (BW.out.trans (D1.out.mono BW.out.size)) N1.out).mono ?_; rintro e w7 ⟨rfl, b7⟩; have N2 := hid (N1.out.below b7); have D2 := hid (D1.out.trans (b7.mono D1.out.size)); clear b7)
                | (go_at_call 20; refine (C1.out _ BW.out).mono ?_; rintro e w6 ⟨sx, cx, rfl, n6, b6⟩; have N1 := hid n6; have D1 := hid b6; clear b6 n6))
              exact ⟨⟨k + 1, hlt, by go_num, HW.out.trans (D3.out.mono HW.out.size)⟩, by simp [intOf]; omega⟩
          · have hk : k = 5 := by omega
            subst hk
            obtain ⟨l2, hl2⟩ : ∃ l, l = f ++ [((3 : Int), (0 : Int))] := ⟨_, rfl⟩
            obtain ⟨l4, hl4⟩ : ∃ l, l = f ++ [((4 : Int), (vn : Int))] := ⟨_, rfl⟩
            obtain ⟨l5, hl5⟩ : ∃ l, l = f ++ [((5 : Int), (vn : Int))] := ⟨_, rfl⟩
            obtain ⟨x2, n3, hV3, hz3, hy3⟩ := eval_shape l2 L
            obtain ⟨x4, n4, hV4, hz4, hy4⟩ := eval_shape l4 L
            obtain ⟨x5, n5, hV5, hz5, hy5⟩ := eval_shape l5 L
            obtain ⟨p, hp⟩ : ∃ p, p = formedF l2 := ⟨_, rfl⟩
            obtain ⟨lo, hlo⟩ : ∃ x, x = turnB f L vn false := ⟨_, rfl⟩
            obtain ⟨hi, hhi⟩ : ∃ x, x = turnB f L vn true := ⟨_, rfl⟩
            have HP2 : Hid (p = true → x2 = !false ∧ n3 = 0) := fun e => hy3 _ (by rw [hl2]; exact not_ok EA.out (by rw [← hl2, ← hp]; exact e))
            have HQ : Hid ((x4 = (lo || hi) ∧ n4 = 0 ∧ x5 = (lo && hi) ∧ n5 = 0) ∨ n4 ≠ 0) := by
              rcases quant_ok (v := vn) (by omega) EA.out with ⟨q1, q2⟩ | ⟨n, q1⟩
              · rw [← hl4, ← hlo, ← hhi] at q1
                rw [← hl5, ← hlo, ← hhi] at q2
                exact .inl ⟨(hy4 _ q1).1, (hy4 _ q1).2, (hy5 _ q2).1, (hy5 _ q2).2⟩
              · right
                intro h0
                have := hz4 h0
                rw [hl4, q1] at this
                cases this
            have h2l : l2.length ≤ 1099511627776 := by rw [hl2]; simp; omega
            have h4l : l4.length ≤ 1099511627776 := by rw [hl4]; simp; omega
            have h5l : l5.length ≤ 1099511627776 := by rw [hl5]; simp; omega
            have O2 : Hid (∀ W, Below w.heap.size w W → Calls Tryz.prog 22 #[.slice sf f.length cf, .agg #[.int .i64 3, .int .i64 0]] W fun e w' => ∃ sx cx, e = .returned (.slice sx l2.length cx) ∧ NodesAt w' sx l2 ∧ Below W.heap.size W w') := fun W hW => by
              rw [hl2]; exact over_any f sf cf (3, 0) W (HF.out.below hW) HCF.out (by omega)
            have O4 : Hid (∀ W, Below w.heap.size w W → Calls Tryz.prog 22 #[.slice sf f.length cf, .agg #[.int .i64 4, .int .i64 (vn : Int)]] W fun e w' => ∃ sx cx, e = .returned (.slice sx l4.length cx) ∧ NodesAt w' sx l4 ∧ Below W.heap.size W w') := fun W hW => by
              rw [hl4]; exact over_any f sf cf (4, (vn : Int)) W (HF.out.below hW) HCF.out (by omega)
            have O5 : Hid (∀ W, Below w.heap.size w W → Calls Tryz.prog 22 #[.slice sf f.length cf, .agg #[.int .i64 5, .int .i64 (vn : Int)]] W fun e w' => ∃ sx cx, e = .returned (.slice sx l5.length cx) ∧ NodesAt w' sx l5 ∧ Below W.heap.size W w') := fun W hW => by
              rw [hl5]; exact over_any f sf cf (5, (vn : Int)) W (HF.out.below hW) HCF.out (by omega)
            have V2 : Hid (∀ W sx cx, Below w.heap.size w W → NodesAt W sx l2 → Calls Tryz.prog 18 #[.slice sx l2.length cx, .slice sb L.length cb] W fun e w' => e = .returned (.tuple #[.bool x2, .int .i64 n3]) ∧ Below W.heap.size W w') := fun W sx cx hW hn => by
              have := HEV.out l2 sx cx L sb cb W hn (HB.out.below hW) (by omega) (by omega)
              rwa [hV3] at this
            have V4 : Hid (∀ W sx cx, Below w.heap.size w W → NodesAt W sx l4 → Calls Tryz.prog 18 #[.slice sx l4.length cx, .slice sb L.length cb] W fun e w' => e = .returned (.tuple #[.bool x4, .int .i64 n4]) ∧ Below W.heap.size W w') := fun W sx cx hW hn => by
              have := HEV.out l4 sx cx L sb cb W hn (HB.out.below hW) (by omega) (by omega)
              rwa [hV4] at this
            have W4 : Hid (∀ W sx cx, Below w.heap.size w W → NodesAt W sx l4 → Calls Tryz.prog 19 #[.slice sx l4.length cx, .slice sb L.length cb] W fun e w' => e = .returned (.tuple #[.bool x4, .int .i64 n4]) ∧ Below W.heap.size W w') := fun W sx cx hW hn => by
              have := eval_any l4 sx cx L sb cb W hn (HB.out.below hW) (by omega) (by omega)
              rwa [hV4] at this
            have V5 : Hid (∀ W sx cx, Below w.heap.size w W → NodesAt W sx l5 → Calls Tryz.prog 18 #[.slice sx l5.length cx, .slice sb L.length cb] W fun e w' => e = .returned (.tuple #[.bool x5, .int .i64 n5]) ∧ Below W.heap.size W w') := fun W sx cx hW hn => by
              have := HEV.out l5 sx cx L sb cb W hn (HB.out.below hW) (by omega) (by omega)
              rwa [hV5] at this
            have F2 : Hid (∀ W sx cx, NodesAt W sx l2 → Calls Tryz.prog 21 #[.slice sx l2.length cx] W fun e w' => e = .returned (.bool p) ∧ Below W.heap.size W w') := fun W sx cx hn => by
              have := formed_any l2 sx cx W hn (by omega)
              rwa [← hp] at this
            have T0 : Hid (∀ W u, Below w.heap.size w W → Calls Tryz.prog 23 #[.slice sb L.length cb, .int .i64 (vn : Int), .bool u] W fun e w' => ∃ sx cx M, e = .returned (.slice sx M.length cx) ∧ BitsAt w' sx M ∧ M.length ≤ 140737488351232 ∧ bitsE M = upd (bitsE L) (vn : Int) u ∧ Below W.heap.size W w') := fun W u hW => set_any L sb cb vn u W (HB.out.below hW) HCB.out hL hvn
            have U0 : Hid (∀ W sx cx M, Below w.heap.size w W → BitsAt W sx M → M.length ≤ 140737488351232 → bitsE M = upd (bitsE L) (vn : Int) false → Calls Tryz.prog 18 #[.slice sf f.length cf, .slice sx M.length cx] W fun e w' => e = .returned (.tuple #[.bool lo, .int .i64 0]) ∧ Below W.heap.size W w') := fun W sx cx M hW hx hm hM => by
              have := HEV.out f sf cf M sx cx W (HF.out.below hW) hx (by omega) hm
              rw [turn_ok EA.out hM, ← hlo] at this
              exact this
            have U1 : Hid (∀ W sx cx M, Below w.heap.size w W → BitsAt W sx M → M.length ≤ 140737488351232 → bitsE M = upd (bitsE L) (vn : Int) true → Calls Tryz.prog 18 #[.slice sf f.length cf, .slice sx M.length cx] W fun e w' => e = .returned (.tuple #[.bool hi, .int .i64 0]) ∧ Below W.heap.size W w') := fun W sx cx M hW hx hm hM => by
              have := HEV.out f sf cf M sx cx W (HF.out.below hW) hx (by omega) hm
              rw [turn_ok EA.out hM, ← hhi] at this
              exact this
            clear hl2 hl4 hl5 hV3 hV4 hV5 hz3 hz4 hz5 hy3 hy4 hy5 hp hlo hhi h2l h4l h5l hk5 hlt HROW
            have hq := HQ.out
            clear HQ
            have hp2 : (p = true ∧ x2 = !false ∧ n3 = 0) ∨ p = false := by
              cases p with
              | true => exact .inl ⟨rfl, HP2.out rfl⟩
              | false => exact .inr rfl
            clear HP2
            rcases hp2 with ⟨rfl, rfl, rfl⟩ | rfl
            all_goals
              rcases hq with ⟨rfl, rfl, rfl, rfl⟩ | hq
              · go_wp2_with (first
                  | (have q := Z16; clear q; go_at_call 18; refine (V5.out _ _ _ Z16.out N16.out).mono ?_; rintro e w17 ⟨rfl, b17⟩; have Z17 := hid (Z16.out.trans (b17.mono Z16.out.size)); clear b17)
                  | (have q := Z15; clear q; go_at_call 22; refine (O5.out _ Z15.out).mono ?_; rintro e w16 ⟨s16, c16, rfl, n16, b16⟩; have N16 := hid n16; have Z16 := hid (Z15.out.trans (b16.mono Z15.out.size)); clear b16; clear n16)
                  | (have q := Z14; clear q; go_at_call 19; refine (W4.out _ _ _ Z14.out N14.out).mono ?_; rintro e w15 ⟨rfl, b15⟩; have Z15 := hid (Z14.out.trans (b15.mono Z14.out.size)); clear b15)
                  | (have q := Z13; clear q; go_at_call 18; refine (V4.out _ _ _ Z13.out N13.out).mono ?_; rintro e w14 ⟨rfl, b14⟩; have N14 := hid (N13.out.below b14); have Z14 := hid (Z13.out.trans (b14.mono Z13.out.size)); clear b14)
                  | (have q := Z12; clear q; go_at_call 22; refine (O4.out _ Z12.out).mono ?_; rintro e w13 ⟨s13, c13, rfl, n13, b13⟩; have N13 := hid n13; have Z13 := hid (Z12.out.trans (b13.mono Z12.out.size)); clear b13; clear n13)
                  | (have q := Z11; clear q; go_at_call 18; refine (U1.out _ _ _ _ Z11.out X11.out.1 X11.out.2.1 X11.out.2.2).mono ?_; rintro e w12 ⟨rfl, b12⟩; have Z12 := hid (Z11.out.trans (b12.mono Z11.out.size)); clear b12)
                  | (have q := Z10; clear q; go_at_call 23; refine (T0.out _ true Z10.out).mono ?_; rintro e w11 ⟨s11, c11, M1, rfl, x11, y11, u11, b11⟩; have X11 := hid (And.intro x11 (And.intro y11 u11)); have Z11 := hid (Z10.out.trans (b11.mono Z10.out.size)); clear b11; clear x11 y11 u11)
                  | (have q := Z9; clear q; go_at_call 18; refine (U0.out _ _ _ _ Z9.out X9.out.1 X9.out.2.1 X9.out.2.2).mono ?_; rintro e w10 ⟨rfl, b10⟩; have Z10 := hid (Z9.out.trans (b10.mono Z9.out.size)); clear b10)
                  | (have q := Z8; clear q; go_at_call 23; refine (T0.out _ false Z8.out).mono ?_; rintro e w9 ⟨s9, c9, M0, rfl, x9, y9, u9, b9⟩; have X9 := hid (And.intro x9 (And.intro y9 u9)); have Z9 := hid (Z8.out.trans (b9.mono Z8.out.size)); clear b9; clear x9 y9 u9)
                  | (have q := Z7; clear q; go_at_call 21; refine (F2.out _ _ _ N7.out).mono ?_; rintro e w8 ⟨rfl, b8⟩; have Z8 := hid (Z7.out.trans (b8.mono Z7.out.size)); clear b8)
                  | (have q := Z6; clear q; go_at_call 18; refine (V2.out _ _ _ Z6.out N6.out).mono ?_; rintro e w7 ⟨rfl, b7⟩; have N7 := hid (N6.out.below b7); have Z7 := hid (Z6.out.trans (b7.mono Z6.out.size)); clear b7)
                  | (go_at_call 22; refine (O2.out _ BW.out).mono ?_; rintro e w6 ⟨s6, c6, rfl, n6, b6⟩; have N6 := hid n6; have Z6 := hid (BW.out.trans (b6.mono BW.out.size)); clear b6 n6))
                all_goals
                  go_ret
                  first
                    | exact ⟨rfl, Z17.out⟩
                    | (cases lo <;> cases hi <;> first | exact ⟨rfl, Z17.out⟩ | contradiction | (exfalso; simp_all))
              · have b4 : (n4 == 0) = false := by rw [beq_eq_false_iff_ne]; exact hq
                go_wp2_with (first
                  | (have q := Z16; clear q; go_at_call 18; refine (V5.out _ _ _ Z16.out N16.out).mono ?_; rintro e w17 ⟨rfl, b17⟩; have Z17 := hid (Z16.out.trans (b17.mono Z16.out.size)); clear b17)
                  | (have q := Z15; clear q; go_at_call 22; refine (O5.out _ Z15.out).mono ?_; rintro e w16 ⟨s16, c16, rfl, n16, b16⟩; have N16 := hid n16; have Z16 := hid (Z15.out.trans (b16.mono Z15.out.size)); clear b16; clear n16)
                  | (have q := Z14; clear q; go_at_call 19; refine (W4.out _ _ _ Z14.out N14.out).mono ?_; rintro e w15 ⟨rfl, b15⟩; have Z15 := hid (Z14.out.trans (b15.mono Z14.out.size)); clear b15)
                  | (have q := Z13; clear q; go_at_call 18; refine (V4.out _ _ _ Z13.out N13.out).mono ?_; rintro e w14 ⟨rfl, b14⟩; have N14 := hid (N13.out.below b14); have Z14 := hid (Z13.out.trans (b14.mono Z13.out.size)); clear b14)
                  | (have q := Z12; clear q; go_at_call 22; refine (O4.out _ Z12.out).mono ?_; rintro e w13 ⟨s13, c13, rfl, n13, b13⟩; have N13 := hid n13; have Z13 := hid (Z12.out.trans (b13.mono Z12.out.size)); clear b13; clear n13)
                  | (have q := Z11; clear q; go_at_call 18; refine (U1.out _ _ _ _ Z11.out X11.out.1 X11.out.2.1 X11.out.2.2).mono ?_; rintro e w12 ⟨rfl, b12⟩; have Z12 := hid (Z11.out.trans (b12.mono Z11.out.size)); clear b12)
                  | (have q := Z10; clear q; go_at_call 23; refine (T0.out _ true Z10.out).mono ?_; rintro e w11 ⟨s11, c11, M1, rfl, x11, y11, u11, b11⟩; have X11 := hid (And.intro x11 (And.intro y11 u11)); have Z11 := hid (Z10.out.trans (b11.mono Z10.out.size)); clear b11; clear x11 y11 u11)
                  | (have q := Z9; clear q; go_at_call 18; refine (U0.out _ _ _ _ Z9.out X9.out.1 X9.out.2.1 X9.out.2.2).mono ?_; rintro e w10 ⟨rfl, b10⟩; have Z10 := hid (Z9.out.trans (b10.mono Z9.out.size)); clear b10)
                  | (have q := Z8; clear q; go_at_call 23; refine (T0.out _ false Z8.out).mono ?_; rintro e w9 ⟨s9, c9, M0, rfl, x9, y9, u9, b9⟩; have X9 := hid (And.intro x9 (And.intro y9 u9)); have Z9 := hid (Z8.out.trans (b9.mono Z8.out.size)); clear b9; clear x9 y9 u9)
                  | (have q := Z7; clear q; go_at_call 21; refine (F2.out _ _ _ N7.out).mono ?_; rintro e w8 ⟨rfl, b8⟩; have Z8 := hid (Z7.out.trans (b8.mono Z7.out.size)); clear b8)
                  | (have q := Z6; clear q; go_at_call 18; refine (V2.out _ _ _ Z6.out N6.out).mono ?_; rintro e w7 ⟨rfl, b7⟩; have N7 := hid (N6.out.below b7); have Z7 := hid (Z6.out.trans (b7.mono Z6.out.size)); clear b7)
                  | (go_at_call 22; refine (O2.out _ BW.out).mono ?_; rintro e w6 ⟨s6, c6, rfl, n6, b6⟩; have N6 := hid n6; have Z6 := hid (BW.out.trans (b6.mono BW.out.size)); clear b6 n6))
                all_goals
                  go_ret
                  first
                    | exact ⟨rfl, Z17.out⟩
                    | (exfalso; omega)
      · go_enter Tryz.func7, Tryz.ntmps7
        go_wp2_with (first
          | (have q := B4; clear q; go_at_call 19; refine (R2.out _ B4.out).mono ?_; rintro e w5 ⟨rfl, b5⟩; have B5 := hid (B4.out.trans (b5.mono B4.out.size)); clear b5)
          | (have q := B3; clear q; go_at_call 19; refine (R1.out _ B3.out).mono ?_; rintro e w4 ⟨rfl, b4⟩; have B4 := hid (B3.out.trans (b4.mono B3.out.size)); clear b4)
          | (have q := B2; clear q; go_at_call 18; refine (E2.out _ B2.out).mono ?_; rintro e w3 ⟨rfl, b3⟩; have B3 := hid (B2.out.trans (b3.mono B2.out.size)); clear b3)
          | (have q := B1; clear q; go_at_call 18; refine (E1.out _ B1.out).mono ?_; rintro e w2 ⟨rfl, b2⟩; have B2 := hid (B1.out.trans (b2.mono B1.out.size)); clear b2)
          | (go_at_call 9; refine HA.out.mono ?_; rintro e w1 ⟨rfl, b1⟩; have B1 := hid b1; clear b1))
        have HROW : Hid (∀ W, Below (w5.alloc (Obj.cells #[.bool false, .bool true, .bool true, .bool false, .bool false] 45)).heap.size (w5.alloc (Obj.cells #[.bool false, .bool true, .bool true, .bool false, .bool false] 45)) W → ∀ k : Nat, k < 5 → W.cell? ⟨w5.heap.size, k, none⟩ = some (.bool (wantB true false k))) := fun W hW k hk5 => by
          have r := (hW.block w5.heap.size (by simp)).trans (heap_alloc_new w5 _)
          rw [cell_row r]
          obtain rfl | rfl | rfl | rfl | rfl : k = 0 ∨ k = 1 ∨ k = 2 ∨ k = 3 ∨ k = 4 := by omega
          all_goals rfl
        have BK : Hid (Below w.heap.size w (w5.alloc (Obj.cells #[.bool false, .bool true, .bool true, .bool false, .bool false] 45))) := B5.out.alloc B5.out.size _
        go_loopw [19] (fun kv W => ∃ k : Nat, k ≤ 5 ∧ kv = .int .i64 (k : Int) ∧ Hid (Below (w5.alloc (Obj.cells #[.bool false, .bool true, .bool true, .bool false, .bool false] 45)).heap.size (w5.alloc (Obj.cells #[.bool false, .bool true, .bool true, .bool false, .bool false] 45)) W)) (fun kv _ => 5 - (intOf kv).toNat)
        case atStart => exact ⟨0, by omega, rfl, Below.refl _ _⟩
        case round =>
          obtain ⟨k, hk5, rfl, HW⟩ := hrel
          have BW : Hid (Below w.heap.size w wr) := BK.out.trans (HW.out.mono BK.out.size)
          by_cases hlt : k < 5
          · have hltI : (k : Int) < 5 := by omega
            obtain ⟨y, hy⟩ : ∃ y, y = wantB true false k := ⟨_, rfl⟩
            obtain ⟨l, hl⟩ : ∃ l, l = f ++ g ++ [((6 : Int) + (k : Int), 0)] := ⟨_, rfl⟩
            obtain ⟨x, n3, hV3, hz3, hy3⟩ := eval_shape l L
            obtain ⟨p, hp⟩ : ∃ p, p = formedF l := ⟨_, rfl⟩
            have HP3 : Hid (p = true → x = y ∧ n3 = 0) := fun e => by
              rw [hy]
              exact hy3 _ (by rw [hl]; exact both_ok EA.out EB.out hlt (by rw [← hl, ← hp]; exact e))
            have hll : l.length ≤ 1099511627776 := by rw [hl]; simp; omega
            have C1 : Hid (∀ W, Below w.heap.size w W → Calls Tryz.prog 20 #[.slice sf f.length cf, .slice sg g.length cg, .int .i64 (6 + (k : Int))] W fun e w' => ∃ sx cx, e = .returned (.slice sx l.length cx) ∧ NodesAt w' sx l ∧ Below W.heap.size W w') := fun W hW => by
              rw [hl]
              exact both_any f g sf sg cf cg (6 + (k : Int)) W (HF.out.below hW) (HG.out.below hW) HCF.out HCG.out (by omega)
            have C2 : Hid (∀ W sx cx, Below w.heap.size w W → NodesAt W sx l → Calls Tryz.prog 18 #[.slice sx l.length cx, .slice sb L.length cb] W fun e w' => e = .returned (.tuple #[.bool x, .int .i64 n3]) ∧ Below W.heap.size W w') := fun W sx cx hW hn => by
              have := HEV.out l sx cx L sb cb W hn (HB.out.below hW) (by omega) (by omega)
              rwa [hV3] at this
            have C3 : Hid (∀ W sx cx, NodesAt W sx l → Calls Tryz.prog 21 #[.slice sx l.length cx] W fun e w' => e = .returned (.bool p) ∧ Below W.heap.size W w') := fun W sx cx hn => by
              have := formed_any l sx cx W hn (by omega)
              rwa [← hp] at this
            have HRK : Hid (∀ W, Below wr.heap.size wr W → W.cell? ⟨w5.heap.size, k, none⟩ = some (.bool y)) := fun W hW => by
              rw [hy]
              exact HROW.out W (HW.out.trans (hW.mono HW.out.size)) k hlt
            clear hl hV3 hz3 hy3 hp hll hy
            cases p with
            | true =>
              obtain ⟨rfl, rfl⟩ := HP3.out rfl
              clear HP3
              cases x
              all_goals
                go_wp2_with (first
                  | (have q := D2; clear q; go_at_call 21; refine (C3.out _ _ _ N2.out).mono ?_; rintro e w8 ⟨rfl, b8⟩; have ck := HRK.out w8 (D2.out.trans (b8.mono D2.out.size)); have hs8 : w5.heap.size < w8.heap.size := (Nat.lt_of_lt_of_le (Nat.lt_of_lt_of_le (by simp) HW.out.size) (D2.out.trans (b8.mono D2.out.size)).size); have D3 := hid (D2.out.trans (b8.mono D2.out.size)); clear b8)
                  | (have q := D1; clear q; go_at_call 18; refine (C2.out _ _ _ (BW.out.trans (D1.out.mono BW.out.size)) N1.out).mono ?_; rintro e w7 ⟨rfl, b7⟩; have N2 := hid (N1.out.below b7); have D2 := hid (D1.out.trans (b7.mono D1.out.size)); clear b7)
                  | (go_at_call 20; refine (C1.out _ BW.out).mono ?_; rintro e w6 ⟨sx, cx, rfl, n6, b6⟩; have N1 := hid n6; have D1 := hid b6; clear b6 n6))
                exact ⟨⟨k + 1, hlt, by go_num, HW.out.trans (D3.out.mono HW.out.size)⟩, by simp [intOf]; omega⟩
            | false =>
              go_wp2_with (first
                | (have q := D2; clear q; go_at_call 21; refine (C3.out _ _ _ N2.out).mono ?_; rintro e w8 ⟨rfl, b8⟩; have D3 := hid (D2.out.trans (b8.mono D2.out.size)); clear b8)
                | (have q := D1; clear q; go_at_call 18; refine (C2.out _ _ _ (BW.out.trans (D1.out.mono BW.out.size)) N1.out).mono ?_; rintro e w7 ⟨rfl, b7⟩; have N2 := hid (N1.out.below b7); have D2 := hid (D1.out.trans (b7.mono D1.out.size)); clear b7)
                | (go_at_call 20; refine (C1.out _ BW.out).mono ?_; rintro e w6 ⟨sx, cx, rfl, n6, b6⟩; have N1 := hid n6; have D1 := hid b6; clear b6 n6))
              exact ⟨⟨k + 1, hlt, by go_num, HW.out.trans (D3.out.mono HW.out.size)⟩, by simp [intOf]; omega⟩
          · have hk : k = 5 := by omega
            subst hk
            obtain ⟨l2, hl2⟩ : ∃ l, l = f ++ [((3 : Int), (0 : Int))] := ⟨_, rfl⟩
            obtain ⟨l4, hl4⟩ : ∃ l, l = f ++ [((4 : Int), (vn : Int))] := ⟨_, rfl⟩
            obtain ⟨l5, hl5⟩ : ∃ l, l = f ++ [((5 : Int), (vn : Int))] := ⟨_, rfl⟩
            obtain ⟨x2, n3, hV3, hz3, hy3⟩ := eval_shape l2 L
            obtain ⟨x4, n4, hV4, hz4, hy4⟩ := eval_shape l4 L
            obtain ⟨x5, n5, hV5, hz5, hy5⟩ := eval_shape l5 L
            obtain ⟨p, hp⟩ : ∃ p, p = formedF l2 := ⟨_, rfl⟩
            obtain ⟨lo, hlo⟩ : ∃ x, x = turnB f L vn false := ⟨_, rfl⟩
            obtain ⟨hi, hhi⟩ : ∃ x, x = turnB f L vn true := ⟨_, rfl⟩
            have HP2 : Hid (p = true → x2 = !true ∧ n3 = 0) := fun e => hy3 _ (by rw [hl2]; exact not_ok EA.out (by rw [← hl2, ← hp]; exact e))
            have HQ : Hid ((x4 = (lo || hi) ∧ n4 = 0 ∧ x5 = (lo && hi) ∧ n5 = 0) ∨ n4 ≠ 0) := by
              rcases quant_ok (v := vn) (by omega) EA.out with ⟨q1, q2⟩ | ⟨n, q1⟩
              · rw [← hl4, ← hlo, ← hhi] at q1
                rw [← hl5, ← hlo, ← hhi] at q2
                exact .inl ⟨(hy4 _ q1).1, (hy4 _ q1).2, (hy5 _ q2).1, (hy5 _ q2).2⟩
              · right
                intro h0
                have := hz4 h0
                rw [hl4, q1] at this
                cases this
            have h2l : l2.length ≤ 1099511627776 := by rw [hl2]; simp; omega
            have h4l : l4.length ≤ 1099511627776 := by rw [hl4]; simp; omega
            have h5l : l5.length ≤ 1099511627776 := by rw [hl5]; simp; omega
            have O2 : Hid (∀ W, Below w.heap.size w W → Calls Tryz.prog 22 #[.slice sf f.length cf, .agg #[.int .i64 3, .int .i64 0]] W fun e w' => ∃ sx cx, e = .returned (.slice sx l2.length cx) ∧ NodesAt w' sx l2 ∧ Below W.heap.size W w') := fun W hW => by
              rw [hl2]; exact over_any f sf cf (3, 0) W (HF.out.below hW) HCF.out (by omega)
            have O4 : Hid (∀ W, Below w.heap.size w W → Calls Tryz.prog 22 #[.slice sf f.length cf, .agg #[.int .i64 4, .int .i64 (vn : Int)]] W fun e w' => ∃ sx cx, e = .returned (.slice sx l4.length cx) ∧ NodesAt w' sx l4 ∧ Below W.heap.size W w') := fun W hW => by
              rw [hl4]; exact over_any f sf cf (4, (vn : Int)) W (HF.out.below hW) HCF.out (by omega)
            have O5 : Hid (∀ W, Below w.heap.size w W → Calls Tryz.prog 22 #[.slice sf f.length cf, .agg #[.int .i64 5, .int .i64 (vn : Int)]] W fun e w' => ∃ sx cx, e = .returned (.slice sx l5.length cx) ∧ NodesAt w' sx l5 ∧ Below W.heap.size W w') := fun W hW => by
              rw [hl5]; exact over_any f sf cf (5, (vn : Int)) W (HF.out.below hW) HCF.out (by omega)
            have V2 : Hid (∀ W sx cx, Below w.heap.size w W → NodesAt W sx l2 → Calls Tryz.prog 18 #[.slice sx l2.length cx, .slice sb L.length cb] W fun e w' => e = .returned (.tuple #[.bool x2, .int .i64 n3]) ∧ Below W.heap.size W w') := fun W sx cx hW hn => by
              have := HEV.out l2 sx cx L sb cb W hn (HB.out.below hW) (by omega) (by omega)
              rwa [hV3] at this
            have V4 : Hid (∀ W sx cx, Below w.heap.size w W → NodesAt W sx l4 → Calls Tryz.prog 18 #[.slice sx l4.length cx, .slice sb L.length cb] W fun e w' => e = .returned (.tuple #[.bool x4, .int .i64 n4]) ∧ Below W.heap.size W w') := fun W sx cx hW hn => by
              have := HEV.out l4 sx cx L sb cb W hn (HB.out.below hW) (by omega) (by omega)
              rwa [hV4] at this
            have W4 : Hid (∀ W sx cx, Below w.heap.size w W → NodesAt W sx l4 → Calls Tryz.prog 19 #[.slice sx l4.length cx, .slice sb L.length cb] W fun e w' => e = .returned (.tuple #[.bool x4, .int .i64 n4]) ∧ Below W.heap.size W w') := fun W sx cx hW hn => by
              have := eval_any l4 sx cx L sb cb W hn (HB.out.below hW) (by omega) (by omega)
              rwa [hV4] at this
            have V5 : Hid (∀ W sx cx, Below w.heap.size w W → NodesAt W sx l5 → Calls Tryz.prog 18 #[.slice sx l5.length cx, .slice sb L.length cb] W fun e w' => e = .returned (.tuple #[.bool x5, .int .i64 n5]) ∧ Below W.heap.size W w') := fun W sx cx hW hn => by
              have := HEV.out l5 sx cx L sb cb W hn (HB.out.below hW) (by omega) (by omega)
              rwa [hV5] at this
            have F2 : Hid (∀ W sx cx, NodesAt W sx l2 → Calls Tryz.prog 21 #[.slice sx l2.length cx] W fun e w' => e = .returned (.bool p) ∧ Below W.heap.size W w') := fun W sx cx hn => by
              have := formed_any l2 sx cx W hn (by omega)
              rwa [← hp] at this
            have T0 : Hid (∀ W u, Below w.heap.size w W → Calls Tryz.prog 23 #[.slice sb L.length cb, .int .i64 (vn : Int), .bool u] W fun e w' => ∃ sx cx M, e = .returned (.slice sx M.length cx) ∧ BitsAt w' sx M ∧ M.length ≤ 140737488351232 ∧ bitsE M = upd (bitsE L) (vn : Int) u ∧ Below W.heap.size W w') := fun W u hW => set_any L sb cb vn u W (HB.out.below hW) HCB.out hL hvn
            have U0 : Hid (∀ W sx cx M, Below w.heap.size w W → BitsAt W sx M → M.length ≤ 140737488351232 → bitsE M = upd (bitsE L) (vn : Int) false → Calls Tryz.prog 18 #[.slice sf f.length cf, .slice sx M.length cx] W fun e w' => e = .returned (.tuple #[.bool lo, .int .i64 0]) ∧ Below W.heap.size W w') := fun W sx cx M hW hx hm hM => by
              have := HEV.out f sf cf M sx cx W (HF.out.below hW) hx (by omega) hm
              rw [turn_ok EA.out hM, ← hlo] at this
              exact this
            have U1 : Hid (∀ W sx cx M, Below w.heap.size w W → BitsAt W sx M → M.length ≤ 140737488351232 → bitsE M = upd (bitsE L) (vn : Int) true → Calls Tryz.prog 18 #[.slice sf f.length cf, .slice sx M.length cx] W fun e w' => e = .returned (.tuple #[.bool hi, .int .i64 0]) ∧ Below W.heap.size W w') := fun W sx cx M hW hx hm hM => by
              have := HEV.out f sf cf M sx cx W (HF.out.below hW) hx (by omega) hm
              rw [turn_ok EA.out hM, ← hhi] at this
              exact this
            clear hl2 hl4 hl5 hV3 hV4 hV5 hz3 hz4 hz5 hy3 hy4 hy5 hp hlo hhi h2l h4l h5l hk5 hlt HROW
            have hq := HQ.out
            clear HQ
            have hp2 : (p = true ∧ x2 = !true ∧ n3 = 0) ∨ p = false := by
              cases p with
              | true => exact .inl ⟨rfl, HP2.out rfl⟩
              | false => exact .inr rfl
            clear HP2
            rcases hp2 with ⟨rfl, rfl, rfl⟩ | rfl
            all_goals
              rcases hq with ⟨rfl, rfl, rfl, rfl⟩ | hq
              · go_wp2_with (first
                  | (have q := Z16; clear q; go_at_call 18; refine (V5.out _ _ _ Z16.out N16.out).mono ?_; rintro e w17 ⟨rfl, b17⟩; have Z17 := hid (Z16.out.trans (b17.mono Z16.out.size)); clear b17)
                  | (have q := Z15; clear q; go_at_call 22; refine (O5.out _ Z15.out).mono ?_; rintro e w16 ⟨s16, c16, rfl, n16, b16⟩; have N16 := hid n16; have Z16 := hid (Z15.out.trans (b16.mono Z15.out.size)); clear b16; clear n16)
                  | (have q := Z14; clear q; go_at_call 19; refine (W4.out _ _ _ Z14.out N14.out).mono ?_; rintro e w15 ⟨rfl, b15⟩; have Z15 := hid (Z14.out.trans (b15.mono Z14.out.size)); clear b15)
                  | (have q := Z13; clear q; go_at_call 18; refine (V4.out _ _ _ Z13.out N13.out).mono ?_; rintro e w14 ⟨rfl, b14⟩; have N14 := hid (N13.out.below b14); have Z14 := hid (Z13.out.trans (b14.mono Z13.out.size)); clear b14)
                  | (have q := Z12; clear q; go_at_call 22; refine (O4.out _ Z12.out).mono ?_; rintro e w13 ⟨s13, c13, rfl, n13, b13⟩; have N13 := hid n13; have Z13 := hid (Z12.out.trans (b13.mono Z12.out.size)); clear b13; clear n13)
                  | (have q := Z11; clear q; go_at_call 18; refine (U1.out _ _ _ _ Z11.out X11.out.1 X11.out.2.1 X11.out.2.2).mono ?_; rintro e w12 ⟨rfl, b12⟩; have Z12 := hid (Z11.out.trans (b12.mono Z11.out.size)); clear b12)
                  | (have q := Z10; clear q; go_at_call 23; refine (T0.out _ true Z10.out).mono ?_; rintro e w11 ⟨s11, c11, M1, rfl, x11, y11, u11, b11⟩; have X11 := hid (And.intro x11 (And.intro y11 u11)); have Z11 := hid (Z10.out.trans (b11.mono Z10.out.size)); clear b11; clear x11 y11 u11)
                  | (have q := Z9; clear q; go_at_call 18; refine (U0.out _ _ _ _ Z9.out X9.out.1 X9.out.2.1 X9.out.2.2).mono ?_; rintro e w10 ⟨rfl, b10⟩; have Z10 := hid (Z9.out.trans (b10.mono Z9.out.size)); clear b10)
                  | (have q := Z8; clear q; go_at_call 23; refine (T0.out _ false Z8.out).mono ?_; rintro e w9 ⟨s9, c9, M0, rfl, x9, y9, u9, b9⟩; have X9 := hid (And.intro x9 (And.intro y9 u9)); have Z9 := hid (Z8.out.trans (b9.mono Z8.out.size)); clear b9; clear x9 y9 u9)
                  | (have q := Z7; clear q; go_at_call 21; refine (F2.out _ _ _ N7.out).mono ?_; rintro e w8 ⟨rfl, b8⟩; have Z8 := hid (Z7.out.trans (b8.mono Z7.out.size)); clear b8)
                  | (have q := Z6; clear q; go_at_call 18; refine (V2.out _ _ _ Z6.out N6.out).mono ?_; rintro e w7 ⟨rfl, b7⟩; have N7 := hid (N6.out.below b7); have Z7 := hid (Z6.out.trans (b7.mono Z6.out.size)); clear b7)
                  | (go_at_call 22; refine (O2.out _ BW.out).mono ?_; rintro e w6 ⟨s6, c6, rfl, n6, b6⟩; have N6 := hid n6; have Z6 := hid (BW.out.trans (b6.mono BW.out.size)); clear b6 n6))
                all_goals
                  go_ret
                  first
                    | exact ⟨rfl, Z17.out⟩
                    | (cases lo <;> cases hi <;> first | exact ⟨rfl, Z17.out⟩ | contradiction | (exfalso; simp_all))
              · have b4 : (n4 == 0) = false := by rw [beq_eq_false_iff_ne]; exact hq
                go_wp2_with (first
                  | (have q := Z16; clear q; go_at_call 18; refine (V5.out _ _ _ Z16.out N16.out).mono ?_; rintro e w17 ⟨rfl, b17⟩; have Z17 := hid (Z16.out.trans (b17.mono Z16.out.size)); clear b17)
                  | (have q := Z15; clear q; go_at_call 22; refine (O5.out _ Z15.out).mono ?_; rintro e w16 ⟨s16, c16, rfl, n16, b16⟩; have N16 := hid n16; have Z16 := hid (Z15.out.trans (b16.mono Z15.out.size)); clear b16; clear n16)
                  | (have q := Z14; clear q; go_at_call 19; refine (W4.out _ _ _ Z14.out N14.out).mono ?_; rintro e w15 ⟨rfl, b15⟩; have Z15 := hid (Z14.out.trans (b15.mono Z14.out.size)); clear b15)
                  | (have q := Z13; clear q; go_at_call 18; refine (V4.out _ _ _ Z13.out N13.out).mono ?_; rintro e w14 ⟨rfl, b14⟩; have N14 := hid (N13.out.below b14); have Z14 := hid (Z13.out.trans (b14.mono Z13.out.size)); clear b14)
                  | (have q := Z12; clear q; go_at_call 22; refine (O4.out _ Z12.out).mono ?_; rintro e w13 ⟨s13, c13, rfl, n13, b13⟩; have N13 := hid n13; have Z13 := hid (Z12.out.trans (b13.mono Z12.out.size)); clear b13; clear n13)
                  | (have q := Z11; clear q; go_at_call 18; refine (U1.out _ _ _ _ Z11.out X11.out.1 X11.out.2.1 X11.out.2.2).mono ?_; rintro e w12 ⟨rfl, b12⟩; have Z12 := hid (Z11.out.trans (b12.mono Z11.out.size)); clear b12)
                  | (have q := Z10; clear q; go_at_call 23; refine (T0.out _ true Z10.out).mono ?_; rintro e w11 ⟨s11, c11, M1, rfl, x11, y11, u11, b11⟩; have X11 := hid (And.intro x11 (And.intro y11 u11)); have Z11 := hid (Z10.out.trans (b11.mono Z10.out.size)); clear b11; clear x11 y11 u11)
                  | (have q := Z9; clear q; go_at_call 18; refine (U0.out _ _ _ _ Z9.out X9.out.1 X9.out.2.1 X9.out.2.2).mono ?_; rintro e w10 ⟨rfl, b10⟩; have Z10 := hid (Z9.out.trans (b10.mono Z9.out.size)); clear b10)
                  | (have q := Z8; clear q; go_at_call 23; refine (T0.out _ false Z8.out).mono ?_; rintro e w9 ⟨s9, c9, M0, rfl, x9, y9, u9, b9⟩; have X9 := hid (And.intro x9 (And.intro y9 u9)); have Z9 := hid (Z8.out.trans (b9.mono Z8.out.size)); clear b9; clear x9 y9 u9)
                  | (have q := Z7; clear q; go_at_call 21; refine (F2.out _ _ _ N7.out).mono ?_; rintro e w8 ⟨rfl, b8⟩; have Z8 := hid (Z7.out.trans (b8.mono Z7.out.size)); clear b8)
                  | (have q := Z6; clear q; go_at_call 18; refine (V2.out _ _ _ Z6.out N6.out).mono ?_; rintro e w7 ⟨rfl, b7⟩; have N7 := hid (N6.out.below b7); have Z7 := hid (Z6.out.trans (b7.mono Z6.out.size)); clear b7)
                  | (go_at_call 22; refine (O2.out _ BW.out).mono ?_; rintro e w6 ⟨s6, c6, rfl, n6, b6⟩; have N6 := hid n6; have Z6 := hid (BW.out.trans (b6.mono BW.out.size)); clear b6 n6))
                all_goals
                  go_ret
                  first
                    | exact ⟨rfl, Z17.out⟩
                    | (exfalso; omega)
      · go_enter Tryz.func7, Tryz.ntmps7
        go_wp2_with (first
          | (have q := B4; clear q; go_at_call 19; refine (R2.out _ B4.out).mono ?_; rintro e w5 ⟨rfl, b5⟩; have B5 := hid (B4.out.trans (b5.mono B4.out.size)); clear b5)
          | (have q := B3; clear q; go_at_call 19; refine (R1.out _ B3.out).mono ?_; rintro e w4 ⟨rfl, b4⟩; have B4 := hid (B3.out.trans (b4.mono B3.out.size)); clear b4)
          | (have q := B2; clear q; go_at_call 18; refine (E2.out _ B2.out).mono ?_; rintro e w3 ⟨rfl, b3⟩; have B3 := hid (B2.out.trans (b3.mono B2.out.size)); clear b3)
          | (have q := B1; clear q; go_at_call 18; refine (E1.out _ B1.out).mono ?_; rintro e w2 ⟨rfl, b2⟩; have B2 := hid (B1.out.trans (b2.mono B1.out.size)); clear b2)
          | (go_at_call 9; refine HA.out.mono ?_; rintro e w1 ⟨rfl, b1⟩; have B1 := hid b1; clear b1))
        have HROW : Hid (∀ W, Below (w5.alloc (Obj.cells #[.bool true, .bool true, .bool false, .bool true, .bool true] 45)).heap.size (w5.alloc (Obj.cells #[.bool true, .bool true, .bool false, .bool true, .bool true] 45)) W → ∀ k : Nat, k < 5 → W.cell? ⟨w5.heap.size, k, none⟩ = some (.bool (wantB true true k))) := fun W hW k hk5 => by
          have r := (hW.block w5.heap.size (by simp)).trans (heap_alloc_new w5 _)
          rw [cell_row r]
          obtain rfl | rfl | rfl | rfl | rfl : k = 0 ∨ k = 1 ∨ k = 2 ∨ k = 3 ∨ k = 4 := by omega
          all_goals rfl
        have BK : Hid (Below w.heap.size w (w5.alloc (Obj.cells #[.bool true, .bool true, .bool false, .bool true, .bool true] 45))) := B5.out.alloc B5.out.size _
        go_loopw [19] (fun kv W => ∃ k : Nat, k ≤ 5 ∧ kv = .int .i64 (k : Int) ∧ Hid (Below (w5.alloc (Obj.cells #[.bool true, .bool true, .bool false, .bool true, .bool true] 45)).heap.size (w5.alloc (Obj.cells #[.bool true, .bool true, .bool false, .bool true, .bool true] 45)) W)) (fun kv _ => 5 - (intOf kv).toNat)
        case atStart => exact ⟨0, by omega, rfl, Below.refl _ _⟩
        case round =>
          obtain ⟨k, hk5, rfl, HW⟩ := hrel
          have BW : Hid (Below w.heap.size w wr) := BK.out.trans (HW.out.mono BK.out.size)
          by_cases hlt : k < 5
          · have hltI : (k : Int) < 5 := by omega
            obtain ⟨y, hy⟩ : ∃ y, y = wantB true true k := ⟨_, rfl⟩
            obtain ⟨l, hl⟩ : ∃ l, l = f ++ g ++ [((6 : Int) + (k : Int), 0)] := ⟨_, rfl⟩
            obtain ⟨x, n3, hV3, hz3, hy3⟩ := eval_shape l L
            obtain ⟨p, hp⟩ : ∃ p, p = formedF l := ⟨_, rfl⟩
            have HP3 : Hid (p = true → x = y ∧ n3 = 0) := fun e => by
              rw [hy]
              exact hy3 _ (by rw [hl]; exact both_ok EA.out EB.out hlt (by rw [← hl, ← hp]; exact e))
            have hll : l.length ≤ 1099511627776 := by rw [hl]; simp; omega
            have C1 : Hid (∀ W, Below w.heap.size w W → Calls Tryz.prog 20 #[.slice sf f.length cf, .slice sg g.length cg, .int .i64 (6 + (k : Int))] W fun e w' => ∃ sx cx, e = .returned (.slice sx l.length cx) ∧ NodesAt w' sx l ∧ Below W.heap.size W w') := fun W hW => by
              rw [hl]
              exact both_any f g sf sg cf cg (6 + (k : Int)) W (HF.out.below hW) (HG.out.below hW) HCF.out HCG.out (by omega)
            have C2 : Hid (∀ W sx cx, Below w.heap.size w W → NodesAt W sx l → Calls Tryz.prog 18 #[.slice sx l.length cx, .slice sb L.length cb] W fun e w' => e = .returned (.tuple #[.bool x, .int .i64 n3]) ∧ Below W.heap.size W w') := fun W sx cx hW hn => by
              have := HEV.out l sx cx L sb cb W hn (HB.out.below hW) (by omega) (by omega)
              rwa [hV3] at this
            have C3 : Hid (∀ W sx cx, NodesAt W sx l → Calls Tryz.prog 21 #[.slice sx l.length cx] W fun e w' => e = .returned (.bool p) ∧ Below W.heap.size W w') := fun W sx cx hn => by
              have := formed_any l sx cx W hn (by omega)
              rwa [← hp] at this
            have HRK : Hid (∀ W, Below wr.heap.size wr W → W.cell? ⟨w5.heap.size, k, none⟩ = some (.bool y)) := fun W hW => by
              rw [hy]
              exact HROW.out W (HW.out.trans (hW.mono HW.out.size)) k hlt
            clear hl hV3 hz3 hy3 hp hll hy
            cases p with
            | true =>
              obtain ⟨rfl, rfl⟩ := HP3.out rfl
              clear HP3
              cases x
              all_goals
                go_wp2_with (first
                  | (have q := D2; clear q; go_at_call 21; refine (C3.out _ _ _ N2.out).mono ?_; rintro e w8 ⟨rfl, b8⟩; have ck := HRK.out w8 (D2.out.trans (b8.mono D2.out.size)); have hs8 : w5.heap.size < w8.heap.size := (Nat.lt_of_lt_of_le (Nat.lt_of_lt_of_le (by simp) HW.out.size) (D2.out.trans (b8.mono D2.out.size)).size); have D3 := hid (D2.out.trans (b8.mono D2.out.size)); clear b8)
                  | (have q := D1; clear q; go_at_call 18; refine (C2.out _ _ _ (BW.out.trans (D1.out.mono BW.out.size)) N1.out).mono ?_; rintro e w7 ⟨rfl, b7⟩; have N2 := hid (N1.out.below b7); have D2 := hid (D1.out.trans (b7.mono D1.out.size)); clear b7)
                  | (go_at_call 20; refine (C1.out _ BW.out).mono ?_; rintro e w6 ⟨sx, cx, rfl, n6, b6⟩; have N1 := hid n6; have D1 := hid b6; clear b6 n6))
                exact ⟨⟨k + 1, hlt, by go_num, HW.out.trans (D3.out.mono HW.out.size)⟩, by simp [intOf]; omega⟩
            | false =>
              go_wp2_with (first
                | (have q := D2; clear q; go_at_call 21; refine (C3.out _ _ _ N2.out).mono ?_; rintro e w8 ⟨rfl, b8⟩; have D3 := hid (D2.out.trans (b8.mono D2.out.size)); clear b8)
                | (have q := D1; clear q; go_at_call 18; refine (C2.out _ _ _ (BW.out.trans (D1.out.mono BW.out.size)) N1.out).mono ?_; rintro e w7 ⟨rfl, b7⟩; have N2 := hid (N1.out.below b7); have D2 := hid (D1.out.trans (b7.mono D1.out.size)); clear b7)
                | (go_at_call 20; refine (C1.out _ BW.out).mono ?_; rintro e w6 ⟨sx, cx, rfl, n6, b6⟩; have N1 := hid n6; have D1 := hid b6; clear b6 n6))
              exact ⟨⟨k + 1, hlt, by go_num, HW.out.trans (D3.out.mono HW.out.size)⟩, by simp [intOf]; omega⟩
          · have hk : k = 5 := by omega
            subst hk
            obtain ⟨l2, hl2⟩ : ∃ l, l = f ++ [((3 : Int), (0 : Int))] := ⟨_, rfl⟩
            obtain ⟨l4, hl4⟩ : ∃ l, l = f ++ [((4 : Int), (vn : Int))] := ⟨_, rfl⟩
            obtain ⟨l5, hl5⟩ : ∃ l, l = f ++ [((5 : Int), (vn : Int))] := ⟨_, rfl⟩
            obtain ⟨x2, n3, hV3, hz3, hy3⟩ := eval_shape l2 L
            obtain ⟨x4, n4, hV4, hz4, hy4⟩ := eval_shape l4 L
            obtain ⟨x5, n5, hV5, hz5, hy5⟩ := eval_shape l5 L
            obtain ⟨p, hp⟩ : ∃ p, p = formedF l2 := ⟨_, rfl⟩
            obtain ⟨lo, hlo⟩ : ∃ x, x = turnB f L vn false := ⟨_, rfl⟩
            obtain ⟨hi, hhi⟩ : ∃ x, x = turnB f L vn true := ⟨_, rfl⟩
            have HP2 : Hid (p = true → x2 = !true ∧ n3 = 0) := fun e => hy3 _ (by rw [hl2]; exact not_ok EA.out (by rw [← hl2, ← hp]; exact e))
            have HQ : Hid ((x4 = (lo || hi) ∧ n4 = 0 ∧ x5 = (lo && hi) ∧ n5 = 0) ∨ n4 ≠ 0) := by
              rcases quant_ok (v := vn) (by omega) EA.out with ⟨q1, q2⟩ | ⟨n, q1⟩
              · rw [← hl4, ← hlo, ← hhi] at q1
                rw [← hl5, ← hlo, ← hhi] at q2
                exact .inl ⟨(hy4 _ q1).1, (hy4 _ q1).2, (hy5 _ q2).1, (hy5 _ q2).2⟩
              · right
                intro h0
                have := hz4 h0
                rw [hl4, q1] at this
                cases this
            have h2l : l2.length ≤ 1099511627776 := by rw [hl2]; simp; omega
            have h4l : l4.length ≤ 1099511627776 := by rw [hl4]; simp; omega
            have h5l : l5.length ≤ 1099511627776 := by rw [hl5]; simp; omega
            have O2 : Hid (∀ W, Below w.heap.size w W → Calls Tryz.prog 22 #[.slice sf f.length cf, .agg #[.int .i64 3, .int .i64 0]] W fun e w' => ∃ sx cx, e = .returned (.slice sx l2.length cx) ∧ NodesAt w' sx l2 ∧ Below W.heap.size W w') := fun W hW => by
              rw [hl2]; exact over_any f sf cf (3, 0) W (HF.out.below hW) HCF.out (by omega)
            have O4 : Hid (∀ W, Below w.heap.size w W → Calls Tryz.prog 22 #[.slice sf f.length cf, .agg #[.int .i64 4, .int .i64 (vn : Int)]] W fun e w' => ∃ sx cx, e = .returned (.slice sx l4.length cx) ∧ NodesAt w' sx l4 ∧ Below W.heap.size W w') := fun W hW => by
              rw [hl4]; exact over_any f sf cf (4, (vn : Int)) W (HF.out.below hW) HCF.out (by omega)
            have O5 : Hid (∀ W, Below w.heap.size w W → Calls Tryz.prog 22 #[.slice sf f.length cf, .agg #[.int .i64 5, .int .i64 (vn : Int)]] W fun e w' => ∃ sx cx, e = .returned (.slice sx l5.length cx) ∧ NodesAt w' sx l5 ∧ Below W.heap.size W w') := fun W hW => by
              rw [hl5]; exact over_any f sf cf (5, (vn : Int)) W (HF.out.below hW) HCF.out (by omega)
            have V2 : Hid (∀ W sx cx, Below w.heap.size w W → NodesAt W sx l2 → Calls Tryz.prog 18 #[.slice sx l2.length cx, .slice sb L.length cb] W fun e w' => e = .returned (.tuple #[.bool x2, .int .i64 n3]) ∧ Below W.heap.size W w') := fun W sx cx hW hn => by
              have := HEV.out l2 sx cx L sb cb W hn (HB.out.below hW) (by omega) (by omega)
              rwa [hV3] at this
            have V4 : Hid (∀ W sx cx, Below w.heap.size w W → NodesAt W sx l4 → Calls Tryz.prog 18 #[.slice sx l4.length cx, .slice sb L.length cb] W fun e w' => e = .returned (.tuple #[.bool x4, .int .i64 n4]) ∧ Below W.heap.size W w') := fun W sx cx hW hn => by
              have := HEV.out l4 sx cx L sb cb W hn (HB.out.below hW) (by omega) (by omega)
              rwa [hV4] at this
            have W4 : Hid (∀ W sx cx, Below w.heap.size w W → NodesAt W sx l4 → Calls Tryz.prog 19 #[.slice sx l4.length cx, .slice sb L.length cb] W fun e w' => e = .returned (.tuple #[.bool x4, .int .i64 n4]) ∧ Below W.heap.size W w') := fun W sx cx hW hn => by
              have := eval_any l4 sx cx L sb cb W hn (HB.out.below hW) (by omega) (by omega)
              rwa [hV4] at this
            have V5 : Hid (∀ W sx cx, Below w.heap.size w W → NodesAt W sx l5 → Calls Tryz.prog 18 #[.slice sx l5.length cx, .slice sb L.length cb] W fun e w' => e = .returned (.tuple #[.bool x5, .int .i64 n5]) ∧ Below W.heap.size W w') := fun W sx cx hW hn => by
              have := HEV.out l5 sx cx L sb cb W hn (HB.out.below hW) (by omega) (by omega)
              rwa [hV5] at this
            have F2 : Hid (∀ W sx cx, NodesAt W sx l2 → Calls Tryz.prog 21 #[.slice sx l2.length cx] W fun e w' => e = .returned (.bool p) ∧ Below W.heap.size W w') := fun W sx cx hn => by
              have := formed_any l2 sx cx W hn (by omega)
              rwa [← hp] at this
            have T0 : Hid (∀ W u, Below w.heap.size w W → Calls Tryz.prog 23 #[.slice sb L.length cb, .int .i64 (vn : Int), .bool u] W fun e w' => ∃ sx cx M, e = .returned (.slice sx M.length cx) ∧ BitsAt w' sx M ∧ M.length ≤ 140737488351232 ∧ bitsE M = upd (bitsE L) (vn : Int) u ∧ Below W.heap.size W w') := fun W u hW => set_any L sb cb vn u W (HB.out.below hW) HCB.out hL hvn
            have U0 : Hid (∀ W sx cx M, Below w.heap.size w W → BitsAt W sx M → M.length ≤ 140737488351232 → bitsE M = upd (bitsE L) (vn : Int) false → Calls Tryz.prog 18 #[.slice sf f.length cf, .slice sx M.length cx] W fun e w' => e = .returned (.tuple #[.bool lo, .int .i64 0]) ∧ Below W.heap.size W w') := fun W sx cx M hW hx hm hM => by
              have := HEV.out f sf cf M sx cx W (HF.out.below hW) hx (by omega) hm
              rw [turn_ok EA.out hM, ← hlo] at this
              exact this
            have U1 : Hid (∀ W sx cx M, Below w.heap.size w W → BitsAt W sx M → M.length ≤ 140737488351232 → bitsE M = upd (bitsE L) (vn : Int) true → Calls Tryz.prog 18 #[.slice sf f.length cf, .slice sx M.length cx] W fun e w' => e = .returned (.tuple #[.bool hi, .int .i64 0]) ∧ Below W.heap.size W w') := fun W sx cx M hW hx hm hM => by
              have := HEV.out f sf cf M sx cx W (HF.out.below hW) hx (by omega) hm
              rw [turn_ok EA.out hM, ← hhi] at this
              exact this
            clear hl2 hl4 hl5 hV3 hV4 hV5 hz3 hz4 hz5 hy3 hy4 hy5 hp hlo hhi h2l h4l h5l hk5 hlt HROW
            have hq := HQ.out
            clear HQ
            have hp2 : (p = true ∧ x2 = !true ∧ n3 = 0) ∨ p = false := by
              cases p with
              | true => exact .inl ⟨rfl, HP2.out rfl⟩
              | false => exact .inr rfl
            clear HP2
            rcases hp2 with ⟨rfl, rfl, rfl⟩ | rfl
            all_goals
              rcases hq with ⟨rfl, rfl, rfl, rfl⟩ | hq
              · go_wp2_with (first
                  | (have q := Z16; clear q; go_at_call 18; refine (V5.out _ _ _ Z16.out N16.out).mono ?_; rintro e w17 ⟨rfl, b17⟩; have Z17 := hid (Z16.out.trans (b17.mono Z16.out.size)); clear b17)
                  | (have q := Z15; clear q; go_at_call 22; refine (O5.out _ Z15.out).mono ?_; rintro e w16 ⟨s16, c16, rfl, n16, b16⟩; have N16 := hid n16; have Z16 := hid (Z15.out.trans (b16.mono Z15.out.size)); clear b16; clear n16)
                  | (have q := Z14; clear q; go_at_call 19; refine (W4.out _ _ _ Z14.out N14.out).mono ?_; rintro e w15 ⟨rfl, b15⟩; have Z15 := hid (Z14.out.trans (b15.mono Z14.out.size)); clear b15)
                  | (have q := Z13; clear q; go_at_call 18; refine (V4.out _ _ _ Z13.out N13.out).mono ?_; rintro e w14 ⟨rfl, b14⟩; have N14 := hid (N13.out.below b14); have Z14 := hid (Z13.out.trans (b14.mono Z13.out.size)); clear b14)
                  | (have q := Z12; clear q; go_at_call 22; refine (O4.out _ Z12.out).mono ?_; rintro e w13 ⟨s13, c13, rfl, n13, b13⟩; have N13 := hid n13; have Z13 := hid (Z12.out.trans (b13.mono Z12.out.size)); clear b13; clear n13)
                  | (have q := Z11; clear q; go_at_call 18; refine (U1.out _ _ _ _ Z11.out X11.out.1 X11.out.2.1 X11.out.2.2).mono ?_; rintro e w12 ⟨rfl, b12⟩; have Z12 := hid (Z11.out.trans (b12.mono Z11.out.size)); clear b12)
                  | (have q := Z10; clear q; go_at_call 23; refine (T0.out _ true Z10.out).mono ?_; rintro e w11 ⟨s11, c11, M1, rfl, x11, y11, u11, b11⟩; have X11 := hid (And.intro x11 (And.intro y11 u11)); have Z11 := hid (Z10.out.trans (b11.mono Z10.out.size)); clear b11; clear x11 y11 u11)
                  | (have q := Z9; clear q; go_at_call 18; refine (U0.out _ _ _ _ Z9.out X9.out.1 X9.out.2.1 X9.out.2.2).mono ?_; rintro e w10 ⟨rfl, b10⟩; have Z10 := hid (Z9.out.trans (b10.mono Z9.out.size)); clear b10)
                  | (have q := Z8; clear q; go_at_call 23; refine (T0.out _ false Z8.out).mono ?_; rintro e w9 ⟨s9, c9, M0, rfl, x9, y9, u9, b9⟩; have X9 := hid (And.intro x9 (And.intro y9 u9)); have Z9 := hid (Z8.out.trans (b9.mono Z8.out.size)); clear b9; clear x9 y9 u9)
                  | (have q := Z7; clear q; go_at_call 21; refine (F2.out _ _ _ N7.out).mono ?_; rintro e w8 ⟨rfl, b8⟩; have Z8 := hid (Z7.out.trans (b8.mono Z7.out.size)); clear b8)
                  | (have q := Z6; clear q; go_at_call 18; refine (V2.out _ _ _ Z6.out N6.out).mono ?_; rintro e w7 ⟨rfl, b7⟩; have N7 := hid (N6.out.below b7); have Z7 := hid (Z6.out.trans (b7.mono Z6.out.size)); clear b7)
                  | (go_at_call 22; refine (O2.out _ BW.out).mono ?_; rintro e w6 ⟨s6, c6, rfl, n6, b6⟩; have N6 := hid n6; have Z6 := hid (BW.out.trans (b6.mono BW.out.size)); clear b6 n6))
                all_goals
                  go_ret
                  first
                    | exact ⟨rfl, Z17.out⟩
                    | (cases lo <;> cases hi <;> first | exact ⟨rfl, Z17.out⟩ | contradiction | (exfalso; simp_all))
              · have b4 : (n4 == 0) = false := by rw [beq_eq_false_iff_ne]; exact hq
                go_wp2_with (first
                  | (have q := Z16; clear q; go_at_call 18; refine (V5.out _ _ _ Z16.out N16.out).mono ?_; rintro e w17 ⟨rfl, b17⟩; have Z17 := hid (Z16.out.trans (b17.mono Z16.out.size)); clear b17)
                  | (have q := Z15; clear q; go_at_call 22; refine (O5.out _ Z15.out).mono ?_; rintro e w16 ⟨s16, c16, rfl, n16, b16⟩; have N16 := hid n16; have Z16 := hid (Z15.out.trans (b16.mono Z15.out.size)); clear b16; clear n16)
                  | (have q := Z14; clear q; go_at_call 19; refine (W4.out _ _ _ Z14.out N14.out).mono ?_; rintro e w15 ⟨rfl, b15⟩; have Z15 := hid (Z14.out.trans (b15.mono Z14.out.size)); clear b15)
                  | (have q := Z13; clear q; go_at_call 18; refine (V4.out _ _ _ Z13.out N13.out).mono ?_; rintro e w14 ⟨rfl, b14⟩; have N14 := hid (N13.out.below b14); have Z14 := hid (Z13.out.trans (b14.mono Z13.out.size)); clear b14)
                  | (have q := Z12; clear q; go_at_call 22; refine (O4.out _ Z12.out).mono ?_; rintro e w13 ⟨s13, c13, rfl, n13, b13⟩; have N13 := hid n13; have Z13 := hid (Z12.out.trans (b13.mono Z12.out.size)); clear b13; clear n13)
                  | (have q := Z11; clear q; go_at_call 18; refine (U1.out _ _ _ _ Z11.out X11.out.1 X11.out.2.1 X11.out.2.2).mono ?_; rintro e w12 ⟨rfl, b12⟩; have Z12 := hid (Z11.out.trans (b12.mono Z11.out.size)); clear b12)
                  | (have q := Z10; clear q; go_at_call 23; refine (T0.out _ true Z10.out).mono ?_; rintro e w11 ⟨s11, c11, M1, rfl, x11, y11, u11, b11⟩; have X11 := hid (And.intro x11 (And.intro y11 u11)); have Z11 := hid (Z10.out.trans (b11.mono Z10.out.size)); clear b11; clear x11 y11 u11)
                  | (have q := Z9; clear q; go_at_call 18; refine (U0.out _ _ _ _ Z9.out X9.out.1 X9.out.2.1 X9.out.2.2).mono ?_; rintro e w10 ⟨rfl, b10⟩; have Z10 := hid (Z9.out.trans (b10.mono Z9.out.size)); clear b10)
                  | (have q := Z8; clear q; go_at_call 23; refine (T0.out _ false Z8.out).mono ?_; rintro e w9 ⟨s9, c9, M0, rfl, x9, y9, u9, b9⟩; have X9 := hid (And.intro x9 (And.intro y9 u9)); have Z9 := hid (Z8.out.trans (b9.mono Z8.out.size)); clear b9; clear x9 y9 u9)
                  | (have q := Z7; clear q; go_at_call 21; refine (F2.out _ _ _ N7.out).mono ?_; rintro e w8 ⟨rfl, b8⟩; have Z8 := hid (Z7.out.trans (b8.mono Z7.out.size)); clear b8)
                  | (have q := Z6; clear q; go_at_call 18; refine (V2.out _ _ _ Z6.out N6.out).mono ?_; rintro e w7 ⟨rfl, b7⟩; have N7 := hid (N6.out.below b7); have Z7 := hid (Z6.out.trans (b7.mono Z6.out.size)); clear b7)
                  | (go_at_call 22; refine (O2.out _ BW.out).mono ?_; rintro e w6 ⟨s6, c6, rfl, n6, b6⟩; have N6 := hid n6; have Z6 := hid (BW.out.trans (b6.mono BW.out.size)); clear b6 n6))
                all_goals
                  go_ret
                  first
                    | exact ⟨rfl, Z17.out⟩
                    | (exfalso; omega)
    · have b2 : (n2 == 0) = false := by rw [beq_eq_false_iff_ne]; exact h2
      clear hz1 hz2 hy1 hy2 h2
      all_goals
        go_enter Tryz.func7, Tryz.ntmps7
        go_wp2_with (first
          | (have q := B4; clear q; go_at_call 19; refine (R2.out _ B4.out).mono ?_; rintro e w5 ⟨rfl, b5⟩; have B5 := hid (B4.out.trans (b5.mono B4.out.size)); clear b5)
          | (have q := B3; clear q; go_at_call 19; refine (R1.out _ B3.out).mono ?_; rintro e w4 ⟨rfl, b4⟩; have B4 := hid (B3.out.trans (b4.mono B3.out.size)); clear b4)
          | (have q := B2; clear q; go_at_call 18; refine (E2.out _ B2.out).mono ?_; rintro e w3 ⟨rfl, b3⟩; have B3 := hid (B2.out.trans (b3.mono B2.out.size)); clear b3)
          | (have q := B1; clear q; go_at_call 18; refine (E1.out _ B1.out).mono ?_; rintro e w2 ⟨rfl, b2⟩; have B2 := hid (B1.out.trans (b2.mono B1.out.size)); clear b2)
          | (go_at_call 9; refine HA.out.mono ?_; rintro e w1 ⟨rfl, b1⟩; have B1 := hid b1; clear b1))
        go_ret
        exact ⟨rfl, B5.out⟩
  · have b1 : (n1 == 0) = false := by rw [beq_eq_false_iff_ne]; exact h1
    clear hz1 hz2 hy1 hy2 h1
    all_goals
      go_enter Tryz.func7, Tryz.ntmps7
      go_wp2_with (first
        | (have q := B4; clear q; go_at_call 19; refine (R2.out _ B4.out).mono ?_; rintro e w5 ⟨rfl, b5⟩; have B5 := hid (B4.out.trans (b5.mono B4.out.size)); clear b5)
        | (have q := B3; clear q; go_at_call 19; refine (R1.out _ B3.out).mono ?_; rintro e w4 ⟨rfl, b4⟩; have B4 := hid (B3.out.trans (b4.mono B3.out.size)); clear b4)
        | (have q := B2; clear q; go_at_call 18; refine (E2.out _ B2.out).mono ?_; rintro e w3 ⟨rfl, b3⟩; have B3 := hid (B2.out.trans (b3.mono B2.out.size)); clear b3)
        | (have q := B1; clear q; go_at_call 18; refine (E1.out _ B1.out).mono ?_; rintro e w2 ⟨rfl, b2⟩; have B2 := hid (B1.out.trans (b2.mono B1.out.size)); clear b2)
        | (go_at_call 9; refine HA.out.mono ?_; rintro e w1 ⟨rfl, b1⟩; have B1 := hid b1; clear b1))
      go_ret
      exact ⟨rfl, B5.out⟩
end Go.Proofs.YtdkboifpdodonabGreatDoor.Doc
