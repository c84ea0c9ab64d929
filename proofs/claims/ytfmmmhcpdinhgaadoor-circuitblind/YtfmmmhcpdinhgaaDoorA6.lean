/-
  CircuitMeans: the law, over contracts of the program's own First, Run, Step.
-/
import Derived.Test.YtfmmmhcpdinhgaaDoorA5
namespace Go.Proofs.YtfmmmhcpdinhgaaDoor
open Go.RowKit Go.Deep PureNet
set_option maxRecDepth 100000

set_option maxHeartbeats 4000000 in
set_option maxRecDepth 100000 in
theorem means_law (hF : FirstOk 11) (hU : RunOk 13) (hT : StepOk 15) (code : List Int) (sc : Option Addr) (cc : Nat) (steps : List (List Bool)) (ss : Option Addr) (cs : Nat) (w : World) (hkd : KindsAt w) (hc : CellsAt w sc (nu code)) (hr : ∀ x ∈ code, -9223372036854775808 ≤ x ∧ x ≤ 9223372036854775807) (hl : code.length ≤ 17592186043904)
    (hs : ListsAt w ss steps) (hsl : steps.length ≤ 5864062014634) (hsb : ∀ l ∈ steps, l.length ≤ 140737488351232) :
    Calls Tryd.prog 3 #[.slice sc code.length cc, .slice ss steps.length cs] w fun e w' => e = .returned (.bool true) ∧ Below w.heap.size w w' := by
  have MD := hid (made_any code sc cc w hc hr hl)
  have SS := hid hs
  have KD := hid hkd
  have SB := hid hsb
  clear hc hr hs hsb hkd
  go_enter Tryd.func3, Tryd.ntmps3
  go_wp2_with (fail)
  with_reducible refine MD.out.mono ?_
  rintro e w1 ⟨c, sg, cg, so, co, rfl, hm, mg, mo⟩
  clear MD
  obtain ⟨sg2, cg2, hg2, cgs, hgn, _⟩ := own_cells mg.own
  cases hg2
  obtain ⟨so2, co2, ho2, cos, hon, _⟩ := own_cells mo.own
  cases ho2
  have B1 := hid mg.below
  have CA : Hid (CirAt w1 c sg so) := ⟨cgs, cos⟩
  have HM := hid hm
  have hfew := hm.few
  have hfewo := hm.fewOuts
  clear hm mg mo cgs cos hgn hon
  obtain ⟨X, hX⟩ : ∃ X, X = w1.alloc (Obj.cells #[.string c.name, .slice sg c.gates.length cg, .slice so c.outs.length co] 26) := ⟨_, rfl⟩
  obtain ⟨bx, hbx⟩ : ∃ bx, bx = w1.heap.size := ⟨_, rfl⟩
  have BX : Hid (Below w1.heap.size w1 X) := by rw [hX]; exact (Below.refl _ _).alloc (Nat.le_refl _) _
  have BOX : Hid (∀ W, Below X.heap.size X W → (∀ j, W.cell? ⟨bx, j, none⟩ = (#[.string c.name, .slice sg c.gates.length cg, .slice so c.outs.length co] : Array Value)[j]?) ∧ bx < W.heap.size) := fun W hW => by
    have hr : X.heap[bx]? = some (Obj.cells #[.string c.name, .slice sg c.gates.length cg, .slice so c.outs.length co] 26) := by rw [hX, hbx]; exact heap_alloc_new w1 _
    have hr2 := (hW.block _ (Array.getElem?_eq_some_iff.1 hr).1).trans hr
    exact ⟨fun j => cell_row hr2 j, (Array.getElem?_eq_some_iff.1 hr2).1⟩
  have CX : Hid (CirAt X c sg so) := CA.out.below BX.out
  have KX : Hid (KindsAt X) := (KD.out.on B1.out).on BX.out
  have CN1 : Hid (∀ W, Below X.heap.size X W → Calls Tryd.prog 10 #[cirV c sg cg so co, .int .i64 1] W fun e w' => e = .returned (.int .i64 (cnt 1 c.gates : Int)) ∧ Below W.heap.size W w') := fun W hW => count_any c sg so cg co 1 W (CX.out.below hW).gates (by omega)
  have CN3 : Hid (∀ W, Below X.heap.size X W → Calls Tryd.prog 10 #[cirV c sg cg so co, .int .i64 3] W fun e w' => e = .returned (.int .i64 (cnt 3 c.gates : Int)) ∧ Below W.heap.size W w') := fun W hW => count_any c sg so cg co 3 W (CX.out.below hW).gates (by omega)
  have FR : Hid (∀ W, Below X.heap.size X W → _) := fun W hW => hF c sg so cg co W (CX.out.below hW) (KX.out.on hW) HM.out.formed
  have HFL := hid (firsts_len c.gates)
  have B0 : Hid (Below X.heap.size X X) := Below.refl _ _
  obtain ⟨c0, hb0⟩ := BOX.out _ B0.out
  have HX := hid hX
  have HBX := hid hbx
  have h1le := cnt_take_le_i 1 c.gates c.gates.length
  have h3le := cnt_take_le_i 3 c.gates c.gates.length
  rw [List.take_length] at h1le h3le
  clear hX hbx
  go_wp2_with (first
    | (rw [← HX.out, ← HBX.out])
    | (have q := B3; clear q; go_at_call 11; with_reducible refine (FR.out _ B3.out).mono ?_; rintro e w4 ⟨⟨sl, kl, rfl, cl4, hn4⟩, b4⟩; have B4 := hid (B3.out.trans (b4.mono B3.out.size)); have CL := hid cl4; have HN4 := hid hn4; obtain ⟨c4, hb4⟩ := BOX.out _ B4.out; rw [HFL.out] at *; clear b4 cl4 hn4)
    | (have q := B2; clear q; go_at_call 10; with_reducible refine (CN3.out _ B2.out).mono ?_; rintro e w3 ⟨rfl, b3⟩; have B3 := hid (B2.out.trans (b3.mono B2.out.size)); obtain ⟨c3, hb3⟩ := BOX.out _ B3.out; clear b3)
    | (go_at_call 10; with_reducible refine (CN1.out _ B0.out).mono ?_; rintro e w2 ⟨rfl, b2⟩; have B2 := hid (B0.out.trans (b2.mono B0.out.size)); obtain ⟨c2, hb2⟩ := BOX.out _ B2.out; clear b2))
  obtain ⟨N, hN⟩ : ∃ N, N = cnt 1 c.gates := ⟨_, rfl⟩
  obtain ⟨M, hM⟩ : ∃ M, M = cnt 3 c.gates := ⟨_, rfl⟩
  rw [← hN] at h1le ⊢
  rw [← hM] at h3le ⊢
  have HN := hid hN
  have HM3 := hid hM
  clear hN hM CN1 CN3 FR c0 c2 c3 hb0 hb2 hb3 c4 hb4 HX HBX
  have hB4 : Hid (Below w.heap.size w w4) := B1.out.trans ((BX.out.trans (B4.out.mono BX.out.size)).mono B1.out.size)
  go_loopw [10, 11] (fun vv iv W => ∃ (i : Nat) (xs : List (Nat × List Bool)), i ≤ steps.length ∧ iv = .int .i64 (i : Int) ∧ Hid (LsMk w4 W vv xs ∧ xs.map Prod.snd = (steps.take i).map (fitL · N))) (fun vv iv _ => steps.length - (intOf iv).toNat)
  case atStart => exact ⟨0, [], Nat.zero_le _, rfl, LsMk.nil _, by simp⟩
  case round =>
    obtain ⟨i, xs, hi, rfl, HR⟩ := hrel
    obtain ⟨hls, hxs⟩ := HR.out
    have hxl : xs.length = i := by
      have := congrArg List.length hxs
      simp only [List.length_map, List.length_take] at this
      omega
    obtain ⟨sv, kv, rfl⟩ := own_shape hls.row.own
    have hwr : Below w.heap.size w wr := hB4.out.trans (hls.row.below.mono hB4.out.size)
    by_cases hlt : i < steps.length
    · obtain ⟨l, hl⟩ : ∃ l, steps[i]? = some l := ⟨_, List.getElem?_eq_getElem hlt⟩
      obtain ⟨g, o, sb, cb, rfl, hg, hcell, hcl, hcn⟩ := (SS.out.below hwr).at_ i l hl
      have FT := hid (fit_any l sb cb N wr hcl hcn (SB.out l (List.mem_of_getElem? hl)) (by omega))
      have LS := hid hls
      have HXS : Hid ((xs ++ [(wr.heap.size, fitL l N)]).map Prod.snd = (steps.take (i + 1)).map (fitL · N)) := by
        show _ = _
        rw [List.map_append, hxs, List.take_add_one, hl, List.map_append]
        rfl
      have HXL := hid hxl
      clear hls hxs hcl hcn hl HR hwr hxl
      go_wp2_with (first
        | (have q := LS5; clear q; at_builtin; refine mk_app rfl _ _ 23 _ 24 rfl Tryd.underlying23 info29 rfl (by decide) LS5.out.row [.slice (some ⟨wr.heap.size, 0, none⟩) N N] 29 _ rfl rfl rfl rfl (fun u hu => by simp at hu; subst hu; rfl) (by have := HXL.out; omega) (by have := HXL.out; omega) ?_; intro sx cx w6 g6 m6; have LS6 := hid ((LS5.out.on ((Below.refl _ _).alloc (Nat.le_refl _) _)).grow wr.heap.size (fitL l N) ((Below.heap_alloc w5 _ _ (Array.getElem?_eq_some_iff.1 R5.out).1).trans R5.out) g6 (by rw [fitL_len]; exact m6)); clear g6 m6)
        | (go_at_call 12; with_reducible refine FT.out.mono ?_; rintro e w5 ⟨rfl, r5, b5⟩; have LS5 := hid (LS.out.on b5); have R5 := hid r5; clear r5 b5))
      exact ⟨⟨i + 1, _, hlt, by go_num, LS6.out, HXS.out⟩, by simp [intOf]; omega⟩
    · have hin : i = steps.length := by omega
      subst hin
      rw [List.take_length] at hxs
      obtain ⟨Is, hIs⟩ : ∃ Is, Is = steps.map (fitL · N) := ⟨_, rfl⟩
      rw [← hIs] at hxs
      have hIl : Is.length = steps.length := by rw [hIs, List.length_map]
      have HIN : Hid (∀ l ∈ Is, l.length = N) := fun l hl => by
        rw [hIs, List.mem_map] at hl
        obtain ⟨l', _, rfl⟩ := hl
        exact fitL_len _ _
      obtain ⟨s2, k2, he, hli, _⟩ := hls.lists
      cases he
      rw [hxs] at hli
      obtain ⟨w5, hw5⟩ : ∃ w5, w5 = wr := ⟨_, rfl⟩
      subst hw5
      have B5 : Hid (Below X.heap.size X w5) := B4.out.trans (hls.row.below.mono B4.out.size)
      have BW5 : Hid (Below w.heap.size w w5) := hwr
      have IL := hid hli
      have CL5 : Hid (CellsAt w5 sl (bo (firstsOf c.gates))) := CL.out.below hls.row.below
      have RN := hid (hU c sg so cg co Is (runUp c (firstsOf c.gates) Is) sv kv w5 (CX.out.below B5.out) (KX.out.on B5.out) HM.out.formed hli (by rw [← HN.out]; exact HIN.out) (by omega) (runUp_run HM.out.line HM.out.above Is _))
      have HUL := hid (runUp_len c Is (firstsOf c.gates))
      rw [hIl, HUL.out, hIl] at RN
      rw [hxl]
      obtain ⟨c5, hb5⟩ := BOX.out _ B5.out
      obtain ⟨n, hn⟩ : ∃ n, n = steps.length := ⟨_, rfl⟩
      rw [← hn] at RN hsl hIl ⊢
      have HIL := hid hIl
      have HNN := hid hn
      clear hn
      clear hls hxs hwr HR hli hIs hlt hxl hi hIl
      go_wp2_with (first
        | (go_at_call 13; with_reducible refine RN.out.mono ?_; rintro e w6 ⟨⟨sa, ka, rfl, la6⟩, b6⟩; have B6 := hid (B5.out.trans (b6.mono B5.out.size)); have BW6 := hid (BW5.out.trans (b6.mono BW5.out.size)); have LA := hid la6.lists; have IL6 := hid (IL.out.below b6); have CL6 := hid (CL5.out.below b6); obtain ⟨c6, hb6⟩ := BOX.out _ B6.out; clear b6 la6 c5 hb5))
      obtain ⟨F0, hF0⟩ : ∃ F0, F0 = firstsOf c.gates := ⟨_, rfl⟩
      have HF0 : Hid (F0.length = M) := by show _ = _; rw [hF0, firsts_len, HM3.out]
      rw [← hF0] at LA CL6
      clear hF0 RN HUL CL5 CL IL HFL B4 B5 BW5 hB4
      go_loopw [8, 13] (fun lv iv W => ∃ (i : Nat) (las : List Bool) (s1 : Option Addr) (k1 : Nat), i ≤ n ∧ iv = .int .i64 (i : Int) ∧ lv = .slice s1 M k1 ∧ Hid (Below w6.heap.size w6 W ∧ CellsAt W s1 (bo las) ∧ las = lasUp c F0 (Is.take i) ∧ las.length = M)) (fun lv iv _ => n - (intOf iv).toNat)
      case atStart => exact ⟨0, F0, _, _, Nat.zero_le _, rfl, rfl, Below.refl _ _, CL6.out, rfl, HF0.out⟩
      case round =>
        obtain ⟨i, las, s1, k1, hi, rfl, rfl, HR⟩ := hrel
        obtain ⟨hb, hcl, hla, hll⟩ := HR.out
        clear c6 hb6
        have BX7 : Hid (Below X.heap.size X wr) := B6.out.trans (hb.mono B6.out.size)
        obtain ⟨c7, hb7⟩ := BOX.out _ BX7.out
        by_cases hlt : i < n
        · obtain ⟨li, hli⟩ : ∃ l, Is[i]? = some l := ⟨_, List.getElem?_eq_getElem (by have := HIL.out; omega)⟩
          have hlN := HIN.out li (List.mem_of_getElem? hli)
          obtain ⟨g, o, sb, cb, rfl, hg, hcell, hcb, _⟩ := (IL6.out.below hb).at_ i li hli
          have hget := runUp_get c Is F0 i (by have := HIL.out; omega)
          rw [show Is[i]'(by have := HIL.out; omega) = li from (List.getElem?_eq_some_iff.1 hli).2, ← hla] at hget
          obtain ⟨V, hV⟩ : ∃ V, V = valsUp c.gates li las c.gates.length := ⟨_, rfl⟩
          rw [← hV] at hget
          have HVL : Hid (V.length = c.gates.length) := by show _ = _; rw [hV]; exact valsUp_len _ _ _ _ (Nat.le_refl _)
          have HVV : Hid (Vals c.gates li las V) := by rw [hV]; exact valsUp_vals li las HM.out.line HM.out.above
          have HNX : Hid (nextOf c V = lasUp c F0 (Is.take (i + 1))) := by
            show _ = _
            rw [List.take_add_one, hli, hV, hla]
            exact (lasUp_snoc c (Is.take i) li F0).symm
          have VA := hid (fun W (hW : Below wr.heap.size wr W) => values_any c sg so cg co li las sb s1 cb k1 W HM.out (CX.out.below (BX7.out.trans (hW.mono BX7.out.size))).gates (hcb.below hW) (hcl.below hW) (by rw [hlN]; exact Nat.le_of_eq HN.out.symm) (by rw [hll]; exact Nat.le_of_eq HM3.out.symm) (by omega) (by omega))
          rw [hlN, hll, ← hV] at VA
          obtain ⟨ga2, oa2, sb2, cb2, rfl, hg2, hcell2, hcb2, _⟩ := (LA.out.below hb).at_ i _ hget
          have CI := hid hcb
          have CLA := hid hcl
          have CO := hid hcb2
          have HLN := hid hlN
          have HLL := hid hll
          have BW := hid hb
          rw [hlN] at hcell
          clear hb hcl hla hll hli hget hcb hcb2 hV hlN HR
          have a0 : wr.cell? ⟨bx, 0, none⟩ = some (.string c.name) := (c7 0).trans rfl
          have a1 : wr.cell? ⟨bx, 1, none⟩ = some (.slice sg c.gates.length cg) := (c7 1).trans rfl
          have a2 : wr.cell? ⟨bx, 2, none⟩ = some (.slice so c.outs.length co) := (c7 2).trans rfl
          clear c7
          have TD := hid ((Below.refl wr.heap.size wr).drew)
          have KP : Hid (∀ W, Below wr.drew.heap.size wr.drew W → W.cell? ⟨bx, 0, none⟩ = some (.string c.name) ∧ W.cell? ⟨bx, 1, none⟩ = some (.slice sg c.gates.length cg) ∧ W.cell? ⟨bx, 2, none⟩ = some (.slice so c.outs.length co) ∧ W.cell? ⟨g, o + i, none⟩ = some (.slice sb N cb)) := fun W hW => ⟨below_cell hW hb7 a0, below_cell hW hb7 a1, below_cell hW hb7 a2, below_cell hW hg hcell⟩
          go_wp2
          go_region_held3 (fun W => W.cell? ⟨bx, 0, none⟩ = some (.string c.name) ∧ W.cell? ⟨bx, 1, none⟩ = some (.slice sg c.gates.length cg) ∧ W.cell? ⟨bx, 2, none⟩ = some (.slice so c.outs.length co) ∧ W.cell? ⟨g, o + i, none⟩ = some (.slice sb N cb)) (go_keep)
            (first
              | (go_at_call 14; with_reducible refine Calls.mono (VA.out _ TD.out) ?_; rintro e w7 ⟨v7, rfl, m7⟩; obtain ⟨sv7, kv7, rfl⟩ := own_shape m7.own; have M7 := hid m7; obtain ⟨d0, d1, d2, d3⟩ := KP.out _ m7.below; clear m7))
          have BX8 : Hid (Below X.heap.size X w7) := BX7.out.trans ((TD.out.trans (M7.out.below.mono TD.out.size)).mono BX7.out.size)
          have BW8 : Hid (Below w6.heap.size w6 w7) := BW.out.trans ((TD.out.trans (M7.out.below.mono TD.out.size)).mono BW.out.size)
          have BR8 : Hid (Below wr.heap.size wr w7) := TD.out.trans (M7.out.below.mono TD.out.size)
          obtain ⟨sv8, kv8, he8, hcv, _, hkv, _⟩ := own_cells M7.out.own
          cases he8
          have CV := hid hcv
          have CI8 := hid (CI.out.below BR8.out)
          have CLA8 := hid (CLA.out.below BR8.out)
          have CO8 := hid (CO.out.below BR8.out)
          have e2 := below_cell BR8.out hg2 hcell2
          have hg28 := Nat.lt_of_lt_of_le hg2 BR8.out.size
          have hg8 := Nat.lt_of_lt_of_le hg BR8.out.size
          have E2 := hid e2
          have E3 := hid d3
          have HG2 := hid hg28
          have HG3 := hid hg8
          clear hcv KP TD VA CI CLA CO BX7 BW BR8 M7 hcell hcell2 hg hg2 hb7 a0 a1 a2 d0 d1 d2 d3 e2 hg28 hg8
          obtain ⟨w8, hw8⟩ : ∃ w8, w8 = w7 := ⟨_, rfl⟩
          subst hw8
          go_wp2
          go_loopw [15, 17] (fun ov kv W => ∃ k : Nat, k ≤ c.outs.length ∧ kv = .int .i64 (k : Int) ∧ Hid (Mk w8 W 4 1 ov k (bo ((c.outs.take k).map (valAt V))))) (fun ov kv _ => c.outs.length - (intOf kv).toNat)
          case atStart => exact ⟨0, Nat.zero_le _, rfl, Mk.nil _ _ _⟩
          case round =>
            obtain ⟨k, hk, rfl, HK⟩ := hrel
            have hmk := HK.out
            obtain ⟨so9, ko9, rfl⟩ := own_shape hmk.own
            have BX9 : Hid (Below X.heap.size X wr) := BX8.out.trans (hmk.below.mono BX8.out.size)
            obtain ⟨c9, hb9⟩ := BOX.out _ BX9.out
            by_cases hltk : k < c.outs.length
            · obtain ⟨x, hx⟩ : ∃ x, c.outs[k]? = some x := ⟨_, List.getElem?_eq_getElem hltk⟩
              have hxr := HM.out.outs x (List.mem_of_getElem? hx)
              obtain ⟨go9, oo9, rfl, hgo, hco⟩ := num_at (CX.out.below BX9.out).outs k x hx
              obtain ⟨xn, rfl⟩ : ∃ xn : Nat, x = (xn : Int) := ⟨x.toNat, by omega⟩
              obtain ⟨y, hy⟩ : ∃ y, V[xn]? = some y := ⟨_, List.getElem?_eq_getElem (by have := HVL.out; omega)⟩
              obtain ⟨gv9, ov9, rfl, hgv, hcy⟩ := bit_at (CV.out.below hmk.below) xn y hy
              have HT : Hid (bo ((c.outs.take (k + 1)).map (valAt V)) = bo ((c.outs.take k).map (valAt V)) ++ [.bool y]) := by
                show _ = _
                rw [List.take_add_one, hx]
                simp [bo, valAt, hy]
              have MK := hid hmk
              have hxn : xn < c.gates.length := by omega
              clear hx hy hmk HK
              go_wp2_with (first
                | (at_builtin; refine mk_app rfl _ _ 29 (.bool false) 1 rfl Tryd.underlying29 info4 rfl (by decide) MK.out [.bool y] 4 _ rfl rfl rfl rfl (fun u hu => by simp at hu; subst hu; rfl) (by omega) (by omega) ?_; intro sx cx w9 _ m9; have M9 := hid m9; clear m9))
              exact ⟨⟨k + 1, hltk, by go_num, by show Mk _ _ _ _ _ _ _; rw [HT.out]; exact M9.out⟩, by simp [intOf]; omega⟩
            · have hkn : k = c.outs.length := by omega
              subst hkn
              rw [List.take_length] at hmk
              obtain ⟨w9, hw9⟩ : ∃ w9, w9 = wr := ⟨_, rfl⟩
              subst hw9
              have MO : Hid (Mk w8 w9 4 1 (.slice so9 c.outs.length ko9) c.outs.length (bo (outsOf c V))) := hmk
              clear hmk HK hltk hk
              go_wp2
              go_loopw [16, 18] (fun nv kv W => ∃ k : Nat, k ≤ c.gates.length ∧ kv = .int .i64 (k : Int) ∧ Hid (Mk w9 W 4 1 nv (cnt 3 (c.gates.take k)) (bo (((c.gates.take k).filter fun g => decide (g.kind = 3)).map fun g => valAt V g.a)))) (fun nv kv _ => c.gates.length - (intOf kv).toNat)
              case atStart => exact ⟨0, Nat.zero_le _, rfl, Mk.nil _ _ _⟩
              case round =>
                obtain ⟨k, hk, rfl, HK⟩ := hrel
                have hmk := HK.out
                obtain ⟨sn, kn, rfl⟩ := own_shape hmk.own
                clear c9 hb9
                have BX10 : Hid (Below X.heap.size X wr) := BX9.out.trans (hmk.below.mono BX9.out.size)
                obtain ⟨c10, hb10⟩ := BOX.out _ BX10.out
                have hcl := cnt_take_le_i 3 c.gates k
                by_cases hltk : k < c.gates.length
                · obtain ⟨g9, hg9⟩ : ∃ g, c.gates[k]? = some g := ⟨_, List.getElem?_eq_getElem hltk⟩
                  obtain ⟨b9, o9, rfl, hb9, z0, z1, z2, z3, z4, z5⟩ := gate_at (CX.out.below BX10.out).gates k g9 hg9
                  have HC := hid (cnt_take_succ 3 c.gates k hg9)
                  have htk : c.gates.take (k + 1) = c.gates.take k ++ [g9] := by rw [List.take_add_one, hg9]; rfl
                  by_cases h3 : g9.kind = 3
                  · have hln := (HM.out.lines k g9 hg9).form
                    have har : 0 ≤ g9.a ∧ g9.a ≤ (k : Int) := by omega
                    obtain ⟨an, han⟩ : ∃ an : Nat, g9.a = (an : Int) := ⟨g9.a.toNat, by omega⟩
                    obtain ⟨y, hy⟩ : ∃ y, V[an]? = some y := ⟨_, List.getElem?_eq_getElem (by have := HVL.out; omega)⟩
                    obtain ⟨gv9, ov9, rfl, hgv, hcy⟩ := bit_at (CV.out.below (MO.out.below.trans (hmk.below.mono MO.out.below.size))) an y hy
                    have HT : Hid (bo (((c.gates.take (k + 1)).filter fun g => decide (g.kind = 3)).map fun g => valAt V g.a) = bo (((c.gates.take k).filter fun g => decide (g.kind = 3)).map fun g => valAt V g.a) ++ [.bool y]) := by
                      show _ = _
                      rw [htk]
                      simp [bo, valAt, h3, han, hy]
                    have MK := hid hmk
                    have hxn : an < c.gates.length := by omega
                    rw [if_pos h3] at HC
                    rw [h3] at z0
                    rw [han] at z3
                    obtain ⟨m, hm⟩ : ∃ m, m = cnt 3 (c.gates.take k) := ⟨_, rfl⟩
                    rw [← hm] at MK HC hcl ⊢
                    clear hg9 hy hmk HK htk hm han h3 hln har
                    go_wp2_with (first
                      | (at_builtin; refine mk_app rfl _ _ 29 (.bool false) 1 rfl Tryd.underlying29 info4 rfl (by decide) MK.out [.bool y] 4 _ rfl rfl rfl rfl (fun u hu => by simp at hu; subst hu; rfl) (by omega) (by omega) ?_; intro sx cx w11 _ m11; have M11 := hid m11; clear m11))
                    exact ⟨⟨k + 1, hltk, by go_num, by show Mk _ _ _ _ _ _ _; rw [HT.out, HC.out]; exact M11.out⟩, by simp [intOf]; omega⟩
                  · have HT : Hid (bo (((c.gates.take (k + 1)).filter fun g => decide (g.kind = 3)).map fun g => valAt V g.a) = bo (((c.gates.take k).filter fun g => decide (g.kind = 3)).map fun g => valAt V g.a)) := by
                      show _ = _
                      rw [htk]
                      simp [bo, h3]
                    rw [if_neg h3] at HC
                    have MK := hid hmk
                    clear hg9 hmk HK htk
                    go_wp2
                    exact ⟨⟨k + 1, hltk, by go_num, by show Mk _ _ _ _ _ _ _; rw [HT.out, HC.out]; exact MK.out⟩, by simp [intOf]; omega⟩
                · have hkn : k = c.gates.length := by omega
                  subst hkn
                  rw [List.take_length] at hmk hcl
                  rw [List.take_length]
                  obtain ⟨w10, hw10⟩ : ∃ w10, w10 = wr := ⟨_, rfl⟩
                  subst hw10
                  rw [← HM3.out] at hmk hcl
                  rw [← HM3.out]
                  have MN : Hid (Mk w9 w10 4 1 (.slice sn M kn) M (bo (nextOf c V))) := hmk
                  have B810 : Hid (Below w8.heap.size w8 w10) := MO.out.below.trans (hmk.below.mono MO.out.below.size)
                  obtain ⟨so8, ko8, heo, hcouts, _⟩ := own_cells MO.out.own
                  cases heo
                  obtain ⟨sn8, kn8, hen, hcnext, _⟩ := own_cells MN.out.own
                  cases hen
                  have COUT : Hid (CellsAt w10 so9 (bo (outsOf c V))) := hcouts.below MN.out.below
                  have CNX := hid hcnext
                  have a0 : w10.cell? ⟨bx, 0, none⟩ = some (.string c.name) := (c10 0).trans rfl
                  have a1 : w10.cell? ⟨bx, 1, none⟩ = some (.slice sg c.gates.length cg) := (c10 1).trans rfl
                  have a2 : w10.cell? ⟨bx, 2, none⟩ = some (.slice so c.outs.length co) := (c10 2).trans rfl
                  have hol : (outsOf c V).length = c.outs.length := by simp [outsOf]
                  have hnl : (nextOf c V).length = M := by rw [next_len, HM3.out]
                  have ST := hid (fun W (hW : Below w10.heap.size w10 W) => hT c sg so cg co li las V sb s1 cb k1 W (CX.out.below (BX10.out.trans (hW.mono BX10.out.size))) (KX.out.on (BX10.out.trans (hW.mono BX10.out.size))) HM.out.formed ((CI8.out.below B810.out).below hW) ((CLA8.out.below B810.out).below hW) (by rw [HLN.out, HN.out]) (by rw [HLL.out, HM3.out]) HVV.out)
                  rw [HLN.out, HLL.out, hol, hnl] at ST
                  have z3 := below_cell B810.out HG3.out E3.out
                  have z2 := below_cell B810.out HG2.out E2.out
                  rw [hol] at z2
                  have hz3 := Nat.lt_of_lt_of_le HG3.out B810.out.size
                  have hz2 := Nat.lt_of_lt_of_le HG2.out B810.out.size
                  have TR1 := hid (fun W (sa : Option Addr) (ka : Nat) (ha : CellsAt W sa (bo (outsOf c V))) (hb : CellsAt W so9 (bo (outsOf c V))) => truths_true (outsOf c V) sa so9 ka ko9 W ha hb (by omega))
                  have TR2 := hid (fun W (sa : Option Addr) (ka : Nat) (ha : CellsAt W sa (bo (nextOf c V))) (hb : CellsAt W sn (bo (nextOf c V))) => truths_true (nextOf c V) sa sn ka kn W ha hb (by omega))
                  rw [hol] at TR1
                  rw [hnl] at TR2
                  have COA := hid (CO8.out.below B810.out)
                  have BW10 : Hid (Below w6.heap.size w6 w10) := BW8.out.trans (B810.out.mono BW8.out.size)
                  have TD := hid ((Below.refl w10.heap.size w10).drew)
                  have KP : Hid (∀ W, Below w10.drew.heap.size w10.drew W → (W.cell? ⟨bx, 0, none⟩ = some (.string c.name) ∧ W.cell? ⟨bx, 1, none⟩ = some (.slice sg c.gates.length cg) ∧ W.cell? ⟨bx, 2, none⟩ = some (.slice so c.outs.length co) ∧ W.cell? ⟨g, o + i, none⟩ = some (.slice sb N cb)) ∧ W.cell? ⟨ga2, oa2 + i, none⟩ = some (.slice sb2 c.outs.length cb2) ∧ ga2 < W.heap.size) := fun W hW => ⟨⟨below_cell hW hb10 a0, below_cell hW hb10 a1, below_cell hW hb10 a2, below_cell hW hz3 z3⟩, below_cell hW hz2 z2, Nat.lt_of_lt_of_le hz2 hW.size⟩
                  have HNL := hid hnl
                  clear hmk HK hltk hk hcouts hcnext c10 hol hnl CI8 CLA8 CO8 MO CV E2 E3 HG2 HG3
                  go_wp2
                  go_region_held3 (fun W => W.cell? ⟨bx, 0, none⟩ = some (.string c.name) ∧ W.cell? ⟨bx, 1, none⟩ = some (.slice sg c.gates.length cg) ∧ W.cell? ⟨bx, 2, none⟩ = some (.slice so c.outs.length co) ∧ W.cell? ⟨g, o + i, none⟩ = some (.slice sb N cb)) (go_keep)
                    (first
                      | (go_at_call 15; with_reducible refine Calls.mono (ST.out _ TD.out) ?_; rintro e w11 ⟨⟨t1, q1, t2, q2, rfl, co1, cn1⟩, b11⟩; have CO1 := hid co1; have CN1 := hid cn1; obtain ⟨⟨d0, d1, d2, d3⟩, d4, d5⟩ := KP.out _ b11; have B11 := hid (TD.out.trans (b11.mono TD.out.size)); clear b11 co1 cn1))
                  have CT1 := hid (COUT.out.below B11.out)
                  have CT2 := hid (CNX.out.below B11.out)
                  have CT3 := hid (COA.out.below B11.out)
                  clear ST KP TD COUT COA
                  go_wp2_with (first
                    | (have q := B13; clear q; go_at_call 16; with_reducible refine Calls.mono (TR1.out _ _ _ (CT3.out.below (B12.out.trans (B13.out.mono B12.out.size))) (CT1.out.below (B12.out.trans (B13.out.mono B12.out.size)))) ?_; rintro e w14 ⟨rfl, b14⟩; have B14 := hid b14; clear b14)
                    | (have q := B12; clear q; go_at_call 16; with_reducible refine Calls.mono (TR2.out _ _ _ (CN1.out.below B12.out) (CT2.out.below B12.out)) ?_; rintro e w13 ⟨rfl, b13⟩; have y4 := below_cell b13 d52 d42; have y5 := Nat.lt_of_lt_of_le d52 b13.size; have B13 := hid b13; clear b13)
                    | (go_at_call 16; with_reducible refine Calls.mono (TR1.out _ _ _ CO1.out CT1.out) ?_; rintro e w12 ⟨rfl, b12⟩; have d42 := below_cell b12 d5 d4; have d52 := Nat.lt_of_lt_of_le d5 b12.size; have B12 := hid b12; clear b12))
                  have B1114 := hid (B12.out.trans ((B13.out.trans (B14.out.mono B13.out.size)).mono B12.out.size))
                  have B1014 := hid (B11.out.trans (B1114.out.mono B11.out.size))
                  exact ⟨⟨i + 1, nextOf c V, sn, kn, hlt, by go_num, rfl, BW10.out.trans (B1014.out.mono BW10.out.size), CNX.out.below B1014.out, HNX.out, HNL.out⟩, by simp [intOf]; omega⟩
        · clear c7 hb7
          have hBF : Hid (Below w.heap.size w wr) := BW6.out.trans (hb.mono BW6.out.size)
          clear hb hcl hla hll HR
          go_wp2
          go_ret
          exact ⟨rfl, hBF.out⟩
end Go.Proofs.YtfmmmhcpdinhgaaDoor
