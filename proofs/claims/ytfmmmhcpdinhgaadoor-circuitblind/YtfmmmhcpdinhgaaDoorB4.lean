/-
  CircuitBlind: the law, over contracts of the program's own Run and Cone.
-/
import Derived.Test.YtfmmmhcpdinhgaaDoorB3
namespace Go.Proofs.YtfmmmhcpdinhgaaDoor
open Go.RowKit Go.Deep PureNet
set_option maxRecDepth 100000

theorem turned_firsts {G G' : List Ga} {M : List Bool} {k : Nat} (h : Turned G M G' k) : firstsOf G' = firstsOf G := by
  unfold firstsOf
  refine (filter_map_same _ _ 3 G G' h.len.symm fun q g g' hg hg' => ?_).symm
  have := h.at_ q g hg
  rw [hg'] at this
  obtain rfl := Option.some.inj this
  refine ⟨Iff.rfl, fun e => ?_⟩
  simp only
  rw [if_neg (by omega)]
theorem turned_cnt {G G' : List Ga} {M : List Bool} {k : Nat} (h : Turned G M G' k) (q : Int) : cnt q G' = cnt q G := by
  have := cnt_same q G G' G.length (Nat.le_refl _) (by rw [h.len]; exact Nat.le_refl _) (fun p g g' hg hg' => by
    have := h.at_ p g hg
    rw [hg'] at this
    obtain rfl := Option.some.inj this
    exact Iff.rfl)
  rw [List.take_length, ← h.len, List.take_length] at this
  exact this.symm

set_option maxHeartbeats 4000000 in
set_option maxRecDepth 100000 in
theorem blind_law (hU : RunOk 13) (hK : ConeOk 21) (code how : List Int) (sc sh : Option Addr) (cc ch : Nat) (steps : List (List Bool)) (ss : Option Addr) (cs : Nat) (w : World) (hkd : KindsAt w) (hc : CellsAt w sc (nu code)) (hr : ∀ x ∈ code, -9223372036854775808 ≤ x ∧ x ≤ 9223372036854775807) (hl : code.length ≤ 17592186043904)
    (hh : CellsAt w sh (nu how)) (hhr : ∀ x ∈ how, -9223372036854775808 ≤ x ∧ x ≤ 9223372036854775807) (hhl : how.length ≤ 17592186043904)
    (hs : ListsAt w ss steps) (hsl : steps.length ≤ 5864062014634) (hsb : ∀ l ∈ steps, l.length ≤ 140737488351232) :
    Calls Tryd.prog 4 #[.slice sc code.length cc, .slice sh how.length ch, .slice ss steps.length cs] w fun e w' => e = .returned (.bool true) ∧ Below w.heap.size w w' := by
  have MD := hid (made_any code sc cc w hc hr hl)
  have SS := hid hs
  have KD := hid hkd
  have SB := hid hsb
  have HH := hid hh
  have HHR := hid hhr
  clear hc hr hs hsb hh hhr hkd
  go_enter Tryd.func4, Tryd.ntmps4
  go_wp2_with (fail)
  with_reducible refine MD.out.mono ?_
  rintro e w1 ⟨c, sg, cg, so, co, rfl, hm, mg, mo⟩
  dsimp only
  clear MD
  obtain ⟨sg2, cg2, hg2, cgs, hgn, _⟩ := own_cells mg.own
  cases hg2
  obtain ⟨so2, co2, ho2, cos, hon, _⟩ := own_cells mo.own
  cases ho2
  have B1 := hid mg.below
  have CA : Hid (CirAt w1 c sg so) := ⟨cgs, cos⟩
  have HM := hid hm
  have hfew := hm.few
  have hfewo := hm.fewOuts
  have hpos := hm.pos
  obtain ⟨gb, hgbe⟩ : ∃ gb, sg = some ⟨gb, 0, none⟩ := by
    rcases mg.own.2 with ⟨h1, h2⟩ | ⟨g', cap', cur, hv, _⟩
    · omega
    · simp only [Value.slice.injEq] at hv
      exact ⟨g', hv.1⟩
  subst hgbe
  have OG := hid mg.own
  have OO := hid mo.own
  clear hm mg mo cgs cos hgn hon
  obtain ⟨sg, hsg⟩ : ∃ sg : Option Addr, sg = some ⟨gb, 0, none⟩ := ⟨_, rfl⟩
  have HSG := hid hsg
  rw [← hsg] at CA OG ⊢
  clear hsg
  obtain ⟨X, hX⟩ : ∃ X, X = w1.alloc (Obj.cells #[.string c.name, .slice sg c.gates.length cg, .slice so c.outs.length co] 26) := ⟨_, rfl⟩
  obtain ⟨bx, hbx⟩ : ∃ bx, bx = w1.heap.size := ⟨_, rfl⟩
  have BX : Hid (Below w1.heap.size w1 X) := by rw [hX]; exact (Below.refl _ _).alloc (Nat.le_refl _) _
  have RX : Hid (X.heap[bx]? = some (Obj.cells #[.string c.name, .slice sg c.gates.length cg, .slice so c.outs.length co] 26)) := by rw [hX, hbx]; exact heap_alloc_new w1 _
  have BOX : Hid (∀ W, Below X.heap.size X W → (∀ j, W.cell? ⟨bx, j, none⟩ = (#[.string c.name, .slice sg c.gates.length cg, .slice so c.outs.length co] : Array Value)[j]?) ∧ bx < W.heap.size) := fun W hW => by
    have hr2 := (hW.block _ (Array.getElem?_eq_some_iff.1 RX.out).1).trans RX.out
    exact ⟨fun j => cell_row hr2 j, (Array.getElem?_eq_some_iff.1 hr2).1⟩
  have CX : Hid (CirAt X c sg so) := CA.out.below BX.out
  have BWX : Hid (Below w.heap.size w X) := B1.out.trans (BX.out.mono B1.out.size)
  have KX : Hid (KindsAt X) := KD.out.on BWX.out
  have CN1 : Hid (∀ W, Below X.heap.size X W → Calls Tryd.prog 10 #[cirV c sg cg so co, .int .i64 1] W fun e w' => e = .returned (.int .i64 (cnt 1 c.gates : Int)) ∧ Below W.heap.size W w') := fun W hW => count_any c sg so cg co 1 W (CX.out.below hW).gates (by omega)
  have SHF : Hid (∀ W, Below X.heap.size X W → _) := fun W hW => shuffled_any c sg so cg co how sh ch W HM.out (CX.out.below hW) (HH.out.below (BWX.out.trans (hW.mono BWX.out.size))) HHR.out hhl
  have B0 : Hid (Below X.heap.size X X) := Below.refl _ _
  obtain ⟨c0, hb0⟩ := BOX.out _ B0.out
  have HX := hid hX
  have HBX := hid hbx
  have h1le := cnt_take_le_i 1 c.gates c.gates.length
  rw [List.take_length] at h1le
  clear hX hbx
  go_wp2_with (first
    | (rw [← HX.out, ← HBX.out])
    | (have q := B3; clear q; go_at_call 10; with_reducible refine (CN1.out _ B3.out).mono ?_; rintro e w4 ⟨rfl, b4⟩; have B4 := hid (B3.out.trans (b4.mono B3.out.size)); have B24 := hid b4; obtain ⟨c4, hb4⟩ := BOX.out _ B4.out; clear b4)
    | (go_at_call 17; with_reducible refine (SHF.out _ B0.out).mono ?_; rintro e w2 ⟨d, p, sg3, cg3, so3, co3, rfl, hsf, hcd, b2⟩; have SF := hid hsf; have CD := hid hcd; have B2 := hid (B0.out.trans (b2.mono B0.out.size)); have B3 : Hid (Below X.heap.size X (w2.alloc (Obj.cells #[.string d.name, .slice sg3 d.gates.length cg3, .slice so3 d.outs.length co3] 26))) := hid (B2.out.alloc B2.out.size _); obtain ⟨c3, hb3⟩ := BOX.out _ B3.out; clear b2 hsf hcd))
  obtain ⟨N, hN⟩ : ∃ N, N = cnt 1 c.gates := ⟨_, rfl⟩
  rw [← hN] at h1le ⊢
  have HN := hid hN
  obtain ⟨bd, hbd⟩ : ∃ bd, bd = w2.heap.size := ⟨_, rfl⟩
  rw [← hbd]
  have RD : Hid (∀ W, Below w4.heap.size w4 W → (∀ j, W.cell? ⟨bd, j, none⟩ = (#[.string d.name, .slice sg3 d.gates.length cg3, .slice so3 d.outs.length co3] : Array Value)[j]?) ∧ bd < W.heap.size ∧ CirAt W d sg3 so3) := fun W hW => by
    have hr := (B24.out.block _ (by simp)).trans (heap_alloc_new w2 (Obj.cells #[.string d.name, .slice sg3 d.gates.length cg3, .slice so3 d.outs.length co3] 26))
    have hr2 := (hW.block _ (Array.getElem?_eq_some_iff.1 hr).1).trans hr
    rw [← hbd] at hr2
    exact ⟨fun j => cell_row hr2 j, (Array.getElem?_eq_some_iff.1 hr2).1, (CD.out.below (((Below.refl _ _).alloc (Nat.le_refl _) _).trans (B24.out.mono (by simp)))).below hW⟩
  clear hN hbd CN1 SHF c0 c3 hb0 hb3 c4 hb4 HX HBX B24
  have hB4 : Hid (Below w.heap.size w w4) := BWX.out.trans (B4.out.mono BWX.out.size)
  go_loopw [10, 11] (fun vv iv W => ∃ (i : Nat) (xs : List (Nat × List Bool)), i ≤ steps.length ∧ iv = .int .i64 (i : Int) ∧ Hid (LsMk w4 W vv xs ∧ xs.map Prod.snd = (steps.take i).map (fitL · N))) (fun vv iv _ => steps.length - (intOf iv).toNat)
  case atStart => exact ⟨0, [], Nat.zero_le _, rfl, LsMk.nil _, by simp⟩
  case round =>
    obtain ⟨i, xs, hi, rfl, HR⟩ := hrel
    obtain ⟨hls, hxs⟩ := HR.out
    have hxl : xs.length = i := by
      have := congrArg List.length hxs
      simp only [List.length_map, List.length_take] at this
      omega
    obtain ⟨sv, kv, rfl⟩ := own_shape hls.row.own
    have hwr : Below w.heap.size w wr := hB4.out.trans (hls.row.below.mono hB4.out.size)
    by_cases hlt : i < steps.length
    · obtain ⟨l, hl⟩ : ∃ l, steps[i]? = some l := ⟨_, List.getElem?_eq_getElem hlt⟩
      obtain ⟨g, o, sb, cb, rfl, hg, hcell, hcl, hcn⟩ := (SS.out.below hwr).at_ i l hl
      have FT := hid (fit_any l sb cb N wr hcl hcn (SB.out l (List.mem_of_getElem? hl)) (by omega))
      have LS := hid hls
      have HXS : Hid ((xs ++ [(wr.heap.size, fitL l N)]).map Prod.snd = (steps.take (i + 1)).map (fitL · N)) := by
        show _ = _
        rw [List.map_append, hxs, List.take_add_one, hl, List.map_append]
        rfl
      have HXL := hid hxl
      clear hls hxs hcl hcn hl HR hwr hxl
      go_wp2_with (first
        | (have q := LS5; clear q; at_builtin; refine mk_app rfl _ _ 23 _ 24 rfl Tryd.underlying23 info29 rfl (by decide) LS5.out.row [.slice (some ⟨wr.heap.size, 0, none⟩) N N] 29 _ rfl rfl rfl rfl (fun u hu => by simp at hu; subst hu; rfl) (by have := HXL.out; omega) (by have := HXL.out; omega) ?_; intro sx cx w6 g6 m6; have LS6 := hid ((LS5.out.on ((Below.refl _ _).alloc (Nat.le_refl _) _)).grow wr.heap.size (fitL l N) ((Below.heap_alloc w5 _ _ (Array.getElem?_eq_some_iff.1 R5.out).1).trans R5.out) g6 (by rw [fitL_len]; exact m6)); clear g6 m6)
        | (go_at_call 12; with_reducible refine FT.out.mono ?_; rintro e w5 ⟨rfl, r5, b5⟩; have LS5 := hid (LS.out.on b5); have R5 := hid r5; clear r5 b5))
      exact ⟨⟨i + 1, _, hlt, by go_num, LS6.out, HXS.out⟩, by simp [intOf]; omega⟩
    · have hin : i = steps.length := by omega
      subst hin
      rw [List.take_length] at hxs
      obtain ⟨Is, hIs⟩ : ∃ Is, Is = steps.map (fitL · N) := ⟨_, rfl⟩
      rw [← hIs] at hxs
      have hIl : Is.length = steps.length := by rw [hIs, List.length_map]
      have HIN : Hid (∀ l ∈ Is, l.length = cnt 1 c.gates) := fun l hl => by
        rw [hIs, List.mem_map] at hl
        obtain ⟨l', _, rfl⟩ := hl
        rw [← HN.out]
        exact fitL_len _ _
      obtain ⟨w5, hw5⟩ : ∃ w5, w5 = wr := ⟨_, rfl⟩
      subst hw5
      have LS := hid hls
      have HXS := hid hxs
      have B5 : Hid (Below X.heap.size X w5) := B4.out.trans (hls.row.below.mono B4.out.size)
      have B45 := hid hls.row.below
      have BW5 : Hid (Below w.heap.size w w5) := hwr
      obtain ⟨os, hos⟩ : ∃ os, os = runUp c (firstsOf c.gates) Is := ⟨_, rfl⟩
      have hRP : RunP c (firstsOf c.gates) Is os := by rw [hos]; exact runUp_run HM.out.line HM.out.above Is _
      have hol : os.length = steps.length := by rw [hos, runUp_len, hIl]
      have hrd : RunP d (firstsOf d.gates) Is os := by rw [SF.out.firsts]; exact SF.out.run HM.out.formed hRP
      have hcd : cnt 1 d.gates = cnt 1 c.gates := by
        have := cnt_same 1 c.gates d.gates c.gates.length (Nat.le_refl _) (by rw [SF.out.len]; exact Nat.le_refl _) (fun q a b ha hb => (SF.out.kinds (.inl rfl) q a b ha hb).1)
        rw [List.take_length, ← SF.out.len, List.take_length] at this
        exact this.symm
      have ILs : Hid (∀ W, Below w5.heap.size w5 W → ListsAt W sv Is) := fun W hW => by
        obtain ⟨s2, k2, he, hli, _⟩ := hls.lists
        cases he
        rw [hxs] at hli
        exact hli.below hW
      have RN := hid (fun W (hW : Below w5.heap.size w5 W) => hU c sg so cg co Is os sv kv W (CX.out.below (B5.out.trans (hW.mono B5.out.size))) (KX.out.on (B5.out.trans (hW.mono B5.out.size))) HM.out.formed (ILs.out W hW) HIN.out (by omega) hRP)
      have RN2 := hid (fun W (hW : Below w5.heap.size w5 W) => hU d sg3 so3 cg3 co3 Is os sv kv W (RD.out W (B45.out.trans (hW.mono B45.out.size))).2.2 (KX.out.on (B5.out.trans (hW.mono B5.out.size))) (SF.out.formed HM.out.formed) (ILs.out W hW) (by rw [hcd]; exact HIN.out) (by omega) hrd)
      rw [hIl, hol] at RN RN2
      rw [hxl]
      obtain ⟨c5, hb5⟩ := BOX.out _ B5.out
      have B55 := hid (Below.refl w5.heap.size w5)
      obtain ⟨n, hn⟩ : ∃ n, n = steps.length := ⟨_, rfl⟩
      rw [← hn] at RN RN2 hsl hol ⊢
      have HIL := hid hIl
      have HNN := hid hn
      have HOL := hid hol
      have HRP := hid hRP
      have HOSB : Hid (∀ l ∈ os, l.length ≤ 140737488351232) := fun l hl => by
        have h1 : l.length = c.outs.length := by
          rw [hos] at hl
          obtain ⟨k, hk, rfl⟩ := List.getElem_of_mem hl
          have h2 := runUp_get c Is (firstsOf c.gates) k (by rw [runUp_len] at hk; exact hk)
          rw [List.getElem?_eq_getElem hk] at h2
          rw [Option.some.inj h2]
          simp [outsOf]
        omega
      clear hls hxs hwr HR hIs hlt hxl hi hIl hn hol hRP hrd hcd hos
      have LT := hid (fun W (sa sb : Option Addr) (ka kb : Nat) (ha : ListsAt W sa os) (hb : ListsAt W sb os) => lists_true os sa sb ka kb W ha hb (by rw [HOL.out]; exact hsl) HOSB.out)
      rw [HOL.out] at LT
      have hmkb : ∀ W : World, (Instr.makeSlice 29 (.int .i64 (c.gates.length : Int)) (.int .i64 (c.gates.length : Int))).run Tryd.prog W = .ok (.slice (some ⟨W.heap.size, 0, none⟩) c.gates.length c.gates.length) (W.alloc (.cells (madeCells #[.bool false] c.gates.length) 4)) := fun W =>
        run_make_row' (P := Tryd.prog) 29 4 (.bool false) 1 Tryd.underlying29 info4 rfl .i64 .i64 c.gates.length (by omega) (by omega) W
      go_wp2_with (first
        | (have q := B57; clear q; go_at_call 18; with_reducible refine (LT.out _ _ _ _ _ (LA.out.lists.below B67.out) LB.out.lists).mono ?_; rintro e w8 ⟨rfl, b8⟩; have B58 := hid (B57.out.trans (b8.mono B57.out.size)); have B78 := hid b8; obtain ⟨c8, hb8⟩ := BOX.out _ (B5.out.trans (B58.out.mono B5.out.size)); clear b8 c7 hb7)
        | (have q := B56; clear q; go_at_call 13; with_reducible refine (RN2.out _ B56.out).mono ?_; rintro e w7 ⟨⟨sb, kb, rfl, lb7⟩, b7⟩; have B57 := hid (B56.out.trans (b7.mono B56.out.size)); have B67 := hid b7; have LB := hid lb7; obtain ⟨c7, hb7⟩ := BOX.out _ (B5.out.trans (B57.out.mono B5.out.size)); clear b7 lb7 e6 hd6 c6 hb6)
        | (go_at_call 13; with_reducible refine (RN.out _ B55.out).mono ?_; rintro e w6 ⟨⟨sa, ka, rfl, la6⟩, b6⟩; have B56 := hid b6; have LA := hid la6; obtain ⟨c6, hb6⟩ := BOX.out _ (B5.out.trans (b6.mono B5.out.size)); obtain ⟨e6, hd6, _⟩ := RD.out _ (B45.out.trans (b6.mono B45.out.size)); clear b6 la6 c5 hb5))
      have B8 : Hid (Below X.heap.size X w8) := B5.out.trans (B58.out.mono B5.out.size)
      obtain ⟨lb, hlb⟩ : ∃ lb, lb = w8.heap.size := ⟨_, rfl⟩
      have hXl : X.heap.size ≤ lb := by rw [hlb]; exact B8.out.size
      have hbxX : bx < X.heap.size := (Array.getElem?_eq_some_iff.1 RX.out).1
      obtain ⟨Y, hY⟩ : ∃ Y, Y = w8.alloc (Obj.cells (madeCells #[Value.bool false] c.gates.length) 4) := ⟨_, rfl⟩
      have RY : Hid (Y.heap[lb]? = some (.cells (bo (List.replicate c.gates.length false)).toArray 4 (0, 0))) := by
        rw [hY, hlb]
        have e : madeCells #[Value.bool false] c.gates.length = (bo (List.replicate c.gates.length false)).toArray := by
          apply Array.ext'
          rw [made_bits]
        rw [e]
        exact heap_alloc_new w8 _
      have BY : Hid (Below w8.heap.size w8 Y) := by rw [hY]; exact (Below.refl _ _).alloc (Nat.le_refl _) _
      have MB0 : Hid (MarkedBy c.gates (List.replicate c.gates.length false) ((c.outs.take 0).map Int.toNat)) := MarkedBy.first c.gates
      have HLB := hid hlb
      rw [← hY, ← hlb]
      clear hY hlb hmkb RN RN2 c8 hb8
      go_loopw [17, 18] (fun okv iv W => ∃ (k : Nat) (Mv : List Bool), k ≤ c.outs.length ∧ iv = .int .i64 (k : Int) ∧ okv = .bool true ∧ Hid (Below w8.heap.size w8 W ∧ W.heap[lb]? = some (.cells (bo Mv).toArray 4 (0, 0)) ∧ MarkedBy c.gates Mv ((c.outs.take k).map Int.toNat))) (fun okv iv _ => c.outs.length - (intOf iv).toNat)
      case atStart => exact ⟨0, _, Nat.zero_le _, rfl, rfl, BY.out, RY.out, MB0.out⟩
      case round =>
        clear RY MB0
        obtain ⟨k, Mv, hk, rfl, rfl, HR⟩ := hrel
        obtain ⟨hb, hrow, hmb⟩ := HR.out
        clear HR
        have BXr : Hid (Below X.heap.size X wr) := B8.out.trans (hb.mono B8.out.size)
        obtain ⟨c9, hb9⟩ := BOX.out _ BXr.out
        have a0 : wr.cell? ⟨bx, 0, none⟩ = some (.string c.name) := (c9 0).trans rfl
        have a1 : wr.cell? ⟨bx, 1, none⟩ = some (.slice sg c.gates.length cg) := (c9 1).trans rfl
        have a2 : wr.cell? ⟨bx, 2, none⟩ = some (.slice so c.outs.length co) := (c9 2).trans rfl
        by_cases hlt : k < c.outs.length
        · obtain ⟨x, hx⟩ : ∃ x, c.outs[k]? = some x := ⟨_, List.getElem?_eq_getElem hlt⟩
          have hxr := HM.out.outs x (List.mem_of_getElem? hx)
          obtain ⟨b, o, rfl, hbo, q0⟩ := num_at CX.out.outs k x hx
          have d0 := below_cell BXr.out hbo q0
          have hbr := Nat.lt_of_lt_of_le hbo BXr.out.size
          obtain ⟨xn, rfl⟩ : ∃ xn : Nat, x = (xn : Int) := ⟨x.toNat, by omega⟩
          have hne : b ≠ lb := by omega
          have hne2 : bx ≠ lb := by omega
          have MK := hid (mark_any hK c sg (some ⟨b, o, none⟩) cg co xn lb Mv wr.drew ((CX.out.below BXr.out).below (Below.refl _ _).drew) ((KX.out.on BXr.out).on (Below.refl _ _).drew) HM.out.formed (by omega) hrow hmb.len hfew)
          have KP : Hid (∀ W, wr.drew.grownBy W (some lb) → W.cell? ⟨bx, 0, none⟩ = some (.string c.name) ∧ W.cell? ⟨bx, 1, none⟩ = some (.slice sg c.gates.length cg) ∧ W.cell? ⟨bx, 2, none⟩ = some (.slice (some ⟨b, o, none⟩) c.outs.length co) ∧ W.cell? ⟨b, o + k, none⟩ = some (.int .i64 (xn : Int))) := fun W hW => by
            have e1 := hW.block bx hb9 (fun e => hne2 (by simpa using e))
            have e2 := hW.block b hbr (fun e => hne (by simpa using e))
            exact ⟨(World.cell?_of_block e1).trans a0, (World.cell?_of_block e1).trans a1, (World.cell?_of_block e1).trans a2, (World.cell?_of_block e2).trans d0⟩
          have HT : Hid ((c.outs.take (k + 1)).map Int.toNat = (c.outs.take k).map Int.toNat ++ [xn]) := by
            show _ = _
            rw [List.take_add_one, hx]
            simp
          have HB := hid hb
          have MB := hid hmb
          clear hb hrow hmb c9 hx hxr
          go_wp2
          go_region_held3 (fun W => W.cell? ⟨bx, 0, none⟩ = some (.string c.name) ∧ W.cell? ⟨bx, 1, none⟩ = some (.slice sg c.gates.length cg) ∧ W.cell? ⟨bx, 2, none⟩ = some (.slice (some ⟨b, o, none⟩) c.outs.length co) ∧ W.cell? ⟨b, o + k, none⟩ = some (.int .i64 (xn : Int))) (go_keep)
            (first
              | (go_at_call 19; with_reducible refine Calls.mono MK.out ?_; rintro e w9 ⟨rfl, g9, M9, r9, m9⟩; obtain ⟨z0, z1, z2, z3⟩ := KP.out _ g9; have G9 := hid g9; have R9 := hid r9; have M9' := hid m9; clear g9 r9 m9))
          go_wp2
          exact ⟨⟨k + 1, M9, hlt, by go_num, rfl, (HB.out.trans ((Below.refl _ _).drew)).grown G9.out (by have := HB.out.size; exact this) (fun j hj => (by have h1 := HLB.out; cases hj; omega)), R9.out, by rw [HT.out]; exact MB.out.next xn M9'.out.len M9'.out.at_⟩, by simp [intOf]; omega⟩
        · have hkn : k = c.outs.length := by omega
          subst hkn
          rw [List.take_length] at hmb
          obtain ⟨w9, hw9⟩ : ∃ w9, w9 = wr := ⟨_, rfl⟩
          subst hw9
          have HB9 := hid hb
          have R9 := hid hrow
          have MB9 : Hid (MarkedBy c.gates Mv (c.outs.map Int.toNat ++ ((c.gates.take 0).filter fun g => decide (g.kind = 3)).map fun g => g.a.toNat)) := by show MarkedBy _ _ _; simpa using hmb
          clear hb hrow hmb c9 hk hlt
          go_wp2
          go_loopw [17, 19] (fun okv iv W => ∃ (k : Nat) (Mv : List Bool), k ≤ c.gates.length ∧ iv = .int .i64 (k : Int) ∧ okv = .bool true ∧ Hid (Below w8.heap.size w8 W ∧ W.heap[lb]? = some (.cells (bo Mv).toArray 4 (0, 0)) ∧ MarkedBy c.gates Mv (c.outs.map Int.toNat ++ ((c.gates.take k).filter fun g => decide (g.kind = 3)).map fun g => g.a.toNat))) (fun okv iv _ => c.gates.length - (intOf iv).toNat)
          case atStart => exact ⟨0, _, Nat.zero_le _, rfl, rfl, HB9.out, R9.out, MB9.out⟩
          case round =>
            clear R9 MB9 HB9 a0 a1 a2 hb9 BXr
            obtain ⟨k, Mv2, hk, rfl, rfl, HR⟩ := hrel
            obtain ⟨hb, hrow, hmb⟩ := HR.out
            clear HR
            have BXr : Hid (Below X.heap.size X wr) := B8.out.trans (hb.mono B8.out.size)
            obtain ⟨c9, hb9⟩ := BOX.out _ BXr.out
            have a0 : wr.cell? ⟨bx, 0, none⟩ = some (.string c.name) := (c9 0).trans rfl
            have a1 : wr.cell? ⟨bx, 1, none⟩ = some (.slice sg c.gates.length cg) := (c9 1).trans rfl
            have a2 : wr.cell? ⟨bx, 2, none⟩ = some (.slice so c.outs.length co) := (c9 2).trans rfl
            by_cases hlt : k < c.gates.length
            · obtain ⟨g, hg⟩ : ∃ g, c.gates[k]? = some g := ⟨_, List.getElem?_eq_getElem hlt⟩
              obtain ⟨b, o, hsg, hbo, q0, _, _, q3, _⟩ := gate_at CX.out.gates k g hg
              have d0 := below_cell BXr.out hbo q0
              have d3 := below_cell BXr.out hbo q3
              have hbr := Nat.lt_of_lt_of_le hbo BXr.out.size
              have htk : c.gates.take (k + 1) = c.gates.take k ++ [g] := by rw [List.take_add_one, hg]; rfl
              rw [hsg] at a1
              by_cases h3 : g.kind = 3
              · have hform := (HM.out.lines k g hg).form
                obtain ⟨xn, hxn⟩ : ∃ xn : Nat, g.a = (xn : Int) := ⟨g.a.toNat, by omega⟩
                have hne : b ≠ lb := by omega
                have hne2 : bx ≠ lb := by omega
                have MK := hid (mark_any hK c sg so cg co xn lb Mv2 wr.drew ((CX.out.below BXr.out).below (Below.refl _ _).drew) ((KX.out.on BXr.out).on (Below.refl _ _).drew) HM.out.formed (by omega) hrow hmb.len hfew)
                have KP : Hid (∀ W, wr.drew.grownBy W (some lb) → W.cell? ⟨bx, 0, none⟩ = some (.string c.name) ∧ W.cell? ⟨bx, 1, none⟩ = some (.slice (some ⟨b, o, none⟩) c.gates.length cg) ∧ W.cell? ⟨bx, 2, none⟩ = some (.slice so c.outs.length co) ∧ W.cell? ⟨b, o + k * 6 + 3, none⟩ = some (.int .i64 (xn : Int))) := fun W hW => by
                  have e1 := hW.block bx hb9 (fun e => hne2 (by simpa using e))
                  have e2 := hW.block b hbr (fun e => hne (by simpa using e))
                  exact ⟨(World.cell?_of_block e1).trans a0, (World.cell?_of_block e1).trans a1, (World.cell?_of_block e1).trans a2, ((World.cell?_of_block e2).trans d3).trans (by rw [hxn])⟩
                have HT : Hid (c.outs.map Int.toNat ++ (((c.gates.take (k + 1)).filter fun g => decide (g.kind = 3)).map fun g => g.a.toNat) = (c.outs.map Int.toNat ++ ((c.gates.take k).filter fun g => decide (g.kind = 3)).map fun g => g.a.toNat) ++ [xn]) := by
                  show _ = _
                  rw [htk]
                  simp [h3, hxn]
                have HB := hid hb
                have MB := hid hmb
                rw [hsg] at MK
                rw [h3] at d0
                rw [hxn] at d3
                have HSG2 := hid hsg
                clear hb hrow hmb c9 hg htk hform h3 hxn hsg
                go_wp2
                go_region_held3 (fun W => W.cell? ⟨bx, 0, none⟩ = some (.string c.name) ∧ W.cell? ⟨bx, 1, none⟩ = some (.slice (some ⟨b, o, none⟩) c.gates.length cg) ∧ W.cell? ⟨bx, 2, none⟩ = some (.slice so c.outs.length co) ∧ W.cell? ⟨b, o + k * 6 + 3, none⟩ = some (.int .i64 (xn : Int))) (go_keep)
                  (first
                    | (go_at_call 19; with_reducible refine Calls.mono MK.out ?_; rintro e w10 ⟨rfl, g10, M10, r10, m10⟩; obtain ⟨z0, z1, z2, z3⟩ := KP.out _ g10; have G10 := hid g10; have R10 := hid r10; have M10' := hid m10; clear g10 r10 m10))
                go_wp2
                exact ⟨⟨k + 1, M10, hlt, by go_num, rfl, (HB.out.trans ((Below.refl _ _).drew)).grown G10.out (by have := HB.out.size; exact this) (fun j hj => (by have h1 := HLB.out; cases hj; omega)), R10.out, by rw [HT.out]; exact MB.out.next xn M10'.out.len M10'.out.at_⟩, by simp [intOf]; omega⟩
              · have HT : Hid (c.outs.map Int.toNat ++ (((c.gates.take (k + 1)).filter fun g => decide (g.kind = 3)).map fun g => g.a.toNat) = (c.outs.map Int.toNat ++ ((c.gates.take k).filter fun g => decide (g.kind = 3)).map fun g => g.a.toNat)) := by
                  show _ = _
                  rw [htk]
                  simp [h3]
                have HB := hid hb
                have RR := hid hrow
                have MB := hid hmb
                clear hb hrow hmb c9 hg htk hsg
                go_wp2
                exact ⟨⟨k + 1, Mv2, hlt, by go_num, rfl, HB.out, RR.out, by rw [HT.out]; exact MB.out⟩, by simp [intOf]; omega⟩
            · have hkn : k = c.gates.length := by omega
              subst hkn
              rw [List.take_length] at hmb
              obtain ⟨Z, hZ⟩ : ∃ Z, Z = wr := ⟨_, rfl⟩
              subst hZ
              have HBZ := hid hb
              have RZ := hid hrow
              have MZ := hid hmb
              have BXZ := hid BXr.out
              have B1Z : Hid (Below w1.heap.size w1 Z) := BX.out.trans (BXZ.out.mono BX.out.size)
              have OGZ : Hid (Z.ownsRow w.heap.size 38 6 (.slice (some ⟨gb, 0, none⟩) c.gates.length cg) c.gates.length (gas c.gates)) := by
                have := OG.out
                rw [HSG.out] at this
                exact ownsRow_below this B1Z.out
              obtain ⟨⟨cur, hcur⟩, hgbB⟩ := own_block OGZ.out
              have CUR := hid hcur
              have hgb1 : gb < w1.heap.size := by
                have := OG.out
                rw [HSG.out] at this
                obtain ⟨⟨cur1, hcur1⟩, _⟩ := own_block this
                exact (Array.getElem?_eq_some_iff.1 hcur1).1
              have hgbX : gb < X.heap.size := Nat.lt_of_lt_of_le hgb1 BX.out.size
              have hgbx : gb ≠ bx := fun e => by
                have h1 := RX.out
                have h2 := OG.out
                rw [HSG.out] at h2
                obtain ⟨⟨cur1, hcur1⟩, _⟩ := own_block (ownsRow_below h2 BX.out)
                rw [← e, hcur1] at h1
                simp at h1
              have hgbl : gb ≠ lb := by omega
              have T0 := hid (Turned.first c.gates Mv2)
              have HBG := hid hgbB
              clear hb hrow hmb c9 hk hlt hcur hgbB
              go_wp2
              go_loopw [20] (fun iv W => ∃ (k : Nat) (G' : List Ga), k ≤ c.gates.length ∧ iv = .int .i64 (k : Int) ∧ Hid (Z.grownBy W (some gb) ∧ W.ownsRow w.heap.size 38 6 (.slice (some ⟨gb, 0, none⟩) c.gates.length cg) c.gates.length (gas G') ∧ Turned c.gates Mv2 G' k)) (fun iv _ => c.gates.length - (intOf iv).toNat)
              case atStart => exact ⟨0, _, Nat.zero_le _, rfl, World.grownBy.refl _ _, OGZ.out, T0.out⟩
              case round =>
                clear a0 a1 a2 hb9
                obtain ⟨k, G', hk, rfl, HR⟩ := hrel
                obtain ⟨hgr, hown, htu⟩ := HR.out
                clear HR
                obtain ⟨y9, hby⟩ := BOX.out _ BXZ.out
                have hbx2 := hgr.block bx hby (fun e => hgbx (by simpa using e.symm))
                have c9 : ∀ j, wr.cell? ⟨bx, j, none⟩ = (#[.string c.name, .slice sg c.gates.length cg, .slice so c.outs.length co] : Array Value)[j]? := fun j => (World.cell?_of_block hbx2).trans (y9 j)
                rw [HSG.out] at c9
                have hb9 : bx < wr.heap.size := Nat.lt_of_lt_of_le hby hgr.size
                have hlen := htu.len
                by_cases hlt : k < c.gates.length
                · obtain ⟨g, hg⟩ : ∃ g, c.gates[k]? = some g := ⟨_, List.getElem?_eq_getElem hlt⟩
                  have hg' : G'[k]? = some g := by
                    have := htu.at_ k g hg
                    rw [if_neg (by omega)] at this
                    exact this
                  obtain ⟨s5, k5, he5, hc5, _⟩ := own_cells hown
                  cases he5
                  obtain ⟨b5, o5, he6, hb5, z0, z1, z2, z3, z4, z5⟩ := gate_at hc5 k g hg'
                  cases he6
                  rw [Nat.zero_add] at z0 z2
                  obtain ⟨bv, hbv⟩ : ∃ bv, Mv2[k]? = some bv := ⟨_, List.getElem?_eq_getElem (by have := MZ.out.len; omega)⟩
                  have hrl := hgr.block lb (Array.getElem?_eq_some_iff.1 RZ.out).1 (fun e => hgbl (by simpa using e.symm))
                  have hl0 : wr.cell? ⟨lb, k, none⟩ = some (.bool bv) := (World.cell?_of_block hrl).trans (by rw [cell_row RZ.out]; simp [bo, hbv])
                  have hlbs : lb < wr.heap.size := Nat.lt_of_lt_of_le (Array.getElem?_eq_some_iff.1 RZ.out).1 hgr.size
                  have fz : wr.frozen? ⟨gb, k * 6 + 2, none⟩ = false := by
                    obtain ⟨⟨cur2, hcur2⟩, _⟩ := own_block (D := G') (by rw [hlen]; exact hown)
                    exact unfrozen_row hcur2 _
                  have hform := (HM.out.lines k g hg).form
                  cases bv with
                  | true =>
                    have TS := hid (htu.stay (fun g2 _ => by rw [hbv]; simp))
                    have OW := hid hown
                    have GR := hid hgr
                    clear hgr hown htu hg hg' hc5 hbv hbx2 hrl hform y9 z0 z1 z2 z3 z4 z5
                    go_wp2
                    exact ⟨⟨k + 1, G', hlt, by go_num, GR.out, OW.out, TS.out⟩, by simp [intOf]; omega⟩
                  | false =>
                    by_cases h2 : g.kind = 2
                    · have TS := hid (htu.turn hg (by rw [hbv]; simp) h2)
                      have OW : Hid ((wr.setCell ⟨gb, k * 6 + 2, none⟩ (.int .i64 (15 - g.op))).ownsRow w.heap.size 38 6 (.slice (some ⟨gb, 0, none⟩) c.gates.length cg) c.gates.length (gas (G'.set k { g with op := 15 - g.op }))) := by
                        have := own_op (D := G') (by rw [hlen]; exact hown) k g (15 - g.op) hg'
                        rw [hlen] at this
                        exact this
                      have GR := hid (grown_set (i := k * 6 + 2) (u := .int .i64 (15 - g.op)) hgr)
                      have ho1 : 0 ≤ g.op ∧ g.op ≤ 15 := by omega
                      rw [h2] at z0
                      have hw : IntKind.i64.wrap (15 - g.op) = 15 - g.op := by rw [IntKind.wrap_i64]; omega
                      clear hgr hown htu hg hg' hc5 hbv hbx2 hrl hform y9 z1 z3 z4 z5 h2
                      go_wp2
                      go_region
                      go_wp2
                      exact ⟨⟨k + 1, _, hlt, by go_num, grown_below GR.out (Below.refl _ _).drew, ownsRow_below OW.out (Below.refl _ _).drew, TS.out⟩, by simp [intOf]; omega⟩
                    · have TS := hid (htu.stay (fun g2 hg2 => by rw [hg] at hg2; cases hg2; exact fun hx => h2 hx.2))
                      have OW := hid hown
                      have GR := hid hgr
                      clear hgr hown htu hg' hc5 hbv hbx2 hrl y9 z1 z2 z3 z4 z5
                      have hk3 : g.kind = 1 ∨ g.kind = 3 ∨ g.kind = 4 := by omega
                      clear hform h2
                      rcases hk3 with h2 | h2 | h2
                      · rw [h2] at z0
                        go_wp2
                        exact ⟨⟨k + 1, G', hlt, by go_num, GR.out, OW.out, TS.out⟩, by simp [intOf]; omega⟩
                      · rw [h2] at z0
                        go_wp2
                        exact ⟨⟨k + 1, G', hlt, by go_num, GR.out, OW.out, TS.out⟩, by simp [intOf]; omega⟩
                      · rw [h2] at z0
                        go_wp2
                        exact ⟨⟨k + 1, G', hlt, by go_num, GR.out, OW.out, TS.out⟩, by simp [intOf]; omega⟩
                · have hkn : k = c.gates.length := by omega
                  subst hkn
                  obtain ⟨w11, hw11⟩ : ∃ w11, w11 = wr := ⟨_, rfl⟩
                  subst hw11
                  have MD := hid (htu.made HM.out)
                  have DD := hid (htu.dead MZ.out HM.out.outs HM.out.line (fun o ho => by simp only [List.mem_append, List.mem_map]; exact .inl ⟨o, ho, rfl⟩) (fun i g hg h3 => by simp only [List.mem_append, List.mem_map, List.mem_filter, decide_eq_true_eq]; exact .inr ⟨g, ⟨List.mem_of_getElem? hg, h3⟩, rfl⟩))
                  have hRP2 : RunP ⟨c.name, G', c.outs⟩ (firstsOf G') Is os := by
                    rw [turned_firsts htu]
                    exact DD.out.run HM.out.line MD.out.line HM.out.above HM.out.outs HRP.out
                  have hso : ∀ b o sp, so = some ⟨b, o, sp⟩ → b ≠ gb := fun b o sp e e2 => by
                    have h1 := OO.out
                    have h2 := OG.out
                    rw [HSG.out] at h2
                    obtain ⟨⟨cur1, hcur1⟩, _⟩ := own_block h2
                    rw [e, e2] at h1
                    exact own_ne h1 hcur1 (by decide) (by simp [Value.ownBlock])
                  obtain ⟨s5, k5, he5, hc5, _⟩ := own_cells hown
                  cases he5
                  have CW : Hid (CirAt w11 ⟨c.name, G', c.outs⟩ (some ⟨gb, 0, none⟩) so) := ⟨hc5, ((CX.out.below BXZ.out).outs).grown hgr hso⟩
                  have B5Z : Hid (Below w5.heap.size w5 Z) := B58.out.trans (HBZ.out.mono B58.out.size)
                  have IL : Hid (ListsAt w11 sv Is) := by
                    obtain ⟨s6, k6, he6, hl6⟩ := (LS.out.on B5Z.out).keep CUR.out hgr
                    cases he6
                    rw [HXS.out] at hl6
                    exact hl6
                  have LAZ : Hid (ListsAt w11 sa os) := ((LA.out.below B67.out).below (B78.out.trans (HBZ.out.mono B78.out.size))).grown hgr (Nat.lt_of_lt_of_le hgbX B5.out.size)
                  have BF : Hid (Below w.heap.size w w11) := (BWX.out.trans (BXZ.out.mono BWX.out.size)).grown hgr (BWX.out.trans (BXZ.out.mono BWX.out.size)).size (fun j hj => (by have h1 := HBG.out; cases hj; exact h1))
                  have RN := hid (hU ⟨c.name, G', c.outs⟩ (some ⟨gb, 0, none⟩) so cg co Is os sv kv w11 CW.out (KD.out.on BF.out) MD.out.formed IL.out (fun l hl => by rw [HIN.out l hl]; exact (turned_cnt htu 1).symm) (by rw [HIL.out, ← HNN.out]; exact hsl) hRP2)
                  have hl2 : (⟨c.name, G', c.outs⟩ : Net).gates.length = c.gates.length := hlen
                  simp only [cirV, hlen, HIL.out, HOL.out] at RN
                  rw [← HNN.out] at RN
                  clear hgr hown htu hRP2 hso hc5 y9 hbx2 hl2 hlt hk
                  go_wp2_with (first
                    | (go_at_call 18; with_reducible refine (LT.out _ _ _ _ _ (LAZ.out.below B12.out) L12.out.lists).mono ?_; rintro e w13 ⟨rfl, b13⟩; have B13 := hid b13; clear b13)
                    | (go_at_call 13; with_reducible refine RN.out.mono ?_; rintro e w12 ⟨⟨s12, k12, rfl, l12⟩, b12⟩; have B12 := hid b12; have L12 := hid l12; clear b12 l12))
                  go_ret
                  exact ⟨rfl, (BF.out.trans (B12.out.mono BF.out.size)).trans (B13.out.mono (BF.out.trans (B12.out.mono BF.out.size)).size)⟩
end Go.Proofs.YtfmmmhcpdinhgaaDoor
