import Derived.Test.YtcpncfngadablaaGreatDoorZ25
/-
  asks, walked.
-/
namespace Go.Proofs.YtcpncfngadablaaGreatDoor
open Go.RowKit Go.Deep ShfKit
set_option maxRecDepth 100000

set_option maxHeartbeats 8000000 in
theorem asks_any {w : World} {E : Nat → Addr} {lo p mf mt B t nh mh : Nat} {D : DiskC} {S : Sg} {fh : Value} {lh : List SFile} {x : Int} (h : Sy w E lo p mf mt B t D S) (h64 : 64 ≤ B) (h65 : B ≤ 65536) (hh : Told w nh mh (S.foot ++ D.foot p mf mt) fh lh) (hpub : lh.map SFile.pub = D.ents.map Ent.pub) (ht : t + 36 ≤ 1049000) (hls : S.Ls.length ≤ 100) (hlt : S.Lt.length ≤ 100) (hlb : S.Lb.length ≤ 10000000) :
    Calls Tryz.prog 15 #[.pointer (some ⟨p, 0, none⟩), .pointer (some ⟨S.p, 0, none⟩), .agg #[.int .i64 x, fh]] w fun e w' => e = .returned (.bool true) ∧ ∃ t' D' S' tl nl ex, As w w' E lo p mf mt B D S t' D' S' tl nl ex ∧ t' ≤ t + 36 ∧ tl.length = 2 ∧ nl.length = 2 ∧ ex.length ≤ 2098036 := by
  obtain ⟨N, hN⟩ : ∃ N, N = D.ents.length := ⟨_, rfl⟩
  obtain ⟨sp, hsp⟩ : ∃ sp, sp = S.p := ⟨_, rfl⟩
  have hlN : lh.length = N := by rw [hN]; simpa using congrArg List.length hpub
  obtain ⟨sf, cf, hfh⟩ := row_slice hh.fr.own
  rw [hlN] at hfh
  subst hfh
  obtain ⟨W0, hW0⟩ : ∃ W0, W0 = w.alloc (.cells #[.int .i64 x, .slice sf N cf] 47) := ⟨_, rfl⟩
  have bW : Below w.heap.size w W0 := by rw [hW0]; exact (Below.refl _ w).alloc (Nat.le_refl _) _
  have r0 : W0.heap[w.heap.size]? = some (.cells #[.int .i64 x, .slice sf N cf] 47 (0, 0)) := by rw [hW0]; exact heap_alloc_new _ _
  have A0 : Hid (As W0 W0 E lo p mf mt B D S t D S [] [] []) := As.start (h.below bW)
  have KH : Hid (∀ (W : World) (D1 : DiskC) (S1 : Sg), Stp W0 W p mf mt D D1 S S1 → W.cell? ⟨w.heap.size, 1, none⟩ = some (.slice sf N cf) ∧ StateFr W nh (.slice sf N cf) lh) := fun W D1 S1 hst => by
    have hr := (hst.touch.block _ (lt_of_block r0) (fun hm => by
      rcases List.mem_append.1 hm with hm | hm
      · have := h.sh.lt _ (hdr_foot hm)
        omega
      · have := h.run.rep.lt _ hm
        omega)).trans r0
    have a1 := cell_row hr 1
    simp at a1
    exact ⟨a1, (hst.held (hh.below bW)).fr⟩
  have bd := A0.out.bound (by omega)
  have hNb : N ≤ 1049000 := by rw [hN]; exact bd.2
  have hTb := bd.1
  have HN := hid hN
  have HLN := hid hlN
  have HSP := hid hsp
  have HW0 := hid hW0
  have HPU := hid hpub
  have BW := hid bW
  have HTB := hid hTb
  have LO0 : Hid (lo ≤ W0.heap.size) := Nat.le_trans h.env.room bW.size
  rw [← hsp]
  clear h hh hpub r0 hW0 bW bd hTb hN hlN hsp
  go_enter Tryz.func15, Tryz.ntmps15
  go_wp2_with fail
  rw [← HW0.out]
  go_loopw [7, 8, 9, 10, 11, 12, 13] (fun jv _ _ _ _ _ _ W => Hid (∃ (j t1 : Nat) (D1 : DiskC) (S1 : Sg) (tl : List Tl) (nl : List Value) (ex : List Rw), jv = .int .i64 (j : Int) ∧ j ≤ 2 ∧ As W0 W E lo p mf mt B D S t1 D1 S1 tl nl ex ∧ t1 ≤ t + 18 * j ∧ tl.length = j ∧ nl.length = j ∧ ex.length ≤ j * 1049018)) (fun jv _ _ _ _ _ _ _ => match jv with | .int _ j => 3 - j.toNat | _ => 0)
  case atStart => exact ⟨0, t, D, S, [], [], [], rfl, by omega, A0.out, by omega, rfl, rfl, by simp⟩
  case round =>
    clear A0
    obtain ⟨W1, hW1⟩ : ∃ W1, W1 = wr := ⟨_, rfl⟩
    rw [← hW1] at hrel ⊢
    clear hW1
    obtain ⟨j, t1, D1, S1, tl, nl, ex, rfl, hj, has, ht1, htl, hnl, hex⟩ := hrel.out
    clear hrel
    rcases Nat.lt_or_eq_of_le hj with hjl | hjl
    · have C1 := hid (has.state1 (by omega))
      have q1 : S1.Ls.length = S.Ls.length + j := by rw [has.ls, List.length_append, List.length_map, htl]
      have q2 : S1.Lt.length = S.Lt.length + j := by rw [has.lt, List.length_append, List.length_map, hnl]
      have q3 : S1.Lb.length = S.Lb.length + ex.length := by rw [has.lb, List.length_append]
      have C2 : Hid (∀ (w1 : World) (fv : Value) (l : List SFile), StateAt w1 W1.heap.size B fv l → ApartS l → l.map SFile.pub = D1.ents.map Ent.pub → Below W1.heap.size W1 w1 → Calls Tryz.prog 39 #[.pointer (some ⟨sp, 0, none⟩), .agg #[.int .i64 (B : Int), fv]] w1 fun e w' => e = .returned (.tuple #[]) ∧ ∃ S', As W0 w' E lo p mf mt B D S t1 D1 S' (tl ++ [⟨W1.heap.size, w1.heap.size, fv, l⟩]) nl (ex ++ ysAll B l)) := fun w1 fv l a1 a2 a3 a4 => has.state2 (by omega) h64 h65 (by omega) (by omega) a1 a2 a3 a4 HSP.out
      have PB1 := hid (has.pub)
      have HAS := hid (And.intro htl (And.intro hnl hex))
      have hj1 : (j : Int) < 2 := by omega
      have V1 : IntKind.i64.wrap ((j : Int) + 1) = (j : Int) + 1 := by rw [IntKind.wrap_i64]; omega
      have hexb : ex.length ≤ 1049018 := by
        have h1 : j ≤ 1 := by omega
        have h2 := Nat.mul_le_mul_right 1049018 h1
        omega
      clear has htl hnl hex q1 q2 q3
      go_wp2_with (first
        | (have q := A8; clear q; fail)
        | (have q := NX7; clear q; at_builtin; refine wpl_one rfl _ _ 52 rfl 0 32 _ 1 24 Tryz.underlying52 info32 rfl (by decide) (.slice st7 nt7 ct7) nt7 (S6.Lt.map (·.1)) rfl OW7.out [.slice sn N cn] 32 _ rfl rfl rfl (fun u hu => by simp at hu; subst hu; rfl) (by omega) (by omega) (Nat.zero_le _) ?_; intro v8 w8 o8 f8; obtain ⟨s8, c8, rfl⟩ := sh_slice o8; obtain ⟨⟨S8, as8⟩, g8, z8⟩ := NX7.out _ _ _ o8 f8; have hk8 := (KH.out _ _ _ as8.stp).1; have A8 := hid as8; clear o8 f8 as8)
        | (have q := A6; clear q; go_at_call 30; refine C3.out.mono ?_; rintro e w7 ⟨sn, cn, rfl, on7, as7⟩; obtain ⟨st7, ct7, nt7, hnt7, c7, OW7, NX7⟩ := A6.out.nameStep as7 on7 HSP.out HN.out hlt (by have := HAS.out.2.1; omega); clear on7 as7)
        | (have q := B5; clear q; go_at_call 39; refine (C2.out _ _ _ ST5.out AP5.out PU5.out B5.out).mono ?_; rintro e w6 ⟨rfl, S6, as6⟩; have A6 := hid as6; have c3 := as6.names1 (by omega); rw [← HN.out] at c3; have C3 := hid c3; clear as6 c3)
        | (go_at_call 14; refine C1.out.mono ?_; rintro e w5 ⟨fv5, l5, rfl, st5, ap5, pu5, b5⟩; have ST5 := hid st5; have AP5 := hid ap5; have PU5 := hid pu5; have B5 := hid b5; clear st5 ap5 pu5 b5)
        | fail)
      obtain ⟨nlN, hnlN⟩ : ∃ nlN, nlN = nl ++ [.slice sn N cn] := ⟨_, rfl⟩
      obtain ⟨tlN, htlN⟩ : ∃ tlN, tlN = tl ++ [(⟨W1.heap.size, w5.heap.size, fv5, l5⟩ : Tl)] := ⟨_, rfl⟩
      obtain ⟨exN, hexN⟩ : ∃ exN, exN = ex ++ ysAll B l5 := ⟨_, rfl⟩
      have LEX : Hid (exN.length ≤ j * 1049018 + 1049000) := by
        have h1 := ysAll_len (B := B) (l := l5) (fun e he => (ST5.out.each e he).len)
        have h2 : total (l5.map SFile.pub) ≤ 1049000 := by rw [PU5.out, PB1.out]; exact HTB.out
        have h3 := HAS.out.2.2
        show _ ≤ _
        rw [hexN, List.length_append]
        omega
      have LTL : Hid (tlN.length = j + 1) := by rw [htlN, List.length_append, HAS.out.1]; rfl
      have LNL : Hid (nlN.length = j + 1) := by rw [hnlN, List.length_append, HAS.out.2.1]; rfl
      have HNL := hid hnlN
      have A9 : Hid (As W0 (w8.setCell ⟨sp, 1, none⟩ (.slice s8 (nt7 + 1) c8)) E lo p mf mt B D S t1 D1 S8 tlN nlN exN) := by rw [hnlN, htlN, hexN]; exact A8.out
      obtain ⟨WA, hWA⟩ : ∃ WA, WA = w8.setCell ⟨sp, 1, none⟩ (.slice s8 (nt7 + 1) c8) := ⟨_, rfl⟩
      rw [← hWA] at A9 ⊢
      clear hWA A8 A6 OW7 NX7 ST5 AP5 PU5 B5 C1 C2 C3 hk8 g8 z8 c7 hnlN htlN hexN
      go_loopw [9, 10, 11, 12, 13] (fun iv _ _ _ _ W => Hid (∃ (i t2 : Nat) (D2 : DiskC) (S2 : Sg) (ex2 : List Rw), iv = .int .i64 (i : Int) ∧ i ≤ N ∧ i ≤ 6 ∧ As W0 W E lo p mf mt B D S t2 D2 S2 tlN nlN ex2 ∧ t2 ≤ t1 + 3 * i ∧ ex2.length ≤ j * 1049018 + 1049000 + 3 * i)) (fun iv _ _ _ _ _ => match iv with | .int _ i => 7 - i.toNat | _ => 0)
      case atStart => exact ⟨0, t1, D1, S8, exN, rfl, Nat.zero_le _, Nat.zero_le _, A9.out, by omega, LEX.out⟩
      case round =>
        clear A9 LEX
        obtain ⟨W2, hW2⟩ : ∃ W2, W2 = wr := ⟨_, rfl⟩
        rw [← hW2] at hrel ⊢
        clear hW2
        obtain ⟨i, t2, D2, S2, ex2, rfl, hiN, hi6, has, ht2, hex2⟩ := hrel.out
        clear hrel
        obtain ⟨k1, k2⟩ := KH.out _ _ _ has.stp
        have hdone : (i < N ∧ i < 6) ∨ (i = N) ∨ (i < N ∧ i = 6) := by omega
        rcases hdone with ⟨hlt1, hlt6⟩ | hdone
        · have hlt2 : i < lh.length := by rw [HLN.out]; exact hlt1
          obtain ⟨G, gc, hG, _, _⟩ := row_form k2.own (by omega)
          rw [HLN.out] at hG
          simp only [Value.slice.injEq, true_and] at hG
          obtain ⟨rfl, rfl⟩ := hG
          obtain ⟨e0, he0⟩ : ∃ e0, e0 = lh[i] := ⟨_, rfl⟩
          have hem : e0 ∈ lh := by rw [he0]; exact List.getElem_mem _
          obtain ⟨nm, hnm⟩ : ∃ nm, nm = e0.name := ⟨_, rfl⟩
          obtain ⟨sl, hsl⟩ : ∃ sl, sl = e0.file.shut := ⟨_, rfl⟩
          obtain ⟨bl, hbl⟩ : ∃ bl, bl = e0.file.blocks := ⟨_, rfl⟩
          obtain ⟨nb, hnbn⟩ : ∃ nb, nb = bl.length := ⟨_, rfl⟩
          obtain ⟨ss, sc, hsv⟩ := (k2.each e0 hem).sl
          rw [← hbl, ← hnbn] at hsv
          have HE0 : Hid (e0 ∈ lh ∧ e0.sv = .slice ss nb sc ∧ e0.file.blocks = bl ∧ nb = bl.length) := ⟨hem, hsv, hbl.symm, hnbn⟩
          have HPI : Hid ((D.ents.map Ent.pub)[i]? = some (nm, ⟨sl, bl⟩)) := by
            show _ = _
            rw [← HPU.out, List.getElem?_map, List.getElem?_eq_getElem hlt2, ← he0, hnm, hsl, hbl]
            rfl
          have hnbb : nb ≤ 1049000 := by
            have h1 := le_total _ (List.mem_of_getElem? HPI.out)
            have h2 := HTB.out
            have h3 : (⟨sl, bl⟩ : FileA).blocks.length = nb := hnbn.symm
            have h4 : ((nm, (⟨sl, bl⟩ : FileA)) : List UInt8 × FileA).2.blocks.length = nb := h3
            omega
          obtain ⟨a0, a1, a2⟩ := row_cells k2.own (k := i) (G := G) (gc := cf) (by rw [HLN.out]) hlt2
          rw [← he0] at a0 a1 a2
          rw [← hnm] at a0
          rw [← hsl] at a1
          rw [hsv] at a2
          have hown : W2.ownsRow 0 9 1 (.slice sn N cn) N ((D.ents.map Ent.name).map encStr) := by
            have h1 := has
            rw [HNL.out] at h1
            have h2 := h1.name_at
            rw [← HN.out] at h2
            exact h2
          have hnmi : ((D.ents.map Ent.name).map encStr)[i]? = some (encStr nm) := by
            have h2 : (D.ents.map Ent.name)[i]? = some nm := by
              have h3 := congrArg (Option.map Prod.fst) HPI.out
              rw [← List.getElem?_map, List.map_map] at h3
              exact h3
            rw [List.getElem?_map, h2]
            rfl
          obtain ⟨gn, cn2, hgn, _, hgnl, c13, _⟩ := own_cell hown hnmi
          simp only [Value.slice.injEq, true_and] at hgn
          obtain ⟨rfl, rfl⟩ := hgn
          obtain ⟨Wf, hWf⟩ : ∃ Wf, Wf = W2.alloc (.cells #[encStr nm, .bool sl, .slice ss nb sc] 71) := ⟨_, rfl⟩
          have BF : Hid (Below W2.heap.size W2 Wf) := by rw [hWf]; exact (Below.refl _ _).alloc (Nat.le_refl _) _
          have RF : Hid (Wf.heap[W2.heap.size]? = some (.cells #[encStr nm, .bool sl, .slice ss nb sc] 71 (0, 0))) := by rw [hWf]; exact heap_alloc_new _ _
          have K13 : Hid (∀ W', Below Wf.heap.size Wf W' → W'.cell? ⟨gn, i, none⟩ = some (encStr nm) ∧ W'.cell? ⟨W2.heap.size, 0, none⟩ = some (encStr nm)) := fun W' hb => by
            have hr := (hb.block _ (lt_of_block RF.out)).trans RF.out
            have d0 := cell_row hr 0
            simp at d0
            exact ⟨((BF.out.trans (hb.mono BF.out.size)).cell (p := ⟨gn, i, none⟩) hgnl).trans c13, d0⟩
          have HAS2 := hid has
          have HEW := hid hWf
          have hx1 : (i : Int) < (N : Int) := by omega
          have hx6 : (i : Int) < 6 := by omega
          have i0 : (0 : Int) ≤ (i : Int) := by omega
          have V2 : IntKind.i64.wrap ((i : Int) + 1) = (i : Int) + 1 := by rw [IntKind.wrap_i64]; omega
          clear has k2 he0 hem hnm hsl hbl hnbn hsv hown hnmi hWf
          go_wp2_with fail
          rw [← HEW.out]
          refine wp_region_noPanic ?_
          refine wp_region_held_drew (S := fun W => W.cell? ⟨gn, i, none⟩ = some (encStr nm) ∧ W.cell? ⟨W2.heap.size, 0, none⟩ = some (encStr nm)) (by kernel_rfl) (K13.out _ (Below.refl _ _).drew) (fun hHeld => ?_)
          refine wpAnyH_take (i := 0) (v := ?_) (by simp only [List.getElem?_toArray, List.getElem?_cons_zero]; rfl) (by kernel_rfl) (by kernel_rfl) (by kernel_rfl) (fun _ _ _ h => h) (Or.inl ⟨by rfl, ?_⟩) (by assumption) ?_
          rotate_left 1
          · intro w hSw; (try dsimp only at hSw); go_simp; (try with_reducible rfl)
          try simp only [Act.put, List.setIfInBounds_toArray, List.set_cons_zero, List.set_cons_succ]
          refine wpAnyH_take (i := 1) (v := ?_) (by simp only [List.getElem?_toArray, List.getElem?_cons_succ, List.getElem?_cons_zero]; rfl) (by kernel_rfl) (by kernel_rfl) (by kernel_rfl) (fun _ _ _ h => h) (Or.inl ⟨by rfl, ?_⟩) (by assumption) ?_
          rotate_left 1
          · intro w hSw; (try dsimp only at hSw); go_simp; (try with_reducible rfl)
          try simp only [Act.put, List.setIfInBounds_toArray, List.set_cons_zero, List.set_cons_succ]
          refine wpAnyH_take (i := 2) (v := ?_) (by simp only [List.getElem?_toArray, List.getElem?_cons_succ, List.getElem?_cons_zero]; rfl) (by kernel_rfl) (by kernel_rfl) (by kernel_rfl) (fun _ _ _ h => h) (Or.inl ⟨by rfl, ?_⟩) (by assumption) ?_
          rotate_left 1
          · intro w hSw; (try dsimp only at hSw); go_simp; (try with_reducible rfl)
          try simp only [Act.put, List.setIfInBounds_toArray, List.set_cons_zero, List.set_cons_succ]
          refine wpAnyH_take (i := 3) (v := ?_) (by simp only [List.getElem?_toArray, List.getElem?_cons_succ, List.getElem?_cons_zero]; rfl) (by kernel_rfl) (by kernel_rfl) (by kernel_rfl) (fun _ _ _ h => h) (Or.inl ⟨by rfl, ?_⟩) (by assumption) ?_
          rotate_left 1
          · intro w hSw; (try dsimp only at hSw); go_simp; (try with_reducible rfl)
          try simp only [Act.put, List.setIfInBounds_toArray, List.set_cons_zero, List.set_cons_succ]
          refine wpAnyH_take (i := 4) (v := ?_) (by simp only [List.getElem?_toArray, List.getElem?_cons_succ, List.getElem?_cons_zero]; rfl) (by kernel_rfl) (by kernel_rfl) (by kernel_rfl) (fun _ _ _ h => h) (Or.inl ⟨by rfl, ?_⟩) (by assumption) ?_
          rotate_left 1
          · intro w hSw; (try dsimp only at hSw); go_simp; (try with_reducible rfl)
          try simp only [Act.put, List.setIfInBounds_toArray, List.set_cons_zero, List.set_cons_succ]
          refine wpAnyH_take (i := 5) (v := ?_) (by simp only [List.getElem?_toArray, List.getElem?_cons_succ, List.getElem?_cons_zero]; rfl) (by kernel_rfl) (by kernel_rfl) (by kernel_rfl) (fun _ _ _ h => h) (Or.inl ⟨by rfl, ?_⟩) (by assumption) ?_
          rotate_left 1
          · intro w hSw; (try dsimp only at hSw); go_simp; (try with_reducible rfl)
          try simp only [Act.put, List.setIfInBounds_toArray, List.set_cons_zero, List.set_cons_succ]
          refine wpAnyH_take (i := 6) (v := .bool false) (by simp only [List.getElem?_toArray, List.getElem?_cons_succ, List.getElem?_cons_zero]; rfl) (by kernel_rfl) (by kernel_rfl) (by kernel_rfl) (fun _ _ _ h => h) (Or.inl ⟨by rfl, ?_⟩) (by assumption) ?_
          · intro w hSw; (try dsimp only at hSw); (try go_simp); (first | done | (with_reducible rfl) | simp | skip)
          try simp only [Act.put, List.setIfInBounds_toArray, List.set_cons_zero, List.set_cons_succ]
          refine wpAnyH_done (by kernel_rfl) ?_ _
          refine NoPanic.normal ?_
          obtain ⟨Wg, hWg⟩ : ∃ Wg, Wg = Wf.drew := ⟨_, rfl⟩
          rw [← hWg]
          have BG : Hid (Below W2.heap.size W2 Wg) := by rw [hWg]; exact BF.out.drew
          have RG : Hid (Wg.heap[W2.heap.size]? = some (.cells #[encStr nm, .bool sl, .slice ss nb sc] 71 (0, 0))) := by rw [hWg]; exact RF.out
          clear hWg HEW RF BF K13 k1 a0 a1 a2 c13 hgnl
          go_wp2_with fail
          obtain ⟨fb, hfb⟩ : ∃ fb, fb = W2.heap.size := ⟨_, rfl⟩
          have AK : Hid (As W0 Wg E lo p mf mt B D S t2 D2 S2 tlN nlN ex2 ∧ fb ∉ S2.hdr ∧ fb ∉ D2.foot p mf mt) := ⟨HAS2.out.below BG.out, fun hm => by have := HAS2.out.sy.sh.lt _ (hdr_foot hm); omega, fun hm => by have := HAS2.out.sy.run.rep.lt _ hm; omega⟩
          rw [← hfb] at RG ⊢
          clear HAS2 BG hfb
          go_loopw [11, 12, 13] (fun kv _ _ W => Hid (∃ (k t3 : Nat) (D3 : DiskC) (S3 : Sg) (ex3 : List Rw), kv = .int .i64 (k : Int) ∧ k ≤ nb ∧ k ≤ 3 ∧ As W0 W E lo p mf mt B D S t3 D3 S3 tlN nlN ex3 ∧ t3 ≤ t2 + k ∧ ex3.length ≤ ex2.length + k ∧ W.heap[fb]? = some (.cells #[encStr nm, .bool sl, .slice ss nb sc] 71 (0, 0)) ∧ fb ∉ S3.hdr ∧ fb ∉ D3.foot p mf mt)) (fun kv _ _ _ => match kv with | .int _ k => 4 - k.toNat | _ => 0)
          case atStart => exact ⟨0, t2, D2, S2, ex2, rfl, Nat.zero_le _, Nat.zero_le _, AK.out.1, by omega, by omega, RG.out, AK.out.2⟩
          case round =>
            clear AK RG
            obtain ⟨W3, hW3⟩ : ∃ W3, W3 = wr := ⟨_, rfl⟩
            rw [← hW3] at hrel ⊢
            clear hW3
            obtain ⟨k, t3, D3, S3, ex3, rfl, hkn, hk3, has, ht3, hex3, hbox, hfs, hfd⟩ := hrel.out
            clear hrel
            have b0 := cell_row hbox 0
            have b1 := cell_row hbox 1
            have b2 := cell_row hbox 2
            simp at b0 b1 b2
            have hways : (k < nb ∧ k < 3 ∧ sl = true) ∨ (k < nb ∧ k < 3 ∧ sl = false) ∨ (k < nb ∧ k = 3) ∨ k = nb := by
              cases sl <;> simp <;> omega
            rcases hways with ⟨hka, hkb, hkc⟩ | hways
            · obtain ⟨bk, hbk⟩ : ∃ bk, bl[k]? = some bk := ⟨_, List.getElem?_eq_getElem (by rw [← HE0.out.2.2.2]; exact hka)⟩
              have HBX := hid hbox
              have HF2 := hid (And.intro hfs hfd)
              have C4 := hid (has.read (by omega) HPI.out hkc hbk)
              have HBK := hid hbk
              have HW3 := hid (Nat.le_trans LO0.out has.stp.touch.size)
              have HW0S := hid has.stp.touch.size
              have hx7 : (k : Int) < (nb : Int) := by omega
              have hx8 : (k : Int) < 3 := by omega
              have k0 : (0 : Int) ≤ (k : Int) := by omega
              have V3 : IntKind.i64.wrap ((k : Int) + 1) = (k : Int) + 1 := by rw [IntKind.wrap_i64]; omega
              subst hkc
              clear has hbox hfs hfd hbk
              go_wp2_with (go_at_call 28; refine C4.out.mono ?_; rintro e w4 ⟨g, rfl, hg, hby, hl, hgs, D4, as4, hgd, tc4, ft4⟩; have X4 := hid (And.intro hg (And.intro hby (And.intro hl (And.intro hgs (And.intro as4 (And.intro hgd (And.intro tc4 ft4))))))); clear hg hby hl hgs as4 hgd tc4 ft4)
              obtain ⟨hg, hby, hl, hgs, as4, hgd, tc4, ft4⟩ := X4.out
              obtain ⟨_, k4⟩ := KH.out _ _ _ as4.stp
              have box4 : w4.heap[fb]? = some (.cells #[encStr nm, .bool true, .slice ss nb sc] 71 (0, 0)) := (tc4.block _ (lt_of_block HBX.out) HF2.out.2).trans HBX.out
              obtain ⟨Gb, bc, xa, xn, xc, e4, c4, s4⟩ := (k4.each e0 HE0.out.1).sh.at_ k (by rw [HE0.out.2.2.1, ← HE0.out.2.2.2]; exact hka)
              rw [HE0.out.2.1] at e4
              have hss : ss = some ⟨Gb, 0, none⟩ ∧ sc = bc := by
                simp only [Value.slice.injEq] at e4
                exact ⟨e4.1, e4.2.2⟩
              obtain ⟨rfl, rfl⟩ := hss
              have hbk4 : e0.file.blocks[k]'(by rw [HE0.out.2.2.1, ← HE0.out.2.2.2]; exact hka) = bk := by
                have h1 := HBK.out
                rw [← HE0.out.2.2.1] at h1
                exact (List.getElem?_eq_some_iff.1 h1).2
              rw [hbk4] at s4
              have K19 : Hid (∀ W', Below w4.heap.size w4 W' → W'.cell? ⟨fb, 2, none⟩ = some (.slice (some ⟨Gb, 0, none⟩) nb sc) ∧ W'.cell? ⟨Gb, k, none⟩ = some (.slice xa xn xc) ∧ (convert 31 9 (.slice xa xn xc)).run Tryz.prog W' = .ok (encStr bk) W' ∧ (convert 31 9 (sliceV g B)).run Tryz.prog W' = .ok (encStr bk) W') := fun W' hb => by
                have hr := (hb.block _ (lt_of_block box4)).trans box4
                have d0 := cell_row hr 2
                simp at d0
                exact ⟨d0, (hb.cell (p := ⟨Gb, k, none⟩) (World.block_lt_of_cell? w4 _ c4)).trans c4, conv_shows (s4.touch (F := []) (Touch.of_below hb (Nat.le_refl _)) (by simp)), conv_block ((hb.block _ (lt_of_block hby)).trans hby) hl⟩
              have BX4 := hid box4
              have hF4 : Hid (fb ∉ S3.hdr ∧ fb ∉ D4.foot p mf mt) := ⟨HF2.out.1, by rw [ft4]; exact HF2.out.2⟩
              clear hg hby hl hgs as4 hgd tc4 ft4 k4 box4 e4 c4 s4 hbk4 b0 b1 b2 C4
              refine wp_region_noPanic ?_
              refine wp_region_held_drew (S := fun W => W.cell? ⟨fb, 2, none⟩ = some (.slice (some ⟨Gb, 0, none⟩) nb sc) ∧ W.cell? ⟨Gb, k, none⟩ = some (.slice xa xn xc) ∧ (convert 31 9 (.slice xa xn xc)).run Tryz.prog W = .ok (encStr bk) W ∧ (convert 31 9 (sliceV g B)).run Tryz.prog W = .ok (encStr bk) W) (by kernel_rfl) (K19.out _ (Below.refl _ _).drew) (fun hHeld => ?_)
              refine wpAnyH_take (i := 0) (v := ?_) (by simp only [List.getElem?_toArray, List.getElem?_cons_zero]; rfl) (by kernel_rfl) (by kernel_rfl) (by kernel_rfl) (fun _ _ _ h => h) (Or.inl ⟨by rfl, ?_⟩) (by assumption) ?_
              rotate_left 1
              · intro w hSw; (try dsimp only at hSw); go_simp; (try with_reducible rfl)
              try simp only [Act.put, List.setIfInBounds_toArray, List.set_cons_zero, List.set_cons_succ]
              refine wpAnyH_take (i := 1) (v := ?_) (by simp only [List.getElem?_toArray, List.getElem?_cons_succ, List.getElem?_cons_zero]; rfl) (by kernel_rfl) (by kernel_rfl) (by kernel_rfl) (fun _ _ _ h => h) (Or.inl ⟨by rfl, ?_⟩) (by assumption) ?_
              rotate_left 1
              · intro w hSw; (try dsimp only at hSw); go_simp; (try with_reducible rfl)
              try simp only [Act.put, List.setIfInBounds_toArray, List.set_cons_zero, List.set_cons_succ]
              refine wpAnyH_take (i := 2) (v := ?_) (by simp only [List.getElem?_toArray, List.getElem?_cons_succ, List.getElem?_cons_zero]; rfl) (by kernel_rfl) (by kernel_rfl) (by kernel_rfl) (fun _ _ _ h => h) (Or.inl ⟨by rfl, ?_⟩) (by assumption) ?_
              rotate_left 1
              · intro w hSw; (try dsimp only at hSw); go_simp; (try with_reducible rfl)
              try simp only [Act.put, List.setIfInBounds_toArray, List.set_cons_zero, List.set_cons_succ]
              refine wpAnyH_take (i := 3) (v := ?_) (by simp only [List.getElem?_toArray, List.getElem?_cons_succ, List.getElem?_cons_zero]; rfl) (by kernel_rfl) (by kernel_rfl) (by kernel_rfl) (fun _ _ _ h => h) (Or.inl ⟨by rfl, ?_⟩) (by assumption) ?_
              rotate_left 1
              · intro w hSw; (try dsimp only at hSw); go_simp; (try with_reducible rfl)
              try simp only [Act.put, List.setIfInBounds_toArray, List.set_cons_zero, List.set_cons_succ]
              refine wpAnyH_take (i := 4) (v := ?_) (by simp only [List.getElem?_toArray, List.getElem?_cons_succ, List.getElem?_cons_zero]; rfl) (by kernel_rfl) (by kernel_rfl) (by kernel_rfl) (fun _ _ _ h => h) (Or.inl ⟨by rfl, ?_⟩) (by assumption) ?_
              rotate_left 1
              · intro w hSw; (try dsimp only at hSw); go_simp; (try with_reducible rfl)
              try simp only [Act.put, List.setIfInBounds_toArray, List.set_cons_zero, List.set_cons_succ]
              refine wpAnyH_take (i := 5) (v := ?_) (by simp only [List.getElem?_toArray, List.getElem?_cons_succ, List.getElem?_cons_zero]; rfl) (by kernel_rfl) (by kernel_rfl) (by kernel_rfl) (fun _ _ _ h => h) (Or.inl ⟨by rfl, ?_⟩) (by assumption) ?_
              rotate_left 1
              · intro w hSw; (try dsimp only at hSw); go_simp; (try with_reducible rfl)
              try simp only [Act.put, List.setIfInBounds_toArray, List.set_cons_zero, List.set_cons_succ]
              refine wpAnyH_take (i := 6) (v := ?_) (by simp only [List.getElem?_toArray, List.getElem?_cons_succ, List.getElem?_cons_zero]; rfl) (by kernel_rfl) (by kernel_rfl) (by kernel_rfl) (fun _ _ _ h => h) (Or.inl ⟨by rfl, ?_⟩) (by assumption) ?_
              rotate_left 1
              · intro w hSw; (try dsimp only at hSw); go_simp; (try with_reducible rfl)
              try simp only [Act.put, List.setIfInBounds_toArray, List.set_cons_zero, List.set_cons_succ]
              refine wpAnyH_take (i := 7) (v := ?_) (by simp only [List.getElem?_toArray, List.getElem?_cons_succ, List.getElem?_cons_zero]; rfl) (by kernel_rfl) (by kernel_rfl) (by kernel_rfl) (fun _ _ _ h => h) (Or.inl ⟨by rfl, ?_⟩) (by assumption) ?_
              rotate_left 1
              · intro w hSw; (try dsimp only at hSw); go_simp; (try with_reducible rfl)
              try simp only [Act.put, List.setIfInBounds_toArray, List.set_cons_zero, List.set_cons_succ]
              refine wpAnyH_take (i := 8) (v := ?_) (by simp only [List.getElem?_toArray, List.getElem?_cons_succ, List.getElem?_cons_zero]; rfl) (by kernel_rfl) (by kernel_rfl) (by kernel_rfl) (fun _ _ _ h => h) (Or.inl ⟨by rfl, ?_⟩) (by assumption) ?_
              rotate_left 1
              · intro w hSw; (try dsimp only at hSw); go_simp; (try with_reducible rfl)
              try simp only [Act.put, List.setIfInBounds_toArray, List.set_cons_zero, List.set_cons_succ]
              refine wpAnyH_take (i := 9) (v := ?_) (by simp only [List.getElem?_toArray, List.getElem?_cons_succ, List.getElem?_cons_zero]; rfl) (by kernel_rfl) (by kernel_rfl) (by kernel_rfl) (fun _ _ _ h => h) (Or.inl ⟨by rfl, ?_⟩) (by assumption) ?_
              rotate_left 1
              · intro w hSw; (try dsimp only at hSw); go_simp; (try with_reducible rfl)
              try simp only [Act.put, List.setIfInBounds_toArray, List.set_cons_zero, List.set_cons_succ]
              refine wpAnyH_take (i := 10) (v := ?_) (by simp only [List.getElem?_toArray, List.getElem?_cons_succ, List.getElem?_cons_zero]; rfl) (by kernel_rfl) (by kernel_rfl) (by kernel_rfl) (fun _ _ _ h => h) (Or.inl ⟨by rfl, ?_⟩) (by assumption) ?_
              rotate_left 1
              · intro w hSw; (try dsimp only at hSw); go_simp; (try with_reducible rfl)
              try simp only [Act.put, List.setIfInBounds_toArray, List.set_cons_zero, List.set_cons_succ]
              refine wpAnyH_take (i := 11) (v := .bool false) (by simp only [List.getElem?_toArray, List.getElem?_cons_succ, List.getElem?_cons_zero]; rfl) (by kernel_rfl) (by kernel_rfl) (by kernel_rfl) (fun _ _ _ h => h) (Or.inl ⟨by rfl, ?_⟩) (by assumption) ?_
              · intro w hSw; (try dsimp only at hSw); (try go_simp); (first | done | (with_reducible rfl) | simp | skip)
              try simp only [Act.put, List.setIfInBounds_toArray, List.set_cons_zero, List.set_cons_succ]
              refine wpAnyH_take (i := 12) (v := .bool false) (by simp only [List.getElem?_toArray, List.getElem?_cons_succ, List.getElem?_cons_zero]; rfl) (by kernel_rfl) (by kernel_rfl) (by kernel_rfl) (fun _ _ _ h => h) (Or.inl ⟨by rfl, ?_⟩) (by assumption) ?_
              · intro w hSw; (try dsimp only at hSw); (try go_simp); (first | done | (with_reducible rfl) | simp | skip)
              try simp only [Act.put, List.setIfInBounds_toArray, List.set_cons_zero, List.set_cons_succ]
              refine wpAnyH_done (by kernel_rfl) ?_ _
              refine NoPanic.normal ?_
              obtain ⟨Wh, hWh⟩ : ∃ Wh, Wh = w4.drew := ⟨_, rfl⟩
              rw [← hWh]
              obtain ⟨hg, hby, hl, hgs, as4, hgd, tc4, ft4⟩ := X4.out
              have BH : Below w4.heap.size w4 Wh := by rw [hWh]; exact (Below.refl _ _).drew
              have asH := as4.below BH
              obtain ⟨st9, ct9, nt9, hnt9, c9, OW9, NX9⟩ := asH.byteStep HSP.out h64 h65 (Nat.le_trans HW0S.out hg) ((BH.block _ (lt_of_block hby)).trans hby) hl (Nat.le_trans HW3.out hg) hgs hgd hlb (by
                have h1 : j ≤ 1 := by omega
                have h2 := Nat.mul_le_mul_right 1049018 h1
                omega)
              have BXH : Hid (Wh.heap[fb]? = some (.cells #[encStr nm, .bool true, .slice (some ⟨Gb, 0, none⟩) nb sc] 71 (0, 0))) := (BH.block _ (lt_of_block BX4.out)).trans BX4.out
              clear hg hby hl hgs as4 hgd tc4 ft4 hWh BH asH X4 K19 HBX HF2 BX4
              go_wp2_with (at_builtin; refine wpl_one rfl _ _ 51 rfl 0 31 _ 1 24 Tryz.underlying51 info31 rfl (by decide) (.slice st9 nt9 ct9) nt9 (S3.Lb.map (·.1)) rfl OW9.out [sliceV g B] 31 _ rfl rfl rfl (fun u hu => by simp at hu; subst hu; rfl) (by omega) (by omega) (Nat.zero_le _) ?_; intro v8 w9 o8 f8; obtain ⟨s9, c9', rfl⟩ := sh_slice o8; obtain ⟨⟨S9, as9, gr9⟩, g9, z9⟩ := NX9.out _ _ _ o8 f8; have A10 := hid (And.intro as9 gr9); clear o8 f8 as9 gr9)
              have FIN : Hid ((w9.setCell ⟨sp, 0, none⟩ (.slice s9 (nt9 + 1) c9')).heap[fb]? = some (.cells #[encStr nm, .bool true, .slice (some ⟨Gb, 0, none⟩) nb sc] 71 (0, 0)) ∧ fb ∉ S9.hdr ∧ fb ∉ D4.foot p mf mt) := by
                have bA : (Wh.alloc (.cells #[sliceV g B] 31)).heap[fb]? = some (.cells #[encStr nm, .bool true, .slice (some ⟨Gb, 0, none⟩) nb sc] 71 (0, 0)) := (Below.heap_alloc _ _ _ (lt_of_block BXH.out)).trans BXH.out
                refine ⟨(A10.out.2.touch.block _ (lt_of_block bA) hF4.out.1).trans bA, fun hm => ?_, hF4.out.2⟩
                rcases A10.out.2.hdr fb hm with h1 | h1
                · exact hF4.out.1 h1
                · have := lt_of_block bA
                  omega
              clear V1 V2 V3
              refine ⟨⟨k + 1, t3 + 1, D4, S9, _, by go_num, by omega, by omega, A10.out.1, by omega, by rw [List.length_append]; simp; omega, FIN.out⟩, ?_⟩
              show 4 - ((k : Int) + 1).toNat < 4 - (k : Int).toNat
              omega
            · have NXK : Hid (As W0 W3 E lo p mf mt B D S t3 D3 S3 tlN nlN ex3 ∧ t3 ≤ t1 + 3 * (i + 1) ∧ ex3.length ≤ j * 1049018 + 1049000 + 3 * (i + 1)) := ⟨has, by omega, by omega⟩
              clear has hbox hfs hfd
              rcases hways with ⟨hka, hkb, hkc⟩ | ⟨hka, hkb⟩ | hka
              · have hx7 : (k : Int) < (nb : Int) := by omega
                have hx8 : (k : Int) < 3 := by omega
                subst hkc
                go_wp2_with fail
                clear V1 V2
                refine ⟨⟨i + 1, t3, D3, S3, ex3, by go_num, by omega, by omega, NXK.out.1, NXK.out.2.1, NXK.out.2.2⟩, ?_⟩
                show 7 - ((i : Int) + 1).toNat < 7 - (i : Int).toNat
                omega
              · have hx7 : (k : Int) < (nb : Int) := by omega
                have hx8 : ¬ (k : Int) < 3 := by omega
                clear hkb
                go_wp2_with fail
                clear V1 V2
                refine ⟨⟨i + 1, t3, D3, S3, ex3, by go_num, by omega, by omega, NXK.out.1, NXK.out.2.1, NXK.out.2.2⟩, ?_⟩
                show 7 - ((i : Int) + 1).toNat < 7 - (i : Int).toNat
                omega
              · have hx7 : ¬ (k : Int) < (nb : Int) := by omega
                have hka9 := hka.symm
                clear hka
                subst hka9
                go_wp2_with fail
                clear V1 V2
                refine ⟨⟨i + 1, t3, D3, S3, ex3, by go_num, by omega, by omega, NXK.out.1, NXK.out.2.1, NXK.out.2.2⟩, ?_⟩
                show 7 - ((i : Int) + 1).toNat < 7 - (i : Int).toNat
                omega
        · have NXI : Hid (As W0 W2 E lo p mf mt B D S t2 D2 S2 tlN nlN ex2 ∧ t2 ≤ t + 18 * (j + 1) ∧ ex2.length ≤ (j + 1) * 1049018) := ⟨has, by omega, by omega⟩
          clear has k2
          rcases hdone with hdone | ⟨hd1, hd2⟩
          · have hx1 : ¬ (i : Int) < (N : Int) := by omega
            subst hdone
            go_wp2_with fail
            clear V1
            refine ⟨⟨j + 1, t2, D2, S2, tlN, nlN, ex2, by go_num, by omega, NXI.out.1, NXI.out.2.1, LTL.out, LNL.out, NXI.out.2.2⟩, ?_⟩
            show 3 - ((j : Int) + 1).toNat < 3 - (j : Int).toNat
            omega
          · have hx1 : (i : Int) < (N : Int) := by omega
            have hx6 : ¬ (i : Int) < 6 := by omega
            clear hd2
            go_wp2_with fail
            clear V1
            refine ⟨⟨j + 1, t2, D2, S2, tlN, nlN, ex2, by go_num, by omega, NXI.out.1, NXI.out.2.1, LTL.out, LNL.out, NXI.out.2.2⟩, ?_⟩
            show 3 - ((j : Int) + 1).toNat < 3 - (j : Int).toNat
            omega
    · have hj1 : ¬ (j : Int) < 2 := by omega
      have FIN := hid (has.base BW.out)
      have BD : Hid (t1 ≤ t + 36 ∧ tl.length = 2 ∧ nl.length = 2 ∧ ex.length ≤ 2098036) := ⟨by omega, by omega, by omega, by rw [hjl] at hex; omega⟩
      clear has htl hnl hex
      go_wp2_with fail
      go_ret
      exact ⟨rfl, t1, D1, S1, tl, nl, ex, FIN.out, BD.out⟩
end Go.Proofs.YtcpncfngadablaaGreatDoor
