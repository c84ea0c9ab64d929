import Derived.Test.YtfmmmhcpdinhgaaDoorZ24
/-
  The law's own alone: what it leaves as it was.
-/
namespace Go.Proofs.YtfmmmhcpdinhgaaDoor
open Go.RowKit Go.Deep PureNet ShfKit
set_option maxRecDepth 100000

/-- only blocks of the lists, or new ones, have turned. -/
structure Kq (B : Nat) (P0 : List Pr) (w W : World) (P : List Pr) : Prop where
  below : Below B w W
  keep : ∀ g, g < w.heap.size → (∀ x ∈ P0, ¬ InB x.v x.u g) → W.heap[g]? = w.heap[g]?
  came : ∀ x ∈ P, ∀ g, InB x.v x.u g → (∃ y ∈ P0, InB y.v y.u g) ∨ w.heap.size ≤ g
theorem Kq.refl (B : Nat) (P0 : List Pr) (w : World) : Kq B P0 w w P0 := ⟨Below.refl _ _, fun _ _ _ => rfl, fun x hx _ hg => .inl ⟨x, hx, hg⟩⟩
theorem Kq.on {B : Nat} {P0 P : List Pr} {w W W' : World} (h : Kq B P0 w W P) (hb : Below W.heap.size W W') (hB : B ≤ w.heap.size) : Kq B P0 w W' P :=
  ⟨h.below.trans (hb.mono (Nat.le_trans hB h.below.size)), fun g hg hf => (hb.block g (Nat.lt_of_lt_of_le hg h.below.size)).trans (h.keep g hg hf), h.came⟩
theorem Kq.turn {B i : Nat} {P0 P : List Pr} {w W W' : World} {x y : Pr} {b : Option Nat} (h : Kq B P0 w W P) (hx : P[i]? = some x) (hg : W.grownBy W' b) (hB : B ≤ w.heap.size) (h1 : ∀ k, b = some k → B ≤ k) (hb : ∀ k, b = some k → InB x.v x.u k) (hy : ∀ k, InB y.v y.u k → InB x.v x.u k ∨ W.heap.size ≤ k) : Kq B P0 w W' (P.set i y) := by
  refine ⟨h.below.grown hg (Nat.le_trans hB h.below.size) h1, fun g hgs hf => ?_, fun z hz g hk => ?_⟩
  · refine (hg.block g (Nat.lt_of_lt_of_le hgs h.below.size) (fun e => ?_)).trans (h.keep g hgs hf)
    rcases h.came x (List.mem_of_getElem? hx) g (hb g e.symm) with ⟨y, hy, hk⟩ | h2
    · exact hf y hy hk
    · omega
  · rcases List.mem_or_eq_of_mem_set hz with hz | rfl
    · exact h.came z hz g hk
    · rcases hy g hk with h2 | h2
      · exact h.came x (List.mem_of_getElem? hx) g h2
      · exact .inr (Nat.le_trans h.below.size h2)
theorem Kq.far {B : Nat} {P0 P : List Pr} {w W W' : World} {v v' : Value} (h : Kq B P0 w W P) (hf : Far W W' v v') (hB : B ≤ w.heap.size) (hv : ∀ g, v.ownBlock = some g → w.heap.size ≤ g) : Kq B P0 w W' P := by
  have hb : Below w.heap.size W W' := hf.below (Below.refl _ _) h.below.size hv
  exact ⟨h.below.trans (hb.mono hB), fun g hg hfr => (hb.block g hg).trans (h.keep g hg hfr), h.came⟩

set_option maxHeartbeats 8000000 in
theorem alone_kept (m cl cw B gl ol gw ow : Nat) (P0 : List Pr) (Wn : List (Value × List Bool)) (w : World) (h0 : As w B (some ⟨gl, ol, none⟩) (some ⟨gw, ow, none⟩) P0 Wn m 0 0) (hB : B ≤ w.heap.size) (hm : m ≤ 1048576) (hsz : ∀ x ∈ Wn, x.2.length ≤ 65536) :
    Calls Tryd.prog 33 #[.slice (some ⟨gl, ol, none⟩) m cl, .slice (some ⟨gw, ow, none⟩) m cw] w fun e w' => e = .returned (.bool true) ∧ Below B w w' ∧ ∀ g, g < w.heap.size → (∀ x ∈ P0, ¬ InB x.v x.u g) → w'.heap[g]? = w.heap[g]? := by
  have A0 := hid h0
  have HSZ := hid hsz
  clear h0 hsz
  go_enter Tryd.func33, Tryd.ntmps33
  go_wp2
  go_loopg [5] m (fun k iv W => ∃ (i : Nat), i ≤ m ∧ k = m - i ∧ iv = .int .i64 (i : Int) ∧ Hid (∃ P, As W B (some ⟨gl, ol, none⟩) (some ⟨gw, ow, none⟩) P Wn m i 0 ∧ Kq B P0 w W P))
  case atStart => exact ⟨0, Nat.zero_le _, rfl, rfl, P0, A0.out, Kq.refl _ _ _⟩
  case round =>
    clear A0
    obtain ⟨i, hi, hgk, rfl, HR1⟩ := hrel
    subst hgk
    obtain ⟨P, hA, hBW⟩ := HR1.out
    clear HR1
    by_cases hlt : i < m
    · obtain ⟨x, wn, sv, cv, sn, cn, hx, hw, hv, hn, hc, hcn, c1, c2, hl1, hl2⟩ := hA.at_ hlt
      obtain ⟨o1, o2, o3⟩ := hA.one i x wn hx hw
      obtain ⟨o4, o5⟩ := o3 (Nat.zero_le _)
      rw [if_neg (Nat.lt_irrefl _)] at o1
      have hp := hA.al.pf.pair i x hx
      have how := hp.own
      rw [o4, o5, hv] at how
      have hxl : x.A.length ≤ 65536 := by rw [o1]; exact HSZ.out wn (List.mem_of_getElem? hw)
      have FP := hid (flip_any x.A sv cv B wr how (by omega))
      have NX : Hid (∀ w2, w2.ownsRow B 4 1 (.slice sv x.A.length cv) x.A.length (bo (x.A.map not)) → wr.grownBy w2 (Value.slice sv x.A.length cv).ownBlock → ∃ P, As w2 B (some ⟨gl, ol, none⟩) (some ⟨gw, ow, none⟩) P Wn m (i + 1) 0 ∧ Kq B P0 w w2 P) := fun w2 ho2 hg2 => by
        have hl3 : (x.A.map not).length = x.A.length := by simp
        refine ⟨P.set i ⟨x.v, x.A.map not, x.v, x.A.map not⟩, ⟨hA.al.turn hx rfl ?_ hg2 (fun k e => .inl (by rw [hv]; exact e)) (fun k hk => ?_), by rw [List.length_set]; exact hA.len, hA.wlen, fun j z wz hz hwz => ?_⟩, hBW.turn hx hg2 hB (fun k e => (ShfKit.own_block how e).1) (fun k e => .inl (by rw [hv]; exact e)) (fun k hk => by rcases hk with hk | hk <;> exact .inl (.inl hk))⟩
        · show Pair w2 B 4 1 x.v (x.A.map not).length (bo (x.A.map not)) x.v (x.A.map not).length (bo (x.A.map not))
          rw [hl3, hv]
          exact Pair.start ho2
        · rcases hk with hk | hk
          · exact .inl (.inl hk)
          · exact .inl (.inl hk)
        · rw [List.getElem?_set] at hz
          by_cases e : i = j
          · subst e
            rw [if_pos rfl, if_pos (by rw [hA.len]; exact hlt)] at hz
            cases hz
            rw [hw] at hwz
            cases hwz
            exact ⟨by rw [if_pos (by omega), o1], fun h => absurd h (Nat.not_lt_zero _), fun _ => ⟨rfl, rfl⟩⟩
          · rw [if_neg e] at hz
            obtain ⟨q1, q2, q3⟩ := hA.one j z wz hz hwz
            refine ⟨?_, q2, q3⟩
            rw [q1]
            by_cases e2 : j < i
            · rw [if_pos e2, if_pos (by omega)]
            · rw [if_neg e2, if_neg (by omega)]
      clear hx hw hv hn hc hcn c2 o1 o2 o3 o4 o5 hp how hA hBW
      go_wp2_with (first | (go_at_call 34; refine Calls.mono FP.out ?_; rintro e w2 ⟨⟨u2, rfl⟩, ho2, hg2⟩; have N2 := hid (NX.out w2 ho2 hg2); clear ho2 hg2))
      clear FP NX c1
      obtain ⟨P2, hA2, hBW2⟩ := N2.out
      have A2 := hid hA2
      have BW2 := hid hBW2
      clear N2 hA2 hBW2 hl1 hl2
      go_loopg [6] m (fun k iv W => ∃ (j : Nat), j ≤ m ∧ k = m - j ∧ iv = .int .i64 (j : Int) ∧ Hid (Below w2.heap.size w2 W))
      case atStart => exact ⟨0, Nat.zero_le _, rfl, rfl, Below.refl _ _⟩
      case round =>
        obtain ⟨j, hj, hgk, rfl, HB⟩ := hrel
        subst hgk
        by_cases hjm : j < m
        · obtain ⟨x, wn, sv, cv, sn, cn, hx, hw, hv, hn, hc, hcn, c1, c2, hl1, hl2⟩ := (A2.out.below HB.out).at_ hjm
          obtain ⟨o1, _, _⟩ := A2.out.one j x wn hx hw
          have hwl : wn.2.length ≤ 65536 := HSZ.out wn (List.mem_of_getElem? hw)
          have KS : Hid (∀ W, Below wr.heap.size wr W → W.cell? ⟨gl, ol + j, none⟩ = some (.slice sv x.A.length cv) ∧ W.cell? ⟨gw, ow + j, none⟩ = some (.slice sn wn.2.length cn)) := fun W hW => ⟨(hW.cell (p := ⟨gl, ol + j, none⟩) hl1).trans c1, (hW.cell (p := ⟨gw, ow + j, none⟩) hl2).trans c2⟩
          by_cases hji : j ≤ i
          · have hji2 : (j : Int) ≤ (i : Int) := by omega
            rw [if_pos (by omega)] at o1
            have e1 : x.A.length = (wn.2.map not).length := by rw [o1]
            have FL : Hid (∀ W, Below wr.heap.size wr W → Calls Tryd.prog 35 #[.slice sn wn.2.length cn] W fun e w' => ∃ v, e = .returned v ∧ Mk W w' 4 1 v wn.2.length (bo (wn.2.map not))) := fun W hW => flipped_any wn.2 sn cn W (hcn.below hW) (by omega)
            have TR : Hid (∀ W s5 c5, Below wr.heap.size wr W → CellsAt W s5 (bo (wn.2.map not)) → Calls Tryd.prog 16 #[.slice sv x.A.length cv, .slice s5 wn.2.length c5] W fun e w' => e = .returned (.bool true) ∧ Below W.heap.size W w') := fun W s5 c5 hW h5 => by
              have := truths_true (wn.2.map not) sv s5 cv c5 W (by rw [← o1]; exact hc.below hW) h5 (by simp only [List.length_map]; omega)
              rw [← e1] at this
              rw [e1, List.length_map]
              rw [e1, List.length_map] at this
              exact this
            clear hx hw hv hn hc hcn o1 e1 c1 c2
            go_wp2
            refine wp_region_noPanic ?_
            refine wp_region_held_drew (S := fun W => W.cell? ⟨gl, ol + j, none⟩ = some (.slice sv x.A.length cv) ∧ W.cell? ⟨gw, ow + j, none⟩ = some (.slice sn wn.2.length cn)) (by kernel_rfl) (KS.out _ (Below.refl _ _).drew) (fun hHeld => ?_)
            refine wpAnyH_take (i := 0) (v := ?_) (by simp only [List.getElem?_toArray, List.getElem?_cons_zero]; rfl) (by kernel_rfl) (by kernel_rfl) (by kernel_rfl) (fun _ _ _ h => h) (Or.inl ⟨by rfl, ?_⟩) (by assumption) ?_
            rotate_left 1
            · intro w hSw; (try dsimp only at hSw); go_simp; (try with_reducible rfl)
            try simp only [Act.put, List.setIfInBounds_toArray, List.set_cons_zero, List.set_cons_succ]
            refine wpAnyH_take (i := 1) (v := ?_) (by simp only [List.getElem?_toArray, List.getElem?_cons_succ, List.getElem?_cons_zero]; rfl) (by kernel_rfl) (by kernel_rfl) (by kernel_rfl) (fun _ _ _ h => h) (Or.inl ⟨by rfl, ?_⟩) (by assumption) ?_
            rotate_left 1
            · intro w hSw; (try dsimp only at hSw); go_simp; (try with_reducible rfl)
            try simp only [Act.put, List.setIfInBounds_toArray, List.set_cons_zero, List.set_cons_succ]
            refine wpAnyH_take (i := 2) (v := .bool true) (by simp only [List.getElem?_toArray, List.getElem?_cons_succ, List.getElem?_cons_zero]; rfl) (by kernel_rfl) (by kernel_rfl) (by kernel_rfl) (fun _ _ _ h => h) (Or.inl ⟨by rfl, ?_⟩) (by assumption) ?_
            · intro w hSw; (try dsimp only at hSw); (try go_simp); ((try simp); (try omega))
            try simp only [Act.put, List.setIfInBounds_toArray, List.set_cons_zero, List.set_cons_succ]
            refine wpAnyH_take (i := 3) (v := ?_) (by simp only [List.getElem?_toArray, List.getElem?_cons_succ, List.getElem?_cons_zero]; rfl) (by kernel_rfl) (by kernel_rfl) (by kernel_rfl) (fun _ _ _ h => h) (Or.inl ⟨by rfl, ?_⟩) (by assumption) ?_
            rotate_left 1
            · intro w hSw; (try dsimp only at hSw); go_simp; (try with_reducible rfl)
            try simp only [Act.put, List.setIfInBounds_toArray, List.set_cons_zero, List.set_cons_succ]
            refine wpAnyH_take (i := 4) (v := ?_) (by simp only [List.getElem?_toArray, List.getElem?_cons_succ, List.getElem?_cons_zero]; rfl) (by kernel_rfl) (by kernel_rfl) (by kernel_rfl) (fun _ _ _ h => h) (Or.inl ⟨by rfl, ?_⟩) (by assumption) ?_
            rotate_left 1
            · intro w hSw; (try dsimp only at hSw); go_simp; (try with_reducible rfl)
            try simp only [Act.put, List.setIfInBounds_toArray, List.set_cons_zero, List.set_cons_succ]
            refine wpAnyH_take (i := 5) (v := ?_) (by simp only [List.getElem?_toArray, List.getElem?_cons_succ, List.getElem?_cons_zero]; rfl) (by kernel_rfl) (by kernel_rfl) (by kernel_rfl) (fun _ _ _ h => h) (Or.inl ⟨by rfl, ?_⟩) (by assumption) ?_
            rotate_left 1
            · intro w hSw; (try dsimp only at hSw); go_simp; (try with_reducible rfl)
            try simp only [Act.put, List.setIfInBounds_toArray, List.set_cons_zero, List.set_cons_succ]
            refine wpAnyH_take (i := 6) (v := .pointer (some ⟨gl, ol + j, none⟩)) (by simp only [List.getElem?_toArray, List.getElem?_cons_succ, List.getElem?_cons_zero]; rfl) (by kernel_rfl) (by kernel_rfl) (by kernel_rfl) (fun _ _ _ h => h) (Or.inl ⟨by rfl, ?_⟩) (by assumption) ?_
            · intro w hSw; (try dsimp only at hSw); (try go_simp); ((try rw [if_pos (by omega)]); (try simp); (try (intro h9; omega)))
            try simp only [Act.put, List.setIfInBounds_toArray, List.set_cons_zero, List.set_cons_succ]
            refine wpAnyH_take (i := 7) (v := ?_) (by simp only [List.getElem?_toArray, List.getElem?_cons_succ, List.getElem?_cons_zero]; rfl) (by kernel_rfl) (by kernel_rfl) (by kernel_rfl) (fun _ _ _ h => h) (Or.inl ⟨by rfl, ?_⟩) (by assumption) ?_
            rotate_left 1
            · intro w hSw; (try dsimp only at hSw); go_simp; (try with_reducible rfl)
            try simp only [Act.put, List.setIfInBounds_toArray, List.set_cons_zero, List.set_cons_succ]
            refine wpAnyH_take (i := 8) (v := ?_) (by simp only [List.getElem?_toArray, List.getElem?_cons_succ, List.getElem?_cons_zero]; rfl) (by kernel_rfl) (by kernel_rfl) (by kernel_rfl) (fun _ _ _ h => h) (Or.inl ⟨by rfl, ?_⟩) (by assumption) ?_
            rotate_left 1
            · intro w hSw; (try dsimp only at hSw); go_simp; (try with_reducible rfl)
            try simp only [Act.put, List.setIfInBounds_toArray, List.set_cons_zero, List.set_cons_succ]
            refine wpAnyH_take (i := 9) (v := ?_) (by simp only [List.getElem?_toArray, List.getElem?_cons_succ, List.getElem?_cons_zero]; rfl) (by kernel_rfl) (by kernel_rfl) (by kernel_rfl) (fun _ _ _ h => h) (Or.inl ⟨by rfl, ?_⟩) (by assumption) ?_
            rotate_left 1
            · intro w hSw; (try dsimp only at hSw); go_simp; (try with_reducible rfl)
            try simp only [Act.put, List.setIfInBounds_toArray, List.set_cons_zero, List.set_cons_succ]
            refine wpAnyH_take (i := 10) (v := .pointer (some ⟨gw, ow + j, none⟩)) (by simp only [List.getElem?_toArray, List.getElem?_cons_succ, List.getElem?_cons_zero]; rfl) (by kernel_rfl) (by kernel_rfl) (by kernel_rfl) (fun _ _ _ h => h) (Or.inl ⟨by rfl, ?_⟩) (by assumption) ?_
            · intro w hSw; (try dsimp only at hSw); (try go_simp); ((try rw [if_pos (by omega)]); (try simp); (try (intro h9; omega)))
            try simp only [Act.put, List.setIfInBounds_toArray, List.set_cons_zero, List.set_cons_succ]
            refine wpAnyH_take (i := 11) (v := ?_) (by simp only [List.getElem?_toArray, List.getElem?_cons_succ, List.getElem?_cons_zero]; rfl) (by kernel_rfl) (by kernel_rfl) (by kernel_rfl) (fun _ _ _ h => h) (Or.inl ⟨by rfl, ?_⟩) (by assumption) ?_
            rotate_left 1
            · intro w hSw; (try dsimp only at hSw); go_simp; (try with_reducible rfl)
            try simp only [Act.put, List.setIfInBounds_toArray, List.set_cons_zero, List.set_cons_succ]
            refine wpAnyH_ready (rs := [12]) (by kernel_rfl) (by simp) ?_
            refine AllReadyH.cons (by simp only [List.getElem?_toArray, List.getElem?_cons_succ, List.getElem?_cons_zero]; rfl) (fun K hK => ?_) AllReadyH.nil
            go_simp
            go_at_call 35
            refine Calls.mono (FL.out _ (Below.refl _ _).drew) ?_
            rintro e w5 ⟨v5, rfl, hm5⟩
            obtain ⟨s5, c5, rfl⟩ := own_shape hm5.own
            have B5 : Hid (Below wr.heap.size wr w5) := (Below.refl wr.heap.size wr).drew.trans hm5.below
            have O5 := hid hm5.own
            clear hm5
            clear hHeld
            refine hK.out _ _ (KS.out w5 B5.out) (fun hHeld => ?_)
            clear hK K
            try simp only [Act.put, List.setIfInBounds_toArray, List.set_cons_zero, List.set_cons_succ]
            refine wpAnyH_ready (rs := [13]) (by kernel_rfl) (by simp) ?_
            refine AllReadyH.cons (by simp only [List.getElem?_toArray, List.getElem?_cons_succ, List.getElem?_cons_zero]; rfl) (fun K hK => ?_) AllReadyH.nil
            go_simp
            go_at_call 16
            refine Calls.mono (TR.out w5 s5 c5 B5.out (own_cells4 O5.out)) ?_
            rintro e w6 ⟨rfl, b6⟩
            have B6 : Hid (Below wr.heap.size wr w6) := B5.out.trans (b6.mono B5.out.size)
            clear b6
            clear hHeld
            refine hK.out _ _ (KS.out w6 B6.out) (fun hHeld => ?_)
            clear hK K
            try simp only [Act.put, List.setIfInBounds_toArray, List.set_cons_zero, List.set_cons_succ]
            refine wpAnyH_take (i := 14) (v := ?_) (by simp only [List.getElem?_toArray, List.getElem?_cons_succ, List.getElem?_cons_zero]; rfl) (by kernel_rfl) (by kernel_rfl) (by kernel_rfl) (fun _ _ _ h => h) (Or.inl ⟨by rfl, ?_⟩) (by assumption) ?_
            rotate_left 1
            · intro w hSw; (try dsimp only at hSw); go_simp; (try with_reducible rfl)
            try simp only [Act.put, List.setIfInBounds_toArray, List.set_cons_zero, List.set_cons_succ]
            refine wpAnyH_take (i := 15) (v := ?_) (by simp only [List.getElem?_toArray, List.getElem?_cons_succ, List.getElem?_cons_zero]; rfl) (by kernel_rfl) (by kernel_rfl) (by kernel_rfl) (fun _ _ _ h => h) (Or.inl ⟨by rfl, ?_⟩) (by assumption) ?_
            rotate_left 1
            · intro w hSw; (try dsimp only at hSw); go_simp; (try with_reducible rfl)
            try simp only [Act.put, List.setIfInBounds_toArray, List.set_cons_zero, List.set_cons_succ]
            refine wpAnyH_take (i := 16) (v := ?_) (by simp only [List.getElem?_toArray, List.getElem?_cons_succ, List.getElem?_cons_zero]; rfl) (by kernel_rfl) (by kernel_rfl) (by kernel_rfl) (fun _ _ _ h => h) (Or.inl ⟨by rfl, ?_⟩) (by assumption) ?_
            rotate_left 1
            · intro w hSw; (try dsimp only at hSw); go_simp; (try with_reducible rfl)
            try simp only [Act.put, List.setIfInBounds_toArray, List.set_cons_zero, List.set_cons_succ]
            refine wpAnyH_take (i := 17) (v := ?_) (by simp only [List.getElem?_toArray, List.getElem?_cons_succ, List.getElem?_cons_zero]; rfl) (by kernel_rfl) (by kernel_rfl) (by kernel_rfl) (fun _ _ _ h => h) (Or.inl ⟨by rfl, ?_⟩) (by assumption) ?_
            rotate_left 1
            · intro w hSw; (try dsimp only at hSw); go_simp; (try with_reducible rfl)
            try simp only [Act.put, List.setIfInBounds_toArray, List.set_cons_zero, List.set_cons_succ]
            refine wpAnyH_take (i := 18) (v := ?_) (by simp only [List.getElem?_toArray, List.getElem?_cons_succ, List.getElem?_cons_zero]; rfl) (by kernel_rfl) (by kernel_rfl) (by kernel_rfl) (fun _ _ _ h => h) (Or.inl ⟨by rfl, ?_⟩) (by assumption) ?_
            rotate_left 1
            · intro w hSw; (try dsimp only at hSw); go_simp; (try with_reducible rfl)
            try simp only [Act.put, List.setIfInBounds_toArray, List.set_cons_zero, List.set_cons_succ]
            refine wpAnyH_take (i := 19) (v := .bool false) (by simp only [List.getElem?_toArray, List.getElem?_cons_succ, List.getElem?_cons_zero]; rfl) (by kernel_rfl) (by kernel_rfl) (by kernel_rfl) (fun _ _ _ h => h) (Or.inl ⟨by rfl, ?_⟩) (by assumption) ?_
            · intro w hSw; (try dsimp only at hSw); (try go_simp); ((try simp); (try omega))
            try simp only [Act.put, List.setIfInBounds_toArray, List.set_cons_zero, List.set_cons_succ]
            refine wpAnyH_take (i := 20) (v := ?_) (by simp only [List.getElem?_toArray, List.getElem?_cons_succ, List.getElem?_cons_zero]; rfl) (by kernel_rfl) (by kernel_rfl) (by kernel_rfl) (fun _ _ _ h => h) (Or.inl ⟨by rfl, ?_⟩) (by assumption) ?_
            rotate_left 1
            · intro w hSw; (try dsimp only at hSw); go_simp; (try with_reducible rfl)
            try simp only [Act.put, List.setIfInBounds_toArray, List.set_cons_zero, List.set_cons_succ]
            refine wpAnyH_take (i := 21) (v := undef) (by simp only [List.getElem?_toArray, List.getElem?_cons_succ, List.getElem?_cons_zero]; rfl) (by kernel_rfl) (by kernel_rfl) (by kernel_rfl) (fun _ _ _ h => h) (Or.inr ⟨by rfl, rfl⟩) (by assumption) ?_
            try simp only [Act.put, List.setIfInBounds_toArray, List.set_cons_zero, List.set_cons_succ]
            refine wpAnyH_take (i := 22) (v := undef) (by simp only [List.getElem?_toArray, List.getElem?_cons_succ, List.getElem?_cons_zero]; rfl) (by kernel_rfl) (by kernel_rfl) (by kernel_rfl) (fun _ _ _ h => h) (Or.inr ⟨by rfl, rfl⟩) (by assumption) ?_
            try simp only [Act.put, List.setIfInBounds_toArray, List.set_cons_zero, List.set_cons_succ]
            refine wpAnyH_take (i := 23) (v := undef) (by simp only [List.getElem?_toArray, List.getElem?_cons_succ, List.getElem?_cons_zero]; rfl) (by kernel_rfl) (by kernel_rfl) (by kernel_rfl) (fun _ _ _ h => h) (Or.inr ⟨by rfl, rfl⟩) (by assumption) ?_
            try simp only [Act.put, List.setIfInBounds_toArray, List.set_cons_zero, List.set_cons_succ]
            refine wpAnyH_take (i := 24) (v := undef) (by simp only [List.getElem?_toArray, List.getElem?_cons_succ, List.getElem?_cons_zero]; rfl) (by kernel_rfl) (by kernel_rfl) (by kernel_rfl) (fun _ _ _ h => h) (Or.inr ⟨by rfl, rfl⟩) (by assumption) ?_
            try simp only [Act.put, List.setIfInBounds_toArray, List.set_cons_zero, List.set_cons_succ]
            refine wpAnyH_take (i := 25) (v := undef) (by simp only [List.getElem?_toArray, List.getElem?_cons_succ, List.getElem?_cons_zero]; rfl) (by kernel_rfl) (by kernel_rfl) (by kernel_rfl) (fun _ _ _ h => h) (Or.inr ⟨by rfl, rfl⟩) (by assumption) ?_
            try simp only [Act.put, List.setIfInBounds_toArray, List.set_cons_zero, List.set_cons_succ]
            refine wpAnyH_take (i := 26) (v := undef) (by simp only [List.getElem?_toArray, List.getElem?_cons_succ, List.getElem?_cons_zero]; rfl) (by kernel_rfl) (by kernel_rfl) (by kernel_rfl) (fun _ _ _ h => h) (Or.inr ⟨by rfl, rfl⟩) (by assumption) ?_
            try simp only [Act.put, List.setIfInBounds_toArray, List.set_cons_zero, List.set_cons_succ]
            refine wpAnyH_take (i := 27) (v := undef) (by simp only [List.getElem?_toArray, List.getElem?_cons_succ, List.getElem?_cons_zero]; rfl) (by kernel_rfl) (by kernel_rfl) (by kernel_rfl) (fun _ _ _ h => h) (Or.inr ⟨by rfl, rfl⟩) (by assumption) ?_
            try simp only [Act.put, List.setIfInBounds_toArray, List.set_cons_zero, List.set_cons_succ]
            refine wpAnyH_take (i := 28) (v := undef) (by simp only [List.getElem?_toArray, List.getElem?_cons_succ, List.getElem?_cons_zero]; rfl) (by kernel_rfl) (by kernel_rfl) (by kernel_rfl) (fun _ _ _ h => h) (Or.inr ⟨by rfl, rfl⟩) (by assumption) ?_
            try simp only [Act.put, List.setIfInBounds_toArray, List.set_cons_zero, List.set_cons_succ]
            refine wpAnyH_take (i := 29) (v := undef) (by simp only [List.getElem?_toArray, List.getElem?_cons_succ, List.getElem?_cons_zero]; rfl) (by kernel_rfl) (by kernel_rfl) (by kernel_rfl) (fun _ _ _ h => h) (Or.inr ⟨by rfl, rfl⟩) (by assumption) ?_
            try simp only [Act.put, List.setIfInBounds_toArray, List.set_cons_zero, List.set_cons_succ]
            refine wpAnyH_take (i := 30) (v := undef) (by simp only [List.getElem?_toArray, List.getElem?_cons_succ, List.getElem?_cons_zero]; rfl) (by kernel_rfl) (by kernel_rfl) (by kernel_rfl) (fun _ _ _ h => h) (Or.inr ⟨by rfl, rfl⟩) (by assumption) ?_
            try simp only [Act.put, List.setIfInBounds_toArray, List.set_cons_zero, List.set_cons_succ]
            refine wpAnyH_take (i := 31) (v := ?_) (by simp only [List.getElem?_toArray, List.getElem?_cons_succ, List.getElem?_cons_zero]; rfl) (by kernel_rfl) (by kernel_rfl) (by kernel_rfl) (fun _ _ _ h => h) (Or.inl ⟨by rfl, ?_⟩) (by assumption) ?_
            rotate_left 1
            · intro w hSw; (try dsimp only at hSw); go_simp; (try with_reducible rfl)
            try simp only [Act.put, List.setIfInBounds_toArray, List.set_cons_zero, List.set_cons_succ]
            refine wpAnyH_take (i := 32) (v := ?_) (by simp only [List.getElem?_toArray, List.getElem?_cons_succ, List.getElem?_cons_zero]; rfl) (by kernel_rfl) (by kernel_rfl) (by kernel_rfl) (fun _ _ _ h => h) (Or.inl ⟨by rfl, ?_⟩) (by assumption) ?_
            rotate_left 1
            · intro w hSw; (try dsimp only at hSw); go_simp; (try with_reducible rfl)
            try simp only [Act.put, List.setIfInBounds_toArray, List.set_cons_zero, List.set_cons_succ]
            refine wpAnyH_done (by kernel_rfl) ?_ _
            refine NoPanic.normal ?_
            go_wp2
            go_roundg (m - (j + 1))
            case measure => omega
            case rel => exact ⟨j + 1, hjm, rfl, by go_num, HB.out.trans (B6.out.mono HB.out.size)⟩
          · have hji2 : ¬ (j : Int) ≤ (i : Int) := by omega
            have hji3 : (i : Int) < (j : Int) := by omega
            rw [if_neg (by omega)] at o1
            have e1 : x.A.length = wn.2.length := by rw [o1]
            have TR : Hid (∀ W, Below wr.heap.size wr W → Calls Tryd.prog 16 #[.slice sv x.A.length cv, .slice sn wn.2.length cn] W fun e w' => e = .returned (.bool true) ∧ Below W.heap.size W w') := fun W hW => by
              have := truths_true wn.2 sv sn cv cn W (by rw [← o1]; exact hc.below hW) (hcn.below hW) (by omega)
              rw [e1]
              exact this
            clear hx hw hv hn hc hcn o1 e1 c1 c2
            go_wp2
            refine wp_region_noPanic ?_
            refine wp_region_held_drew (S := fun W => W.cell? ⟨gl, ol + j, none⟩ = some (.slice sv x.A.length cv) ∧ W.cell? ⟨gw, ow + j, none⟩ = some (.slice sn wn.2.length cn)) (by kernel_rfl) (KS.out _ (Below.refl _ _).drew) (fun hHeld => ?_)
            refine wpAnyH_take (i := 0) (v := ?_) (by simp only [List.getElem?_toArray, List.getElem?_cons_zero]; rfl) (by kernel_rfl) (by kernel_rfl) (by kernel_rfl) (fun _ _ _ h => h) (Or.inl ⟨by rfl, ?_⟩) (by assumption) ?_
            rotate_left 1
            · intro w hSw; (try dsimp only at hSw); go_simp; (try with_reducible rfl)
            try simp only [Act.put, List.setIfInBounds_toArray, List.set_cons_zero, List.set_cons_succ]
            refine wpAnyH_take (i := 1) (v := ?_) (by simp only [List.getElem?_toArray, List.getElem?_cons_succ, List.getElem?_cons_zero]; rfl) (by kernel_rfl) (by kernel_rfl) (by kernel_rfl) (fun _ _ _ h => h) (Or.inl ⟨by rfl, ?_⟩) (by assumption) ?_
            rotate_left 1
            · intro w hSw; (try dsimp only at hSw); go_simp; (try with_reducible rfl)
            try simp only [Act.put, List.setIfInBounds_toArray, List.set_cons_zero, List.set_cons_succ]
            refine wpAnyH_take (i := 2) (v := .bool false) (by simp only [List.getElem?_toArray, List.getElem?_cons_succ, List.getElem?_cons_zero]; rfl) (by kernel_rfl) (by kernel_rfl) (by kernel_rfl) (fun _ _ _ h => h) (Or.inl ⟨by rfl, ?_⟩) (by assumption) ?_
            · intro w hSw; (try dsimp only at hSw); (try go_simp); ((try simp); (try omega))
            try simp only [Act.put, List.setIfInBounds_toArray, List.set_cons_zero, List.set_cons_succ]
            refine wpAnyH_take (i := 3) (v := ?_) (by simp only [List.getElem?_toArray, List.getElem?_cons_succ, List.getElem?_cons_zero]; rfl) (by kernel_rfl) (by kernel_rfl) (by kernel_rfl) (fun _ _ _ h => h) (Or.inl ⟨by rfl, ?_⟩) (by assumption) ?_
            rotate_left 1
            · intro w hSw; (try dsimp only at hSw); go_simp; (try with_reducible rfl)
            try simp only [Act.put, List.setIfInBounds_toArray, List.set_cons_zero, List.set_cons_succ]
            refine wpAnyH_take (i := 4) (v := undef) (by simp only [List.getElem?_toArray, List.getElem?_cons_succ, List.getElem?_cons_zero]; rfl) (by kernel_rfl) (by kernel_rfl) (by kernel_rfl) (fun _ _ _ h => h) (Or.inr ⟨by rfl, rfl⟩) (by assumption) ?_
            try simp only [Act.put, List.setIfInBounds_toArray, List.set_cons_zero, List.set_cons_succ]
            refine wpAnyH_take (i := 5) (v := undef) (by simp only [List.getElem?_toArray, List.getElem?_cons_succ, List.getElem?_cons_zero]; rfl) (by kernel_rfl) (by kernel_rfl) (by kernel_rfl) (fun _ _ _ h => h) (Or.inr ⟨by rfl, rfl⟩) (by assumption) ?_
            try simp only [Act.put, List.setIfInBounds_toArray, List.set_cons_zero, List.set_cons_succ]
            refine wpAnyH_take (i := 6) (v := undef) (by simp only [List.getElem?_toArray, List.getElem?_cons_succ, List.getElem?_cons_zero]; rfl) (by kernel_rfl) (by kernel_rfl) (by kernel_rfl) (fun _ _ _ h => h) (Or.inr ⟨by rfl, rfl⟩) (by assumption) ?_
            try simp only [Act.put, List.setIfInBounds_toArray, List.set_cons_zero, List.set_cons_succ]
            refine wpAnyH_take (i := 7) (v := undef) (by simp only [List.getElem?_toArray, List.getElem?_cons_succ, List.getElem?_cons_zero]; rfl) (by kernel_rfl) (by kernel_rfl) (by kernel_rfl) (fun _ _ _ h => h) (Or.inr ⟨by rfl, rfl⟩) (by assumption) ?_
            try simp only [Act.put, List.setIfInBounds_toArray, List.set_cons_zero, List.set_cons_succ]
            refine wpAnyH_take (i := 8) (v := undef) (by simp only [List.getElem?_toArray, List.getElem?_cons_succ, List.getElem?_cons_zero]; rfl) (by kernel_rfl) (by kernel_rfl) (by kernel_rfl) (fun _ _ _ h => h) (Or.inr ⟨by rfl, rfl⟩) (by assumption) ?_
            try simp only [Act.put, List.setIfInBounds_toArray, List.set_cons_zero, List.set_cons_succ]
            refine wpAnyH_take (i := 9) (v := undef) (by simp only [List.getElem?_toArray, List.getElem?_cons_succ, List.getElem?_cons_zero]; rfl) (by kernel_rfl) (by kernel_rfl) (by kernel_rfl) (fun _ _ _ h => h) (Or.inr ⟨by rfl, rfl⟩) (by assumption) ?_
            try simp only [Act.put, List.setIfInBounds_toArray, List.set_cons_zero, List.set_cons_succ]
            refine wpAnyH_take (i := 10) (v := undef) (by simp only [List.getElem?_toArray, List.getElem?_cons_succ, List.getElem?_cons_zero]; rfl) (by kernel_rfl) (by kernel_rfl) (by kernel_rfl) (fun _ _ _ h => h) (Or.inr ⟨by rfl, rfl⟩) (by assumption) ?_
            try simp only [Act.put, List.setIfInBounds_toArray, List.set_cons_zero, List.set_cons_succ]
            refine wpAnyH_take (i := 11) (v := undef) (by simp only [List.getElem?_toArray, List.getElem?_cons_succ, List.getElem?_cons_zero]; rfl) (by kernel_rfl) (by kernel_rfl) (by kernel_rfl) (fun _ _ _ h => h) (Or.inr ⟨by rfl, rfl⟩) (by assumption) ?_
            try simp only [Act.put, List.setIfInBounds_toArray, List.set_cons_zero, List.set_cons_succ]
            refine wpAnyH_take (i := 12) (v := undef) (by simp only [List.getElem?_toArray, List.getElem?_cons_succ, List.getElem?_cons_zero]; rfl) (by kernel_rfl) (by kernel_rfl) (by kernel_rfl) (fun _ _ _ h => h) (Or.inr ⟨by rfl, rfl⟩) (by assumption) ?_
            try simp only [Act.put, List.setIfInBounds_toArray, List.set_cons_zero, List.set_cons_succ]
            refine wpAnyH_take (i := 13) (v := undef) (by simp only [List.getElem?_toArray, List.getElem?_cons_succ, List.getElem?_cons_zero]; rfl) (by kernel_rfl) (by kernel_rfl) (by kernel_rfl) (fun _ _ _ h => h) (Or.inr ⟨by rfl, rfl⟩) (by assumption) ?_
            try simp only [Act.put, List.setIfInBounds_toArray, List.set_cons_zero, List.set_cons_succ]
            refine wpAnyH_take (i := 14) (v := undef) (by simp only [List.getElem?_toArray, List.getElem?_cons_succ, List.getElem?_cons_zero]; rfl) (by kernel_rfl) (by kernel_rfl) (by kernel_rfl) (fun _ _ _ h => h) (Or.inr ⟨by rfl, rfl⟩) (by assumption) ?_
            try simp only [Act.put, List.setIfInBounds_toArray, List.set_cons_zero, List.set_cons_succ]
            refine wpAnyH_take (i := 15) (v := ?_) (by simp only [List.getElem?_toArray, List.getElem?_cons_succ, List.getElem?_cons_zero]; rfl) (by kernel_rfl) (by kernel_rfl) (by kernel_rfl) (fun _ _ _ h => h) (Or.inl ⟨by rfl, ?_⟩) (by assumption) ?_
            rotate_left 1
            · intro w hSw; (try dsimp only at hSw); go_simp; (try with_reducible rfl)
            try simp only [Act.put, List.setIfInBounds_toArray, List.set_cons_zero, List.set_cons_succ]
            refine wpAnyH_take (i := 16) (v := ?_) (by simp only [List.getElem?_toArray, List.getElem?_cons_succ, List.getElem?_cons_zero]; rfl) (by kernel_rfl) (by kernel_rfl) (by kernel_rfl) (fun _ _ _ h => h) (Or.inl ⟨by rfl, ?_⟩) (by assumption) ?_
            rotate_left 1
            · intro w hSw; (try dsimp only at hSw); go_simp; (try with_reducible rfl)
            try simp only [Act.put, List.setIfInBounds_toArray, List.set_cons_zero, List.set_cons_succ]
            refine wpAnyH_take (i := 17) (v := ?_) (by simp only [List.getElem?_toArray, List.getElem?_cons_succ, List.getElem?_cons_zero]; rfl) (by kernel_rfl) (by kernel_rfl) (by kernel_rfl) (fun _ _ _ h => h) (Or.inl ⟨by rfl, ?_⟩) (by assumption) ?_
            rotate_left 1
            · intro w hSw; (try dsimp only at hSw); go_simp; (try with_reducible rfl)
            try simp only [Act.put, List.setIfInBounds_toArray, List.set_cons_zero, List.set_cons_succ]
            refine wpAnyH_take (i := 18) (v := ?_) (by simp only [List.getElem?_toArray, List.getElem?_cons_succ, List.getElem?_cons_zero]; rfl) (by kernel_rfl) (by kernel_rfl) (by kernel_rfl) (fun _ _ _ h => h) (Or.inl ⟨by rfl, ?_⟩) (by assumption) ?_
            rotate_left 1
            · intro w hSw; (try dsimp only at hSw); go_simp; (try with_reducible rfl)
            try simp only [Act.put, List.setIfInBounds_toArray, List.set_cons_zero, List.set_cons_succ]
            refine wpAnyH_take (i := 19) (v := .bool true) (by simp only [List.getElem?_toArray, List.getElem?_cons_succ, List.getElem?_cons_zero]; rfl) (by kernel_rfl) (by kernel_rfl) (by kernel_rfl) (fun _ _ _ h => h) (Or.inl ⟨by rfl, ?_⟩) (by assumption) ?_
            · intro w hSw; (try dsimp only at hSw); (try go_simp); ((try simp); (try omega))
            try simp only [Act.put, List.setIfInBounds_toArray, List.set_cons_zero, List.set_cons_succ]
            refine wpAnyH_take (i := 20) (v := ?_) (by simp only [List.getElem?_toArray, List.getElem?_cons_succ, List.getElem?_cons_zero]; rfl) (by kernel_rfl) (by kernel_rfl) (by kernel_rfl) (fun _ _ _ h => h) (Or.inl ⟨by rfl, ?_⟩) (by assumption) ?_
            rotate_left 1
            · intro w hSw; (try dsimp only at hSw); go_simp; (try with_reducible rfl)
            try simp only [Act.put, List.setIfInBounds_toArray, List.set_cons_zero, List.set_cons_succ]
            refine wpAnyH_take (i := 21) (v := ?_) (by simp only [List.getElem?_toArray, List.getElem?_cons_succ, List.getElem?_cons_zero]; rfl) (by kernel_rfl) (by kernel_rfl) (by kernel_rfl) (fun _ _ _ h => h) (Or.inl ⟨by rfl, ?_⟩) (by assumption) ?_
            rotate_left 1
            · intro w hSw; (try dsimp only at hSw); go_simp; (try with_reducible rfl)
            try simp only [Act.put, List.setIfInBounds_toArray, List.set_cons_zero, List.set_cons_succ]
            refine wpAnyH_take (i := 22) (v := ?_) (by simp only [List.getElem?_toArray, List.getElem?_cons_succ, List.getElem?_cons_zero]; rfl) (by kernel_rfl) (by kernel_rfl) (by kernel_rfl) (fun _ _ _ h => h) (Or.inl ⟨by rfl, ?_⟩) (by assumption) ?_
            rotate_left 1
            · intro w hSw; (try dsimp only at hSw); go_simp; (try with_reducible rfl)
            try simp only [Act.put, List.setIfInBounds_toArray, List.set_cons_zero, List.set_cons_succ]
            refine wpAnyH_take (i := 23) (v := .pointer (some ⟨gl, ol + j, none⟩)) (by simp only [List.getElem?_toArray, List.getElem?_cons_succ, List.getElem?_cons_zero]; rfl) (by kernel_rfl) (by kernel_rfl) (by kernel_rfl) (fun _ _ _ h => h) (Or.inl ⟨by rfl, ?_⟩) (by assumption) ?_
            · intro w hSw; (try dsimp only at hSw); (try go_simp); ((try rw [if_pos (by omega)]); (try simp); (try (intro h9; omega)))
            try simp only [Act.put, List.setIfInBounds_toArray, List.set_cons_zero, List.set_cons_succ]
            refine wpAnyH_take (i := 24) (v := ?_) (by simp only [List.getElem?_toArray, List.getElem?_cons_succ, List.getElem?_cons_zero]; rfl) (by kernel_rfl) (by kernel_rfl) (by kernel_rfl) (fun _ _ _ h => h) (Or.inl ⟨by rfl, ?_⟩) (by assumption) ?_
            rotate_left 1
            · intro w hSw; (try dsimp only at hSw); go_simp; (try with_reducible rfl)
            try simp only [Act.put, List.setIfInBounds_toArray, List.set_cons_zero, List.set_cons_succ]
            refine wpAnyH_take (i := 25) (v := ?_) (by simp only [List.getElem?_toArray, List.getElem?_cons_succ, List.getElem?_cons_zero]; rfl) (by kernel_rfl) (by kernel_rfl) (by kernel_rfl) (fun _ _ _ h => h) (Or.inl ⟨by rfl, ?_⟩) (by assumption) ?_
            rotate_left 1
            · intro w hSw; (try dsimp only at hSw); go_simp; (try with_reducible rfl)
            try simp only [Act.put, List.setIfInBounds_toArray, List.set_cons_zero, List.set_cons_succ]
            refine wpAnyH_take (i := 26) (v := ?_) (by simp only [List.getElem?_toArray, List.getElem?_cons_succ, List.getElem?_cons_zero]; rfl) (by kernel_rfl) (by kernel_rfl) (by kernel_rfl) (fun _ _ _ h => h) (Or.inl ⟨by rfl, ?_⟩) (by assumption) ?_
            rotate_left 1
            · intro w hSw; (try dsimp only at hSw); go_simp; (try with_reducible rfl)
            try simp only [Act.put, List.setIfInBounds_toArray, List.set_cons_zero, List.set_cons_succ]
            refine wpAnyH_take (i := 27) (v := .pointer (some ⟨gw, ow + j, none⟩)) (by simp only [List.getElem?_toArray, List.getElem?_cons_succ, List.getElem?_cons_zero]; rfl) (by kernel_rfl) (by kernel_rfl) (by kernel_rfl) (fun _ _ _ h => h) (Or.inl ⟨by rfl, ?_⟩) (by assumption) ?_
            · intro w hSw; (try dsimp only at hSw); (try go_simp); ((try rw [if_pos (by omega)]); (try simp); (try (intro h9; omega)))
            try simp only [Act.put, List.setIfInBounds_toArray, List.set_cons_zero, List.set_cons_succ]
            refine wpAnyH_take (i := 28) (v := ?_) (by simp only [List.getElem?_toArray, List.getElem?_cons_succ, List.getElem?_cons_zero]; rfl) (by kernel_rfl) (by kernel_rfl) (by kernel_rfl) (fun _ _ _ h => h) (Or.inl ⟨by rfl, ?_⟩) (by assumption) ?_
            rotate_left 1
            · intro w hSw; (try dsimp only at hSw); go_simp; (try with_reducible rfl)
            try simp only [Act.put, List.setIfInBounds_toArray, List.set_cons_zero, List.set_cons_succ]
            refine wpAnyH_ready (rs := [29]) (by kernel_rfl) (by simp) ?_
            refine AllReadyH.cons (by simp only [List.getElem?_toArray, List.getElem?_cons_succ, List.getElem?_cons_zero]; rfl) (fun K hK => ?_) AllReadyH.nil
            go_simp
            go_at_call 16
            refine Calls.mono (TR.out _ (Below.refl _ _).drew) ?_
            rintro e w6 ⟨rfl, b6⟩
            have B6 : Hid (Below wr.heap.size wr w6) := (Below.refl wr.heap.size wr).drew.trans b6
            clear b6
            clear hHeld
            refine hK.out _ _ (KS.out w6 B6.out) (fun hHeld => ?_)
            clear hK K
            try simp only [Act.put, List.setIfInBounds_toArray, List.set_cons_zero, List.set_cons_succ]
            refine wpAnyH_take (i := 30) (v := ?_) (by simp only [List.getElem?_toArray, List.getElem?_cons_succ, List.getElem?_cons_zero]; rfl) (by kernel_rfl) (by kernel_rfl) (by kernel_rfl) (fun _ _ _ h => h) (Or.inl ⟨by rfl, ?_⟩) (by assumption) ?_
            rotate_left 1
            · intro w hSw; (try dsimp only at hSw); go_simp; (try with_reducible rfl)
            try simp only [Act.put, List.setIfInBounds_toArray, List.set_cons_zero, List.set_cons_succ]
            refine wpAnyH_take (i := 31) (v := ?_) (by simp only [List.getElem?_toArray, List.getElem?_cons_succ, List.getElem?_cons_zero]; rfl) (by kernel_rfl) (by kernel_rfl) (by kernel_rfl) (fun _ _ _ h => h) (Or.inl ⟨by rfl, ?_⟩) (by assumption) ?_
            rotate_left 1
            · intro w hSw; (try dsimp only at hSw); go_simp; (try with_reducible rfl)
            try simp only [Act.put, List.setIfInBounds_toArray, List.set_cons_zero, List.set_cons_succ]
            refine wpAnyH_take (i := 32) (v := ?_) (by simp only [List.getElem?_toArray, List.getElem?_cons_succ, List.getElem?_cons_zero]; rfl) (by kernel_rfl) (by kernel_rfl) (by kernel_rfl) (fun _ _ _ h => h) (Or.inl ⟨by rfl, ?_⟩) (by assumption) ?_
            rotate_left 1
            · intro w hSw; (try dsimp only at hSw); go_simp; (try with_reducible rfl)
            try simp only [Act.put, List.setIfInBounds_toArray, List.set_cons_zero, List.set_cons_succ]
            refine wpAnyH_done (by kernel_rfl) ?_ _
            refine NoPanic.normal ?_
            go_wp2
            go_roundg (m - (j + 1))
            case measure => omega
            case rel => exact ⟨j + 1, hjm, rfl, by go_num, HB.out.trans (B6.out.mono HB.out.size)⟩
        · have AN : Hid (∃ P, As wr B (some ⟨gl, ol, none⟩) (some ⟨gw, ow, none⟩) P Wn m (i + 1) 0 ∧ Kq B P0 w wr P) := ⟨P2, A2.out.below HB.out, BW2.out.on HB.out hB⟩
          go_wp2
          go_roundg (m - (i + 1))
          case measure => omega
          case rel => exact ⟨i + 1, hlt, rfl, by go_num, AN.out⟩
    · obtain rfl : m = i := by omega
      obtain ⟨wS, hwS⟩ : ∃ wS, wS = wr := ⟨_, rfl⟩
      subst hwS
      have A1 := hid hA
      have BW1 := hid hBW
      have hBS : B ≤ wS.heap.size := Nat.le_trans hB hBW.below.size
      have hWS : Hid (w.heap.size ≤ wS.heap.size) := hBW.below.size
      clear hA hBW hlt hi
      go_wp2
      go_loopg [7, 8] m (fun k mv iv W => ∃ (i : Nat) (sx : Option Addr) (cx : Nat), i ≤ m ∧ k = m - i ∧ iv = .int .i64 (i : Int) ∧ mv = .slice sx i cx ∧ Hid (∃ P2, As W B (some ⟨gl, ol, none⟩) (some ⟨gw, ow, none⟩) P2 Wn m m i ∧ P2.map Pr.v = P.map Pr.v ∧ W.ownsRow wS.heap.size 29 1 (.slice sx i cx) i ((P2.take i).map Pr.u) ∧ Kq B P0 w W P2 ∧ wS.heap.size ≤ W.heap.size))
      case atStart => exact ⟨0, none, 0, Nat.zero_le _, rfl, rfl, rfl, P, A1.out, rfl, World.ownsRow_nil _ _ _ _, BW1.out, Nat.le_refl _⟩
      case round =>
        obtain ⟨i, sx, cx, hi, hgk, rfl, rfl, HR2⟩ := hrel
        subst hgk
        obtain ⟨P2, hA, hpv, hom, hBW, hsz2⟩ := HR2.out
        clear HR2
        by_cases hlt : i < m
        · obtain ⟨x, wn, sv, cv, sn, cn, hx, hw, hv, hn, hc, hcn, c1, c2, hl1, hl2⟩ := hA.at_ hlt
          obtain ⟨o1, o2, o3⟩ := hA.one i x wn hx hw
          obtain ⟨o4, o5⟩ := o3 (Nat.le_refl _)
          rw [if_pos hlt] at o1
          have hp := hA.al.pf.pair i x hx
          have how := hp.own
          rw [o4, o5, hv] at how
          have hxl : x.A.length ≤ 65536 := by rw [o1, List.length_map]; exact HSZ.out wn (List.mem_of_getElem? hw)
          have GR := hid (grown_any ((i : Int) + 1) sv x.A.length cv B (bo x.A) wr how (Nat.le_trans hBS hsz2) (by omega))
          have hip : i < P2.length := by rw [hA.len]; exact hlt
          have NX : Hid (∀ w2 u2, Pair w2 B 4 1 (.slice sv x.A.length cv) x.A.length (bo x.A) u2 (x.A.length + 64) (bo x.A ++ bo (gbits ((i : Int) + 1) 64)) → wr.grownBy w2 (Value.slice sv x.A.length cv).ownBlock → (∀ k, u2.ownBlock = some k → (Value.slice sv x.A.length cv).ownBlock = some k ∨ wr.heap.size ≤ k) → ∃ P3, As w2 B (some ⟨gl, ol, none⟩) (some ⟨gw, ow, none⟩) P3 Wn m m (i + 1) ∧ P3.map Pr.v = P.map Pr.v ∧ w2.ownsRow wS.heap.size 29 1 (.slice sx i cx) i ((P2.take i).map Pr.u) ∧ (P3.take (i + 1)).map Pr.u = (P2.take i).map Pr.u ++ [u2] ∧ Kq B P0 w w2 P3 ∧ wS.heap.size ≤ w2.heap.size) := fun w2 u2 p2 g2 cond => by
            have hl3 : (x.A ++ gbits ((i : Int) + 1) 64).length = x.A.length + 64 := by simp [gbits]
            refine ⟨P2.set i ⟨x.v, x.A, u2, x.A ++ gbits ((i : Int) + 1) 64⟩, ⟨hA.al.turn hx rfl ?_ g2 (fun k e => .inl (by rw [hv]; exact e)) (fun k hk => ?_), by rw [List.length_set]; exact hA.len, hA.wlen, fun j z wz hz hwz => ?_⟩, by rw [set_map_v (y := ⟨x.v, x.A, u2, x.A ++ gbits ((i : Int) + 1) 64⟩) hx rfl, hpv], ?_, take_set_u hip, hBW.turn hx g2 hB (fun k e => (ShfKit.own_block how e).1) (fun k e => .inl (by rw [hv]; exact e)) (fun k hk => by
                rcases hk with hk | hk
                · exact .inl (.inl hk)
                · rcases cond k hk with h1 | h1
                  · exact .inl (.inl (by rw [hv]; exact h1))
                  · exact .inr h1), Nat.le_trans hsz2 g2.size⟩
            · show Pair w2 B 4 1 x.v x.A.length (bo x.A) u2 (x.A ++ gbits ((i : Int) + 1) 64).length (bo (x.A ++ gbits ((i : Int) + 1) 64))
              rw [hl3, bo_app, hv]
              exact p2
            · rcases hk with hk | hk
              · exact .inl (.inl hk)
              · rcases cond k hk with h1 | h1
                · exact .inl (.inl (by rw [hv]; exact h1))
                · exact .inr h1
            · rw [List.getElem?_set] at hz
              by_cases e : i = j
              · subst e
                rw [if_pos rfl, if_pos hip] at hz
                cases hz
                rw [hw] at hwz
                cases hwz
                exact ⟨by rw [if_pos hlt]; exact o1, fun _ => rfl, fun h => by omega⟩
              · rw [if_neg e] at hz
                obtain ⟨q1, q2, q3⟩ := hA.one j z wz hz hwz
                exact ⟨q1, fun h => q2 (by omega), fun h => q3 (by omega)⟩
            · exact Go.Proofs.YtfmmmhcpdinhgaaDoor.own_kept hom how g2 (by decide)
          have hi1 : IntKind.i64.wrap ((i : Int) + 1) = (i : Int) + 1 := by rw [IntKind.wrap_i64]; omega
          clear hx hw hv hn hc hcn c2 o1 o2 o3 o4 o5 hp how hA hBW hom hpv hsz2
          go_wp2_with (first
            | (have q := N2; clear q; at_builtin; refine wpl_one rfl _ _ 23 rfl wS.heap.size 29 _ 1 24 Tryd.underlying23 info29 rfl (by decide) (.slice sx i cx) i _ rfl N2.out.choose_spec.2.2.1 [.slice s2 (x.A.length + 64) c2] 29 _ rfl rfl rfl (fun u hu => by simp at hu; subst hu; rfl) (by omega) (by omega) N2.out.choose_spec.2.2.2.2.2 ?_; intro v8 w8 o8 f8; obtain ⟨sy, cy, rfl⟩ := own_shape o8; have O8 := hid o8; have F8 := hid f8; clear o8 f8)
            | (go_at_call 63; refine Calls.mono GR.out ?_; rintro e w2 ⟨u2, rfl, p2, g2, cond⟩; obtain ⟨s2, c2, rfl⟩ := own_shape p2.own; have N2 := hid (NX.out w2 _ p2 g2 cond); clear p2 g2 cond))
          have N8 : Hid (∃ P2, As w8 B (some ⟨gl, ol, none⟩) (some ⟨gw, ow, none⟩) P2 Wn m m (i + 1) ∧ P2.map Pr.v = P.map Pr.v ∧ w8.ownsRow wS.heap.size 29 1 (.slice sy (i + 1) cy) (i + 1) ((P2.take (i + 1)).map Pr.u) ∧ Kq B P0 w w8 P2 ∧ wS.heap.size ≤ w8.heap.size) := by
            obtain ⟨P3, a3, v3, m3, e3, b3, z3⟩ := N2.out
            have ba : Below w2.heap.size w2 (w2.alloc (.cells #[.slice s2 (x.A.length + 64) c2] 29)) := (Below.refl _ _).alloc (Nat.le_refl _) _
            have a4 := a3.below ba
            refine ⟨P3, ⟨A1.out.al.push a4.al v3 (Nat.le_trans z3 ba.size) (ownsRow_below m3 ba) F8.out, a4.len, a4.wlen, a4.one⟩, v3, ?_, (b3.on ba hB).far F8.out hB (fun g hg => Nat.le_trans hWS.out (ShfKit.own_block m3 hg).1), Nat.le_trans z3 (Nat.le_trans ba.size F8.out.size)⟩
            have h9 := O8.out
            rw [e3]
            obtain ⟨P3', a3', v3', m3', e3', b3', z3'⟩ := N2.out
            exact h9
          go_roundg (m - (i + 1))
          case measure => omega
          case rel => exact ⟨i + 1, _, _, hlt, rfl, by go_num, rfl, N8.out⟩
        · obtain rfl : m = i := by omega
          obtain ⟨wE, hwE⟩ : ∃ wE, wE = wr := ⟨_, rfl⟩
          subst hwE
          have hte : P2.take m = P2 := List.take_of_length_le (by rw [hA.len]; exact Nat.le_refl _)
          rw [hte] at hom
          have AE := hid hA
          have OE := hid hom
          have BE := hid hBW
          clear hA hom hBW hpv hte hlt hi hsz2 A1 BW1
          go_wp2
          go_loopg [9] m (fun k iv W => ∃ (i : Nat), i ≤ m ∧ k = m - i ∧ iv = .int .i64 (i : Int) ∧ Hid (Below wE.heap.size wE W))
          case atStart => exact ⟨0, Nat.zero_le _, rfl, rfl, Below.refl _ _⟩
          case round =>
            obtain ⟨i, hi, hgk, rfl, HB⟩ := hrel
            subst hgk
            by_cases hlt : i < m
            · obtain ⟨x, wn, sv, cv, sn, cn, hx, hw, hv, hn, hc, hcn, c1, c2, hl1, hl2⟩ := (AE.out.below HB.out).at_ hlt
              obtain ⟨o1, o2, _⟩ := AE.out.one i x wn hx hw
              rw [if_pos hlt] at o1
              have o6 := o2 hlt
              have hwl : wn.2.length ≤ 65536 := HSZ.out wn (List.mem_of_getElem? hw)
              have hpo := ((AE.out.below HB.out).al.pf.pair i x hx).own
              obtain ⟨su, cu, hsu⟩ := own_shape hpo
              obtain ⟨gm, cm, hvm, _, hgm, cmm, _⟩ := own_cell (ownsRow_below OE.out HB.out) (show (P2.map Pr.u)[i]? = some x.u by rw [List.getElem?_map, hx]; rfl)
              have hsx : sx = some ⟨gm, 0, none⟩ := by
                simp only [Value.slice.injEq] at hvm
                exact hvm.1
              rw [hsu] at cmm hpo
              have e1 : x.A.length = wn.2.length := by rw [o1, List.length_map]
              have e2 : x.M.length = wn.2.length + 64 := by rw [o6, List.length_append, e1]; simp [gbits]
              have KS : Hid (∀ W, Below wr.heap.size wr W → W.cell? ⟨gl, ol + i, none⟩ = some (.slice sv x.A.length cv) ∧ W.cell? ⟨gw, ow + i, none⟩ = some (.slice sn wn.2.length cn) ∧ W.cell? ⟨gm, i, none⟩ = some (.slice su x.M.length cu)) := fun W hW => ⟨(hW.cell (p := ⟨gl, ol + i, none⟩) hl1).trans c1, (hW.cell (p := ⟨gw, ow + i, none⟩) hl2).trans c2, (hW.cell (p := ⟨gm, i, none⟩) hgm).trans cmm⟩
              have FL : Hid (∀ W, Below wr.heap.size wr W → Calls Tryd.prog 35 #[.slice sn wn.2.length cn] W fun e w' => ∃ v, e = .returned v ∧ Mk W w' 4 1 v wn.2.length (bo (wn.2.map not))) := fun W hW => flipped_any wn.2 sn cn W (hcn.below hW) (by omega)
              have TR : Hid (∀ W s5 c5, Below wr.heap.size wr W → CellsAt W s5 (bo (wn.2.map not)) → Calls Tryd.prog 16 #[.slice sv x.A.length cv, .slice s5 wn.2.length c5] W fun e w' => e = .returned (.bool true) ∧ Below W.heap.size W w') := fun W s5 c5 hW h5 => by
                have := truths_true (wn.2.map not) sv s5 cv c5 W (by rw [← o1]; exact hc.below hW) h5 (by simp only [List.length_map]; omega)
                rw [List.length_map] at this
                rw [e1]
                exact this
              have TM : Hid (∀ W s8 c8, Below wr.heap.size wr W → CellsAt W s8 (bo (wn.2.map not) ++ bo (gbits ((i : Int) + 1) 64)) → Calls Tryd.prog 16 #[.slice su x.M.length cu, .slice s8 (wn.2.length + 64) c8] W fun e w' => e = .returned (.bool true) ∧ Below W.heap.size W w') := fun W s8 c8 hW h8 => by
                have := truths_true x.M su s8 cu c8 W ((own_cells4 hpo).below hW) (by rw [o6, o1, bo_app]; exact h8) (by omega)
                rw [e2] at this ⊢
                exact this
              have HSX := hid hsx
              clear hx hw hv hn hc hcn o1 o2 o6 e1 e2 c1 c2 cmm hpo hsu hvm
              go_wp2
              refine wp_region_noPanic ?_
              refine wp_region_held_drew (S := fun W => W.cell? ⟨gl, ol + i, none⟩ = some (.slice sv x.A.length cv) ∧ W.cell? ⟨gw, ow + i, none⟩ = some (.slice sn wn.2.length cn) ∧ W.cell? ⟨gm, i, none⟩ = some (.slice su x.M.length cu)) (by kernel_rfl) (KS.out _ (Below.refl _ _).drew) (fun hHeld => ?_)
              refine wpAnyH_take (i := 0) (v := ?_) (by simp only [List.getElem?_toArray, List.getElem?_cons_zero]; rfl) (by kernel_rfl) (by kernel_rfl) (by kernel_rfl) (fun _ _ _ h => h) (Or.inl ⟨by rfl, ?_⟩) (by assumption) ?_
              rotate_left 1
              · intro w hSw; (try dsimp only at hSw); go_simp; (try with_reducible rfl)
              try simp only [Act.put, List.setIfInBounds_toArray, List.set_cons_zero, List.set_cons_succ]
              refine wpAnyH_take (i := 1) (v := ?_) (by simp only [List.getElem?_toArray, List.getElem?_cons_succ, List.getElem?_cons_zero]; rfl) (by kernel_rfl) (by kernel_rfl) (by kernel_rfl) (fun _ _ _ h => h) (Or.inl ⟨by rfl, ?_⟩) (by assumption) ?_
              rotate_left 1
              · intro w hSw; (try dsimp only at hSw); go_simp; (try with_reducible rfl)
              try simp only [Act.put, List.setIfInBounds_toArray, List.set_cons_zero, List.set_cons_succ]
              refine wpAnyH_take (i := 2) (v := .pointer (some ⟨gl, ol + i, none⟩)) (by simp only [List.getElem?_toArray, List.getElem?_cons_succ, List.getElem?_cons_zero]; rfl) (by kernel_rfl) (by kernel_rfl) (by kernel_rfl) (fun _ _ _ h => h) (Or.inl ⟨by rfl, ?_⟩) (by assumption) ?_
              · intro w hSw; (try dsimp only at hSw); (try go_simp); ((try rw [if_pos (by omega)]); (try simp); (try (intro h9; omega)))
              try simp only [Act.put, List.setIfInBounds_toArray, List.set_cons_zero, List.set_cons_succ]
              refine wpAnyH_take (i := 3) (v := ?_) (by simp only [List.getElem?_toArray, List.getElem?_cons_succ, List.getElem?_cons_zero]; rfl) (by kernel_rfl) (by kernel_rfl) (by kernel_rfl) (fun _ _ _ h => h) (Or.inl ⟨by rfl, ?_⟩) (by assumption) ?_
              rotate_left 1
              · intro w hSw; (try dsimp only at hSw); go_simp; (try with_reducible rfl)
              try simp only [Act.put, List.setIfInBounds_toArray, List.set_cons_zero, List.set_cons_succ]
              refine wpAnyH_take (i := 4) (v := ?_) (by simp only [List.getElem?_toArray, List.getElem?_cons_succ, List.getElem?_cons_zero]; rfl) (by kernel_rfl) (by kernel_rfl) (by kernel_rfl) (fun _ _ _ h => h) (Or.inl ⟨by rfl, ?_⟩) (by assumption) ?_
              rotate_left 1
              · intro w hSw; (try dsimp only at hSw); go_simp; (try with_reducible rfl)
              try simp only [Act.put, List.setIfInBounds_toArray, List.set_cons_zero, List.set_cons_succ]
              refine wpAnyH_take (i := 5) (v := ?_) (by simp only [List.getElem?_toArray, List.getElem?_cons_succ, List.getElem?_cons_zero]; rfl) (by kernel_rfl) (by kernel_rfl) (by kernel_rfl) (fun _ _ _ h => h) (Or.inl ⟨by rfl, ?_⟩) (by assumption) ?_
              rotate_left 1
              · intro w hSw; (try dsimp only at hSw); go_simp; (try with_reducible rfl)
              try simp only [Act.put, List.setIfInBounds_toArray, List.set_cons_zero, List.set_cons_succ]
              refine wpAnyH_take (i := 6) (v := .pointer (some ⟨gw, ow + i, none⟩)) (by simp only [List.getElem?_toArray, List.getElem?_cons_succ, List.getElem?_cons_zero]; rfl) (by kernel_rfl) (by kernel_rfl) (by kernel_rfl) (fun _ _ _ h => h) (Or.inl ⟨by rfl, ?_⟩) (by assumption) ?_
              · intro w hSw; (try dsimp only at hSw); (try go_simp); ((try rw [if_pos (by omega)]); (try simp); (try (intro h9; omega)))
              try simp only [Act.put, List.setIfInBounds_toArray, List.set_cons_zero, List.set_cons_succ]
              refine wpAnyH_take (i := 7) (v := ?_) (by simp only [List.getElem?_toArray, List.getElem?_cons_succ, List.getElem?_cons_zero]; rfl) (by kernel_rfl) (by kernel_rfl) (by kernel_rfl) (fun _ _ _ h => h) (Or.inl ⟨by rfl, ?_⟩) (by assumption) ?_
              rotate_left 1
              · intro w hSw; (try dsimp only at hSw); go_simp; (try with_reducible rfl)
              try simp only [Act.put, List.setIfInBounds_toArray, List.set_cons_zero, List.set_cons_succ]
              refine wpAnyH_ready (rs := [8]) (by kernel_rfl) (by simp) ?_
              refine AllReadyH.cons (by simp only [List.getElem?_toArray, List.getElem?_cons_succ, List.getElem?_cons_zero]; rfl) (fun K hK => ?_) AllReadyH.nil
              go_simp
              go_at_call 35
              refine Calls.mono (FL.out _ (Below.refl _ _).drew) ?_
              rintro e w5 ⟨v5, rfl, hm5⟩
              obtain ⟨s5, c5, rfl⟩ := own_shape hm5.own
              have B5 : Hid (Below wr.heap.size wr w5) := (Below.refl wr.heap.size wr).drew.trans hm5.below
              have O5 := hid hm5.own
              clear hm5
              clear hHeld
              refine hK.out _ _ (KS.out w5 B5.out) (fun hHeld => ?_)
              clear hK K
              try simp only [Act.put, List.setIfInBounds_toArray, List.set_cons_zero, List.set_cons_succ]
              refine wpAnyH_ready (rs := [9]) (by kernel_rfl) (by simp) ?_
              refine AllReadyH.cons (by simp only [List.getElem?_toArray, List.getElem?_cons_succ, List.getElem?_cons_zero]; rfl) (fun K hK => ?_) AllReadyH.nil
              go_simp
              go_at_call 16
              refine Calls.mono (TR.out w5 s5 c5 B5.out (own_cells4 O5.out)) ?_
              rintro e w6 ⟨rfl, b6⟩
              have B6 : Hid (Below wr.heap.size wr w6) := B5.out.trans (b6.mono B5.out.size)
              clear b6
              clear hHeld
              refine hK.out _ _ (KS.out w6 B6.out) (fun hHeld => ?_)
              clear hK K
              try simp only [Act.put, List.setIfInBounds_toArray, List.set_cons_zero, List.set_cons_succ]
              refine wpAnyH_take (i := 10) (v := ?_) (by simp only [List.getElem?_toArray, List.getElem?_cons_succ, List.getElem?_cons_zero]; rfl) (by kernel_rfl) (by kernel_rfl) (by kernel_rfl) (fun _ _ _ h => h) (Or.inl ⟨by rfl, ?_⟩) (by assumption) ?_
              rotate_left 1
              · intro w hSw; (try dsimp only at hSw); go_simp; (try with_reducible rfl)
              try simp only [Act.put, List.setIfInBounds_toArray, List.set_cons_zero, List.set_cons_succ]
              refine wpAnyH_take (i := 11) (v := ?_) (by simp only [List.getElem?_toArray, List.getElem?_cons_succ, List.getElem?_cons_zero]; rfl) (by kernel_rfl) (by kernel_rfl) (by kernel_rfl) (fun _ _ _ h => h) (Or.inl ⟨by rfl, ?_⟩) (by assumption) ?_
              rotate_left 1
              · intro w hSw; (try dsimp only at hSw); go_simp; (try with_reducible rfl)
              try simp only [Act.put, List.setIfInBounds_toArray, List.set_cons_zero, List.set_cons_succ]
              refine wpAnyH_take (i := 12) (v := ?_) (by simp only [List.getElem?_toArray, List.getElem?_cons_succ, List.getElem?_cons_zero]; rfl) (by kernel_rfl) (by kernel_rfl) (by kernel_rfl) (fun _ _ _ h => h) (Or.inl ⟨by rfl, ?_⟩) (by assumption) ?_
              rotate_left 1
              · intro w hSw; (try dsimp only at hSw); go_simp; (try with_reducible rfl)
              try simp only [Act.put, List.setIfInBounds_toArray, List.set_cons_zero, List.set_cons_succ]
              refine wpAnyH_take (i := 13) (v := ?_) (by simp only [List.getElem?_toArray, List.getElem?_cons_succ, List.getElem?_cons_zero]; rfl) (by kernel_rfl) (by kernel_rfl) (by kernel_rfl) (fun _ _ _ h => h) (Or.inl ⟨by rfl, ?_⟩) (by assumption) ?_
              rotate_left 1
              · intro w hSw; (try dsimp only at hSw); go_simp; (try with_reducible rfl)
              try simp only [Act.put, List.setIfInBounds_toArray, List.set_cons_zero, List.set_cons_succ]
              refine wpAnyH_take (i := 14) (v := .pointer (some ⟨gm, i, none⟩)) (by simp only [List.getElem?_toArray, List.getElem?_cons_succ, List.getElem?_cons_zero]; rfl) (by kernel_rfl) (by kernel_rfl) (by kernel_rfl) (fun _ _ _ h => h) (Or.inl ⟨by rfl, ?_⟩) (by assumption) ?_
              · intro w hSw; (try dsimp only at hSw); (try go_simp); ((try rw [if_pos (by omega)]); (try simp); (try (intro h9; omega)))
              try simp only [Act.put, List.setIfInBounds_toArray, List.set_cons_zero, List.set_cons_succ]
              refine wpAnyH_take (i := 15) (v := ?_) (by simp only [List.getElem?_toArray, List.getElem?_cons_succ, List.getElem?_cons_zero]; rfl) (by kernel_rfl) (by kernel_rfl) (by kernel_rfl) (fun _ _ _ h => h) (Or.inl ⟨by rfl, ?_⟩) (by assumption) ?_
              rotate_left 1
              · intro w hSw; (try dsimp only at hSw); go_simp; (try with_reducible rfl)
              try simp only [Act.put, List.setIfInBounds_toArray, List.set_cons_zero, List.set_cons_succ]
              refine wpAnyH_take (i := 16) (v := ?_) (by simp only [List.getElem?_toArray, List.getElem?_cons_succ, List.getElem?_cons_zero]; rfl) (by kernel_rfl) (by kernel_rfl) (by kernel_rfl) (fun _ _ _ h => h) (Or.inl ⟨by rfl, ?_⟩) (by assumption) ?_
              rotate_left 1
              · intro w hSw; (try dsimp only at hSw); go_simp; (try with_reducible rfl)
              try simp only [Act.put, List.setIfInBounds_toArray, List.set_cons_zero, List.set_cons_succ]
              refine wpAnyH_take (i := 17) (v := ?_) (by simp only [List.getElem?_toArray, List.getElem?_cons_succ, List.getElem?_cons_zero]; rfl) (by kernel_rfl) (by kernel_rfl) (by kernel_rfl) (fun _ _ _ h => h) (Or.inl ⟨by rfl, ?_⟩) (by assumption) ?_
              rotate_left 1
              · intro w hSw; (try dsimp only at hSw); go_simp; (try with_reducible rfl)
              try simp only [Act.put, List.setIfInBounds_toArray, List.set_cons_zero, List.set_cons_succ]
              refine wpAnyH_take (i := 18) (v := .pointer (some ⟨gw, ow + i, none⟩)) (by simp only [List.getElem?_toArray, List.getElem?_cons_succ, List.getElem?_cons_zero]; rfl) (by kernel_rfl) (by kernel_rfl) (by kernel_rfl) (fun _ _ _ h => h) (Or.inl ⟨by rfl, ?_⟩) (by assumption) ?_
              · intro w hSw; (try dsimp only at hSw); (try go_simp); ((try rw [if_pos (by omega)]); (try simp); (try (intro h9; omega)))
              try simp only [Act.put, List.setIfInBounds_toArray, List.set_cons_zero, List.set_cons_succ]
              refine wpAnyH_take (i := 19) (v := ?_) (by simp only [List.getElem?_toArray, List.getElem?_cons_succ, List.getElem?_cons_zero]; rfl) (by kernel_rfl) (by kernel_rfl) (by kernel_rfl) (fun _ _ _ h => h) (Or.inl ⟨by rfl, ?_⟩) (by assumption) ?_
              rotate_left 1
              · intro w hSw; (try dsimp only at hSw); go_simp; (try with_reducible rfl)
              try simp only [Act.put, List.setIfInBounds_toArray, List.set_cons_zero, List.set_cons_succ]
              refine wpAnyH_take (i := 21) (v := ?_) (by simp only [List.getElem?_toArray, List.getElem?_cons_succ, List.getElem?_cons_zero]; rfl) (by kernel_rfl) (by kernel_rfl) (by kernel_rfl) (fun _ _ _ h => h) (Or.inl ⟨by rfl, ?_⟩) (by assumption) ?_
              rotate_left 1
              · intro w hSw; (try dsimp only at hSw); go_simp; (try with_reducible rfl)
              try simp only [Act.put, List.setIfInBounds_toArray, List.set_cons_zero, List.set_cons_succ]
              refine wpAnyH_take (i := 22) (v := .int .i64 ((i : Int) + 1)) (by simp only [List.getElem?_toArray, List.getElem?_cons_succ, List.getElem?_cons_zero]; rfl) (by kernel_rfl) (by kernel_rfl) (by kernel_rfl) (fun _ _ _ h => h) (Or.inl ⟨by rfl, ?_⟩) (by assumption) ?_
              · intro w hSw; (try dsimp only at hSw); (try go_simp); ((try rw [IntKind.wrap_i64]); (try omega))
              try simp only [Act.put, List.setIfInBounds_toArray, List.set_cons_zero, List.set_cons_succ]
              refine wpAnyH_ready (rs := [20]) (by kernel_rfl) (by simp) ?_
              refine AllReadyH.cons (by simp only [List.getElem?_toArray, List.getElem?_cons_succ, List.getElem?_cons_zero]; rfl) (fun K hK => ?_) AllReadyH.nil
              go_simp
              go_at_call 35
              refine Calls.mono (FL.out w6 B6.out) ?_
              rintro e w7 ⟨v7, rfl, hm7⟩
              obtain ⟨s7, c7, rfl⟩ := own_shape hm7.own
              have B7 : Hid (Below wr.heap.size wr w7) := B6.out.trans (hm7.below.mono B6.out.size)
              have O7 := hid hm7.own
              have S67 : Hid (w6.heap.size ≤ w7.heap.size) := hm7.below.size
              clear hm7
              clear hHeld
              refine hK.out _ _ (KS.out w7 B7.out) (fun hHeld => ?_)
              clear hK K
              try simp only [Act.put, List.setIfInBounds_toArray, List.set_cons_zero, List.set_cons_succ]
              refine wpAnyH_ready (rs := [23]) (by kernel_rfl) (by simp) ?_
              refine AllReadyH.cons (by simp only [List.getElem?_toArray, List.getElem?_cons_succ, List.getElem?_cons_zero]; rfl) (fun K hK => ?_) AllReadyH.nil
              go_simp
              go_at_call 63
              refine Calls.mono (grown_any ((i : Int) + 1) s7 _ c7 w6.heap.size _ w7 O7.out S67.out (by omega)) ?_
              rintro e w8 ⟨u8, rfl, p8, g8, _⟩
              obtain ⟨s8, c8, rfl⟩ := own_shape p8.own
              have B8 : Hid (Below wr.heap.size wr w8) := B7.out.grown g8 B7.out.size (fun k e => Nat.le_trans B6.out.size (ShfKit.own_block O7.out e).1)
              have O8 := hid p8.own
              clear p8 g8
              clear hHeld
              refine hK.out _ _ (KS.out w8 B8.out) (fun hHeld => ?_)
              clear hK K
              try simp only [Act.put, List.setIfInBounds_toArray, List.set_cons_zero, List.set_cons_succ]
              refine wpAnyH_ready (rs := [24]) (by kernel_rfl) (by simp) ?_
              refine AllReadyH.cons (by simp only [List.getElem?_toArray, List.getElem?_cons_succ, List.getElem?_cons_zero]; rfl) (fun K hK => ?_) AllReadyH.nil
              go_simp
              go_at_call 16
              refine Calls.mono (TM.out w8 s8 c8 B8.out (own_cells4 O8.out)) ?_
              rintro e w9 ⟨rfl, b9⟩
              have B9 : Hid (Below wr.heap.size wr w9) := B8.out.trans (b9.mono B8.out.size)
              clear b9
              clear hHeld
              refine hK.out _ _ (KS.out w9 B9.out) (fun hHeld => ?_)
              clear hK K
              try simp only [Act.put, List.setIfInBounds_toArray, List.set_cons_zero, List.set_cons_succ]
              refine wpAnyH_take (i := 25) (v := ?_) (by simp only [List.getElem?_toArray, List.getElem?_cons_succ, List.getElem?_cons_zero]; rfl) (by kernel_rfl) (by kernel_rfl) (by kernel_rfl) (fun _ _ _ h => h) (Or.inl ⟨by rfl, ?_⟩) (by assumption) ?_
              rotate_left 1
              · intro w hSw; (try dsimp only at hSw); go_simp; (try with_reducible rfl)
              try simp only [Act.put, List.setIfInBounds_toArray, List.set_cons_zero, List.set_cons_succ]
              refine wpAnyH_take (i := 26) (v := ?_) (by simp only [List.getElem?_toArray, List.getElem?_cons_succ, List.getElem?_cons_zero]; rfl) (by kernel_rfl) (by kernel_rfl) (by kernel_rfl) (fun _ _ _ h => h) (Or.inl ⟨by rfl, ?_⟩) (by assumption) ?_
              rotate_left 1
              · intro w hSw; (try dsimp only at hSw); go_simp; (try with_reducible rfl)
              try simp only [Act.put, List.setIfInBounds_toArray, List.set_cons_zero, List.set_cons_succ]
              refine wpAnyH_done (by kernel_rfl) ?_ _
              refine NoPanic.normal ?_
              go_wp2
              (try rw [← HSX.out])
              go_roundg (m - (i + 1))
              case measure => omega
              case rel => exact ⟨i + 1, hlt, rfl, by go_num, HB.out.trans (B9.out.mono HB.out.size)⟩
            · go_wp2
              go_ret
              exact ⟨rfl, (BE.out.on HB.out hB).below, (BE.out.on HB.out hB).keep⟩
end Go.Proofs.YtfmmmhcpdinhgaaDoor
