import Derived.Test.YtcpncfngadablaaGreatDoorZ27
/-
  The shelf's holds.
-/
namespace Go.Proofs.YtcpncfngadablaaGreatDoor
open Go.RowKit Go.Deep ShfKit
set_option maxRecDepth 100000

/-- a list of bytes holds its mark. -/
theorem Sp.filled {w W : World} {S0 S : Sg} {i : Nat} {x : Rw} (h : Sp w W S0 S) (hx : S.Lb[i]? = some x) (hm : MkG i x) :
    Calls Tryz.prog 77 #[x.1, .int .i64 ((i : Int) + 1)] W fun e W' => e = .returned (.bool true) ∧ Below W.heap.size W W' := by
  have ho := h.at_.fb.own i x hx
  rcases ho.2 with ⟨_, h0⟩ | ⟨g, cap, cur, hv, _, hr, hnc, hcm, hcs, htk⟩
  · have := hm.1
    omega
  rw [Nat.mul_one] at hcs htk
  rw [hv]
  refine (filled_row (w := W) (g := g) (m := x.2.1) (c := cap) ((i : Int) + 1) hr (by omega) hm.1 (fun j hj => ?_) (by have := hm.2.1; omega)).mono ?_
  · have h2 := hm.2.2 j hj
    rw [← htk, List.getElem?_take_of_lt hj] at h2
    simpa using h2
  · rintro e W' ⟨rfl, ht⟩
    exact ⟨rfl, ht.below (Nat.le_refl _) (by simp)⟩

set_option maxHeartbeats 4000000 in
theorem holds_any {w : World} {S : Sg} {M p nb nt ns it is : Nat} (h : ShelfAt w S) (hp : Ph MkG (QH 1 M it 0) (QH 3 M is 0) S) (hpp : p = S.p) (hnb : nb = S.Lb.length) (hnt : nt = S.Lt.length) (hns : ns = S.Ls.length) (hM : M ≤ 1073741824) (hb : nb ≤ 1073741824) (ht : nt ≤ 1073741824) (hs : ns ≤ 1073741824) :
    Calls Tryz.prog 45 #[.pointer (some ⟨p, 0, none⟩)] w fun e W => e = .returned (.bool true) ∧ Below w.heap.size w W := by
  have HP := hid hpp
  have HNB := hid hnb
  have HNT := hid hnt
  have HNS := hid hns
  have SP0 : Hid (Sp w w S S) := ⟨h, Moved.refl _ _, rfl, rfl, rfl, rfl⟩
  have HPH := hid hp
  clear h hp hpp hnb hnt hns
  go_enter Tryz.func45, Tryz.ntmps45
  go_wp2_with fail
  go_loopw [3] (fun iv W => Hid (∃ (i : Nat), iv = .int .i64 (i : Int) ∧ i ≤ nb ∧ Below w.heap.size w W)) (fun iv _ => match iv with | .int _ i => nb + 1 - i.toNat | _ => 0)
  case atStart => exact ⟨0, rfl, Nat.zero_le _, Below.refl _ _⟩

  case round =>
    obtain ⟨W1, hW1⟩ : ∃ W1, W1 = wr := ⟨_, rfl⟩
    rw [← hW1] at hrel ⊢
    clear hW1
    obtain ⟨i, rfl, hin, hbw⟩ := hrel.out
    clear hrel
    have BW := hid hbw
    have hsp := SP0.out.below hbw
    have c0 := hsp.cell.1
    rw [← HP.out] at c0
    obtain ⟨sa, ca, hbv⟩ := sh_slice hsp.at_.rb
    rw [← HNB.out] at hbv
    rw [hbv] at c0
    clear hbw

    rcases Nat.lt_or_eq_of_le hin with hlt | hlt
    · obtain ⟨x, hx⟩ : ∃ x, S.Lb[i]? = some x := ⟨_, List.getElem?_eq_getElem (by rw [← HNB.out]; exact hlt)⟩
      obtain ⟨gb, cb, hbv2, hgb, c1, _⟩ := hsp.bcell hx
      rw [hbv, ← HNB.out] at hbv2
      simp only [Value.slice.injEq, true_and] at hbv2
      obtain ⟨rfl, rfl⟩ := hbv2
      have HF := hid (hsp.filled hx (HPH.out.lb i x hx))
      obtain ⟨xv, hxv⟩ : ∃ xv, xv = x.1 := ⟨_, rfl⟩
      rw [← hxv] at HF c1
      have hlt1 : (i : Int) < (nb : Int) := by omega
      have V1 : IntKind.i64.wrap ((i : Int) + 1) = (i : Int) + 1 := by rw [IntKind.wrap_i64]; omega
      clear hsp hx hxv hbv
      go_wp2_with (go_at_call 77; refine HF.out.mono ?_; rintro e W2 ⟨rfl, b2⟩; have B2 : Hid (Below w.heap.size w W2) := BW.out.trans (b2.mono BW.out.size); clear b2)
      clear V1
      refine ⟨⟨i + 1, by go_num, by omega, B2.out⟩, ?_⟩
      show nb + 1 - ((i : Int) + 1).toNat < nb + 1 - (i : Int).toNat
      omega
    · have hlt1 : ¬ (i : Int) < (nb : Int) := by omega
      clear hsp hbv hin
      have hl9 := hlt.symm
      clear hlt
      subst hl9
      go_wp2_with fail
      clear c0 hlt1
      go_loopw [4, 5] (fun iv _ W => Hid (∃ (i : Nat), iv = .int .i64 (i : Int) ∧ i ≤ nt ∧ Below w.heap.size w W)) (fun iv _ _ => match iv with | .int _ i => nt + 1 - i.toNat | _ => 0)
      case atStart => exact ⟨0, rfl, Nat.zero_le _, BW.out⟩

      case round =>
        clear BW
        obtain ⟨W1, hW1⟩ : ∃ W1, W1 = wr := ⟨_, rfl⟩
        rw [← hW1] at hrel ⊢
        clear hW1
        obtain ⟨i, rfl, hin, hbw⟩ := hrel.out
        clear hrel
        have BW := hid hbw
        have hsp := SP0.out.below hbw
        have c0 := hsp.cell.2.1
        rw [← HP.out] at c0
        obtain ⟨sa, ca, hbv⟩ := sh_slice hsp.at_.rt
        rw [← HNT.out] at hbv
        rw [hbv] at c0
        clear hbw

        rcases Nat.lt_or_eq_of_le hin with hlt | hlt
        · obtain ⟨x, hx⟩ : ∃ x, S.Lt[i]? = some x := ⟨_, List.getElem?_eq_getElem (by rw [← HNT.out]; exact hlt)⟩
          obtain ⟨gb, cb, hbv2, hgb, c1, _⟩ := hsp.tcell hx
          rw [hbv, ← HNT.out] at hbv2
          simp only [Value.slice.injEq, true_and] at hbv2
          obtain ⟨rfl, rfl⟩ := hbv2
          obtain ⟨n, hn⟩ : ∃ n, n = x.2.1 := ⟨_, rfl⟩
          obtain ⟨sx, cx, hsx⟩ := sh_slice (hsp.at_.ft.own i x hx)
          rw [← hn] at hsx
          rw [hsx] at c1
          have hnm : Nm 1 i n x ∧ n ≤ M + 64 := by rw [hn]; exact ⟨(HPH.out.lt i x hx).1, (HPH.out.lt i x hx).2.1⟩
          have HNM := hid hnm.1
          have hnM := hnm.2
          have HX := hid hx
          have HSX := hid hsx
          have HN0 := hid hn
          have HBV := hid hbv
          have hlt1 : (i : Int) < (nt : Int) := by omega
          have V1 : IntKind.i64.wrap ((i : Int) + 1) = (i : Int) + 1 := by rw [IntKind.wrap_i64]; omega
          clear hsp hx hn hsx hbv hnm
          go_wp2_with fail
          go_loopw [5] (fun kv W => Hid (∃ (k : Nat), kv = .int .i64 (k : Int) ∧ k ≤ n ∧ Below w.heap.size w W)) (fun kv _ => match kv with | .int _ k => n + 1 - k.toNat | _ => 0)
          case atStart => exact ⟨0, rfl, Nat.zero_le _, BW.out⟩
          case round =>
            clear BW c0 c1 hgb
            obtain ⟨W2, hW2⟩ : ∃ W2, W2 = wr := ⟨_, rfl⟩
            rw [← hW2] at hrel ⊢
            clear hW2
            obtain ⟨k, rfl, hkn, hbw⟩ := hrel.out
            clear hrel
            have BW := hid hbw
            have hsp := SP0.out.below hbw
            have c0 := hsp.cell.2.1
            rw [← HP.out, HBV.out] at c0
            obtain ⟨gb2, cb2, hbv2, hgb, c1, _⟩ := hsp.tcell HX.out
            rw [HBV.out] at hbv2
            simp only [Value.slice.injEq, Option.some.injEq, Addr.mk.injEq] at hbv2
            obtain ⟨⟨rfl, -⟩, -, -⟩ := hbv2
            rw [HSX.out] at c1
            rcases Nat.lt_or_eq_of_le hkn with hklt | hklt
            · have hz := HNM.out k hklt
              obtain ⟨g, c, hv, _, hg, cz, _⟩ := own_cell (hsp.at_.ft.own i x HX.out) hz
              rw [HSX.out, ← HN0.out] at hv
              simp only [Value.slice.injEq, true_and] at hv
              obtain ⟨rfl, rfl⟩ := hv
              have KS : Hid (∀ W', Below W2.heap.size W2 W' → W'.cell? ⟨p, 1, none⟩ = some (.slice (some ⟨gb, 0, none⟩) nt ca) ∧ W'.cell? ⟨gb, i, none⟩ = some (.slice (some ⟨g, 0, none⟩) n cx) ∧ W'.cell? ⟨g, k, none⟩ = some (encStr (th i))) := fun W' hb => by
                have hpl := lt_of_block hsp.at_.row
                rw [← HP.out] at hpl
                exact ⟨(hb.cell (p := ⟨p, 1, none⟩) hpl).trans c0, (hb.cell (p := ⟨gb, i, none⟩) hgb).trans c1, (hb.cell (p := ⟨g, k, none⟩) hg).trans (by rw [Nat.mul_one] at cz; exact cz)⟩
              have hklt1 : (k : Int) < (n : Int) := by omega
              have V2 : IntKind.i64.wrap ((k : Int) + 1) = (k : Int) + 1 := by rw [IntKind.wrap_i64]; omega
              have i0 : (0 : Int) ≤ (i : Int) := by omega
              have k0 : (0 : Int) ≤ (k : Int) := by omega
              clear hsp hbw hz cz hg
              go_wp2_with fail
              refine wp_region_noPanic ?_
              refine wp_region_held_drew (S := fun W => W.cell? ⟨p, 1, none⟩ = some (.slice (some ⟨gb, 0, none⟩) nt ca) ∧ W.cell? ⟨gb, i, none⟩ = some (.slice (some ⟨g, 0, none⟩) n cx) ∧ W.cell? ⟨g, k, none⟩ = some (encStr (th i))) (by kernel_rfl) (KS.out _ (Below.refl _ _).drew) (fun hHeld => ?_)
              refine wpAnyH_take (i := 0) (v := ?_) (by simp only [List.getElem?_toArray, List.getElem?_cons_zero]; rfl) (by kernel_rfl) (by kernel_rfl) (by kernel_rfl) (fun _ _ _ h => h) (Or.inl ⟨by rfl, ?_⟩) (by assumption) ?_
              rotate_left 1
              · intro w hSw; (try dsimp only at hSw); go_simp; (try with_reducible rfl)
              try simp only [Act.put, List.setIfInBounds_toArray, List.set_cons_zero, List.set_cons_succ]
              refine wpAnyH_take (i := 1) (v := ?_) (by simp only [List.getElem?_toArray, List.getElem?_cons_succ, List.getElem?_cons_zero]; rfl) (by kernel_rfl) (by kernel_rfl) (by kernel_rfl) (fun _ _ _ h => h) (Or.inl ⟨by rfl, ?_⟩) (by assumption) ?_
              rotate_left 1
              · intro w hSw; (try dsimp only at hSw); go_simp; (try with_reducible rfl)
              try simp only [Act.put, List.setIfInBounds_toArray, List.set_cons_zero, List.set_cons_succ]
              refine wpAnyH_take (i := 2) (v := ?_) (by simp only [List.getElem?_toArray, List.getElem?_cons_succ, List.getElem?_cons_zero]; rfl) (by kernel_rfl) (by kernel_rfl) (by kernel_rfl) (fun _ _ _ h => h) (Or.inl ⟨by rfl, ?_⟩) (by assumption) ?_
              rotate_left 1
              · intro w hSw; (try dsimp only at hSw); go_simp; (try with_reducible rfl)
              try simp only [Act.put, List.setIfInBounds_toArray, List.set_cons_zero, List.set_cons_succ]
              refine wpAnyH_take (i := 3) (v := ?_) (by simp only [List.getElem?_toArray, List.getElem?_cons_succ, List.getElem?_cons_zero]; rfl) (by kernel_rfl) (by kernel_rfl) (by kernel_rfl) (fun _ _ _ h => h) (Or.inl ⟨by rfl, ?_⟩) (by assumption) ?_
              rotate_left 1
              · intro w hSw; (try dsimp only at hSw); go_simp; (try with_reducible rfl)
              try simp only [Act.put, List.setIfInBounds_toArray, List.set_cons_zero, List.set_cons_succ]
              refine wpAnyH_take (i := 4) (v := ?_) (by simp only [List.getElem?_toArray, List.getElem?_cons_succ, List.getElem?_cons_zero]; rfl) (by kernel_rfl) (by kernel_rfl) (by kernel_rfl) (fun _ _ _ h => h) (Or.inl ⟨by rfl, ?_⟩) (by assumption) ?_
              rotate_left 1
              · intro w hSw; (try dsimp only at hSw); go_simp; (try with_reducible rfl)
              try simp only [Act.put, List.setIfInBounds_toArray, List.set_cons_zero, List.set_cons_succ]
              refine wpAnyH_take (i := 5) (v := ?_) (by simp only [List.getElem?_toArray, List.getElem?_cons_succ, List.getElem?_cons_zero]; rfl) (by kernel_rfl) (by kernel_rfl) (by kernel_rfl) (fun _ _ _ h => h) (Or.inl ⟨by rfl, ?_⟩) (by assumption) ?_
              rotate_left 1
              · intro w hSw; (try dsimp only at hSw); go_simp; (try with_reducible rfl)
              try simp only [Act.put, List.setIfInBounds_toArray, List.set_cons_zero, List.set_cons_succ]
              refine wpAnyH_take (i := 6) (v := ?_) (by simp only [List.getElem?_toArray, List.getElem?_cons_succ, List.getElem?_cons_zero]; rfl) (by kernel_rfl) (by kernel_rfl) (by kernel_rfl) (fun _ _ _ h => h) (Or.inl ⟨by rfl, ?_⟩) (by assumption) ?_
              rotate_left 1
              · intro w hSw; (try dsimp only at hSw); go_simp; (try with_reducible rfl)
              try simp only [Act.put, List.setIfInBounds_toArray, List.set_cons_zero, List.set_cons_succ]
              refine wpAnyH_take (i := 7) (v := ?_) (by simp only [List.getElem?_toArray, List.getElem?_cons_succ, List.getElem?_cons_zero]; rfl) (by kernel_rfl) (by kernel_rfl) (by kernel_rfl) (fun _ _ _ h => h) (Or.inl ⟨by rfl, ?_⟩) (by assumption) ?_
              rotate_left 1
              · intro w hSw; (try dsimp only at hSw); go_simp; (try with_reducible rfl)
              try simp only [Act.put, List.setIfInBounds_toArray, List.set_cons_zero, List.set_cons_succ]
              refine wpAnyH_take (i := 8) (v := ?_) (by simp only [List.getElem?_toArray, List.getElem?_cons_succ, List.getElem?_cons_zero]; rfl) (by kernel_rfl) (by kernel_rfl) (by kernel_rfl) (fun _ _ _ h => h) (Or.inl ⟨by rfl, ?_⟩) (by assumption) ?_
              rotate_left 1
              · intro w hSw; (try dsimp only at hSw); go_simp; (try with_reducible rfl)
              try simp only [Act.put, List.setIfInBounds_toArray, List.set_cons_zero, List.set_cons_succ]
              refine wpAnyH_take (i := 9) (v := ?_) (by simp only [List.getElem?_toArray, List.getElem?_cons_succ, List.getElem?_cons_zero]; rfl) (by kernel_rfl) (by kernel_rfl) (by kernel_rfl) (fun _ _ _ h => h) (Or.inl ⟨by rfl, ?_⟩) (by assumption) ?_
              rotate_left 1
              · intro w hSw; (try dsimp only at hSw); go_simp; (try with_reducible rfl)
              try simp only [Act.put, List.setIfInBounds_toArray, List.set_cons_zero, List.set_cons_succ]
              refine wpAnyH_take (i := 10) (v := ?_) (by simp only [List.getElem?_toArray, List.getElem?_cons_succ, List.getElem?_cons_zero]; rfl) (by kernel_rfl) (by kernel_rfl) (by kernel_rfl) (fun _ _ _ h => h) (Or.inl ⟨by rfl, ?_⟩) (by assumption) ?_
              rotate_left 1
              · intro w hSw; (try dsimp only at hSw); go_simp; (try with_reducible rfl)
              try simp only [Act.put, List.setIfInBounds_toArray, List.set_cons_zero, List.set_cons_succ]
              refine wpAnyH_ready (rs := [11]) (by kernel_rfl) (by simp) ?_
              refine AllReadyH.cons (by simp only [List.getElem?_toArray, List.getElem?_cons_succ, List.getElem?_cons_zero]; rfl) (fun K hK => ?_) AllReadyH.nil
              go_simp
              go_at_call 44
              refine Calls.mono (three_any (i : Int)) ?_
              rintro e W3 ⟨rfl, ht3⟩
              have B3 : Hid (Below W2.heap.size W2 W3) := (Below.refl _ _).drew.trans (ht3.below (Nat.le_refl _) (by simp))
              clear ht3
              clear hHeld
              refine hK.out _ _ (KS.out _ B3.out) (fun hHeld => ?_)
              clear hK K
              try simp only [Act.put, List.setIfInBounds_toArray, List.set_cons_zero, List.set_cons_succ]
              refine wpAnyH_take (i := 12) (v := .bool false) (by simp only [List.getElem?_toArray, List.getElem?_cons_succ, List.getElem?_cons_zero]; rfl) (by kernel_rfl) (by kernel_rfl) (by kernel_rfl) (fun _ _ _ h => h) (Or.inl ⟨by rfl, ?_⟩) (by assumption) ?_
              · intro w hSw; (try dsimp only at hSw); (try go_simp); (first | done | (with_reducible rfl) | simp | skip)
              try simp only [Act.put, List.setIfInBounds_toArray, List.set_cons_zero, List.set_cons_succ]
              refine wpAnyH_done (by kernel_rfl) ?_ _
              refine NoPanic.normal ?_
              have B4 : Hid (Below w.heap.size w W3) := BW.out.trans (B3.out.mono BW.out.size)
              go_wp2_with fail
              clear V1 V2
              refine ⟨⟨k + 1, by go_num, by omega, B4.out⟩, ?_⟩
              show n + 1 - ((k : Int) + 1).toNat < n + 1 - (k : Int).toNat
              omega
            · have hklt1 : ¬ (k : Int) < (n : Int) := by omega
              clear hsp hbw
              go_wp2_with fail
              clear V1
              refine ⟨⟨i + 1, by go_num, by omega, BW.out⟩, ?_⟩
              show nt + 1 - ((i : Int) + 1).toNat < nt + 1 - (i : Int).toNat
              omega
        · have hlt1 : ¬ (i : Int) < (nt : Int) := by omega
          clear hsp hbv hin
          have hl9 := hlt.symm
          clear hlt
          subst hl9
          go_wp2_with fail
          clear c0 hlt1
          go_loopw [6, 7] (fun iv _ W => Hid (∃ (i : Nat), iv = .int .i64 (i : Int) ∧ i ≤ ns ∧ Below w.heap.size w W)) (fun iv _ _ => match iv with | .int _ i => ns + 1 - i.toNat | _ => 0)
          case atStart => exact ⟨0, rfl, Nat.zero_le _, BW.out⟩

          case round =>
            clear BW
            obtain ⟨W1, hW1⟩ : ∃ W1, W1 = wr := ⟨_, rfl⟩
            rw [← hW1] at hrel ⊢
            clear hW1
            obtain ⟨i, rfl, hin, hbw⟩ := hrel.out
            clear hrel
            have BW := hid hbw
            have hsp := SP0.out.below hbw
            have c0 := hsp.cell.2.2
            rw [← HP.out] at c0
            obtain ⟨sa, ca, hbv⟩ := sh_slice hsp.at_.rs
            rw [← HNS.out] at hbv
            rw [hbv] at c0
            clear hbw

            rcases Nat.lt_or_eq_of_le hin with hlt | hlt
            · obtain ⟨⟨q, x⟩, hx⟩ : ∃ x, S.Ls[i]? = some x := ⟨_, List.getElem?_eq_getElem (by rw [← HNS.out]; exact hlt)⟩
              obtain ⟨gb, cb, hbv2, hgb, c1, _⟩ := hsp.scell hx
              rw [hbv, ← HNS.out] at hbv2
              simp only [Value.slice.injEq, true_and] at hbv2
              obtain ⟨rfl, rfl⟩ := hbv2
              obtain ⟨n, hn⟩ : ∃ n, n = x.2.1 := ⟨_, rfl⟩
              obtain ⟨sx, cx, hsx⟩ := sh_slice (hsp.at_.fs.own i x (ls_get hx))
              rw [← hn] at hsx
              rw [hsx] at c1
              have hnm : Nm 3 i n x ∧ n ≤ M + 64 := by rw [hn]; exact ⟨(HPH.out.ls i x (ls_get hx)).1, (HPH.out.ls i x (ls_get hx)).2.1⟩
              have HNM := hid hnm.1
              have hnM := hnm.2
              have HX := hid hx
              have HSX := hid hsx
              have HN0 := hid hn
              have HBV := hid hbv
              have hlt1 : (i : Int) < (ns : Int) := by omega
              have V1 : IntKind.i64.wrap ((i : Int) + 1) = (i : Int) + 1 := by rw [IntKind.wrap_i64]; omega
              clear hsp hx hn hsx hbv hnm
              go_wp2_with fail
              go_loopw [7] (fun kv W => Hid (∃ (k : Nat), kv = .int .i64 (k : Int) ∧ k ≤ n ∧ Below w.heap.size w W)) (fun kv _ => match kv with | .int _ k => n + 1 - k.toNat | _ => 0)
              case atStart => exact ⟨0, rfl, Nat.zero_le _, BW.out⟩
              case round =>
                clear BW c0 c1 hgb
                obtain ⟨W2, hW2⟩ : ∃ W2, W2 = wr := ⟨_, rfl⟩
                rw [← hW2] at hrel ⊢
                clear hW2
                obtain ⟨k, rfl, hkn, hbw⟩ := hrel.out
                clear hrel
                have BW := hid hbw
                have hsp := SP0.out.below hbw
                have c0 := hsp.cell.2.2
                rw [← HP.out, HBV.out] at c0
                obtain ⟨gb2, cb2, hbv2, hgb, c1, _⟩ := hsp.scell HX.out
                rw [HBV.out] at hbv2
                simp only [Value.slice.injEq, Option.some.injEq, Addr.mk.injEq] at hbv2
                obtain ⟨⟨rfl, -⟩, -, -⟩ := hbv2
                rw [HSX.out] at c1
                rcases Nat.lt_or_eq_of_le hkn with hklt | hklt
                · have hz := HNM.out k hklt
                  obtain ⟨g, c, hv, _, hg, cz, _⟩ := own_cell (hsp.at_.fs.own i x (ls_get HX.out)) hz
                  rw [HSX.out, ← HN0.out] at hv
                  simp only [Value.slice.injEq, true_and] at hv
                  obtain ⟨rfl, rfl⟩ := hv
                  have KS : Hid (∀ W', Below W2.heap.size W2 W' → W'.cell? ⟨p, 2, none⟩ = some (.slice (some ⟨gb, 0, none⟩) ns ca) ∧ W'.cell? ⟨gb, i * 2 + 1, none⟩ = some (.slice (some ⟨g, 0, none⟩) n cx) ∧ W'.cell? ⟨g, k * 3, none⟩ = some (encStr (th i))) := fun W' hb => by
                    have hpl := lt_of_block hsp.at_.row
                    rw [← HP.out] at hpl
                    exact ⟨(hb.cell (p := ⟨p, 2, none⟩) hpl).trans c0, (hb.cell (p := ⟨gb, i * 2 + 1, none⟩) hgb).trans c1, (hb.cell (p := ⟨g, k * 3, none⟩) hg).trans (by exact cz)⟩
                  have hklt1 : (k : Int) < (n : Int) := by omega
                  have V2 : IntKind.i64.wrap ((k : Int) + 1) = (k : Int) + 1 := by rw [IntKind.wrap_i64]; omega
                  have i0 : (0 : Int) ≤ (i : Int) := by omega
                  have k0 : (0 : Int) ≤ (k : Int) := by omega
                  clear hsp hbw hz cz hg
                  go_wp2_with fail
                  refine wp_region_noPanic ?_
                  refine wp_region_held_drew (S := fun W => W.cell? ⟨p, 2, none⟩ = some (.slice (some ⟨gb, 0, none⟩) ns ca) ∧ W.cell? ⟨gb, i * 2 + 1, none⟩ = some (.slice (some ⟨g, 0, none⟩) n cx) ∧ W.cell? ⟨g, k * 3, none⟩ = some (encStr (th i))) (by kernel_rfl) (KS.out _ (Below.refl _ _).drew) (fun hHeld => ?_)
                  refine wpAnyH_take (i := 0) (v := ?_) (by simp only [List.getElem?_toArray, List.getElem?_cons_zero]; rfl) (by kernel_rfl) (by kernel_rfl) (by kernel_rfl) (fun _ _ _ h => h) (Or.inl ⟨by rfl, ?_⟩) (by assumption) ?_
                  rotate_left 1
                  · intro w hSw; (try dsimp only at hSw); go_simp; (try with_reducible rfl)
                  try simp only [Act.put, List.setIfInBounds_toArray, List.set_cons_zero, List.set_cons_succ]
                  refine wpAnyH_take (i := 1) (v := ?_) (by simp only [List.getElem?_toArray, List.getElem?_cons_succ, List.getElem?_cons_zero]; rfl) (by kernel_rfl) (by kernel_rfl) (by kernel_rfl) (fun _ _ _ h => h) (Or.inl ⟨by rfl, ?_⟩) (by assumption) ?_
                  rotate_left 1
                  · intro w hSw; (try dsimp only at hSw); go_simp; (try with_reducible rfl)
                  try simp only [Act.put, List.setIfInBounds_toArray, List.set_cons_zero, List.set_cons_succ]
                  refine wpAnyH_take (i := 2) (v := ?_) (by simp only [List.getElem?_toArray, List.getElem?_cons_succ, List.getElem?_cons_zero]; rfl) (by kernel_rfl) (by kernel_rfl) (by kernel_rfl) (fun _ _ _ h => h) (Or.inl ⟨by rfl, ?_⟩) (by assumption) ?_
                  rotate_left 1
                  · intro w hSw; (try dsimp only at hSw); go_simp; (try with_reducible rfl)
                  try simp only [Act.put, List.setIfInBounds_toArray, List.set_cons_zero, List.set_cons_succ]
                  refine wpAnyH_take (i := 3) (v := ?_) (by simp only [List.getElem?_toArray, List.getElem?_cons_succ, List.getElem?_cons_zero]; rfl) (by kernel_rfl) (by kernel_rfl) (by kernel_rfl) (fun _ _ _ h => h) (Or.inl ⟨by rfl, ?_⟩) (by assumption) ?_
                  rotate_left 1
                  · intro w hSw; (try dsimp only at hSw); go_simp; (try with_reducible rfl)
                  try simp only [Act.put, List.setIfInBounds_toArray, List.set_cons_zero, List.set_cons_succ]
                  refine wpAnyH_take (i := 4) (v := ?_) (by simp only [List.getElem?_toArray, List.getElem?_cons_succ, List.getElem?_cons_zero]; rfl) (by kernel_rfl) (by kernel_rfl) (by kernel_rfl) (fun _ _ _ h => h) (Or.inl ⟨by rfl, ?_⟩) (by assumption) ?_
                  rotate_left 1
                  · intro w hSw; (try dsimp only at hSw); go_simp; (try with_reducible rfl)
                  try simp only [Act.put, List.setIfInBounds_toArray, List.set_cons_zero, List.set_cons_succ]
                  refine wpAnyH_take (i := 5) (v := ?_) (by simp only [List.getElem?_toArray, List.getElem?_cons_succ, List.getElem?_cons_zero]; rfl) (by kernel_rfl) (by kernel_rfl) (by kernel_rfl) (fun _ _ _ h => h) (Or.inl ⟨by rfl, ?_⟩) (by assumption) ?_
                  rotate_left 1
                  · intro w hSw; (try dsimp only at hSw); go_simp; (try with_reducible rfl)
                  try simp only [Act.put, List.setIfInBounds_toArray, List.set_cons_zero, List.set_cons_succ]
                  refine wpAnyH_take (i := 6) (v := ?_) (by simp only [List.getElem?_toArray, List.getElem?_cons_succ, List.getElem?_cons_zero]; rfl) (by kernel_rfl) (by kernel_rfl) (by kernel_rfl) (fun _ _ _ h => h) (Or.inl ⟨by rfl, ?_⟩) (by assumption) ?_
                  rotate_left 1
                  · intro w hSw; (try dsimp only at hSw); go_simp; (try with_reducible rfl)
                  try simp only [Act.put, List.setIfInBounds_toArray, List.set_cons_zero, List.set_cons_succ]
                  refine wpAnyH_take (i := 7) (v := ?_) (by simp only [List.getElem?_toArray, List.getElem?_cons_succ, List.getElem?_cons_zero]; rfl) (by kernel_rfl) (by kernel_rfl) (by kernel_rfl) (fun _ _ _ h => h) (Or.inl ⟨by rfl, ?_⟩) (by assumption) ?_
                  rotate_left 1
                  · intro w hSw; (try dsimp only at hSw); go_simp; (try with_reducible rfl)
                  try simp only [Act.put, List.setIfInBounds_toArray, List.set_cons_zero, List.set_cons_succ]
                  refine wpAnyH_take (i := 8) (v := ?_) (by simp only [List.getElem?_toArray, List.getElem?_cons_succ, List.getElem?_cons_zero]; rfl) (by kernel_rfl) (by kernel_rfl) (by kernel_rfl) (fun _ _ _ h => h) (Or.inl ⟨by rfl, ?_⟩) (by assumption) ?_
                  rotate_left 1
                  · intro w hSw; (try dsimp only at hSw); go_simp; (try with_reducible rfl)
                  try simp only [Act.put, List.setIfInBounds_toArray, List.set_cons_zero, List.set_cons_succ]
                  refine wpAnyH_take (i := 9) (v := ?_) (by simp only [List.getElem?_toArray, List.getElem?_cons_succ, List.getElem?_cons_zero]; rfl) (by kernel_rfl) (by kernel_rfl) (by kernel_rfl) (fun _ _ _ h => h) (Or.inl ⟨by rfl, ?_⟩) (by assumption) ?_
                  rotate_left 1
                  · intro w hSw; (try dsimp only at hSw); go_simp; (try with_reducible rfl)
                  try simp only [Act.put, List.setIfInBounds_toArray, List.set_cons_zero, List.set_cons_succ]
                  refine wpAnyH_take (i := 10) (v := ?_) (by simp only [List.getElem?_toArray, List.getElem?_cons_succ, List.getElem?_cons_zero]; rfl) (by kernel_rfl) (by kernel_rfl) (by kernel_rfl) (fun _ _ _ h => h) (Or.inl ⟨by rfl, ?_⟩) (by assumption) ?_
                  rotate_left 1
                  · intro w hSw; (try dsimp only at hSw); go_simp; (try with_reducible rfl)
                  try simp only [Act.put, List.setIfInBounds_toArray, List.set_cons_zero, List.set_cons_succ]
                  refine wpAnyH_take (i := 11) (v := ?_) (by simp only [List.getElem?_toArray, List.getElem?_cons_succ, List.getElem?_cons_zero]; rfl) (by kernel_rfl) (by kernel_rfl) (by kernel_rfl) (fun _ _ _ h => h) (Or.inl ⟨by rfl, ?_⟩) (by assumption) ?_
                  rotate_left 1
                  · intro w hSw; (try dsimp only at hSw); go_simp; (try with_reducible rfl)
                  try simp only [Act.put, List.setIfInBounds_toArray, List.set_cons_zero, List.set_cons_succ]
                  refine wpAnyH_take (i := 12) (v := ?_) (by simp only [List.getElem?_toArray, List.getElem?_cons_succ, List.getElem?_cons_zero]; rfl) (by kernel_rfl) (by kernel_rfl) (by kernel_rfl) (fun _ _ _ h => h) (Or.inl ⟨by rfl, ?_⟩) (by assumption) ?_
                  rotate_left 1
                  · intro w hSw; (try dsimp only at hSw); go_simp; (try with_reducible rfl)
                  try simp only [Act.put, List.setIfInBounds_toArray, List.set_cons_zero, List.set_cons_succ]
                  refine wpAnyH_ready (rs := [13]) (by kernel_rfl) (by simp) ?_
                  refine AllReadyH.cons (by simp only [List.getElem?_toArray, List.getElem?_cons_succ, List.getElem?_cons_zero]; rfl) (fun K hK => ?_) AllReadyH.nil
                  go_simp
                  go_at_call 44
                  refine Calls.mono (three_any (i : Int)) ?_
                  rintro e W3 ⟨rfl, ht3⟩
                  have B3 : Hid (Below W2.heap.size W2 W3) := (Below.refl _ _).drew.trans (ht3.below (Nat.le_refl _) (by simp))
                  clear ht3
                  clear hHeld
                  refine hK.out _ _ (KS.out _ B3.out) (fun hHeld => ?_)
                  clear hK K
                  try simp only [Act.put, List.setIfInBounds_toArray, List.set_cons_zero, List.set_cons_succ]
                  refine wpAnyH_take (i := 14) (v := .bool false) (by simp only [List.getElem?_toArray, List.getElem?_cons_succ, List.getElem?_cons_zero]; rfl) (by kernel_rfl) (by kernel_rfl) (by kernel_rfl) (fun _ _ _ h => h) (Or.inl ⟨by rfl, ?_⟩) (by assumption) ?_
                  · intro w hSw; (try dsimp only at hSw); (try go_simp); (first | done | (with_reducible rfl) | simp | skip)
                  try simp only [Act.put, List.setIfInBounds_toArray, List.set_cons_zero, List.set_cons_succ]
                  refine wpAnyH_done (by kernel_rfl) ?_ _
                  refine NoPanic.normal ?_
                  have B4 : Hid (Below w.heap.size w W3) := BW.out.trans (B3.out.mono BW.out.size)
                  go_wp2_with fail
                  clear V1 V2
                  refine ⟨⟨k + 1, by go_num, by omega, B4.out⟩, ?_⟩
                  show n + 1 - ((k : Int) + 1).toNat < n + 1 - (k : Int).toNat
                  omega
                · have hklt1 : ¬ (k : Int) < (n : Int) := by omega
                  clear hsp hbw
                  go_wp2_with fail
                  clear V1
                  refine ⟨⟨i + 1, by go_num, by omega, BW.out⟩, ?_⟩
                  show ns + 1 - ((i : Int) + 1).toNat < ns + 1 - (i : Int).toNat
                  omega
            · have hlt1 : ¬ (i : Int) < (ns : Int) := by omega
              clear hsp hbv hin
              have hl9 := hlt.symm
              clear hlt
              subst hl9
              go_wp2_with fail
              go_ret
              exact ⟨rfl, BW.out⟩
end Go.Proofs.YtcpncfngadablaaGreatDoor
