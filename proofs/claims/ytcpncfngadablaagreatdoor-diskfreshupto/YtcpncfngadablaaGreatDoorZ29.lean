import Derived.Test.YtcpncfngadablaaGreatDoorZ28
/-
  The shelf's spoils.
-/
namespace Go.Proofs.YtcpncfngadablaaGreatDoor
open Go.RowKit Go.Deep ShfKit
set_option maxRecDepth 100000

set_option maxHeartbeats 8000000 in
theorem spoils_any {w : World} {S : Sg} {M : Nat} (h : ShelfAt w S) (hp : Ph (QB 0) (QT 1 M 0 0) (QT 3 M 0 0) S) (hM : M ≤ 1073741824) (hb : S.Lb.length ≤ 1073741824) (ht : S.Lt.length ≤ 1073741824) (hs : S.Ls.length ≤ 1073741824) :
    Calls Tryz.prog 19 #[.pointer (some ⟨S.p, 0, none⟩)] w fun e W => e = .returned (.bool true) ∧ ∃ S', Sp w W S S' := by
  obtain ⟨p, hpp⟩ : ∃ p, p = S.p := ⟨_, rfl⟩
  obtain ⟨nb, hnb⟩ : ∃ n, n = S.Lb.length := ⟨_, rfl⟩
  obtain ⟨nt, hnt⟩ : ∃ n, n = S.Lt.length := ⟨_, rfl⟩
  obtain ⟨ns, hns⟩ : ∃ n, n = S.Ls.length := ⟨_, rfl⟩
  rw [← hnb] at hb
  rw [← hnt] at ht
  rw [← hns] at hs
  rw [← hpp]
  have HP := hid hpp
  have HNB := hid hnb
  have HNT := hid hnt
  have HNS := hid hns
  have ST : Hid (Sp w w S S ∧ Ph (QB 0) (QT 1 M 0 0) (QT 3 M 0 0) S) := ⟨⟨h, Moved.refl _ _, rfl, rfl, rfl, rfl⟩, hp⟩
  clear h hp hpp hnb hnt hns
  go_enter Tryz.func19, Tryz.ntmps19
  go_wp2_with fail
  go_loopw [3] (fun iv W => Hid (∃ (i : Nat) (S1 : Sg), iv = .int .i64 (i : Int) ∧ i ≤ nb ∧ Sp w W S S1 ∧ Ph (QB i) (QT 1 M 0 0) (QT 3 M 0 0) S1)) (fun iv _ => match iv with | .int _ i => nb + 1 - i.toNat | _ => 0)
  case atStart => exact ⟨0, S, rfl, Nat.zero_le _, ST.out.1, ST.out.2⟩

  case round =>
    clear ST
    obtain ⟨W1, hW1⟩ : ∃ W1, W1 = wr := ⟨_, rfl⟩
    rw [← hW1] at hrel ⊢
    clear hW1
    obtain ⟨i, S1, rfl, hin, hsp, hph⟩ := hrel.out
    clear hrel
    have c0 := hsp.cell.1
    rw [← HP.out] at c0
    obtain ⟨sa, ca, hbv⟩ := sh_slice hsp.at_.rb
    rw [hsp.lb, ← HNB.out] at hbv
    rw [hbv] at c0

    rcases Nat.lt_or_eq_of_le hin with hlt | hlt
    · obtain ⟨x, hx⟩ : ∃ x, S1.Lb[i]? = some x := ⟨_, List.getElem?_eq_getElem (by rw [hsp.lb, ← HNB.out]; exact hlt)⟩
      obtain ⟨gb, cb, hbv2, hgb, c1, _⟩ := hsp.bcell hx
      rw [hbv, hsp.lb, ← HNB.out] at hbv2
      simp only [Value.slice.injEq, true_and] at hbv2
      obtain ⟨rfl, rfl⟩ := hbv2
      have HF := hid (hsp.fill hx (hph.lb i x hx).1)
      obtain ⟨xv, hxv⟩ : ∃ xv, xv = x.1 := ⟨_, rfl⟩
      rw [← hxv] at HF c1
      have HPH := hid hph
      have hlt1 : (i : Int) < (nb : Int) := by omega
      have V1 : IntKind.i64.wrap ((i : Int) + 1) = (i : Int) + 1 := by rw [IntKind.wrap_i64]; omega
      clear hsp hph hx hxv hbv
      go_wp2_with (go_at_call 43; refine HF.out.mono ?_; rintro e W2 ⟨rfl, y, hy1, hy2, hsp2⟩; have HSP := hid hsp2; have HY := hid (And.intro hy1 hy2); clear hsp2 hy1 hy2)
      clear V1
      refine ⟨⟨i + 1, _, by go_num, by omega, HSP.out, ⟨QB.next HPH.out.lb HY.out, HPH.out.lt, HPH.out.ls⟩⟩, ?_⟩
      show nb + 1 - ((i : Int) + 1).toNat < nb + 1 - (i : Int).toNat
      omega
    · have hlt1 : ¬ (i : Int) < (nb : Int) := by omega
      have ST : Hid (Sp w W1 S S1 ∧ Ph (QG 0) (QT 1 M 0 0) (QT 3 M 0 0) S1) := ⟨hsp, ⟨QB.done hph.lb (by rw [hsp.lb, ← HNB.out]; omega), hph.lt, hph.ls⟩⟩
      obtain ⟨SA, hSA⟩ : ∃ SA, SA = S1 := ⟨_, rfl⟩
      rw [← hSA] at ST
      clear hsp hph hbv hSA hin
      have hl9 := hlt.symm
      clear hlt
      subst hl9
      go_wp2_with fail
      clear c0 hlt1
      go_loopw [4, 5] (fun iv _ W => Hid (∃ (i : Nat) (S1 : Sg), iv = .int .i64 (i : Int) ∧ i ≤ nt ∧ Sp w W S S1 ∧ Ph (QG 0) (QT 1 M i 0) (QT 3 M 0 0) S1)) (fun iv _ _ => match iv with | .int _ i => nt + 1 - i.toNat | _ => 0)
      case atStart => exact ⟨0, SA, rfl, Nat.zero_le _, ST.out.1, ST.out.2⟩

      case round =>
        clear ST
        obtain ⟨W1, hW1⟩ : ∃ W1, W1 = wr := ⟨_, rfl⟩
        rw [← hW1] at hrel ⊢
        clear hW1
        obtain ⟨i, S1, rfl, hin, hsp, hph⟩ := hrel.out
        clear hrel
        have c0 := hsp.cell.2.1
        rw [← HP.out] at c0
        obtain ⟨sa, ca, hbv⟩ := sh_slice hsp.at_.rt
        rw [hsp.lt, ← HNT.out] at hbv
        rw [hbv] at c0

        rcases Nat.lt_or_eq_of_le hin with hlt | hlt
        · obtain ⟨x, hx⟩ : ∃ x, S1.Lt[i]? = some x := ⟨_, List.getElem?_eq_getElem (by rw [hsp.lt, ← HNT.out]; exact hlt)⟩
          obtain ⟨gb, cb, hbv2, hgb, c1, _⟩ := hsp.tcell hx
          rw [hbv, hsp.lt, ← HNT.out] at hbv2
          simp only [Value.slice.injEq, true_and] at hbv2
          obtain ⟨rfl, rfl⟩ := hbv2
          obtain ⟨n, hn⟩ : ∃ n, n = x.2.1 := ⟨_, rfl⟩
          obtain ⟨sx, cx, hsx⟩ := sh_slice (hsp.at_.ft.own i x hx)
          rw [← hn] at hsx
          have hnM : n ≤ M := by rw [hn]; exact (hph.lt i x hx).1
          rw [hsx] at c1
          have ST : Hid (Sp w W1 S S1 ∧ Ph (QG 0) (QT 1 M i 0) (QT 3 M 0 0) S1 ∧ S1.tv = .slice (some ⟨gb, 0, none⟩) nt ca ∧ ∃ x , S1.Lt[i]? = some x ∧ x.1 = .slice sx n cx ∧ x.2.1 = n) := ⟨hsp, hph, hbv, x,  hx, hsx, hn.symm⟩
          have hlt1 : (i : Int) < (nt : Int) := by omega
          have V1 : IntKind.i64.wrap ((i : Int) + 1) = (i : Int) + 1 := by rw [IntKind.wrap_i64]; omega
          clear hsp hph hx hn hsx hbv
          go_wp2_with fail
          go_loopw [5] (fun kv W => Hid (∃ (k : Nat) (S2 : Sg), kv = .int .i64 (k : Int) ∧ k ≤ n ∧ Sp w W S S2 ∧ Ph (QG 0) (QT 1 M i k) (QT 3 M 0 0) S2 ∧ S2.tv = .slice (some ⟨gb, 0, none⟩) nt ca ∧ ∃ x , S2.Lt[i]? = some x ∧ x.1 = .slice sx n cx ∧ x.2.1 = n)) (fun kv _ => match kv with | .int _ k => n + 1 - k.toNat | _ => 0)
          case atStart => exact ⟨0, S1, rfl, Nat.zero_le _, ST.out⟩
          case round =>
            clear ST c0 c1 hgb
            obtain ⟨W2, hW2⟩ : ∃ W2, W2 = wr := ⟨_, rfl⟩
            rw [← hW2] at hrel ⊢
            clear hW2
            obtain ⟨k, S2, rfl, hkn, hsp, hph, hbv, x,  hx, hx1, hx2⟩ := hrel.out
            clear hrel
            have c0 := hsp.cell.2.1
            rw [← HP.out, hbv] at c0
            obtain ⟨gb2, cb2, hbv2, hgb, c1, _⟩ := hsp.tcell hx
            rw [hbv] at hbv2
            simp only [Value.slice.injEq, Option.some.injEq, Addr.mk.injEq] at hbv2
            obtain ⟨⟨rfl, -⟩, -, -⟩ := hbv2
            rw [hx1] at c1
            rcases Nat.lt_or_eq_of_le hkn with hklt | hklt
            · obtain ⟨g, c, z, hv, hg, cz, fz, hN⟩ := hsp.name hx (by rw [hx2]; exact hklt) (encStr (th i))
              rw [hx1, hx2] at hv
              simp only [Value.slice.injEq, true_and] at hv
              obtain ⟨rfl, rfl⟩ := hv
              have HX1 := hid hx1
              have HX2 := hid hx2
              have HBV := hid hbv
              have HNX := hid hN
              have HSP := hid hsp
              have PH2 := hid ((⟨hph.lb, QT.one (s := 1) (by decide) hph.lt hx (by rw [hx2]; exact hklt) (hsp.at_.ft.own i x hx).1, hph.ls⟩ : Ph (QG 0) (QT 1 M i (k + 1)) (QT 3 M 0 0) { S2 with Lt := S2.Lt.set i (x.1, x.2.1, x.2.2.set (k * 1) (encStr (th i))) }))
              have KS : Hid (∀ W', Below W2.heap.size W2 W' → W'.cell? ⟨p, 1, none⟩ = some (.slice (some ⟨gb, 0, none⟩) nt ca) ∧ W'.cell? ⟨gb, i, none⟩ = some (.slice (some ⟨g, 0, none⟩) n cx)) := fun W' hb => by
                have h' := hsp.below hb
                have d0 := h'.cell.2.1
                rw [← HP.out, hbv] at d0
                obtain ⟨gb3, cb3, hbv3, _, d1, _⟩ := h'.tcell hx
                rw [hbv] at hbv3
                simp only [Value.slice.injEq, Option.some.injEq, Addr.mk.injEq] at hbv3
                obtain ⟨⟨rfl, -⟩, -, -⟩ := hbv3
                rw [hx1] at d1
                exact ⟨d0, d1⟩
              have KZ : Hid (∀ W', Below W2.heap.size W2 W' → W'.cell? ⟨g, k, none⟩ = some z ∧ W'.frozen? ⟨g, k, none⟩ = false) := fun W' hb => ⟨(hb.cell (p := ⟨g, k, none⟩) hg).trans cz, by rw [World.frozen?_of_block (w := W2) (w' := W') (a := ⟨g, k, none⟩) (hb.block g hg)]; exact fz⟩
              have KN : Hid (∀ W', Below W2.heap.size W2 W' → (W'.setCell ⟨g, k, none⟩ (encStr (th i))).cell? ⟨p, 1, none⟩ = some (.slice (some ⟨gb, 0, none⟩) nt ca) ∧ (W'.setCell ⟨g, k, none⟩ (encStr (th i))).cell? ⟨gb, i, none⟩ = some (.slice (some ⟨g, 0, none⟩) n cx)) := fun W' hb => by
                have h' := hN W' hb
                have d0 := h'.cell.2.1
                rw [← HP.out] at d0
                obtain ⟨gb3, cb3, hbv3, _, d1, _⟩ := h'.tcell (i := i) (by show (S2.Lt.set i _)[i]? = _; rw [List.getElem?_set_self (List.getElem?_eq_some_iff.1 hx).1])
                have hbv4 : S2.tv = .slice (some ⟨gb3, 0, none⟩) _ cb3 := hbv3
                rw [hbv] at hbv4
                simp only [Value.slice.injEq, Option.some.injEq, Addr.mk.injEq] at hbv4
                obtain ⟨⟨rfl, -⟩, -, -⟩ := hbv4
                have d0' : _ = some S2.tv := d0
                rw [hbv] at d0'
                have d1' : _ = some x.1 := d1
                rw [hx1] at d1'
                exact ⟨d0', d1'⟩
              have HX := hid hx
              have hklt1 : (k : Int) < (n : Int) := by omega
              have V2 : IntKind.i64.wrap ((k : Int) + 1) = (k : Int) + 1 := by rw [IntKind.wrap_i64]; omega
              have i0 : (0 : Int) ≤ (i : Int) := by omega
              have k0 : (0 : Int) ≤ (k : Int) := by omega
              clear hsp hph hbv hx hx1 hx2 hN
              go_wp2_with fail
              refine wp_region_noPanic ?_
              refine wp_region_held_drew (S := fun W => W.cell? ⟨p, 1, none⟩ = some (.slice (some ⟨gb, 0, none⟩) nt ca) ∧ W.cell? ⟨gb, i, none⟩ = some (.slice (some ⟨g, 0, none⟩) n cx)) (by kernel_rfl) (KS.out _ (Below.refl _ _).drew) (fun hHeld => ?_)
              refine wpAnyH_take (i := 0) (v := ?_) (by simp only [List.getElem?_toArray, List.getElem?_cons_zero]; rfl) (by kernel_rfl) (by kernel_rfl) (by kernel_rfl) (fun _ _ _ h => h) (Or.inl ⟨by rfl, ?_⟩) (by assumption) ?_
              rotate_left 1
              · intro w hSw; (try dsimp only at hSw); go_simp; (try with_reducible rfl)
              try simp only [Act.put, List.setIfInBounds_toArray, List.set_cons_zero, List.set_cons_succ]
              refine wpAnyH_take (i := 1) (v := ?_) (by simp only [List.getElem?_toArray, List.getElem?_cons_succ, List.getElem?_cons_zero]; rfl) (by kernel_rfl) (by kernel_rfl) (by kernel_rfl) (fun _ _ _ h => h) (Or.inl ⟨by rfl, ?_⟩) (by assumption) ?_
              rotate_left 1
              · intro w hSw; (try dsimp only at hSw); go_simp; (try with_reducible rfl)
              try simp only [Act.put, List.setIfInBounds_toArray, List.set_cons_zero, List.set_cons_succ]
              refine wpAnyH_take (i := 2) (v := ?_) (by simp only [List.getElem?_toArray, List.getElem?_cons_succ, List.getElem?_cons_zero]; rfl) (by kernel_rfl) (by kernel_rfl) (by kernel_rfl) (fun _ _ _ h => h) (Or.inl ⟨by rfl, ?_⟩) (by assumption) ?_
              rotate_left 1
              · intro w hSw; (try dsimp only at hSw); go_simp; (try with_reducible rfl)
              try simp only [Act.put, List.setIfInBounds_toArray, List.set_cons_zero, List.set_cons_succ]
              refine wpAnyH_take (i := 3) (v := ?_) (by simp only [List.getElem?_toArray, List.getElem?_cons_succ, List.getElem?_cons_zero]; rfl) (by kernel_rfl) (by kernel_rfl) (by kernel_rfl) (fun _ _ _ h => h) (Or.inl ⟨by rfl, ?_⟩) (by assumption) ?_
              rotate_left 1
              · intro w hSw; (try dsimp only at hSw); go_simp; (try with_reducible rfl)
              try simp only [Act.put, List.setIfInBounds_toArray, List.set_cons_zero, List.set_cons_succ]
              refine wpAnyH_take (i := 4) (v := ?_) (by simp only [List.getElem?_toArray, List.getElem?_cons_succ, List.getElem?_cons_zero]; rfl) (by kernel_rfl) (by kernel_rfl) (by kernel_rfl) (fun _ _ _ h => h) (Or.inl ⟨by rfl, ?_⟩) (by assumption) ?_
              rotate_left 1
              · intro w hSw; (try dsimp only at hSw); go_simp; (try with_reducible rfl)
              try simp only [Act.put, List.setIfInBounds_toArray, List.set_cons_zero, List.set_cons_succ]
              refine wpAnyH_take (i := 5) (v := ?_) (by simp only [List.getElem?_toArray, List.getElem?_cons_succ, List.getElem?_cons_zero]; rfl) (by kernel_rfl) (by kernel_rfl) (by kernel_rfl) (fun _ _ _ h => h) (Or.inl ⟨by rfl, ?_⟩) (by assumption) ?_
              rotate_left 1
              · intro w hSw; (try dsimp only at hSw); go_simp; (try with_reducible rfl)
              try simp only [Act.put, List.setIfInBounds_toArray, List.set_cons_zero, List.set_cons_succ]
              refine wpAnyH_take (i := 6) (v := ?_) (by simp only [List.getElem?_toArray, List.getElem?_cons_succ, List.getElem?_cons_zero]; rfl) (by kernel_rfl) (by kernel_rfl) (by kernel_rfl) (fun _ _ _ h => h) (Or.inl ⟨by rfl, ?_⟩) (by assumption) ?_
              rotate_left 1
              · intro w hSw; (try dsimp only at hSw); go_simp; (try with_reducible rfl)
              try simp only [Act.put, List.setIfInBounds_toArray, List.set_cons_zero, List.set_cons_succ]
              refine wpAnyH_take (i := 7) (v := ?_) (by simp only [List.getElem?_toArray, List.getElem?_cons_succ, List.getElem?_cons_zero]; rfl) (by kernel_rfl) (by kernel_rfl) (by kernel_rfl) (fun _ _ _ h => h) (Or.inl ⟨by rfl, ?_⟩) (by assumption) ?_
              rotate_left 1
              · intro w hSw; (try dsimp only at hSw); go_simp; (try with_reducible rfl)
              try simp only [Act.put, List.setIfInBounds_toArray, List.set_cons_zero, List.set_cons_succ]
              refine wpAnyH_take (i := 8) (v := ?_) (by simp only [List.getElem?_toArray, List.getElem?_cons_succ, List.getElem?_cons_zero]; rfl) (by kernel_rfl) (by kernel_rfl) (by kernel_rfl) (fun _ _ _ h => h) (Or.inl ⟨by rfl, ?_⟩) (by assumption) ?_
              rotate_left 1
              · intro w hSw; (try dsimp only at hSw); go_simp; (try with_reducible rfl)
              try simp only [Act.put, List.setIfInBounds_toArray, List.set_cons_zero, List.set_cons_succ]
              refine wpAnyH_ready (rs := [9]) (by kernel_rfl) (by simp) ?_
              refine AllReadyH.cons (by simp only [List.getElem?_toArray, List.getElem?_cons_succ, List.getElem?_cons_zero]; rfl) (fun K hK => ?_) AllReadyH.nil
              go_simp
              go_at_call 44
              refine Calls.mono (three_any (i : Int)) ?_
              rintro e W3 ⟨rfl, ht3⟩
              have B3 : Hid (Below W2.heap.size W2 W3) := (Below.refl _ _).drew.trans (ht3.below (Nat.le_refl _) (by simp))
              have ks3 := KS.out _ B3.out
              have kz3 := KZ.out _ B3.out
              clear ht3
              clear hHeld
              refine hK.out _ _ ks3 (fun hHeld => ?_)
              clear hK K
              try simp only [Act.put, List.setIfInBounds_toArray, List.set_cons_zero, List.set_cons_succ]
              refine wpAnyH_take (i := 10) (v := ?_) (by simp only [List.getElem?_toArray, List.getElem?_cons_succ, List.getElem?_cons_zero]; rfl) (by kernel_rfl) (by kernel_rfl) (by kernel_rfl) (fun _ _ _ h => h) (Or.inl ⟨by rfl, ?_⟩) (by assumption) ?_
              rotate_left 1
              · intro w hSw; (try dsimp only at hSw); go_simp; (try with_reducible rfl)
              try simp only [Act.put, List.setIfInBounds_toArray, List.set_cons_zero, List.set_cons_succ]
              refine wpAnyH_ready (rs := [11]) (by kernel_rfl) (by simp) ?_
              refine AllReadyH.cons (by simp only [List.getElem?_toArray, List.getElem?_cons_succ, List.getElem?_cons_zero]; rfl) (fun K hK => ?_) AllReadyH.nil
              go_simp
              clear hHeld
              refine hK.out _ _ (KN.out _ B3.out) (fun hHeld => ?_)
              clear hK K
              try simp only [Act.put, List.setIfInBounds_toArray, List.set_cons_zero, List.set_cons_succ]
              refine wpAnyH_done (by kernel_rfl) ?_ _
              refine NoPanic.normal ?_
              have SPN := hid (HNX.out _ B3.out)
              clear ks3 kz3
              go_wp2_with fail
              clear V1 V2
              refine ⟨⟨k + 1, _, by go_num, by omega, SPN.out, (by have h := PH2.out; rw [Nat.mul_one] at h; exact h), HBV.out, (x.1, x.2.1, x.2.2.set k (encStr (th i))),  (by show (S2.Lt.set i _)[i]? = _; rw [List.getElem?_set_self (List.getElem?_eq_some_iff.1 HX.out).1]), HX1.out, HX2.out⟩, ?_⟩
              show n + 1 - ((k : Int) + 1).toNat < n + 1 - (k : Int).toNat
              omega
            · have hklt1 : ¬ (k : Int) < (n : Int) := by omega
              have NX : Hid (Sp w W2 S S2 ∧ Ph (QG 0) (QT 1 M (i + 1) 0) (QT 3 M 0 0) S2) := ⟨hsp, ⟨hph.lb, QT.next hph.lt hx (by omega), hph.ls⟩⟩
              clear hsp hph hbv hx hx1 hx2
              go_wp2_with fail
              clear V1
              refine ⟨⟨i + 1, _, by go_num, by omega, NX.out⟩, ?_⟩
              show nt + 1 - ((i : Int) + 1).toNat < nt + 1 - (i : Int).toNat
              omega
        · have hlt1 : ¬ (i : Int) < (nt : Int) := by omega
          have ST : Hid (Sp w W1 S S1 ∧ Ph (QG 0) (QH 1 M 0 0) (QT 3 M 0 0) S1) := ⟨hsp, ⟨hph.lb, QT.done hph.lt (by rw [hsp.lt, ← HNT.out]; omega), hph.ls⟩⟩
          obtain ⟨SB, hSA⟩ : ∃ SA, SA = S1 := ⟨_, rfl⟩
          rw [← hSA] at ST
          clear hsp hph hbv hSA hin
          have hl9 := hlt.symm
          clear hlt
          subst hl9
          go_wp2_with fail
          clear c0 hlt1
          go_loopw [6, 7] (fun iv _ W => Hid (∃ (i : Nat) (S1 : Sg), iv = .int .i64 (i : Int) ∧ i ≤ ns ∧ Sp w W S S1 ∧ Ph (QG 0) (QH 1 M 0 0) (QT 3 M i 0) S1)) (fun iv _ _ => match iv with | .int _ i => ns + 1 - i.toNat | _ => 0)
          case atStart => exact ⟨0, SB, rfl, Nat.zero_le _, ST.out.1, ST.out.2⟩

          case round =>
            clear ST
            obtain ⟨W1, hW1⟩ : ∃ W1, W1 = wr := ⟨_, rfl⟩
            rw [← hW1] at hrel ⊢
            clear hW1
            obtain ⟨i, S1, rfl, hin, hsp, hph⟩ := hrel.out
            clear hrel
            have c0 := hsp.cell.2.2
            rw [← HP.out] at c0
            obtain ⟨sa, ca, hbv⟩ := sh_slice hsp.at_.rs
            rw [hsp.ls, ← HNS.out] at hbv
            rw [hbv] at c0

            rcases Nat.lt_or_eq_of_le hin with hlt | hlt
            · obtain ⟨⟨q, x⟩, hx⟩ : ∃ x, S1.Ls[i]? = some x := ⟨_, List.getElem?_eq_getElem (by rw [hsp.ls, ← HNS.out]; exact hlt)⟩
              obtain ⟨gb, cb, hbv2, hgb, c1, _⟩ := hsp.scell hx
              rw [hbv, hsp.ls, ← HNS.out] at hbv2
              simp only [Value.slice.injEq, true_and] at hbv2
              obtain ⟨rfl, rfl⟩ := hbv2
              obtain ⟨n, hn⟩ : ∃ n, n = x.2.1 := ⟨_, rfl⟩
              obtain ⟨sx, cx, hsx⟩ := sh_slice (hsp.at_.fs.own i x (ls_get hx))
              rw [← hn] at hsx
              have hnM : n ≤ M := by rw [hn]; exact (hph.ls i x (ls_get hx)).1
              rw [hsx] at c1
              have ST : Hid (Sp w W1 S S1 ∧ Ph (QG 0) (QH 1 M 0 0) (QT 3 M i 0) S1 ∧ S1.sv = .slice (some ⟨gb, 0, none⟩) ns ca ∧ ∃ x q, S1.Ls[i]? = some (q, x) ∧ x.1 = .slice sx n cx ∧ x.2.1 = n) := ⟨hsp, hph, hbv, x, q, hx, hsx, hn.symm⟩
              have hlt1 : (i : Int) < (ns : Int) := by omega
              have V1 : IntKind.i64.wrap ((i : Int) + 1) = (i : Int) + 1 := by rw [IntKind.wrap_i64]; omega
              clear hsp hph hx hn hsx hbv
              go_wp2_with fail
              go_loopw [7] (fun kv W => Hid (∃ (k : Nat) (S2 : Sg), kv = .int .i64 (k : Int) ∧ k ≤ n ∧ Sp w W S S2 ∧ Ph (QG 0) (QH 1 M 0 0) (QT 3 M i k) S2 ∧ S2.sv = .slice (some ⟨gb, 0, none⟩) ns ca ∧ ∃ x q, S2.Ls[i]? = some (q, x) ∧ x.1 = .slice sx n cx ∧ x.2.1 = n)) (fun kv _ => match kv with | .int _ k => n + 1 - k.toNat | _ => 0)
              case atStart => exact ⟨0, S1, rfl, Nat.zero_le _, ST.out⟩
              case round =>
                clear ST c0 c1 hgb
                obtain ⟨W2, hW2⟩ : ∃ W2, W2 = wr := ⟨_, rfl⟩
                rw [← hW2] at hrel ⊢
                clear hW2
                obtain ⟨k, S2, rfl, hkn, hsp, hph, hbv, x, q, hx, hx1, hx2⟩ := hrel.out
                clear hrel
                have c0 := hsp.cell.2.2
                rw [← HP.out, hbv] at c0
                obtain ⟨gb2, cb2, hbv2, hgb, c1, _⟩ := hsp.scell hx
                rw [hbv] at hbv2
                simp only [Value.slice.injEq, Option.some.injEq, Addr.mk.injEq] at hbv2
                obtain ⟨⟨rfl, -⟩, -, -⟩ := hbv2
                rw [hx1] at c1
                rcases Nat.lt_or_eq_of_le hkn with hklt | hklt
                · obtain ⟨g, c, z, hv, hg, cz, fz, hN⟩ := hsp.file hx (by rw [hx2]; exact hklt) (encStr (th i))
                  rw [hx1, hx2] at hv
                  simp only [Value.slice.injEq, true_and] at hv
                  obtain ⟨rfl, rfl⟩ := hv
                  have HX1 := hid hx1
                  have HX2 := hid hx2
                  have HBV := hid hbv
                  have HNX := hid hN
                  have HSP := hid hsp
                  have PH2 := hid ((⟨hph.lb, hph.lt, by show All ((S2.Ls.set i _).map (·.2)) _; rw [List.map_set]; exact QT.one (s := 3) (by decide) hph.ls (ls_get hx) (by rw [hx2]; exact hklt) (hsp.at_.fs.own i x (ls_get hx)).1⟩ : Ph (QG 0) (QH 1 M 0 0) (QT 3 M i (k + 1)) { S2 with Ls := S2.Ls.set i (q, x.1, x.2.1, x.2.2.set (k * 3) (encStr (th i))) }))
                  have KS : Hid (∀ W', Below W2.heap.size W2 W' → W'.cell? ⟨p, 2, none⟩ = some (.slice (some ⟨gb, 0, none⟩) ns ca) ∧ W'.cell? ⟨gb, i * 2 + 1, none⟩ = some (.slice (some ⟨g, 0, none⟩) n cx)) := fun W' hb => by
                    have h' := hsp.below hb
                    have d0 := h'.cell.2.2
                    rw [← HP.out, hbv] at d0
                    obtain ⟨gb3, cb3, hbv3, _, d1, _⟩ := h'.scell hx
                    rw [hbv] at hbv3
                    simp only [Value.slice.injEq, Option.some.injEq, Addr.mk.injEq] at hbv3
                    obtain ⟨⟨rfl, -⟩, -, -⟩ := hbv3
                    rw [hx1] at d1
                    exact ⟨d0, d1⟩
                  have KZ : Hid (∀ W', Below W2.heap.size W2 W' → W'.cell? ⟨g, k * 3, none⟩ = some z ∧ W'.frozen? ⟨g, k * 3, none⟩ = false) := fun W' hb => ⟨(hb.cell (p := ⟨g, k * 3, none⟩) hg).trans cz, by rw [World.frozen?_of_block (w := W2) (w' := W') (a := ⟨g, k * 3, none⟩) (hb.block g hg)]; exact fz⟩
                  have KN : Hid (∀ W', Below W2.heap.size W2 W' → (W'.setCell ⟨g, k * 3, none⟩ (encStr (th i))).cell? ⟨p, 2, none⟩ = some (.slice (some ⟨gb, 0, none⟩) ns ca) ∧ (W'.setCell ⟨g, k * 3, none⟩ (encStr (th i))).cell? ⟨gb, i * 2 + 1, none⟩ = some (.slice (some ⟨g, 0, none⟩) n cx)) := fun W' hb => by
                    have h' := hN W' hb
                    have d0 := h'.cell.2.2
                    rw [← HP.out] at d0
                    obtain ⟨gb3, cb3, hbv3, _, d1, _⟩ := h'.scell (i := i) (by show (S2.Ls.set i _)[i]? = _; rw [List.getElem?_set_self (List.getElem?_eq_some_iff.1 hx).1])
                    have hbv4 : S2.sv = .slice (some ⟨gb3, 0, none⟩) _ cb3 := hbv3
                    rw [hbv] at hbv4
                    simp only [Value.slice.injEq, Option.some.injEq, Addr.mk.injEq] at hbv4
                    obtain ⟨⟨rfl, -⟩, -, -⟩ := hbv4
                    have d0' : _ = some S2.sv := d0
                    rw [hbv] at d0'
                    have d1' : _ = some x.1 := d1
                    rw [hx1] at d1'
                    exact ⟨d0', d1'⟩
                  have HX := hid hx
                  have hklt1 : (k : Int) < (n : Int) := by omega
                  have V2 : IntKind.i64.wrap ((k : Int) + 1) = (k : Int) + 1 := by rw [IntKind.wrap_i64]; omega
                  have i0 : (0 : Int) ≤ (i : Int) := by omega
                  have k0 : (0 : Int) ≤ (k : Int) := by omega
                  clear hsp hph hbv hx hx1 hx2 hN
                  go_wp2_with fail
                  refine wp_region_noPanic ?_
                  refine wp_region_held_drew (S := fun W => W.cell? ⟨p, 2, none⟩ = some (.slice (some ⟨gb, 0, none⟩) ns ca) ∧ W.cell? ⟨gb, i * 2 + 1, none⟩ = some (.slice (some ⟨g, 0, none⟩) n cx)) (by kernel_rfl) (KS.out _ (Below.refl _ _).drew) (fun hHeld => ?_)
                  refine wpAnyH_take (i := 0) (v := ?_) (by simp only [List.getElem?_toArray, List.getElem?_cons_zero]; rfl) (by kernel_rfl) (by kernel_rfl) (by kernel_rfl) (fun _ _ _ h => h) (Or.inl ⟨by rfl, ?_⟩) (by assumption) ?_
                  rotate_left 1
                  · intro w hSw; (try dsimp only at hSw); go_simp; (try with_reducible rfl)
                  try simp only [Act.put, List.setIfInBounds_toArray, List.set_cons_zero, List.set_cons_succ]
                  refine wpAnyH_take (i := 1) (v := ?_) (by simp only [List.getElem?_toArray, List.getElem?_cons_succ, List.getElem?_cons_zero]; rfl) (by kernel_rfl) (by kernel_rfl) (by kernel_rfl) (fun _ _ _ h => h) (Or.inl ⟨by rfl, ?_⟩) (by assumption) ?_
                  rotate_left 1
                  · intro w hSw; (try dsimp only at hSw); go_simp; (try with_reducible rfl)
                  try simp only [Act.put, List.setIfInBounds_toArray, List.set_cons_zero, List.set_cons_succ]
                  refine wpAnyH_take (i := 2) (v := ?_) (by simp only [List.getElem?_toArray, List.getElem?_cons_succ, List.getElem?_cons_zero]; rfl) (by kernel_rfl) (by kernel_rfl) (by kernel_rfl) (fun _ _ _ h => h) (Or.inl ⟨by rfl, ?_⟩) (by assumption) ?_
                  rotate_left 1
                  · intro w hSw; (try dsimp only at hSw); go_simp; (try with_reducible rfl)
                  try simp only [Act.put, List.setIfInBounds_toArray, List.set_cons_zero, List.set_cons_succ]
                  refine wpAnyH_take (i := 3) (v := ?_) (by simp only [List.getElem?_toArray, List.getElem?_cons_succ, List.getElem?_cons_zero]; rfl) (by kernel_rfl) (by kernel_rfl) (by kernel_rfl) (fun _ _ _ h => h) (Or.inl ⟨by rfl, ?_⟩) (by assumption) ?_
                  rotate_left 1
                  · intro w hSw; (try dsimp only at hSw); go_simp; (try with_reducible rfl)
                  try simp only [Act.put, List.setIfInBounds_toArray, List.set_cons_zero, List.set_cons_succ]
                  refine wpAnyH_take (i := 4) (v := ?_) (by simp only [List.getElem?_toArray, List.getElem?_cons_succ, List.getElem?_cons_zero]; rfl) (by kernel_rfl) (by kernel_rfl) (by kernel_rfl) (fun _ _ _ h => h) (Or.inl ⟨by rfl, ?_⟩) (by assumption) ?_
                  rotate_left 1
                  · intro w hSw; (try dsimp only at hSw); go_simp; (try with_reducible rfl)
                  try simp only [Act.put, List.setIfInBounds_toArray, List.set_cons_zero, List.set_cons_succ]
                  refine wpAnyH_take (i := 5) (v := ?_) (by simp only [List.getElem?_toArray, List.getElem?_cons_succ, List.getElem?_cons_zero]; rfl) (by kernel_rfl) (by kernel_rfl) (by kernel_rfl) (fun _ _ _ h => h) (Or.inl ⟨by rfl, ?_⟩) (by assumption) ?_
                  rotate_left 1
                  · intro w hSw; (try dsimp only at hSw); go_simp; (try with_reducible rfl)
                  try simp only [Act.put, List.setIfInBounds_toArray, List.set_cons_zero, List.set_cons_succ]
                  refine wpAnyH_take (i := 6) (v := ?_) (by simp only [List.getElem?_toArray, List.getElem?_cons_succ, List.getElem?_cons_zero]; rfl) (by kernel_rfl) (by kernel_rfl) (by kernel_rfl) (fun _ _ _ h => h) (Or.inl ⟨by rfl, ?_⟩) (by assumption) ?_
                  rotate_left 1
                  · intro w hSw; (try dsimp only at hSw); go_simp; (try with_reducible rfl)
                  try simp only [Act.put, List.setIfInBounds_toArray, List.set_cons_zero, List.set_cons_succ]
                  refine wpAnyH_take (i := 7) (v := ?_) (by simp only [List.getElem?_toArray, List.getElem?_cons_succ, List.getElem?_cons_zero]; rfl) (by kernel_rfl) (by kernel_rfl) (by kernel_rfl) (fun _ _ _ h => h) (Or.inl ⟨by rfl, ?_⟩) (by assumption) ?_
                  rotate_left 1
                  · intro w hSw; (try dsimp only at hSw); go_simp; (try with_reducible rfl)
                  try simp only [Act.put, List.setIfInBounds_toArray, List.set_cons_zero, List.set_cons_succ]
                  refine wpAnyH_take (i := 8) (v := ?_) (by simp only [List.getElem?_toArray, List.getElem?_cons_succ, List.getElem?_cons_zero]; rfl) (by kernel_rfl) (by kernel_rfl) (by kernel_rfl) (fun _ _ _ h => h) (Or.inl ⟨by rfl, ?_⟩) (by assumption) ?_
                  rotate_left 1
                  · intro w hSw; (try dsimp only at hSw); go_simp; (try with_reducible rfl)
                  try simp only [Act.put, List.setIfInBounds_toArray, List.set_cons_zero, List.set_cons_succ]
                  refine wpAnyH_take (i := 9) (v := ?_) (by simp only [List.getElem?_toArray, List.getElem?_cons_succ, List.getElem?_cons_zero]; rfl) (by kernel_rfl) (by kernel_rfl) (by kernel_rfl) (fun _ _ _ h => h) (Or.inl ⟨by rfl, ?_⟩) (by assumption) ?_
                  rotate_left 1
                  · intro w hSw; (try dsimp only at hSw); go_simp; (try with_reducible rfl)
                  try simp only [Act.put, List.setIfInBounds_toArray, List.set_cons_zero, List.set_cons_succ]
                  refine wpAnyH_ready (rs := [10]) (by kernel_rfl) (by simp) ?_
                  refine AllReadyH.cons (by simp only [List.getElem?_toArray, List.getElem?_cons_succ, List.getElem?_cons_zero]; rfl) (fun K hK => ?_) AllReadyH.nil
                  go_simp
                  go_at_call 44
                  refine Calls.mono (three_any (i : Int)) ?_
                  rintro e W3 ⟨rfl, ht3⟩
                  have B3 : Hid (Below W2.heap.size W2 W3) := (Below.refl _ _).drew.trans (ht3.below (Nat.le_refl _) (by simp))
                  have ks3 := KS.out _ B3.out
                  have kz3 := KZ.out _ B3.out
                  clear ht3
                  clear hHeld
                  refine hK.out _ _ ks3 (fun hHeld => ?_)
                  clear hK K
                  try simp only [Act.put, List.setIfInBounds_toArray, List.set_cons_zero, List.set_cons_succ]
                  refine wpAnyH_take (i := 11) (v := ?_) (by simp only [List.getElem?_toArray, List.getElem?_cons_succ, List.getElem?_cons_zero]; rfl) (by kernel_rfl) (by kernel_rfl) (by kernel_rfl) (fun _ _ _ h => h) (Or.inl ⟨by rfl, ?_⟩) (by assumption) ?_
                  rotate_left 1
                  · intro w hSw; (try dsimp only at hSw); go_simp; (try with_reducible rfl)
                  try simp only [Act.put, List.setIfInBounds_toArray, List.set_cons_zero, List.set_cons_succ]
                  refine wpAnyH_take (i := 12) (v := ?_) (by simp only [List.getElem?_toArray, List.getElem?_cons_succ, List.getElem?_cons_zero]; rfl) (by kernel_rfl) (by kernel_rfl) (by kernel_rfl) (fun _ _ _ h => h) (Or.inl ⟨by rfl, ?_⟩) (by assumption) ?_
                  rotate_left 1
                  · intro w hSw; (try dsimp only at hSw); go_simp; (try with_reducible rfl)
                  try simp only [Act.put, List.setIfInBounds_toArray, List.set_cons_zero, List.set_cons_succ]
                  refine wpAnyH_ready (rs := [13]) (by kernel_rfl) (by simp) ?_
                  refine AllReadyH.cons (by simp only [List.getElem?_toArray, List.getElem?_cons_succ, List.getElem?_cons_zero]; rfl) (fun K hK => ?_) AllReadyH.nil
                  go_simp
                  clear hHeld
                  refine hK.out _ _ (KN.out _ B3.out) (fun hHeld => ?_)
                  clear hK K
                  try simp only [Act.put, List.setIfInBounds_toArray, List.set_cons_zero, List.set_cons_succ]
                  refine wpAnyH_done (by kernel_rfl) ?_ _
                  refine NoPanic.normal ?_
                  have SPN := hid (HNX.out _ B3.out)
                  clear ks3 kz3
                  go_wp2_with fail
                  clear V1 V2
                  refine ⟨⟨k + 1, _, by go_num, by omega, SPN.out, PH2.out, HBV.out, (x.1, x.2.1, x.2.2.set (k * 3) (encStr (th i))), q, (by show (S2.Ls.set i _)[i]? = _; rw [List.getElem?_set_self (List.getElem?_eq_some_iff.1 HX.out).1]), HX1.out, HX2.out⟩, ?_⟩
                  show n + 1 - ((k : Int) + 1).toNat < n + 1 - (k : Int).toNat
                  omega
                · have hklt1 : ¬ (k : Int) < (n : Int) := by omega
                  have NX : Hid (Sp w W2 S S2 ∧ Ph (QG 0) (QH 1 M 0 0) (QT 3 M (i + 1) 0) S2) := ⟨hsp, ⟨hph.lb, hph.lt, QT.next hph.ls (ls_get hx) (by omega)⟩⟩
                  clear hsp hph hbv hx hx1 hx2
                  go_wp2_with fail
                  clear V1
                  refine ⟨⟨i + 1, _, by go_num, by omega, NX.out⟩, ?_⟩
                  show ns + 1 - ((i : Int) + 1).toNat < ns + 1 - (i : Int).toNat
                  omega
            · have hlt1 : ¬ (i : Int) < (ns : Int) := by omega
              have ST : Hid (Sp w W1 S S1 ∧ Ph (QG 0) (QH 1 M 0 0) (QH 3 M 0 0) S1) := ⟨hsp, ⟨hph.lb, hph.lt, QT.done hph.ls (by rw [List.length_map, hsp.ls, ← HNS.out]; omega)⟩⟩
              obtain ⟨SC, hSA⟩ : ∃ SA, SA = S1 := ⟨_, rfl⟩
              rw [← hSA] at ST
              clear hsp hph hbv hSA hin
              have hl9 := hlt.symm
              clear hlt
              subst hl9
              go_wp2_with fail
              clear c0 hlt1
              go_loopw [8, 9] (fun iv _ W => Hid (∃ (i : Nat) (S1 : Sg), iv = .int .i64 (i : Int) ∧ i ≤ nb ∧ Sp w W S S1 ∧ Ph (QG i) (QH 1 M 0 0) (QH 3 M 0 0) S1)) (fun iv _ _ => match iv with | .int _ i => nb + 1 - i.toNat | _ => 0)
              case atStart => exact ⟨0, SC, rfl, Nat.zero_le _, ST.out.1, ST.out.2⟩

              case round =>
                clear ST
                obtain ⟨W1, hW1⟩ : ∃ W1, W1 = wr := ⟨_, rfl⟩
                rw [← hW1] at hrel ⊢
                clear hW1
                obtain ⟨i, S1, rfl, hin, hsp, hph⟩ := hrel.out
                clear hrel
                have c0 := hsp.cell.1
                rw [← HP.out] at c0
                obtain ⟨sa, ca, hbv⟩ := sh_slice hsp.at_.rb
                rw [hsp.lb, ← HNB.out] at hbv
                rw [hbv] at c0

                rcases Nat.lt_or_eq_of_le hin with hlt | hlt
                · obtain ⟨x, hx⟩ : ∃ x, S1.Lb[i]? = some x := ⟨_, List.getElem?_eq_getElem (by rw [hsp.lb, ← HNB.out]; exact hlt)⟩
                  obtain ⟨gb, cb, hbv2, hgb, c1, _⟩ := hsp.bcell hx
                  rw [hbv, hsp.lb, ← HNB.out] at hbv2
                  simp only [Value.slice.injEq, true_and] at hbv2
                  obtain ⟨rfl, rfl⟩ := hbv2
                  obtain ⟨n, hn⟩ : ∃ n, n = x.2.1 := ⟨_, rfl⟩
                  obtain ⟨sx, cx, hsx⟩ := sh_slice (hsp.at_.fb.own i x hx)
                  rw [← hn] at hsx
                  have hok := (hph.lb i x hx).2 (Nat.le_refl _)
                  have hnM : n ≤ 65536 := by rw [hn]; exact hok.1.2.1
                  have HBV := hid hbv
                  have HX := hid hx
                  have HSX := hid hsx
                  have HN0 := hid hn
                  have HOK := hid hok
                  have HSP := hid hsp
                  have HPH := hid hph
                  obtain ⟨Mz, hMs, hMz, hmk⟩ := make64
                  obtain ⟨Y, hY⟩ : ∃ Y, Y = W1.alloc (.cells Mz 5) := ⟨_, rfl⟩
                  have BY : Hid (Below W1.heap.size W1 Y) := by rw [hY]; exact (Below.refl _ _).alloc (Nat.le_refl _) _
                  have FN := hid (fill_new (w := W1) (W := Y) (c := 64) ((i : Int) + 1) (by rw [hY]; exact heap_alloc_new W1 _) hMs hMz (Nat.le_refl _) BY.out.size)
                  have HYE := hid hY
                  clear hMs hMz
                  have hlt1 : (i : Int) < (nb : Int) := by omega
                  have V1 : IntKind.i64.wrap ((i : Int) + 1) = (i : Int) + 1 := by rw [IntKind.wrap_i64]; omega
                  have i0 : (0 : Int) ≤ (i : Int) := by omega
                  clear hsp hph hx hn hsx hbv hok hY c1
                  go_wp2_with (first
                    | (rw [← HYE.out])
                    | (go_at_call 43; refine FN.out.mono ?_; rintro e W2 ⟨rfl, b2, news, nl, nm, n1, nr⟩; have B2 : Hid (Below W1.heap.size W1 W2) := BY.out.trans b2; have NL := hid nl; have NM := hid nm; have ONE := hid n1; have NR := hid nr; clear b2 nl nm n1 nr))
                  have KS : Hid (∀ W', Below W2.heap.size W2 W' → W'.cell? ⟨p, 0, none⟩ = some (.slice (some ⟨gb, 0, none⟩) nb ca)) := fun W' hb => by
                    have h' := HSP.out.below (B2.out.trans (hb.mono B2.out.size))
                    have d0 := h'.cell.1
                    rw [← HP.out, HBV.out] at d0
                    exact d0
                  have KL : Hid (∀ W', Below W2.heap.size W2 W' → W'.cell? ⟨gb, i, none⟩ = some (.slice sx n cx)) := fun W' hb => by
                    have h' := HSP.out.below (B2.out.trans (hb.mono B2.out.size))
                    obtain ⟨gb3, cb3, hbv3, _, d1, _⟩ := h'.bcell HX.out
                    rw [HBV.out] at hbv3
                    simp only [Value.slice.injEq, Option.some.injEq, Addr.mk.injEq] at hbv3
                    obtain ⟨⟨rfl, -⟩, -, -⟩ := hbv3
                    rw [HSX.out] at d1
                    exact d1
                  have OWN : Hid (∀ W', Below W2.heap.size W2 W' → W'.ownsRow 0 5 1 (.slice sx n cx) n x.2.2) := fun W' hb => by
                    have h' := (HSP.out.below (B2.out.trans (hb.mono B2.out.size))).at_.fb.own i x HX.out
                    rw [HSX.out, ← HN0.out] at h'
                    exact h'
                  have NW : Hid (∀ W', Below W2.heap.size W2 W' → ∀ (j : Nat) (u : Value), news[j]? = some u → W'.cell? ((⟨W1.heap.size, 0, none⟩ : Addr).add j) = some u) := fun W' hb j u hu => by
                    have hr := (hb.block _ (lt_of_block NR.out)).trans NR.out
                    rw [add_zero_addr, cell_row hr]
                    simpa using hu
                  have NXT : Hid (∀ (s6 : Option Addr) (c6 : Nat) (W6 : World), W6.ownsRow 0 5 1 (.slice s6 (n + 64) c6) (n + 64) (x.2.2 ++ news) → (((Value.slice s6 (n + 64) c6).ownBlock = (Value.slice sx n cx).ownBlock ∧ W2.drew.grownBy W6 (Value.slice sx n cx).ownBlock) ∨ ((∀ g, (Value.slice s6 (n + 64) c6).ownBlock = some g → W2.drew.heap.size ≤ g) ∧ W2.drew.grownBy W6 none)) →
                      Sp w (W6.setCell ⟨gb, i, none⟩ (.slice s6 (n + 64) c6)) S { S1 with Lb := S1.Lb.set i (.slice s6 (n + 64) c6, n + 64, x.2.2 ++ news) } ∧ W6.frozen? ⟨gb, i, none⟩ = false ∧ W6.cell? ⟨gb, i, none⟩ = some (.slice sx n cx) ∧ W6.cell? ⟨p, 0, none⟩ = some (.slice (some ⟨gb, 0, none⟩) nb ca) ∧ (W6.setCell ⟨gb, i, none⟩ (.slice s6 (n + 64) c6)).cell? ⟨p, 0, none⟩ = some (.slice (some ⟨gb, 0, none⟩) nb ca)) := fun s6 c6 W6 o6 f6 => by
                    have h' := HSP.out.below (B2.out.trans ((Below.refl W2.heap.size W2).drew.mono B2.out.size))
                    have f7 := f6
                    rw [← HSX.out] at f7
                    have r := h'.growB (y := (.slice s6 (n + 64) c6, n + 64, x.2.2 ++ news)) HX.out HBV.out (by rw [h'.lb]; exact HNB.out) o6 f7
                    obtain ⟨r1, r2, r3, r4, r5⟩ := r
                    rw [← HP.out, HBV.out] at r4 r5
                    rw [HSX.out] at r3
                    exact ⟨r1, r2, r3, r4, r5⟩
                  have PHN : Hid (∀ v, Ph (QG (i + 1)) (QH 1 M 0 0) (QH 3 M 0 0) { S1 with Lb := S1.Lb.set i (v, n + 64, x.2.2 ++ news) }) := fun v => ⟨QG.next HPH.out.lb (by rw [HN0.out]; exact MkG.of HOK.out.1 HOK.out.2 (HSP.out.at_.fb.own i x HX.out).1 NM.out), HPH.out.lt, HPH.out.ls⟩
                  clear HSP HPH HX HSX HOK HYE FN hmk BY
                  try clear c0 hgb
                  refine wp_region_noPanic ?_
                  refine wp_region_held_drew (S := fun W => W.cell? ⟨p, 0, none⟩ = some (.slice (some ⟨gb, 0, none⟩) nb ca)) (by kernel_rfl) (KS.out _ (Below.refl _ _).drew) (fun hHeld => ?_)
                  refine wpAnyH_take (i := 0) (v := ?_) (by simp only [List.getElem?_toArray, List.getElem?_cons_zero]; rfl) (by kernel_rfl) (by kernel_rfl) (by kernel_rfl) (fun _ _ _ h => h) (Or.inl ⟨by rfl, ?_⟩) (by assumption) ?_
                  rotate_left 1
                  · intro w hSw; (try dsimp only at hSw); go_simp; (try with_reducible rfl)
                  try simp only [Act.put, List.setIfInBounds_toArray, List.set_cons_zero, List.set_cons_succ]
                  refine wpAnyH_take (i := 1) (v := ?_) (by simp only [List.getElem?_toArray, List.getElem?_cons_succ, List.getElem?_cons_zero]; rfl) (by kernel_rfl) (by kernel_rfl) (by kernel_rfl) (fun _ _ _ h => h) (Or.inl ⟨by rfl, ?_⟩) (by assumption) ?_
                  rotate_left 1
                  · intro w hSw; (try dsimp only at hSw); go_simp; (try with_reducible rfl)
                  try simp only [Act.put, List.setIfInBounds_toArray, List.set_cons_zero, List.set_cons_succ]
                  refine wpAnyH_take (i := 2) (v := ?_) (by simp only [List.getElem?_toArray, List.getElem?_cons_succ, List.getElem?_cons_zero]; rfl) (by kernel_rfl) (by kernel_rfl) (by kernel_rfl) (fun _ _ _ h => h) (Or.inl ⟨by rfl, ?_⟩) (by assumption) ?_
                  rotate_left 1
                  · intro w hSw; (try dsimp only at hSw); go_simp; (try with_reducible rfl)
                  try simp only [Act.put, List.setIfInBounds_toArray, List.set_cons_zero, List.set_cons_succ]
                  refine wpAnyH_take (i := 3) (v := ?_) (by simp only [List.getElem?_toArray, List.getElem?_cons_succ, List.getElem?_cons_zero]; rfl) (by kernel_rfl) (by kernel_rfl) (by kernel_rfl) (fun _ _ _ h => h) (Or.inl ⟨by rfl, ?_⟩) (by assumption) ?_
                  rotate_left 1
                  · intro w hSw; (try dsimp only at hSw); go_simp; (try with_reducible rfl)
                  try simp only [Act.put, List.setIfInBounds_toArray, List.set_cons_zero, List.set_cons_succ]
                  refine wpAnyH_take (i := 4) (v := ?_) (by simp only [List.getElem?_toArray, List.getElem?_cons_succ, List.getElem?_cons_zero]; rfl) (by kernel_rfl) (by kernel_rfl) (by kernel_rfl) (fun _ _ _ h => h) (Or.inl ⟨by rfl, ?_⟩) (by assumption) ?_
                  rotate_left 1
                  · intro w hSw; (try dsimp only at hSw); go_simp; (try with_reducible rfl)
                  try simp only [Act.put, List.setIfInBounds_toArray, List.set_cons_zero, List.set_cons_succ]
                  refine wpAnyH_take (i := 5) (v := ?_) (by simp only [List.getElem?_toArray, List.getElem?_cons_succ, List.getElem?_cons_zero]; rfl) (by kernel_rfl) (by kernel_rfl) (by kernel_rfl) (fun _ _ _ h => h) (Or.inl ⟨by rfl, ?_⟩) (by assumption) ?_
                  rotate_left 1
                  · intro w hSw; (try dsimp only at hSw); go_simp; (try with_reducible rfl)
                  try simp only [Act.put, List.setIfInBounds_toArray, List.set_cons_zero, List.set_cons_succ]
                  refine wpAnyH_take (i := 6) (v := ?_) (by simp only [List.getElem?_toArray, List.getElem?_cons_succ, List.getElem?_cons_zero]; rfl) (by kernel_rfl) (by kernel_rfl) (by kernel_rfl) (fun _ _ _ h => h) (Or.inl ⟨by rfl, ?_⟩) (by assumption) ?_
                  rotate_left 1
                  · intro w hSw; (try dsimp only at hSw); go_simp; (try with_reducible rfl)
                  try simp only [Act.put, List.setIfInBounds_toArray, List.set_cons_zero, List.set_cons_succ]
                  refine wpAnyH_take (i := 7) (v := ?_) (by simp only [List.getElem?_toArray, List.getElem?_cons_succ, List.getElem?_cons_zero]; rfl) (by kernel_rfl) (by kernel_rfl) (by kernel_rfl) (fun _ _ _ h => h) (Or.inl ⟨by rfl, ?_⟩) (by assumption) ?_
                  rotate_left 1
                  · intro w hSw; (try dsimp only at hSw); go_simp; (try with_reducible rfl)
                  try simp only [Act.put, List.setIfInBounds_toArray, List.set_cons_zero, List.set_cons_succ]
                  refine wpAnyH_take (i := 8) (v := ?_) (by simp only [List.getElem?_toArray, List.getElem?_cons_succ, List.getElem?_cons_zero]; rfl) (by kernel_rfl) (by kernel_rfl) (by kernel_rfl) (fun _ _ _ h => h) (Or.inl ⟨by rfl, ?_⟩) (by assumption) ?_
                  rotate_left 1
                  · intro w hSw; (try dsimp only at hSw); go_simp; (try with_reducible rfl)
                  try simp only [Act.put, List.setIfInBounds_toArray, List.set_cons_zero, List.set_cons_succ]
                  refine wpAnyH_take (i := 9) (v := ?_) (by simp only [List.getElem?_toArray, List.getElem?_cons_succ, List.getElem?_cons_zero]; rfl) (by kernel_rfl) (by kernel_rfl) (by kernel_rfl) (fun _ _ _ h => h) (Or.inl ⟨by rfl, ?_⟩) (by assumption) ?_
                  rotate_left 1
                  · intro w hSw; (try dsimp only at hSw); go_simp; (try with_reducible rfl)
                  try simp only [Act.put, List.setIfInBounds_toArray, List.set_cons_zero, List.set_cons_succ]
                  refine wpAnyH_take (i := 10) (v := ?_) (by simp only [List.getElem?_toArray, List.getElem?_cons_succ, List.getElem?_cons_zero]; rfl) (by kernel_rfl) (by kernel_rfl) (by kernel_rfl) (fun _ _ _ h => h) (Or.inl ⟨by rfl, ?_⟩) (by assumption) ?_
                  rotate_left 1
                  · intro w hSw; (try dsimp only at hSw); go_simp; (try with_reducible rfl)
                  try simp only [Act.put, List.setIfInBounds_toArray, List.set_cons_zero, List.set_cons_succ]
                  refine wpAnyH_take (i := 12) (v := ?_) (by simp only [List.getElem?_toArray, List.getElem?_cons_succ, List.getElem?_cons_zero]; rfl) (by kernel_rfl) (by kernel_rfl) (by kernel_rfl) (fun _ _ _ h => h) (Or.inl ⟨by rfl, ?_⟩) (by assumption) ?_
                  rotate_left 1
                  · intro w hSw; (try dsimp only at hSw); go_simp; (try with_reducible rfl)
                  try simp only [Act.put, List.setIfInBounds_toArray, List.set_cons_zero, List.set_cons_succ]
                  refine wpAnyH_ready (rs := [11]) (by kernel_rfl) (by simp) ?_
                  refine AllReadyH.cons (by simp only [List.getElem?_toArray, List.getElem?_cons_succ, List.getElem?_cons_zero]; rfl) (fun K hK => ?_) AllReadyH.nil
                  skip
                  have cl := KL.out _ (Below.refl _ _).drew
                  go_simp
                  clear cl
                  clear hHeld
                  refine hK.out _ _ (KS.out _ (Below.refl _ _).drew) (fun hHeld => ?_)
                  clear hK K
                  try simp only [Act.put, List.setIfInBounds_toArray, List.set_cons_zero, List.set_cons_succ]
                  refine wpAnyH_ready (rs := [13]) (by kernel_rfl) (by simp) ?_
                  refine AllReadyH.cons (by simp only [List.getElem?_toArray, List.getElem?_cons_succ, List.getElem?_cons_zero]; rfl) (fun K hK => ?_) AllReadyH.nil
                  skip
                  refine wp_far _ _ 31 5 _ 1 1 rfl Tryz.underlying31 info5 rfl (by decide) 0 n 64 64 (.slice sx n cx) x.2.2 news ⟨W1.heap.size, 0, none⟩ rfl (OWN.out _ (Below.refl _ _).drew) rfl (by rw [NL.out]) (NW.out _ (Below.refl _ _).drew) ONE.out (by omega) (by omega) (Nat.zero_le _) ?_
                  intro v6 W6 o6 f6
                  obtain ⟨s6, c6, rfl⟩ := sh_slice o6
                  obtain ⟨g1, g2, g3, g4, g5⟩ := NXT.out _ _ _ o6 f6
                  have SPN := hid g1
                  have G5 := hid g5
                  clear o6 f6 g1 g5
                  clear hHeld
                  refine hK.out _ _ g4 (fun hHeld => ?_)
                  clear hK K
                  try simp only [Act.put, List.setIfInBounds_toArray, List.set_cons_zero, List.set_cons_succ]
                  refine wpAnyH_take (i := 14) (v := ?_) (by simp only [List.getElem?_toArray, List.getElem?_cons_succ, List.getElem?_cons_zero]; rfl) (by kernel_rfl) (by kernel_rfl) (by kernel_rfl) (fun _ _ _ h => h) (Or.inl ⟨by rfl, ?_⟩) (by assumption) ?_
                  rotate_left 1
                  · intro w hSw; (try dsimp only at hSw); go_simp; (try with_reducible rfl)
                  try simp only [Act.put, List.setIfInBounds_toArray, List.set_cons_zero, List.set_cons_succ]
                  refine wpAnyH_ready (rs := [15]) (by kernel_rfl) (by simp) ?_
                  refine AllReadyH.cons (by simp only [List.getElem?_toArray, List.getElem?_cons_succ, List.getElem?_cons_zero]; rfl) (fun K hK => ?_) AllReadyH.nil
                  go_simp
                  clear hHeld
                  refine hK.out _ _ G5.out (fun hHeld => ?_)
                  clear hK K
                  try simp only [Act.put, List.setIfInBounds_toArray, List.set_cons_zero, List.set_cons_succ]
                  refine wpAnyH_done (by kernel_rfl) ?_ _
                  refine NoPanic.normal ?_
                  go_wp2_with fail
                  clear V1
                  refine ⟨⟨i + 1, _, by go_num, by omega, SPN.out, PHN.out _⟩, ?_⟩
                  show nb + 1 - ((i : Int) + 1).toNat < nb + 1 - (i : Int).toNat
                  omega
                · have hlt1 : ¬ (i : Int) < (nb : Int) := by omega
                  have ST : Hid (Sp w W1 S S1 ∧ Ph MkG (QH 1 M 0 0) (QH 3 M 0 0) S1) := ⟨hsp, ⟨QG.done hph.lb (by rw [hsp.lb, ← HNB.out]; omega), hph.lt, hph.ls⟩⟩
                  obtain ⟨SD, hSA⟩ : ∃ SA, SA = S1 := ⟨_, rfl⟩
                  rw [← hSA] at ST
                  clear hsp hph hbv hSA hin
                  have hl9 := hlt.symm
                  clear hlt
                  subst hl9
                  go_wp2_with fail
                  clear c0 hlt1
                  go_loopw [10, 11] (fun iv _ W => Hid (∃ (i : Nat) (S1 : Sg), iv = .int .i64 (i : Int) ∧ i ≤ nt ∧ Sp w W S S1 ∧ Ph MkG (QH 1 M i 0) (QH 3 M 0 0) S1)) (fun iv _ _ => match iv with | .int _ i => nt + 1 - i.toNat | _ => 0)
                  case atStart => exact ⟨0, SD, rfl, Nat.zero_le _, ST.out.1, ST.out.2⟩

                  case round =>
                    clear ST
                    obtain ⟨W1, hW1⟩ : ∃ W1, W1 = wr := ⟨_, rfl⟩
                    rw [← hW1] at hrel ⊢
                    clear hW1
                    obtain ⟨i, S1, rfl, hin, hsp, hph⟩ := hrel.out
                    clear hrel
                    have c0 := hsp.cell.2.1
                    rw [← HP.out] at c0
                    obtain ⟨sa, ca, hbv⟩ := sh_slice hsp.at_.rt
                    rw [hsp.lt, ← HNT.out] at hbv
                    rw [hbv] at c0

                    rcases Nat.lt_or_eq_of_le hin with hlt | hlt
                    · obtain ⟨x, hx⟩ : ∃ x, S1.Lt[i]? = some x := ⟨_, List.getElem?_eq_getElem (by rw [hsp.lt, ← HNT.out]; exact hlt)⟩
                      obtain ⟨gb, cb, hbv2, hgb, c1, _⟩ := hsp.tcell hx
                      rw [hbv, hsp.lt, ← HNT.out] at hbv2
                      simp only [Value.slice.injEq, true_and] at hbv2
                      obtain ⟨rfl, rfl⟩ := hbv2
                      have ST : Hid (Sp w W1 S S1 ∧ Ph MkG (QH 1 M i 0) (QH 3 M 0 0) S1 ∧ S1.tv = .slice (some ⟨gb, 0, none⟩) nt ca) := ⟨hsp, hph, hbv⟩
                      have hlt1 : (i : Int) < (nt : Int) := by omega
                      have V1 : IntKind.i64.wrap ((i : Int) + 1) = (i : Int) + 1 := by rw [IntKind.wrap_i64]; omega
                      clear hsp hph hx hbv c1
                      go_wp2_with fail
                      go_loopw [11] (fun kv W => Hid (∃ (k : Nat) (S2 : Sg), kv = .int .i64 (k : Int) ∧ k ≤ 64 ∧ Sp w W S S2 ∧ Ph MkG (QH 1 M i k) (QH 3 M 0 0) S2 ∧ S2.tv = .slice (some ⟨gb, 0, none⟩) nt ca)) (fun kv _ => match kv with | .int _ k => 64 + 1 - k.toNat | _ => 0)
                      case atStart => exact ⟨0, S1, rfl, Nat.zero_le _, ST.out⟩
                      case round =>
                        clear ST c0 hgb
                        obtain ⟨W2, hW2⟩ : ∃ W2, W2 = wr := ⟨_, rfl⟩
                        rw [← hW2] at hrel ⊢
                        clear hW2
                        obtain ⟨k, S2, rfl, hkn, hsp, hph, hbv⟩ := hrel.out
                        clear hrel
                        rcases Nat.lt_or_eq_of_le hkn with hklt | hklt
                        · obtain ⟨x, hx⟩ : ∃ x, S2.Lt[i]? = some x := ⟨_, List.getElem?_eq_getElem (by rw [hsp.lt, ← HNT.out]; exact hlt)⟩
                          obtain ⟨n, hn⟩ : ∃ n, n = x.2.1 := ⟨_, rfl⟩
                          obtain ⟨sx, cx, hsx⟩ := sh_slice (hsp.at_.ft.own i x hx)
                          rw [← hn] at hsx
                          have hnM : n ≤ M + k := by rw [hn]; exact (hph.lt i x hx).2.2.1 rfl
                          have HBV := hid hbv
                          have HX := hid hx
                          have HSX := hid hsx
                          have HN0 := hid hn
                          have HSP := hid hsp
                          have KS : Hid (∀ W', Below W2.heap.size W2 W' → W'.cell? ⟨p, 1, none⟩ = some (.slice (some ⟨gb, 0, none⟩) nt ca)) := fun W' hb => by
                            have h' := hsp.below hb
                            have d0 := h'.cell.2.1
                            rw [← HP.out, hbv] at d0
                            exact d0
                          have KL : Hid (∀ W', Below W2.heap.size W2 W' → W'.cell? ⟨gb, i, none⟩ = some (.slice sx n cx)) := fun W' hb => by
                            have h' := hsp.below hb
                            obtain ⟨gb3, cb3, hbv3, _, d1, _⟩ := h'.tcell hx
                            rw [hbv] at hbv3
                            simp only [Value.slice.injEq, Option.some.injEq, Addr.mk.injEq] at hbv3
                            obtain ⟨⟨rfl, -⟩, -, -⟩ := hbv3
                            rw [hsx] at d1
                            exact d1
                          have OWN : Hid (∀ W', Below W2.heap.size W2 W' → W'.ownsRow 0 9 1 (.slice sx n cx) n x.2.2) := fun W' hb => by
                            have h' := (hsp.below hb).at_.ft.own i x hx
                            rw [hsx, ← hn] at h'
                            exact h'
                          have NXT : Hid (∀ Y5, Below W2.heap.size W2 Y5 → ∀ (s6 : Option Addr) (c6 : Nat) (W6 : World), W6.ownsRow 0 9 1 (.slice s6 (n + 1) c6) (n + 1) (x.2.2 ++ [.string ⟨(th i).toArray⟩]) → (((Value.slice s6 (n + 1) c6).ownBlock = (Value.slice sx n cx).ownBlock ∧ Y5.grownBy W6 (Value.slice sx n cx).ownBlock) ∨ ((∀ g, (Value.slice s6 (n + 1) c6).ownBlock = some g → Y5.heap.size ≤ g) ∧ Y5.grownBy W6 none)) →
                              Sp w (W6.setCell ⟨gb, i, none⟩ (.slice s6 (n + 1) c6)) S { S2 with Lt := S2.Lt.set i (.slice s6 (n + 1) c6, n + 1, x.2.2 ++ [.string ⟨(th i).toArray⟩]) } ∧ W6.frozen? ⟨gb, i, none⟩ = false ∧ W6.cell? ⟨gb, i, none⟩ = some (.slice sx n cx) ∧ W6.cell? ⟨p, 1, none⟩ = some (.slice (some ⟨gb, 0, none⟩) nt ca) ∧ (W6.setCell ⟨gb, i, none⟩ (.slice s6 (n + 1) c6)).cell? ⟨p, 1, none⟩ = some (.slice (some ⟨gb, 0, none⟩) nt ca)) := fun Y5 hb s6 c6 W6 o6 f6 => by
                            have h' := hsp.below hb
                            have f7 := f6
                            rw [← hsx] at f7
                            have r := h'.growT (y := (.slice s6 (n + 1) c6, n + 1, x.2.2 ++ [.string ⟨(th i).toArray⟩])) hx hbv (by rw [h'.lt]; exact HNT.out) o6 f7
                            obtain ⟨r1, r2, r3, r4, r5⟩ := r
                            rw [← HP.out, hbv] at r4 r5
                            rw [hsx] at r3
                            exact ⟨r1, r2, r3, r4, r5⟩
                          have PHN : Hid (∀ s6 : Value, Ph MkG (QH 1 M i (k + 1)) (QH 3 M 0 0) { S2 with Lt := S2.Lt.set i (s6, n + 1, x.2.2 ++ [.string ⟨(th i).toArray⟩]) }) := fun s6 => ⟨hph.lb, by rw [hn]; exact QH.one (by decide) hph.lt hx hklt (hsp.at_.ft.own i x hx).1 rfl, hph.ls⟩
                          have B0 : Hid (Below W2.heap.size W2 W2.drew) := (Below.refl _ _).drew
                          have hklt1 : (k : Int) < 64 := by omega
                          have V2 : IntKind.i64.wrap ((k : Int) + 1) = (k : Int) + 1 := by rw [IntKind.wrap_i64]; omega
                          have i0 : (0 : Int) ≤ (i : Int) := by omega
                          have hM2 : n ≤ 1073741824 + 64 := by omega
                          clear hsp hph hbv hx hsx hn HSP HX HSX
                          go_wp2_with fail
                          refine wp_region_noPanic ?_
                          refine wp_region_held_drew (S := fun W => W.cell? ⟨p, 1, none⟩ = some (.slice (some ⟨gb, 0, none⟩) nt ca)) (by kernel_rfl) (KS.out _ B0.out) (fun hHeld => ?_)
                          refine wpAnyH_take (i := 0) (v := ?_) (by simp only [List.getElem?_toArray, List.getElem?_cons_zero]; rfl) (by kernel_rfl) (by kernel_rfl) (by kernel_rfl) (fun _ _ _ h => h) (Or.inl ⟨by rfl, ?_⟩) (by assumption) ?_
                          rotate_left 1
                          · intro w hSw; (try dsimp only at hSw); go_simp; (try with_reducible rfl)
                          try simp only [Act.put, List.setIfInBounds_toArray, List.set_cons_zero, List.set_cons_succ]
                          refine wpAnyH_take (i := 1) (v := ?_) (by simp only [List.getElem?_toArray, List.getElem?_cons_succ, List.getElem?_cons_zero]; rfl) (by kernel_rfl) (by kernel_rfl) (by kernel_rfl) (fun _ _ _ h => h) (Or.inl ⟨by rfl, ?_⟩) (by assumption) ?_
                          rotate_left 1
                          · intro w hSw; (try dsimp only at hSw); go_simp; (try with_reducible rfl)
                          try simp only [Act.put, List.setIfInBounds_toArray, List.set_cons_zero, List.set_cons_succ]
                          refine wpAnyH_take (i := 2) (v := ?_) (by simp only [List.getElem?_toArray, List.getElem?_cons_succ, List.getElem?_cons_zero]; rfl) (by kernel_rfl) (by kernel_rfl) (by kernel_rfl) (fun _ _ _ h => h) (Or.inl ⟨by rfl, ?_⟩) (by assumption) ?_
                          rotate_left 1
                          · intro w hSw; (try dsimp only at hSw); go_simp; (try with_reducible rfl)
                          try simp only [Act.put, List.setIfInBounds_toArray, List.set_cons_zero, List.set_cons_succ]
                          refine wpAnyH_take (i := 3) (v := ?_) (by simp only [List.getElem?_toArray, List.getElem?_cons_succ, List.getElem?_cons_zero]; rfl) (by kernel_rfl) (by kernel_rfl) (by kernel_rfl) (fun _ _ _ h => h) (Or.inl ⟨by rfl, ?_⟩) (by assumption) ?_
                          rotate_left 1
                          · intro w hSw; (try dsimp only at hSw); go_simp; (try with_reducible rfl)
                          try simp only [Act.put, List.setIfInBounds_toArray, List.set_cons_zero, List.set_cons_succ]
                          refine wpAnyH_take (i := 4) (v := ?_) (by simp only [List.getElem?_toArray, List.getElem?_cons_succ, List.getElem?_cons_zero]; rfl) (by kernel_rfl) (by kernel_rfl) (by kernel_rfl) (fun _ _ _ h => h) (Or.inl ⟨by rfl, ?_⟩) (by assumption) ?_
                          rotate_left 1
                          · intro w hSw; (try dsimp only at hSw); go_simp; (try with_reducible rfl)
                          try simp only [Act.put, List.setIfInBounds_toArray, List.set_cons_zero, List.set_cons_succ]
                          refine wpAnyH_take (i := 5) (v := ?_) (by simp only [List.getElem?_toArray, List.getElem?_cons_succ, List.getElem?_cons_zero]; rfl) (by kernel_rfl) (by kernel_rfl) (by kernel_rfl) (fun _ _ _ h => h) (Or.inl ⟨by rfl, ?_⟩) (by assumption) ?_
                          rotate_left 1
                          · intro w hSw; (try dsimp only at hSw); go_simp; (try with_reducible rfl)
                          try simp only [Act.put, List.setIfInBounds_toArray, List.set_cons_zero, List.set_cons_succ]
                          refine wpAnyH_take (i := 6) (v := ?_) (by simp only [List.getElem?_toArray, List.getElem?_cons_succ, List.getElem?_cons_zero]; rfl) (by kernel_rfl) (by kernel_rfl) (by kernel_rfl) (fun _ _ _ h => h) (Or.inl ⟨by rfl, ?_⟩) (by assumption) ?_
                          rotate_left 1
                          · intro w hSw; (try dsimp only at hSw); go_simp; (try with_reducible rfl)
                          try simp only [Act.put, List.setIfInBounds_toArray, List.set_cons_zero, List.set_cons_succ]
                          refine wpAnyH_take (i := 7) (v := ?_) (by simp only [List.getElem?_toArray, List.getElem?_cons_succ, List.getElem?_cons_zero]; rfl) (by kernel_rfl) (by kernel_rfl) (by kernel_rfl) (fun _ _ _ h => h) (Or.inl ⟨by rfl, ?_⟩) (by assumption) ?_
                          rotate_left 1
                          · intro w hSw; (try dsimp only at hSw); go_simp; (try with_reducible rfl)
                          try simp only [Act.put, List.setIfInBounds_toArray, List.set_cons_zero, List.set_cons_succ]
                          refine wpAnyH_take (i := 8) (v := ?_) (by simp only [List.getElem?_toArray, List.getElem?_cons_succ, List.getElem?_cons_zero]; rfl) (by kernel_rfl) (by kernel_rfl) (by kernel_rfl) (fun _ _ _ h => h) (Or.inl ⟨by rfl, ?_⟩) (by assumption) ?_
                          rotate_left 1
                          · intro w hSw; (try dsimp only at hSw); go_simp; (try with_reducible rfl)
                          try simp only [Act.put, List.setIfInBounds_toArray, List.set_cons_zero, List.set_cons_succ]
                          refine wpAnyH_take (i := 9) (v := ?_) (by simp only [List.getElem?_toArray, List.getElem?_cons_succ, List.getElem?_cons_zero]; rfl) (by kernel_rfl) (by kernel_rfl) (by kernel_rfl) (fun _ _ _ h => h) (Or.inl ⟨by rfl, ?_⟩) (by assumption) ?_
                          rotate_left 1
                          · intro w hSw; (try dsimp only at hSw); go_simp; (try with_reducible rfl)
                          try simp only [Act.put, List.setIfInBounds_toArray, List.set_cons_zero, List.set_cons_succ]
                          refine wpAnyH_take (i := 10) (v := ?_) (by simp only [List.getElem?_toArray, List.getElem?_cons_succ, List.getElem?_cons_zero]; rfl) (by kernel_rfl) (by kernel_rfl) (by kernel_rfl) (fun _ _ _ h => h) (Or.inl ⟨by rfl, ?_⟩) (by assumption) ?_
                          rotate_left 1
                          · intro w hSw; (try dsimp only at hSw); go_simp; (try with_reducible rfl)
                          try simp only [Act.put, List.setIfInBounds_toArray, List.set_cons_zero, List.set_cons_succ]
                          refine wpAnyH_take (i := 12) (v := ?_) (by simp only [List.getElem?_toArray, List.getElem?_cons_succ, List.getElem?_cons_zero]; rfl) (by kernel_rfl) (by kernel_rfl) (by kernel_rfl) (fun _ _ _ h => h) (Or.inl ⟨by rfl, ?_⟩) (by assumption) ?_
                          rotate_left 1
                          · intro w hSw; (try dsimp only at hSw); go_simp; (try with_reducible rfl)
                          try simp only [Act.put, List.setIfInBounds_toArray, List.set_cons_zero, List.set_cons_succ]
                          refine wpAnyH_ready (rs := [11, 13]) (by kernel_rfl) (by simp) ?_
                          refine AllReadyH.cons (by simp only [List.getElem?_toArray, List.getElem?_cons_succ, List.getElem?_cons_zero]; rfl) (fun K hK => ?_) (AllReadyH.cons (by simp only [List.getElem?_toArray, List.getElem?_cons_succ, List.getElem?_cons_zero]; rfl) (fun K hK => ?_) AllReadyH.nil)
                          · skip
                            have cl := KL.out _ B0.out
                            go_simp
                            clear cl
                            clear hHeld
                            refine hK.out _ _ (KS.out _ B0.out) (fun hHeld => ?_)
                            clear hK K
                            try simp only [Act.put, List.setIfInBounds_toArray, List.set_cons_zero, List.set_cons_succ]
                            refine wpAnyH_ready (rs := [13]) (by kernel_rfl) (by simp) ?_
                            refine AllReadyH.cons (by simp only [List.getElem?_toArray, List.getElem?_cons_succ, List.getElem?_cons_zero]; rfl) (fun K hK => ?_) AllReadyH.nil
                            go_simp
                            go_at_call 44
                            refine Calls.mono (three_any (i : Int)) ?_
                            rintro e W3 ⟨rfl, ht3⟩
                            have B3 : Hid (Below W2.heap.size W2 W3) := (Below.refl _ _).drew.trans (ht3.below (Nat.le_refl _) (by simp))
                            clear ht3
                            clear hHeld
                            refine hK.out _ _ (KS.out _ B3.out) (fun hHeld => ?_)
                            clear hK K
                            try simp only [Act.put, List.setIfInBounds_toArray, List.set_cons_zero, List.set_cons_succ]
                            refine wpAnyH_ready (rs := [14]) (by kernel_rfl) (by simp) ?_
                            refine AllReadyH.cons (by simp only [List.getElem?_toArray, List.getElem?_cons_succ, List.getElem?_cons_zero]; rfl) (fun K hK => ?_) AllReadyH.nil
                            go_simp
                            obtain ⟨Y5, hY5⟩ : ∃ Y5, Y5 = W3.alloc (Obj.cells #[.string ⟨(th i).toArray⟩] 9) := ⟨_, rfl⟩
                            rw [← hY5]
                            have B5 : Hid (Below W2.heap.size W2 Y5) := by rw [hY5]; exact B3.out.alloc B3.out.size _
                            have R5 : Hid (Y5.heap[W3.heap.size]? = some (.cells #[.string ⟨(th i).toArray⟩] 9 (0, 0))) := by rw [hY5]; exact heap_alloc_new W3 _
                            clear hY5
                            clear hHeld
                            refine hK.out _ _ (KS.out _ B5.out) (fun hHeld => ?_)
                            clear hK K
                            try simp only [Act.put, List.setIfInBounds_toArray, List.set_cons_zero, List.set_cons_succ]
                            refine wpAnyH_ready (rs := [15]) (by kernel_rfl) (by simp) ?_
                            refine AllReadyH.cons (by simp only [List.getElem?_toArray, List.getElem?_cons_succ, List.getElem?_cons_zero]; rfl) (fun K hK => ?_) AllReadyH.nil
                            skip
                            refine wp_far _ _ 32 9 _ 1 16 rfl Tryz.underlying32 info9 rfl (by decide) 0 n 1 1 (.slice sx n cx) x.2.2 [.string ⟨(th i).toArray⟩] ⟨W3.heap.size, 0, none⟩ rfl (OWN.out _ B5.out) rfl rfl (fun j u hu => by rw [add_zero_addr, cell_row R5.out]; simpa using hu) (fun u hu => by simp at hu; (first | (subst hu; rfl) | (rcases hu with rfl | rfl | rfl <;> rfl))) (by omega) (by omega) (Nat.zero_le _) ?_
                            intro v6 W6 o6 f6
                            obtain ⟨s6, c6, rfl⟩ := sh_slice o6
                            obtain ⟨g1, g2, g3, g4, g5⟩ := NXT.out _ B5.out _ _ _ o6 f6
                            have SPN := hid g1
                            have G5 := hid g5
                            clear o6 f6 g1 g5
                            clear hHeld
                            refine hK.out _ _ g4 (fun hHeld => ?_)
                            clear hK K
                            try simp only [Act.put, List.setIfInBounds_toArray, List.set_cons_zero, List.set_cons_succ]
                            refine wpAnyH_take (i := 16) (v := ?_) (by simp only [List.getElem?_toArray, List.getElem?_cons_succ, List.getElem?_cons_zero]; rfl) (by kernel_rfl) (by kernel_rfl) (by kernel_rfl) (fun _ _ _ h => h) (Or.inl ⟨by rfl, ?_⟩) (by assumption) ?_
                            rotate_left 1
                            · intro w hSw; (try dsimp only at hSw); go_simp; (try with_reducible rfl)
                            try simp only [Act.put, List.setIfInBounds_toArray, List.set_cons_zero, List.set_cons_succ]
                            refine wpAnyH_ready (rs := [17]) (by kernel_rfl) (by simp) ?_
                            refine AllReadyH.cons (by simp only [List.getElem?_toArray, List.getElem?_cons_succ, List.getElem?_cons_zero]; rfl) (fun K hK => ?_) AllReadyH.nil
                            go_simp
                            clear hHeld
                            refine hK.out _ _ G5.out (fun hHeld => ?_)
                            clear hK K
                            try simp only [Act.put, List.setIfInBounds_toArray, List.set_cons_zero, List.set_cons_succ]
                            refine wpAnyH_done (by kernel_rfl) ?_ _
                            refine NoPanic.normal ?_
                            clear g2 g3 g4
                            go_wp2_with fail
                            clear V1 V2
                            refine ⟨⟨k + 1, _, by go_num, by omega, SPN.out, PHN.out _, HBV.out⟩, ?_⟩
                            show 64 + 1 - ((k : Int) + 1).toNat < 64 + 1 - (k : Int).toNat
                            omega
                          · go_simp
                            go_at_call 44
                            refine Calls.mono (three_any (i : Int)) ?_
                            rintro e W3 ⟨rfl, ht3⟩
                            have B3 : Hid (Below W2.heap.size W2 W3) := (Below.refl _ _).drew.trans (ht3.below (Nat.le_refl _) (by simp))
                            clear ht3
                            clear hHeld
                            refine hK.out _ _ (KS.out _ B3.out) (fun hHeld => ?_)
                            clear hK K
                            try simp only [Act.put, List.setIfInBounds_toArray, List.set_cons_zero, List.set_cons_succ]
                            refine wpAnyH_ready (rs := [11, 14]) (by kernel_rfl) (by simp) ?_
                            refine AllReadyH.cons (by simp only [List.getElem?_toArray, List.getElem?_cons_succ, List.getElem?_cons_zero]; rfl) (fun K hK => ?_) (AllReadyH.cons (by simp only [List.getElem?_toArray, List.getElem?_cons_succ, List.getElem?_cons_zero]; rfl) (fun K hK => ?_) AllReadyH.nil)
                            · skip
                              have cl := KL.out _ B3.out
                              go_simp
                              clear cl
                              clear hHeld
                              refine hK.out _ _ (KS.out _ B3.out) (fun hHeld => ?_)
                              clear hK K
                              try simp only [Act.put, List.setIfInBounds_toArray, List.set_cons_zero, List.set_cons_succ]
                              refine wpAnyH_ready (rs := [14]) (by kernel_rfl) (by simp) ?_
                              refine AllReadyH.cons (by simp only [List.getElem?_toArray, List.getElem?_cons_succ, List.getElem?_cons_zero]; rfl) (fun K hK => ?_) AllReadyH.nil
                              go_simp
                              obtain ⟨Y5, hY5⟩ : ∃ Y5, Y5 = W3.alloc (Obj.cells #[.string ⟨(th i).toArray⟩] 9) := ⟨_, rfl⟩
                              rw [← hY5]
                              have B5 : Hid (Below W2.heap.size W2 Y5) := by rw [hY5]; exact B3.out.alloc B3.out.size _
                              have R5 : Hid (Y5.heap[W3.heap.size]? = some (.cells #[.string ⟨(th i).toArray⟩] 9 (0, 0))) := by rw [hY5]; exact heap_alloc_new W3 _
                              clear hY5
                              clear hHeld
                              refine hK.out _ _ (KS.out _ B5.out) (fun hHeld => ?_)
                              clear hK K
                              try simp only [Act.put, List.setIfInBounds_toArray, List.set_cons_zero, List.set_cons_succ]
                              refine wpAnyH_ready (rs := [15]) (by kernel_rfl) (by simp) ?_
                              refine AllReadyH.cons (by simp only [List.getElem?_toArray, List.getElem?_cons_succ, List.getElem?_cons_zero]; rfl) (fun K hK => ?_) AllReadyH.nil
                              skip
                              refine wp_far _ _ 32 9 _ 1 16 rfl Tryz.underlying32 info9 rfl (by decide) 0 n 1 1 (.slice sx n cx) x.2.2 [.string ⟨(th i).toArray⟩] ⟨W3.heap.size, 0, none⟩ rfl (OWN.out _ B5.out) rfl rfl (fun j u hu => by rw [add_zero_addr, cell_row R5.out]; simpa using hu) (fun u hu => by simp at hu; (first | (subst hu; rfl) | (rcases hu with rfl | rfl | rfl <;> rfl))) (by omega) (by omega) (Nat.zero_le _) ?_
                              intro v6 W6 o6 f6
                              obtain ⟨s6, c6, rfl⟩ := sh_slice o6
                              obtain ⟨g1, g2, g3, g4, g5⟩ := NXT.out _ B5.out _ _ _ o6 f6
                              have SPN := hid g1
                              have G5 := hid g5
                              clear o6 f6 g1 g5
                              clear hHeld
                              refine hK.out _ _ g4 (fun hHeld => ?_)
                              clear hK K
                              try simp only [Act.put, List.setIfInBounds_toArray, List.set_cons_zero, List.set_cons_succ]
                              refine wpAnyH_take (i := 16) (v := ?_) (by simp only [List.getElem?_toArray, List.getElem?_cons_succ, List.getElem?_cons_zero]; rfl) (by kernel_rfl) (by kernel_rfl) (by kernel_rfl) (fun _ _ _ h => h) (Or.inl ⟨by rfl, ?_⟩) (by assumption) ?_
                              rotate_left 1
                              · intro w hSw; (try dsimp only at hSw); go_simp; (try with_reducible rfl)
                              try simp only [Act.put, List.setIfInBounds_toArray, List.set_cons_zero, List.set_cons_succ]
                              refine wpAnyH_ready (rs := [17]) (by kernel_rfl) (by simp) ?_
                              refine AllReadyH.cons (by simp only [List.getElem?_toArray, List.getElem?_cons_succ, List.getElem?_cons_zero]; rfl) (fun K hK => ?_) AllReadyH.nil
                              go_simp
                              clear hHeld
                              refine hK.out _ _ G5.out (fun hHeld => ?_)
                              clear hK K
                              try simp only [Act.put, List.setIfInBounds_toArray, List.set_cons_zero, List.set_cons_succ]
                              refine wpAnyH_done (by kernel_rfl) ?_ _
                              refine NoPanic.normal ?_
                              clear g2 g3 g4
                              go_wp2_with fail
                              clear V1 V2
                              refine ⟨⟨k + 1, _, by go_num, by omega, SPN.out, PHN.out _, HBV.out⟩, ?_⟩
                              show 64 + 1 - ((k : Int) + 1).toNat < 64 + 1 - (k : Int).toNat
                              omega
                            · go_simp
                              obtain ⟨Y5, hY5⟩ : ∃ Y5, Y5 = W3.alloc (Obj.cells #[.string ⟨(th i).toArray⟩] 9) := ⟨_, rfl⟩
                              rw [← hY5]
                              have B5 : Hid (Below W2.heap.size W2 Y5) := by rw [hY5]; exact B3.out.alloc B3.out.size _
                              have R5 : Hid (Y5.heap[W3.heap.size]? = some (.cells #[.string ⟨(th i).toArray⟩] 9 (0, 0))) := by rw [hY5]; exact heap_alloc_new W3 _
                              clear hY5
                              clear hHeld
                              refine hK.out _ _ (KS.out _ B5.out) (fun hHeld => ?_)
                              clear hK K
                              try simp only [Act.put, List.setIfInBounds_toArray, List.set_cons_zero, List.set_cons_succ]
                              refine wpAnyH_ready (rs := [11]) (by kernel_rfl) (by simp) ?_
                              refine AllReadyH.cons (by simp only [List.getElem?_toArray, List.getElem?_cons_succ, List.getElem?_cons_zero]; rfl) (fun K hK => ?_) AllReadyH.nil
                              skip
                              have cl := KL.out _ B5.out
                              go_simp
                              clear cl
                              clear hHeld
                              refine hK.out _ _ (KS.out _ B5.out) (fun hHeld => ?_)
                              clear hK K
                              try simp only [Act.put, List.setIfInBounds_toArray, List.set_cons_zero, List.set_cons_succ]
                              refine wpAnyH_ready (rs := [15]) (by kernel_rfl) (by simp) ?_
                              refine AllReadyH.cons (by simp only [List.getElem?_toArray, List.getElem?_cons_succ, List.getElem?_cons_zero]; rfl) (fun K hK => ?_) AllReadyH.nil
                              skip
                              refine wp_far _ _ 32 9 _ 1 16 rfl Tryz.underlying32 info9 rfl (by decide) 0 n 1 1 (.slice sx n cx) x.2.2 [.string ⟨(th i).toArray⟩] ⟨W3.heap.size, 0, none⟩ rfl (OWN.out _ B5.out) rfl rfl (fun j u hu => by rw [add_zero_addr, cell_row R5.out]; simpa using hu) (fun u hu => by simp at hu; (first | (subst hu; rfl) | (rcases hu with rfl | rfl | rfl <;> rfl))) (by omega) (by omega) (Nat.zero_le _) ?_
                              intro v6 W6 o6 f6
                              obtain ⟨s6, c6, rfl⟩ := sh_slice o6
                              obtain ⟨g1, g2, g3, g4, g5⟩ := NXT.out _ B5.out _ _ _ o6 f6
                              have SPN := hid g1
                              have G5 := hid g5
                              clear o6 f6 g1 g5
                              clear hHeld
                              refine hK.out _ _ g4 (fun hHeld => ?_)
                              clear hK K
                              try simp only [Act.put, List.setIfInBounds_toArray, List.set_cons_zero, List.set_cons_succ]
                              refine wpAnyH_take (i := 16) (v := ?_) (by simp only [List.getElem?_toArray, List.getElem?_cons_succ, List.getElem?_cons_zero]; rfl) (by kernel_rfl) (by kernel_rfl) (by kernel_rfl) (fun _ _ _ h => h) (Or.inl ⟨by rfl, ?_⟩) (by assumption) ?_
                              rotate_left 1
                              · intro w hSw; (try dsimp only at hSw); go_simp; (try with_reducible rfl)
                              try simp only [Act.put, List.setIfInBounds_toArray, List.set_cons_zero, List.set_cons_succ]
                              refine wpAnyH_ready (rs := [17]) (by kernel_rfl) (by simp) ?_
                              refine AllReadyH.cons (by simp only [List.getElem?_toArray, List.getElem?_cons_succ, List.getElem?_cons_zero]; rfl) (fun K hK => ?_) AllReadyH.nil
                              go_simp
                              clear hHeld
                              refine hK.out _ _ G5.out (fun hHeld => ?_)
                              clear hK K
                              try simp only [Act.put, List.setIfInBounds_toArray, List.set_cons_zero, List.set_cons_succ]
                              refine wpAnyH_done (by kernel_rfl) ?_ _
                              refine NoPanic.normal ?_
                              clear g2 g3 g4
                              go_wp2_with fail
                              clear V1 V2
                              refine ⟨⟨k + 1, _, by go_num, by omega, SPN.out, PHN.out _, HBV.out⟩, ?_⟩
                              show 64 + 1 - ((k : Int) + 1).toNat < 64 + 1 - (k : Int).toNat
                              omega
                        · have hklt1 : ¬ (k : Int) < 64 := by omega
                          have NX : Hid (Sp w W2 S S2 ∧ Ph MkG (QH 1 M (i + 1) 0) (QH 3 M 0 0) S2) := ⟨hsp, ⟨hph.lb, QH.next hph.lt, hph.ls⟩⟩
                          clear hsp hph hbv
                          go_wp2_with fail
                          clear V1
                          refine ⟨⟨i + 1, _, by go_num, by omega, NX.out⟩, ?_⟩
                          show nt + 1 - ((i : Int) + 1).toNat < nt + 1 - (i : Int).toNat
                          omega
                    · have hlt1 : ¬ (i : Int) < (nt : Int) := by omega
                      have ST : Hid (Sp w W1 S S1 ∧ Ph MkG (QH 1 M i 0) (QH 3 M 0 0) S1) := ⟨hsp, hph⟩
                      obtain ⟨SE, hSA⟩ : ∃ SA, SA = S1 := ⟨_, rfl⟩
                      rw [← hSA] at ST
                      clear hsp hph hbv hSA hin
                      have hl9 := hlt.symm
                      clear hlt
                      subst hl9
                      go_wp2_with fail
                      clear c0 hlt1
                      go_loopw [12, 13] (fun iv _ W => Hid (∃ (i : Nat) (S1 : Sg), iv = .int .i64 (i : Int) ∧ i ≤ ns ∧ Sp w W S S1 ∧ Ph MkG (QH 1 M nt 0) (QH 3 M i 0) S1)) (fun iv _ _ => match iv with | .int _ i => ns + 1 - i.toNat | _ => 0)
                      case atStart => exact ⟨0, SE, rfl, Nat.zero_le _, ST.out.1, ST.out.2⟩

                      case round =>
                        clear ST
                        obtain ⟨W1, hW1⟩ : ∃ W1, W1 = wr := ⟨_, rfl⟩
                        rw [← hW1] at hrel ⊢
                        clear hW1
                        obtain ⟨i, S1, rfl, hin, hsp, hph⟩ := hrel.out
                        clear hrel
                        have c0 := hsp.cell.2.2
                        rw [← HP.out] at c0
                        obtain ⟨sa, ca, hbv⟩ := sh_slice hsp.at_.rs
                        rw [hsp.ls, ← HNS.out] at hbv
                        rw [hbv] at c0

                        rcases Nat.lt_or_eq_of_le hin with hlt | hlt
                        · obtain ⟨⟨q, x⟩, hx⟩ : ∃ x, S1.Ls[i]? = some x := ⟨_, List.getElem?_eq_getElem (by rw [hsp.ls, ← HNS.out]; exact hlt)⟩
                          obtain ⟨gb, cb, hbv2, hgb, c1, _⟩ := hsp.scell hx
                          rw [hbv, hsp.ls, ← HNS.out] at hbv2
                          simp only [Value.slice.injEq, true_and] at hbv2
                          obtain ⟨rfl, rfl⟩ := hbv2
                          have ST : Hid (Sp w W1 S S1 ∧ Ph MkG (QH 1 M nt 0) (QH 3 M i 0) S1 ∧ S1.sv = .slice (some ⟨gb, 0, none⟩) ns ca) := ⟨hsp, hph, hbv⟩
                          have hlt1 : (i : Int) < (ns : Int) := by omega
                          have V1 : IntKind.i64.wrap ((i : Int) + 1) = (i : Int) + 1 := by rw [IntKind.wrap_i64]; omega
                          clear hsp hph hx hbv c1
                          go_wp2_with fail
                          go_loopw [13] (fun kv W => Hid (∃ (k : Nat) (S2 : Sg), kv = .int .i64 (k : Int) ∧ k ≤ 64 ∧ Sp w W S S2 ∧ Ph MkG (QH 1 M nt 0) (QH 3 M i k) S2 ∧ S2.sv = .slice (some ⟨gb, 0, none⟩) ns ca)) (fun kv _ => match kv with | .int _ k => 64 + 1 - k.toNat | _ => 0)
                          case atStart => exact ⟨0, S1, rfl, Nat.zero_le _, ST.out⟩
                          case round =>
                            clear ST c0 hgb
                            obtain ⟨W2, hW2⟩ : ∃ W2, W2 = wr := ⟨_, rfl⟩
                            rw [← hW2] at hrel ⊢
                            clear hW2
                            obtain ⟨k, S2, rfl, hkn, hsp, hph, hbv⟩ := hrel.out
                            clear hrel
                            rcases Nat.lt_or_eq_of_le hkn with hklt | hklt
                            · obtain ⟨⟨q, x⟩, hx⟩ : ∃ x, S2.Ls[i]? = some x := ⟨_, List.getElem?_eq_getElem (by rw [hsp.ls, ← HNS.out]; exact hlt)⟩
                              obtain ⟨n, hn⟩ : ∃ n, n = x.2.1 := ⟨_, rfl⟩
                              obtain ⟨sx, cx, hsx⟩ := sh_slice (hsp.at_.fs.own i x (ls_get hx))
                              rw [← hn] at hsx
                              have hnM : n ≤ M + k := by rw [hn]; exact (hph.ls i x (ls_get hx)).2.2.1 rfl
                              have HBV := hid hbv
                              have HX := hid hx
                              have HSX := hid hsx
                              have HN0 := hid hn
                              have HSP := hid hsp
                              have KS : Hid (∀ W', Below W2.heap.size W2 W' → W'.cell? ⟨p, 2, none⟩ = some (.slice (some ⟨gb, 0, none⟩) ns ca)) := fun W' hb => by
                                have h' := hsp.below hb
                                have d0 := h'.cell.2.2
                                rw [← HP.out, hbv] at d0
                                exact d0
                              have KL : Hid (∀ W', Below W2.heap.size W2 W' → W'.cell? ⟨gb, i * 2 + 1, none⟩ = some (.slice sx n cx)) := fun W' hb => by
                                have h' := hsp.below hb
                                obtain ⟨gb3, cb3, hbv3, _, d1, _⟩ := h'.scell hx
                                rw [hbv] at hbv3
                                simp only [Value.slice.injEq, Option.some.injEq, Addr.mk.injEq] at hbv3
                                obtain ⟨⟨rfl, -⟩, -, -⟩ := hbv3
                                rw [hsx] at d1
                                exact d1
                              have OWN : Hid (∀ W', Below W2.heap.size W2 W' → W'.ownsRow 0 71 3 (.slice sx n cx) n x.2.2) := fun W' hb => by
                                have h' := (hsp.below hb).at_.fs.own i x (ls_get hx)
                                rw [hsx, ← hn] at h'
                                exact h'
                              have NXT : Hid (∀ Y5, Below W2.heap.size W2 Y5 → ∀ (s6 : Option Addr) (c6 : Nat) (W6 : World), W6.ownsRow 0 71 3 (.slice s6 (n + 1) c6) (n + 1) (x.2.2 ++ [.string ⟨(th i).toArray⟩, .bool false, .slice none 0 0]) → (((Value.slice s6 (n + 1) c6).ownBlock = (Value.slice sx n cx).ownBlock ∧ Y5.grownBy W6 (Value.slice sx n cx).ownBlock) ∨ ((∀ g, (Value.slice s6 (n + 1) c6).ownBlock = some g → Y5.heap.size ≤ g) ∧ Y5.grownBy W6 none)) →
                                  Sp w (W6.setCell ⟨gb, i * 2 + 1, none⟩ (.slice s6 (n + 1) c6)) S { S2 with Ls := S2.Ls.set i (q, .slice s6 (n + 1) c6, n + 1, x.2.2 ++ [.string ⟨(th i).toArray⟩, .bool false, .slice none 0 0]) } ∧ W6.frozen? ⟨gb, i * 2 + 1, none⟩ = false ∧ W6.cell? ⟨gb, i * 2 + 1, none⟩ = some (.slice sx n cx) ∧ W6.cell? ⟨p, 2, none⟩ = some (.slice (some ⟨gb, 0, none⟩) ns ca) ∧ (W6.setCell ⟨gb, i * 2 + 1, none⟩ (.slice s6 (n + 1) c6)).cell? ⟨p, 2, none⟩ = some (.slice (some ⟨gb, 0, none⟩) ns ca)) := fun Y5 hb s6 c6 W6 o6 f6 => by
                                have h' := hsp.below hb
                                have f7 := f6
                                rw [← hsx] at f7
                                have r := h'.growS (y := (.slice s6 (n + 1) c6, n + 1, x.2.2 ++ [.string ⟨(th i).toArray⟩, .bool false, .slice none 0 0])) hx hbv (by rw [h'.ls]; exact HNS.out) o6 f7
                                obtain ⟨r1, r2, r3, r4, r5⟩ := r
                                rw [← HP.out, hbv] at r4 r5
                                rw [hsx] at r3
                                exact ⟨r1, r2, r3, r4, r5⟩
                              have PHN : Hid (∀ s6 : Value, Ph MkG (QH 1 M nt 0) (QH 3 M i (k + 1)) { S2 with Ls := S2.Ls.set i (q, s6, n + 1, x.2.2 ++ [.string ⟨(th i).toArray⟩, .bool false, .slice none 0 0]) }) := fun s6 => ⟨hph.lb, hph.lt, by show All ((S2.Ls.set i _).map (·.2)) _; rw [List.map_set, hn]; exact QH.one (by decide) hph.ls (ls_get hx) hklt (hsp.at_.fs.own i x (ls_get hx)).1 rfl⟩
                              have B0 : Hid (Below W2.heap.size W2 W2.drew) := (Below.refl _ _).drew
                              have hklt1 : (k : Int) < 64 := by omega
                              have V2 : IntKind.i64.wrap ((k : Int) + 1) = (k : Int) + 1 := by rw [IntKind.wrap_i64]; omega
                              have i0 : (0 : Int) ≤ (i : Int) := by omega
                              have hM2 : n ≤ 1073741824 + 64 := by omega
                              clear hsp hph hbv hx hsx hn HSP HX HSX
                              go_wp2_with fail
                              refine wp_region_noPanic ?_
                              refine wp_region_held_drew (S := fun W => W.cell? ⟨p, 2, none⟩ = some (.slice (some ⟨gb, 0, none⟩) ns ca)) (by kernel_rfl) (KS.out _ B0.out) (fun hHeld => ?_)
                              refine wpAnyH_take (i := 0) (v := ?_) (by simp only [List.getElem?_toArray, List.getElem?_cons_zero]; rfl) (by kernel_rfl) (by kernel_rfl) (by kernel_rfl) (fun _ _ _ h => h) (Or.inl ⟨by rfl, ?_⟩) (by assumption) ?_
                              rotate_left 1
                              · intro w hSw; (try dsimp only at hSw); go_simp; (try with_reducible rfl)
                              try simp only [Act.put, List.setIfInBounds_toArray, List.set_cons_zero, List.set_cons_succ]
                              refine wpAnyH_take (i := 1) (v := ?_) (by simp only [List.getElem?_toArray, List.getElem?_cons_succ, List.getElem?_cons_zero]; rfl) (by kernel_rfl) (by kernel_rfl) (by kernel_rfl) (fun _ _ _ h => h) (Or.inl ⟨by rfl, ?_⟩) (by assumption) ?_
                              rotate_left 1
                              · intro w hSw; (try dsimp only at hSw); go_simp; (try with_reducible rfl)
                              try simp only [Act.put, List.setIfInBounds_toArray, List.set_cons_zero, List.set_cons_succ]
                              refine wpAnyH_take (i := 2) (v := ?_) (by simp only [List.getElem?_toArray, List.getElem?_cons_succ, List.getElem?_cons_zero]; rfl) (by kernel_rfl) (by kernel_rfl) (by kernel_rfl) (fun _ _ _ h => h) (Or.inl ⟨by rfl, ?_⟩) (by assumption) ?_
                              rotate_left 1
                              · intro w hSw; (try dsimp only at hSw); go_simp; (try with_reducible rfl)
                              try simp only [Act.put, List.setIfInBounds_toArray, List.set_cons_zero, List.set_cons_succ]
                              refine wpAnyH_take (i := 3) (v := ?_) (by simp only [List.getElem?_toArray, List.getElem?_cons_succ, List.getElem?_cons_zero]; rfl) (by kernel_rfl) (by kernel_rfl) (by kernel_rfl) (fun _ _ _ h => h) (Or.inl ⟨by rfl, ?_⟩) (by assumption) ?_
                              rotate_left 1
                              · intro w hSw; (try dsimp only at hSw); go_simp; (try with_reducible rfl)
                              try simp only [Act.put, List.setIfInBounds_toArray, List.set_cons_zero, List.set_cons_succ]
                              refine wpAnyH_take (i := 4) (v := ?_) (by simp only [List.getElem?_toArray, List.getElem?_cons_succ, List.getElem?_cons_zero]; rfl) (by kernel_rfl) (by kernel_rfl) (by kernel_rfl) (fun _ _ _ h => h) (Or.inl ⟨by rfl, ?_⟩) (by assumption) ?_
                              rotate_left 1
                              · intro w hSw; (try dsimp only at hSw); go_simp; (try with_reducible rfl)
                              try simp only [Act.put, List.setIfInBounds_toArray, List.set_cons_zero, List.set_cons_succ]
                              refine wpAnyH_take (i := 5) (v := ?_) (by simp only [List.getElem?_toArray, List.getElem?_cons_succ, List.getElem?_cons_zero]; rfl) (by kernel_rfl) (by kernel_rfl) (by kernel_rfl) (fun _ _ _ h => h) (Or.inl ⟨by rfl, ?_⟩) (by assumption) ?_
                              rotate_left 1
                              · intro w hSw; (try dsimp only at hSw); go_simp; (try with_reducible rfl)
                              try simp only [Act.put, List.setIfInBounds_toArray, List.set_cons_zero, List.set_cons_succ]
                              refine wpAnyH_take (i := 6) (v := ?_) (by simp only [List.getElem?_toArray, List.getElem?_cons_succ, List.getElem?_cons_zero]; rfl) (by kernel_rfl) (by kernel_rfl) (by kernel_rfl) (fun _ _ _ h => h) (Or.inl ⟨by rfl, ?_⟩) (by assumption) ?_
                              rotate_left 1
                              · intro w hSw; (try dsimp only at hSw); go_simp; (try with_reducible rfl)
                              try simp only [Act.put, List.setIfInBounds_toArray, List.set_cons_zero, List.set_cons_succ]
                              refine wpAnyH_take (i := 7) (v := ?_) (by simp only [List.getElem?_toArray, List.getElem?_cons_succ, List.getElem?_cons_zero]; rfl) (by kernel_rfl) (by kernel_rfl) (by kernel_rfl) (fun _ _ _ h => h) (Or.inl ⟨by rfl, ?_⟩) (by assumption) ?_
                              rotate_left 1
                              · intro w hSw; (try dsimp only at hSw); go_simp; (try with_reducible rfl)
                              try simp only [Act.put, List.setIfInBounds_toArray, List.set_cons_zero, List.set_cons_succ]
                              refine wpAnyH_take (i := 8) (v := ?_) (by simp only [List.getElem?_toArray, List.getElem?_cons_succ, List.getElem?_cons_zero]; rfl) (by kernel_rfl) (by kernel_rfl) (by kernel_rfl) (fun _ _ _ h => h) (Or.inl ⟨by rfl, ?_⟩) (by assumption) ?_
                              rotate_left 1
                              · intro w hSw; (try dsimp only at hSw); go_simp; (try with_reducible rfl)
                              try simp only [Act.put, List.setIfInBounds_toArray, List.set_cons_zero, List.set_cons_succ]
                              refine wpAnyH_take (i := 9) (v := ?_) (by simp only [List.getElem?_toArray, List.getElem?_cons_succ, List.getElem?_cons_zero]; rfl) (by kernel_rfl) (by kernel_rfl) (by kernel_rfl) (fun _ _ _ h => h) (Or.inl ⟨by rfl, ?_⟩) (by assumption) ?_
                              rotate_left 1
                              · intro w hSw; (try dsimp only at hSw); go_simp; (try with_reducible rfl)
                              try simp only [Act.put, List.setIfInBounds_toArray, List.set_cons_zero, List.set_cons_succ]
                              refine wpAnyH_take (i := 10) (v := ?_) (by simp only [List.getElem?_toArray, List.getElem?_cons_succ, List.getElem?_cons_zero]; rfl) (by kernel_rfl) (by kernel_rfl) (by kernel_rfl) (fun _ _ _ h => h) (Or.inl ⟨by rfl, ?_⟩) (by assumption) ?_
                              rotate_left 1
                              · intro w hSw; (try dsimp only at hSw); go_simp; (try with_reducible rfl)
                              try simp only [Act.put, List.setIfInBounds_toArray, List.set_cons_zero, List.set_cons_succ]
                              refine wpAnyH_take (i := 11) (v := ?_) (by simp only [List.getElem?_toArray, List.getElem?_cons_succ, List.getElem?_cons_zero]; rfl) (by kernel_rfl) (by kernel_rfl) (by kernel_rfl) (fun _ _ _ h => h) (Or.inl ⟨by rfl, ?_⟩) (by assumption) ?_
                              rotate_left 1
                              · intro w hSw; (try dsimp only at hSw); go_simp; (try with_reducible rfl)
                              try simp only [Act.put, List.setIfInBounds_toArray, List.set_cons_zero, List.set_cons_succ]
                              refine wpAnyH_take (i := 13) (v := ?_) (by simp only [List.getElem?_toArray, List.getElem?_cons_succ, List.getElem?_cons_zero]; rfl) (by kernel_rfl) (by kernel_rfl) (by kernel_rfl) (fun _ _ _ h => h) (Or.inl ⟨by rfl, ?_⟩) (by assumption) ?_
                              rotate_left 1
                              · intro w hSw; (try dsimp only at hSw); go_simp; (try with_reducible rfl)
                              try simp only [Act.put, List.setIfInBounds_toArray, List.set_cons_zero, List.set_cons_succ]
                              refine wpAnyH_ready (rs := [12, 14]) (by kernel_rfl) (by simp) ?_
                              refine AllReadyH.cons (by simp only [List.getElem?_toArray, List.getElem?_cons_succ, List.getElem?_cons_zero]; rfl) (fun K hK => ?_) (AllReadyH.cons (by simp only [List.getElem?_toArray, List.getElem?_cons_succ, List.getElem?_cons_zero]; rfl) (fun K hK => ?_) AllReadyH.nil)
                              · skip
                                have cl := KL.out _ B0.out
                                go_simp
                                clear cl
                                clear hHeld
                                refine hK.out _ _ (KS.out _ B0.out) (fun hHeld => ?_)
                                clear hK K
                                try simp only [Act.put, List.setIfInBounds_toArray, List.set_cons_zero, List.set_cons_succ]
                                refine wpAnyH_ready (rs := [14]) (by kernel_rfl) (by simp) ?_
                                refine AllReadyH.cons (by simp only [List.getElem?_toArray, List.getElem?_cons_succ, List.getElem?_cons_zero]; rfl) (fun K hK => ?_) AllReadyH.nil
                                go_simp
                                go_at_call 44
                                refine Calls.mono (three_any (i : Int)) ?_
                                rintro e W3 ⟨rfl, ht3⟩
                                have B3 : Hid (Below W2.heap.size W2 W3) := (Below.refl _ _).drew.trans (ht3.below (Nat.le_refl _) (by simp))
                                clear ht3
                                clear hHeld
                                refine hK.out _ _ (KS.out _ B3.out) (fun hHeld => ?_)
                                clear hK K
                                try simp only [Act.put, List.setIfInBounds_toArray, List.set_cons_zero, List.set_cons_succ]
                                refine wpAnyH_take (i := 15) (v := ?_) (by simp only [List.getElem?_toArray, List.getElem?_cons_succ, List.getElem?_cons_zero]; rfl) (by kernel_rfl) (by kernel_rfl) (by kernel_rfl) (fun _ _ _ h => h) (Or.inl ⟨by rfl, ?_⟩) (by assumption) ?_
                                rotate_left 1
                                · intro w hSw; (try dsimp only at hSw); go_simp; (try with_reducible rfl)
                                try simp only [Act.put, List.setIfInBounds_toArray, List.set_cons_zero, List.set_cons_succ]
                                refine wpAnyH_ready (rs := [16]) (by kernel_rfl) (by simp) ?_
                                refine AllReadyH.cons (by simp only [List.getElem?_toArray, List.getElem?_cons_succ, List.getElem?_cons_zero]; rfl) (fun K hK => ?_) AllReadyH.nil
                                go_simp
                                obtain ⟨Y5, hY5⟩ : ∃ Y5, Y5 = W3.alloc (Obj.cells #[.string ⟨(th i).toArray⟩, .bool false, .slice none 0 0] 71) := ⟨_, rfl⟩
                                rw [← hY5]
                                have B5 : Hid (Below W2.heap.size W2 Y5) := by rw [hY5]; exact B3.out.alloc B3.out.size _
                                have R5 : Hid (Y5.heap[W3.heap.size]? = some (.cells #[.string ⟨(th i).toArray⟩, .bool false, .slice none 0 0] 71 (0, 0))) := by rw [hY5]; exact heap_alloc_new W3 _
                                clear hY5
                                clear hHeld
                                refine hK.out _ _ (KS.out _ B5.out) (fun hHeld => ?_)
                                clear hK K
                                try simp only [Act.put, List.setIfInBounds_toArray, List.set_cons_zero, List.set_cons_succ]
                                refine wpAnyH_ready (rs := [17]) (by kernel_rfl) (by simp) ?_
                                refine AllReadyH.cons (by simp only [List.getElem?_toArray, List.getElem?_cons_succ, List.getElem?_cons_zero]; rfl) (fun K hK => ?_) AllReadyH.nil
                                skip
                                refine wp_far _ _ 45 71 _ 3 48 rfl Tryz.underlying45 inf71 rfl (by decide) 0 n 1 1 (.slice sx n cx) x.2.2 [.string ⟨(th i).toArray⟩, .bool false, .slice none 0 0] ⟨W3.heap.size, 0, none⟩ rfl (OWN.out _ B5.out) rfl rfl (fun j u hu => by rw [add_zero_addr, cell_row R5.out]; simpa using hu) (fun u hu => by simp at hu; (first | (subst hu; rfl) | (rcases hu with rfl | rfl | rfl <;> rfl))) (by omega) (by omega) (Nat.zero_le _) ?_
                                intro v6 W6 o6 f6
                                obtain ⟨s6, c6, rfl⟩ := sh_slice o6
                                obtain ⟨g1, g2, g3, g4, g5⟩ := NXT.out _ B5.out _ _ _ o6 f6
                                have SPN := hid g1
                                have G5 := hid g5
                                clear o6 f6 g1 g5
                                clear hHeld
                                refine hK.out _ _ g4 (fun hHeld => ?_)
                                clear hK K
                                try simp only [Act.put, List.setIfInBounds_toArray, List.set_cons_zero, List.set_cons_succ]
                                refine wpAnyH_take (i := 18) (v := ?_) (by simp only [List.getElem?_toArray, List.getElem?_cons_succ, List.getElem?_cons_zero]; rfl) (by kernel_rfl) (by kernel_rfl) (by kernel_rfl) (fun _ _ _ h => h) (Or.inl ⟨by rfl, ?_⟩) (by assumption) ?_
                                rotate_left 1
                                · intro w hSw; (try dsimp only at hSw); go_simp; (try with_reducible rfl)
                                try simp only [Act.put, List.setIfInBounds_toArray, List.set_cons_zero, List.set_cons_succ]
                                refine wpAnyH_take (i := 19) (v := ?_) (by simp only [List.getElem?_toArray, List.getElem?_cons_succ, List.getElem?_cons_zero]; rfl) (by kernel_rfl) (by kernel_rfl) (by kernel_rfl) (fun _ _ _ h => h) (Or.inl ⟨by rfl, ?_⟩) (by assumption) ?_
                                rotate_left 1
                                · intro w hSw; (try dsimp only at hSw); go_simp; (try with_reducible rfl)
                                try simp only [Act.put, List.setIfInBounds_toArray, List.set_cons_zero, List.set_cons_succ]
                                refine wpAnyH_ready (rs := [20]) (by kernel_rfl) (by simp) ?_
                                refine AllReadyH.cons (by simp only [List.getElem?_toArray, List.getElem?_cons_succ, List.getElem?_cons_zero]; rfl) (fun K hK => ?_) AllReadyH.nil
                                go_simp
                                clear hHeld
                                refine hK.out _ _ G5.out (fun hHeld => ?_)
                                clear hK K
                                try simp only [Act.put, List.setIfInBounds_toArray, List.set_cons_zero, List.set_cons_succ]
                                refine wpAnyH_done (by kernel_rfl) ?_ _
                                refine NoPanic.normal ?_
                                clear g2 g3 g4
                                go_wp2_with fail
                                clear V1 V2
                                refine ⟨⟨k + 1, _, by go_num, by omega, SPN.out, PHN.out _, HBV.out⟩, ?_⟩
                                show 64 + 1 - ((k : Int) + 1).toNat < 64 + 1 - (k : Int).toNat
                                omega
                              · go_simp
                                go_at_call 44
                                refine Calls.mono (three_any (i : Int)) ?_
                                rintro e W3 ⟨rfl, ht3⟩
                                have B3 : Hid (Below W2.heap.size W2 W3) := (Below.refl _ _).drew.trans (ht3.below (Nat.le_refl _) (by simp))
                                clear ht3
                                clear hHeld
                                refine hK.out _ _ (KS.out _ B3.out) (fun hHeld => ?_)
                                clear hK K
                                try simp only [Act.put, List.setIfInBounds_toArray, List.set_cons_zero, List.set_cons_succ]
                                refine wpAnyH_take (i := 15) (v := ?_) (by simp only [List.getElem?_toArray, List.getElem?_cons_succ, List.getElem?_cons_zero]; rfl) (by kernel_rfl) (by kernel_rfl) (by kernel_rfl) (fun _ _ _ h => h) (Or.inl ⟨by rfl, ?_⟩) (by assumption) ?_
                                rotate_left 1
                                · intro w hSw; (try dsimp only at hSw); go_simp; (try with_reducible rfl)
                                try simp only [Act.put, List.setIfInBounds_toArray, List.set_cons_zero, List.set_cons_succ]
                                refine wpAnyH_ready (rs := [12, 16]) (by kernel_rfl) (by simp) ?_
                                refine AllReadyH.cons (by simp only [List.getElem?_toArray, List.getElem?_cons_succ, List.getElem?_cons_zero]; rfl) (fun K hK => ?_) (AllReadyH.cons (by simp only [List.getElem?_toArray, List.getElem?_cons_succ, List.getElem?_cons_zero]; rfl) (fun K hK => ?_) AllReadyH.nil)
                                · skip
                                  have cl := KL.out _ B3.out
                                  go_simp
                                  clear cl
                                  clear hHeld
                                  refine hK.out _ _ (KS.out _ B3.out) (fun hHeld => ?_)
                                  clear hK K
                                  try simp only [Act.put, List.setIfInBounds_toArray, List.set_cons_zero, List.set_cons_succ]
                                  refine wpAnyH_ready (rs := [16]) (by kernel_rfl) (by simp) ?_
                                  refine AllReadyH.cons (by simp only [List.getElem?_toArray, List.getElem?_cons_succ, List.getElem?_cons_zero]; rfl) (fun K hK => ?_) AllReadyH.nil
                                  go_simp
                                  obtain ⟨Y5, hY5⟩ : ∃ Y5, Y5 = W3.alloc (Obj.cells #[.string ⟨(th i).toArray⟩, .bool false, .slice none 0 0] 71) := ⟨_, rfl⟩
                                  rw [← hY5]
                                  have B5 : Hid (Below W2.heap.size W2 Y5) := by rw [hY5]; exact B3.out.alloc B3.out.size _
                                  have R5 : Hid (Y5.heap[W3.heap.size]? = some (.cells #[.string ⟨(th i).toArray⟩, .bool false, .slice none 0 0] 71 (0, 0))) := by rw [hY5]; exact heap_alloc_new W3 _
                                  clear hY5
                                  clear hHeld
                                  refine hK.out _ _ (KS.out _ B5.out) (fun hHeld => ?_)
                                  clear hK K
                                  try simp only [Act.put, List.setIfInBounds_toArray, List.set_cons_zero, List.set_cons_succ]
                                  refine wpAnyH_ready (rs := [17]) (by kernel_rfl) (by simp) ?_
                                  refine AllReadyH.cons (by simp only [List.getElem?_toArray, List.getElem?_cons_succ, List.getElem?_cons_zero]; rfl) (fun K hK => ?_) AllReadyH.nil
                                  skip
                                  refine wp_far _ _ 45 71 _ 3 48 rfl Tryz.underlying45 inf71 rfl (by decide) 0 n 1 1 (.slice sx n cx) x.2.2 [.string ⟨(th i).toArray⟩, .bool false, .slice none 0 0] ⟨W3.heap.size, 0, none⟩ rfl (OWN.out _ B5.out) rfl rfl (fun j u hu => by rw [add_zero_addr, cell_row R5.out]; simpa using hu) (fun u hu => by simp at hu; (first | (subst hu; rfl) | (rcases hu with rfl | rfl | rfl <;> rfl))) (by omega) (by omega) (Nat.zero_le _) ?_
                                  intro v6 W6 o6 f6
                                  obtain ⟨s6, c6, rfl⟩ := sh_slice o6
                                  obtain ⟨g1, g2, g3, g4, g5⟩ := NXT.out _ B5.out _ _ _ o6 f6
                                  have SPN := hid g1
                                  have G5 := hid g5
                                  clear o6 f6 g1 g5
                                  clear hHeld
                                  refine hK.out _ _ g4 (fun hHeld => ?_)
                                  clear hK K
                                  try simp only [Act.put, List.setIfInBounds_toArray, List.set_cons_zero, List.set_cons_succ]
                                  refine wpAnyH_take (i := 18) (v := ?_) (by simp only [List.getElem?_toArray, List.getElem?_cons_succ, List.getElem?_cons_zero]; rfl) (by kernel_rfl) (by kernel_rfl) (by kernel_rfl) (fun _ _ _ h => h) (Or.inl ⟨by rfl, ?_⟩) (by assumption) ?_
                                  rotate_left 1
                                  · intro w hSw; (try dsimp only at hSw); go_simp; (try with_reducible rfl)
                                  try simp only [Act.put, List.setIfInBounds_toArray, List.set_cons_zero, List.set_cons_succ]
                                  refine wpAnyH_take (i := 19) (v := ?_) (by simp only [List.getElem?_toArray, List.getElem?_cons_succ, List.getElem?_cons_zero]; rfl) (by kernel_rfl) (by kernel_rfl) (by kernel_rfl) (fun _ _ _ h => h) (Or.inl ⟨by rfl, ?_⟩) (by assumption) ?_
                                  rotate_left 1
                                  · intro w hSw; (try dsimp only at hSw); go_simp; (try with_reducible rfl)
                                  try simp only [Act.put, List.setIfInBounds_toArray, List.set_cons_zero, List.set_cons_succ]
                                  refine wpAnyH_ready (rs := [20]) (by kernel_rfl) (by simp) ?_
                                  refine AllReadyH.cons (by simp only [List.getElem?_toArray, List.getElem?_cons_succ, List.getElem?_cons_zero]; rfl) (fun K hK => ?_) AllReadyH.nil
                                  go_simp
                                  clear hHeld
                                  refine hK.out _ _ G5.out (fun hHeld => ?_)
                                  clear hK K
                                  try simp only [Act.put, List.setIfInBounds_toArray, List.set_cons_zero, List.set_cons_succ]
                                  refine wpAnyH_done (by kernel_rfl) ?_ _
                                  refine NoPanic.normal ?_
                                  clear g2 g3 g4
                                  go_wp2_with fail
                                  clear V1 V2
                                  refine ⟨⟨k + 1, _, by go_num, by omega, SPN.out, PHN.out _, HBV.out⟩, ?_⟩
                                  show 64 + 1 - ((k : Int) + 1).toNat < 64 + 1 - (k : Int).toNat
                                  omega
                                · go_simp
                                  obtain ⟨Y5, hY5⟩ : ∃ Y5, Y5 = W3.alloc (Obj.cells #[.string ⟨(th i).toArray⟩, .bool false, .slice none 0 0] 71) := ⟨_, rfl⟩
                                  rw [← hY5]
                                  have B5 : Hid (Below W2.heap.size W2 Y5) := by rw [hY5]; exact B3.out.alloc B3.out.size _
                                  have R5 : Hid (Y5.heap[W3.heap.size]? = some (.cells #[.string ⟨(th i).toArray⟩, .bool false, .slice none 0 0] 71 (0, 0))) := by rw [hY5]; exact heap_alloc_new W3 _
                                  clear hY5
                                  clear hHeld
                                  refine hK.out _ _ (KS.out _ B5.out) (fun hHeld => ?_)
                                  clear hK K
                                  try simp only [Act.put, List.setIfInBounds_toArray, List.set_cons_zero, List.set_cons_succ]
                                  refine wpAnyH_ready (rs := [12]) (by kernel_rfl) (by simp) ?_
                                  refine AllReadyH.cons (by simp only [List.getElem?_toArray, List.getElem?_cons_succ, List.getElem?_cons_zero]; rfl) (fun K hK => ?_) AllReadyH.nil
                                  skip
                                  have cl := KL.out _ B5.out
                                  go_simp
                                  clear cl
                                  clear hHeld
                                  refine hK.out _ _ (KS.out _ B5.out) (fun hHeld => ?_)
                                  clear hK K
                                  try simp only [Act.put, List.setIfInBounds_toArray, List.set_cons_zero, List.set_cons_succ]
                                  refine wpAnyH_ready (rs := [17]) (by kernel_rfl) (by simp) ?_
                                  refine AllReadyH.cons (by simp only [List.getElem?_toArray, List.getElem?_cons_succ, List.getElem?_cons_zero]; rfl) (fun K hK => ?_) AllReadyH.nil
                                  skip
                                  refine wp_far _ _ 45 71 _ 3 48 rfl Tryz.underlying45 inf71 rfl (by decide) 0 n 1 1 (.slice sx n cx) x.2.2 [.string ⟨(th i).toArray⟩, .bool false, .slice none 0 0] ⟨W3.heap.size, 0, none⟩ rfl (OWN.out _ B5.out) rfl rfl (fun j u hu => by rw [add_zero_addr, cell_row R5.out]; simpa using hu) (fun u hu => by simp at hu; (first | (subst hu; rfl) | (rcases hu with rfl | rfl | rfl <;> rfl))) (by omega) (by omega) (Nat.zero_le _) ?_
                                  intro v6 W6 o6 f6
                                  obtain ⟨s6, c6, rfl⟩ := sh_slice o6
                                  obtain ⟨g1, g2, g3, g4, g5⟩ := NXT.out _ B5.out _ _ _ o6 f6
                                  have SPN := hid g1
                                  have G5 := hid g5
                                  clear o6 f6 g1 g5
                                  clear hHeld
                                  refine hK.out _ _ g4 (fun hHeld => ?_)
                                  clear hK K
                                  try simp only [Act.put, List.setIfInBounds_toArray, List.set_cons_zero, List.set_cons_succ]
                                  refine wpAnyH_take (i := 18) (v := ?_) (by simp only [List.getElem?_toArray, List.getElem?_cons_succ, List.getElem?_cons_zero]; rfl) (by kernel_rfl) (by kernel_rfl) (by kernel_rfl) (fun _ _ _ h => h) (Or.inl ⟨by rfl, ?_⟩) (by assumption) ?_
                                  rotate_left 1
                                  · intro w hSw; (try dsimp only at hSw); go_simp; (try with_reducible rfl)
                                  try simp only [Act.put, List.setIfInBounds_toArray, List.set_cons_zero, List.set_cons_succ]
                                  refine wpAnyH_take (i := 19) (v := ?_) (by simp only [List.getElem?_toArray, List.getElem?_cons_succ, List.getElem?_cons_zero]; rfl) (by kernel_rfl) (by kernel_rfl) (by kernel_rfl) (fun _ _ _ h => h) (Or.inl ⟨by rfl, ?_⟩) (by assumption) ?_
                                  rotate_left 1
                                  · intro w hSw; (try dsimp only at hSw); go_simp; (try with_reducible rfl)
                                  try simp only [Act.put, List.setIfInBounds_toArray, List.set_cons_zero, List.set_cons_succ]
                                  refine wpAnyH_ready (rs := [20]) (by kernel_rfl) (by simp) ?_
                                  refine AllReadyH.cons (by simp only [List.getElem?_toArray, List.getElem?_cons_succ, List.getElem?_cons_zero]; rfl) (fun K hK => ?_) AllReadyH.nil
                                  go_simp
                                  clear hHeld
                                  refine hK.out _ _ G5.out (fun hHeld => ?_)
                                  clear hK K
                                  try simp only [Act.put, List.setIfInBounds_toArray, List.set_cons_zero, List.set_cons_succ]
                                  refine wpAnyH_done (by kernel_rfl) ?_ _
                                  refine NoPanic.normal ?_
                                  clear g2 g3 g4
                                  go_wp2_with fail
                                  clear V1 V2
                                  refine ⟨⟨k + 1, _, by go_num, by omega, SPN.out, PHN.out _, HBV.out⟩, ?_⟩
                                  show 64 + 1 - ((k : Int) + 1).toNat < 64 + 1 - (k : Int).toNat
                                  omega
                            · have hklt1 : ¬ (k : Int) < 64 := by omega
                              have NX : Hid (Sp w W2 S S2 ∧ Ph MkG (QH 1 M nt 0) (QH 3 M (i + 1) 0) S2) := ⟨hsp, ⟨hph.lb, hph.lt, QH.next hph.ls⟩⟩
                              clear hsp hph hbv
                              go_wp2_with fail
                              clear V1
                              refine ⟨⟨i + 1, _, by go_num, by omega, NX.out⟩, ?_⟩
                              show ns + 1 - ((i : Int) + 1).toNat < ns + 1 - (i : Int).toNat
                              omega
                        · have hlt1 : ¬ (i : Int) < (ns : Int) := by omega
                          have ST : Hid (Sp w W1 S S1 ∧ Ph MkG (QH 1 M nt 0) (QH 3 M i 0) S1) := ⟨hsp, hph⟩
                          obtain ⟨SF, hSA⟩ : ∃ SA, SA = S1 := ⟨_, rfl⟩
                          rw [← hSA] at ST
                          clear hsp hph hbv hSA hin
                          have hl9 := hlt.symm
                          clear hlt
                          subst hl9
                          have HH := hid (holds_any (p := p) (nb := nb) (nt := nt) (ns := ns) ST.out.1.at_ ST.out.2 (by rw [ST.out.1.p]; exact HP.out) (by rw [ST.out.1.lb]; exact HNB.out) (by rw [ST.out.1.lt]; exact HNT.out) (by rw [ST.out.1.ls]; exact HNS.out) hM hb ht hs)
                          go_wp2_with (go_at_call 45; refine HH.out.mono ?_; rintro e W9 ⟨rfl, b9⟩; have B9 := hid b9; clear b9)
                          go_ret
                          exact ⟨rfl, SF, ST.out.1.below B9.out⟩
end Go.Proofs.YtcpncfngadablaaGreatDoor
