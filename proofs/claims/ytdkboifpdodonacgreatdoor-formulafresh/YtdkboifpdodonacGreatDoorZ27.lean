import Derived.Test.YtdkboifpdodonacGreatDoorZ26
set_option linter.unusedSimpArgs false
/-
 The document's own pieces.
-/
namespace Go.Proofs.YtdkboifpdodonacGreatDoor.Cn
open Go.RowKit Go.Deep PureCnf
set_option maxRecDepth 100000

theorem info53 : (Tryz.prog.info? 73).map (fun i => (i.zero, i.size, i.bytes)) = some (some (.agg #[.string ⟨#[]⟩, .int .i64 0, .int .i64 0]), 3, 32) := by kernel_rfl

/-- a piece as cells. -/
def pc (p : Piece) : List Value := [str p.w, .int .i64 p.at_, .int .i64 p.line]
def pcs (l : List Piece) : List Value := l.flatMap pc

/-- the pieces are owned there, in a block from B on; since w nothing below B has turned. -/
structure Pcs (w : World) (l : List Piece) (v : Value) (W : World) : Prop where
 own : W.ownsRow w.heap.size 73 3 v l.length (pcs l)
 below : Below w.heap.size w W

theorem app_piece {ops : Array Oper} {rest : List Oper} {o : Oper} {a : Act} {Q : Exit → Act → World → Prop} {w0 : World} {cs : Array Value} (hgd : o.guard = none) (s x : Operand)
  (ho : o.op = .call { callee := .builtin .append, args := #[s, x], argTypes := #[67, 67] })
  (w : World) (v : Value) (l : List Piece) (p : Piece) (hcs : cs = (pc p).toArray) (hs : a.eval s = v) (hb : Pcs w l v w0) (hx : a.eval x = .slice (some ⟨w0.heap.size, 0, none⟩) 1 1) (hlen : l.length ≤ 1099511627776)
  (h : ∀ v' w', Pcs w (l ++ [p]) v' w' → wpList Tryz.prog ops Q rest (a.put o.dst v') w') : wpList Tryz.prog ops Q (o :: rest) a (w0.alloc (.cells cs 73)) := by
 obtain ⟨i, hi, hz0, hz1, hz2⟩ := info_parts info53
 subst hcs
 have hb' := hb.own.alloc (.cells (pc p).toArray 73)
 have hbb : Below w.heap.size w (w0.alloc (.cells (pc p).toArray 73)) := hb.below.alloc hb.below.size _
 refine wpList_append_own _ hgd s x 67 ho w.heap.size 73 i _ 3 32 Tryz.underlying67 hi hz0 hz1 hz2 rfl (by decide) v l.length (pcs l) hs hb' ⟨w0.heap.size, 0, none⟩ 1 1 (pc p) hx rfl ?_ ?_ (by unfold maxLen; omega) (by omega) hbb.size ?_
 ·intro j u hj
  rw [add_zero_addr, cell_row (heap_alloc_new w0 _)]
  simpa using hj
 ·intro u hu
  simp only [pc, List.mem_cons, List.not_mem_nil, or_false] at hu
  rcases hu with rfl | rfl | rfl <;> rfl
 ·intro v' w' ho' hg _
  refine h v' w' ⟨?_, hbb.grown hg hbb.size (fun k hk => (hb'.lt k hk).1)⟩
  have e : pcs (l ++ [p]) = pcs l ++ pc p := by simp [pcs]
  rw [e, List.length_append]
  exact ho'

theorem extract_str (s : ByteArray) (i j : Nat) : s.extract i j = ⟨((s.data.toList.take j).drop i).toArray⟩ := by
 apply ByteArray.ext
 apply Array.ext'
 rw [extract_list, List.drop_take]

set_option maxHeartbeats 1000000 in
set_option maxRecDepth 100000 in
theorem pieces_any (s : ByteArray) (w : World) (hs : s.size ≤ 1048576) :
  Calls Tryz.prog 27 #[.string s] w fun e w' => ∃ v, e = .returned v ∧ Pcs w (piecesFrom s.data.toList 0 0) v w' := by
 have HL : Hid (s.data.toList.length = s.size) := by show _ = _; simp
 go_enter Tryz.func27, Tryz.ntmps27
 go_wp2
 go_loopw [3, 4, 5] (fun v ln i W => ∃ (q k : Nat) (acc : List Piece), q ≤ s.size + 1 ∧ i = .int .i64 q ∧ k ≤ q ∧ ln = .int .i64 k ∧ acc.length ≤ q ∧ Hid (acc ++ piecesFrom s.data.toList q k = piecesFrom s.data.toList 0 0 ∧ Pcs w acc v W)) (fun _ _ i _ => s.size + 1 - (intOf i).toNat)
 case atStart => exact ⟨0, 0, [], Nat.zero_le _, rfl, Nat.le_refl _, rfl, Nat.le_refl _, rfl, ⟨World.ownsRow_nil _ _ _ _, Below.refl _ _⟩⟩
 case round =>
  obtain ⟨q, k, acc, hq, rfl, hk, rfl, hac, HP⟩ := hrel
  by_cases hlt : q < s.size
  ·obtain ⟨E, hE⟩ : ∃ E, E = runW lineB s.data.toList q s.size := ⟨_, rfl⟩
   have HE := hid hE
   have hE1 : q ≤ E := by rw [hE]; exact runW_ge _ _ _ _
   have hE2 : E ≤ s.size := by rw [hE]; exact runW_le (by omega)
   clear hE
   go_upto_block 2 with fail
   go_cut [6] (fun ev wx => ev = .int .i64 E ∧ wx = wr)
   case first =>
    go_wp2_with fail
    go_loop [6] (fun ev => ∃ x : Nat, q ≤ x ∧ x ≤ s.size ∧ ev = .int .i64 x ∧ Hid (runW lineB s.data.toList x s.size = E)) (fun ev => s.size - (intOf ev).toNat)
    case atStart => exact ⟨q, Nat.le_refl _, by omega, rfl, HE.out.symm⟩
    case round =>
     obtain ⟨x, hx1, hx2, rfl, HX⟩ := hrel
     by_cases hx : x < s.size
     ·have hx' : x < s.data.toList.length := by rw [HL.out]; exact hx
      by_cases h10 : (s[x].toNat : Int) = 10
      ·have HR : Hid (E = x) := by
        show _ = _
        rw [← HX.out]
        exact runW_off hx (by rw [HL.out]; exact Nat.le_refl _) (by rw [list_at s x hx]; simp [lineB]; omega)
       go_wp2
       go_meet
       exact ⟨by rw [HR.out], rfl⟩
      ·have h10b : ((s[x].toNat : Int) != 10) = true := by simp; omega
       have HR : Hid (runW lineB s.data.toList (x + 1) s.size = E) := by
        show _ = _
        rw [← HX.out]
        exact (runW_on hx (by rw [HL.out]; exact Nat.le_refl _) (by rw [list_at s x hx]; simp [lineB]; omega)).symm
       clear h10
       go_wp2
       exact ⟨⟨x + 1, by omega, hx, by go_num, HR.out⟩, by simp [intOf]; omega⟩
     ·have HR : Hid (E = x) := by
       show _ = _
       rw [← HX.out]
       exact runW_end (by omega)
      go_wp2
      go_meet
      exact ⟨by rw [HR.out], rfl⟩
   case rest =>
    obtain ⟨rfl, rfl⟩ := hcut
    obtain ⟨wr, hwr⟩ : ∃ wr, wr = wc := ⟨_, rfl⟩
    subst hwr
    obtain ⟨K0, hK⟩ : ∃ K0, K0 = runW whB s.data.toList q E := ⟨_, rfl⟩
    have HK := hid hK
    have hK1 : q ≤ K0 := by rw [hK]; exact runW_ge _ _ _ _
    have hK2 : K0 ≤ E := by rw [hK]; exact runW_le (by omega)
    clear hK
    go_upto_block 4 with fail
    go_cut [7] (fun kv wx => kv = .int .i64 K0 ∧ wx = wr)
    case first =>
     go_wp2_with fail
     go_loop [7] (fun kv => ∃ x : Nat, q ≤ x ∧ x ≤ E ∧ kv = .int .i64 x ∧ Hid (runW whB s.data.toList x E = K0)) (fun kv => E - (intOf kv).toNat)
     case atStart => exact ⟨q, Nat.le_refl _, by omega, rfl, HK.out.symm⟩
     case round =>
      obtain ⟨x, hx1, hx2, rfl, HX⟩ := hrel
      by_cases hx : x < E
      ·have hxs : x < s.size := by omega
       have HW := hid (white_any s[x] wr)
       cases hw : whB s[x] with
       | true =>
        have HR : Hid (runW whB s.data.toList (x + 1) E = K0) := by
         show _ = _
         rw [← HX.out]
         exact (runW_on hx (by rw [HL.out]; exact hE2) (by rw [list_at s x hxs]; exact hw)).symm
        rw [show whiteB s[x] = true from hw] at HW
        clear hw
        go_wp2_with (go_at_call 47; refine HW.out.mono ?_; rintro e w' ⟨rfl, rfl⟩)
        exact ⟨⟨x + 1, by omega, hx, by go_num, HR.out⟩, by simp [intOf]; omega⟩
       | false =>
        have HR : Hid (K0 = x) := by
         show _ = _
         rw [← HX.out]
         exact runW_off hx (by rw [HL.out]; exact hE2) (by rw [list_at s x hxs]; exact hw)
        rw [show whiteB s[x] = false from hw] at HW
        clear hw
        go_wp2_with (go_at_call 47; refine HW.out.mono ?_; rintro e w' ⟨rfl, rfl⟩)
        go_meet
        exact ⟨by rw [HR.out], rfl⟩
      ·have HR : Hid (K0 = x) := by
        show _ = _
        rw [← HX.out]
        exact runW_end (by omega)
       go_wp2
       go_meet
       exact ⟨by rw [HR.out], rfl⟩
    case rest =>
     obtain ⟨rfl, rfl⟩ := hcut
     obtain ⟨wr, hwr⟩ : ∃ wr, wr = wc := ⟨_, rfl⟩
     subst hwr
     have hE3 : E ≤ s.data.toList.length := by rw [HL.out]; exact hE2
     obtain ⟨K1, hK3, hK4, hK5, hK6⟩ : ∃ K1, K0 ≤ K1 ∧ K1 ≤ E ∧ lineWords s.data.toList q E k = wordsFrom s.data.toList E k K1 ∧ (K0 < E ∧ s.data.toList[K0]? = some 99 ∧ K1 = E ∨ ¬ (K0 < E ∧ s.data.toList[K0]? = some 99) ∧ K1 = K0) := by
      by_cases hc : K0 < E ∧ s.data.toList[K0]? = some 99
      ·refine ⟨E, hK2, Nat.le_refl _, ?_, .inl ⟨hc.1, hc.2, rfl⟩⟩
       unfold lineWords
       rw [← HK.out, if_pos hc, wordsFrom_nil (by omega)]
      ·refine ⟨K0, Nat.le_refl _, hK2, ?_, .inr ⟨hc, rfl⟩⟩
       unfold lineWords
       rw [← HK.out, if_neg hc]
     have HLW := hid hK5
     clear hK5
     obtain ⟨cB, hcB⟩ : ∃ b : Bool, b = decide (K0 < E ∧ s.data.toList[K0]? = some 99) := ⟨_, rfl⟩
     go_upto_region 11 with fail
     go_cut [46] (fun c wx => c = .bool cB ∧ wx = wr)
     case first =>
      have HCB := hid hcB
      clear hcB hK6
      by_cases hlt2 : K0 < E
      ·have hks : K0 < s.size := by omega
       have hget : s.data.toList[K0]? = some s[K0] := by rw [List.getElem?_eq_getElem (by rw [HL.out]; exact hks), list_at s K0 hks]
       by_cases h99 : (s[K0].toNat : Int) = 99
       ·have HT : Hid (cB = true) := by
         show _ = _
         rw [HCB.out, hget, UInt8.toNat_inj.1 (show s[K0].toNat = (99 : UInt8).toNat by have : (99 : UInt8).toNat = 99 := rfl; omega)]
         simpa using hlt2
        clear hget
        go_wp2
        go_meet
        exact ⟨by rw [HT.out], rfl⟩
       ·have h99b : ((s[K0].toNat : Int) == 99) = false := by rw [beq_eq_false_iff_ne]; exact h99
        have HT : Hid (cB = false) := by
         show _ = _
         rw [HCB.out, hget]
         simp only [decide_eq_false_iff_not, not_and]
         intro _ e
         exact h99 (by rw [Option.some.inj e]; rfl)
        clear hget h99
        go_wp2
        go_meet
        exact ⟨by rw [HT.out], rfl⟩
      ·have HT : Hid (cB = false) := by
        show _ = _
        rw [HCB.out]
        simp [hlt2]
       go_wp2
       go_meet
       exact ⟨by rw [HT.out], rfl⟩
     case rest =>
     obtain ⟨rfl, rfl⟩ := hcut
     obtain ⟨wr, hwr⟩ : ∃ wr, wr = wc := ⟨_, rfl⟩
     subst hwr
     have hK6' : (cB = true ∧ K1 = E) ∨ (cB = false ∧ K1 = K0) := by
      rcases hK6 with ⟨h1, h2, h3⟩ | ⟨h1, h3⟩
      ·exact .inl ⟨by rw [hcB]; exact decide_eq_true ⟨h1, h2⟩, h3⟩
      ·exact .inr ⟨by rw [hcB]; exact decide_eq_false h1, h3⟩
     clear hcB
     go_upto_if 46 with fail
     go_cut [7] (fun kv wx => kv = .int .i64 K1 ∧ wx = wr)
     case first =>
      rcases hK6' with ⟨rfl, h3⟩ | ⟨rfl, h3⟩
      ·have HK1 := hid h3
       clear h3
       go_wp2
       go_meet
       exact ⟨by rw [HK1.out], rfl⟩
      ·have HK1 := hid h3
       clear h3
       go_wp2
       go_meet
       exact ⟨by rw [HK1.out], rfl⟩
     case rest =>
      obtain ⟨rfl, rfl⟩ := hcut
      obtain ⟨wr, hwr⟩ : ∃ wr, wr = wc := ⟨_, rfl⟩
      subst hwr
      have HINK : Hid (∀ h : K1 < E, inkB (s[K1]'(by omega)) = true) := fun h => by
       rcases hK6 with ⟨h1, h2, h3⟩ | ⟨h1, h3⟩
       ·omega
       ·subst h3
        have e := HK.out
        have h4 := runW_stop (p := whB) (l := s.data.toList) (i := q) (e := E) hE3 (by rw [← e]; exact h)
        simp only [← e] at h4
        rw [list_at s K1 (by omega)] at h4
        unfold inkB
        rw [h4]; rfl
      clear hK6 hK6'
      have HPN : Hid (acc ++ (wordsFrom s.data.toList E k K1 ++ piecesFrom s.data.toList (E + 1) (k + 1)) = piecesFrom s.data.toList 0 0) := by
       have h1 := HP.out.1
       have h2 := piecesFrom_on (l := s.data.toList) (i := q) (line := k) (by rw [HL.out]; exact hlt)
       rw [HL.out, ← HE.out, HLW.out] at h2
       rw [h2] at h1
       exact h1
      have HP2 := hid HP.out.2
      clear HP HLW
      go_wp2_with fail
      go_loopw [3, 7] (fun v kv W => ∃ (x : Nat) (ac : List Piece), K1 ≤ x ∧ x ≤ E ∧ kv = .int .i64 x ∧ ac.length ≤ x ∧ Hid ((∀ h : x < E, inkB (s[x]'(by omega)) = true) ∧ ac ++ (wordsFrom s.data.toList E k x ++ piecesFrom s.data.toList (E + 1) (k + 1)) = piecesFrom s.data.toList 0 0 ∧ Pcs w ac v W)) (fun _ kv _ => E - (intOf kv).toNat)
      case atStart => exact ⟨K1, acc, Nat.le_refl _, hK4, rfl, by omega, HINK.out, HPN.out, HP2.out⟩
      case round =>
       obtain ⟨x, ac, hx1, hx2, rfl, hac2, HX⟩ := hrel
       by_cases hx : x < E
       ·obtain ⟨h1, h2, h3⟩ := HX.out
        have hxs : x < s.size := by omega
        have hink := h1 hx
        obtain ⟨J, hJ⟩ : ∃ J, J = runW inkB s.data.toList x E := ⟨_, rfl⟩
        have hJ1 : x + 1 ≤ J := by
         rw [hJ, runW_on hx hE3 (by rw [list_at s x hxs]; exact hink)]
         exact runW_ge _ _ _ _
        have hJ2 : J ≤ E := by rw [hJ]; exact runW_le (by omega)
        obtain ⟨K2, hK2e⟩ : ∃ K2, K2 = runW whB s.data.toList J E := ⟨_, rfl⟩
        have hK21 : J ≤ K2 := by rw [hK2e]; exact runW_ge _ _ _ _
        have hK22 : K2 ≤ E := by rw [hK2e]; exact runW_le (by omega)
        have HW2 : Hid (wordsFrom s.data.toList E k x = ⟨(s.data.toList.take J).drop x, x, k⟩ :: wordsFrom s.data.toList E k K2) := by
         show _ = _
         rw [wordsFrom_cons hx hE3 (by rw [list_at s x hxs]; exact hink), ← hJ, ← hK2e]
        have HJ := hid hJ
        have HK2 := hid hK2e
        have H2 := hid h2
        have H3 := hid h3
        have HEX := hid (extract_str s x J)
        clear h1 h2 h3 hink hJ hK2e HX
        go_upto_block 8 with fail
        go_cut [8] (fun jv wx => jv = .int .i64 J ∧ wx = wr)
        case first =>
         go_wp2_with fail
         go_loop [8] (fun jv => ∃ y : Nat, x ≤ y ∧ y ≤ E ∧ jv = .int .i64 y ∧ Hid (runW inkB s.data.toList y E = J)) (fun jv => E - (intOf jv).toNat)
         case atStart => exact ⟨x, Nat.le_refl _, by omega, rfl, HJ.out.symm⟩
         case round =>
          obtain ⟨y, hy1, hy2, rfl, HY⟩ := hrel
          by_cases hy : y < E
          ·have hys : y < s.size := by omega
           have HW := hid (white_any s[y] wr)
           cases hw : whB s[y] with
           | false =>
            have HR : Hid (runW inkB s.data.toList (y + 1) E = J) := by
             show _ = _
             rw [← HY.out]
             exact (runW_on hy hE3 (by rw [list_at s y hys]; unfold inkB; rw [hw]; rfl)).symm
            rw [show whiteB s[y] = false from hw] at HW
            clear hw
            go_wp2_with (go_at_call 47; refine HW.out.mono ?_; rintro e w' ⟨rfl, rfl⟩)
            exact ⟨⟨y + 1, by omega, hy, by go_num, HR.out⟩, by simp [intOf]; omega⟩
           | true =>
            have HR : Hid (J = y) := by
             show _ = _
             rw [← HY.out]
             exact runW_off hy hE3 (by rw [list_at s y hys]; unfold inkB; rw [hw]; rfl)
            rw [show whiteB s[y] = true from hw] at HW
            clear hw
            go_wp2_with (go_at_call 47; refine HW.out.mono ?_; rintro e w' ⟨rfl, rfl⟩)
            go_meet
            exact ⟨by rw [HR.out], rfl⟩
          ·have HR : Hid (J = y) := by
            show _ = _
            rw [← HY.out]
            exact runW_end (by omega)
           go_wp2
           go_meet
           exact ⟨by rw [HR.out], rfl⟩
        case rest =>
         obtain ⟨rfl, rfl⟩ := hcut
         obtain ⟨wr, hwr⟩ : ∃ wr, wr = wc := ⟨_, rfl⟩
         subst hwr
         have hJ0 : (x : Int) ≤ (J : Int) := by omega
         have hJs : (J : Int) ≤ (s.size : Int) := by omega
         go_upto_block 10 with (first
          |(at_builtin; refine app_piece rfl _ _ rfl w _ ac ⟨(s.data.toList.take J).drop x, x, k⟩ ?_ rfl H3.out rfl (by omega) ?_; (exact congrArg (fun t => #[Value.string t, .int .i64 (x : Int), .int .i64 (k : Int)]) HEX.out); intro v4 w4 r4; have R4 := hid r4; clear r4))
         have FIN : Hid ((∀ h : K2 < E, inkB (s[K2]'(by omega)) = true) ∧ (ac ++ [⟨(s.data.toList.take J).drop x, x, k⟩]) ++ (wordsFrom s.data.toList E k K2 ++ piecesFrom s.data.toList (E + 1) (k + 1)) = piecesFrom s.data.toList 0 0 ∧ Pcs w (ac ++ [⟨(s.data.toList.take J).drop x, x, k⟩]) v4 w4) := by
          refine ⟨fun h => ?_, ?_, R4.out⟩
          ·have e := HK2.out
           have h4 := runW_stop (p := whB) (l := s.data.toList) (i := J) (e := E) hE3 (by rw [← e]; exact h)
           simp only [← e] at h4
           rw [list_at s K2 (by omega)] at h4
           unfold inkB
           rw [h4]; rfl
          ·rw [← H2.out, HW2.out]
           simp
         clear R4 H2 H3 HW2
         go_wp2_with fail
         go_loop [7] (fun kv => ∃ y : Nat, J ≤ y ∧ y ≤ E ∧ kv = .int .i64 y ∧ Hid (runW whB s.data.toList y E = K2)) (fun kv => E - (intOf kv).toNat)
         case atStart => exact ⟨J, Nat.le_refl _, by omega, rfl, HK2.out.symm⟩
         case round =>
          obtain ⟨y, hy1, hy2, rfl, HY⟩ := hrel
          by_cases hy : y < E
          ·have hys : y < s.size := by omega
           have HW := hid (white_any s[y] w4)
           cases hw : whB s[y] with
           | true =>
            have HR : Hid (runW whB s.data.toList (y + 1) E = K2) := by
             show _ = _
             rw [← HY.out]
             exact (runW_on hy hE3 (by rw [list_at s y hys]; exact hw)).symm
            rw [show whiteB s[y] = true from hw] at HW
            clear hw
            go_wp2_with (go_at_call 47; refine HW.out.mono ?_; rintro e w' ⟨rfl, rfl⟩)
            exact ⟨⟨y + 1, by omega, hy, by go_num, HR.out⟩, by simp [intOf]; omega⟩
           | false =>
            have HR : Hid (K2 = y) := by
             show _ = _
             rw [← HY.out]
             exact runW_off hy hE3 (by rw [list_at s y hys]; exact hw)
            rw [show whiteB s[y] = false from hw] at HW
            clear hw
            go_wp2_with (go_at_call 47; refine HW.out.mono ?_; rintro e w' ⟨rfl, rfl⟩)
            have e := HR.out
            subst e
            exact ⟨⟨K2, _, by omega, hK22, rfl, by simp; omega, FIN.out⟩, by simp [intOf]; omega⟩
          ·have HR : Hid (K2 = y) := by
            show _ = _
            rw [← HY.out]
            exact runW_end (by omega)
           go_wp2
           have e := HR.out
           subst e
           exact ⟨⟨K2, _, by omega, hK22, rfl, by simp; omega, FIN.out⟩, by simp [intOf]; omega⟩
       ·obtain ⟨h1, h2, h3⟩ := HX.out
        rw [wordsFrom_nil hx, List.nil_append] at h2
        have H2 := hid h2
        have H3 := hid h3
        clear h1 h2 h3 HX
        go_wp2_with fail
        exact ⟨⟨E + 1, k + 1, ac, by omega, by go_num, by omega, by go_num, by omega, H2.out, H3.out⟩, by simp [intOf]; omega⟩
  ·have he : piecesFrom s.data.toList q k = [] := piecesFrom_end (by rw [HL.out]; exact hlt)
   obtain ⟨h1, h2⟩ := HP.out
   rw [he, List.append_nil] at h1
   rw [h1] at h2
   have H2 := hid h2
   clear he h1 h2 HP
   go_wp2
   go_ret
   exact ⟨_, rfl, H2.out⟩
end Go.Proofs.YtdkboifpdodonacGreatDoor.Cn
/-
 The document's own wrong, head.
-/
namespace Go.Proofs.YtdkboifpdodonacGreatDoor.Cn
open Go.RowKit Go.Deep PureCnf
set_option maxRecDepth 100000

def faultV (e : Int) (p : Nat × Nat) : Value := .agg #[.int .i64 e, .int .i64 (p.1 : Int), .int .i64 (p.2 : Int)]

set_option maxHeartbeats 1000000 in
theorem wrong_any (s : ByteArray) (c : Int) (i : Nat) (w : World) (hs : s.size ≤ 1048576) (hi : i ≤ s.size) :
  Calls Tryz.prog 29 #[.string s, .int .i64 c, .int .i64 (i : Int)] w fun e w' => e = .returned (.tuple #[cnfV 0 none 0 0 none 0 0, faultV c (spotN (s.data.toList.take i))]) ∧ Below w.heap.size w w' := by
 obtain ⟨WA, hWA⟩ : ∃ WA, WA = (w.alloc (Obj.cells #[.int .i64 0, .slice none 0 0, .slice none 0 0] 33 (0, 0))).alloc (Obj.cells #[.int .i64 0, .int .i64 0, .int .i64 0] 28 (0, 0)) := ⟨_, rfl⟩
 have HSP := hid (spot_any s i WA (by omega) hi)
 obtain ⟨line, hline⟩ : ∃ x, x = (spotN (s.data.toList.take i)).1 := ⟨_, rfl⟩
 obtain ⟨col, hcol⟩ : ∃ x, x = (spotN (s.data.toList.take i)).2 := ⟨_, rfl⟩
 unfold faultV
 rw [← hline, ← hcol] at HSP ⊢
 have hr0 : WA.heap[w.heap.size]? = some (.cells #[.int .i64 0, .slice none 0 0, .slice none 0 0] 33 (0, 0)) := by
  rw [hWA]; exact (Below.heap_alloc _ _ _ (by simp)).trans (heap_alloc_new w _)
 have hr1 : WA.heap[w.heap.size + 1]? = some (.cells #[.int .i64 0, .int .i64 0, .int .i64 0] 28 (0, 0)) := by
  have := heap_alloc_new (w.alloc (Obj.cells #[.int .i64 0, .slice none 0 0, .slice none 0 0] 33 (0, 0))) (Obj.cells #[.int .i64 0, .int .i64 0, .int .i64 0] 28 (0, 0))
  rw [hWA]; simpa using this
 have hz : WA.heap.size = w.heap.size + 2 := by rw [hWA]; simp
 have HB : Hid (Below w.heap.size w WA) := by rw [hWA]; exact ((Below.refl _ _).alloc (Nat.le_refl _) _).alloc (by simp) _
 have HWA := hid hWA
 have HR0 := hid hr0
 have HR1 := hid hr1
 clear hline hcol hWA hr0 hr1
 go_enter Tryz.func29, Tryz.ntmps29
 go_wp2_with (first
  |(rw [← HWA.out])
  |(go_at_call 26; refine HSP.out.mono ?_; rintro e w1 ⟨rfl, hb⟩; have HB1 := hid hb; clear hb))
 obtain ⟨W1, hW1⟩ : ∃ W1, W1 = w1.alloc (Obj.cells #[.int .i64 (line : Int), .int .i64 (col : Int)] 26 (0, 0)) := ⟨_, rfl⟩
 have hs1 := HB1.out.size
 have q0 : W1.heap[w.heap.size]? = some (.cells #[.int .i64 0, .slice none 0 0, .slice none 0 0] 33 (0, 0)) := by
  rw [hW1]; exact (Below.heap_alloc _ _ _ (by omega)).trans ((HB1.out.block _ (by omega)).trans HR0.out)
 have q1 : W1.heap[w.heap.size + 1]? = some (.cells #[.int .i64 0, .int .i64 0, .int .i64 0] 28 (0, 0)) := by
  rw [hW1]; exact (Below.heap_alloc _ _ _ (by omega)).trans ((HB1.out.block _ (by omega)).trans HR1.out)
 have q2 : W1.heap[w1.heap.size]? = some (.cells #[.int .i64 (line : Int), .int .i64 (col : Int)] 26 (0, 0)) := by
  rw [hW1]; exact heap_alloc_new w1 _
 have HB2 : Hid (Below w.heap.size w W1) := by rw [hW1]; exact (HB.out.trans (HB1.out.mono (by omega))).alloc (by omega) _
 rw [← hW1]
 have c0 := fun j => cell_row q0 j
 have c1 := fun j => cell_row q1 j
 have c2 := fun j => cell_row q2 j
 have f0 := fun j => unfrozen_row q0 j
 have f1 := fun j => unfrozen_row q1 j
 clear hW1 q0 q1 q2
 go_region
 all_goals
  go_wp2
 all_goals
  exact bodyPost_ret (v := .tuple #[cnfV 0 none 0 0 none 0 0, .agg #[.int .i64 c, .int .i64 (line : Int), .int .i64 (col : Int)]]) (by simp [results, Tryz.results29, go_sem, c0, c1]) rfl ⟨rfl, ((((((HB2.out.setCell (by simp) _).setCell (by simp) _).setCell (by simp) _).setCell (by simp) _).setCell (by simp) _).setCell (by simp) _).drew⟩
end Go.Proofs.YtdkboifpdodonacGreatDoor.Cn
