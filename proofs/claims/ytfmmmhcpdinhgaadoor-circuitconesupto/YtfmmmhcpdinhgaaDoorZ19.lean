import Derived.Test.YtfmmmhcpdinhgaaDoorZ18
/-
  CircuitCones: the law.
-/
namespace Go.Proofs.YtfmmmhcpdinhgaaDoor
open Go.RowKit Go.Deep PureNet ShfKit
set_option maxRecDepth 100000

set_option maxHeartbeats 8000000 in
theorem cones_law (c : Net) (sg so : Option Addr) (cg co : Nat) (p : Int) (w : World) (hc : CirAt w c sg so) (hkd : KindsAt w) (hsg : sg = none → cg = 0) (hso : so = none → co = 0) (hn : c.name.size ≤ 140737488351232) (hns : ∀ g ∈ c.gates, g.name.size ≤ 140737488351232) (hl : c.gates.length ≤ 1099511627776) (hlo : c.outs.length ≤ 1099511627776) :
    Calls Tryd.prog 5 #[cirV c sg cg so co, .int .i64 p] w fun e w' => e = .returned (.bool true) ∧ Below w.heap.size w w' := by
  obtain ⟨x0, hx0⟩ : ∃ x, x = w.alloc (Obj.cells #[Value.string c.name, Value.slice sg c.gates.length cg, Value.slice so c.outs.length co] 26) := ⟨_, rfl⟩
  have R0 : Hid (x0.heap[w.heap.size]? = some (.cells #[Value.string c.name, Value.slice sg c.gates.length cg, Value.slice so c.outs.length co] 26 (0, 0))) := by rw [hx0]; exact heap_alloc_new w _
  have BX0 : Hid (Below w.heap.size w x0) := by rw [hx0]; exact (Below.refl _ _).alloc (Nat.le_refl _) _
  have S0 : Hid (x0.heap.size = w.heap.size + 1) := by rw [hx0]; show _ = _; simp
  have KD : Hid (∀ W, Below w.heap.size w W → KindsAt W) := fun W h => hkd.on h
  have CW : Hid (∀ W, Below w.heap.size w W → CirAt W c sg so) := fun W h => hc.below h
  have TWN := hid (twin_any c sg so cg co x0 (hc.below BX0.out) hsg hso hl hlo)
  have CN : Hid (∀ W B gg kg go ko, TwinAt W B c gg kg go ko → Below w.heap.size w W → Calls Tryd.prog 21 #[cirV c (some ⟨gg, 0, none⟩) kg (some ⟨go, 0, none⟩) ko, .int .i64 p] W fun e w' => ConeSays c p W.heap.size e w' ∧ Below W.heap.size W w') := fun W B gg kg go ko ht hb => cone_gen c (some ⟨gg, 0, none⟩) (some ⟨go, 0, none⟩) kg ko p W ht.cir (hkd.on hb) hn hns hl hlo
  have RC : Hid (∀ W, Below w.heap.size w W → Calls Tryd.prog 22 #[cirV c sg cg so co, .int .i64 p] W fun e w' => ConeSays c p W.heap.size e w' ∧ Below W.heap.size W w') := fun W hb => rcone_gen c sg so cg co p W (hc.below hb) hn hns hl hlo
  have KT : Hid (∀ W B gg kg go ko, TwinAt W B c gg kg go ko → Below w.heap.size w W → Calls Tryd.prog 24 #[cirV c (some ⟨gg, 0, none⟩) kg (some ⟨go, 0, none⟩) ko, cirV c sg cg so co] W fun e w' => e = .returned (.bool true) ∧ Below W.heap.size W w') := fun W B gg kg go ko ht hb => kept_true c B gg kg go ko sg so cg co W ht (hc.below hb) hl hlo
  have LIM := hid (And.intro hn (And.intro hns (And.intro hl hlo)))
  have d0 := fun j => cell_row R0.out j
  have hb0 := (Array.getElem?_eq_some_iff.1 R0.out).1
  have HX0 := hid hx0
  clear hx0 hc hkd hsg hso hn hns hl hlo
  go_enter Tryd.func5, Tryd.ntmps5
  go_wp2_with (first
    | (rw [← HX0.out])
    | (have q := HX1; clear q; rw [← HX1.out]; clear HX1)
    | (have q := B46; clear q; go_at_call 24; refine Calls.mono (KT.out w6 _ _ _ _ _ (TWA.out w6 B6.out) (BW.out w6 B6.out)) ?_; rintro e w7 ⟨rfl, b7⟩; have B47 : Hid (Below w4.heap.size w4 w7) := B46.out.trans (b7.mono B46.out.size); have B7 : Hid (Below x1.heap.size x1 w7) := B6.out.trans (b7.mono B6.out.size); clear b7)
    | (have q := B45; clear q; go_at_call 23; refine Calls.mono (places_nn_true L s3 s4 c3 c4 w5 (C3.out.below B45.out) (C4.out.below B45.out) (by have := HR.out.few; omega)) ?_; rintro e w6 ⟨rfl, b6⟩; have B46 : Hid (Below w4.heap.size w4 w6) := B45.out.trans (b6.mono B45.out.size); have B6 : Hid (Below x1.heap.size x1 w6) := B4.out.trans (B46.out.mono B4.out.size); obtain ⟨a6, e6, hs6, ht6⟩ := CE.out w6 B6.out; clear b6)
    | (have q := O4; clear q; go_at_call 23; refine Calls.mono (places_nn_true L s2 s4 c2 c4 w4 C2.out C4.out (by have := HR.out.few; omega)) ?_; rintro e w5 ⟨rfl, b5⟩; have B45 := hid b5; clear b5)
    | (have q := O3; clear q; go_at_call 22; refine Calls.mono (RC.out w3 (BW.out w3 B3.out)) ?_; rintro e w4 ⟨hs4, b4⟩; obtain ⟨v4, L4, r4, hR4, rfl, ho4⟩ := hs4.gives; obtain ⟨rfl, rfl⟩ := HR.out.one hR4; obtain ⟨s4, c4, rfl⟩ := own_shape ho4; have O4 := hid ho4; have B34 := hid b4; have B4 : Hid (Below x1.heap.size x1 w4) := B3.out.trans (b4.mono B3.out.size); have C4 := hid (row_read ho4); have C3 := hid (row_read (ownsRow_below O3.out b4)); have C2 := hid (row_read (ownsRow_below O2.out (B23.out.trans (b4.mono B23.out.size)))); clear hs4 b4 hR4 ho4)
    | (have q := O2; clear q; go_at_call 21; refine Calls.mono (CN.out w2 _ _ _ _ _ (TWA.out w2 B2.out) (BW.out w2 B2.out)) ?_; rintro e w3 ⟨hs3, b3⟩; obtain ⟨v3, L3, r3, hR3, rfl, ho3⟩ := hs3.gives; obtain ⟨rfl, rfl⟩ := HR.out.one hR3; obtain ⟨s3, c3, rfl⟩ := own_shape ho3; have O3 := hid ho3; have B23 := hid b3; have B3 : Hid (Below x1.heap.size x1 w3) := B2.out.trans (b3.mono B2.out.size); obtain ⟨a3, e3, hs3', ht3⟩ := CE.out w3 B3.out; clear hs3 b3 hR3 ho3)
    | (have q := TW1; clear q; go_at_call 21; refine Calls.mono (CN.out x1 _ _ _ _ _ (TWA.out x1 (Below.refl _ _)) (BW.out x1 (Below.refl _ _))) ?_; rintro e w2 ⟨hs2, b2⟩; obtain ⟨v2, L, r, hR, rfl, ho2⟩ := hs2.gives; obtain ⟨s2, c2, rfl⟩ := own_shape ho2; have O2 := hid ho2; have HR := hid hR; have B2 : Hid (Below x1.heap.size x1 w2) := b2; obtain ⟨a2, e2, hs2', ht2⟩ := CE.out w2 B2.out; clear hs2 b2 hR ho2)
    | (go_at_call 20; refine Calls.mono TWN.out ?_; rintro e w1 ⟨gg, kg, go, ko, rfl, tw1, b1⟩; have TW1 := hid tw1; have B1 := hid b1; obtain ⟨x1, hx1⟩ : ∃ x, x = w1.alloc (Obj.cells #[Value.string c.name, Value.slice (some ⟨gg, 0, none⟩) c.gates.length kg, Value.slice (some ⟨go, 0, none⟩) c.outs.length ko] 26) := ⟨_, rfl⟩; have HX1 := hid hx1; have R1 : Hid (x1.heap[w1.heap.size]? = some (.cells #[Value.string c.name, Value.slice (some ⟨gg, 0, none⟩) c.gates.length kg, Value.slice (some ⟨go, 0, none⟩) c.outs.length ko] 26 (0, 0))) := (by rw [hx1]; exact heap_alloc_new w1 _); have B11 : Hid (Below w1.heap.size w1 x1) := (by rw [hx1]; exact (Below.refl _ _).alloc (Nat.le_refl _) _); have S1 : Hid (x1.heap.size = w1.heap.size + 1) := (by rw [hx1]; show _ = _; simp); have BW : Hid (∀ W, Below x1.heap.size x1 W → Below w.heap.size w W) := (fun W hW => BX0.out.trans (((b1.trans (B11.out.mono b1.size)).trans (hW.mono (Nat.le_trans b1.size B11.out.size))).mono BX0.out.size)); have TWA : Hid (∀ W, Below x1.heap.size x1 W → TwinAt W x0.heap.size c gg kg go ko) := (fun W hW => (tw1.below B11.out).below hW); have CE : Hid (∀ W, Below x1.heap.size x1 W → (∀ j, W.cell? ⟨w.heap.size, j, none⟩ = (#[Value.string c.name, Value.slice sg c.gates.length cg, Value.slice so c.outs.length co] : Array Value)[j]?) ∧ (∀ j, W.cell? ⟨w1.heap.size, j, none⟩ = (#[Value.string c.name, Value.slice (some ⟨gg, 0, none⟩) c.gates.length kg, Value.slice (some ⟨go, 0, none⟩) c.outs.length ko] : Array Value)[j]?) ∧ w.heap.size < W.heap.size ∧ w1.heap.size < W.heap.size) := (fun W hW => by
        have h2 := (hW.block _ (Array.getElem?_eq_some_iff.1 R1.out).1).trans R1.out
        have h3 := (b1.block _ (Array.getElem?_eq_some_iff.1 R0.out).1).trans R0.out
        have h4 := (B11.out.block _ (Array.getElem?_eq_some_iff.1 h3).1).trans h3
        have h5 := (hW.block _ (Array.getElem?_eq_some_iff.1 h4).1).trans h4
        exact ⟨fun j => cell_row h5 j, fun j => cell_row h2 j, (Array.getElem?_eq_some_iff.1 h5).1, (Array.getElem?_eq_some_iff.1 h2).1⟩); obtain ⟨a1, e1, hs1', ht1⟩ := CE.out x1 (Below.refl _ _); clear tw1 b1 hx1))
  clear a1 e1 hs1' ht1 a2 e2 hs2' ht2 a3 e3 hs3' ht3 a6 e6 hs6 ht6 d0 hb0 C2 C3 C4 B45 B46 B6 KT TWN
  have B37 : Hid (Below w3.heap.size w3 w7) := B34.out.trans (B47.out.mono B34.out.size)
  have B27 : Hid (Below w2.heap.size w2 w7) := B23.out.trans (B37.out.mono B23.out.size)
  have OA := hid (ownsRow_below O2.out B27.out)
  have OM := hid (ownsRow_below O3.out B37.out)
  have OK4 := hid (ownsRow_below O4.out B47.out)
  have BA : Hid (∀ g, (Value.slice s2 L.length c2).ownBlock = some g → x1.heap.size ≤ g ∧ g < w2.heap.size) := fun g hg => ShfKit.own_block O2.out hg
  have BM : Hid (∀ g, (Value.slice s3 L.length c3).ownBlock = some g → w2.heap.size ≤ g ∧ g < w3.heap.size) := fun g hg => ShfKit.own_block O3.out hg
  have BK : Hid (∀ g, (Value.slice s4 L.length c4).ownBlock = some g → w3.heap.size ≤ g ∧ g < w4.heap.size) := fun g hg => ShfKit.own_block O4.out hg
  have SZ : Hid (x1.heap.size ≤ w2.heap.size ∧ w2.heap.size ≤ w3.heap.size ∧ w3.heap.size ≤ w4.heap.size ∧ w4.heap.size ≤ w7.heap.size) := ⟨B2.out.size, B23.out.size, B34.out.size, B47.out.size⟩
  have hLn : L.length ≤ 65536 := HR.out.few
  clear O2 O3 O4
  go_loopg [13] L.length (fun k iv W => ∃ (i : Nat) (xs : List Value), i ≤ L.length ∧ k = L.length - i ∧ iv = .int .i64 (i : Int) ∧ Hid (W.ownsRow x1.heap.size 3 1 (.slice s2 L.length c2) L.length xs ∧ (∀ j, j < i → xs[j]? = some (.int .i64 (-7))) ∧ Kp2 x1.heap.size w2.heap.size w7 W))
  case atStart => exact ⟨0, nn2 L, Nat.zero_le _, rfl, rfl, OA.out, fun j hj => by omega, Kp2.refl _ _ _⟩
  case round =>
    clear OA
    obtain ⟨i, xs, hi, hgk, rfl, HR1⟩ := hrel
    subst hgk
    by_cases hlt : i < L.length
    · have ho := HR1.out.1
      have hxl : xs.length = L.length := by have := ho.1; omega
      obtain ⟨u0, hu0⟩ : ∃ u0, xs[i]? = some u0 := ⟨_, List.getElem?_eq_getElem (by omega : i < xs.length)⟩
      obtain ⟨g, cc, hv, hgb, hgs, hce, hfr⟩ := own_cell ho hu0
      have hs2 : s2 = some ⟨g, 0, none⟩ := by
        simp only [Value.slice.injEq] at hv
        exact hv.1
      have st := own_set (j := i) ho hv (.int .i64 (-7))
      have NX : Hid ((wr.setCell ⟨g, i, none⟩ (.int .i64 (-7))).ownsRow x1.heap.size 3 1 (.slice s2 L.length c2) L.length (xs.set i (.int .i64 (-7))) ∧ (∀ j, j < i + 1 → (xs.set i (.int .i64 (-7)))[j]? = some (.int .i64 (-7))) ∧ Kp2 x1.heap.size w2.heap.size w7 (wr.setCell ⟨g, i, none⟩ (.int .i64 (-7)))) := by
        refine ⟨st.1, fun j hj => ?_, HR1.out.2.2.grow st.2 (by have := SZ.out; omega) (fun b hb => .inl (BA.out b hb))⟩
        rw [List.getElem?_set]
        by_cases e : i = j
        · rw [if_pos e, if_pos (by omega)]
        · rw [if_neg e]
          exact HR1.out.2.1 j (by omega)
      have HS2 := hid hs2
      clear ho hv st hxl HR1 hu0
      go_wp2
      (try rw [← HS2.out])
      go_roundg (L.length - (i + 1))
      case measure => omega
      case rel => exact ⟨i + 1, _, hlt, rfl, by go_num, NX.out⟩
    · obtain rfl : i = L.length := by omega
      have RL : Hid (xs = List.replicate L.length (.int .i64 (-7))) := by
        refine List.eq_replicate_iff.2 ⟨by have := HR1.out.1.1; omega, fun b hb => ?_⟩
        obtain ⟨j, hj, e⟩ := List.getElem_of_mem hb
        have h2 := HR1.out.2.1 j (by have := HR1.out.1.1; omega)
        rw [List.getElem?_eq_getElem hj, e] at h2
        exact Option.some.inj h2
      have OA := hid HR1.out.1
      have KA := hid HR1.out.2.2
      rw [RL.out] at OA
      clear HR1 RL hlt hi xs
      go_wp2
      go_loopg [12, 14] 16 (fun k mv iv W => ∃ (i : Nat) (sx : Option Addr) (cx : Nat), i ≤ 16 ∧ k = 16 - i ∧ iv = .int .i64 (i : Int) ∧ mv = .slice sx (L.length + i) cx ∧ Hid (W.ownsRow x1.heap.size 3 1 (.slice sx (L.length + i) cx) (L.length + i) (List.replicate L.length (.int .i64 (-7)) ++ List.replicate i (.int .i64 (-8))) ∧ (∀ g, (Value.slice sx (L.length + i) cx).ownBlock = some g → (x1.heap.size ≤ g ∧ g < w2.heap.size) ∨ w7.heap.size ≤ g) ∧ Kp2 x1.heap.size w2.heap.size w7 W))
      case atStart => exact ⟨0, s2, c2, Nat.zero_le _, rfl, rfl, rfl, by rw [List.replicate_zero, List.append_nil]; exact OA.out, fun g hg => .inl (BA.out g hg), KA.out⟩
      case round =>
        clear OA KA
        obtain ⟨i, sx, cx, hi, hgk, rfl, rfl, HR1⟩ := hrel
        subst hgk
        by_cases hlt : i < 16
        · go_wp2_with (at_builtin; refine wpl_one rfl _ _ 22 rfl x1.heap.size 3 _ 1 8 Tryd.underlying22 info3 rfl (by decide) (.slice sx (L.length + i) cx) (L.length + i) _ rfl HR1.out.1 [.int .i64 (-8)] 3 _ rfl rfl rfl (fun u hu => by simp at hu; subst hu; rfl) (by omega) (by omega) (by have h1 := HR1.out.2.2.below.size; have h2 := SZ.out; omega) ?_; intro v8 w8 o8 f8; obtain ⟨sy, cy, rfl⟩ := own_shape o8; have k8 := (HR1.out.2.2.on (by have h2 := SZ.out; omega) ((Below.refl _ _).alloc (Nat.le_refl _) _)).far f8 (by have h2 := SZ.out; omega) HR1.out.2.1; rw [List.append_assoc, show List.replicate i (Value.int .i64 (-8)) ++ [Value.int .i64 (-8)] = List.replicate (i + 1) (Value.int .i64 (-8)) from List.replicate_succ'.symm] at o8; have O8 := hid o8; have K8 := hid k8; clear o8 f8 k8)
          go_roundg (16 - (i + 1))
          case measure => omega
          case rel => exact ⟨i + 1, _, _, hlt, rfl, by go_num, rfl, O8.out, K8.out.2, K8.out.1⟩
        · obtain rfl : i = 16 := by omega
          have OB := hid HR1.out.1
          have BB := hid HR1.out.2.1
          have KB := hid HR1.out.2.2
          obtain ⟨gm, cm, hvm, _, _, _⟩ := own_some OB.out (by omega)
          have hsx : sx = some ⟨gm, 0, none⟩ := by
            simp only [Value.slice.injEq] at hvm
            exact hvm.1
          subst hsx
          obtain ⟨w8, hw8⟩ : ∃ w8, w8 = wr := ⟨_, rfl⟩
          subst hw8
          clear HR1 hvm hlt hi
          have OM8 := hid (KB.out.own OM.out (fun g hg => .inr (BM.out g hg).1))
          have OK8 := hid (KB.out.own OK4.out (fun g hg => .inr (by have := (BK.out g hg).1; have := SZ.out; omega)))
          have PL8 := hid (places_nn_true L s3 s4 c3 c4 w8 (row_read OM8.out) (row_read OK8.out) (by omega))
          go_wp2_with (first
            | (go_at_call 23; refine Calls.mono PL8.out ?_; rintro e w9 ⟨rfl, b9⟩; have B89 := hid b9; clear b9))
          have OM9 := hid (ownsRow_below OM8.out B89.out)
          have OK9 := hid (ownsRow_below OK8.out B89.out)
          have OB9 := hid (ownsRow_below OB.out B89.out)
          have S9 : Hid (w7.heap.size ≤ w9.heap.size) := Nat.le_trans KB.out.below.size B89.out.size
          have B9 : Hid (Below x1.heap.size x1 w9) := B7.out.trans ((KB.out.below.trans (B89.out.mono (Nat.le_trans B7.out.size KB.out.below.size))).mono (Nat.le_refl _))
          clear PL8 OM8 OK8 OB KB OM OK4 B89
          go_loopg [8, 15] 16 (fun k mv iv W => ∃ (i : Nat) (sx : Option Addr) (cx : Nat), i ≤ 16 ∧ k = 16 - i ∧ iv = .int .i64 (i : Int) ∧ mv = .slice sx (L.length + i) cx ∧ Hid ((∃ ys, W.ownsRow w2.heap.size 3 1 (.slice sx (L.length + i) cx) (L.length + i) ys) ∧ (∀ g, (Value.slice sx (L.length + i) cx).ownBlock = some g → (w2.heap.size ≤ g ∧ g < w3.heap.size) ∨ w9.heap.size ≤ g) ∧ Kp2 w2.heap.size w3.heap.size w9 W))
          case atStart => exact ⟨0, s3, c3, Nat.zero_le _, rfl, rfl, rfl, ⟨_, OM9.out⟩, fun g hg => .inl (BM.out g hg), Kp2.refl _ _ _⟩
          case round =>
            clear OM9
            obtain ⟨i, sx, cx, hi, hgk, rfl, rfl, HR1⟩ := hrel
            subst hgk
            by_cases hlt : i < 16
            · obtain ⟨ys, hys⟩ := HR1.out.1
              go_wp2_with (at_builtin; refine wpl_one rfl _ _ 22 rfl w2.heap.size 3 _ 1 8 Tryd.underlying22 info3 rfl (by decide) (.slice sx (L.length + i) cx) (L.length + i) ys rfl hys [.int .i64 (-9)] 3 _ rfl rfl rfl (fun u hu => by simp at hu; subst hu; rfl) (by omega) (by omega) (by have h1 := HR1.out.2.2.below.size; have h2 := SZ.out; have h3 := S9.out; omega) ?_; intro v8 w8 o8 f8; obtain ⟨sy, cy, rfl⟩ := own_shape o8; have k8 := (HR1.out.2.2.on (by have h2 := SZ.out; have h3 := S9.out; omega) ((Below.refl _ _).alloc (Nat.le_refl _) _)).far f8 (by have h2 := SZ.out; have h3 := S9.out; omega) HR1.out.2.1; have O8 := hid o8; have K8 := hid k8; clear o8 f8 k8 hys)
              go_roundg (16 - (i + 1))
              case measure => omega
              case rel => exact ⟨i + 1, _, _, hlt, rfl, by go_num, rfl, ⟨_, O8.out⟩, K8.out.2, K8.out.1⟩
            · obtain rfl : i = 16 := by omega
              obtain ⟨wa, hwa⟩ : ∃ wa, wa = wr := ⟨_, rfl⟩
              subst hwa
              have KC := hid HR1.out.2.2
              have OBa := hid (KC.out.own OB9.out (fun g hg => by
                rcases BB.out g hg with h1 | h1
                · exact .inl h1.2
                · exact .inr (by have := SZ.out; omega)))
              have OKa := hid (KC.out.own OK9.out (fun g hg => .inr (BK.out g hg).1))
              have Ba : Hid (Below x1.heap.size x1 wa) := B9.out.trans (KC.out.below.mono SZ.out.1)
              have Ga := (own_some OBa.out (by omega))
              obtain ⟨_, _, hvm, _, _, hgm⟩ := Ga
              cases hvm
              clear HR1 hlt hi OB9 OK9 BB KC
              go_wp2
              go_loopg [16] (L.length + 16) (fun k iv W => ∃ (i : Nat), i ≤ L.length + 16 ∧ k = L.length + 16 - i ∧ iv = .int .i64 (i : Int) ∧ Hid (W = wa))
              case atStart => exact ⟨0, Nat.zero_le _, rfl, rfl, rfl⟩
              case round =>
                obtain ⟨i, hi, hgk, rfl, HW⟩ := hrel
                subst hgk
                have hw := HW.out
                subst hw
                clear HW
                by_cases hlt : i < L.length + 16
                · by_cases hin : i < L.length
                  · have hce : wr.cell? ⟨gm, i, none⟩ = some (.int .i64 (-7)) := by
                      have hx : (List.replicate L.length (Value.int .i64 (-7)) ++ List.replicate 16 (.int .i64 (-8)))[i]? = some (.int .i64 (-7)) := by
                        rw [List.getElem?_append_left (by simpa using hin)]
                        simp [hin]
                      obtain ⟨_, _, hv, _, _, hc, _⟩ := own_cell OBa.out hx
                      cases hv
                      exact hc
                    have h1 : (i : Int) < (L.length : Int) := by omega
                    go_wp2
                    go_roundg (L.length + 16 - (i + 1))
                    case measure => omega
                    case rel => exact ⟨i + 1, hlt, rfl, by go_num, rfl⟩
                  · have hce : wr.cell? ⟨gm, i, none⟩ = some (.int .i64 (-8)) := by
                      have hx : (List.replicate L.length (Value.int .i64 (-7)) ++ List.replicate 16 (.int .i64 (-8)))[i]? = some (.int .i64 (-8)) := by
                        rw [List.getElem?_append_right (by simpa using hin), List.getElem?_replicate, List.length_replicate, if_pos (by omega)]
                      obtain ⟨_, _, hv, _, _, hc, _⟩ := own_cell OBa.out hx
                      cases hv
                      exact hc
                    have h1 : ¬ (i : Int) < (L.length : Int) := by omega
                    have h2 : (L.length : Int) ≤ (i : Int) := by omega
                    go_wp2
                    go_roundg (L.length + 16 - (i + 1))
                    case measure => omega
                    case rel => exact ⟨i + 1, hlt, rfl, by go_num, rfl⟩
                · obtain ⟨_, ea, _, hta⟩ := CE.out wr Ba.out
                  go_wp2_with (first
                    | (have q := On; clear q; go_at_call 23; refine Calls.mono (places_nn_true L sn s4 cn c4 wb (row_read On.out) (row_read (ownsRow_below OKa.out Bab.out)) (by omega)) ?_; rintro e wc ⟨rfl, bc⟩; have Bac : Hid (Below wr.heap.size wr wc) := Bab.out.trans (bc.mono Bab.out.size); clear bc)
                    | (go_at_call 21; refine Calls.mono (CN.out wr _ _ _ _ _ (TWA.out wr Ba.out) (BW.out wr Ba.out)) ?_; rintro e wb ⟨hsb, bb⟩; obtain ⟨vb, Lb, rb, hRb, rfl, hob⟩ := hsb.gives; obtain ⟨rfl, rfl⟩ := HR.out.one hRb; obtain ⟨sn, cn, rfl⟩ := own_shape hob; have On := hid hob; have Bab := hid bb; clear hsb bb hRb hob))
                  have Bc : Hid (Below x1.heap.size x1 wc) := Ba.out.trans (Bac.out.mono Ba.out.size)
                  have TWC := hid (TWA.out wc Bc.out)
                  have HGG : Hid (gg < w1.heap.size ∧ x0.heap.size ≤ gg) := by
                    obtain ⟨_, _, hv, _, h1, h2⟩ := own_some TW1.out.gates (by omega)
                    cases hv
                    exact ⟨h2, h1⟩
                  have CE5 : Hid (∀ W, wc.grownBy W (some gg) → (∀ j, W.cell? ⟨w1.heap.size, j, none⟩ = (#[Value.string c.name, Value.slice (some ⟨gg, 0, none⟩) c.gates.length kg, Value.slice (some ⟨go, 0, none⟩) c.outs.length ko] : Array Value)[j]?) ∧ w1.heap.size < W.heap.size) := fun W hW => by
                    have h2 := (Bc.out.block _ (Array.getElem?_eq_some_iff.1 R1.out).1).trans R1.out
                    have h3 := (hW.block _ (Array.getElem?_eq_some_iff.1 h2).1 (fun e => by have := HGG.out.1; have := Option.some.inj e; omega)).trans h2
                    exact ⟨fun j => cell_row h3 j, (Array.getElem?_eq_some_iff.1 h3).1⟩
                  have BWc : Hid (Below w.heap.size w wc) := BW.out wc Bc.out
                  have LG : Hid (c.gates.length ≤ 1099511627776 ∧ c.outs.length ≤ 1099511627776) := LIM.out.2.2
                  have hlg := LG.out.1
                  clear OBa OKa BA BM BK SZ CE ea hta Ba Bac Bab On TWA BW B7 B37 B27 S9 B9 CN RC B2 B3 B4 B23 B34 B47
                  go_loopg [18] c.gates.length (fun k iv W => ∃ (i : Nat), i ≤ c.gates.length ∧ k = c.gates.length - i ∧ iv = .int .i64 (i : Int) ∧ Hid (TwinAt W x0.heap.size { c with gates := turnTo turnA c.gates i } gg kg go ko ∧ wc.grownBy W (some gg)))
                  case atStart => exact ⟨0, Nat.zero_le _, rfl, rfl, by rw [turnTo_zero]; exact TWC.out, World.grownBy.refl _ _⟩
                  case round =>
                    clear TWC
                    obtain ⟨i, hi, hgk, rfl, HR1⟩ := hrel
                    subst hgk
                    obtain ⟨e5, hs5⟩ := CE5.out wr HR1.out.2
                    by_cases hlt : i < c.gates.length
                    · obtain ⟨g, hg⟩ : ∃ g, c.gates[i]? = some g := ⟨_, List.getElem?_eq_getElem hlt⟩
                      obtain ⟨hgs, k0, _, _, k3, k4, _, kf⟩ := HR1.out.1.line (turnTo_at turnA hg)
                      have kf3 := kf (i * 6 + 3)
                      have NX2 : Hid (g.kind = 2 ∨ g.kind = 4 → TwinAt (wr.setCell ⟨gg, i * 6 + 3, none⟩ (.int .i64 g.b)).drew x0.heap.size { c with gates := turnTo turnA c.gates (i + 1) } gg kg go ko ∧ wc.grownBy (wr.setCell ⟨gg, i * 6 + 3, none⟩ (.int .i64 g.b)).drew (some gg)) := fun hk => by
                        have st := HR1.out.1.setA (turnTo_at turnA hg) g.b
                        have e : turnTo turnA c.gates (i + 1) = (turnTo turnA c.gates i).set i { g with a := g.b } := by
                          rw [turnTo_succ turnA hg]
                          unfold turnA
                          rw [if_pos hk]
                        rw [e]
                        have hgr := grown_set (i := i * 6 + 3) (u := .int .i64 g.b) HR1.out.2
                        exact ⟨st.1.below (Below.refl _ _).drew, ⟨hgr.os, hgr.tape, hgr.output, hgr.size, hgr.block⟩⟩
                      have NX0 : Hid (¬ (g.kind = 2 ∨ g.kind = 4) → TwinAt wr x0.heap.size { c with gates := turnTo turnA c.gates (i + 1) } gg kg go ko ∧ wc.grownBy wr (some gg)) := fun hk => by
                        have e : turnTo turnA c.gates (i + 1) = turnTo turnA c.gates i := by
                          rw [turnTo_succ turnA hg]
                          have e2 : turnA g = g := by unfold turnA; rw [if_neg hk]
                          rw [e2]
                          exact set_same (turnTo_at turnA hg)
                        rw [e]
                        exact HR1.out
                      clear hg HR1 kf
                      by_cases hk2 : g.kind = 2
                      · have hb2 : (g.kind == 2) = true := by rw [hk2]; rfl
                        have NX := hid (NX2.out (.inl hk2))
                        clear hk2 NX0 NX2
                        go_wp2
                        refine wp_region_noPanic ?_
                        refine wp_region_held_drew (S := fun W => W.cell? ⟨w1.heap.size, 1, none⟩ = some (.slice (some ⟨gg, 0, none⟩) c.gates.length kg) ∧ W.cell? ⟨gg, i * 6 + 4, none⟩ = some (.int .i64 g.b)) (by kernel_rfl) ⟨e5 1, k4⟩ (fun hHeld => ?_)
                        refine wpAnyH_take (i := 0) (v := ?_) (by simp only [List.getElem?_toArray, List.getElem?_cons_zero]; rfl) (by kernel_rfl) (by kernel_rfl) (by kernel_rfl) (fun _ _ _ h => h) (Or.inl ⟨by rfl, ?_⟩) (by assumption) ?_
                        rotate_left 1
                        · intro w hSw; (try dsimp only at hSw); go_simp; (try with_reducible rfl)
                        try simp only [Act.put, List.setIfInBounds_toArray, List.set_cons_zero, List.set_cons_succ]
                        refine wpAnyH_take (i := 1) (v := ?_) (by simp only [List.getElem?_toArray, List.getElem?_cons_succ, List.getElem?_cons_zero]; rfl) (by kernel_rfl) (by kernel_rfl) (by kernel_rfl) (fun _ _ _ h => h) (Or.inl ⟨by rfl, ?_⟩) (by assumption) ?_
                        rotate_left 1
                        · intro w hSw; (try dsimp only at hSw); go_simp; (try with_reducible rfl)
                        try simp only [Act.put, List.setIfInBounds_toArray, List.set_cons_zero, List.set_cons_succ]
                        refine wpAnyH_take (i := 2) (v := ?_) (by simp only [List.getElem?_toArray, List.getElem?_cons_succ, List.getElem?_cons_zero]; rfl) (by kernel_rfl) (by kernel_rfl) (by kernel_rfl) (fun _ _ _ h => h) (Or.inl ⟨by rfl, ?_⟩) (by assumption) ?_
                        rotate_left 1
                        · intro w hSw; (try dsimp only at hSw); go_simp; (try with_reducible rfl)
                        try simp only [Act.put, List.setIfInBounds_toArray, List.set_cons_zero, List.set_cons_succ]
                        refine wpAnyH_take (i := 3) (v := ?_) (by simp only [List.getElem?_toArray, List.getElem?_cons_succ, List.getElem?_cons_zero]; rfl) (by kernel_rfl) (by kernel_rfl) (by kernel_rfl) (fun _ _ _ h => h) (Or.inl ⟨by rfl, ?_⟩) (by assumption) ?_
                        rotate_left 1
                        · intro w hSw; (try dsimp only at hSw); go_simp; (try with_reducible rfl)
                        try simp only [Act.put, List.setIfInBounds_toArray, List.set_cons_zero, List.set_cons_succ]
                        refine wpAnyH_take (i := 4) (v := ?_) (by simp only [List.getElem?_toArray, List.getElem?_cons_succ, List.getElem?_cons_zero]; rfl) (by kernel_rfl) (by kernel_rfl) (by kernel_rfl) (fun _ _ _ h => h) (Or.inl ⟨by rfl, ?_⟩) (by assumption) ?_
                        rotate_left 1
                        · intro w hSw; (try dsimp only at hSw); go_simp; (try with_reducible rfl)
                        try simp only [Act.put, List.setIfInBounds_toArray, List.set_cons_zero, List.set_cons_succ]
                        refine wpAnyH_take (i := 5) (v := ?_) (by simp only [List.getElem?_toArray, List.getElem?_cons_succ, List.getElem?_cons_zero]; rfl) (by kernel_rfl) (by kernel_rfl) (by kernel_rfl) (fun _ _ _ h => h) (Or.inl ⟨by rfl, ?_⟩) (by assumption) ?_
                        rotate_left 1
                        · intro w hSw; (try dsimp only at hSw); go_simp; (try with_reducible rfl)
                        try simp only [Act.put, List.setIfInBounds_toArray, List.set_cons_zero, List.set_cons_succ]
                        refine wpAnyH_take (i := 6) (v := .pointer (some ⟨gg, i * 6, none⟩)) (by simp only [List.getElem?_toArray, List.getElem?_cons_succ, List.getElem?_cons_zero]; rfl) (by kernel_rfl) (by kernel_rfl) (by kernel_rfl) (fun _ _ _ h => h) (Or.inl ⟨by rfl, ?_⟩) (by assumption) ?_
                        · intro w hSw; (try dsimp only at hSw); (try go_simp); ((try rw [if_pos (by omega)]); (try simp); (try (intro h9; omega)))
                        try simp only [Act.put, List.setIfInBounds_toArray, List.set_cons_zero, List.set_cons_succ]
                        refine wpAnyH_take (i := 7) (v := ?_) (by simp only [List.getElem?_toArray, List.getElem?_cons_succ, List.getElem?_cons_zero]; rfl) (by kernel_rfl) (by kernel_rfl) (by kernel_rfl) (fun _ _ _ h => h) (Or.inl ⟨by rfl, ?_⟩) (by assumption) ?_
                        rotate_left 1
                        · intro w hSw; (try dsimp only at hSw); go_simp; (try with_reducible rfl)
                        try simp only [Act.put, List.setIfInBounds_toArray, List.set_cons_zero, List.set_cons_succ]
                        refine wpAnyH_take (i := 8) (v := ?_) (by simp only [List.getElem?_toArray, List.getElem?_cons_succ, List.getElem?_cons_zero]; rfl) (by kernel_rfl) (by kernel_rfl) (by kernel_rfl) (fun _ _ _ h => h) (Or.inl ⟨by rfl, ?_⟩) (by assumption) ?_
                        rotate_left 1
                        · intro w hSw; (try dsimp only at hSw); go_simp; (try with_reducible rfl)
                        try simp only [Act.put, List.setIfInBounds_toArray, List.set_cons_zero, List.set_cons_succ]
                        refine wpAnyH_take (i := 9) (v := .pointer (some ⟨gg, i * 6, none⟩)) (by simp only [List.getElem?_toArray, List.getElem?_cons_succ, List.getElem?_cons_zero]; rfl) (by kernel_rfl) (by kernel_rfl) (by kernel_rfl) (fun _ _ _ h => h) (Or.inl ⟨by rfl, ?_⟩) (by assumption) ?_
                        · intro w hSw; (try dsimp only at hSw); (try go_simp); ((try rw [if_pos (by omega)]); (try simp); (try (intro h9; omega)))
                        try simp only [Act.put, List.setIfInBounds_toArray, List.set_cons_zero, List.set_cons_succ]
                        refine wpAnyH_take (i := 10) (v := ?_) (by simp only [List.getElem?_toArray, List.getElem?_cons_succ, List.getElem?_cons_zero]; rfl) (by kernel_rfl) (by kernel_rfl) (by kernel_rfl) (fun _ _ _ h => h) (Or.inl ⟨by rfl, ?_⟩) (by assumption) ?_
                        rotate_left 1
                        · intro w hSw; (try dsimp only at hSw); go_simp; (try with_reducible rfl)
                        try simp only [Act.put, List.setIfInBounds_toArray, List.set_cons_zero, List.set_cons_succ]
                        refine wpAnyH_ready (rs := [11]) (by kernel_rfl) (by simp) ?_
                        refine AllReadyH.cons (by simp only [List.getElem?_toArray, List.getElem?_cons_succ, List.getElem?_cons_zero]; rfl) (fun K hK => ?_) AllReadyH.nil
                        go_simp
                        clear hHeld
                        refine hK.out _ _ ⟨(World.cell?_setCell_far _ _ _ _ (by have := HGG.out.1; show gg ≠ w1.heap.size; omega)).trans (e5 1), (World.cell?_setCell_other _ _ _ _ (fun e => by simp at e)).trans k4⟩ (fun hHeld => ?_)
                        clear hK K
                        try simp only [Act.put, List.setIfInBounds_toArray, List.set_cons_zero, List.set_cons_succ]
                        refine wpAnyH_done (by kernel_rfl) ?_ _
                        refine NoPanic.normal ?_
                        go_wp2
                        go_roundg (c.gates.length - (i + 1))
                        case measure => omega
                        case rel => exact ⟨i + 1, hlt, rfl, by go_num, NX.out⟩
                      · have hb2 : (g.kind == 2) = false := beq_eq_false_iff_ne.2 hk2
                        by_cases hk4 : g.kind = 4
                        · have hb4 : (g.kind == 4) = true := by rw [hk4]; rfl
                          have NX := hid (NX2.out (.inr hk4))
                          clear hk2 hk4 NX0 NX2
                          go_wp2
                          refine wp_region_noPanic ?_
                          refine wp_region_held_drew (S := fun W => W.cell? ⟨w1.heap.size, 1, none⟩ = some (.slice (some ⟨gg, 0, none⟩) c.gates.length kg) ∧ W.cell? ⟨gg, i * 6 + 4, none⟩ = some (.int .i64 g.b)) (by kernel_rfl) ⟨e5 1, k4⟩ (fun hHeld => ?_)
                          refine wpAnyH_take (i := 0) (v := ?_) (by simp only [List.getElem?_toArray, List.getElem?_cons_zero]; rfl) (by kernel_rfl) (by kernel_rfl) (by kernel_rfl) (fun _ _ _ h => h) (Or.inl ⟨by rfl, ?_⟩) (by assumption) ?_
                          rotate_left 1
                          · intro w hSw; (try dsimp only at hSw); go_simp; (try with_reducible rfl)
                          try simp only [Act.put, List.setIfInBounds_toArray, List.set_cons_zero, List.set_cons_succ]
                          refine wpAnyH_take (i := 1) (v := ?_) (by simp only [List.getElem?_toArray, List.getElem?_cons_succ, List.getElem?_cons_zero]; rfl) (by kernel_rfl) (by kernel_rfl) (by kernel_rfl) (fun _ _ _ h => h) (Or.inl ⟨by rfl, ?_⟩) (by assumption) ?_
                          rotate_left 1
                          · intro w hSw; (try dsimp only at hSw); go_simp; (try with_reducible rfl)
                          try simp only [Act.put, List.setIfInBounds_toArray, List.set_cons_zero, List.set_cons_succ]
                          refine wpAnyH_take (i := 2) (v := ?_) (by simp only [List.getElem?_toArray, List.getElem?_cons_succ, List.getElem?_cons_zero]; rfl) (by kernel_rfl) (by kernel_rfl) (by kernel_rfl) (fun _ _ _ h => h) (Or.inl ⟨by rfl, ?_⟩) (by assumption) ?_
                          rotate_left 1
                          · intro w hSw; (try dsimp only at hSw); go_simp; (try with_reducible rfl)
                          try simp only [Act.put, List.setIfInBounds_toArray, List.set_cons_zero, List.set_cons_succ]
                          refine wpAnyH_take (i := 3) (v := ?_) (by simp only [List.getElem?_toArray, List.getElem?_cons_succ, List.getElem?_cons_zero]; rfl) (by kernel_rfl) (by kernel_rfl) (by kernel_rfl) (fun _ _ _ h => h) (Or.inl ⟨by rfl, ?_⟩) (by assumption) ?_
                          rotate_left 1
                          · intro w hSw; (try dsimp only at hSw); go_simp; (try with_reducible rfl)
                          try simp only [Act.put, List.setIfInBounds_toArray, List.set_cons_zero, List.set_cons_succ]
                          refine wpAnyH_take (i := 4) (v := ?_) (by simp only [List.getElem?_toArray, List.getElem?_cons_succ, List.getElem?_cons_zero]; rfl) (by kernel_rfl) (by kernel_rfl) (by kernel_rfl) (fun _ _ _ h => h) (Or.inl ⟨by rfl, ?_⟩) (by assumption) ?_
                          rotate_left 1
                          · intro w hSw; (try dsimp only at hSw); go_simp; (try with_reducible rfl)
                          try simp only [Act.put, List.setIfInBounds_toArray, List.set_cons_zero, List.set_cons_succ]
                          refine wpAnyH_take (i := 5) (v := ?_) (by simp only [List.getElem?_toArray, List.getElem?_cons_succ, List.getElem?_cons_zero]; rfl) (by kernel_rfl) (by kernel_rfl) (by kernel_rfl) (fun _ _ _ h => h) (Or.inl ⟨by rfl, ?_⟩) (by assumption) ?_
                          rotate_left 1
                          · intro w hSw; (try dsimp only at hSw); go_simp; (try with_reducible rfl)
                          try simp only [Act.put, List.setIfInBounds_toArray, List.set_cons_zero, List.set_cons_succ]
                          refine wpAnyH_take (i := 6) (v := .pointer (some ⟨gg, i * 6, none⟩)) (by simp only [List.getElem?_toArray, List.getElem?_cons_succ, List.getElem?_cons_zero]; rfl) (by kernel_rfl) (by kernel_rfl) (by kernel_rfl) (fun _ _ _ h => h) (Or.inl ⟨by rfl, ?_⟩) (by assumption) ?_
                          · intro w hSw; (try dsimp only at hSw); (try go_simp); ((try rw [if_pos (by omega)]); (try simp); (try (intro h9; omega)))
                          try simp only [Act.put, List.setIfInBounds_toArray, List.set_cons_zero, List.set_cons_succ]
                          refine wpAnyH_take (i := 7) (v := ?_) (by simp only [List.getElem?_toArray, List.getElem?_cons_succ, List.getElem?_cons_zero]; rfl) (by kernel_rfl) (by kernel_rfl) (by kernel_rfl) (fun _ _ _ h => h) (Or.inl ⟨by rfl, ?_⟩) (by assumption) ?_
                          rotate_left 1
                          · intro w hSw; (try dsimp only at hSw); go_simp; (try with_reducible rfl)
                          try simp only [Act.put, List.setIfInBounds_toArray, List.set_cons_zero, List.set_cons_succ]
                          refine wpAnyH_take (i := 8) (v := ?_) (by simp only [List.getElem?_toArray, List.getElem?_cons_succ, List.getElem?_cons_zero]; rfl) (by kernel_rfl) (by kernel_rfl) (by kernel_rfl) (fun _ _ _ h => h) (Or.inl ⟨by rfl, ?_⟩) (by assumption) ?_
                          rotate_left 1
                          · intro w hSw; (try dsimp only at hSw); go_simp; (try with_reducible rfl)
                          try simp only [Act.put, List.setIfInBounds_toArray, List.set_cons_zero, List.set_cons_succ]
                          refine wpAnyH_take (i := 9) (v := .pointer (some ⟨gg, i * 6, none⟩)) (by simp only [List.getElem?_toArray, List.getElem?_cons_succ, List.getElem?_cons_zero]; rfl) (by kernel_rfl) (by kernel_rfl) (by kernel_rfl) (fun _ _ _ h => h) (Or.inl ⟨by rfl, ?_⟩) (by assumption) ?_
                          · intro w hSw; (try dsimp only at hSw); (try go_simp); ((try rw [if_pos (by omega)]); (try simp); (try (intro h9; omega)))
                          try simp only [Act.put, List.setIfInBounds_toArray, List.set_cons_zero, List.set_cons_succ]
                          refine wpAnyH_take (i := 10) (v := ?_) (by simp only [List.getElem?_toArray, List.getElem?_cons_succ, List.getElem?_cons_zero]; rfl) (by kernel_rfl) (by kernel_rfl) (by kernel_rfl) (fun _ _ _ h => h) (Or.inl ⟨by rfl, ?_⟩) (by assumption) ?_
                          rotate_left 1
                          · intro w hSw; (try dsimp only at hSw); go_simp; (try with_reducible rfl)
                          try simp only [Act.put, List.setIfInBounds_toArray, List.set_cons_zero, List.set_cons_succ]
                          refine wpAnyH_ready (rs := [11]) (by kernel_rfl) (by simp) ?_
                          refine AllReadyH.cons (by simp only [List.getElem?_toArray, List.getElem?_cons_succ, List.getElem?_cons_zero]; rfl) (fun K hK => ?_) AllReadyH.nil
                          go_simp
                          clear hHeld
                          refine hK.out _ _ ⟨(World.cell?_setCell_far _ _ _ _ (by have := HGG.out.1; show gg ≠ w1.heap.size; omega)).trans (e5 1), (World.cell?_setCell_other _ _ _ _ (fun e => by simp at e)).trans k4⟩ (fun hHeld => ?_)
                          clear hK K
                          try simp only [Act.put, List.setIfInBounds_toArray, List.set_cons_zero, List.set_cons_succ]
                          refine wpAnyH_done (by kernel_rfl) ?_ _
                          refine NoPanic.normal ?_
                          go_wp2
                          go_roundg (c.gates.length - (i + 1))
                          case measure => omega
                          case rel => exact ⟨i + 1, hlt, rfl, by go_num, NX.out⟩
                        · have hb4 : (g.kind == 4) = false := beq_eq_false_iff_ne.2 hk4
                          have NX := hid (NX0.out (fun h => h.elim hk2 hk4))
                          clear hk2 hk4 NX0 NX2
                          go_wp2
                          go_roundg (c.gates.length - (i + 1))
                          case measure => omega
                          case rel => exact ⟨i + 1, hlt, rfl, by go_num, NX.out⟩
                    · obtain rfl : i = c.gates.length := by omega
                      have TWE := hid HR1.out.1
                      have GRE := hid HR1.out.2
                      rw [turnTo_all] at TWE
                      clear HR1
                      go_wp2
                      obtain ⟨we, hwe⟩ : ∃ we, we = wr := ⟨_, rfl⟩
                      subst hwe
                      obtain ⟨c2, hc2⟩ : ∃ c2 : Net, c2 = { c with gates := c.gates.map turnA } := ⟨_, rfl⟩
                      rw [← hc2] at TWE
                      have L2 : Hid (c2.gates.length = c.gates.length ∧ c2.outs.length = c.outs.length ∧ c2.name = c.name) := by rw [hc2]; exact ⟨by simp, rfl, rfl⟩
                      have N2 : Hid (c2.name.size ≤ 140737488351232 ∧ ∀ g ∈ c2.gates, g.name.size ≤ 140737488351232) := by
                        rw [hc2]
                        refine ⟨LIM.out.1, fun g hg => ?_⟩
                        obtain ⟨g1, hg1, rfl⟩ := List.mem_map.1 hg
                        have : (turnA g1).name = g1.name := by unfold turnA; split <;> rfl
                        rw [this]
                        exact LIM.out.2.1 g1 hg1
                      have BWe : Hid (Below w.heap.size w we) := BWc.out.grown GRE.out BWc.out.size (fun k e => by cases e; have := HGG.out.2; have := BX0.out.size; omega)
                      have CE6 : Hid (∀ W, Below we.heap.size we W → (∀ j, W.cell? ⟨w1.heap.size, j, none⟩ = (#[Value.string c.name, Value.slice (some ⟨gg, 0, none⟩) c.gates.length kg, Value.slice (some ⟨go, 0, none⟩) c.outs.length ko] : Array Value)[j]?) ∧ w1.heap.size < W.heap.size) := fun W hW => by
                        have h2 := (Bc.out.block _ (Array.getElem?_eq_some_iff.1 R1.out).1).trans R1.out
                        have h3 := (GRE.out.block _ (Array.getElem?_eq_some_iff.1 h2).1 (fun e => by have := HGG.out.1; have := Option.some.inj e; omega)).trans h2
                        have h4 := (hW.block _ (Array.getElem?_eq_some_iff.1 h3).1).trans h3
                        exact ⟨fun j => cell_row h4 j, (Array.getElem?_eq_some_iff.1 h4).1⟩
                      have TW2 : Hid (∀ W, Below we.heap.size we W → TwinAt W x0.heap.size c2 gg kg go ko) := fun W hW => TWE.out.below hW
                      have CC : Hid (∀ W, Below we.heap.size we W → CellsAt W (some ⟨gg, 0, none⟩) (gas c2.gates) ∧ CellsAt W (some ⟨go, 0, none⟩) (nu c2.outs)) := fun W hW => ⟨(TWE.out.below hW).cir.gates, (TWE.out.below hW).cir.outs⟩
                      clear hc2 TWE hi hlt CE5 GRE e5 hs5
                      go_cut [19] (fun pv wx => Hid (∃ b19 sg3 kg3 so3 ko3, pv = .pointer (some ⟨b19, 0, none⟩) ∧ (∀ j, wx.cell? ⟨b19, j, none⟩ = (#[Value.string c.name, Value.slice sg3 c.gates.length kg3, Value.slice so3 c.outs.length ko3] : Array Value)[j]?) ∧ b19 < wx.heap.size ∧ CirAt wx c2 sg3 so3 ∧ Below we.heap.size we wx))
                      case first =>
                        refine wp_region_noPanic ?_
                        refine wp_region_held_drew (S := fun W => ∀ j, W.cell? ⟨w1.heap.size, j, none⟩ = (#[Value.string c.name, Value.slice (some ⟨gg, 0, none⟩) c.gates.length kg, Value.slice (some ⟨go, 0, none⟩) c.outs.length ko] : Array Value)[j]?) (by kernel_rfl) (CE6.out _ (Below.refl _ _).drew).1 (fun hHeld => ?_)
                        refine wpAnyH_take (i := 0) (v := ?_) (by simp only [List.getElem?_toArray, List.getElem?_cons_zero]; rfl) (by kernel_rfl) (by kernel_rfl) (by kernel_rfl) (fun _ _ _ h => h) (Or.inl ⟨by rfl, ?_⟩) (by assumption) ?_
                        rotate_left 1
                        · intro w hSw; (try dsimp only at hSw); go_simp; (try with_reducible rfl)
                        try simp only [Act.put, List.setIfInBounds_toArray, List.set_cons_zero, List.set_cons_succ]
                        refine wpAnyH_take (i := 1) (v := ?_) (by simp only [List.getElem?_toArray, List.getElem?_cons_succ, List.getElem?_cons_zero]; rfl) (by kernel_rfl) (by kernel_rfl) (by kernel_rfl) (fun _ _ _ h => h) (Or.inl ⟨by rfl, ?_⟩) (by assumption) ?_
                        rotate_left 1
                        · intro w hSw; (try dsimp only at hSw); go_simp; (try with_reducible rfl)
                        try simp only [Act.put, List.setIfInBounds_toArray, List.set_cons_zero, List.set_cons_succ]
                        refine wpAnyH_take (i := 2) (v := ?_) (by simp only [List.getElem?_toArray, List.getElem?_cons_succ, List.getElem?_cons_zero]; rfl) (by kernel_rfl) (by kernel_rfl) (by kernel_rfl) (fun _ _ _ h => h) (Or.inl ⟨by rfl, ?_⟩) (by assumption) ?_
                        rotate_left 1
                        · intro w hSw; (try dsimp only at hSw); go_simp; (try with_reducible rfl)
                        try simp only [Act.put, List.setIfInBounds_toArray, List.set_cons_zero, List.set_cons_succ]
                        refine wpAnyH_take (i := 3) (v := ?_) (by simp only [List.getElem?_toArray, List.getElem?_cons_succ, List.getElem?_cons_zero]; rfl) (by kernel_rfl) (by kernel_rfl) (by kernel_rfl) (fun _ _ _ h => h) (Or.inl ⟨by rfl, ?_⟩) (by assumption) ?_
                        rotate_left 1
                        · intro w hSw; (try dsimp only at hSw); go_simp; (try with_reducible rfl)
                        try simp only [Act.put, List.setIfInBounds_toArray, List.set_cons_zero, List.set_cons_succ]
                        refine wpAnyH_take (i := 5) (v := ?_) (by simp only [List.getElem?_toArray, List.getElem?_cons_succ, List.getElem?_cons_zero]; rfl) (by kernel_rfl) (by kernel_rfl) (by kernel_rfl) (fun _ _ _ h => h) (Or.inl ⟨by rfl, ?_⟩) (by assumption) ?_
                        rotate_left 1
                        · intro w hSw; (try dsimp only at hSw); go_simp; (try with_reducible rfl)
                        try simp only [Act.put, List.setIfInBounds_toArray, List.set_cons_zero, List.set_cons_succ]
                        refine wpAnyH_take (i := 6) (v := ?_) (by simp only [List.getElem?_toArray, List.getElem?_cons_succ, List.getElem?_cons_zero]; rfl) (by kernel_rfl) (by kernel_rfl) (by kernel_rfl) (fun _ _ _ h => h) (Or.inl ⟨by rfl, ?_⟩) (by assumption) ?_
                        rotate_left 1
                        · intro w hSw; (try dsimp only at hSw); go_simp; (try with_reducible rfl)
                        try simp only [Act.put, List.setIfInBounds_toArray, List.set_cons_zero, List.set_cons_succ]
                        refine wpAnyH_ready (rs := [4, 9]) (by kernel_rfl) (by simp) ?_
                        refine AllReadyH.cons (by simp only [List.getElem?_toArray, List.getElem?_cons_succ, List.getElem?_cons_zero]; rfl) (fun K hK => ?_) (AllReadyH.cons (by simp only [List.getElem?_toArray, List.getElem?_cons_succ, List.getElem?_cons_zero]; rfl) (fun K hK => ?_) AllReadyH.nil)
                        · skip
                          refine wp_cells _ _ 24 rfl we.heap.size 38 _ 6 56 Tryd.underlying24 info38 rfl (by decide) (.slice none 0 0) 0 [] rfl (World.ownsRow_nil _ _ _ _) (some ⟨gg, 0, none⟩) c.gates.length kg (gas c2.gates) rfl (by rw [gas_length, L2.out.1]) (CC.out _ (Below.refl we.heap.size we).drew).1 (fun e => by cases e) (gas_one _) (by have := LG.out; unfold maxLen; omega) (by have := LG.out; omega) (Below.size (Below.refl we.heap.size we).drew) ?_
                          intro v4 w4 o4 f4
                          rw [Nat.zero_add, List.nil_append] at o4
                          have O4 := hid o4
                          have B4 : Hid (Below we.heap.size we w4) := f4.below (Below.refl we.heap.size we).drew (Below.size (Below.refl we.heap.size we).drew) (fun g hg => by simp [Value.ownBlock] at hg)
                          clear o4 f4
                          obtain ⟨sg3, kg3, rfl⟩ := own_shape O4.out
                          clear hHeld
                          refine hK.out _ _ (CE6.out w4 B4.out).1 (fun hHeld => ?_)
                          clear hK K
                          try simp only [Act.put, List.setIfInBounds_toArray, List.set_cons_zero, List.set_cons_succ]
                          refine wpAnyH_ready (rs := [7, 9]) (by kernel_rfl) (by simp) ?_
                          refine AllReadyH.cons (by simp only [List.getElem?_toArray, List.getElem?_cons_succ, List.getElem?_cons_zero]; rfl) (fun K hK => ?_) (AllReadyH.cons (by simp only [List.getElem?_toArray, List.getElem?_cons_succ, List.getElem?_cons_zero]; rfl) (fun K hK => ?_) AllReadyH.nil)
                          · skip
                            refine wp_cells _ _ 22 rfl we.heap.size 3 _ 1 8 Tryd.underlying22 info3 rfl (by decide) (.slice none 0 0) 0 [] rfl (World.ownsRow_nil _ _ _ _) (some ⟨go, 0, none⟩) c.outs.length ko (nu c2.outs) rfl (by have := L2.out.2.1; simp [nu, this]) (CC.out _ B4.out).2 (fun e => by cases e) (nus_one _) (by have := LG.out; unfold maxLen; omega) (by have := LG.out; omega) (Below.size B4.out) ?_
                            intro v7 w7 o7 f7
                            rw [Nat.zero_add, List.nil_append] at o7
                            have O7 := hid o7
                            have BC7 : Hid (Below w4.heap.size w4 w7) := f7.below (Below.refl _ _) (Nat.le_refl _) (fun g hg => by simp [Value.ownBlock] at hg)
                            have B7 : Hid (Below we.heap.size we w7) := (B4.out).trans (BC7.out.mono (Below.size B4.out))
                            have P4 : Hid (Below w4.heap.size w4 w7) := BC7.out
                            clear o7 f7
                            obtain ⟨so3, ko3, rfl⟩ := own_shape O7.out
                            clear hHeld
                            refine hK.out _ _ (CE6.out w7 B7.out).1 (fun hHeld => ?_)
                            clear hK K
                            try simp only [Act.put, List.setIfInBounds_toArray, List.set_cons_zero, List.set_cons_succ]
                            refine wpAnyH_take (i := 8) (v := ?_) (by simp only [List.getElem?_toArray, List.getElem?_cons_succ, List.getElem?_cons_zero]; rfl) (by kernel_rfl) (by kernel_rfl) (by kernel_rfl) (fun _ _ _ h => h) (Or.inl ⟨by rfl, ?_⟩) (by assumption) ?_
                            rotate_left 1
                            · intro w hSw; (try dsimp only at hSw); go_simp; (try with_reducible rfl)
                            try simp only [Act.put, List.setIfInBounds_toArray, List.set_cons_zero, List.set_cons_succ]
                            refine wpAnyH_ready (rs := [9]) (by kernel_rfl) (by simp) ?_
                            refine AllReadyH.cons (by simp only [List.getElem?_toArray, List.getElem?_cons_succ, List.getElem?_cons_zero]; rfl) (fun K hK => ?_) AllReadyH.nil
                            go_simp
                            obtain ⟨Y9, hY9⟩ : ∃ Y, Y = w7.alloc (Obj.cells #[Value.string ⟨#[]⟩, Value.slice none 0 0, Value.slice none 0 0] 26) := ⟨_, rfl⟩
                            rw [← hY9]
                            have B9 : Hid (Below we.heap.size we Y9) := by rw [hY9]; exact (B7.out).alloc (Below.size B7.out) _
                            have R19 : Hid (Y9.heap[w7.heap.size]? = some (Obj.cells #[Value.string ⟨#[]⟩, Value.slice none 0 0, Value.slice none 0 0] 26)) := by rw [hY9]; exact heap_alloc_new w7 _
                            have PA4 : Hid (Below w4.heap.size w4 Y9) := by rw [hY9]; exact (P4.out).alloc (Below.size P4.out) _
                            have PA7 : Hid (Below w7.heap.size w7 Y9) := by rw [hY9]; exact (Below.refl _ _).alloc (Nat.le_refl _) _
                            have HB9 : Hid (we.heap.size ≤ w7.heap.size) := Below.size (B7.out)
                            clear hY9
                            clear hHeld
                            refine hK.out _ _ (CE6.out Y9 B9.out).1 (fun hHeld => ?_)
                            clear hK K
                            try simp only [Act.put, List.setIfInBounds_toArray, List.set_cons_zero, List.set_cons_succ]
                            have c19 := fun j => cell_row R19.out j
                            have f19 := fun j => unfrozen_row R19.out j
                            have hb19 := (Array.getElem?_eq_some_iff.1 R19.out).1
                            have hne1 : w7.heap.size ≠ w1.heap.size := by have h1 := (CE6.out we (Below.refl _ _)).2; have h2 := HB9.out; omega
                            refine wpAnyH_ready (rs := [10]) (by kernel_rfl) (by simp) ?_
                            refine AllReadyH.cons (by simp only [List.getElem?_toArray, List.getElem?_cons_succ, List.getElem?_cons_zero]; rfl) (fun K hK => ?_) AllReadyH.nil
                            go_simp
                            clear hHeld
                            refine hK.out _ _ (fun j => (World.cell?_setCell_far _ _ _ _ hne1).trans ((World.cell?_setCell_far _ _ _ _ hne1).trans ((World.cell?_setCell_far _ _ _ _ hne1).trans ((CE6.out Y9 B9.out).1 j)))) (fun hHeld => ?_)
                            clear hK K
                            try simp only [Act.put, List.setIfInBounds_toArray, List.set_cons_zero, List.set_cons_succ]
                            refine wpAnyH_done (by kernel_rfl) ?_ _
                            refine NoPanic.normal ?_
                            go_wp2
                            go_meet
                            obtain ⟨q1, q2⟩ := copy_put (W := Y9) (b := w7.heap.size) (.string c.name) (.slice sg3 c.gates.length kg3) (.slice so3 c.outs.length ko3) R19.out
                            exact ⟨_, sg3, kg3, so3, ko3, rfl, fun j => cell_row q1 j, (Array.getElem?_eq_some_iff.1 q1).1, ⟨own_aside (cs := [Value.string ⟨#[]⟩, Value.slice none 0 0, Value.slice none 0 0]) (ownsRow_below O4.out PA4.out) q2 R19.out (by decide), own_aside (cs := [Value.string ⟨#[]⟩, Value.slice none 0 0, Value.slice none 0 0]) (ownsRow_below O7.out PA7.out) q2 R19.out (by decide)⟩, Below.grown B9.out q2 (Below.size B9.out) (fun k e => by cases e; exact HB9.out)⟩
                          · go_simp
                            obtain ⟨Y9, hY9⟩ : ∃ Y, Y = w4.alloc (Obj.cells #[Value.string ⟨#[]⟩, Value.slice none 0 0, Value.slice none 0 0] 26) := ⟨_, rfl⟩
                            rw [← hY9]
                            have B9 : Hid (Below we.heap.size we Y9) := by rw [hY9]; exact (B4.out).alloc (Below.size B4.out) _
                            have R19 : Hid (Y9.heap[w4.heap.size]? = some (Obj.cells #[Value.string ⟨#[]⟩, Value.slice none 0 0, Value.slice none 0 0] 26)) := by rw [hY9]; exact heap_alloc_new w4 _
                            have PA4 : Hid (Below w4.heap.size w4 Y9) := by rw [hY9]; exact ((Below.refl w4.heap.size w4)).alloc (Below.size (Below.refl w4.heap.size w4)) _
                            have HB9 : Hid (we.heap.size ≤ w4.heap.size) := Below.size (B4.out)
                            clear hY9
                            clear hHeld
                            refine hK.out _ _ (CE6.out Y9 B9.out).1 (fun hHeld => ?_)
                            clear hK K
                            try simp only [Act.put, List.setIfInBounds_toArray, List.set_cons_zero, List.set_cons_succ]
                            refine wpAnyH_ready (rs := [7]) (by kernel_rfl) (by simp) ?_
                            refine AllReadyH.cons (by simp only [List.getElem?_toArray, List.getElem?_cons_succ, List.getElem?_cons_zero]; rfl) (fun K hK => ?_) AllReadyH.nil
                            skip
                            refine wp_cells _ _ 22 rfl we.heap.size 3 _ 1 8 Tryd.underlying22 info3 rfl (by decide) (.slice none 0 0) 0 [] rfl (World.ownsRow_nil _ _ _ _) (some ⟨go, 0, none⟩) c.outs.length ko (nu c2.outs) rfl (by have := L2.out.2.1; simp [nu, this]) (CC.out _ B9.out).2 (fun e => by cases e) (nus_one _) (by have := LG.out; unfold maxLen; omega) (by have := LG.out; omega) (Below.size B9.out) ?_
                            intro v7 w7 o7 f7
                            rw [Nat.zero_add, List.nil_append] at o7
                            have O7 := hid o7
                            have BC7 : Hid (Below Y9.heap.size Y9 w7) := f7.below (Below.refl _ _) (Nat.le_refl _) (fun g hg => by simp [Value.ownBlock] at hg)
                            have B7 : Hid (Below we.heap.size we w7) := (B9.out).trans (BC7.out.mono (Below.size B9.out))
                            have P4 : Hid (Below w4.heap.size w4 w7) := (PA4.out).trans (BC7.out.mono (Below.size PA4.out))
                            have R19 := hid ((BC7.out.block _ (Array.getElem?_eq_some_iff.1 R19.out).1).trans R19.out)
                            clear o7 f7
                            obtain ⟨so3, ko3, rfl⟩ := own_shape O7.out
                            clear hHeld
                            refine hK.out _ _ (CE6.out w7 B7.out).1 (fun hHeld => ?_)
                            clear hK K
                            try simp only [Act.put, List.setIfInBounds_toArray, List.set_cons_zero, List.set_cons_succ]
                            refine wpAnyH_take (i := 8) (v := ?_) (by simp only [List.getElem?_toArray, List.getElem?_cons_succ, List.getElem?_cons_zero]; rfl) (by kernel_rfl) (by kernel_rfl) (by kernel_rfl) (fun _ _ _ h => h) (Or.inl ⟨by rfl, ?_⟩) (by assumption) ?_
                            rotate_left 1
                            · intro w hSw; (try dsimp only at hSw); go_simp; (try with_reducible rfl)
                            try simp only [Act.put, List.setIfInBounds_toArray, List.set_cons_zero, List.set_cons_succ]
                            have c19 := fun j => cell_row R19.out j
                            have f19 := fun j => unfrozen_row R19.out j
                            have hb19 := (Array.getElem?_eq_some_iff.1 R19.out).1
                            have hne1 : w4.heap.size ≠ w1.heap.size := by have h1 := (CE6.out we (Below.refl _ _)).2; have h2 := HB9.out; omega
                            refine wpAnyH_ready (rs := [10]) (by kernel_rfl) (by simp) ?_
                            refine AllReadyH.cons (by simp only [List.getElem?_toArray, List.getElem?_cons_succ, List.getElem?_cons_zero]; rfl) (fun K hK => ?_) AllReadyH.nil
                            go_simp
                            clear hHeld
                            refine hK.out _ _ (fun j => (World.cell?_setCell_far _ _ _ _ hne1).trans ((World.cell?_setCell_far _ _ _ _ hne1).trans ((World.cell?_setCell_far _ _ _ _ hne1).trans ((CE6.out w7 B7.out).1 j)))) (fun hHeld => ?_)
                            clear hK K
                            try simp only [Act.put, List.setIfInBounds_toArray, List.set_cons_zero, List.set_cons_succ]
                            refine wpAnyH_done (by kernel_rfl) ?_ _
                            refine NoPanic.normal ?_
                            go_wp2
                            go_meet
                            obtain ⟨q1, q2⟩ := copy_put (W := w7) (b := w4.heap.size) (.string c.name) (.slice sg3 c.gates.length kg3) (.slice so3 c.outs.length ko3) R19.out
                            exact ⟨_, sg3, kg3, so3, ko3, rfl, fun j => cell_row q1 j, (Array.getElem?_eq_some_iff.1 q1).1, ⟨own_aside (cs := [Value.string ⟨#[]⟩, Value.slice none 0 0, Value.slice none 0 0]) (ownsRow_below O4.out P4.out) q2 R19.out (by decide), own_aside (cs := [Value.string ⟨#[]⟩, Value.slice none 0 0, Value.slice none 0 0]) (ownsRow_below O7.out (Below.refl w7.heap.size w7)) q2 R19.out (by decide)⟩, Below.grown B7.out q2 (Below.size B7.out) (fun k e => by cases e; exact HB9.out)⟩
                        · go_simp
                          obtain ⟨Y9, hY9⟩ : ∃ Y, Y = (we.alloc (Obj.cells #[Value.string ⟨#[]⟩, Value.slice none 0 0, Value.slice none 0 0] 26)).drew := ⟨_, rfl⟩
                          rw [← hY9]
                          have B9 : Hid (Below we.heap.size we Y9) := by rw [hY9]; exact ((Below.refl _ _).alloc (Nat.le_refl _) _).drew
                          have R19 : Hid (Y9.heap[we.heap.size]? = some (Obj.cells #[Value.string ⟨#[]⟩, Value.slice none 0 0, Value.slice none 0 0] 26)) := by rw [hY9]; exact heap_alloc_new we _
                          have HB9 : Hid (we.heap.size ≤ we.heap.size) := Nat.le_refl _
                          clear hY9
                          clear hHeld
                          refine hK.out _ _ (CE6.out Y9 B9.out).1 (fun hHeld => ?_)
                          clear hK K
                          try simp only [Act.put, List.setIfInBounds_toArray, List.set_cons_zero, List.set_cons_succ]
                          refine wpAnyH_ready (rs := [4]) (by kernel_rfl) (by simp) ?_
                          refine AllReadyH.cons (by simp only [List.getElem?_toArray, List.getElem?_cons_succ, List.getElem?_cons_zero]; rfl) (fun K hK => ?_) AllReadyH.nil
                          skip
                          refine wp_cells _ _ 24 rfl we.heap.size 38 _ 6 56 Tryd.underlying24 info38 rfl (by decide) (.slice none 0 0) 0 [] rfl (World.ownsRow_nil _ _ _ _) (some ⟨gg, 0, none⟩) c.gates.length kg (gas c2.gates) rfl (by rw [gas_length, L2.out.1]) (CC.out _ B9.out).1 (fun e => by cases e) (gas_one _) (by have := LG.out; unfold maxLen; omega) (by have := LG.out; omega) (Below.size B9.out) ?_
                          intro v4 w4 o4 f4
                          rw [Nat.zero_add, List.nil_append] at o4
                          have O4 := hid o4
                          have B4 : Hid (Below we.heap.size we w4) := f4.below B9.out (Below.size B9.out) (fun g hg => by simp [Value.ownBlock] at hg)
                          have BC4 : Hid (Below Y9.heap.size Y9 w4) := f4.below (Below.refl _ _) (Nat.le_refl _) (fun g hg => by simp [Value.ownBlock] at hg)
                          have R19 := hid ((BC4.out.block _ (Array.getElem?_eq_some_iff.1 R19.out).1).trans R19.out)
                          clear o4 f4
                          obtain ⟨sg3, kg3, rfl⟩ := own_shape O4.out
                          clear hHeld
                          refine hK.out _ _ (CE6.out w4 B4.out).1 (fun hHeld => ?_)
                          clear hK K
                          try simp only [Act.put, List.setIfInBounds_toArray, List.set_cons_zero, List.set_cons_succ]
                          refine wpAnyH_ready (rs := [7]) (by kernel_rfl) (by simp) ?_
                          refine AllReadyH.cons (by simp only [List.getElem?_toArray, List.getElem?_cons_succ, List.getElem?_cons_zero]; rfl) (fun K hK => ?_) AllReadyH.nil
                          skip
                          refine wp_cells _ _ 22 rfl we.heap.size 3 _ 1 8 Tryd.underlying22 info3 rfl (by decide) (.slice none 0 0) 0 [] rfl (World.ownsRow_nil _ _ _ _) (some ⟨go, 0, none⟩) c.outs.length ko (nu c2.outs) rfl (by have := L2.out.2.1; simp [nu, this]) (CC.out _ B4.out).2 (fun e => by cases e) (nus_one _) (by have := LG.out; unfold maxLen; omega) (by have := LG.out; omega) (Below.size B4.out) ?_
                          intro v7 w7 o7 f7
                          rw [Nat.zero_add, List.nil_append] at o7
                          have O7 := hid o7
                          have BC7 : Hid (Below w4.heap.size w4 w7) := f7.below (Below.refl _ _) (Nat.le_refl _) (fun g hg => by simp [Value.ownBlock] at hg)
                          have B7 : Hid (Below we.heap.size we w7) := (B4.out).trans (BC7.out.mono (Below.size B4.out))
                          have P4 : Hid (Below w4.heap.size w4 w7) := BC7.out
                          have R19 := hid ((BC7.out.block _ (Array.getElem?_eq_some_iff.1 R19.out).1).trans R19.out)
                          clear o7 f7
                          obtain ⟨so3, ko3, rfl⟩ := own_shape O7.out
                          clear hHeld
                          refine hK.out _ _ (CE6.out w7 B7.out).1 (fun hHeld => ?_)
                          clear hK K
                          try simp only [Act.put, List.setIfInBounds_toArray, List.set_cons_zero, List.set_cons_succ]
                          refine wpAnyH_take (i := 8) (v := ?_) (by simp only [List.getElem?_toArray, List.getElem?_cons_succ, List.getElem?_cons_zero]; rfl) (by kernel_rfl) (by kernel_rfl) (by kernel_rfl) (fun _ _ _ h => h) (Or.inl ⟨by rfl, ?_⟩) (by assumption) ?_
                          rotate_left 1
                          · intro w hSw; (try dsimp only at hSw); go_simp; (try with_reducible rfl)
                          try simp only [Act.put, List.setIfInBounds_toArray, List.set_cons_zero, List.set_cons_succ]
                          have c19 := fun j => cell_row R19.out j
                          have f19 := fun j => unfrozen_row R19.out j
                          have hb19 := (Array.getElem?_eq_some_iff.1 R19.out).1
                          have hne1 : we.heap.size ≠ w1.heap.size := by have h1 := (CE6.out we (Below.refl _ _)).2; have h2 := HB9.out; omega
                          refine wpAnyH_ready (rs := [10]) (by kernel_rfl) (by simp) ?_
                          refine AllReadyH.cons (by simp only [List.getElem?_toArray, List.getElem?_cons_succ, List.getElem?_cons_zero]; rfl) (fun K hK => ?_) AllReadyH.nil
                          go_simp
                          clear hHeld
                          refine hK.out _ _ (fun j => (World.cell?_setCell_far _ _ _ _ hne1).trans ((World.cell?_setCell_far _ _ _ _ hne1).trans ((World.cell?_setCell_far _ _ _ _ hne1).trans ((CE6.out w7 B7.out).1 j)))) (fun hHeld => ?_)
                          clear hK K
                          try simp only [Act.put, List.setIfInBounds_toArray, List.set_cons_zero, List.set_cons_succ]
                          refine wpAnyH_done (by kernel_rfl) ?_ _
                          refine NoPanic.normal ?_
                          go_wp2
                          go_meet
                          obtain ⟨q1, q2⟩ := copy_put (W := w7) (b := we.heap.size) (.string c.name) (.slice sg3 c.gates.length kg3) (.slice so3 c.outs.length ko3) R19.out
                          exact ⟨_, sg3, kg3, so3, ko3, rfl, fun j => cell_row q1 j, (Array.getElem?_eq_some_iff.1 q1).1, ⟨own_aside (cs := [Value.string ⟨#[]⟩, Value.slice none 0 0, Value.slice none 0 0]) (ownsRow_below O4.out P4.out) q2 R19.out (by decide), own_aside (cs := [Value.string ⟨#[]⟩, Value.slice none 0 0, Value.slice none 0 0]) (ownsRow_below O7.out (Below.refl w7.heap.size w7)) q2 R19.out (by decide)⟩, Below.grown B7.out q2 (Below.size B7.out) (fun k e => by cases e; exact HB9.out)⟩
                      case rest =>
                        obtain ⟨b19, sg3, kg3, so3, ko3, rfl, g19, hb19, ci19, be19⟩ := hcut.out
                        clear hcut
                        have B19 := hid be19
                        have C19 := hid ci19
                        obtain ⟨e6, hs6⟩ := CE6.out _ be19
                        have CN2 : Hid (∀ W, TwinAt W x0.heap.size c2 gg kg go ko → Below w.heap.size w W → Calls Tryd.prog 21 #[.agg #[.string c.name, .slice (some ⟨gg, 0, none⟩) c.gates.length kg, .slice (some ⟨go, 0, none⟩) c.outs.length ko], .int .i64 p] W fun e w' => ConeSays c2 p W.heap.size e w' ∧ Below W.heap.size W w') := fun W ht hb => by
                          have h := cone_gen c2 (some ⟨gg, 0, none⟩) (some ⟨go, 0, none⟩) kg ko p W ht.cir (KD.out W hb) N2.out.1 N2.out.2 (by rw [L2.out.1]; exact LG.out.1) (by rw [L2.out.2.1]; exact LG.out.2)
                          rw [cirV, L2.out.1, L2.out.2.1, L2.out.2.2] at h
                          exact h
                        have RC2 : Hid (∀ W, CirAt W c2 sg3 so3 → Calls Tryd.prog 22 #[.agg #[.string c.name, .slice sg3 c.gates.length kg3, .slice so3 c.outs.length ko3], .int .i64 p] W fun e w' => ConeSays c2 p W.heap.size e w' ∧ Below W.heap.size W w') := fun W hc => by
                          have h := rcone_gen c2 sg3 so3 kg3 ko3 p W hc N2.out.1 N2.out.2 (by rw [L2.out.1]; exact LG.out.1) (by rw [L2.out.2.1]; exact LG.out.2)
                          rw [cirV, L2.out.1, L2.out.2.1, L2.out.2.2] at h
                          exact h
                        have BWX : Hid (∀ W, Below we.heap.size we W → Below w.heap.size w W) := fun W hW => BWe.out.trans (hW.mono BWe.out.size)
                        clear be19 ci19 KD CC
                        go_wp2_with (first
                          | (have q := O21; clear q; go_at_call 23; refine Calls.mono (places_nn_true L2x s20 s21 c20 c21 w21 (row_read (ownsRow_below O20.out B2021.out)) (row_read O21.out) (by have := HR2.out.few; omega)) ?_; rintro e w22 ⟨rfl, b22⟩; have B22 := hid b22; clear b22)
                          | (have q := O20; clear q; go_at_call 22; refine Calls.mono (RC2.out w20 (C19.out.below B1920.out)) ?_; rintro e w21 ⟨hs21, b21⟩; obtain ⟨v21, L3x, r3x, hR3, rfl, ho21⟩ := hs21.gives; obtain ⟨rfl, rfl⟩ := HR2.out.one hR3; obtain ⟨s21, c21, rfl⟩ := own_shape ho21; have O21 := hid ho21; have B2021 := hid b21; clear hs21 b21 hR3 ho21)
                          | (go_at_call 21; refine Calls.mono (CN2.out _ (TW2.out _ B19.out) (BWX.out _ B19.out)) ?_; rintro e w20 ⟨hs20, b20⟩; obtain ⟨v20, L2x, r2x, hR2, rfl, ho20⟩ := hs20.gives; obtain ⟨s20, c20, rfl⟩ := own_shape ho20; have O20 := hid ho20; have HR2 := hid hR2; have B1920 := hid b20; have g20 : ∀ j, w20.cell? ⟨b19, j, none⟩ = (#[Value.string c.name, Value.slice sg3 c.gates.length kg3, Value.slice so3 c.outs.length ko3] : Array Value)[j]? := (fun j => (b20.cell (p := ⟨b19, j, none⟩) hb19).trans (g19 j)); have hb20 : b19 < w20.heap.size := Nat.lt_of_lt_of_le hb19 b20.size; clear hs20 b20 hR2 ho20))
                        go_ret
                        refine ⟨rfl, ?_⟩
                        have h1 := BWX.out _ B19.out
                        have h2 := h1.trans (B1920.out.mono h1.size)
                        have h3 := h2.trans (B2021.out.mono h2.size)
                        exact h3.trans (B22.out.mono h3.size)
end Go.Proofs.YtfmmmhcpdinhgaaDoor
