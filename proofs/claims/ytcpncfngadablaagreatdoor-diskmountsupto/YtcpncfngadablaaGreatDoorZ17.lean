import Derived.Test.YtcpncfngadablaaGreatDoorZ16
/-
  fresh (the law's own): a state that was handed out, written full and grown, shows no shared memory.
-/
namespace Go.Proofs.YtcpncfngadablaaGreatDoor
open Go.RowKit Go.Deep ShfKit
set_option maxRecDepth 100000
theorem Tryz.info51 : (Tryz.prog.info? 51).map (fun i => (i.zero, i.size, i.bytes)) = some (some (.slice none 0 0), 1, 24) := by kernel_rfl
theorem offB_le (l : List SFile) (i : Nat) : offB l i ≤ (allB l).length := by
  have h : (allB l).length = (allB (l.take i)).length + (allB (l.drop i)).length := by
    rw [← List.length_append]
    congr 1
    unfold allB
    rw [← List.flatMap_append, List.take_append_drop]
  unfold offB
  omega
theorem grown_mark {B : Nat} {n : Int} {cs : Array Value} {olds news : List Value} (h : ∀ (j : Nat) u, (olds ++ news)[j]? = some u → cs[j]? = some u) (hl : olds.length = B) (ho : ∀ j, j < B → olds[j]? = some (.int .u8 (mk n j))) (hm : ∀ j, j < 64 → news[j]? = some (.int .u8 (mk n j))) : ∀ q, q < B + 64 → cs[q]? = some (.int .u8 (mk n (if B + 64 - 64 ≤ q then q - (B + 64 - 64) else q))) := fun q hq => by
  rw [Nat.add_sub_cancel]
  by_cases hB : B ≤ q
  · rw [if_pos hB]
    exact h q _ (by rw [List.getElem?_append_right (by omega), hl]; exact hm _ (by omega))
  · rw [if_neg hB]
    exact h q _ (by rw [List.getElem?_append_left (by omega)]; exact ho q (by omega))
/-- append to a slice that is full. -/
theorem wpl_full {ops : Array Oper} {rest : List Oper} {o : Oper} {a : Act} {Q : Exit → Act → World → Prop} {W : World} (hg : o.guard = none) (s x : Operand) (hop : o.op = Op.call { callee := Callee.builtin Builtin.append, args := #[s, x], argTypes := #[31, 31] })
    (b B : Nat) (olds : List Value) (hs : a.eval s = sliceV b B) (hlo : olds.length = B) (hol : ∀ j v, olds[j]? = some v → W.cell? ⟨b, j, none⟩ = some v) (g2 m c : Nat) (news : List Value) (hx : a.eval x = .slice (some ⟨g2, 0, none⟩) m c) (hm : 0 < m) (hl : news.length = m) (hnews : ∀ j v, news[j]? = some v → W.cell? ⟨g2, j, none⟩ = some v) (hB : B ≤ 65536) (hm2 : m ≤ 64)
    (hK : ∀ cap (cs : Array Value) Wx, B + m ≤ cs.size → (∀ (j : Nat) u, (olds ++ news)[j]? = some u → cs[j]? = some u) → Wx = W.drew.alloc (.cells cs 5) → wpList Tryz.prog ops Q rest (a.put o.dst (.slice (some ⟨W.heap.size, 0, none⟩) (B + m) cap)) Wx) :
    wpList Tryz.prog ops Q (o :: rest) a W := by
  refine wpList_plain hg fun K hK' => ?_
  obtain ⟨i, hi, hz0, hz1, hz2⟩ := info_parts info5
  have hrun := run_append_grow (P := Tryz.prog) (w := W) 31 o.type 5 i (.int .u8 0) Tryz.underlying31 hi hz0 ⟨b, 0, none⟩ B B olds (by rw [hz1, hlo, Nat.mul_one]) (fun j v hv => by rw [add_zero_addr]; exact hol j v hv) ⟨g2, 0, none⟩ m c news (by rw [hz1, hl, Nat.mul_one]) (fun j v hv => by rw [add_zero_addr]; exact hnews j v hv) (by omega) (by omega) (by rw [hz2]; exact growslice_fits (by omega) (by omega))
  unfold Oper.wp
  simp [execOp, hop, resolve, invoke, builtin, hs, hx, hrun, Result.andThen]
  refine hK' _ _ (hK _ _ _ ?_ ?_ rfl)
  · simp [hlo, hl]
  · intro j u hu
    have hlt := (List.getElem?_eq_some_iff.1 hu).1
    rw [List.length_append] at hlt
    rw [Array.getElem?_append_left (by simp; omega)]
    simpa using hu
set_option maxHeartbeats 8000000 in
theorem fresh_any {w : World} {n B : Nat} {x : Int} {fv : Value} {l : List SFile} (h : StateAt w n B fv l) (ha : ApartS l) (hB : 64 ≤ B) (hB2 : B ≤ 65536) (hn : n ≤ w.heap.size) (hl : l.length ≤ 1073741824) (hN : (allB l).length ≤ 1073741824) :
    Calls Tryz.prog 53 #[.agg #[.int .i64 x, fv]] w fun e w' => e = .returned (.bool true) ∧ Below n w w' := by
  obtain ⟨Wb, hWb⟩ : ∃ Wb, Wb = w.alloc (.cells #[.int .i64 x, fv] 47) := ⟨_, rfl⟩
  have bWb : Below w.heap.size w Wb := by rw [hWb]; exact (Below.refl _ w).alloc (Nat.le_refl _) _
  have hst : StateAt Wb n B fv l := h.kept fun b _ hb => bWb.block b hb
  have box : Wb.heap[w.heap.size]? = some (.cells #[.int .i64 x, fv] 47 (0, 0)) := by rw [hWb]; exact heap_alloc_new _ _
  have hso : So Wb B fv l := So.start hst
  have hnd : (allB l).Nodup := allB_nodup ha fun e he => (List.nodup_append.1 (h.from_ e he).2.2).2.1
  have hge : ∀ (q b : Nat), (allB l)[q]? = some b → n ≤ b := fun q b hq => by
    obtain ⟨e, he, hb⟩ := allB_mem hq
    exact (h.from_ e he).2.1 b hb
  have hdn : ∀ b ∈ hdr fv l, n ≤ b ∧ b < w.heap.size := fun b hb => by
    rcases hdr_of hb with hb | ⟨e, he, hb⟩
    · exact own_block h.own hb
    · exact ⟨(h.from_ e he).1 b hb, ((h.each e he).lt).1 b hb⟩
  obtain ⟨fa, fc, hfv⟩ := hso.len
  obtain ⟨L, hL⟩ : ∃ L, L = l.length := ⟨_, rfl⟩
  obtain ⟨N, hNN⟩ : ∃ N, N = (allB l).length := ⟨_, rfl⟩
  have FILL : Hid (∀ W k b, Ph1 Wb W n B k l → (allB l)[k]? = some b → Calls Tryz.prog 43 #[sliceV b B, .int .i64 ((k : Int) + 1)] W fun e W' => e = .returned (.tuple #[]) ∧ Ph1 Wb W' n B (k + 1) l) := fun W k b hp hb => by
    obtain ⟨cs, hr, hs, hby, _⟩ := hp.blk k b hb
    refine (fill_row (c := B) ((k : Int) + 1) hr (by omega) hby (by omega)).mono ?_
    rintro e W' ⟨rfl, ⟨cs', hr', hs', hm'⟩, ht⟩
    exact ⟨rfl, hp.fill hnd hb (hge k b hb) hr' (by omega) hm' ht⟩
  have BOX1 : Hid (∀ W k, Ph1 Wb W n B k l → W.cell? ⟨w.heap.size, 1, none⟩ = some (.slice fa L fc) ∧ So W B fv l ∧ w.heap.size < W.heap.size) := fun W k hp => by
    have h1 := (hp.but _ _ _ _ box (by decide)).trans box
    have h2 : W.cell? ⟨w.heap.size, 1, none⟩ = some fv := cell_row h1 1
    rw [h2, hfv, hL]
    exact ⟨rfl, hfv ▸ hso.but hp.but, lt_of_block h1⟩
  have START : Hid (Ph1 Wb Wb n B 0 l) := Ph1.start hst
  have HFV := hid hfv
  have HL := hid hL
  have HNN := hid hNN
  have HSO := hid hso
  have HAP := hid ha
  have HBX := hid box
  have HWb := hid hWb
  have HBW := hid bWb
  have HDN := hid hdn
  rw [← hL] at hl
  rw [← hNN] at hN
  rw [hfv, ← hL]
  clear h hst box hso hnd hge hfv hL hNN hWb bWb hdn ha
  go_enter Tryz.func53, Tryz.ntmps53
  go_wp2_with fail
  have eWb : Wb = w.alloc (.cells #[.int .i64 x, .slice fa L fc] 47) := by
    have h1 := HWb.out
    have h2 := HFV.out
    have h3 := HL.out
    rw [h1, h2, ← h3]
  rw [← eWb]
  clear eWb
  go_loopw [3, 4, 5] (fun nv iv _ W => Hid (∃ i : Nat, iv = .int .i64 (i : Int) ∧ i ≤ L ∧ nv = .int .i64 ((offB l i : Nat) : Int) ∧ offB l i ≤ N ∧ Ph1 Wb W n B (offB l i) l)) (fun _ iv _ _ => match iv with | .int _ i => L + 1 - i.toNat | _ => 0)
  case atStart =>
    refine ⟨0, rfl, Nat.zero_le _, by rw [offB_zero]; rfl, by rw [offB_zero]; exact Nat.zero_le _, ?_⟩
    rw [offB_zero]
    exact START.out
  case round =>
    obtain ⟨W, hW⟩ : ∃ W, W = wr := ⟨_, rfl⟩
    rw [← hW] at hrel ⊢
    clear hW
    obtain ⟨i, rfl, hi, rfl, hoN, hph⟩ := hrel.out
    clear hrel
    obtain ⟨b0, so1, lb⟩ := BOX1.out W _ hph
    by_cases hlt : i < L
    · obtain ⟨e, he⟩ : ∃ e, l[i]? = some e := ⟨_, List.getElem?_eq_getElem (by have := HL.out; omega)⟩
      obtain ⟨o, ho⟩ : ∃ o, o = offB l i := ⟨_, rfl⟩
      obtain ⟨m, hm⟩ : ∃ m, m = e.bs.length := ⟨_, rfl⟩
      have hon : Hid (offB l (i + 1) = o + m) := by show _ = _; rw [offB_succ he, ho, hm]
      have hoN2 : o + m ≤ N := by
        have h1 := hon.out
        have h2 : offB l (i + 1) ≤ (allB l).length := by
          exact offB_le l (i + 1)
        have h3 := HNN.out
        omega
      have RD : Hid (∀ W2 k, Ph1 Wb W2 n B k l → ∃ G sa sc, fa = some ⟨G, 0, none⟩ ∧ W2.cell? ⟨w.heap.size, 1, none⟩ = some (.slice fa L fc) ∧ W2.cell? ⟨G, i * 3 + 2, none⟩ = some (.slice sa m sc) ∧ ∀ j, j < m → ∃ S b, sa = some ⟨S, 0, none⟩ ∧ W2.cell? ⟨S, j, none⟩ = some (sliceV b B) ∧ (allB l)[o + j]? = some b) := fun W2 k hp => by
        obtain ⟨c0, so2, _⟩ := BOX1.out W2 k hp
        obtain ⟨G, gc, sa, sc, g1, g2, g3, g4⟩ := so2.file he
        have e1 := HFV.out
        rw [e1] at g1
        simp only [Value.slice.injEq] at g1
        rw [g3, ← hm] at g2
        refine ⟨G, sa, sc, g1.1, c0, g2, fun j hj => ?_⟩
        obtain ⟨b, hb⟩ : ∃ b, e.bs[j]? = some b := ⟨_, List.getElem?_eq_getElem (by omega)⟩
        obtain ⟨S, g5, g6⟩ := g4 j b hb
        exact ⟨S, b, g5, g6, by rw [ho]; exact allB_at he hb⟩
      rw [← ho] at hph hoN ⊢
      have HPH := hid hph
      have hlt1 : (i : Int) < (L : Int) := by omega
      have i0 : (0 : Int) ≤ (i : Int) := by omega
      clear hph so1 ho hm he
      go_wp2_with fail
      go_loopw [3, 5] (fun nv jv W2 => Hid (∃ j : Nat, jv = .int .i64 (j : Int) ∧ j ≤ m ∧ nv = .int .i64 ((o + j : Nat) : Int) ∧ Ph1 Wb W2 n B (o + j) l)) (fun _ jv _ => match jv with | .int _ j => m + 1 - j.toNat | _ => 0)
      case atStart => exact ⟨0, rfl, Nat.zero_le _, rfl, HPH.out⟩
      case round =>
        clear b0 lb
        obtain ⟨W2, hW2⟩ : ∃ W2, W2 = wr := ⟨_, rfl⟩
        rw [← hW2] at hrel ⊢
        clear hW2 HPH
        obtain ⟨j, rfl, hj, rfl, hp2⟩ := hrel.out
        clear hrel
        obtain ⟨G, sa, sc, rfl, c0, c1, hcs⟩ := RD.out W2 _ hp2
        have HP2 := hid hp2
        clear hp2
        by_cases hjlt : j < m
        · obtain ⟨S, b, rfl, c2, hab⟩ := hcs j hjlt
          have HAB := hid hab
          have hj1 : (j : Int) < (m : Int) := by omega
          have j0 : (0 : Int) ≤ (j : Int) := by omega
          have V1 : IntKind.i64.wrap (((o + j : Nat) : Int) + 1) = ((o + j : Nat) : Int) + 1 := by rw [IntKind.wrap_i64]; omega
          have V2 : IntKind.i64.wrap ((j : Int) + 1) = (j : Int) + 1 := by rw [IntKind.wrap_i64]; omega
          clear hcs hab
          go_wp2_with (go_at_call 43; refine (FILL.out W2 _ _ HP2.out HAB.out).mono ?_; rintro e w3 ⟨rfl, hp3⟩; have HP3 := hid hp3; clear hp3)
          exact ⟨⟨j + 1, by simp, by omega, by simp; omega, HP3.out⟩, by simp; omega⟩
        · have hjm : j = m := by omega
          have hj1 : ¬ (j : Int) < (m : Int) := by omega
          have V2 : IntKind.i64.wrap ((i : Int) + 1) = (i : Int) + 1 := by rw [IntKind.wrap_i64]; omega
          have EN : Hid (Ph1 Wb W2 n B (offB l (i + 1)) l) := by
            have h1 := hon.out
            have h2 := HP2.out
            rw [hjm] at h2
            rw [h1]
            exact h2
          clear hcs
          go_wp2_with fail
          refine ⟨⟨i + 1, by simp, by omega, ?_, ?_, EN.out⟩, by simp; omega⟩
          · have h1 := hon.out
            rw [h1, hjm]
          · have h1 := hon.out
            omega
    · have hiL : i = L := by omega
      have P1 : Hid (Ph1 Wb W n B N l) := by
        have h1 := HL.out
        have h2 := HNN.out
        have h3 := hph
        rw [hiL, h1, offB_all, ← h2] at h3
        exact h3
      obtain ⟨w1, hw1⟩ : ∃ w1, w1 = W := ⟨_, rfl⟩
      rw [← hw1] at P1 b0 so1 lb ⊢
      have SO1 := hid so1
      have hnlt : ¬ (i : Int) < (L : Int) := by omega
      obtain ⟨M, hM1, hM2, hmk⟩ := make64
      have HM := hid hM1
      have HM2 := hid hM2
      have OLDS : Hid (∀ (q b : Nat), (allB l)[q]? = some b → ∃ olds : List Value, olds.length = B ∧ (∀ W', Below w1.heap.size w1 W' → ∀ (j : Nat) v, olds[j]? = some v → W'.cell? ⟨b, j, none⟩ = some v) ∧ ∀ j, j < B → olds[j]? = some (.int .u8 (mk ((q : Int) + 1) j))) := fun q b hq => by
        have hb1 := P1.out.blk q b hq
        rw [if_pos (by have := (List.getElem?_eq_some_iff.1 hq).1; have := HNN.out; omega)] at hb1
        obtain ⟨cs, hr, hs, _, hm⟩ := hb1
        refine ⟨cs.toList, by simpa using hs, fun W' hb j v hv => ?_, fun j hj => by simpa using hm _ rfl j hj⟩
        rw [cell_row ((hb.block b (lt_of_block hr)).trans hr)]
        simpa using hv
      have START2 : Hid (Ph2 w1 w1 B 0 (.slice none 0 0) []) := Ph2.start w1 B
      clear hph so1 hw1 hlt hi hoN BOX1 START FILL hM1 hM2
      go_wp2_with fail
      go_loopw [6, 8, 9, 10] (fun gv iv _ _ W => Hid (∃ (i : Nat) (vs : List Value), iv = .int .i64 (i : Int) ∧ i ≤ L ∧ Ph2 w1 W B (offB l i) gv vs)) (fun _ iv _ _ _ => match iv with | .int _ i => L + 1 - i.toNat | _ => 0)
      case atStart =>
        refine ⟨0, [], rfl, Nat.zero_le _, ?_⟩
        rw [offB_zero]
        exact START2.out
      case round =>
        clear b0 lb hiL hnlt START2
        obtain ⟨W, hW⟩ : ∃ W, W = wr := ⟨_, rfl⟩
        rw [← hW] at hrel ⊢
        clear hW
        obtain ⟨i, vs, rfl, hi, hph⟩ := hrel.out
        clear hrel
        have BOX2 : Hid (∀ W2, Below w1.heap.size w1 W2 → W2.cell? ⟨w.heap.size, 1, none⟩ = some (.slice fa L fc) ∧ w.heap.size < W2.heap.size ∧ So W2 B fv l) := fun W2 hb => by
          have h1 := (P1.out.but _ _ _ _ HBX.out (by decide)).trans HBX.out
          have h2 : W2.cell? ⟨w.heap.size, 1, none⟩ = some fv := cell_row ((hb.block _ (lt_of_block h1)).trans h1) 1
          have h3 := HFV.out
          have h4 := HL.out
          refine ⟨by rw [h2, h3, h4], Nat.lt_of_lt_of_le (lt_of_block h1) hb.size, SO1.out.below hb⟩
        obtain ⟨b0, lb, so2⟩ := BOX2.out W hph.low
        obtain ⟨sg, cg, hgv⟩ := sh_slice hph.own
        by_cases hlt : i < L
        · obtain ⟨e, he⟩ : ∃ e, l[i]? = some e := ⟨_, List.getElem?_eq_getElem (by have := HL.out; omega)⟩
          obtain ⟨o, ho⟩ : ∃ o, o = offB l i := ⟨_, rfl⟩
          obtain ⟨m, hm⟩ : ∃ m, m = e.bs.length := ⟨_, rfl⟩
          have hon : Hid (offB l (i + 1) = o + m) := by show _ = _; rw [offB_succ he, ho, hm]
          have hoN2 : o + m ≤ N := by
            have h1 := hon.out
            have h2 : offB l (i + 1) ≤ (allB l).length := offB_le l (i + 1)
            have h3 := HNN.out
            omega
          have RD : Hid (∀ W2, Below w1.heap.size w1 W2 → ∃ G sa sc, fa = some ⟨G, 0, none⟩ ∧ W2.cell? ⟨w.heap.size, 1, none⟩ = some (.slice fa L fc) ∧ W2.cell? ⟨G, i * 3 + 2, none⟩ = some (.slice sa m sc) ∧ ∀ j, j < m → ∃ S b, sa = some ⟨S, 0, none⟩ ∧ W2.cell? ⟨S, j, none⟩ = some (sliceV b B) ∧ (allB l)[o + j]? = some b) := fun W2 hb => by
            obtain ⟨c0, _, so3⟩ := BOX2.out W2 hb
            obtain ⟨G, gc, sa, sc, g1, g2, g3, g4⟩ := so3.file he
            have e1 := HFV.out
            rw [e1] at g1
            simp only [Value.slice.injEq] at g1
            rw [g3, ← hm] at g2
            refine ⟨G, sa, sc, g1.1, c0, g2, fun j hj => ?_⟩
            obtain ⟨b, hb⟩ : ∃ b, e.bs[j]? = some b := ⟨_, List.getElem?_eq_getElem (by omega)⟩
            obtain ⟨S, g5, g6⟩ := g4 j b hb
            exact ⟨S, b, g5, g6, by rw [ho]; exact allB_at he hb⟩
          rw [← ho] at hph hgv
          have HPH := hid hph
          have hlt1 : (i : Int) < (L : Int) := by omega
          have i0 : (0 : Int) ≤ (i : Int) := by omega
          clear hph so2 ho hm he hgv
          go_wp2_with fail
          go_loopw [6, 9, 10] (fun gv jv _ W2 => Hid (∃ (j : Nat) (vs : List Value), jv = .int .i64 (j : Int) ∧ j ≤ m ∧ Ph2 w1 W2 B (o + j) gv vs)) (fun _ jv _ _ => match jv with | .int _ j => m + 1 - j.toNat | _ => 0)
          case atStart => exact ⟨0, vs, rfl, Nat.zero_le _, HPH.out⟩
          case round =>
            clear b0 lb HPH vs sg cg
            obtain ⟨W2, hW2⟩ : ∃ W2, W2 = wr := ⟨_, rfl⟩
            rw [← hW2] at hrel ⊢
            clear hW2
            obtain ⟨j, vs, rfl, hj, hp2⟩ := hrel.out
            clear hrel
            obtain ⟨G, sa, sc, rfl, c0, c1, hcs⟩ := RD.out W2 hp2.low
            obtain ⟨sg, cg, hgv⟩ := sh_slice hp2.own
            subst hgv
            have HP2 := hid hp2
            clear hp2
            by_cases hjlt : j < m
            · obtain ⟨S, b, rfl, c2, hab⟩ := hcs j hjlt
              obtain ⟨olds, hol, hoc, hom⟩ := OLDS.out _ b hab
              have hj1 : (j : Int) < (m : Int) := by omega
              have j0 : (0 : Int) ≤ (j : Int) := by omega
              have V1 : IntKind.i64.wrap (((o + j : Nat) : Int) + 1) = ((o + j : Nat) : Int) + 1 := by rw [IntKind.wrap_i64]; omega
              have V2 : IntKind.i64.wrap ((j : Int) + 1) = (j : Int) + 1 := by rw [IntKind.wrap_i64]; omega
              obtain ⟨Wm, hWm⟩ : ∃ Wm, Wm = W2.alloc (.cells M 5) := ⟨_, rfl⟩
              have bWm : Below W2.heap.size W2 Wm := by rw [hWm]; exact (Below.refl _ _).alloc (Nat.le_refl _) _
              have CF : Hid (Calls Tryz.prog 43 #[.slice (some ⟨W2.heap.size, 0, none⟩) 64 64, .int .i64 (((o + j : Nat) : Int) + 1)] Wm fun e W' => e = .returned (.tuple #[]) ∧ Below W2.heap.size Wm W' ∧ ∃ news : List Value, news.length = 64 ∧ (∀ q, q < 64 → news[q]? = some (.int .u8 (mk (((o + j : Nat) : Int) + 1) q))) ∧ (∀ u ∈ news, u.oneCell' = true) ∧ W'.heap[W2.heap.size]? = some (.cells news.toArray 5 (0, 0))) := by
                refine fill_new (w := W2) (c := 64) _ ?_ HM.out HM2.out (Nat.le_refl _) bWm.size
                rw [hWm]
                exact heap_alloc_new _ _
              have UPW : Hid (∀ W3, Below W2.heap.size W2 W3 → W3.cell? ⟨w.heap.size, 1, none⟩ = some (.slice (some ⟨G, 0, none⟩) L fc) ∧ W3.cell? ⟨G, i * 3 + 2, none⟩ = some (.slice (some ⟨S, 0, none⟩) m sc) ∧ W3.cell? ⟨S, j, none⟩ = some (sliceV b B)) := fun W3 hb => ⟨(hb.cell (World.block_lt_of_cell? W2 _ c0)).trans c0, (hb.cell (World.block_lt_of_cell? W2 _ c1)).trans c1, (hb.cell (World.block_lt_of_cell? W2 _ c2)).trans c2⟩
              have HBM := hid bWm
              have HWm := hid hWm
              have HOL := hid hol
              have HOC := hid hoc
              have HOM := hid hom
              have PACK : Hid (∀ (w3 : World) (news : List Value) (cs : Array Value) (Wx : World), Below W2.heap.size W2 w3 → (∀ q, q < 64 → news[q]? = some (.int .u8 (mk (((o + j : Nat) : Int) + 1) q))) → (∀ (q : Nat) u, (olds ++ news)[q]? = some u → cs[q]? = some u) → Wx = w3.drew.alloc (.cells cs 5) → Below W2.heap.size W2 Wx ∧ Wx.heap[w3.heap.size]? = some (.cells cs 5 (0, 0)) ∧ Wx.ownsRow w1.heap.size 31 1 (.slice sg (o + j) cg) (o + j) vs ∧ ∀ q, q < B + 64 → cs[q]? = some (.int .u8 (mk (((o + j : Nat) : Int) + 1) (if B + 64 - 64 ≤ q then q - (B + 64 - 64) else q)))) := fun w3 news cs Wx hb hnm hcs hWx => by
                have bx : Below W2.heap.size W2 Wx := by
                  rw [hWx]
                  exact hb.drew.alloc hb.size _
                refine ⟨bx, ?_, own_kept HP2.out.own fun g hg => bx.block g (own_block HP2.out.own hg).2, grown_mark hcs hol hom hnm⟩
                rw [hWx]
                exact heap_alloc_new w3.drew (.cells cs 5)
              clear hcs hab hol hoc hom bWm hWm
              go_wp2_with (first
                | (have q := O7; clear q; at_builtin; refine wpl_one rfl _ _ 51 rfl w1.heap.size 31 _ 1 24 Tryz.underlying51 info31 rfl (by decide) (.slice sg (o + j) cg) (o + j) vs rfl OWX.out [.slice (some ⟨w3.heap.size, 0, none⟩) (B + 64) cap] 31 Wx.heap.size rfl rfl rfl (fun u hu => by simp at hu; subst hu; rfl) (by omega) (by omega) (Nat.le_trans HP2.out.low.size BX.out.size) ?_; intro v9 W9 o9 f9; have NX := hid (HP2.out.next BX.out W3H.out.size RX.out O7.out MX.out rfl o9 f9); clear o9 f9)
                | (have q := W3H; clear q; at_builtin; refine wpl_full rfl _ _ rfl b B olds rfl HOL.out (fun q v hv => HOC.out _ W3L.out q v hv) W2.heap.size 64 64 news rfl (by decide) NL.out (fun q v hv => by rw [cell_row NR.out]; simpa using hv) (by omega) (by omega) ?_; intro cap cs Wx hcs1 hcs2 hWx; have O7 := hid hcs1; obtain ⟨bx, rx, owx, mx⟩ := PACK.out w3 news cs Wx W3H.out NM.out hcs2 hWx; have BX := hid bx; have RX := hid rx; have OWX := hid owx; have MX := hid mx; clear hcs1 hcs2 hWx bx rx owx mx)
                | (rw [← HWm.out]; go_at_call 43; refine CF.out.mono ?_; rintro e w3 ⟨rfl, hb3, news, nl, nm, n1, nr⟩; have W3H : Hid (Below W2.heap.size W2 w3) := HBM.out.trans hb3; obtain ⟨x0, x1, x2⟩ := UPW.out _ W3H.out; have W3L : Hid (Below w1.heap.size w1 w3) := HP2.out.low.trans (W3H.out.mono HP2.out.low.size); have NL := hid nl; have NM := hid nm; have NR := hid nr; clear hb3 nl nm n1 nr))
              exact ⟨⟨j + 1, _, by simp, by omega, NX.out⟩, by simp; omega⟩
            · have hjm : j = m := by omega
              have hj1 : ¬ (j : Int) < (m : Int) := by omega
              have V2 : IntKind.i64.wrap ((i : Int) + 1) = (i : Int) + 1 := by rw [IntKind.wrap_i64]; omega
              have EN : Hid (Ph2 w1 W2 B (offB l (i + 1)) (.slice sg (o + j) cg) vs) := by
                have h1 := hon.out
                have h2 := HP2.out
                rw [h1, ← hjm]
                exact h2
              clear hcs
              go_wp2_with fail
              exact ⟨⟨i + 1, vs, by simp, by omega, EN.out⟩, by simp; omega⟩
        · have hiL : i = L := by omega
          have eN : offB l i = N := by
            have h1 := HL.out
            have h2 := HNN.out
            rw [hiL, h1, offB_all, h2]
          subst hgv
          rw [eN] at hph ⊢
          obtain ⟨w2, hw2⟩ : ∃ w2, w2 = W := ⟨_, rfl⟩
          rw [← hw2] at hph b0 lb so2 ⊢
          have P2 := hid hph
          have SO2 := hid so2
          have HD1 : Hid (Hd w1 fv l) := Hd.of SO1.out HAP.out
          have HD2 : Hid (Hd w2 fv l) := Hd.of so2 HAP.out
          have hnlt : ¬ (i : Int) < (L : Int) := by omega
          have BOX3 : Hid (∀ W, Touch (hdr fv l) w2 W → W.cell? ⟨w.heap.size, 1, none⟩ = some (.slice fa L fc) ∧ w.heap.size < W.heap.size) := fun W ht => by
            have h1 := ht.cell (p := ⟨w.heap.size, 1, none⟩) lb (fun hm => by have := (HDN.out _ hm).2; simp only at this; omega)
            exact ⟨h1.trans b0, Nat.lt_of_lt_of_le lb ht.size⟩
          clear hph so2 hw2 hlt hi BOX2 OLDS hmk HM HM2 M
          go_wp2_with fail
          go_loopw [7, 11] (fun rv iv W => Hid (∃ (i : Nat) (rvs : List Value), iv = .int .i64 (i : Int) ∧ i ≤ L ∧ Ph3 w2 W B i rv fv l rvs)) (fun _ iv _ => match iv with | .int _ i => L + 1 - i.toNat | _ => 0)
          case atStart => exact ⟨0, [], rfl, Nat.zero_le _, Ph3.start SO2.out⟩
          case round =>
            clear b0 lb hiL hnlt eN
            obtain ⟨W, hW⟩ : ∃ W, W = wr := ⟨_, rfl⟩
            rw [← hW] at hrel ⊢
            clear hW
            obtain ⟨i, rvs, rfl, hi, hph⟩ := hrel.out
            clear hrel
            obtain ⟨b0, lb⟩ := BOX3.out W hph.tch
            obtain ⟨sr, cr, hrv⟩ := sh_slice hph.own
            subst hrv
            obtain ⟨xs, hx1, hx2⟩ := hph.row
            by_cases hlt : i < L
            · obtain ⟨e, he⟩ : ∃ e, l[i]? = some e := ⟨_, List.getElem?_eq_getElem (by have := HL.out; omega)⟩
              obtain ⟨m, hm⟩ : ∃ m, m = e.bs.length := ⟨_, rfl⟩
              have hmN : m ≤ N := by
                have h2 : offB l (i + 1) ≤ (allB l).length := offB_le l (i + 1)
                rw [offB_succ he] at h2
                have h3 := HNN.out
                omega
              obtain ⟨G, gc, g1, _, lG, g2, _⟩ := own_cell hx1 (hx2 i e he)
              obtain ⟨z, hz⟩ : ∃ z, xs[i * 3]? = some z := ⟨_, List.getElem?_eq_getElem (by have := hx1.1; have := HL.out; omega)⟩
              obtain ⟨G', gc', g1', _, _, g3, g4⟩ := own_cell hx1 hz
              rw [g1] at g1'
              simp only [Value.slice.injEq, Option.some.injEq, Addr.mk.injEq] at g1'
              obtain ⟨⟨rfl, -⟩, -, -⟩ := g1'
              have hsv := hph.rest i e (Nat.le_refl _) he
              obtain ⟨sa, sc, hsa⟩ := sh_slice hsv
              rw [← hm] at hsa
              rw [hsa] at g2
              have e1 := HFV.out
              rw [e1] at g1
              simp only [Value.slice.injEq] at g1
              obtain ⟨rfl, -, -⟩ := g1
              have hGw : G < w.heap.size := (HDN.out G (hdr_fv (by rw [e1]; rfl))).2
              have hGn : G ≠ w.heap.size := by omega
              have hGn2 : w.heap.size ≠ G := by omega
              have hSG : e.sv.ownBlock ≠ some G := HD2.out.ne G (by rw [e1]; rfl) e (List.mem_of_getElem? he)
              have OW3 : Hid (((W.setCell ⟨G, i * 3, none⟩ (.string ⟨#[98, 108, 111, 116]⟩)).alloc (.cells #[.int .u8 ((i : Int) % 256), .int .u8 ((i : Int) / 256 % 256)] 5)).ownsRow 0 31 1 (.slice sa m sc) m (e.cut B)) := by
                rw [← hsa]
                have hsv2 := hsv
                rw [← hm] at hsv2
                exact own_kept hsv2 fun g hg => by
                  rw [Below.heap_alloc _ _ _ (by simpa [World.setCell] using (own_block hsv hg).2), Below.heap_setCell _ _ _ _ (by show g ≠ G; intro e2; subst e2; exact hSG hg)]
              have NEXT3 : Hid (∀ (W4 W6 : World) (v4 rv' : Value) (o5 : Obj), W4.ownsRow 0 31 1 v4 (m + 1) (e.cut B ++ [.slice (some ⟨W.heap.size, 0, none⟩) 2 2]) → ((v4.ownBlock = (Value.slice sa m sc).ownBlock ∧ (((W.setCell ⟨G, i * 3, none⟩ (.string ⟨#[98, 108, 111, 116]⟩)).alloc (.cells #[.int .u8 ((i : Int) % 256), .int .u8 ((i : Int) / 256 % 256)] 5)).alloc (.cells #[.slice (some ⟨W.heap.size, 0, none⟩) 2 2] 31)).grownBy W4 (Value.slice sa m sc).ownBlock) ∨ ((∀ g, v4.ownBlock = some g → (((W.setCell ⟨G, i * 3, none⟩ (.string ⟨#[98, 108, 111, 116]⟩)).alloc (.cells #[.int .u8 ((i : Int) % 256), .int .u8 ((i : Int) / 256 % 256)] 5)).alloc (.cells #[.slice (some ⟨W.heap.size, 0, none⟩) 2 2] 31)).heap.size ≤ g) ∧ (((W.setCell ⟨G, i * 3, none⟩ (.string ⟨#[98, 108, 111, 116]⟩)).alloc (.cells #[.int .u8 ((i : Int) % 256), .int .u8 ((i : Int) / 256 % 256)] 5)).alloc (.cells #[.slice (some ⟨W.heap.size, 0, none⟩) 2 2] 31)).grownBy W4 none)) →
                  W6.ownsRow w2.heap.size 51 1 rv' (i + 1) (rvs ++ [v4]) → ((rv'.ownBlock = (Value.slice sr i cr).ownBlock ∧ (W4.alloc o5).grownBy W6 (Value.slice sr i cr).ownBlock) ∨ ((∀ g, rv'.ownBlock = some g → (W4.alloc o5).heap.size ≤ g) ∧ (W4.alloc o5).grownBy W6 none)) → Ph3 w2 W6 B (i + 1) rv' fv l (rvs ++ [v4])) := fun W4 W6 v4 rv' o5 h4 f4 h6 f6 => by
                rw [hm] at h4
                rw [← hsa] at f4
                exact hph.next HD2.out he (gc := fc) (by rw [e1]) rfl rfl rfl h4 f4 h6 f6
              have OWR : Hid (∀ W4 v4, W4.ownsRow 0 31 1 v4 (m + 1) (e.cut B ++ [.slice (some ⟨W.heap.size, 0, none⟩) 2 2]) → ((v4.ownBlock = (Value.slice sa m sc).ownBlock ∧ (((W.setCell ⟨G, i * 3, none⟩ (.string ⟨#[98, 108, 111, 116]⟩)).alloc (.cells #[.int .u8 ((i : Int) % 256), .int .u8 ((i : Int) / 256 % 256)] 5)).alloc (.cells #[.slice (some ⟨W.heap.size, 0, none⟩) 2 2] 31)).grownBy W4 (Value.slice sa m sc).ownBlock) ∨ ((∀ g, v4.ownBlock = some g → (((W.setCell ⟨G, i * 3, none⟩ (.string ⟨#[98, 108, 111, 116]⟩)).alloc (.cells #[.int .u8 ((i : Int) % 256), .int .u8 ((i : Int) / 256 % 256)] 5)).alloc (.cells #[.slice (some ⟨W.heap.size, 0, none⟩) 2 2] 31)).heap.size ≤ g) ∧ (((W.setCell ⟨G, i * 3, none⟩ (.string ⟨#[98, 108, 111, 116]⟩)).alloc (.cells #[.int .u8 ((i : Int) % 256), .int .u8 ((i : Int) / 256 % 256)] 5)).alloc (.cells #[.slice (some ⟨W.heap.size, 0, none⟩) 2 2] 31)).grownBy W4 none)) → W4.ownsRow w2.heap.size 51 1 (.slice sr i cr) i rvs ∧ w2.heap.size ≤ W4.heap.size ∧ ∃ r c, v4 = .slice (some ⟨r, 0, none⟩) (m + 1) c) := fun W4 v4 h4 f4 => by
                rw [← hsa] at f4
                obtain ⟨gr, _⟩ := grown_all f4
                have z0 := hph.tch.size
                have zz := gr.size
                simp only [World.size_alloc, World.size_setCell] at zz
                obtain ⟨r, c, hv4, _⟩ := own_cell h4 (j := e.bs.length) (x := .slice (some ⟨W.heap.size, 0, none⟩) 2 2) (by rw [List.getElem?_append_right (by simp)]; simp)
                refine ⟨own_kept hph.own fun g hg => ?_, by omega, r, c, hv4⟩
                have hb := own_block hph.own hg
                rw [gr.block g (by simp only [World.size_alloc, World.size_setCell]; omega) (fun e2 => by have := HD2.out.lt g (hdr_sv (List.mem_of_getElem? he) e2.symm); omega), Below.heap_alloc _ _ _ (by simp only [World.size_alloc, World.size_setCell]; omega), Below.heap_alloc _ _ _ (by simp only [World.size_setCell]; omega), Below.heap_setCell _ _ _ _ (by show g ≠ G; intro e2; subst e2; have := HD2.out.lt g (hdr_fv (by rw [e1]; rfl)); omega)]
              have hlt1 : (i : Int) < (L : Int) := by omega
              have i0 : (0 : Int) ≤ (i : Int) := by omega
              have V2 : IntKind.i64.wrap ((i : Int) + 1) = (i : Int) + 1 := by rw [IntKind.wrap_i64]; omega
              have HSZ : Hid (w2.heap.size ≤ W.heap.size) := hph.tch.size
              clear hph hx1 hx2 he hm hz hsv hsa e1 hSG
              go_wp2_with (first
                | (have q := OW5; clear q; at_builtin; refine wpl_one rfl _ _ 129 rfl w2.heap.size 51 _ 1 24 Tryz.underlying129 Tryz.info51 rfl (by decide) (.slice sr i cr) i rvs rfl OW5.out.1 [.slice (some ⟨r4, 0, none⟩) (m + 1) c4] 51 W4.heap.size rfl rfl rfl (fun u hu => by simp at hu; subst hu; rfl) (by omega) (by omega) OW5.out.2 ?_; intro v6 W6 o6 f6; have NX := hid (NEXT3.out _ _ _ _ _ O4.out F4.out o6 f6); clear o6 f6)
                | (at_builtin; refine wpl_one rfl _ _ 51 rfl 0 31 _ 1 24 Tryz.underlying51 info31 rfl (by decide) (.slice sa m sc) m (e.cut B) rfl OW3.out [.slice (some ⟨W.heap.size, 0, none⟩) 2 2] 31 (W.heap.size + 1) (by simp [World.setCell]) rfl rfl (fun u hu => by simp at hu; subst hu; rfl) (by omega) (by omega) (Nat.zero_le _) ?_; intro v4 W4 o4 f4; obtain ⟨q1, q2, r4, c4, rfl⟩ := OWR.out _ _ o4 f4; have OW5 := hid (And.intro q1 q2); have O4 := hid o4; have F4 := hid f4; clear o4 f4 q1 q2))
              exact ⟨⟨i + 1, _, by simp, by omega, NX.out⟩, by simp; omega⟩
            · have hiL : i = L := by omega
              subst hiL
              have e1 := HFV.out
              have e2 := HL.out
              have hnlt : ¬ (i : Int) < (i : Int) := by omega
              have OWF : Hid (W.ownsRow 0 71 3 (.slice fa i fc) i xs) := by
                rw [e2, ← e1]
                exact hx1
              have P4O : Hid (∀ (W4 : World) (v4 : Value), W4.ownsRow 0 71 3 v4 (i + 1) (xs ++ [.string ⟨#[109, 111, 114, 101]⟩, .bool false, .slice none 0 0]) → ((v4.ownBlock = (Value.slice fa i fc).ownBlock ∧ (W.alloc (.cells #[.string ⟨#[109, 111, 114, 101]⟩, .bool false, .slice none 0 0] 71)).grownBy W4 (Value.slice fa i fc).ownBlock) ∨ ((∀ g, v4.ownBlock = some g → (W.alloc (.cells #[.string ⟨#[109, 111, 114, 101]⟩, .bool false, .slice none 0 0] 71)).heap.size ≤ g) ∧ (W.alloc (.cells #[.string ⟨#[109, 111, 114, 101]⟩, .bool false, .slice none 0 0] 71)).grownBy W4 none)) → Ph4 W4 B N (.slice sg N cg) (.slice sr i cr) fv l ∧ Touch (hdr fv l) w2 W4) := fun W4 v4 h4 f4 => by
                have e4 := HNN.out
                have f5 := f4
                rw [e2, ← e1] at f5
                obtain ⟨gr, _⟩ := grown_all f5
                refine ⟨?_, Touch.grown (hph.tch.alloc _) gr (fun g hg => .inl (hdr_fv hg))⟩
                have h9 := P1.out
                have h8 := P2.out
                rw [e4] at h9 h8 ⊢
                have h7 := hph
                rw [e2] at h7 ⊢
                exact Ph4.of h9 h8 h7 HD1.out SO2.out HD2.out ((Below.refl _ _).alloc (Nat.le_refl _) _) hx1 hx2 h4 f5
              clear hph hx1 hx2 e1 e2 hlt hi
              go_wp2_with (first
                | (at_builtin; refine wpl_one rfl _ _ 45 rfl 0 71 _ 3 48 Tryz.underlying45 inf71 rfl (by decide) (.slice fa i fc) i xs rfl OWF.out [.string ⟨#[109, 111, 114, 101]⟩, .bool false, .slice none 0 0] 71 W.heap.size rfl rfl rfl (fun u hu => by simp at hu; rcases hu with rfl | rfl | rfl <;> rfl) (by omega) (by omega) (Nat.zero_le _) ?_; intro v4 w3 o4 f4; obtain ⟨p4, t4⟩ := P4O.out _ _ o4 f4; have P4 := hid p4; have T4 := hid t4; clear o4 f4 p4 t4))
              obtain ⟨b3, lb3⟩ := BOX3.out w3 T4.out
              have B3 := hid b3
              have LB3 := hid lb3
              clear b0 lb OWF P4O BOX3 b3 lb3
              go_loopw [3, 12, 13, 14, 15] (fun nv iv _ _ _ W => Hid (∃ q : Nat, iv = .int .i64 (q : Int) ∧ q ≤ i ∧ nv = .int .i64 ((offB l q : Nat) : Int) ∧ Touch [] w3 W)) (fun _ iv _ _ _ _ => match iv with | .int _ q => i + 1 - q.toNat | _ => 0)
              case atStart => exact ⟨0, rfl, Nat.zero_le _, by rw [offB_zero]; rfl, Touch.refl _ _⟩
              case round =>
                clear hnlt
                obtain ⟨Y, hY⟩ : ∃ Y, Y = wr := ⟨_, rfl⟩
                rw [← hY] at hrel ⊢
                clear hY
                obtain ⟨q, rfl, hq, rfl, ht⟩ := hrel.out
                clear hrel
                have BOX4 : Hid (∀ Y, Touch [] w3 Y → Y.cell? ⟨w.heap.size, 1, none⟩ = some (.slice fa i fc) ∧ w.heap.size < Y.heap.size) := fun Y ht => ⟨(ht.cell (p := ⟨w.heap.size, 1, none⟩) LB3.out (by simp)).trans B3.out, Nat.lt_of_lt_of_le LB3.out ht.size⟩
                obtain ⟨c0, lc0⟩ := BOX4.out Y ht
                have HTY := hid ht
                by_cases hlt : q < i
                · obtain ⟨e, he⟩ : ∃ e, l[q]? = some e := ⟨_, List.getElem?_eq_getElem (by have := HL.out; omega)⟩
                  obtain ⟨o, ho⟩ : ∃ o, o = offB l q := ⟨_, rfl⟩
                  obtain ⟨m, hm⟩ : ∃ m, m = e.bs.length := ⟨_, rfl⟩
                  have hon : Hid (offB l (q + 1) = o + m) := by show _ = _; rw [offB_succ he, ho, hm]
                  have hoN2 : o + m ≤ N := by
                    have h1 := hon.out
                    have h2 : offB l (q + 1) ≤ (allB l).length := offB_le l (q + 1)
                    have h3 := HNN.out
                    omega
                  obtain ⟨G, gc, sa, sc, Rv, rc, r, cr', y, g1, g2, g3, g4, g5, g6, g7, g8, g9⟩ := P4.out.files q e he
                  have e1 := HFV.out
                  rw [e1] at g1
                  simp only [Value.slice.injEq] at g1
                  obtain ⟨rfl, -, -⟩ := g1
                  simp only [Value.slice.injEq] at g4
                  obtain ⟨rfl, -, -⟩ := g4
                  rw [← hm] at g3 g5 g6
                  rw [g3] at g2
                  have UP4 : Hid (∀ Y2, Touch [] w3 Y2 → Y2.cell? ⟨w.heap.size, 1, none⟩ = some (.slice (some ⟨G, 0, none⟩) i fc) ∧ Y2.cell? ⟨G, q * 3 + 2, none⟩ = some (.slice sa m sc) ∧ Y2.cell? ⟨Rv, q, none⟩ = some (.slice (some ⟨r, 0, none⟩) (m + 1) cr') ∧ Y2.cell? ⟨r, m, none⟩ = some (.slice (some ⟨y, 0, none⟩) 2 2) ∧ Y2.cell? ⟨y, 0, none⟩ = some (.int .u8 ((q : Int) % 256)) ∧ Y2.cell? ⟨y, 1, none⟩ = some (.int .u8 ((q : Int) / 256 % 256)) ∧ (∀ j, j < m → ∃ S b Gv g c', sa = some ⟨S, 0, none⟩ ∧ Y2.cell? ⟨S, j, none⟩ = some (sliceV b B) ∧ sg = some ⟨Gv, 0, none⟩ ∧ Y2.cell? ⟨Gv, o + j, none⟩ = some (.slice (some ⟨g, 0, none⟩) (B + 64) c') ∧ (Calls Tryz.prog 77 #[sliceV b B, .int .i64 (((o + j : Nat) : Int) + 1)] Y2 fun e w' => e = .returned (.bool true) ∧ Touch [] Y2 w') ∧ ∀ Y3, Touch [] Y2 Y3 → Calls Tryz.prog 77 #[.slice (some ⟨g, 0, none⟩) (B + 64) c', .int .i64 (((o + j : Nat) : Int) + 1)] Y3 fun e w' => e = .returned (.bool true) ∧ Touch [] Y3 w')) := fun Y2 ht2 => by
                    have cc : ∀ (p : Addr) v, w3.cell? p = some v → Y2.cell? p = some v := fun p v hv => (ht2.cell (World.block_lt_of_cell? w3 _ hv) (by simp)).trans hv
                    refine ⟨(BOX4.out Y2 ht2).1, cc _ _ g2, cc _ _ g5, cc _ _ g6, cc _ _ g7, cc _ _ g8, fun j hj => ?_⟩
                    obtain ⟨b, hb⟩ : ∃ b, e.bs[j]? = some b := ⟨_, List.getElem?_eq_getElem (by omega)⟩
                    obtain ⟨S, s1, s2⟩ := g9 j b hb
                    have hab : (allB l)[o + j]? = some b := by rw [ho]; exact allB_at he hb
                    obtain ⟨cs, k1, k2, _, k3⟩ := P4.out.blk (o + j) b hab
                    obtain ⟨Gv, c9, g, c', cs', k4, k5, k6, k7, k8⟩ := P4.out.grn (o + j) (by omega)
                    simp only [Value.slice.injEq, true_and] at k4
                    refine ⟨S, b, Gv, g, c', s1, cc _ _ s2, k4.1, cc _ _ k5, ?_, fun Y3 ht3 => ?_⟩
                    · exact filled_plain (c := B) _ ((ht2.block b (lt_of_block k1) (by simp)).trans k1) (by omega) (k3 _ rfl) (by omega)
                    · exact filled_row (c := c') _ (((ht2.trans ht3 (by simp)).block g (lt_of_block k6) (by simp)).trans k6) k7 (by omega) k8 (by omega)
                  obtain ⟨d0, d1, d2, d3, d4, d5, _⟩ := UP4.out Y ht
                  have hlt1 : (q : Int) < (i : Int) := by omega
                  have q0 : (0 : Int) ≤ (q : Int) := by omega
                  have hm1 : (m : Int) < ((m + 1 : Nat) : Int) := by omega
                  have hm0 : (0 : Int) ≤ (m : Int) := by omega
                  rw [← ho]
                  clear ht g2 g3 g5 g6 g7 g8 g9 e1 ho hm he c0
                  go_wp2_with fail
                  go_loopw [3, 15] (fun nv jv Y2 => Hid (∃ j : Nat, jv = .int .i64 (j : Int) ∧ j ≤ m ∧ nv = .int .i64 ((o + j : Nat) : Int) ∧ Touch [] w3 Y2)) (fun _ jv _ => match jv with | .int _ j => m + 1 - j.toNat | _ => 0)
                  case atStart => exact ⟨0, rfl, Nat.zero_le _, rfl, HTY.out⟩
                  case round =>
                    clear d0 d1 d2 d3 d4 d5 lc0
                    obtain ⟨Y2, hY2⟩ : ∃ Y2, Y2 = wr := ⟨_, rfl⟩
                    rw [← hY2] at hrel ⊢
                    clear hY2
                    obtain ⟨j, rfl, hj, rfl, ht2⟩ := hrel.out
                    clear hrel
                    have HT2 := hid ht2
                    by_cases hjlt : j < m
                    · obtain ⟨d0, d1, _, _, _, _, hjs⟩ := UP4.out Y2 ht2
                      obtain ⟨S, b, Gv, g, c', hsS, d6, hsG, d7, F1, F2⟩ := hjs j hjlt
                      subst hsS
                      subst hsG
                      have HF1 := hid F1
                      have HF2 := hid F2
                      have hj1 : (j : Int) < (m : Int) := by omega
                      have j0 : (0 : Int) ≤ (j : Int) := by omega
                      have V1 : IntKind.i64.wrap (((o + j : Nat) : Int) + 1) = ((o + j : Nat) : Int) + 1 := by rw [IntKind.wrap_i64]; omega
                      have V3 : ((o + j : Nat) : Int) + 1 - 1 = ((o + j : Nat) : Int) := by omega
                      have V2 : IntKind.i64.wrap ((j : Int) + 1) = (j : Int) + 1 := by rw [IntKind.wrap_i64]; omega
                      have l1 : ((o + j : Nat) : Int) < (N : Int) := by omega
                      have l2 : (0 : Int) ≤ ((o + j : Nat) : Int) := by omega
                      have D7 := hid d7
                      clear ht2 hjs F1 F2
                      go_wp2_with (first
                        | (have q := T5; clear q; go_at_call 77; refine (HF2.out _ T5.out).mono ?_; rintro e w6 ⟨rfl, t6⟩; have T6 := hid t6; clear t6)
                        | (go_at_call 77; refine HF1.out.mono ?_; rintro e w5 ⟨rfl, t5⟩; have d8 := (t5.cell (World.block_lt_of_cell? Y2 _ D7.out) (by simp)).trans D7.out; have T5 := hid t5; clear t5))
                      exact ⟨⟨j + 1, by simp, by omega, by simp; omega, (HT2.out.trans T5.out (by simp)).trans T6.out (by simp)⟩, by simp; omega⟩
                    · have hjm : j = m := by omega
                      have hj1 : ¬ (j : Int) < (m : Int) := by omega
                      have V2 : IntKind.i64.wrap ((q : Int) + 1) = (q : Int) + 1 := by rw [IntKind.wrap_i64]; omega
                      clear ht2
                      go_wp2_with fail
                      refine ⟨⟨q + 1, by simp, by omega, ?_, HT2.out⟩, by simp; omega⟩
                      have h1 := hon.out
                      rw [h1, hjm]
                · have hqi : ¬ (q : Int) < (i : Int) := by omega
                  have FIN : Hid (Below n w Y) := by
                    have h1 : Below n w Wb := HBW.out.mono hn
                    have h2 : Below n Wb w1 := P1.out.low
                    have z1 := HBW.out.size
                    have z2 := h2.size
                    have h3 : Below n w1 w2 := P2.out.low.mono (by omega)
                    have z3 := h3.size
                    have h4 : Below n w2 w3 := T4.out.below (by omega) (fun b hb => (HDN.out b hb).1)
                    have z4 := h4.size
                    have h5 : Below n w3 Y := HTY.out.below (by omega) (by simp)
                    exact (((h1.trans h2).trans h3).trans h4).trans h5
                  clear ht
                  go_wp2_with fail
                  go_ret
                  exact ⟨rfl, FIN.out⟩
end Go.Proofs.YtcpncfngadablaaGreatDoor
