import Derived.Test.YtcpncfngadablaaGreatDoorZ11
/-
  The document's disk: Create.
-/
namespace Go.Proofs.YtcpncfngadablaaGreatDoor
open Go.RowKit Go.Deep ShfKit
set_option maxRecDepth 100000
/-- a list of files in the making, in new memory. -/
structure Wrk (w W : World) (v : Value) (n : Nat) (xs : List Value) : Prop where
  own : W.ownsRow w.heap.size 71 3 v n xs
  low : Below w.heap.size w W
theorem Wrk.next {w W W' : World} {v v' : Value} {n n' : Nat} {xs xs' : List Value} (h : Wrk w W v n xs) (ho : W'.ownsRow w.heap.size 71 3 v' n' xs')
    (hf : (v'.ownBlock = v.ownBlock ∧ W.grownBy W' v.ownBlock) ∨ ((∀ g, v'.ownBlock = some g → W.heap.size ≤ g) ∧ W.grownBy W' none)) : Wrk w W' v' n' xs' := by
  obtain ⟨g, _⟩ := grown_all hf
  exact ⟨ho, h.low.trans ⟨g.os, g.tape, g.output, g.size, fun b hb => g.block b (by have := h.low.size; omega) (fun e => by have := (own_block h.own e.symm).1; omega)⟩⟩
theorem Wrk.alloc {w W : World} {v : Value} {n : Nat} {xs : List Value} (h : Wrk w W v n xs) (o : Obj) : Wrk w (W.alloc o) v n xs :=
  ⟨own_kept h.own fun _ hg => Below.heap_alloc _ _ _ (own_block h.own hg).2, h.low.alloc h.low.size _⟩
theorem own_cap {W : World} {B e size n c : Nat} {s : Option Addr} {xs : List Value} (h : W.ownsRow B e size (.slice s n c) n xs) : n ≤ c := by
  rcases h.2 with ⟨_, e2⟩ | ⟨g, cap, cur, e1, _, _, hnc, _⟩
  · omega
  · simp only [Value.slice.injEq] at e1
    obtain ⟨_, _, rfl⟩ := e1
    exact hnc
theorem RefAt.plus {w5 W9 : World} {R2 : RefD} (hr : RefAt w5 R2) {i n9 : Nat} {key : List UInt8} {v9 : Value} (hi : i ≤ R2.fs.length) (hn : n9 = R2.fs.length + 1) (h9 : Wrk w5 W9 v9 n9 ((R2.fs.take i).flatMap RFile.cells ++ [encStr key, .bool false, .slice none 0 0] ++ (R2.fs.drop i).flatMap RFile.cells)) :
    W9.cell? ⟨R2.p, 2, none⟩ = some R2.fv ∧ W9.frozen? ⟨R2.p, 2, none⟩ = false ∧ RefAt (W9.setCell ⟨R2.p, 2, none⟩ v9) ((R2.addAt i key).fvd v9) ∧ Touch R2.foot w5 (W9.setCell ⟨R2.p, 2, none⟩ v9) ∧ ∀ b ∈ ((R2.addAt i key).fvd v9).foot, b ∈ R2.foot ∨ w5.heap.size ≤ b := by
  have hpl : R2.p < w5.heap.size := lt_of_block hr.row
  have r9 := (h9.low.block _ hpl).trans hr.row
  have t9 : Touch [R2.p] w5 (W9.setCell ⟨R2.p, 2, none⟩ v9) := (Touch.of_below h9.low (Nat.le_refl _)).setCell (.inl (by simp)) _
  have hne : ∀ g, v9.ownBlock = some g → (W9.setCell ⟨R2.p, 2, none⟩ v9).heap[g]? = W9.heap[g]? := fun g hg => Below.heap_setCell W9 _ _ _ (fun e => by have := (own_block h9.own hg).1; simp at e; omega)
  obtain ⟨d1, d2⟩ := hr.added (w' := W9.setCell ⟨R2.p, 2, none⟩ v9) (k := i) (key := key) (v := v9) (m := n9) (by rw [hn, List.length_append, List.length_cons, List.length_take, List.length_drop]; omega) (heap_setCell_row r9 2 _) (by
    rw [List.flatMap_append, List.flatMap_cons]
    have o9 := own_kept h9.own hne
    rw [List.append_assoc] at o9
    exact o9) (but_touch t9 hr.row)
  exact ⟨cell_row r9 2, unfrozen_row r9 2, d1, t9.mono (by simp [RefD.foot]), d2⟩
def RefD.createR (R : RefD) (key : List UInt8) : Int × RefD :=
  if R.on then (if nameB ⟨key.toArray⟩ then (if R.has key then (13, R) else
    if (R.befall false).2.1 then ((R.befall false).1, (R.befall false).2.2.addAt (findI R.names key) key) else ((R.befall false).1, (R.befall false).2.2)) else (11, R)) else (10, R)
set_option maxHeartbeats 4000000 in
theorem rCreate_any {w : World} {R : RefD} (h : RefAt w R) (key : List UInt8) (hk : key.length ≤ 1099511627776) (hn : R.fs.length ≤ 1048576) (hc : 0 ≤ R.c.calls ∧ R.c.calls ≤ 1099511627776) (hf : 0 ≤ R.c.faults ∧ R.c.faults ≤ 1099511627776) (hl : R.trs.length ≤ 1099511627776) :
    Calls Tryz.prog 78 #[.pointer (some ⟨R.p, 0, none⟩), encStr key] w fun e w' => e = .returned (.int .i64 (R.createR key).1) ∧ ∃ v, RefAt w' ((R.createR key).2.fvd v) ∧ Touch R.foot w w' ∧ ∀ b ∈ ((R.createR key).2.fvd v).foot, b ∈ R.foot ∨ w.heap.size ≤ b := by
  have HN := hid (named_any ⟨key.toArray⟩ (by simpa [ByteArray.size] using hk) w)
  have HF := hid (find_any h key (by omega))
  obtain ⟨p, hp⟩ : ∃ p, p = R.p := ⟨_, rfl⟩
  have c11 : w.cell? ⟨p, 11, none⟩ = some (.bool R.on) := by
    rw [hp, cell_row h.row]
    rfl
  rw [← hp] at HF ⊢
  cases ho : R.on with
  | false =>
    have HS : Hid (R.createR key = (10, R)) := by show _ = _; unfold RefD.createR; rw [ho]; rfl
    have HR := hid h
    rw [ho] at c11
    clear ho h hp
    go_enter Tryz.func78, Tryz.ntmps78
    go_wp2_with fail
    go_ret
    rw [HS.out]
    exact ⟨rfl, R.fv, HR.out, Touch.refl _ _, fun b hb => .inl hb⟩
  | true =>
    rw [ho] at c11
    cases hb : nameB ⟨key.toArray⟩ with
    | false =>
      have HS : Hid (R.createR key = (11, R)) := by show _ = _; unfold RefD.createR; rw [ho, hb]; rfl
      have HR := hid h
      rw [hb] at HN
      clear ho hb h hp
      go_enter Tryz.func78, Tryz.ntmps78
      go_wp2_with (go_at_call 60; refine HN.out.mono ?_; rintro e w1 ⟨rfl, rfl⟩)
      go_ret
      rw [HS.out]
      exact ⟨rfl, R.fv, HR.out, Touch.refl _ _, fun b hb => .inl hb⟩
    | true =>
      rw [hb] at HN
      cases hh : R.has key with
      | true =>
        have HS : Hid (R.createR key = (13, R)) := by show _ = _; unfold RefD.createR; rw [ho, hb, hh]; rfl
        have HR := hid h
        rw [hh] at HF
        clear ho hb hh h hp
        go_enter Tryz.func78, Tryz.ntmps78
        go_wp2_with (first
          | (go_at_call 60; refine HN.out.mono ?_; rintro e w1 ⟨rfl, rfl⟩)
          | (go_at_call 96; refine HF.out.mono ?_; rintro e w2 ⟨rfl, hq⟩; have HQ := hid hq; clear hq))
        go_ret
        rw [HS.out]
        exact ⟨rfl, R.fv, HR.out.below (quiet_below HQ.out), Touch.of_below (quiet_below HQ.out) (Nat.le_refl _), fun b hb => .inl hb⟩
      | false =>
        rw [hh] at HF
        obtain ⟨i, hi⟩ : ∃ i, i = findI R.names key := ⟨_, rfl⟩
        obtain ⟨n, hnn⟩ : ∃ n, n = R.fs.length := ⟨_, rfl⟩
        rw [← hi] at HF
        have hin : i ≤ n := by rw [hi, hnn]; have := findI_le R.names key; simpa [RefD.names] using this
        obtain ⟨t, ht⟩ : ∃ t, t = R.troub := ⟨_, rfl⟩
        obtain ⟨c, hcde⟩ : ∃ c, c = (R.befall false).1 := ⟨_, rfl⟩
        obtain ⟨d, hdn⟩ : ∃ d, d = (R.befall false).2.1 := ⟨_, rfl⟩
        obtain ⟨R2, hR2⟩ : ∃ R2, R2 = (R.befall false).2.2 := ⟨_, rfl⟩
        have hkp := R.called.met_keeps R.troub false
        have k1 : R2.fs = R.fs := by rw [hR2]; exact hkp.1
        have k2 : R2.fv = R.fv := by rw [hR2]; exact hkp.2.1
        have k3 : R2.p = R.p := by rw [hR2]; exact hkp.2.2.1
        have k4 : R2.foot = R.foot := by rw [hR2]; exact hkp.2.2.2.1
        have HS : Hid (R.createR key = if d then (c, R2.addAt i key) else (c, R2)) := by
          show _ = _
          unfold RefD.createR
          rw [ho, hb, hh]
          simp only [if_true, Bool.false_eq_true, if_false]
          rw [← hdn, ← hcde, ← hR2, ← hi]
        have C97 : Hid (∀ w2, Quiet w w2 → Calls Tryz.prog 97 #[.pointer (some ⟨p, 0, none⟩)] w2 fun e w' => e = .returned (.agg #[.int .i64 t.at_, .int .i64 t.kind, .int .i64 t.bytes]) ∧ RefAt w' R.called ∧ Touch [p] w2 w') := fun w2 hq => by
          have r := trouble_any (h.below (quiet_below hq)) hc hl
          rw [← ht, ← hp] at r
          exact r
        have C98 : Hid (∀ W4, RefAt W4 R.called → Calls Tryz.prog 98 #[.pointer (some ⟨p, 0, none⟩), .agg #[.int .i64 t.at_, .int .i64 t.kind, .int .i64 t.bytes], .bool false] W4 fun e w' => e = .returned (.tuple #[.int .i64 c, .bool d]) ∧ RefAt w' R2 ∧ Touch [p] W4 w') := fun W4 hr => by
          have r := met_any hr t false hf
          have e1 : R.called.met t false = R.befall false := by unfold RefD.befall; rw [ht]
          rw [e1, ← hcde, ← hdn, ← hR2] at r
          rw [hp]
          exact r
        have PF : Hid (p ∈ R.foot) := by rw [hp]; show _ ∈ _; simp [RefD.foot]
        have K4 := hid k4
        cases d with
        | false =>
          clear ho hb hh h hp hi hnn ht hcde hdn hR2 hkp k1 k2 k3 k4
          go_enter Tryz.func78, Tryz.ntmps78
          go_wp2_with (first
            | (have q := R3; clear q; go_at_call 98; refine (C98.out _ (R3.out.below ((Below.refl _ _).alloc (Nat.le_refl _) _))).mono ?_; rintro e w5 ⟨rfl, r5, t5⟩; have R5 := hid r5; have T5 := hid t5; clear r5 t5)
            | (have q := HQ; clear q; go_at_call 97; refine (C97.out _ HQ.out).mono ?_; rintro e w3 ⟨rfl, r3, t3⟩; have R3 := hid r3; have T3 := hid t3; clear r3 t3)
            | (go_at_call 60; refine HN.out.mono ?_; rintro e w1 ⟨rfl, rfl⟩)
            | (go_at_call 96; refine HF.out.mono ?_; rintro e w2 ⟨rfl, hq⟩; have HQ := hid hq; clear hq))
          go_ret
          rw [HS.out]
          refine ⟨rfl, R2.fv, R5.out, ?_, fun b hb => .inl (by have h9 := K4.out; rw [← h9]; exact hb)⟩
          exact (((Touch.of_below (F := R.foot) (quiet_below HQ.out) (Nat.le_refl _)).trans T3.out (fun b hb => by simp at hb; subst hb; exact .inl PF.out)).alloc _).trans T5.out (fun b hb => by simp at hb; subst hb; exact .inl PF.out)
        | true =>
          have K6 : Hid (∀ w5, RefAt w5 R2 → ∀ W, Below w5.heap.size w5 W → W.cell? ⟨p, 2, none⟩ = some R.fv ∧ ∀ G gc, R.fv = .slice (some ⟨G, 0, none⟩) n gc → ∀ (j : Nat) x, (R.fs.flatMap RFile.cells)[j]? = some x → W.cell? ⟨G, j, none⟩ = some x) := fun w5 hr W hb => by
            have hw := hr.below hb
            have q5 : W.cell? ⟨R2.p, 2, none⟩ = some R2.fv := cell_row hw.row 2
            refine ⟨by rw [hp, ← k3, q5, k2], fun G gc hv j x hj => ?_⟩
            have o9 := hw.own
            rw [k1] at o9
            obtain ⟨g', c', e', _, _, hc, _⟩ := own_cell o9 hj
            rw [k2, hv] at e'
            simp only [Value.slice.injEq, Option.some.injEq, Addr.mk.injEq] at e'
            obtain ⟨⟨rfl, _⟩, _⟩ := e'
            exact hc
          obtain ⟨A, hA⟩ : ∃ A, A = (R.fs.take i).flatMap RFile.cells := ⟨_, rfl⟩
          obtain ⟨D, hD⟩ : ∃ D, D = (R.fs.drop i).flatMap RFile.cells := ⟨_, rfl⟩
          have sA : R.fs.flatMap RFile.cells = A ++ D := by rw [hA, hD, ← List.flatMap_append, List.take_append_drop]
          have LA : Hid (A.length = i * 3) := by show _ = _; rw [hA, rflat_len, List.length_take, ← hnn]; omega
          have LD : Hid (D.length = (n - i) * 3) := by show _ = _; rw [hD, rflat_len, List.length_drop, ← hnn]
          have svo : ∀ e ∈ R.fs, e.sv.oneCell' = true := fun e he => by
            obtain ⟨k, hk⟩ := List.getElem?_of_mem he
            obtain ⟨sa, sc, hsv⟩ := sh_slice (h.f31.own k _ (by rw [List.getElem?_map, hk]; rfl) : w.ownsRow 0 31 1 e.sv e.file.blocks.length e.vs)
            rw [hsv]
            rfl
          have OA : Hid (∀ u ∈ A, u.oneCell' = true) := by show ∀ u ∈ A, _; rw [hA]; exact rflat_one _ fun e he => svo e (List.mem_of_mem_take he)
          have OD : Hid (∀ u ∈ D, u.oneCell' = true) := by show ∀ u ∈ D, _; rw [hD]; exact rflat_one _ fun e he => svo e (List.mem_of_mem_drop he)
          have PA : Hid (∀ (j : Nat) x, A[j]? = some x → (R.fs.flatMap RFile.cells)[j]? = some x) := fun j x hx => by rw [sA, List.getElem?_append_left (List.getElem?_eq_some_iff.1 hx).1]; exact hx
          have PD : Hid (∀ (j : Nat) x, D[j]? = some x → (R.fs.flatMap RFile.cells)[i * 3 + j]? = some x) := fun j x hx => by
            rw [sA, List.getElem?_append_right (by rw [LA.out]; omega), LA.out]
            have e1 : i * 3 + j - i * 3 = j := by omega
            rw [e1]
            exact hx
          have K9 : Hid (∀ w5, RefAt w5 R2 → ∀ W9 v9 n9, n9 = n + 1 → Wrk w5 W9 v9 n9 (A ++ [encStr key, .bool false, .slice none 0 0] ++ D) → W9.cell? ⟨p, 2, none⟩ = some R.fv ∧ W9.frozen? ⟨p, 2, none⟩ = false ∧ RefAt (W9.setCell ⟨p, 2, none⟩ v9) ((R2.addAt i key).fvd v9) ∧ Touch R2.foot w5 (W9.setCell ⟨p, 2, none⟩ v9) ∧ ∀ b ∈ ((R2.addAt i key).fvd v9).foot, b ∈ R2.foot ∨ w5.heap.size ≤ b) := fun w5 hr W9 v9 n9 h1 h2 => by
            have r := hr.plus (i := i) (n9 := n9) (key := key) (v9 := v9) (W9 := W9) (by rw [k1, ← hnn]; exact hin) (by rw [k1, ← hnn]; exact h1) (by rw [k1, ← hA, ← hD]; exact h2)
            rw [k3, ← hp, k2] at r
            exact r
          rw [← hnn] at hn
          have hown := h.own.2
          rw [← hnn] at hown
          clear ho hb hh h hp hi hnn ht hcde hdn hR2 hkp k1 k2 k3 k4 hA hD sA svo
          have i0 : (0 : Int) ≤ (i : Int) := by omega
          have i1 : (i : Int) ≤ (n : Int) := by omega
          rcases hown with ⟨hfv, hn0⟩ | ⟨G, gc, cur, hfv, _, _, hnc, _⟩
          · subst hn0
            obtain rfl : i = 0 := by omega
            rw [hfv] at K6 K9
            have A0 : A = [] := List.eq_nil_of_length_eq_zero (by rw [LA.out])
            have D0 : D = [] := List.eq_nil_of_length_eq_zero (by rw [LD.out])
            clear hfv LA LD OA OD PA PD
            subst A0 D0
            go_enter Tryz.func78, Tryz.ntmps78
            go_wp2_with (first
            | (have q := X8; clear q; at_builtin; refine wpl_none rfl _ _ 45 rfl 71 _ 3 48 Tryz.underlying45 inf71 s8 (0 + 1) c8 0 rfl rfl (own_cap X8.out.own) ?_; obtain ⟨k92, k93, k94⟩ := K9.out w5 R5.out W8 _ _ rfl X8.out; have K94 := hid k94; clear k94)
            | (have q := Y7; clear q; at_builtin; refine wpl_one rfl _ _ 45 rfl w5.heap.size 71 _ 3 48 Tryz.underlying45 inf71 rfl (by decide) (.slice none 0 0) 0 [] rfl (World.ownsRow_nil _ _ _ _) [encStr key, .bool false, .slice none 0 0] 71 _ rfl rfl rfl (fun u hu => by simp at hu; rcases hu with rfl | rfl | rfl <;> rfl) (by omega) (by omega) (Nat.le_refl _) ?_; intro v8 W8 o8 f8; obtain ⟨s8, c8, rfl⟩ := sh_slice o8; have X8 : Hid (Wrk w5 W8 (.slice s8 (0 + 1) c8) (0 + 1) ([] ++ [encStr key, .bool false, .slice none 0 0] ++ [])) := Wrk.next (Wrk.alloc ⟨World.ownsRow_nil _ _ _ _, Below.refl _ _⟩ _) (by rw [List.append_nil]; exact o8) f8; obtain ⟨k82, _⟩ := K6.out w5 R5.out W8 X8.out.low; clear o8 f8)
            | (have q := R5; clear q; at_builtin; refine wpl_none rfl _ _ 45 rfl 71 _ 3 48 Tryz.underlying45 inf71 none 0 0 0 rfl rfl (Nat.le_refl _) ?_; have Y7 : Hid True := trivial)
            | (have q := R3; clear q; go_at_call 98; refine (C98.out _ (R3.out.below ((Below.refl _ _).alloc (Nat.le_refl _) _))).mono ?_; rintro e w5 ⟨rfl, r5, t5⟩; obtain ⟨m0, m1⟩ := K6.out _ r5 _ (Below.refl _ _); have R5 := hid r5; have T5 := hid t5; have M1 := hid m1; clear r5 t5 m1)
            | (have q := HQ; clear q; go_at_call 97; refine (C97.out _ HQ.out).mono ?_; rintro e w3 ⟨rfl, r3, t3⟩; have R3 := hid r3; have T3 := hid t3; clear r3 t3)
            | (go_at_call 60; refine HN.out.mono ?_; rintro e w1 ⟨rfl, rfl⟩)
            | (go_at_call 96; refine HF.out.mono ?_; rintro e w2 ⟨rfl, hq⟩; have HQ := hid hq; clear hq))
            go_ret
            rw [HS.out]
            have tt : Touch R.foot w1 w5 := (((Touch.of_below (F := R.foot) (quiet_below HQ.out) (Nat.le_refl _)).trans T3.out (fun b hb => by simp at hb; subst hb; exact .inl PF.out)).alloc _).trans T5.out (fun b hb => by simp at hb; subst hb; exact .inl PF.out)
            refine ⟨rfl, _, K94.out.1, tt.trans K94.out.2.1 (fun b hb => .inl (by have h9 := K4.out; rw [← h9]; exact hb)), fun b hb => ?_⟩
            rcases K94.out.2.2 b hb with h9 | h9
            · exact .inl (by have h8 := K4.out; rw [← h8]; exact h9)
            · exact .inr (Nat.le_trans tt.size h9)
          · have i3 : (i : Int) ≤ (gc : Int) := by omega
            have HV := hid hfv
            rw [hfv] at K6 K9
            clear hfv
            obtain ⟨o, HIF⟩ : ∃ o, Hid (((if gc = i then some (⟨G, 0, none⟩ : Addr) else some ⟨G, i * 3, none⟩) = some ⟨G, o, none⟩) ∧ ∀ W7 : World, (∀ (j : Nat) x, (R.fs.flatMap RFile.cells)[j]? = some x → W7.cell? ⟨G, j, none⟩ = some x) → ∀ (j : Nat) x, D[j]? = some x → W7.cell? ((⟨G, o, none⟩ : Addr).add j) = some x) := by
              by_cases hgi : gc = i
              · refine ⟨0, ?_, fun W7 _ j x hx => ?_⟩
                · rw [if_pos hgi]
                · have := (List.getElem?_eq_some_iff.1 hx).1
                  rw [LD.out] at this
                  omega
              · refine ⟨i * 3, ?_, fun W7 hG j x hx => ?_⟩
                · rw [if_neg hgi]
                · rw [add_none_addr]
                  exact hG _ x (PD.out j x hx)
            go_enter Tryz.func78, Tryz.ntmps78
            go_wp2_with (first
            | (have q := X8; clear q; at_builtin; refine wpl_far rfl _ _ 45 rfl w5.heap.size 71 _ 3 48 Tryz.underlying45 inf71 rfl (by decide) (.slice s8 (i + 1) c8) (i + 1) (A ++ [encStr key, .bool false, .slice none 0 0]) rfl X8.out.own ⟨G, o, none⟩ (n - i) (gc - i) D (by show Value.slice (if gc = i then some (⟨G, 0, none⟩ : Addr) else some ⟨G, i * 3, none⟩) (n - i) (gc - i) = _; rw [HIF.out.1]) LD.out (fun j x hx => HIF.out.2 W8 (M8.out G gc rfl) j x hx) OD.out (by omega) (by omega) X8.out.low.size ?_; intro v9 W9 o9 f9; obtain ⟨s9, c9, rfl⟩ := sh_slice o9; obtain ⟨k92, k93, k94⟩ := K9.out w5 R5.out W9 _ _ (by omega) (X8.out.next o9 f9); have K94 := hid k94; clear o9 f9 k94)
            | (have q := X7; clear q; at_builtin; refine wpl_one rfl _ _ 45 rfl w5.heap.size 71 _ 3 48 Tryz.underlying45 inf71 rfl (by decide) (.slice s7 i c7) i A rfl X7.out.own [encStr key, .bool false, .slice none 0 0] 71 _ rfl rfl rfl (fun u hu => by simp at hu; rcases hu with rfl | rfl | rfl <;> rfl) (by omega) (by omega) X7.out.low.size ?_; intro v8 W8 o8 f8; obtain ⟨s8, c8, rfl⟩ := sh_slice o8; have X8 := hid ((X7.out.alloc _).next o8 f8); obtain ⟨k82, k83⟩ := K6.out w5 R5.out W8 X8.out.low; have M8 := hid k83; clear o8 f8 k83)
            | (have q := R5; clear q; at_builtin; refine wpl_far rfl _ _ 45 rfl w5.heap.size 71 _ 3 48 Tryz.underlying45 inf71 rfl (by decide) (.slice none 0 0) 0 [] rfl (World.ownsRow_nil _ _ _ _) ⟨G, 0, none⟩ i gc A rfl LA.out (fun j x hx => by rw [add_zero_addr]; exact M1.out G gc rfl j x (PA.out j x hx)) OA.out (by omega) (by omega) (Nat.le_refl _) ?_; intro v7 W7 o7 f7; rw [Nat.zero_add, List.nil_append] at o7; obtain ⟨s7, c7, rfl⟩ := sh_slice o7; have X7 : Hid (Wrk w5 W7 (.slice s7 i c7) i A) := Wrk.next ⟨World.ownsRow_nil _ _ _ _, Below.refl _ _⟩ o7 f7; clear o7 f7)
            | (have q := R3; clear q; go_at_call 98; refine (C98.out _ (R3.out.below ((Below.refl _ _).alloc (Nat.le_refl _) _))).mono ?_; rintro e w5 ⟨rfl, r5, t5⟩; obtain ⟨m0, m1⟩ := K6.out _ r5 _ (Below.refl _ _); have R5 := hid r5; have T5 := hid t5; have M1 := hid m1; clear r5 t5 m1)
            | (have q := HQ; clear q; go_at_call 97; refine (C97.out _ HQ.out).mono ?_; rintro e w3 ⟨rfl, r3, t3⟩; have R3 := hid r3; have T3 := hid t3; clear r3 t3)
            | (go_at_call 60; refine HN.out.mono ?_; rintro e w1 ⟨rfl, rfl⟩)
            | (go_at_call 96; refine HF.out.mono ?_; rintro e w2 ⟨rfl, hq⟩; have HQ := hid hq; clear hq))
            all_goals
              go_ret
              rw [HS.out]
              have tt : Touch R.foot w1 w5 := (((Touch.of_below (F := R.foot) (quiet_below HQ.out) (Nat.le_refl _)).trans T3.out (fun b hb => by simp at hb; subst hb; exact .inl PF.out)).alloc _).trans T5.out (fun b hb => by simp at hb; subst hb; exact .inl PF.out)
              refine ⟨rfl, _, K94.out.1, tt.trans K94.out.2.1 (fun b hb => .inl (by have h9 := K4.out; rw [← h9]; exact hb)), fun b hb => ?_⟩
              rcases K94.out.2.2 b hb with h9 | h9
              · exact .inl (by have h8 := K4.out; rw [← h8]; exact h9)
              · exact .inr (Nat.le_trans tt.size h9)
end Go.Proofs.YtcpncfngadablaaGreatDoor
/-
  The document's disk: Read.
-/
namespace Go.Proofs.YtcpncfngadablaaGreatDoor
open Go.RowKit Go.Deep ShfKit
set_option maxRecDepth 100000
theorem own_at {W : World} {B e size n : Nat} {v : Value} {xs : List Value} (h : W.ownsRow B e size v n xs) (hx : 0 < xs.length) : ∃ g c, v = .slice (some ⟨g, 0, none⟩) n c ∧ g < W.heap.size ∧ ∀ (j : Nat) u, xs[j]? = some u → W.cell? ⟨g, j, none⟩ = some u := by
  obtain ⟨g, c, hv, _, hg, _, _⟩ := own_cell h (j := 0) (x := xs[0]) (List.getElem?_eq_getElem hx)
  refine ⟨g, c, hv, hg, fun j u hj => ?_⟩
  obtain ⟨g', c', e', _, _, hc, _⟩ := own_cell h hj
  rw [hv] at e'
  simp only [Value.slice.injEq, Option.some.injEq, Addr.mk.injEq] at e'
  obtain ⟨⟨rfl, _⟩, _⟩ := e'
  exact hc
/-- a block of a file. -/
theorem RefAt.block {w : World} {R : RefD} (h : RefAt w R) {k j : Nat} {e : RFile} {bl : List UInt8} (he : R.fs[k]? = some e) (hb : e.file.blocks[j]? = some bl) :
    ∃ v, e.vs[j]? = some v ∧ w.ownsRow 0 5 1 v R.B (Lib.byteCells bl) ∧ bl.length = R.B ∧ ∃ G c, e.sv = .slice (some ⟨G, 0, none⟩) e.file.blocks.length c ∧ w.cell? ⟨G, j, none⟩ = some v ∧ G ≠ R.p := by
  have hj := (List.getElem?_eq_some_iff.1 hb).1
  have hlen := h.len e (List.mem_of_getElem? he)
  obtain ⟨v, hv⟩ : ∃ v, e.vs[j]? = some v := ⟨_, List.getElem?_eq_getElem (by omega)⟩
  have hz : (e.vs.zip e.file.blocks)[j]? = some (v, bl) := List.getElem?_zip_eq_some.2 ⟨hv, hb⟩
  have hm : (v, R.B, Lib.byteCells bl) ∈ R.fs.flatMap (RFile.r5 R.B) := List.mem_flatMap.2 ⟨e, List.mem_of_getElem? he, List.mem_map.2 ⟨(v, bl), List.mem_of_getElem? hz, rfl⟩⟩
  have ho : w.ownsRow 0 5 1 v R.B (Lib.byteCells bl) := (fam_iff.1 h.f5).1 _ hm
  have h31 : w.ownsRow 0 31 1 e.sv e.file.blocks.length e.vs := h.f31.own k _ (by rw [List.getElem?_map, he]; rfl)
  obtain ⟨G, c, hs, hG, hc⟩ := own_at h31 (by omega)
  refine ⟨v, hv, ho, by have := ho.1; rw [Lib.byteCells_length] at this; omega, G, c, hs, hc j v hv, fun e1 => ?_⟩
  have r1 := h.row
  rw [← e1] at r1
  obtain ⟨c1, z1, r2⟩ := Lib.ownsRow_kind h31 G (by rw [hs]; rfl)
  rw [r2] at r1
  simp only [Option.some.injEq, Obj.cells.injEq] at r1
  exact absurd r1.2.1 (by decide)
def RefD.readD (R : RefD) : RefD := { R with c := { R.c with reads := R.c.reads + 1 } }
def RefD.readR (R : RefD) (key : List UInt8) (i : Int) : Int × Option (List UInt8) × RefD :=
  if (R.known key).2 = 0 then
    match R.fs[findI R.names key]? with
    | none => (0, none, R)
    | some e => if e.file.shut then
        (if i < 0 ∨ (e.file.blocks.length : Int) ≤ i then (16, none, R) else
          if (R.befall false).1 = 0 then (0, e.file.blocks[i.toNat]?, (R.befall false).2.2.readD) else ((R.befall false).1, none, (R.befall false).2.2))
      else (15, none, R)
  else ((R.known key).2, none, R)
/-- what Read hands out. -/
def Handed (w w' : World) (B : Nat) (v : Value) : Option (List UInt8) → Prop
  | none => v = .slice none 0 0
  | some d => w'.ownsRow w.heap.size 5 1 v B (Lib.byteCells d) ∧ d.length = B
set_option maxHeartbeats 4000000 in
theorem rRead_any {w : World} {R : RefD} (h : RefAt w R) (key : List UInt8) (ix : Int) (hk : key.length ≤ 1099511627776) (hn : R.fs.length ≤ 1099511627776) (hc : 0 ≤ R.c.calls ∧ R.c.calls ≤ 1099511627776) (hf : 0 ≤ R.c.faults ∧ R.c.faults ≤ 1099511627776) (hl : R.trs.length ≤ 1099511627776) (hrd : 0 ≤ R.c.reads ∧ R.c.reads ≤ 1099511627776) (hB : 0 < R.B) (hB2 : R.B ≤ 65536) :
    Calls Tryz.prog 81 #[.pointer (some ⟨R.p, 0, none⟩), encStr key, .int .i64 ix] w fun e w' => ∃ v, e = .returned (.tuple #[v, .int .i64 (R.readR key ix).1]) ∧ Handed w w' R.B v (R.readR key ix).2.1 ∧ RefAt w' (R.readR key ix).2.2 ∧ Touch [R.p] w w' ∧ (R.readR key ix).2.2.foot = R.foot := by
  have HK := hid (known_any h key hk hn)
  obtain ⟨p, hp⟩ : ∃ p, p = R.p := ⟨_, rfl⟩
  rw [← hp] at HK ⊢
  by_cases hcd : (R.known key).2 = 0
  · obtain ⟨h1, _, _, e0, he0, _⟩ := R.known_at hcd
    rw [h1, hcd] at HK
    obtain ⟨G, gc, hfv, hG, _, c1, c2, _⟩ := h.file he0
    obtain ⟨i, hi⟩ : ∃ i, i = findI R.names key := ⟨_, rfl⟩
    obtain ⟨n, hnn⟩ : ∃ n, n = R.fs.length := ⟨_, rfl⟩
    rw [← hi] at HK he0 c1 c2
    have hin : i < n := by rw [hnn]; exact (List.getElem?_eq_some_iff.1 he0).1
    have hlt1 : (i : Int) < (n : Int) := by omega
    have i0 : (0 : Int) ≤ (i : Int) := by omega
    have hpl : p < w.heap.size := by rw [hp]; exact lt_of_block h.row
    have p2 : w.cell? ⟨p, 2, none⟩ = some (.slice (some ⟨G, 0, none⟩) n gc) := by
      rw [hp, cell_row h.row]
      show some R.fv = _
      rw [hfv, hnn]
    obtain ⟨m, hm⟩ : ∃ m, m = e0.file.blocks.length := ⟨_, rfl⟩
    obtain ⟨sa, sc, hsv⟩ := sh_slice (h.f31.own i _ (by rw [List.getElem?_map, he0]; rfl) : w.ownsRow 0 31 1 e0.sv e0.file.blocks.length e0.vs)
    rw [hsv, ← hm] at c2
    have upq : Hid (∀ w2, Quiet w w2 → w2.cell? ⟨p, 2, none⟩ = some (.slice (some ⟨G, 0, none⟩) n gc) ∧ w2.cell? ⟨G, i * 3 + 1, none⟩ = some (.bool e0.file.shut) ∧ w2.cell? ⟨G, i * 3 + 2, none⟩ = some (.slice sa m sc)) := fun w2 hq => by
      have hb := quiet_below hq
      exact ⟨(hb.cell (p := ⟨p, 2, none⟩) hpl).trans p2, (hb.cell (p := ⟨G, i * 3 + 1, none⟩) hG).trans c1, (hb.cell (p := ⟨G, i * 3 + 2, none⟩) hG).trans c2⟩
    cases hsh : e0.file.shut with
    | false =>
      have HS : Hid (R.readR key ix = (15, none, R)) := by show _ = _; unfold RefD.readR; rw [if_pos hcd, ← hi, he0]; simp [hsh]
      have HR := hid h
      rw [hsh] at upq
      clear h hp h1 he0 hfv hcd hi hnn p2 c1 c2 hsh hm hsv
      go_enter Tryz.func81, Tryz.ntmps81
      go_wp2_with (go_at_call 99; refine HK.out.mono ?_; rintro e w2 ⟨rfl, hq⟩; obtain ⟨d0, d1, d2⟩ := upq.out _ hq; have HQ := hid hq; clear hq)
      refine bodyPost_ret (v := .tuple #[.slice none 0 0, .int .i64 15]) (by simp [results, Tryz.results81, go_sem]) rfl ?_
      rw [HS.out]
      exact ⟨_, rfl, rfl, HR.out.below (quiet_below HQ.out), Touch.of_below (quiet_below HQ.out) (Nat.le_refl _), rfl⟩
    | true =>
      rw [hsh] at upq
      by_cases hix : ix < 0 ∨ (m : Int) ≤ ix
      · have HS : Hid (R.readR key ix = (16, none, R)) := by
          show _ = _
          unfold RefD.readR
          rw [if_pos hcd, ← hi, he0]
          simp only [hsh, if_true]
          rw [← hm, if_pos hix]
        have HR := hid h
        have hx2 : ix < 0 ∨ (¬ ix < 0 ∧ (m : Int) ≤ ix) := by omega
        clear h hp h1 he0 hfv hcd hi hnn p2 c1 c2 hsh hm hsv hix
        rcases hx2 with hx3 | ⟨hx3, hx4⟩
        · go_enter Tryz.func81, Tryz.ntmps81
          go_wp2_with (go_at_call 99; refine HK.out.mono ?_; rintro e w2 ⟨rfl, hq⟩; obtain ⟨d0, d1, d2⟩ := upq.out _ hq; have HQ := hid hq; clear hq)
          refine bodyPost_ret (v := .tuple #[.slice none 0 0, .int .i64 16]) (by simp [results, Tryz.results81, go_sem]) rfl ?_
          rw [HS.out]
          exact ⟨_, rfl, rfl, HR.out.below (quiet_below HQ.out), Touch.of_below (quiet_below HQ.out) (Nat.le_refl _), rfl⟩
        · go_enter Tryz.func81, Tryz.ntmps81
          go_wp2_with (go_at_call 99; refine HK.out.mono ?_; rintro e w2 ⟨rfl, hq⟩; obtain ⟨d0, d1, d2⟩ := upq.out _ hq; have HQ := hid hq; clear hq)
          refine bodyPost_ret (v := .tuple #[.slice none 0 0, .int .i64 16]) (by simp [results, Tryz.results81, go_sem]) rfl ?_
          rw [HS.out]
          exact ⟨_, rfl, rfl, HR.out.below (quiet_below HQ.out), Touch.of_below (quiet_below HQ.out) (Nat.le_refl _), rfl⟩
      · obtain ⟨j, rfl⟩ : ∃ j : Nat, ix = (j : Int) := ⟨ix.toNat, by omega⟩
        have hjm : j < m := by omega
        have hx1 : ¬ (j : Int) < 0 := by omega
        have hx2 : ¬ (m : Int) ≤ (j : Int) := by omega
        have hx3 : (0 : Int) ≤ (j : Int) := by omega
        have hx4 : (j : Int) < (m : Int) := by omega
        obtain ⟨bl, hbl⟩ : ∃ bl, e0.file.blocks[j]? = some bl := ⟨_, List.getElem?_eq_getElem (by rw [← hm]; exact hjm)⟩
        obtain ⟨v, hv, ho, hbB, Gs, sc', hs', hcv, hne⟩ := h.block he0 hbl
        rw [hsv] at hs'
        simp only [Value.slice.injEq, true_and] at hs'
        obtain ⟨rfl, rfl⟩ := hs'
        obtain ⟨g, bc, hvs, _, _⟩ := own_at ho (by rw [Lib.byteCells_length, hbB]; exact hB)
        obtain ⟨t, ht⟩ : ∃ t, t = R.troub := ⟨_, rfl⟩
        obtain ⟨c, hcde⟩ : ∃ c, c = (R.befall false).1 := ⟨_, rfl⟩
        obtain ⟨d, hdn⟩ : ∃ d, d = (R.befall false).2.1 := ⟨_, rfl⟩
        obtain ⟨R2, hR2⟩ : ∃ R2, R2 = (R.befall false).2.2 := ⟨_, rfl⟩
        have hkp := R.called.met_keeps R.troub false
        have k1 : R2.fs = R.fs := by rw [hR2]; exact hkp.1
        have k2 : R2.fv = R.fv := by rw [hR2]; exact hkp.2.1
        have k3 : R2.p = R.p := by rw [hR2]; exact hkp.2.2.1
        have k4 : R2.foot = R.foot := by rw [hR2]; exact hkp.2.2.2.1
        have k6 : R2.B = R.B := by rw [hR2]; exact hkp.2.2.2.2
        have k5 : R2.c.reads = R.c.reads := by
          rw [hR2]
          unfold RefD.befall RefD.met
          (repeat' split) <;> rfl
        have HS : Hid (R.readR key (j : Int) = if c = 0 then (0, some bl, R2.readD) else (c, none, R2)) := by
          show _ = _
          unfold RefD.readR
          rw [if_pos hcd, ← hi, he0]
          simp only [hsh, if_true]
          rw [← hm, if_neg hix, ← hcde, ← hR2, Int.toNat_natCast, hbl]
        have C97 : Hid (∀ w2, Quiet w w2 → Calls Tryz.prog 97 #[.pointer (some ⟨p, 0, none⟩)] w2 fun e w' => e = .returned (.agg #[.int .i64 t.at_, .int .i64 t.kind, .int .i64 t.bytes]) ∧ RefAt w' R.called ∧ Touch [p] w2 w') := fun w2 hq => by
          have r := trouble_any (h.below (quiet_below hq)) hc hl
          rw [← ht, ← hp] at r
          exact r
        have C98 : Hid (∀ W4, RefAt W4 R.called → Calls Tryz.prog 98 #[.pointer (some ⟨p, 0, none⟩), .agg #[.int .i64 t.at_, .int .i64 t.kind, .int .i64 t.bytes], .bool false] W4 fun e w' => e = .returned (.tuple #[.int .i64 c, .bool d]) ∧ RefAt w' R2 ∧ Touch [p] W4 w') := fun W4 hr => by
          have r := met_any hr t false hf
          have e1 : R.called.met t false = R.befall false := by unfold RefD.befall; rw [ht]
          rw [e1, ← hcde, ← hdn, ← hR2] at r
          rw [hp]
          exact r
        obtain ⟨u, huu⟩ : ∃ u, u = R.c.reads := ⟨_, rfl⟩
        obtain ⟨B, hBB⟩ : ∃ B, B = R.B := ⟨_, rfl⟩
        rw [← huu] at hrd
        rw [← hBB] at hB hB2 hbB hvs ⊢
        have V1 : IntKind.i64.wrap (u + 1) = u + 1 := by rw [IntKind.wrap_i64]; omega
        have K5 : Hid (∀ w5, RefAt w5 R2 → (w5.cell? ⟨p, 2, none⟩ = some (.slice (some ⟨G, 0, none⟩) n gc) ∧ w5.cell? ⟨G, i * 3 + 2, none⟩ = some (.slice (some ⟨Gs, 0, none⟩) m sc) ∧ w5.cell? ⟨Gs, j, none⟩ = some (.slice (some ⟨g, 0, none⟩) B bc) ∧ w5.cell? ⟨p, 5, none⟩ = some (.int .i64 u) ∧ w5.frozen? ⟨p, 5, none⟩ = false ∧ G ≠ p ∧ Gs ≠ p) ∧ RefAt (w5.setCell ⟨p, 5, none⟩ (.int .i64 (u + 1))) R2.readD ∧ ∀ (q : Nat) x, (Lib.byteCells bl)[q]? = some x → (w5.setCell ⟨p, 5, none⟩ (.int .i64 (u + 1))).cell? ⟨g, q, none⟩ = some x) := fun w5 hr => by
          have he2 : R2.fs[i]? = some e0 := by rw [k1]; exact he0
          have hv2 : R2.fv = .slice (some ⟨G, 0, none⟩) R2.fs.length gc := by rw [k2, k1]; exact hfv
          obtain ⟨G', gc', hv', _, _, _, q2, _⟩ := hr.file he2
          rw [hv2] at hv'
          simp only [Value.slice.injEq, Option.some.injEq, Addr.mk.injEq] at hv'
          obtain ⟨⟨rfl, -⟩, -, -⟩ := hv'
          have q5 : w5.cell? ⟨R2.p, 2, none⟩ = some R2.fv := cell_row hr.row 2
          have q6 : w5.cell? ⟨R2.p, 5, none⟩ = some (.int .i64 R2.c.reads) := cell_row hr.row 5
          have blk : ∀ (W : World) (R9 : RefD), RefAt W R9 → R9.fs = R2.fs → R9.B = R2.B → R9.p = R2.p → W.cell? ⟨Gs, j, none⟩ = some (.slice (some ⟨g, 0, none⟩) B bc) ∧ Gs ≠ p ∧ ∀ (q : Nat) x, (Lib.byteCells bl)[q]? = some x → W.cell? ⟨g, q, none⟩ = some x := fun W R9 h9 e1 e2 e3 => by
            obtain ⟨v', hv', ho', _, Gs', sc', hs', hcv', hne'⟩ := h9.block (by rw [e1]; exact he2 : R9.fs[i]? = some e0) hbl
            rw [hv] at hv'
            obtain rfl := Option.some.inj hv'
            rw [hsv] at hs'
            simp only [Value.slice.injEq, Option.some.injEq, Addr.mk.injEq] at hs'
            obtain ⟨⟨rfl, _⟩, _⟩ := hs'
            obtain ⟨g', bc', hvs', _, hcs⟩ := own_at ho' (by rw [Lib.byteCells_length, hbB]; exact hB)
            rw [hvs] at hvs' hcv'
            simp only [Value.slice.injEq, Option.some.injEq, Addr.mk.injEq] at hvs'
            obtain ⟨⟨rfl, _⟩, _⟩ := hvs'
            exact ⟨hcv', by rw [hp, ← k3, ← e3]; exact hne', hcs⟩
          have h6 : RefAt (w5.setCell ⟨p, 5, none⟩ (.int .i64 (u + 1))) R2.readD := by
            rw [hp, ← k3, huu, ← k5]
            exact hr.reset rfl rfl rfl rfl rfl rfl (heap_setCell_row hr.row 5 _) (But.setCell hr.row _)
          obtain ⟨b1, b2, _⟩ := blk w5 R2 hr rfl rfl rfl
          refine ⟨⟨by rw [hp, ← k3, q5, hv2, k1, hnn], by rw [q2, hsv, hm], b1, by rw [hp, ← k3, q6, k5, huu], by rw [hp, ← k3]; exact unfrozen_row hr.row 5, fun e => ?_, b2⟩, h6, (blk _ R2.readD h6 rfl rfl rfl).2.2⟩
          rw [hp, ← k3] at e
          have r1 := hr.row
          rw [← e] at r1
          obtain ⟨c1, z1, r2⟩ := Lib.ownsRow_kind hr.own G (by rw [hv2]; rfl)
          rw [r2] at r1
          simp only [Option.some.injEq, Obj.cells.injEq] at r1
          exact absurd r1.2.1 (by decide)
        have K4 := hid k4
        have HBB := hid hbB
        clear h hp h1 he0 hfv hcd hi hnn p2 c1 c2 hsh hm hsv hix hbl hv ho hcv hne hvs ht hcde hdn hR2 hkp k1 k2 k3 k4 k5 k6 huu hBB hbB
        by_cases hc0 : c = 0
        · subst hc0
          go_enter Tryz.func81, Tryz.ntmps81
          go_wp2_with (first
          | (have q := R5; clear q; at_builtin; refine wpl_far rfl _ _ 31 rfl (w5.setCell ⟨p, 5, none⟩ (.int .i64 (u + 1))).heap.size 5 _ 1 1 Tryz.underlying31 info5 rfl (by decide) (.slice none 0 0) 0 [] rfl (World.ownsRow_nil _ _ _ _) ⟨g, 0, none⟩ B bc (Lib.byteCells bl) rfl (by rw [Lib.byteCells_length, HBB.out, Nat.mul_one]) (fun q x hx => by rw [add_zero_addr]; exact M8.out.2 q x hx) (fun u hu => by simp only [Lib.byteCells, List.mem_map] at hu; obtain ⟨c, _, rfl⟩ := hu; rfl) (by omega) (by omega) (Nat.le_refl _) ?_; intro v7 W7 o7 f7; rw [Nat.zero_add, List.nil_append] at o7; have O7 := hid o7; have F7 := hid f7; clear o7 f7)
          | (have q := R3; clear q; go_at_call 98; refine (C98.out _ (R3.out.below ((Below.refl _ _).alloc (Nat.le_refl _) _))).mono ?_; rintro e w5 ⟨rfl, r5, t5⟩; obtain ⟨⟨m0, m1, m2, m3, m4, m5, m6⟩, m8⟩ := K5.out _ r5; have M8 := hid m8; clear m8; have R5 := hid r5; have T5 := hid t5; clear r5 t5)
          | (have q := HQ; clear q; go_at_call 97; refine (C97.out _ HQ.out).mono ?_; rintro e w3 ⟨rfl, r3, t3⟩; have R3 := hid r3; have T3 := hid t3; clear r3 t3)
          | (go_at_call 99; refine HK.out.mono ?_; rintro e w2 ⟨rfl, hq⟩; obtain ⟨d0, d1, d2⟩ := upq.out _ hq; have HQ := hid hq; clear hq))
          refine bodyPost_ret (v := .tuple #[v7, .int .i64 0]) (by simp [results, Tryz.results81, go_sem]) rfl ?_
          rw [HS.out]
          have tt : Touch [p] w w5 := (((Touch.of_below (F := [p]) (quiet_below HQ.out) (Nat.le_refl _)).trans T3.out (fun b hb => .inl hb)).alloc _).trans T5.out (fun b hb => .inl hb)
          have g7 : (w5.setCell ⟨p, 5, none⟩ (.int .i64 (u + 1))).grownBy W7 none := by rcases F7.out with ⟨_, h1⟩ | ⟨_, h1⟩ <;> exact h1
          have b7 : Below (w5.setCell ⟨p, 5, none⟩ (.int .i64 (u + 1))).heap.size (w5.setCell ⟨p, 5, none⟩ (.int .i64 (u + 1))) W7 := ⟨g7.os, g7.tape, g7.output, g7.size, fun b hb => g7.block b hb (by simp)⟩
          have t6 : Touch [p] w (w5.setCell ⟨p, 5, none⟩ (.int .i64 (u + 1))) := tt.setCell (.inl (by simp)) _
          exact ⟨_, rfl, ⟨own_base O7.out t6.size, HBB.out⟩, M8.out.1.below b7, t6.trans (Touch.of_below (F := []) b7 (Nat.le_refl _)) (by simp), K4.out⟩
        · go_enter Tryz.func81, Tryz.ntmps81
          go_wp2_with (first
          | (have q := R3; clear q; go_at_call 98; refine (C98.out _ (R3.out.below ((Below.refl _ _).alloc (Nat.le_refl _) _))).mono ?_; rintro e w5 ⟨rfl, r5, t5⟩; have R5 := hid r5; have T5 := hid t5; clear r5 t5)
          | (have q := HQ; clear q; go_at_call 97; refine (C97.out _ HQ.out).mono ?_; rintro e w3 ⟨rfl, r3, t3⟩; have R3 := hid r3; have T3 := hid t3; clear r3 t3)
          | (go_at_call 99; refine HK.out.mono ?_; rintro e w2 ⟨rfl, hq⟩; obtain ⟨d0, d1, d2⟩ := upq.out _ hq; have HQ := hid hq; clear hq))
          refine bodyPost_ret (v := .tuple #[.slice none 0 0, .int .i64 c]) (by simp [results, Tryz.results81, go_sem]) rfl ?_
          rw [HS.out, if_neg hc0]
          have tt : Touch [p] w w5 := (((Touch.of_below (F := [p]) (quiet_below HQ.out) (Nat.le_refl _)).trans T3.out (fun b hb => .inl hb)).alloc _).trans T5.out (fun b hb => .inl hb)
          exact ⟨_, rfl, rfl, R5.out, tt, K4.out⟩
  · obtain ⟨c, hcc⟩ : ∃ c, c = (R.known key).2 := ⟨_, rfl⟩
    have HS : Hid (R.readR key ix = (c, none, R)) := by show _ = _; unfold RefD.readR; rw [if_neg hcd, hcc]
    rw [← hcc] at HK hcd
    have HR := hid h
    clear h hp hcc
    go_enter Tryz.func81, Tryz.ntmps81
    go_wp2_with (go_at_call 99; refine HK.out.mono ?_; rintro e w2 ⟨rfl, hq⟩; have HQ := hid hq; clear hq)
    refine bodyPost_ret (v := .tuple #[.slice none 0 0, .int .i64 c]) (by simp [results, Tryz.results81, go_sem]) rfl ?_
    rw [HS.out]
    exact ⟨_, rfl, rfl, HR.out.below (quiet_below HQ.out), Touch.of_below (quiet_below HQ.out) (Nat.le_refl _), rfl⟩
end Go.Proofs.YtcpncfngadablaaGreatDoor
/-
  The document's disk: a block more, in memory.
-/
namespace Go.Proofs.YtcpncfngadablaaGreatDoor
open Go.RowKit Go.Deep ShfKit
set_option maxRecDepth 100000
/-- a row more, in a block that none of them has. -/
theorem fam_put {W : World} {B e size : Nat} {A C : List Rw} {y : Rw} (h : Fam W B e size (A ++ C)) (hy : ∀ g, y.1.ownBlock = some g → g ∉ blks (A ++ C)) (ho : W.ownsRow B e size y.1 y.2.1 y.2.2) : Fam W B e size (A ++ y :: C) := by
  obtain ⟨h1, h2⟩ := fam_iff.1 h
  obtain ⟨p1, p2, p3⟩ := List.pairwise_append.1 h2
  have no : ∀ x ∈ A ++ C, ∀ g, x.1.ownBlock = some g → y.1.ownBlock ≠ some g := fun x hx g hg hyg => by
    obtain ⟨k, hk⟩ := List.getElem?_of_mem hx
    exact hy g hyg (mem_blks.2 ⟨k, x, hk, hg⟩)
  refine fam_iff.2 ⟨fun x hx => ?_, List.pairwise_append.2 ⟨p1, List.pairwise_cons.2 ⟨fun b hb g hg hbg => no b (List.mem_append.2 (.inr hb)) g hbg hg, p2⟩, fun a ha b hb g hg => ?_⟩⟩
  · rcases List.mem_append.1 hx with h3 | h3
    · exact h1 x (List.mem_append.2 (.inl h3))
    · rcases List.mem_cons.1 h3 with rfl | h4
      · exact ho
      · exact h1 x (List.mem_append.2 (.inr h4))
  · rcases List.mem_cons.1 hb with rfl | h4
    · exact no a (List.mem_append.2 (.inl ha)) g hg
    · exact p3 a ha b h4 g hg
def RFile.more (e : RFile) (v bv : Value) (bl : List UInt8) : RFile := { e with file := { e.file with blocks := e.file.blocks ++ [bl] }, sv := v, vs := e.vs ++ [bv] }
def RefD.moreAt (R : RefD) (k : Nat) (e : RFile) (v bv : Value) (bl : List UInt8) : RefD := { R with fs := R.fs.set k (e.more v bv bl) }
theorem RefAt.more {w W : World} {R : RefD} (h : RefAt w R) {k : Nat} {e : RFile} (he : R.fs[k]? = some e) {bv v : Value} {bl : List UInt8} (hb : w.ownsRow 0 5 1 bv R.B (Lib.byteCells bl)) (hfr : ∀ g, bv.ownBlock = some g → g ∉ blks (R.fs.flatMap (RFile.r5 R.B)))
    (ho : W.ownsRow 0 31 1 v (e.file.blocks.length + 1) (e.vs ++ [bv])) (hf : (v.ownBlock = e.sv.ownBlock ∧ w.grownBy W e.sv.ownBlock) ∨ ((∀ g, v.ownBlock = some g → w.heap.size ≤ g) ∧ w.grownBy W none)) {G gc : Nat} (hv : R.fv = .slice (some ⟨G, 0, none⟩) R.fs.length gc) :
    RefAt (W.setCell ⟨G, k * 3 + 2, none⟩ v) (R.moreAt k e v bv bl) := by
  have hk := (List.getElem?_eq_some_iff.1 he).1
  have hx : (R.fs.map RFile.r31)[k]? = some e.r31 := by rw [List.getElem?_map, he]; rfl
  have h31 : w.ownsRow 0 31 1 e.sv e.file.blocks.length e.vs := h.f31.own k _ hx
  have but : But 31 w W := But.of_own h31 hf
  have oW : W.ownsRow 0 71 3 R.fv R.fs.length (R.fs.flatMap RFile.cells) := but.own h.own (by decide)
  obtain ⟨s1, s2⟩ := own_set oW (j := k * 3 + 2) hv v
  have bu2 : But 71 W (W.setCell ⟨G, k * 3 + 2, none⟩ v) := But.of_grown s2 (Lib.ownsRow_kind oW)
  have e1 : (R.fs.set k (e.more v bv bl)).flatMap RFile.cells = (R.fs.flatMap RFile.cells).set (k * 3 + 2) v := rflat_set (by omega) rfl he
  have f31 : Fam W 0 31 1 ((R.fs.map RFile.r31).set k (v, e.file.blocks.length + 1, e.vs ++ [bv])) := h.f31.turn hx ho hf
  have e2 : (R.fs.set k (e.more v bv bl)).map RFile.r31 = (R.fs.map RFile.r31).set k (v, e.file.blocks.length + 1, e.vs ++ [bv]) := by
    rw [List.map_set]
    congr 1
    simp [RFile.r31, RFile.more]
  have hlen := h.len e (List.mem_of_getElem? he)
  have e3 : (R.fs.set k (e.more v bv bl)).flatMap (RFile.r5 R.B) = ((R.fs.take k).flatMap (RFile.r5 R.B) ++ e.r5 R.B) ++ (bv, R.B, Lib.byteCells bl) :: (R.fs.drop (k + 1)).flatMap (RFile.r5 R.B) := by
    rw [List.set_eq_take_append_cons_drop, if_pos hk, List.flatMap_append, List.flatMap_cons]
    have : (e.more v bv bl).r5 R.B = e.r5 R.B ++ [(bv, R.B, Lib.byteCells bl)] := by
      show ((e.vs ++ [bv]).zip (e.file.blocks ++ [bl])).map _ = _
      rw [List.zip_append hlen, List.map_append]
      rfl
    rw [this]
    simp
  have e4 : R.fs.flatMap (RFile.r5 R.B) = ((R.fs.take k).flatMap (RFile.r5 R.B) ++ e.r5 R.B) ++ (R.fs.drop (k + 1)).flatMap (RFile.r5 R.B) := by
    conv => lhs; rw [split_at he]
    rw [List.flatMap_append, List.flatMap_cons, List.append_assoc]
  have f5 := but.fam h.f5 (by decide)
  rw [e4] at f5 hfr
  refine ⟨(bu2 _ _ _ _ ((but _ _ _ _ h.row (by decide)).trans h.row) (by decide)).trans ((but _ _ _ _ h.row (by decide)).trans h.row), ?_, bu2.own (but.own h.tro (by decide)) (by decide), ?_, ?_, fun x hx => ?_⟩
  · show World.ownsRow _ 0 71 3 R.fv (R.fs.set k (e.more v bv bl)).length ((R.fs.set k (e.more v bv bl)).flatMap RFile.cells)
    rw [e1, List.length_set]
    exact s1
  · show Fam _ 0 31 1 ((R.fs.set k (e.more v bv bl)).map RFile.r31)
    rw [e2]
    exact bu2.fam f31 (by decide)
  · show Fam _ 0 5 1 ((R.fs.set k (e.more v bv bl)).flatMap (RFile.r5 R.B))
    rw [e3]
    exact bu2.fam (fam_put f5 hfr (but.own hb (by decide))) (by decide)
  · rcases List.mem_or_eq_of_mem_set hx with h1 | rfl
    · exact h.len x h1
    · simp [RFile.more, hlen]
end Go.Proofs.YtcpncfngadablaaGreatDoor
/-
  The document's disk: grow.
-/
namespace Go.Proofs.YtcpncfngadablaaGreatDoor
open Go.RowKit Go.Deep ShfKit
set_option maxRecDepth 100000
def RefD.grew (R : RefD) (k : Nat) (e : RFile) (v bv : Value) (bl : List UInt8) : RefD := { R.moreAt k e v bv bl with c := { R.c with used := R.c.used + 1, most := max R.c.most (R.c.used + 1) } }
set_option maxHeartbeats 4000000 in
theorem grow_any {w : World} {R : RefD} (h : RefAt w R) {k : Nat} {e0 : RFile} (he : R.fs[k]? = some e0) {bs : Option Addr} {bc : Nat} {bl : List UInt8} (hb : w.ownsRow 0 5 1 (.slice bs R.B bc) R.B (Lib.byteCells bl)) (hfr : ∀ g, (Value.slice bs R.B bc).ownBlock = some g → g ∉ blks (R.fs.flatMap (RFile.r5 R.B)))
    (hm : e0.file.blocks.length < 1099511627776) (hu : 0 ≤ R.c.used ∧ R.c.used ≤ 1099511627776) :
    Calls Tryz.prog 100 #[.pointer (some ⟨R.p, 0, none⟩), .int .i64 (k : Int), .slice bs R.B bc] w fun e w' => e = .returned (.tuple #[]) ∧ ∃ v, RefAt w' (R.grew k e0 v (.slice bs R.B bc) bl) ∧ Touch R.foot w w' ∧ ∀ g, v.ownBlock = some g → g ∈ R.foot ∨ w.heap.size ≤ g := by
  obtain ⟨p, hp⟩ : ∃ p, p = R.p := ⟨_, rfl⟩
  obtain ⟨n, hnn⟩ : ∃ n, n = R.fs.length := ⟨_, rfl⟩
  obtain ⟨m, hmm⟩ : ∃ m, m = e0.file.blocks.length := ⟨_, rfl⟩
  obtain ⟨u, huu⟩ : ∃ u, u = R.c.used := ⟨_, rfl⟩
  obtain ⟨x, hxx⟩ : ∃ x, x = R.c.most := ⟨_, rfl⟩
  obtain ⟨B, hBB⟩ : ∃ B, B = R.B := ⟨_, rfl⟩
  rw [← hBB] at hb hfr
  obtain ⟨G, gc, hfv, hG, _, _, c2, fz⟩ := h.file he
  have h31 : w.ownsRow 0 31 1 e0.sv e0.file.blocks.length e0.vs := h.f31.own k _ (by rw [List.getElem?_map, he]; rfl)
  obtain ⟨sa, sc, hsv⟩ := sh_slice h31
  have hpl : p < w.heap.size := by rw [hp]; exact lt_of_block h.row
  have p2 : w.cell? ⟨p, 2, none⟩ = some (.slice (some ⟨G, 0, none⟩) n gc) := by
    rw [hp, cell_row h.row]
    show some R.fv = _
    rw [hfv, hnn]
  have c2' : w.cell? ⟨G, k * 3 + 2, none⟩ = some (.slice sa m sc) := by rw [c2, hsv, hmm]
  have hkn : k < n := by rw [hnn]; exact (List.getElem?_eq_some_iff.1 he).1
  have i0 : (0 : Int) ≤ (k : Int) := by omega
  have i1 : (k : Int) < (n : Int) := by omega
  have HO : Hid ((w.alloc (.cells #[.slice bs B bc] 31)).drew.ownsRow 0 31 1 (.slice sa m sc) m e0.vs) := by
    show World.ownsRow _ 0 31 1 (.slice sa m sc) m e0.vs
    rw [hsv, ← hmm] at h31
    exact own_kept h31 fun g hg => Below.heap_alloc w _ _ (own_block h31 hg).2
  have lA : Below w.heap.size w (w.alloc (.cells #[.slice bs B bc] 31)).drew := ((Below.refl w.heap.size w).alloc (Nat.le_refl _) _).drew
  have K7 : Hid (∀ W7 v7, W7.ownsRow 0 31 1 v7 (m + 1) (e0.vs ++ [.slice bs B bc]) → ((v7.ownBlock = (Value.slice sa m sc).ownBlock ∧ (w.alloc (.cells #[.slice bs B bc] 31)).drew.grownBy W7 (Value.slice sa m sc).ownBlock) ∨ ((∀ g, v7.ownBlock = some g → (w.alloc (.cells #[.slice bs B bc] 31)).drew.heap.size ≤ g) ∧ (w.alloc (.cells #[.slice bs B bc] 31)).drew.grownBy W7 none)) →
      (W7.cell? ⟨G, k * 3 + 2, none⟩ = some (.slice sa m sc) ∧ W7.frozen? ⟨G, k * 3 + 2, none⟩ = false ∧ W7.cell? ⟨p, 2, none⟩ = some (.slice (some ⟨G, 0, none⟩) n gc)) ∧ RefAt (W7.setCell ⟨G, k * 3 + 2, none⟩ v7) (R.moreAt k e0 v7 (.slice bs B bc) bl) ∧ Touch R.foot w (W7.setCell ⟨G, k * 3 + 2, none⟩ v7) ∧ ∀ g, v7.ownBlock = some g → g ∈ R.foot ∨ w.heap.size ≤ g) := fun W7 v7 o7 f7 => by
    have hA := h.below lA
    have f7' := f7
    rw [hmm] at o7 f7'
    rw [← hsv] at f7'
    have hB5 : (w.alloc (.cells #[.slice bs B bc] 31)).drew.ownsRow 0 5 1 (.slice bs B bc) R.B (Lib.byteCells bl) := by
      rw [← hBB]
      exact own_kept hb fun g hg => lA.block g (own_block hb hg).2
    have r := hA.more he (v := v7) hB5 (by rw [← hBB]; exact hfr) o7 f7' hfv
    obtain ⟨gr, gn⟩ := grown_all f7
    have but : But 31 (w.alloc (.cells #[.slice bs B bc] 31)).drew W7 := But.of_own HO.out f7
    have oW : W7.ownsRow 0 71 3 R.fv R.fs.length (R.fs.flatMap RFile.cells) := but.own hA.own (by decide)
    have hc := rflat3 k 2 e0 he (by omega)
    obtain ⟨g', c', e', _, _, hc', hfz⟩ := own_cell oW (j := k * 3 + 2) (x := e0.sv) (by simpa [RFile.cells] using hc)
    rw [hfv] at e'
    simp only [Value.slice.injEq, Option.some.injEq, Addr.mk.injEq] at e'
    obtain ⟨⟨rfl, _⟩, _⟩ := e'
    have r2 : W7.cell? ⟨R.p, 2, none⟩ = some R.fv := cell_row ((but _ _ _ _ hA.row (by decide)).trans hA.row) 2
    refine ⟨⟨by rw [hc', hsv, hmm], hfz, by rw [hp, r2, hfv, hnn]⟩, r, ?_⟩
    have sf : ∀ g, (Value.slice sa m sc).ownBlock = some g → g ∈ R.foot := fun g hg => by
      have : g ∈ blks (R.fs.map RFile.r31) := mem_blks.2 ⟨k, e0.r31, by rw [List.getElem?_map, he]; rfl, by show e0.sv.ownBlock = _; rw [hsv, ← hmm]; exact hg⟩
      unfold RefD.foot
      simp only [List.mem_cons, List.mem_append]
      exact .inr (.inr (.inr (.inl this)))
    have t1 : Touch R.foot w W7 := (Touch.of_below lA (Nat.le_refl _)).grown gr (fun g hg => .inl (sf g hg))
    refine ⟨t1.setCell (.inl (by simp [RefD.foot, hfv, Value.ownBlock])) _, fun g hg => ?_⟩
    rcases gn g hg with h9 | h9
    · exact .inl (sf g h9)
    · exact .inr (Nat.le_trans lA.size h9)
  have PF : Hid (p ∈ R.foot) := by rw [hp]; show _ ∈ _; simp [RefD.foot]
  have K8 : Hid (∀ W8 v7, RefAt W8 (R.moreAt k e0 v7 (.slice bs B bc) bl) → W8.cell? ⟨p, 9, none⟩ = some (.int .i64 u) ∧ W8.cell? ⟨p, 10, none⟩ = some (.int .i64 x) ∧ W8.frozen? ⟨p, 9, none⟩ = false ∧ W8.frozen? ⟨p, 10, none⟩ = false ∧ RefAt (((W8.setCell ⟨p, 9, none⟩ (.int .i64 (u + 1))).drew).setCell ⟨p, 10, none⟩ (.int .i64 (max x (u + 1)))) (R.grew k e0 v7 (.slice bs B bc) bl)) := fun W8 v7 hr => by
    have q9 : W8.cell? ⟨R.p, 9, none⟩ = some (.int .i64 R.c.used) := cell_row hr.row 9
    have q10 : W8.cell? ⟨R.p, 10, none⟩ = some (.int .i64 R.c.most) := cell_row hr.row 10
    refine ⟨by rw [hp, q9, huu], by rw [hp, q10, hxx], by rw [hp]; exact unfrozen_row hr.row 9, by rw [hp]; exact unfrozen_row hr.row 10, ?_⟩
    rw [hp, huu, hxx]
    have r9 := heap_setCell_row hr.row 9 (.int .i64 (R.c.used + 1))
    have b9 : But 100 W8 ((W8.setCell ⟨R.p, 9, none⟩ (.int .i64 (R.c.used + 1))).drew) := But.setCell hr.row _
    have r9' : ((W8.setCell ⟨R.p, 9, none⟩ (.int .i64 (R.c.used + 1))).drew).heap[R.p]? = _ := r9
    exact (hr.reset (R' := { R.moreAt k e0 v7 (.slice bs B bc) bl with c := { R.c with used := R.c.used + 1 } }) rfl rfl rfl rfl rfl rfl r9' b9).reset rfl rfl rfl rfl rfl rfl (heap_setCell_row r9' 10 _) (But.setCell r9' _)
  rw [← hp, ← hBB]
  rw [← hmm] at hm
  rw [← huu] at hu
  have V1 : IntKind.i64.wrap (u + 1) = u + 1 := by rw [IntKind.wrap_i64]; omega
  have HPW := hid hpl
  clear h he hb hfr hfv c2 fz h31 hsv hp hnn hmm huu hxx hBB lA
  go_enter Tryz.func100, Tryz.ntmps100
  go_wp2_with fail
  go_region_law (refine step_far rfl _ _ 51 31 _ 1 24 rfl Tryz.underlying51 info31 rfl (by decide) 0 m 1 1 (.slice sa m sc) e0.vs [.slice bs B bc] ⟨w.heap.size, 0, none⟩ rfl HO.out rfl rfl (fun j u hu => by rw [add_zero_addr, World.cell?_drew, cell_row (heap_alloc_new w _)]; simpa using hu) (fun u hu => by simp at hu; subst hu; rfl) (by omega) (by omega) (Nat.zero_le _) ?_; intro v7 W7 o7 f7; obtain ⟨s7, c7, rfl⟩ := sh_slice o7; obtain ⟨⟨k71, k72, k70⟩, k73⟩ := K7.out _ _ o7 f7; have K73 := hid k73; clear o7 f7 k73)
  all_goals
    obtain ⟨W8, hW8⟩ : ∃ W8, W8 = W7.setCell ⟨G, k * 3 + 2, none⟩ (.slice s7 (m + 1) c7) := ⟨_, rfl⟩
    rw [← hW8] at K73 ⊢
    obtain ⟨j9, j10, y9, y10, y11⟩ := K8.out W8 _ K73.out.1
    have Y11 := hid y11
    clear hW8 y11 k70 k71 k72
    go_wp2_with fail
    go_region
    go_end0
    exact ⟨rfl, _, Y11.out, ((K73.out.2.1.setCell (.inl PF.out) _).drew).setCell (.inl PF.out) _, K73.out.2.2⟩
end Go.Proofs.YtcpncfngadablaaGreatDoor
