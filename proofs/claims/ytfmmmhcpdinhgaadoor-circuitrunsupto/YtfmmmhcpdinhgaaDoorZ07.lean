import Derived.Test.YtfmmmhcpdinhgaaDoorZ06
/-
  The document's own Step.
-/
namespace Go.Proofs.YtfmmmhcpdinhgaaDoor
open Go.RowKit Go.Deep PureNet ShfKit
set_option maxRecDepth 100000

/-- append of a truth to one of several rows. -/
theorem fam_bit {ops : Array Oper} {rest : List Oper} {o : Oper} {a : Act} {Q : Exit → Act → World → Prop} {w W : World} {L : List Rw} (hgd : o.guard = none) (sl y : Operand)
    (ho : o.op = .call { callee := .builtin .append, args := #[sl, y], argTypes := #[29, 29] }) (hF : Fam W w.heap.size 4 1 L) (hB : Below w.heap.size w W) (i : Nat) (x : Rw) (hx : L[i]? = some x) (u : Bool) (t : TypeId) (ad : Nat) (had : ad = W.heap.size)
    (hs : a.eval sl = x.1) (hy : a.eval y = .slice (some ⟨ad, 0, none⟩) 1 1) (hn : x.2.1 ≤ 1099511627776)
    (hK : ∀ sx cx w', Fam w' w.heap.size 4 1 (L.set i (.slice sx (x.2.1 + 1) cx, x.2.1 + 1, x.2.2 ++ [.bool u])) → Below w.heap.size w w' → (∀ (k : Nat) (cs : Array Value) (tt : Nat) (fz : Nat × Nat), W.heap[k]? = some (Obj.cells cs tt fz) → tt ≠ 4 → w'.heap[k]? = some (Obj.cells cs tt fz)) → wpList Tryd.prog ops Q rest (a.put o.dst (.slice sx (x.2.1 + 1) cx)) w') :
    wpList Tryd.prog ops Q (o :: rest) a (W.alloc (.cells #[.bool u] t)) := by
  subst had
  obtain ⟨ii, hi, hz0, hz1, hz2⟩ := info_parts info4
  have hb2 : Below W.heap.size W (W.alloc (.cells #[.bool u] t)) := (Below.refl _ _).alloc (Nat.le_refl _) _
  have hF2 := hF.below hb2
  have hB2 : Below w.heap.size w (W.alloc (.cells #[.bool u] t)) := hB.trans (hb2.mono hB.size)
  have hown := hF2.own i x hx
  refine wpList_append_far (P := Tryd.prog) (W.alloc (.cells #[.bool u] t)) hgd sl y 29 ho w.heap.size 4 ii (.bool false) 1 1 Tryd.underlying29 hi hz0 hz1 hz2 rfl (by decide) x.1 x.2.1 x.2.2 hs hown ⟨W.heap.size, 0, none⟩ 1 1 [.bool u] hy rfl (fun j v hv => by
      rw [add_zero_addr, cell_row (heap_alloc_new W _)]
      simpa using hv) (fun v hv => by simp at hv; subst hv; rfl) (by unfold maxLen; omega) (by omega) hB2.size ?_
  intro v' w' o1 hf
  obtain ⟨sx, cx, rfl⟩ := own_shape o1
  have hgr : (∃ g, (W.alloc (.cells #[.bool u] t)).grownBy w' g ∧ ∀ k, g = some k → x.1.ownBlock = some k) := by
    rcases hf with ⟨_, hg⟩ | ⟨_, hg⟩
    · exact ⟨_, hg, fun k e => e⟩
    · exact ⟨none, hg, fun k e => by cases e⟩
  obtain ⟨g, hg, hgx⟩ := hgr
  refine hK sx cx w' (hF2.turn (y := (.slice sx (x.2.1 + 1) cx, x.2.1 + 1, x.2.2 ++ [.bool u])) hx o1 hf) (hB2.grown hg hB2.size (fun k e => (own_block hown (hgx k e)).1)) (fun k cs tt fz hk htt => ?_)
  have h1 : (W.alloc (.cells #[.bool u] t)).heap[k]? = some (Obj.cells cs tt fz) := (hb2.block k (Array.getElem?_eq_some_iff.1 hk).1).trans hk
  refine (hg.block k (Array.getElem?_eq_some_iff.1 h1).1 (fun e => ?_)).trans h1
  exact own_ne hown h1 htt (hgx k e.symm)
theorem fam_base {W : World} {B B' e size : Nat} {L : List Rw} (h : Fam W B e size L) (hB : B' ≤ B) : Fam W B' e size L := ⟨fun i x hx => own_base (h.own i x hx) hB, h.apart⟩
theorem fam_drop1 {W : World} {B e size : Nat} {x : Rw} {L : List Rw} (h : Fam W B e size (x :: L)) : Fam W B e size L := ⟨fun i y hy => h.own (i + 1) y (by simpa using hy), fun i j y z g hy hz hij hg => h.apart (i + 1) (j + 1) y z g (by simpa using hy) (by simpa using hz) (by omega) hg⟩
theorem bo_snoc (L : List Bool) (b : Bool) : bo (L ++ [b]) = bo L ++ [.bool b] := by simp [bo]
/-- what goes into the latches of the first i lines. -/
def nextTo (l : List Ga) (v : List Bool) (i : Nat) : List Bool := ((l.take i).filter fun g => decide (g.kind = 3)).map fun g => valAt v g.a
theorem nextTo_succ {l : List Ga} {v : List Bool} {i : Nat} {g : Ga} (h : l[i]? = some g) : nextTo l v (i + 1) = nextTo l v i ++ (if g.kind = 3 then [valAt v g.a] else []) := by
  unfold nextTo
  rw [List.take_add_one, h]
  simp only [Option.toList_some, List.filter_append, List.map_append]
  congr 1
  by_cases e : g.kind = 3 <;> simp [e]
theorem nextTo_len (l : List Ga) (v : List Bool) (i : Nat) : (nextTo l v i).length ≤ i := by
  unfold nextTo
  rw [List.length_map]
  exact Nat.le_trans (List.length_filter_le _ _) (by simp; omega)
theorem lineB_latch {g : Ga} {n : Nat} (h : lineB g n = true) (h3 : g.kind = 3) : 0 ≤ g.a ∧ g.a < (n : Int) := by
  simp only [lineB, Bool.and_eq_true, decide_eq_true_eq, fieldB, h3] at h
  have := h.1.1.2
  simpa using this
/-- what Step answers. -/
def StepIs (c : Net) (ins las : List Bool) (B : Nat) (e : Ending) (w' : World) : Prop :=
  (¬ PureNet.Formed c ∧ e = .returned (.tuple #[.slice none 0 0, .slice none 0 0, .int .i64 144])) ∨
  (PureNet.Formed c ∧ ¬ (ins.length = cnt 1 c.gates ∧ las.length = cnt 3 c.gates) ∧ e = .returned (.tuple #[.slice none 0 0, .slice none 0 0, .int .i64 1])) ∨
  (PureNet.Formed c ∧ ins.length = cnt 1 c.gates ∧ las.length = cnt 3 c.gates ∧ ∃ v o n, Vals c.gates ins las v ∧ e = .returned (.tuple #[o, n, .int .i64 0]) ∧ Fam w' B 4 1 [(o, (outsOf c v).length, bo (outsOf c v)), (n, (nextOf c v).length, bo (nextOf c v))])

set_option maxHeartbeats 2000000 in
set_option maxRecDepth 100000 in
theorem rstep_any (c : Net) (sg so : Option Addr) (cg co : Nat) (ins las : List Bool) (si sl : Option Addr) (ci cl : Nat) (w : World) (hc : CirAt w c sg so) (hn : c.name.size ≤ 140737488351232) (hns : ∀ g ∈ c.gates, g.name.size ≤ 140737488351232) (hl : c.gates.length ≤ 1099511627776) (hlo : c.outs.length ≤ 1099511627776) (hi : CellsAt w si (bo ins)) (hla : CellsAt w sl (bo las)) :
    Calls Tryd.prog 31 #[cirV c sg cg so co, .slice si ins.length ci, .slice sl las.length cl] w fun e w' => StepIs c ins las w.heap.size e w' ∧ Below w.heap.size w w' := by
  have HC := hid hc
  have HI := hid hi
  have HLA := hid hla
  obtain ⟨cv, hcv⟩ : ∃ cv, cv = cirV c sg cg so co := ⟨_, rfl⟩
  obtain ⟨x, hx⟩ : ∃ x, x = w.alloc (Obj.cells #[Value.string c.name, Value.slice sg c.gates.length cg, Value.slice so c.outs.length co] 26) := ⟨_, rfl⟩
  have C0 : Hid (x.heap[w.heap.size]? = some (.cells #[Value.string c.name, Value.slice sg c.gates.length cg, Value.slice so c.outs.length co] 26 (0, 0))) := by rw [hx]; exact heap_alloc_new w _
  have BX : Hid (Below w.heap.size w x) := by rw [hx]; exact (Below.refl _ _).alloc (Nat.le_refl _) _
  have RD : Hid (∀ W, Below x.heap.size x W → (∀ j, W.cell? ⟨w.heap.size, j, none⟩ = (#[Value.string c.name, Value.slice sg c.gates.length cg, Value.slice so c.outs.length co] : Array Value)[j]?) ∧ w.heap.size < W.heap.size) := fun W hW => by
    have h2 := (hW.block _ (Array.getElem?_eq_some_iff.1 C0.out).1).trans C0.out
    exact ⟨fun j => cell_row h2 j, (Array.getElem?_eq_some_iff.1 h2).1⟩
  have FM := hid (formed_any c sg so cg co x (hc.below BX.out) hn hns hl hlo)
  have CN : Hid (∀ W k, Below x.heap.size x W → Calls Tryd.prog 60 #[cirV c sg cg so co, .int .i64 k] W fun e w' => e = .returned (.int .i64 (cnt k c.gates : Int)) ∧ Below W.heap.size W w') := fun W k hW => rcount_any c sg so cg co k W ((HC.out.gates.below BX.out).below hW) hl
  obtain ⟨d0, hb0⟩ := RD.out x (Below.refl _ _)
  have HX := hid hx
  clear hc hi hla hx hns hcv cv
  by_cases hf : PureNet.Formed c
  · have HFD := hid hf
    have hfew := hf.few
    have hfewo := hf.fewOuts
    have h1le := cnt_take_le_i 1 c.gates c.gates.length
    have h3le := cnt_take_le_i 3 c.gates c.gates.length
    rw [List.take_length] at h1le h3le
    have CN1 := hid (fun W hW => CN.out W 1 hW)
    have CN3 := hid (fun W hW => CN.out W 3 hW)
    obtain ⟨m1, hm1⟩ : ∃ m, m = cnt 1 c.gates := ⟨_, rfl⟩
    obtain ⟨m3, hm3⟩ : ∃ m, m = cnt 3 c.gates := ⟨_, rfl⟩
    obtain ⟨n, hnn⟩ : ∃ n, n = c.gates.length := ⟨_, rfl⟩
    obtain ⟨no, hno⟩ : ∃ no, no = c.outs.length := ⟨_, rfl⟩
    have HM1 := hid hm1
    have HM3 := hid hm3
    have HN := hid hnn
    have HNO := hid hno
    rw [← hm1] at CN1 h1le
    rw [← hm3] at CN3 h3le
    rw [← hnn] at h1le h3le hfew hl
    rw [← hno] at hfewo hlo
    have VL : Hid (∀ W, ins.length = m1 → las.length = m3 → ∀ v, Vals c.gates ins las v → Below x.heap.size x W → Calls Tryd.prog 61 #[cirV c sg cg so co, .slice si ins.length ci, .slice sl las.length cl] W fun e w' => ∃ b n', W.heap.size ≤ b ∧ n' = n ∧ e = .returned (.slice (some ⟨b, 0, none⟩) n' n') ∧ w'.heap[b]? = some (.cells (bo v).toArray 4 (0, 0)) ∧ Below W.heap.size W w') := fun W e1 e3 v hv hW => by
      rw [HN.out]
      exact rvalues_any c sg so cg co ins las v si sl ci cl W HFD.out ((HC.out.gates.below BX.out).below hW) ((HI.out.below BX.out).below hW) ((HLA.out.below BX.out).below hW) (by rw [e1, HM1.out]; exact Nat.le_refl _) (by rw [e3, HM3.out]; exact Nat.le_refl _) (by omega) (by omega) hv
    clear hf CN
    show Calls Tryd.prog 31 #[.agg #[Value.string c.name, Value.slice sg c.gates.length cg, Value.slice so c.outs.length co], .slice si ins.length ci, .slice sl las.length cl] w _
    simp only [cirV, ← hnn, ← hno] at FM CN1 CN3 VL RD HX C0 d0 ⊢
    clear hm1 hm3 hnn hno
    go_enter Tryd.func31, Tryd.ntmps31
    by_cases h1 : ins.length = m1
    · by_cases h3 : las.length = m3
      · obtain ⟨v, hv⟩ := HFD.out.vals ins las
        have VL := hid (fun W hW => VL.out W h1 h3 v hv hW)
        have HV := hid hv
        have H1 := hid h1
        have H3 := hid h3
        have hb1e : ((ins.length : Int) != (m1 : Int)) = false := by rw [h1]; simp
        have hb3e : ((las.length : Int) != (m3 : Int)) = false := by rw [h3]; simp
        clear hv h1 h3
        go_wp2_with (first | (rw [← HX.out]) | (go_at_call 61; refine Calls.mono (VL.out w3 B3.out) ?_; rintro e w4 ⟨vb, n', hvb, hn', rfl, hrow, b4⟩; obtain rfl : n' = n := hn'; have B4 : Hid (Below x.heap.size x w4) := B3.out.trans (b4.mono B3.out.size); have HVR := hid hrow; have HVB := hid (Nat.le_trans B3.out.size hvb); clear b4 hrow hvb) | (go_at_call 60; refine Calls.mono (CN3.out w2 B2.out) ?_; rintro e w3 ⟨rfl, b3⟩; have B3 : Hid (Below x.heap.size x w3) := B2.out.trans (b3.mono B2.out.size); obtain ⟨d3, hb3⟩ := RD.out w3 B3.out; clear b3) | (go_at_call 60; refine Calls.mono (CN1.out w1 B1.out) ?_; rintro e w2 ⟨rfl, b2⟩; have B2 : Hid (Below x.heap.size x w2) := B1.out.trans (b2.mono B1.out.size); obtain ⟨d2, hb2⟩ := RD.out w2 B2.out; clear b2) | (go_at_call 28; refine Calls.mono FM.out ?_; rintro e w1 ⟨⟨bb, rfl, hbb⟩, b1⟩; obtain rfl : bb = true := hbb.2 HFD.out; have B1 := hid b1; obtain ⟨d1, hb1⟩ := RD.out w1 b1; clear hbb b1))
        have HFA : Hid (Fam w4 x.heap.size 4 1 [(.slice (some ⟨vb, 0, none⟩) n' n', n', bo v), (.slice none 0 0, 0, []), (.slice none 0 0, 0, [])]) := by
          have hvl : v.length = n' := by rw [HV.out.len, ← HN.out]
          refine ⟨fun i y hy => ?_, fun i j y z g hy hz hij hg => ?_⟩
          · match i with
            | 0 => simp at hy; subst hy; exact ⟨by simp [bo, hvl], .inr ⟨vb, n', (bo v).toArray, rfl, HVB.out, HVR.out, Nat.le_refl _, by unfold maxLen; omega, by simp [bo, hvl], by rw [Nat.mul_one]; exact List.take_of_length_le (by simp [bo, hvl])⟩⟩
            | 1 => simp at hy; subst hy; exact World.ownsRow_nil _ _ _ _
            | 2 => simp at hy; subst hy; exact World.ownsRow_nil _ _ _ _
            | i + 3 => simp at hy
          · match i with
            | 0 =>
              match j with
              | 0 => omega
              | 1 => simp at hz; subst hz; simp [Value.ownBlock]
              | 2 => simp at hz; subst hz; simp [Value.ownBlock]
              | j + 3 => simp at hz
            | 1 => simp at hy; subst hy; simp [Value.ownBlock] at hg
            | 2 => simp at hy; subst hy; simp [Value.ownBlock] at hg
            | i + 3 => simp at hy
        have HVL : Hid (v.length = n') := by show _ = _; rw [HV.out.len, ← HN.out]
        have HOL : Hid ((outsOf c v).length = no) := by show _ = _; simp [outsOf, HNO.out]
        clear hb1e hb3e d1 hb1 d2 hb2 d3 hb3 B1 B2 B3 VL CN1 CN3 FM
        go_loopw [6, 11] (fun ov iv W => ∃ i : Nat, i ≤ no ∧ iv = .int .i64 (i : Int) ∧ Hid (Fam W x.heap.size 4 1 [(.slice (some ⟨vb, 0, none⟩) n' n', n', bo v), (ov, i, bo ((outsOf c v).take i)), (.slice none 0 0, 0, [])] ∧ Below x.heap.size x W)) (fun ov iv _ => no - (intOf iv).toNat)
        case atStart => exact ⟨0, Nat.zero_le _, rfl, HFA.out, B4.out⟩
        case round =>
          obtain ⟨i, hi, rfl, HR⟩ := hrel
          clear HFA
          obtain ⟨e0, he0⟩ := RD.out wr HR.out.2
          obtain ⟨sv, cv, hsv⟩ := own_shape (HR.out.1.own 1 _ rfl)
          simp only at hsv
          subst hsv
          by_cases hlt : i < no
          · obtain ⟨y, hy⟩ : ∃ y, c.outs[i]? = some y := ⟨_, List.getElem?_eq_getElem (by rw [← HNO.out]; exact hlt)⟩
            obtain ⟨b, o, rfl, hb, a0⟩ := num_at ((HC.out.outs.below BX.out).below HR.out.2) i y hy
            have hyr := HFD.out.outs y (List.mem_of_getElem? hy)
            rw [← HN.out] at hyr
            obtain ⟨q, rfl⟩ : ∃ q : Nat, y = (q : Int) := ⟨y.toNat, by omega⟩
            have hqn : q < n' := by omega
            obtain ⟨xv, hxv⟩ : ∃ xv, v[q]? = some xv := ⟨_, List.getElem?_eq_getElem (by rw [HVL.out]; exact hqn)⟩
            obtain ⟨gv, cvv, hgv, _, hgl, cvc, _⟩ := own_cell (HR.out.1.own 0 _ rfl) (j := q) (x := .bool xv) (by simp [bo, hxv])
            simp only [Value.slice.injEq, Option.some.injEq, Addr.mk.injEq, and_true, true_and] at hgv
            obtain ⟨rfl, rfl⟩ := hgv
            have HTK : Hid (bo ((outsOf c v).take (i + 1)) = bo ((outsOf c v).take i) ++ [.bool xv]) := by
              show _ = _
              have : (outsOf c v)[i]? = some xv := by simp [outsOf, hy, valAt, hxv]
              rw [List.take_add_one, this]
              simp [bo]
            clear hy hxv hyr
            go_wp2_with (at_builtin; refine fam_bit rfl _ _ rfl HR.out.1 HR.out.2 1 _ rfl xv 4 _ rfl rfl rfl (by show i ≤ _; omega) ?_; intro sx cx w5 hf5 hb5 _; have HF5 := hid hf5; have HB5 := hid hb5; clear hf5 hb5)
            exact ⟨⟨i + 1, hlt, by go_num, by rw [HTK.out]; exact HF5.out, HB5.out⟩, by simp [intOf]; omega⟩
          · obtain rfl : i = no := by omega
            have HR1 : Hid (Fam wr x.heap.size 4 1 [(.slice (some ⟨vb, 0, none⟩) n' n', n', bo v), (.slice sv i cv, i, bo (outsOf c v)), (.slice none 0 0, (nextTo c.gates v 0).length, bo (nextTo c.gates v 0))] ∧ Below x.heap.size x wr) := by
              have h := HR.out
              rw [List.take_of_length_le (by rw [HOL.out]; exact Nat.le_refl _)] at h
              exact h
            clear HR
            go_wp2
            go_loopw [7, 12] (fun nv jv W => ∃ j : Nat, j ≤ n' ∧ jv = .int .i64 (j : Int) ∧ Hid (Fam W x.heap.size 4 1 [(.slice (some ⟨vb, 0, none⟩) n' n', n', bo v), (.slice sv i cv, i, bo (outsOf c v)), (nv, (nextTo c.gates v j).length, bo (nextTo c.gates v j))] ∧ Below x.heap.size x W)) (fun nv jv _ => n' - (intOf jv).toNat)
            case atStart => exact ⟨0, Nat.zero_le _, rfl, HR1.out⟩
            case round =>
              obtain ⟨j, hj, rfl, HR⟩ := hrel
              clear HR1 e0 he0
              obtain ⟨e0, he0⟩ := RD.out wr HR.out.2
              obtain ⟨sn, cn, hsn⟩ := own_shape (HR.out.1.own 2 _ rfl)
              simp only at hsn
              subst hsn
              have hnl := nextTo_len c.gates v j
              by_cases hlt2 : j < n'
              · obtain ⟨g, hg⟩ : ∃ g, c.gates[j]? = some g := ⟨_, List.getElem?_eq_getElem (by rw [← HN.out]; exact hlt2)⟩
                obtain ⟨b, o, rfl, hb, a0, a1, a2, a3, a4, a5⟩ := gate_at ((HC.out.gates.below BX.out).below HR.out.2) j g hg
                have HNX := hid (nextTo_succ (v := v) hg)
                by_cases e3 : g.kind = 3
                · have hyr := lineB_latch (HFD.out.lines j g hg).2 e3
                  rw [← HN.out] at hyr
                  obtain ⟨q, hq⟩ : ∃ q : Nat, g.a = (q : Int) := ⟨g.a.toNat, by omega⟩
                  have hqn : q < n' := by omega
                  obtain ⟨xv, hxv⟩ : ∃ xv, v[q]? = some xv := ⟨_, List.getElem?_eq_getElem (by rw [HVL.out]; exact hqn)⟩
                  obtain ⟨gv, cvv, hgv, _, hgl, cvc, _⟩ := own_cell (HR.out.1.own 0 _ rfl) (j := q) (x := .bool xv) (by simp [bo, hxv])
                  simp only [Value.slice.injEq, Option.some.injEq, Addr.mk.injEq, and_true, true_and] at hgv
                  obtain ⟨rfl, rfl⟩ := hgv
                  have HNX2 : Hid (nextTo c.gates v (j + 1) = nextTo c.gates v j ++ [xv]) := by
                    show _ = _
                    rw [HNX.out, if_pos e3, hq]
                    simp [valAt, hxv]
                  rw [e3] at a0
                  rw [hq] at a3
                  obtain ⟨L, hL⟩ : ∃ L, L = nextTo c.gates v j := ⟨_, rfl⟩
                  rw [← hL] at HNX2 HR hnl ⊢
                  clear hg hxv hyr hq HNX e3 hL
                  go_wp2_with (at_builtin; refine fam_bit rfl _ _ rfl HR.out.1 HR.out.2 2 _ rfl xv 4 _ rfl rfl rfl (by show L.length ≤ _; omega) ?_; intro sx cx w5 hf5 hb5 _; have HF5 := hid hf5; have HB5 := hid hb5; clear hf5 hb5)
                  exact ⟨⟨j + 1, hlt2, by go_num, by rw [HNX2.out, List.length_append, bo_snoc]; exact HF5.out, HB5.out⟩, by simp [intOf]; omega⟩
                · rw [if_neg e3, List.append_nil] at HNX
                  clear hg
                  go_wp2
                  exact ⟨⟨j + 1, hlt2, by go_num, by rw [HNX.out]; exact HR.out⟩, by simp [intOf]; omega⟩
              · obtain rfl : j = n' := by omega
                have HR2 : Hid (Fam wr x.heap.size 4 1 [(.slice sv i cv, (outsOf c v).length, bo (outsOf c v)), (.slice sn (nextTo c.gates v j).length cn, (nextOf c v).length, bo (nextOf c v))] ∧ Below x.heap.size x wr) := by
                  have h := HR.out
                  refine ⟨?_, h.2⟩
                  have h2 := fam_drop1 h.1
                  rw [HOL.out]
                  have e : nextTo c.gates v j = nextOf c v := by unfold nextTo nextOf; rw [List.take_of_length_le (by rw [HN.out]; exact Nat.le_refl _)]
                  rw [e] at h2 ⊢
                  exact h2
                obtain ⟨L, hL⟩ : ∃ L, L = (nextTo c.gates v j).length := ⟨_, rfl⟩
                rw [← hL] at HR2 hnl ⊢
                clear HR hL
                go_wp2
                exact bodyPost_ret (v := .tuple #[.slice sv i cv, .slice sn L cn, .int .i64 0]) (by simp [results, Tryd.results31, go_sem]) rfl ⟨.inr (.inr ⟨HFD.out, by rw [H1.out, HM1.out], by rw [H3.out, HM3.out], v, _, _, HV.out, rfl, fam_base HR2.out.1 BX.out.size⟩), BX.out.trans (HR2.out.2.mono BX.out.size)⟩
      · have HNE : Hid (¬ (ins.length = cnt 1 c.gates ∧ las.length = cnt 3 c.gates)) := fun h => h3 (by rw [HM3.out]; exact h.2)
        have hb1e : ((ins.length : Int) != (m1 : Int)) = false := by rw [h1]; simp
        have hb3e : ((las.length : Int) != (m3 : Int)) = true := by rw [bne_iff_ne]; omega
        clear h1 h3
        go_wp2_with (first | (rw [← HX.out]) | (go_at_call 60; refine Calls.mono (CN3.out w2 B2.out) ?_; rintro e w3 ⟨rfl, b3⟩; have B3 : Hid (Below x.heap.size x w3) := B2.out.trans (b3.mono B2.out.size); obtain ⟨d3, hb3⟩ := RD.out w3 B3.out; clear b3) | (go_at_call 60; refine Calls.mono (CN1.out w1 B1.out) ?_; rintro e w2 ⟨rfl, b2⟩; have B2 : Hid (Below x.heap.size x w2) := B1.out.trans (b2.mono B1.out.size); obtain ⟨d2, hb2⟩ := RD.out w2 B2.out; clear b2) | (go_at_call 28; refine Calls.mono FM.out ?_; rintro e w1 ⟨⟨bb, rfl, hbb⟩, b1⟩; obtain rfl : bb = true := hbb.2 HFD.out; have B1 := hid b1; obtain ⟨d1, hb1⟩ := RD.out w1 b1; clear hbb b1))
        exact bodyPost_ret (v := .tuple #[.slice none 0 0, .slice none 0 0, .int .i64 1]) (by simp [results, Tryd.results31, go_sem]) rfl ⟨.inr (.inl ⟨HFD.out, HNE.out, rfl⟩), BX.out.trans (B3.out.mono BX.out.size)⟩
    · have HNE : Hid (¬ (ins.length = cnt 1 c.gates ∧ las.length = cnt 3 c.gates)) := fun h => h1 (by rw [HM1.out]; exact h.1)
      have hb1e : ((ins.length : Int) != (m1 : Int)) = true := by rw [bne_iff_ne]; omega
      clear h1
      go_wp2_with (first | (rw [← HX.out]) | (go_at_call 60; refine Calls.mono (CN1.out w1 B1.out) ?_; rintro e w2 ⟨rfl, b2⟩; have B2 : Hid (Below x.heap.size x w2) := B1.out.trans (b2.mono B1.out.size); obtain ⟨d2, hb2⟩ := RD.out w2 B2.out; clear b2) | (go_at_call 28; refine Calls.mono FM.out ?_; rintro e w1 ⟨⟨bb, rfl, hbb⟩, b1⟩; obtain rfl : bb = true := hbb.2 HFD.out; have B1 := hid b1; obtain ⟨d1, hb1⟩ := RD.out w1 b1; clear hbb b1))
      exact bodyPost_ret (v := .tuple #[.slice none 0 0, .slice none 0 0, .int .i64 1]) (by simp [results, Tryd.results31, go_sem]) rfl ⟨.inr (.inl ⟨HFD.out, HNE.out, rfl⟩), BX.out.trans (B2.out.mono BX.out.size)⟩
  · have HNF := hid hf
    clear hf
    go_enter Tryd.func31, Tryd.ntmps31
    go_wp2_with (first | (rw [← HX.out]) | (go_at_call 28; refine Calls.mono FM.out ?_; rintro e w1 ⟨⟨bb, rfl, hbb⟩, b1⟩; obtain rfl : bb = false := (by cases bb with | false => rfl | true => exact absurd (hbb.1 rfl) HNF.out); have B1 := hid b1; clear hbb b1))
    exact bodyPost_ret (v := .tuple #[.slice none 0 0, .slice none 0 0, .int .i64 144]) (by simp [results, Tryd.results31, go_sem]) rfl ⟨.inl ⟨HNF.out, rfl⟩, BX.out.trans (B1.out.mono BX.out.size)⟩
end Go.Proofs.YtfmmmhcpdinhgaaDoor
/-
  The law's own roomy.
-/
namespace Go.Proofs.YtfmmmhcpdinhgaaDoor
open Go.RowKit Go.Deep PureNet ShfKit
set_option maxRecDepth 100000

theorem add_addr (g o j : Nat) : Addr.add ⟨g, o, none⟩ j = ⟨g, o + j, none⟩ := by
  unfold Addr.add
  by_cases h : j = 0
  · rw [if_pos h, h]; rfl
  · rw [if_neg h]
theorem far_below {w W : World} {v v' : Value} {B : Nat} (h : (v'.ownBlock = v.ownBlock ∧ w.grownBy W v.ownBlock) ∨ ((∀ g, v'.ownBlock = some g → w.heap.size ≤ g) ∧ w.grownBy W none)) {w0 : World} (hb : Below B w0 w) (hB : B ≤ w.heap.size) (hv : ∀ g, v.ownBlock = some g → B ≤ g) : Below B w0 W := by
  rcases h with ⟨_, hg⟩ | ⟨_, hg⟩
  · exact hb.grown hg hB hv
  · exact hb.grown hg hB (fun k e => by cases e)
set_option maxHeartbeats 1000000 in
set_option maxRecDepth 100000 in
theorem roomy_any (l : List Bool) (sa : Option Addr) (ca : Nat) (w : World) (ha : CellsAt w sa (bo l)) (hca : sa = none → ca = 0) (hl : l.length ≤ 140737488351232) :
    Calls Tryd.prog 30 #[.slice sa l.length ca] w fun e w' => ∃ v, e = .returned v ∧ Mk w w' 4 1 v (l.length + 2) (bo (l ++ [true, false])) := by
  obtain ⟨ii, hi, hz0, hz1, hz2⟩ := info_parts info4
  have HA := hid ha
  have HI : Hid (Tryd.prog.info? 4 = some ii ∧ ii.zero = some (.bool false) ∧ ii.size = 1 ∧ ii.bytes = 1) := ⟨hi, hz0, hz1, hz2⟩
  have HE : Hid (bo (l ++ [true, false]) = bo l ++ [.bool true, .bool false]) := by show _ = _; simp [bo]
  have HLB : Hid ((bo l).length = l.length * 1) := by show _ = _; simp [bo]
  have HO : Hid (∀ u ∈ bo l, u.oneCell' = true) := fun u hu => by simp only [bo, List.mem_map] at hu; obtain ⟨b, _, rfl⟩ := hu; rfl
  have hL : Hid (l.length ≤ 140737488351232) := hl
  clear ha hi hz0 hz1 hz2
  cases sa with
  | none =>
    have h0 : l = [] := by
      cases l with
      | nil => rfl
      | cons b r =>
        obtain ⟨g, o, e, _⟩ := HA.out.at_ 0 (.bool b) (by simp [bo])
        cases e
    subst h0
    obtain rfl := hca rfl
    go_enter Tryd.func30, Tryd.ntmps30
    go_wp2_with (at_builtin; refine wpList_append_far (P := Tryd.prog) _ rfl _ _ 29 rfl w.heap.size 4 ii (.bool false) 1 1 Tryd.underlying29 HI.out.1 HI.out.2.1 HI.out.2.2.1 HI.out.2.2.2 rfl (by decide) (.slice none 0 0) 0 [] rfl (World.ownsRow_nil _ _ _ _) ⟨w.heap.size, 0, none⟩ 2 2 [.bool true, .bool false] rfl rfl (fun j u hu => by rw [add_zero_addr, cell_row (heap_alloc_new w _)]; simpa using hu) (fun u hu => by simp at hu; rcases hu with rfl | rfl <;> rfl) (by decide) (by decide) (by simp) ?_; intro v1 w1 o1 f1; have HO1 := hid o1; have HF1 := hid f1; clear o1 f1)
    go_ret
    refine ⟨v1, rfl, HO1.out, far_below HF1.out ((Below.refl _ _).alloc (Nat.le_refl _) _) (by simp) (fun g hg => by simp [Value.ownBlock] at hg)⟩
  | some a =>
    go_enter Tryd.func30, Tryd.ntmps30
    go_wp2_with (first
      | (have q := HO1; clear q; at_builtin; refine wpList_append_far (P := Tryd.prog) _ rfl _ _ 29 rfl w.heap.size 4 ii (.bool false) 1 1 Tryd.underlying29 HI.out.1 HI.out.2.1 HI.out.2.2.1 HI.out.2.2.2 rfl (by decide) v1 l.length (bo l) rfl (ownsRow_below HO1.out ((Below.refl _ _).alloc (Nat.le_refl _) _)) ⟨w1.heap.size, 0, none⟩ 2 2 [.bool true, .bool false] rfl rfl (fun j u hu => by rw [add_zero_addr, cell_row (heap_alloc_new w1 _)]; simpa using hu) (fun u hu => by simp at hu; rcases hu with rfl | rfl <;> rfl) (by have := hL.out; unfold maxLen; omega) (by have := hL.out; omega) (Nat.le_trans HB1.out.size (by simp)) ?_; intro v2 w2 o2 f2; have HO2 := hid o2; have HF2 := hid f2; clear o2 f2)
      | (at_builtin; refine wpList_append_far (P := Tryd.prog) w rfl _ _ 29 rfl w.heap.size 4 ii (.bool false) 1 1 Tryd.underlying29 HI.out.1 HI.out.2.1 HI.out.2.2.1 HI.out.2.2.2 rfl (by decide) (.slice none 0 0) 0 [] rfl (World.ownsRow_nil _ _ _ _) a l.length ca (bo l) rfl HLB.out (fun j u hu => by obtain ⟨g, o, e, _, hc⟩ := HA.out.at_ j u hu; cases e; rw [add_addr]; exact hc) HO.out (by have := hL.out; unfold maxLen; omega) (by have := hL.out; omega) (Nat.le_refl _) ?_; intro v1 w1 o1 f1; rw [Nat.zero_add, List.nil_append] at o1; have HO1 := hid o1; have HB1 : Hid (Below w.heap.size w w1) := far_below f1 (Below.refl _ _) (Nat.le_refl _) (fun g hg => by simp [Value.ownBlock] at hg); clear o1 f1))
    go_ret
    refine ⟨v2, rfl, by rw [HE.out]; exact HO2.out, far_below HF2.out (HB1.out.alloc HB1.out.size _) (Nat.le_trans HB1.out.size (by simp)) (fun g hg => (own_block HO1.out hg).1)⟩
end Go.Proofs.YtfmmmhcpdinhgaaDoor
/-
  What a line has, and what it has not, by the program's table.
-/
namespace Go.Proofs.YtfmmmhcpdinhgaaDoor
open Go.RowKit Go.Deep PureNet
set_option maxRecDepth 100000

set_option maxHeartbeats 1000000 in
theorem used_any (k : Nat) (g : Ga) (w : World) (hK : KindsAt w) (hk : g.kind = (k : Int)) (h1 : 1 ≤ k) (h4 : k ≤ 4) :
    Calls Tryd.prog 104 #[.agg #[.int .i64 g.kind, .string g.name, .int .i64 g.op, .int .i64 g.a, .int .i64 g.b, .int .i64 g.c]] w fun e w' => ∃ b, e = .returned (.slice (some ⟨b, 0, none⟩) (usesN k) 3) ∧ w.heap.size ≤ b ∧ w'.heap[b]? = some (.cells #[.int .i64 g.a, .int .i64 g.b, .int .i64 g.c] 3 (0, 0)) ∧ Below w.heap.size w w' := by
  have hu : usesN k ≤ 3 := by unfold usesN; (repeat' split) <;> omega
  obtain ⟨x, hx⟩ : ∃ x, x = w.alloc (Obj.cells #[Value.int .i64 (k : Int), .string g.name, .int .i64 g.op, .int .i64 g.a, .int .i64 g.b, .int .i64 g.c] 38) := ⟨_, rfl⟩
  have BX : Hid (Below w.heap.size w x) := by rw [hx]; exact (Below.refl _ _).alloc (Nat.le_refl _) _
  have hsz : x.heap.size = w.heap.size + 1 := by rw [hx]; simp
  have C0 : Hid (x.heap[w.heap.size]? = some (.cells #[Value.int .i64 (k : Int), .string g.name, .int .i64 g.op, .int .i64 g.a, .int .i64 g.b, .int .i64 g.c] 38 (0, 0))) := by rw [hx]; exact heap_alloc_new w _
  have KS : Hid (∀ W, Below x.heap.size x W → W.cell? ⟨w.heap.size, 0, none⟩ = some (.int .i64 (k : Int)) ∧ W.cell? ⟨w.heap.size, 3, none⟩ = some (.int .i64 g.a) ∧ W.cell? ⟨w.heap.size, 4, none⟩ = some (.int .i64 g.b) ∧ W.cell? ⟨w.heap.size, 5, none⟩ = some (.int .i64 g.c) ∧ W.cell? ⟨0, k * 3 + 2, none⟩ = some (.int .i64 (usesN k : Int))) := fun W hW => by
    have h2 := (hW.block _ (Array.getElem?_eq_some_iff.1 C0.out).1).trans C0.out
    exact ⟨cell_row h2 0, cell_row h2 3, cell_row h2 4, cell_row h2 5, ((hK.on BX.out).on hW).uses k h1 h4⟩
  have HX := hid hx
  rw [hk]
  clear hx hK hk
  go_enter Tryd.func104, Tryd.ntmps104
  go_wp2_with (rw [← HX.out])
  refine wp_region_noPanic ?_
  refine wp_region_held_drew (S := fun W => W.cell? ⟨w.heap.size, 0, none⟩ = some (.int .i64 (k : Int)) ∧ W.cell? ⟨w.heap.size, 3, none⟩ = some (.int .i64 g.a) ∧ W.cell? ⟨w.heap.size, 4, none⟩ = some (.int .i64 g.b) ∧ W.cell? ⟨w.heap.size, 5, none⟩ = some (.int .i64 g.c) ∧ W.cell? ⟨0, k * 3 + 2, none⟩ = some (.int .i64 (usesN k : Int))) (by kernel_rfl) (KS.out _ (by first | exact (Below.refl _ _).drew | exact ((Below.refl _ _).alloc (Nat.le_refl _) _).drew)) (fun hHeld => ?_)
  refine wpAnyH_take (i := 0) (v := ?_) (by simp only [List.getElem?_toArray, List.getElem?_cons_zero]; rfl) (by kernel_rfl) (by kernel_rfl) (by kernel_rfl) (fun _ _ _ h => h) (Or.inl ⟨by rfl, ?_⟩) (by assumption) ?_
  rotate_left 1
  · intro w hSw; (try dsimp only at hSw); go_simp; (try with_reducible rfl)
  try simp only [Act.put, List.setIfInBounds_toArray, List.set_cons_zero, List.set_cons_succ]
  refine wpAnyH_take (i := 1) (v := ?_) (by simp only [List.getElem?_toArray, List.getElem?_cons_succ, List.getElem?_cons_zero]; rfl) (by kernel_rfl) (by kernel_rfl) (by kernel_rfl) (fun _ _ _ h => h) (Or.inl ⟨by rfl, ?_⟩) (by assumption) ?_
  rotate_left 1
  · intro w hSw; (try dsimp only at hSw); go_simp; (try with_reducible rfl)
  try simp only [Act.put, List.setIfInBounds_toArray, List.set_cons_zero, List.set_cons_succ]
  refine wpAnyH_take (i := 2) (v := ?_) (by simp only [List.getElem?_toArray, List.getElem?_cons_succ, List.getElem?_cons_zero]; rfl) (by kernel_rfl) (by kernel_rfl) (by kernel_rfl) (fun _ _ _ h => h) (Or.inl ⟨by rfl, ?_⟩) (by assumption) ?_
  rotate_left 1
  · intro w hSw; (try dsimp only at hSw); go_simp; (try with_reducible rfl)
  try simp only [Act.put, List.setIfInBounds_toArray, List.set_cons_zero, List.set_cons_succ]
  refine wpAnyH_take (i := 3) (v := ?_) (by simp only [List.getElem?_toArray, List.getElem?_cons_succ, List.getElem?_cons_zero]; rfl) (by kernel_rfl) (by kernel_rfl) (by kernel_rfl) (fun _ _ _ h => h) (Or.inl ⟨by rfl, ?_⟩) (by assumption) ?_
  rotate_left 1
  · intro w hSw; (try dsimp only at hSw); go_simp; (try with_reducible rfl)
  try simp only [Act.put, List.setIfInBounds_toArray, List.set_cons_zero, List.set_cons_succ]
  refine wpAnyH_take (i := 4) (v := ?_) (by simp only [List.getElem?_toArray, List.getElem?_cons_succ, List.getElem?_cons_zero]; rfl) (by kernel_rfl) (by kernel_rfl) (by kernel_rfl) (fun _ _ _ h => h) (Or.inl ⟨by rfl, ?_⟩) (by assumption) ?_
  rotate_left 1
  · intro w hSw; (try dsimp only at hSw); go_simp; (try with_reducible rfl)
  try simp only [Act.put, List.setIfInBounds_toArray, List.set_cons_zero, List.set_cons_succ]
  refine wpAnyH_take (i := 5) (v := ?_) (by simp only [List.getElem?_toArray, List.getElem?_cons_succ, List.getElem?_cons_zero]; rfl) (by kernel_rfl) (by kernel_rfl) (by kernel_rfl) (fun _ _ _ h => h) (Or.inl ⟨by rfl, ?_⟩) (by assumption) ?_
  rotate_left 1
  · intro w hSw; (try dsimp only at hSw); go_simp; (try with_reducible rfl)
  try simp only [Act.put, List.setIfInBounds_toArray, List.set_cons_zero, List.set_cons_succ]
  refine wpAnyH_take (i := 7) (v := ?_) (by simp only [List.getElem?_toArray, List.getElem?_cons_succ, List.getElem?_cons_zero]; rfl) (by kernel_rfl) (by kernel_rfl) (by kernel_rfl) (fun _ _ _ h => h) (Or.inl ⟨by rfl, ?_⟩) (by assumption) ?_
  rotate_left 1
  · intro w hSw; (try dsimp only at hSw); go_simp; (try with_reducible rfl)
  try simp only [Act.put, List.setIfInBounds_toArray, List.set_cons_zero, List.set_cons_succ]
  refine wpAnyH_take (i := 8) (v := ?_) (by simp only [List.getElem?_toArray, List.getElem?_cons_succ, List.getElem?_cons_zero]; rfl) (by kernel_rfl) (by kernel_rfl) (by kernel_rfl) (fun _ _ _ h => h) (Or.inl ⟨by rfl, ?_⟩) (by assumption) ?_
  rotate_left 1
  · intro w hSw; (try dsimp only at hSw); go_simp; (try with_reducible rfl)
  try simp only [Act.put, List.setIfInBounds_toArray, List.set_cons_zero, List.set_cons_succ]
  refine wpAnyH_take (i := 9) (v := .pointer (some ⟨0, k * 3, none⟩)) (by simp only [List.getElem?_toArray, List.getElem?_cons_succ, List.getElem?_cons_zero]; rfl) (by kernel_rfl) (by kernel_rfl) (by kernel_rfl) (fun _ _ _ h => h) (Or.inl ⟨by rfl, ?_⟩) (by assumption) ?_
  · intro w hSw; (try dsimp only at hSw); (try go_simp); (intro h9; omega)
  try simp only [Act.put, List.setIfInBounds_toArray, List.set_cons_zero, List.set_cons_succ]
  refine wpAnyH_take (i := 10) (v := ?_) (by simp only [List.getElem?_toArray, List.getElem?_cons_succ, List.getElem?_cons_zero]; rfl) (by kernel_rfl) (by kernel_rfl) (by kernel_rfl) (fun _ _ _ h => h) (Or.inl ⟨by rfl, ?_⟩) (by assumption) ?_
  rotate_left 1
  · intro w hSw; (try dsimp only at hSw); go_simp; (try with_reducible rfl)
  try simp only [Act.put, List.setIfInBounds_toArray, List.set_cons_zero, List.set_cons_succ]
  refine wpAnyH_take (i := 11) (v := ?_) (by simp only [List.getElem?_toArray, List.getElem?_cons_succ, List.getElem?_cons_zero]; rfl) (by kernel_rfl) (by kernel_rfl) (by kernel_rfl) (fun _ _ _ h => h) (Or.inl ⟨by rfl, ?_⟩) (by assumption) ?_
  rotate_left 1
  · intro w hSw; (try dsimp only at hSw); go_simp; (try with_reducible rfl)
  try simp only [Act.put, List.setIfInBounds_toArray, List.set_cons_zero, List.set_cons_succ]
  refine wpAnyH_ready (rs := [6]) (by kernel_rfl) (by simp) ?_
  refine AllReadyH.cons (by simp only [List.getElem?_toArray, List.getElem?_cons_succ, List.getElem?_cons_zero]; rfl) (fun K hK => ?_) AllReadyH.nil
  go_simp
  clear hHeld
  refine hK.out _ _ (KS.out _ (by first | exact (Below.refl _ _).drew | exact ((Below.refl _ _).alloc (Nat.le_refl _) _).drew)) (fun hHeld => ?_)
  clear hK K
  try simp only [Act.put, List.setIfInBounds_toArray, List.set_cons_zero, List.set_cons_succ]
  refine wpAnyH_take (i := 12) (v := .slice (some ⟨x.heap.size, 0, none⟩) (usesN k) 3) (by simp only [List.getElem?_toArray, List.getElem?_cons_succ, List.getElem?_cons_zero]; rfl) (by kernel_rfl) (by kernel_rfl) (by kernel_rfl) (fun _ _ _ h => h) (Or.inl ⟨by rfl, ?_⟩) (by assumption) ?_
  · intro w hSw; (try dsimp only at hSw); (try go_simp); (first | done | (with_reducible rfl) | omega | (rw [if_pos (by omega), HSV.out, hsz]) | (rw [if_pos (by omega)]))
  try simp only [Act.put, List.setIfInBounds_toArray, List.set_cons_zero, List.set_cons_succ]
  refine wpAnyH_take (i := 13) (v := ?_) (by simp only [List.getElem?_toArray, List.getElem?_cons_succ, List.getElem?_cons_zero]; rfl) (by kernel_rfl) (by kernel_rfl) (by kernel_rfl) (fun _ _ _ h => h) (Or.inl ⟨by rfl, ?_⟩) (by assumption) ?_
  rotate_left 1
  · intro w hSw; (try dsimp only at hSw); go_simp; (try with_reducible rfl)
  try simp only [Act.put, List.setIfInBounds_toArray, List.set_cons_zero, List.set_cons_succ]
  refine wpAnyH_done (by kernel_rfl) ?_ _
  refine NoPanic.normal ?_
  go_wp2
  refine bodyPost_ret (v := .slice (some ⟨x.heap.size, 0, none⟩) (usesN k) 3) (by simp [results, Tryd.results104, go_sem]) rfl ⟨x.heap.size, rfl, by omega, heap_alloc_new _ _, BX.out.trans (((Below.refl x.heap.size x).alloc (Nat.le_refl _) _).drew.mono (by omega))⟩
set_option maxHeartbeats 1000000 in
theorem unused_any (k : Nat) (g : Ga) (w : World) (hK : KindsAt w) (hk : g.kind = (k : Int)) (h1 : 1 ≤ k) (h4 : k ≤ 4) :
    Calls Tryd.prog 107 #[.agg #[.int .i64 g.kind, .string g.name, .int .i64 g.op, .int .i64 g.a, .int .i64 g.b, .int .i64 g.c]] w fun e w' => ∃ b sv, e = .returned (.slice sv (3 - usesN k) (3 - usesN k)) ∧ (usesN k < 3 → sv = some ⟨b, usesN k, none⟩) ∧ w.heap.size ≤ b ∧ w'.heap[b]? = some (.cells #[.int .i64 g.a, .int .i64 g.b, .int .i64 g.c] 3 (0, 0)) ∧ Below w.heap.size w w' := by
  have hu : usesN k ≤ 3 := by unfold usesN; (repeat' split) <;> omega
  obtain ⟨x, hx⟩ : ∃ x, x = w.alloc (Obj.cells #[Value.int .i64 (k : Int), .string g.name, .int .i64 g.op, .int .i64 g.a, .int .i64 g.b, .int .i64 g.c] 38) := ⟨_, rfl⟩
  have BX : Hid (Below w.heap.size w x) := by rw [hx]; exact (Below.refl _ _).alloc (Nat.le_refl _) _
  have hsz : x.heap.size = w.heap.size + 1 := by rw [hx]; simp
  have C0 : Hid (x.heap[w.heap.size]? = some (.cells #[Value.int .i64 (k : Int), .string g.name, .int .i64 g.op, .int .i64 g.a, .int .i64 g.b, .int .i64 g.c] 38 (0, 0))) := by rw [hx]; exact heap_alloc_new w _
  have KS : Hid (∀ W, Below x.heap.size x W → W.cell? ⟨w.heap.size, 0, none⟩ = some (.int .i64 (k : Int)) ∧ W.cell? ⟨w.heap.size, 3, none⟩ = some (.int .i64 g.a) ∧ W.cell? ⟨w.heap.size, 4, none⟩ = some (.int .i64 g.b) ∧ W.cell? ⟨w.heap.size, 5, none⟩ = some (.int .i64 g.c) ∧ W.cell? ⟨0, k * 3 + 2, none⟩ = some (.int .i64 (usesN k : Int))) := fun W hW => by
    have h2 := (hW.block _ (Array.getElem?_eq_some_iff.1 C0.out).1).trans C0.out
    exact ⟨cell_row h2 0, cell_row h2 3, cell_row h2 4, cell_row h2 5, ((hK.on BX.out).on hW).uses k h1 h4⟩
  have HX := hid hx
  obtain ⟨sv, hsv⟩ : ∃ sv : Option Addr, sv = (if 3 = usesN k then some ⟨x.heap.size, 0, none⟩ else some ⟨x.heap.size, usesN k, none⟩) := ⟨_, rfl⟩
  have HSV := hid hsv
  clear hsv
  rw [hk]
  clear hx hK hk
  go_enter Tryd.func107, Tryd.ntmps107
  go_wp2_with (rw [← HX.out])
  refine wp_region_noPanic ?_
  refine wp_region_held_drew (S := fun W => W.cell? ⟨w.heap.size, 0, none⟩ = some (.int .i64 (k : Int)) ∧ W.cell? ⟨w.heap.size, 3, none⟩ = some (.int .i64 g.a) ∧ W.cell? ⟨w.heap.size, 4, none⟩ = some (.int .i64 g.b) ∧ W.cell? ⟨w.heap.size, 5, none⟩ = some (.int .i64 g.c) ∧ W.cell? ⟨0, k * 3 + 2, none⟩ = some (.int .i64 (usesN k : Int))) (by kernel_rfl) (KS.out _ (by first | exact (Below.refl _ _).drew | exact ((Below.refl _ _).alloc (Nat.le_refl _) _).drew)) (fun hHeld => ?_)
  refine wpAnyH_take (i := 0) (v := ?_) (by simp only [List.getElem?_toArray, List.getElem?_cons_zero]; rfl) (by kernel_rfl) (by kernel_rfl) (by kernel_rfl) (fun _ _ _ h => h) (Or.inl ⟨by rfl, ?_⟩) (by assumption) ?_
  rotate_left 1
  · intro w hSw; (try dsimp only at hSw); go_simp; (try with_reducible rfl)
  try simp only [Act.put, List.setIfInBounds_toArray, List.set_cons_zero, List.set_cons_succ]
  refine wpAnyH_take (i := 1) (v := ?_) (by simp only [List.getElem?_toArray, List.getElem?_cons_succ, List.getElem?_cons_zero]; rfl) (by kernel_rfl) (by kernel_rfl) (by kernel_rfl) (fun _ _ _ h => h) (Or.inl ⟨by rfl, ?_⟩) (by assumption) ?_
  rotate_left 1
  · intro w hSw; (try dsimp only at hSw); go_simp; (try with_reducible rfl)
  try simp only [Act.put, List.setIfInBounds_toArray, List.set_cons_zero, List.set_cons_succ]
  refine wpAnyH_take (i := 2) (v := ?_) (by simp only [List.getElem?_toArray, List.getElem?_cons_succ, List.getElem?_cons_zero]; rfl) (by kernel_rfl) (by kernel_rfl) (by kernel_rfl) (fun _ _ _ h => h) (Or.inl ⟨by rfl, ?_⟩) (by assumption) ?_
  rotate_left 1
  · intro w hSw; (try dsimp only at hSw); go_simp; (try with_reducible rfl)
  try simp only [Act.put, List.setIfInBounds_toArray, List.set_cons_zero, List.set_cons_succ]
  refine wpAnyH_take (i := 3) (v := ?_) (by simp only [List.getElem?_toArray, List.getElem?_cons_succ, List.getElem?_cons_zero]; rfl) (by kernel_rfl) (by kernel_rfl) (by kernel_rfl) (fun _ _ _ h => h) (Or.inl ⟨by rfl, ?_⟩) (by assumption) ?_
  rotate_left 1
  · intro w hSw; (try dsimp only at hSw); go_simp; (try with_reducible rfl)
  try simp only [Act.put, List.setIfInBounds_toArray, List.set_cons_zero, List.set_cons_succ]
  refine wpAnyH_take (i := 4) (v := ?_) (by simp only [List.getElem?_toArray, List.getElem?_cons_succ, List.getElem?_cons_zero]; rfl) (by kernel_rfl) (by kernel_rfl) (by kernel_rfl) (fun _ _ _ h => h) (Or.inl ⟨by rfl, ?_⟩) (by assumption) ?_
  rotate_left 1
  · intro w hSw; (try dsimp only at hSw); go_simp; (try with_reducible rfl)
  try simp only [Act.put, List.setIfInBounds_toArray, List.set_cons_zero, List.set_cons_succ]
  refine wpAnyH_take (i := 5) (v := ?_) (by simp only [List.getElem?_toArray, List.getElem?_cons_succ, List.getElem?_cons_zero]; rfl) (by kernel_rfl) (by kernel_rfl) (by kernel_rfl) (fun _ _ _ h => h) (Or.inl ⟨by rfl, ?_⟩) (by assumption) ?_
  rotate_left 1
  · intro w hSw; (try dsimp only at hSw); go_simp; (try with_reducible rfl)
  try simp only [Act.put, List.setIfInBounds_toArray, List.set_cons_zero, List.set_cons_succ]
  refine wpAnyH_take (i := 7) (v := ?_) (by simp only [List.getElem?_toArray, List.getElem?_cons_succ, List.getElem?_cons_zero]; rfl) (by kernel_rfl) (by kernel_rfl) (by kernel_rfl) (fun _ _ _ h => h) (Or.inl ⟨by rfl, ?_⟩) (by assumption) ?_
  rotate_left 1
  · intro w hSw; (try dsimp only at hSw); go_simp; (try with_reducible rfl)
  try simp only [Act.put, List.setIfInBounds_toArray, List.set_cons_zero, List.set_cons_succ]
  refine wpAnyH_take (i := 8) (v := ?_) (by simp only [List.getElem?_toArray, List.getElem?_cons_succ, List.getElem?_cons_zero]; rfl) (by kernel_rfl) (by kernel_rfl) (by kernel_rfl) (fun _ _ _ h => h) (Or.inl ⟨by rfl, ?_⟩) (by assumption) ?_
  rotate_left 1
  · intro w hSw; (try dsimp only at hSw); go_simp; (try with_reducible rfl)
  try simp only [Act.put, List.setIfInBounds_toArray, List.set_cons_zero, List.set_cons_succ]
  refine wpAnyH_take (i := 9) (v := .pointer (some ⟨0, k * 3, none⟩)) (by simp only [List.getElem?_toArray, List.getElem?_cons_succ, List.getElem?_cons_zero]; rfl) (by kernel_rfl) (by kernel_rfl) (by kernel_rfl) (fun _ _ _ h => h) (Or.inl ⟨by rfl, ?_⟩) (by assumption) ?_
  · intro w hSw; (try dsimp only at hSw); (try go_simp); (intro h9; omega)
  try simp only [Act.put, List.setIfInBounds_toArray, List.set_cons_zero, List.set_cons_succ]
  refine wpAnyH_take (i := 10) (v := ?_) (by simp only [List.getElem?_toArray, List.getElem?_cons_succ, List.getElem?_cons_zero]; rfl) (by kernel_rfl) (by kernel_rfl) (by kernel_rfl) (fun _ _ _ h => h) (Or.inl ⟨by rfl, ?_⟩) (by assumption) ?_
  rotate_left 1
  · intro w hSw; (try dsimp only at hSw); go_simp; (try with_reducible rfl)
  try simp only [Act.put, List.setIfInBounds_toArray, List.set_cons_zero, List.set_cons_succ]
  refine wpAnyH_take (i := 11) (v := ?_) (by simp only [List.getElem?_toArray, List.getElem?_cons_succ, List.getElem?_cons_zero]; rfl) (by kernel_rfl) (by kernel_rfl) (by kernel_rfl) (fun _ _ _ h => h) (Or.inl ⟨by rfl, ?_⟩) (by assumption) ?_
  rotate_left 1
  · intro w hSw; (try dsimp only at hSw); go_simp; (try with_reducible rfl)
  try simp only [Act.put, List.setIfInBounds_toArray, List.set_cons_zero, List.set_cons_succ]
  refine wpAnyH_ready (rs := [6]) (by kernel_rfl) (by simp) ?_
  refine AllReadyH.cons (by simp only [List.getElem?_toArray, List.getElem?_cons_succ, List.getElem?_cons_zero]; rfl) (fun K hK => ?_) AllReadyH.nil
  go_simp
  clear hHeld
  refine hK.out _ _ (KS.out _ (by first | exact (Below.refl _ _).drew | exact ((Below.refl _ _).alloc (Nat.le_refl _) _).drew)) (fun hHeld => ?_)
  clear hK K
  try simp only [Act.put, List.setIfInBounds_toArray, List.set_cons_zero, List.set_cons_succ]
  refine wpAnyH_take (i := 12) (v := .slice sv (3 - usesN k) (3 - usesN k)) (by simp only [List.getElem?_toArray, List.getElem?_cons_succ, List.getElem?_cons_zero]; rfl) (by kernel_rfl) (by kernel_rfl) (by kernel_rfl) (fun _ _ _ h => h) (Or.inl ⟨by rfl, ?_⟩) (by assumption) ?_
  · intro w hSw; (try dsimp only at hSw); (try go_simp); (first | done | (with_reducible rfl) | omega | (rw [if_pos (by omega), HSV.out, hsz]) | (rw [if_pos (by omega)]))
  try simp only [Act.put, List.setIfInBounds_toArray, List.set_cons_zero, List.set_cons_succ]
  refine wpAnyH_take (i := 13) (v := ?_) (by simp only [List.getElem?_toArray, List.getElem?_cons_succ, List.getElem?_cons_zero]; rfl) (by kernel_rfl) (by kernel_rfl) (by kernel_rfl) (fun _ _ _ h => h) (Or.inl ⟨by rfl, ?_⟩) (by assumption) ?_
  rotate_left 1
  · intro w hSw; (try dsimp only at hSw); go_simp; (try with_reducible rfl)
  try simp only [Act.put, List.setIfInBounds_toArray, List.set_cons_zero, List.set_cons_succ]
  refine wpAnyH_done (by kernel_rfl) ?_ _
  refine NoPanic.normal ?_
  go_wp2
  refine bodyPost_ret (v := .slice sv (3 - usesN k) (3 - usesN k)) (by simp [results, Tryd.results107, go_sem]) rfl ⟨x.heap.size, sv, rfl, (fun h3 => by rw [HSV.out, if_neg (by omega)]), by omega, heap_alloc_new _ _, BX.out.trans (((Below.refl x.heap.size x).alloc (Nat.le_refl _) _).drew.mono (by omega))⟩
end Go.Proofs.YtfmmmhcpdinhgaaDoor
