import Derived.Test.YtfmmmhcpdinhgaaDoorZ22
/-
  The document's own Step.
-/
namespace Go.Proofs.YtfmmmhcpdinhgaaDoor
open Go.RowKit Go.Deep PureNet ShfKit
set_option maxRecDepth 100000

/-- append of a truth to one of several rows. -/
theorem fam_bit {ops : Array Oper} {rest : List Oper} {o : Oper} {a : Act} {Q : Exit → Act → World → Prop} {w W : World} {L : List Rw} (hgd : o.guard = none) (sl y : Operand)
    (ho : o.op = .call { callee := .builtin .append, args := #[sl, y], argTypes := #[29, 29] }) (hF : Fam W w.heap.size 4 1 L) (hB : Below w.heap.size w W) (i : Nat) (x : Rw) (hx : L[i]? = some x) (u : Bool) (t : TypeId) (ad : Nat) (had : ad = W.heap.size)
    (hs : a.eval sl = x.1) (hy : a.eval y = .slice (some ⟨ad, 0, none⟩) 1 1) (hn : x.2.1 ≤ 1099511627776)
    (hK : ∀ sx cx w', Fam w' w.heap.size 4 1 (L.set i (.slice sx (x.2.1 + 1) cx, x.2.1 + 1, x.2.2 ++ [.bool u])) → Below w.heap.size w w' → (∀ (k : Nat) (cs : Array Value) (tt : Nat) (fz : Nat × Nat), W.heap[k]? = some (Obj.cells cs tt fz) → tt ≠ 4 → w'.heap[k]? = some (Obj.cells cs tt fz)) → wpList Tryd.prog ops Q rest (a.put o.dst (.slice sx (x.2.1 + 1) cx)) w') :
    wpList Tryd.prog ops Q (o :: rest) a (W.alloc (.cells #[.bool u] t)) := by
  subst had
  obtain ⟨ii, hi, hz0, hz1, hz2⟩ := info_parts info4
  have hb2 : Below W.heap.size W (W.alloc (.cells #[.bool u] t)) := (Below.refl _ _).alloc (Nat.le_refl _) _
  have hF2 := hF.below hb2
  have hB2 : Below w.heap.size w (W.alloc (.cells #[.bool u] t)) := hB.trans (hb2.mono hB.size)
  have hown := hF2.own i x hx
  refine wpList_append_far (P := Tryd.prog) (W.alloc (.cells #[.bool u] t)) hgd sl y 29 ho w.heap.size 4 ii (.bool false) 1 1 Tryd.underlying29 hi hz0 hz1 hz2 rfl (by decide) x.1 x.2.1 x.2.2 hs hown ⟨W.heap.size, 0, none⟩ 1 1 [.bool u] hy rfl (fun j v hv => by
      rw [add_zero_addr, cell_row (heap_alloc_new W _)]
      simpa using hv) (fun v hv => by simp at hv; subst hv; rfl) (by unfold maxLen; omega) (by omega) hB2.size ?_
  intro v' w' o1 hf
  obtain ⟨sx, cx, rfl⟩ := own_shape o1
  have hgr : (∃ g, (W.alloc (.cells #[.bool u] t)).grownBy w' g ∧ ∀ k, g = some k → x.1.ownBlock = some k) := by
    rcases hf with ⟨_, hg⟩ | ⟨_, hg⟩
    · exact ⟨_, hg, fun k e => e⟩
    · exact ⟨none, hg, fun k e => by cases e⟩
  obtain ⟨g, hg, hgx⟩ := hgr
  refine hK sx cx w' (hF2.turn (y := (.slice sx (x.2.1 + 1) cx, x.2.1 + 1, x.2.2 ++ [.bool u])) hx o1 hf) (hB2.grown hg hB2.size (fun k e => (own_block hown (hgx k e)).1)) (fun k cs tt fz hk htt => ?_)
  have h1 : (W.alloc (.cells #[.bool u] t)).heap[k]? = some (Obj.cells cs tt fz) := (hb2.block k (Array.getElem?_eq_some_iff.1 hk).1).trans hk
  refine (hg.block k (Array.getElem?_eq_some_iff.1 h1).1 (fun e => ?_)).trans h1
  exact own_ne hown h1 htt (hgx k e.symm)
theorem fam_base {W : World} {B B' e size : Nat} {L : List Rw} (h : Fam W B e size L) (hB : B' ≤ B) : Fam W B' e size L := ⟨fun i x hx => own_base (h.own i x hx) hB, h.apart⟩
theorem fam_drop1 {W : World} {B e size : Nat} {x : Rw} {L : List Rw} (h : Fam W B e size (x :: L)) : Fam W B e size L := ⟨fun i y hy => h.own (i + 1) y (by simpa using hy), fun i j y z g hy hz hij hg => h.apart (i + 1) (j + 1) y z g (by simpa using hy) (by simpa using hz) (by omega) hg⟩
theorem bo_snoc (L : List Bool) (b : Bool) : bo (L ++ [b]) = bo L ++ [.bool b] := by simp [bo]
/-- what goes into the latches of the first i lines. -/
def nextTo (l : List Ga) (v : List Bool) (i : Nat) : List Bool := ((l.take i).filter fun g => decide (g.kind = 3)).map fun g => valAt v g.a
theorem nextTo_succ {l : List Ga} {v : List Bool} {i : Nat} {g : Ga} (h : l[i]? = some g) : nextTo l v (i + 1) = nextTo l v i ++ (if g.kind = 3 then [valAt v g.a] else []) := by
  unfold nextTo
  rw [List.take_add_one, h]
  simp only [Option.toList_some, List.filter_append, List.map_append]
  congr 1
  by_cases e : g.kind = 3 <;> simp [e]
theorem nextTo_len (l : List Ga) (v : List Bool) (i : Nat) : (nextTo l v i).length ≤ i := by
  unfold nextTo
  rw [List.length_map]
  exact Nat.le_trans (List.length_filter_le _ _) (by simp; omega)
theorem lineB_latch {g : Ga} {n : Nat} (h : lineB g n = true) (h3 : g.kind = 3) : 0 ≤ g.a ∧ g.a < (n : Int) := by
  simp only [lineB, Bool.and_eq_true, decide_eq_true_eq, fieldB, h3] at h
  have := h.1.1.2
  simpa using this
/-- what Step answers. -/
def StepIs (c : Net) (ins las : List Bool) (B : Nat) (e : Ending) (w' : World) : Prop :=
  (¬ PureNet.Formed c ∧ e = .returned (.tuple #[.slice none 0 0, .slice none 0 0, .int .i64 144])) ∨
  (PureNet.Formed c ∧ ¬ (ins.length = cnt 1 c.gates ∧ las.length = cnt 3 c.gates) ∧ e = .returned (.tuple #[.slice none 0 0, .slice none 0 0, .int .i64 1])) ∨
  (PureNet.Formed c ∧ ins.length = cnt 1 c.gates ∧ las.length = cnt 3 c.gates ∧ ∃ v o n, Vals c.gates ins las v ∧ e = .returned (.tuple #[o, n, .int .i64 0]) ∧ Fam w' B 4 1 [(o, (outsOf c v).length, bo (outsOf c v)), (n, (nextOf c v).length, bo (nextOf c v))])

set_option maxHeartbeats 2000000 in
set_option maxRecDepth 100000 in
theorem rstep_any (c : Net) (sg so : Option Addr) (cg co : Nat) (ins las : List Bool) (si sl : Option Addr) (ci cl : Nat) (w : World) (hc : CirAt w c sg so) (hn : c.name.size ≤ 140737488351232) (hns : ∀ g ∈ c.gates, g.name.size ≤ 140737488351232) (hl : c.gates.length ≤ 1099511627776) (hlo : c.outs.length ≤ 1099511627776) (hi : CellsAt w si (bo ins)) (hla : CellsAt w sl (bo las)) :
    Calls Tryd.prog 31 #[cirV c sg cg so co, .slice si ins.length ci, .slice sl las.length cl] w fun e w' => StepIs c ins las w.heap.size e w' ∧ Below w.heap.size w w' := by
  have HC := hid hc
  have HI := hid hi
  have HLA := hid hla
  obtain ⟨cv, hcv⟩ : ∃ cv, cv = cirV c sg cg so co := ⟨_, rfl⟩
  obtain ⟨x, hx⟩ : ∃ x, x = w.alloc (Obj.cells #[Value.string c.name, Value.slice sg c.gates.length cg, Value.slice so c.outs.length co] 26) := ⟨_, rfl⟩
  have C0 : Hid (x.heap[w.heap.size]? = some (.cells #[Value.string c.name, Value.slice sg c.gates.length cg, Value.slice so c.outs.length co] 26 (0, 0))) := by rw [hx]; exact heap_alloc_new w _
  have BX : Hid (Below w.heap.size w x) := by rw [hx]; exact (Below.refl _ _).alloc (Nat.le_refl _) _
  have RD : Hid (∀ W, Below x.heap.size x W → (∀ j, W.cell? ⟨w.heap.size, j, none⟩ = (#[Value.string c.name, Value.slice sg c.gates.length cg, Value.slice so c.outs.length co] : Array Value)[j]?) ∧ w.heap.size < W.heap.size) := fun W hW => by
    have h2 := (hW.block _ (Array.getElem?_eq_some_iff.1 C0.out).1).trans C0.out
    exact ⟨fun j => cell_row h2 j, (Array.getElem?_eq_some_iff.1 h2).1⟩
  have FM := hid (formed_any c sg so cg co x (hc.below BX.out) hn hns hl hlo)
  have CN : Hid (∀ W k, Below x.heap.size x W → Calls Tryd.prog 60 #[cirV c sg cg so co, .int .i64 k] W fun e w' => e = .returned (.int .i64 (cnt k c.gates : Int)) ∧ Below W.heap.size W w') := fun W k hW => rcount_any c sg so cg co k W ((HC.out.gates.below BX.out).below hW) hl
  obtain ⟨d0, hb0⟩ := RD.out x (Below.refl _ _)
  have HX := hid hx
  clear hc hi hla hx hns hcv cv
  by_cases hf : PureNet.Formed c
  · have HFD := hid hf
    have hfew := hf.few
    have hfewo := hf.fewOuts
    have h1le := cnt_take_le_i 1 c.gates c.gates.length
    have h3le := cnt_take_le_i 3 c.gates c.gates.length
    rw [List.take_length] at h1le h3le
    have CN1 := hid (fun W hW => CN.out W 1 hW)
    have CN3 := hid (fun W hW => CN.out W 3 hW)
    obtain ⟨m1, hm1⟩ : ∃ m, m = cnt 1 c.gates := ⟨_, rfl⟩
    obtain ⟨m3, hm3⟩ : ∃ m, m = cnt 3 c.gates := ⟨_, rfl⟩
    obtain ⟨n, hnn⟩ : ∃ n, n = c.gates.length := ⟨_, rfl⟩
    obtain ⟨no, hno⟩ : ∃ no, no = c.outs.length := ⟨_, rfl⟩
    have HM1 := hid hm1
    have HM3 := hid hm3
    have HN := hid hnn
    have HNO := hid hno
    rw [← hm1] at CN1 h1le
    rw [← hm3] at CN3 h3le
    rw [← hnn] at h1le h3le hfew hl
    rw [← hno] at hfewo hlo
    have VL : Hid (∀ W, ins.length = m1 → las.length = m3 → ∀ v, Vals c.gates ins las v → Below x.heap.size x W → Calls Tryd.prog 61 #[cirV c sg cg so co, .slice si ins.length ci, .slice sl las.length cl] W fun e w' => ∃ b n', W.heap.size ≤ b ∧ n' = n ∧ e = .returned (.slice (some ⟨b, 0, none⟩) n' n') ∧ w'.heap[b]? = some (.cells (bo v).toArray 4 (0, 0)) ∧ Below W.heap.size W w') := fun W e1 e3 v hv hW => by
      rw [HN.out]
      exact rvalues_any c sg so cg co ins las v si sl ci cl W HFD.out ((HC.out.gates.below BX.out).below hW) ((HI.out.below BX.out).below hW) ((HLA.out.below BX.out).below hW) (by rw [e1, HM1.out]; exact Nat.le_refl _) (by rw [e3, HM3.out]; exact Nat.le_refl _) (by omega) (by omega) hv
    clear hf CN
    show Calls Tryd.prog 31 #[.agg #[Value.string c.name, Value.slice sg c.gates.length cg, Value.slice so c.outs.length co], .slice si ins.length ci, .slice sl las.length cl] w _
    simp only [cirV, ← hnn, ← hno] at FM CN1 CN3 VL RD HX C0 d0 ⊢
    clear hm1 hm3 hnn hno
    go_enter Tryd.func31, Tryd.ntmps31
    by_cases h1 : ins.length = m1
    · by_cases h3 : las.length = m3
      · obtain ⟨v, hv⟩ := HFD.out.vals ins las
        have VL := hid (fun W hW => VL.out W h1 h3 v hv hW)
        have HV := hid hv
        have H1 := hid h1
        have H3 := hid h3
        have hb1e : ((ins.length : Int) != (m1 : Int)) = false := by rw [h1]; simp
        have hb3e : ((las.length : Int) != (m3 : Int)) = false := by rw [h3]; simp
        clear hv h1 h3
        go_wp2_with (first | (rw [← HX.out]) | (go_at_call 61; refine Calls.mono (VL.out w3 B3.out) ?_; rintro e w4 ⟨vb, n', hvb, hn', rfl, hrow, b4⟩; obtain rfl : n' = n := hn'; have B4 : Hid (Below x.heap.size x w4) := B3.out.trans (b4.mono B3.out.size); have HVR := hid hrow; have HVB := hid (Nat.le_trans B3.out.size hvb); clear b4 hrow hvb) | (go_at_call 60; refine Calls.mono (CN3.out w2 B2.out) ?_; rintro e w3 ⟨rfl, b3⟩; have B3 : Hid (Below x.heap.size x w3) := B2.out.trans (b3.mono B2.out.size); obtain ⟨d3, hb3⟩ := RD.out w3 B3.out; clear b3) | (go_at_call 60; refine Calls.mono (CN1.out w1 B1.out) ?_; rintro e w2 ⟨rfl, b2⟩; have B2 : Hid (Below x.heap.size x w2) := B1.out.trans (b2.mono B1.out.size); obtain ⟨d2, hb2⟩ := RD.out w2 B2.out; clear b2) | (go_at_call 28; refine Calls.mono FM.out ?_; rintro e w1 ⟨⟨bb, rfl, hbb⟩, b1⟩; obtain rfl : bb = true := hbb.2 HFD.out; have B1 := hid b1; obtain ⟨d1, hb1⟩ := RD.out w1 b1; clear hbb b1))
        have HFA : Hid (Fam w4 x.heap.size 4 1 [(.slice (some ⟨vb, 0, none⟩) n' n', n', bo v), (.slice none 0 0, 0, []), (.slice none 0 0, 0, [])]) := by
          have hvl : v.length = n' := by rw [HV.out.len, ← HN.out]
          refine ⟨fun i y hy => ?_, fun i j y z g hy hz hij hg => ?_⟩
          · match i with
            | 0 => simp at hy; subst hy; exact ⟨by simp [bo, hvl], .inr ⟨vb, n', (bo v).toArray, rfl, HVB.out, HVR.out, Nat.le_refl _, by unfold maxLen; omega, by simp [bo, hvl], by rw [Nat.mul_one]; exact List.take_of_length_le (by simp [bo, hvl])⟩⟩
            | 1 => simp at hy; subst hy; exact World.ownsRow_nil _ _ _ _
            | 2 => simp at hy; subst hy; exact World.ownsRow_nil _ _ _ _
            | i + 3 => simp at hy
          · match i with
            | 0 =>
              match j with
              | 0 => omega
              | 1 => simp at hz; subst hz; simp [Value.ownBlock]
              | 2 => simp at hz; subst hz; simp [Value.ownBlock]
              | j + 3 => simp at hz
            | 1 => simp at hy; subst hy; simp [Value.ownBlock] at hg
            | 2 => simp at hy; subst hy; simp [Value.ownBlock] at hg
            | i + 3 => simp at hy
        have HVL : Hid (v.length = n') := by show _ = _; rw [HV.out.len, ← HN.out]
        have HOL : Hid ((outsOf c v).length = no) := by show _ = _; simp [outsOf, HNO.out]
        clear hb1e hb3e d1 hb1 d2 hb2 d3 hb3 B1 B2 B3 VL CN1 CN3 FM
        go_loopw [6, 11] (fun ov iv W => ∃ i : Nat, i ≤ no ∧ iv = .int .i64 (i : Int) ∧ Hid (Fam W x.heap.size 4 1 [(.slice (some ⟨vb, 0, none⟩) n' n', n', bo v), (ov, i, bo ((outsOf c v).take i)), (.slice none 0 0, 0, [])] ∧ Below x.heap.size x W)) (fun ov iv _ => no - (intOf iv).toNat)
        case atStart => exact ⟨0, Nat.zero_le _, rfl, HFA.out, B4.out⟩
        case round =>
          obtain ⟨i, hi, rfl, HR⟩ := hrel
          clear HFA
          obtain ⟨e0, he0⟩ := RD.out wr HR.out.2
          obtain ⟨sv, cv, hsv⟩ := own_shape (HR.out.1.own 1 _ rfl)
          simp only at hsv
          subst hsv
          by_cases hlt : i < no
          · obtain ⟨y, hy⟩ : ∃ y, c.outs[i]? = some y := ⟨_, List.getElem?_eq_getElem (by rw [← HNO.out]; exact hlt)⟩
            obtain ⟨b, o, rfl, hb, a0⟩ := num_at ((HC.out.outs.below BX.out).below HR.out.2) i y hy
            have hyr := HFD.out.outs y (List.mem_of_getElem? hy)
            rw [← HN.out] at hyr
            obtain ⟨q, rfl⟩ : ∃ q : Nat, y = (q : Int) := ⟨y.toNat, by omega⟩
            have hqn : q < n' := by omega
            obtain ⟨xv, hxv⟩ : ∃ xv, v[q]? = some xv := ⟨_, List.getElem?_eq_getElem (by rw [HVL.out]; exact hqn)⟩
            obtain ⟨gv, cvv, hgv, _, hgl, cvc, _⟩ := own_cell (HR.out.1.own 0 _ rfl) (j := q) (x := .bool xv) (by simp [bo, hxv])
            simp only [Value.slice.injEq, Option.some.injEq, Addr.mk.injEq, and_true, true_and] at hgv
            obtain ⟨rfl, rfl⟩ := hgv
            have HTK : Hid (bo ((outsOf c v).take (i + 1)) = bo ((outsOf c v).take i) ++ [.bool xv]) := by
              show _ = _
              have : (outsOf c v)[i]? = some xv := by simp [outsOf, hy, valAt, hxv]
              rw [List.take_add_one, this]
              simp [bo]
            clear hy hxv hyr
            go_wp2_with (at_builtin; refine fam_bit rfl _ _ rfl HR.out.1 HR.out.2 1 _ rfl xv 4 _ rfl rfl rfl (by show i ≤ _; omega) ?_; intro sx cx w5 hf5 hb5 _; have HF5 := hid hf5; have HB5 := hid hb5; clear hf5 hb5)
            exact ⟨⟨i + 1, hlt, by go_num, by rw [HTK.out]; exact HF5.out, HB5.out⟩, by simp [intOf]; omega⟩
          · obtain rfl : i = no := by omega
            have HR1 : Hid (Fam wr x.heap.size 4 1 [(.slice (some ⟨vb, 0, none⟩) n' n', n', bo v), (.slice sv i cv, i, bo (outsOf c v)), (.slice none 0 0, (nextTo c.gates v 0).length, bo (nextTo c.gates v 0))] ∧ Below x.heap.size x wr) := by
              have h := HR.out
              rw [List.take_of_length_le (by rw [HOL.out]; exact Nat.le_refl _)] at h
              exact h
            clear HR
            go_wp2
            go_loopw [7, 12] (fun nv jv W => ∃ j : Nat, j ≤ n' ∧ jv = .int .i64 (j : Int) ∧ Hid (Fam W x.heap.size 4 1 [(.slice (some ⟨vb, 0, none⟩) n' n', n', bo v), (.slice sv i cv, i, bo (outsOf c v)), (nv, (nextTo c.gates v j).length, bo (nextTo c.gates v j))] ∧ Below x.heap.size x W)) (fun nv jv _ => n' - (intOf jv).toNat)
            case atStart => exact ⟨0, Nat.zero_le _, rfl, HR1.out⟩
            case round =>
              obtain ⟨j, hj, rfl, HR⟩ := hrel
              clear HR1 e0 he0
              obtain ⟨e0, he0⟩ := RD.out wr HR.out.2
              obtain ⟨sn, cn, hsn⟩ := own_shape (HR.out.1.own 2 _ rfl)
              simp only at hsn
              subst hsn
              have hnl := nextTo_len c.gates v j
              by_cases hlt2 : j < n'
              · obtain ⟨g, hg⟩ : ∃ g, c.gates[j]? = some g := ⟨_, List.getElem?_eq_getElem (by rw [← HN.out]; exact hlt2)⟩
                obtain ⟨b, o, rfl, hb, a0, a1, a2, a3, a4, a5⟩ := gate_at ((HC.out.gates.below BX.out).below HR.out.2) j g hg
                have HNX := hid (nextTo_succ (v := v) hg)
                by_cases e3 : g.kind = 3
                · have hyr := lineB_latch (HFD.out.lines j g hg).2 e3
                  rw [← HN.out] at hyr
                  obtain ⟨q, hq⟩ : ∃ q : Nat, g.a = (q : Int) := ⟨g.a.toNat, by omega⟩
                  have hqn : q < n' := by omega
                  obtain ⟨xv, hxv⟩ : ∃ xv, v[q]? = some xv := ⟨_, List.getElem?_eq_getElem (by rw [HVL.out]; exact hqn)⟩
                  obtain ⟨gv, cvv, hgv, _, hgl, cvc, _⟩ := own_cell (HR.out.1.own 0 _ rfl) (j := q) (x := .bool xv) (by simp [bo, hxv])
                  simp only [Value.slice.injEq, Option.some.injEq, Addr.mk.injEq, and_true, true_and] at hgv
                  obtain ⟨rfl, rfl⟩ := hgv
                  have HNX2 : Hid (nextTo c.gates v (j + 1) = nextTo c.gates v j ++ [xv]) := by
                    show _ = _
                    rw [HNX.out, if_pos e3, hq]
                    simp [valAt, hxv]
                  rw [e3] at a0
                  rw [hq] at a3
                  obtain ⟨L, hL⟩ : ∃ L, L = nextTo c.gates v j := ⟨_, rfl⟩
                  rw [← hL] at HNX2 HR hnl ⊢
                  clear hg hxv hyr hq HNX e3 hL
                  go_wp2_with (at_builtin; refine fam_bit rfl _ _ rfl HR.out.1 HR.out.2 2 _ rfl xv 4 _ rfl rfl rfl (by show L.length ≤ _; omega) ?_; intro sx cx w5 hf5 hb5 _; have HF5 := hid hf5; have HB5 := hid hb5; clear hf5 hb5)
                  exact ⟨⟨j + 1, hlt2, by go_num, by rw [HNX2.out, List.length_append, bo_snoc]; exact HF5.out, HB5.out⟩, by simp [intOf]; omega⟩
                · rw [if_neg e3, List.append_nil] at HNX
                  clear hg
                  go_wp2
                  exact ⟨⟨j + 1, hlt2, by go_num, by rw [HNX.out]; exact HR.out⟩, by simp [intOf]; omega⟩
              · obtain rfl : j = n' := by omega
                have HR2 : Hid (Fam wr x.heap.size 4 1 [(.slice sv i cv, (outsOf c v).length, bo (outsOf c v)), (.slice sn (nextTo c.gates v j).length cn, (nextOf c v).length, bo (nextOf c v))] ∧ Below x.heap.size x wr) := by
                  have h := HR.out
                  refine ⟨?_, h.2⟩
                  have h2 := fam_drop1 h.1
                  rw [HOL.out]
                  have e : nextTo c.gates v j = nextOf c v := by unfold nextTo nextOf; rw [List.take_of_length_le (by rw [HN.out]; exact Nat.le_refl _)]
                  rw [e] at h2 ⊢
                  exact h2
                obtain ⟨L, hL⟩ : ∃ L, L = (nextTo c.gates v j).length := ⟨_, rfl⟩
                rw [← hL] at HR2 hnl ⊢
                clear HR hL
                go_wp2
                exact bodyPost_ret (v := .tuple #[.slice sv i cv, .slice sn L cn, .int .i64 0]) (by simp [results, Tryd.results31, go_sem]) rfl ⟨.inr (.inr ⟨HFD.out, by rw [H1.out, HM1.out], by rw [H3.out, HM3.out], v, _, _, HV.out, rfl, fam_base HR2.out.1 BX.out.size⟩), BX.out.trans (HR2.out.2.mono BX.out.size)⟩
      · have HNE : Hid (¬ (ins.length = cnt 1 c.gates ∧ las.length = cnt 3 c.gates)) := fun h => h3 (by rw [HM3.out]; exact h.2)
        have hb1e : ((ins.length : Int) != (m1 : Int)) = false := by rw [h1]; simp
        have hb3e : ((las.length : Int) != (m3 : Int)) = true := by rw [bne_iff_ne]; omega
        clear h1 h3
        go_wp2_with (first | (rw [← HX.out]) | (go_at_call 60; refine Calls.mono (CN3.out w2 B2.out) ?_; rintro e w3 ⟨rfl, b3⟩; have B3 : Hid (Below x.heap.size x w3) := B2.out.trans (b3.mono B2.out.size); obtain ⟨d3, hb3⟩ := RD.out w3 B3.out; clear b3) | (go_at_call 60; refine Calls.mono (CN1.out w1 B1.out) ?_; rintro e w2 ⟨rfl, b2⟩; have B2 : Hid (Below x.heap.size x w2) := B1.out.trans (b2.mono B1.out.size); obtain ⟨d2, hb2⟩ := RD.out w2 B2.out; clear b2) | (go_at_call 28; refine Calls.mono FM.out ?_; rintro e w1 ⟨⟨bb, rfl, hbb⟩, b1⟩; obtain rfl : bb = true := hbb.2 HFD.out; have B1 := hid b1; obtain ⟨d1, hb1⟩ := RD.out w1 b1; clear hbb b1))
        exact bodyPost_ret (v := .tuple #[.slice none 0 0, .slice none 0 0, .int .i64 1]) (by simp [results, Tryd.results31, go_sem]) rfl ⟨.inr (.inl ⟨HFD.out, HNE.out, rfl⟩), BX.out.trans (B3.out.mono BX.out.size)⟩
    · have HNE : Hid (¬ (ins.length = cnt 1 c.gates ∧ las.length = cnt 3 c.gates)) := fun h => h1 (by rw [HM1.out]; exact h.1)
      have hb1e : ((ins.length : Int) != (m1 : Int)) = true := by rw [bne_iff_ne]; omega
      clear h1
      go_wp2_with (first | (rw [← HX.out]) | (go_at_call 60; refine Calls.mono (CN1.out w1 B1.out) ?_; rintro e w2 ⟨rfl, b2⟩; have B2 : Hid (Below x.heap.size x w2) := B1.out.trans (b2.mono B1.out.size); obtain ⟨d2, hb2⟩ := RD.out w2 B2.out; clear b2) | (go_at_call 28; refine Calls.mono FM.out ?_; rintro e w1 ⟨⟨bb, rfl, hbb⟩, b1⟩; obtain rfl : bb = true := hbb.2 HFD.out; have B1 := hid b1; obtain ⟨d1, hb1⟩ := RD.out w1 b1; clear hbb b1))
      exact bodyPost_ret (v := .tuple #[.slice none 0 0, .slice none 0 0, .int .i64 1]) (by simp [results, Tryd.results31, go_sem]) rfl ⟨.inr (.inl ⟨HFD.out, HNE.out, rfl⟩), BX.out.trans (B2.out.mono BX.out.size)⟩
  · have HNF := hid hf
    clear hf
    go_enter Tryd.func31, Tryd.ntmps31
    go_wp2_with (first | (rw [← HX.out]) | (go_at_call 28; refine Calls.mono FM.out ?_; rintro e w1 ⟨⟨bb, rfl, hbb⟩, b1⟩; obtain rfl : bb = false := (by cases bb with | false => rfl | true => exact absurd (hbb.1 rfl) HNF.out); have B1 := hid b1; clear hbb b1))
    exact bodyPost_ret (v := .tuple #[.slice none 0 0, .slice none 0 0, .int .i64 144]) (by simp [results, Tryd.results31, go_sem]) rfl ⟨.inl ⟨HNF.out, rfl⟩, BX.out.trans (B1.out.mono BX.out.size)⟩
end Go.Proofs.YtfmmmhcpdinhgaaDoor
/-
  The program's Step and First, and the document's, of any value.
-/
namespace Go.Proofs.YtfmmmhcpdinhgaaDoor
open Go.RowKit Go.Deep PureNet ShfKit
set_option maxRecDepth 100000

/-- what Step answers. -/
structure StepR (c : Net) (ins las O N : List Bool) (r : Int) : Prop where
  net : ¬ PureNet.Formed c → O = [] ∧ N = [] ∧ r = 144
  arg : PureNet.Formed c → ¬ (ins.length = cnt 1 c.gates ∧ las.length = cnt 3 c.gates) → O = [] ∧ N = [] ∧ r = 1
  ok : PureNet.Formed c → ins.length = cnt 1 c.gates → las.length = cnt 3 c.gates → (∃ v, Vals c.gates ins las v ∧ O = outsOf c v ∧ N = nextOf c v) ∧ r = 0
theorem StepR.one {c : Net} {ins las O N O' N' : List Bool} {r r' : Int} (h : StepR c ins las O N r) (h' : StepR c ins las O' N' r') : O = O' ∧ N = N' ∧ r = r' := by
  by_cases hf : PureNet.Formed c
  · by_cases hp : ins.length = cnt 1 c.gates ∧ las.length = cnt 3 c.gates
    · obtain ⟨⟨v, hv, rfl, rfl⟩, rfl⟩ := h.ok hf hp.1 hp.2
      obtain ⟨⟨v', hv', rfl, rfl⟩, rfl⟩ := h'.ok hf hp.1 hp.2
      obtain rfl := hf.unique hv hv'
      exact ⟨rfl, rfl, rfl⟩
    · obtain ⟨rfl, rfl, rfl⟩ := h.arg hf hp
      obtain ⟨rfl, rfl, rfl⟩ := h'.arg hf hp
      exact ⟨rfl, rfl, rfl⟩
  · obtain ⟨rfl, rfl, rfl⟩ := h.net hf
    obtain ⟨rfl, rfl, rfl⟩ := h'.net hf
    exact ⟨rfl, rfl, rfl⟩
theorem StepR.few {c : Net} {ins las O N : List Bool} {r : Int} (h : StepR c ins las O N r) : O.length ≤ 65536 ∧ N.length ≤ 65536 := by
  by_cases hf : PureNet.Formed c
  · by_cases hp : ins.length = cnt 1 c.gates ∧ las.length = cnt 3 c.gates
    · obtain ⟨⟨v, hv, rfl, rfl⟩, rfl⟩ := h.ok hf hp.1 hp.2
      have h1 := hf.few
      have h2 := hf.fewOuts
      have h3 : (nextOf c v).length ≤ c.gates.length := by
        simp only [nextOf, List.length_map]
        exact List.length_filter_le _ _
      have h4 : (outsOf c v).length = c.outs.length := by simp [outsOf]
      omega
    · obtain ⟨rfl, rfl, rfl⟩ := h.arg hf hp
      simp
  · obtain ⟨rfl, rfl, rfl⟩ := h.net hf
    simp
def StepSays (c : Net) (ins las : List Bool) (B : Nat) (e : Ending) (w' : World) : Prop :=
  ∃ o n O N r, StepR c ins las O N r ∧ e = .returned (.tuple #[o, n, .int .i64 r]) ∧ Fam w' B 4 1 [(o, O.length, bo O), (n, N.length, bo N)]
theorem fam_nils (W : World) (B : Nat) : Fam W B 4 1 [(Value.slice none 0 0, ([] : List Bool).length, bo []), (Value.slice none 0 0, ([] : List Bool).length, bo [])] :=
  ⟨fun i x hx => by
    match i, hx with
    | 0, hx => cases hx; exact World.ownsRow_nil _ _ _ _
    | 1, hx => cases hx; exact World.ownsRow_nil _ _ _ _, fun i j x y g hx hy _ hg => by
    match i, hx with
    | 0, hx => cases hx; simp [Value.ownBlock] at hg
    | 1, hx => cases hx; simp [Value.ownBlock] at hg⟩
theorem StepSays.net {c : Net} {ins las : List Bool} {B : Nat} {w' : World} (h : ¬ PureNet.Formed c) : StepSays c ins las B (.returned (.tuple #[.slice none 0 0, .slice none 0 0, .int .i64 144])) w' :=
  ⟨_, _, [], [], 144, ⟨fun _ => ⟨rfl, rfl, rfl⟩, fun h2 => absurd h2 h, fun h2 => absurd h2 h⟩, rfl, fam_nils _ _⟩
theorem StepSays.arg {c : Net} {ins las : List Bool} {B : Nat} {w' : World} (h : PureNet.Formed c) (hp : ¬ (ins.length = cnt 1 c.gates ∧ las.length = cnt 3 c.gates)) : StepSays c ins las B (.returned (.tuple #[.slice none 0 0, .slice none 0 0, .int .i64 1])) w' :=
  ⟨_, _, [], [], 1, ⟨fun h2 => absurd h h2, fun _ _ => ⟨rfl, rfl, rfl⟩, fun _ h3 h4 => absurd ⟨h3, h4⟩ hp⟩, rfl, fam_nils _ _⟩
/-- what First answers. -/
structure FirstR (c : Net) (X : List Bool) (r : Int) : Prop where
  net : ¬ PureNet.Formed c → X = [] ∧ r = 144
  ok : PureNet.Formed c → X = firstsOf c.gates ∧ r = 0
theorem FirstR.one {c : Net} {X Y : List Bool} {r r' : Int} (h : FirstR c X r) (h' : FirstR c Y r') : X = Y ∧ r = r' := by
  by_cases hf : PureNet.Formed c
  · obtain ⟨rfl, rfl⟩ := h.ok hf
    obtain ⟨rfl, rfl⟩ := h'.ok hf
    exact ⟨rfl, rfl⟩
  · obtain ⟨rfl, rfl⟩ := h.net hf
    obtain ⟨rfl, rfl⟩ := h'.net hf
    exact ⟨rfl, rfl⟩
theorem FirstR.few {c : Net} {X : List Bool} {r : Int} (h : FirstR c X r) : X.length ≤ 65536 := by
  by_cases hf : PureNet.Formed c
  · obtain ⟨rfl, rfl⟩ := h.ok hf
    have h1 := hf.few
    have h3 : (firstsOf c.gates).length ≤ c.gates.length := by
      simp only [firstsOf, List.length_map]
      exact List.length_filter_le _ _
    omega
  · obtain ⟨rfl, rfl⟩ := h.net hf
    simp
def FirstSays (c : Net) (B : Nat) (e : Ending) (w' : World) : Prop := ∃ x X r, FirstR c X r ∧ e = .returned (.tuple #[x, .int .i64 r]) ∧ w'.ownsRow B 4 1 x X.length (bo X)

set_option maxHeartbeats 2000000 in
theorem step_own (c : Net) (sg so : Option Addr) (cg co : Nat) (ins las v : List Bool) (si sl : Option Addr) (ci cl : Nat) (w : World) (hc : CirAt w c sg so) (hkd : KindsAt w) (hf : PureNet.Formed c) (hI : CellsAt w si (bo ins)) (hL : CellsAt w sl (bo las)) (hil : ins.length = cnt 1 c.gates) (hll : las.length = cnt 3 c.gates) (hv : Vals c.gates ins las v) :
    Calls Tryd.prog 15 #[cirV c sg cg so co, .slice si ins.length ci, .slice sl las.length cl] w fun e w' => (∃ o n, e = .returned (.tuple #[o, n, .int .i64 0]) ∧ Fam w' w.heap.size 4 1 [(o, (outsOf c v).length, bo (outsOf c v)), (n, (nextOf c v).length, bo (nextOf c v))]) ∧ Below w.heap.size w w' := by
  obtain ⟨x, hx⟩ : ∃ x, x = w.alloc (Obj.cells #[Value.string c.name, Value.slice sg c.gates.length cg, Value.slice so c.outs.length co] 26) := ⟨_, rfl⟩
  have RX : Hid (x.heap[w.heap.size]? = some (.cells #[Value.string c.name, Value.slice sg c.gates.length cg, Value.slice so c.outs.length co] 26 (0, 0))) := by rw [hx]; exact heap_alloc_new w _
  have BX : Hid (Below w.heap.size w x) := by rw [hx]; exact (Below.refl _ _).alloc (Nat.le_refl _) _
  have CE : Hid (∀ W, Below x.heap.size x W → (∀ j, W.cell? ⟨w.heap.size, j, none⟩ = (#[Value.string c.name, Value.slice sg c.gates.length cg, Value.slice so c.outs.length co] : Array Value)[j]?) ∧ w.heap.size < W.heap.size) := fun W hW => by
    have h2 := (hW.block _ (Array.getElem?_eq_some_iff.1 RX.out).1).trans RX.out
    exact ⟨fun j => cell_row h2 j, (Array.getElem?_eq_some_iff.1 h2).1⟩
  have C1 := hid (formed_ok c sg so cg co x (hc.below BX.out) (hkd.on BX.out) hf)
  have C2 : Hid (∀ W, Below x.heap.size x W → _) := fun W hW => newPlayer_ok c sg so cg co W ((hc.below BX.out).below hW) ((hkd.on BX.out).on hW) hf
  have HF := hid hf
  have HI := hid hI
  have HL := hid hL
  have HV := hid hv
  have HIL := hid hil
  have HLL := hid hll
  obtain ⟨d0, hb0⟩ := CE.out x (Below.refl _ _)
  have HX := hid hx
  clear hx hc hkd hf hI hL hv hil hll
  go_enter Tryd.func15, Tryd.ntmps15
  go_wp2_with (first
    | (rw [← HX.out])
    | (have q := B2; clear q; go_at_call 43; refine Calls.mono ST.out ?_; rintro e w3 ⟨b1, b2, rfl, hb1, hb2, hr1, hr2, hpl3, hg3, hne3⟩; have E3 := hid (And.intro hb1 (And.intro hb2 (And.intro hr1 (And.intro hr2 (And.intro hg3 hne3))))); clear hb1 hb2 hr1 hr2 hpl3 hg3 hne3)
    | (go_at_call 40; refine Calls.mono (C2.out w1 B1.out) ?_; rintro e w2 ⟨d, rfl, hpl, hgd, b2, hvb, hdc, hdi, hdl, hds, hnd, hall, hord⟩; have hB2 : Below w.heap.size w w2 := BX.out.trans ((B1.out.trans (b2.mono B1.out.size)).mono BX.out.size); have B2 := hid hB2; have hvbw : w.heap.size ≤ d.vb := Nat.le_trans BX.out.size (Nat.le_trans B1.out.size hvb); have VB := hid hvbw; have h1 : d.ins.length = ins.length := (by rw [hdi, kpTo_len 1 c.gates _ (Nat.le_refl _), List.take_length, HIL.out]); have h3 : d.las.length = las.length := (by rw [hdl, kpTo_len 3 c.gates _ (Nat.le_refl _), List.take_length, HLL.out]); have k2 := hpl.cell 2; have k3 := hpl.cell 3; rw [h1] at k2; rw [h3] at k3; have hp2 := hpl.size; have ST := hid (play_step c d _ ins las v si sl ci cl w2 HF.out hgd hdc hdi hdl hds hnd hall hord hpl (HI.out.below hB2) (HL.out.below hB2) HIL.out HLL.out (off_base HI.out hvbw) (off_base HL.out hvbw) HV.out); clear hpl hgd b2 hvb hdc hdi hdl hds hnd hall hord hB2 hvbw h1 h3)
    | (go_at_call 26; refine Calls.mono C1.out ?_; rintro e w1 ⟨rfl, b1⟩; have B1 : Hid (Below x.heap.size x w1) := b1; obtain ⟨d1, hb1⟩ := CE.out w1 B1.out; clear b1))
  obtain ⟨hb1, hb2, hr1, hr2, hg, hne⟩ := E3.out
  have hB := B2.out.grown hg B2.out.size (fun j hj => by cases hj; exact VB.out)
  have one : ∀ (b : Nat) (l : List Bool), l.length ≤ maxLen → w2.heap.size ≤ b → w3.heap[b]? = some (.cells (bo l).toArray 4 (0, 0)) → w3.ownsRow w.heap.size 4 1 (.slice (some ⟨b, 0, none⟩) l.length l.length) l.length (bo l) := fun b l hl hb hr =>
    ⟨by simp [bo], .inr ⟨b, l.length, (bo l).toArray, rfl, Nat.le_trans B2.out.size hb, hr, Nat.le_refl _, hl, by simp [bo], List.take_of_length_le (by simp [bo])⟩⟩
  have ho1 : (outsOf c v).length ≤ maxLen := by
    have h1 := HF.out.fewOuts
    have h2 : (outsOf c v).length = c.outs.length := by simp [outsOf]
    unfold maxLen
    omega
  have hn1 : (nextOf c v).length ≤ maxLen := by
    have h1 := HF.out.few
    have h2 : (nextOf c v).length ≤ c.gates.length := by
      simp only [nextOf, List.length_map]
      exact List.length_filter_le _ _
    unfold maxLen
    omega
  refine bodyPost_ret (v := .tuple #[.slice (some ⟨b1, 0, none⟩) (outsOf c v).length (outsOf c v).length, .slice (some ⟨b2, 0, none⟩) (nextOf c v).length (nextOf c v).length, .int .i64 0]) (by simp [results, Tryd.results15, go_sem]) rfl ⟨⟨_, _, rfl, ⟨fun i x hx => ?_, fun i j x y g hx hy hij hgx hgy => ?_⟩⟩, hB⟩
  · match i, hx with
    | 0, hx => cases hx; exact one b1 _ ho1 hb1 hr1
    | 1, hx => cases hx; exact one b2 _ hn1 hb2 hr2
  · match i, j, hx, hy, hij with
    | 0, 1, hx, hy, _ =>
      cases hx
      cases hy
      simp only [Value.ownBlock, Option.some.injEq] at hgx hgy
      exact hne (hgx.trans hgy.symm)
    | 1, 0, hx, hy, _ =>
      cases hx
      cases hy
      simp only [Value.ownBlock, Option.some.injEq] at hgx hgy
      exact hne (hgy.trans hgx.symm)
    | 0, 0, _, _, h => exact h rfl
    | 1, 1, _, _, h => exact h rfl

set_option maxHeartbeats 2000000 in
theorem step_gen (c : Net) (sg so : Option Addr) (cg co : Nat) (ins las : List Bool) (si sl : Option Addr) (ci cl : Nat) (w : World) (hc : CirAt w c sg so) (hkd : KindsAt w) (hn : c.name.size ≤ 140737488351232) (hns : ∀ g ∈ c.gates, g.name.size ≤ 140737488351232) (hl : c.gates.length ≤ 1099511627776) (hlo : c.outs.length ≤ 1099511627776) (hI : CellsAt w si (bo ins)) (hL : CellsAt w sl (bo las)) :
    Calls Tryd.prog 15 #[cirV c sg cg so co, .slice si ins.length ci, .slice sl las.length cl] w fun e w' => StepSays c ins las w.heap.size e w' ∧ Below w.heap.size w w' := by
  by_cases hg : PureNet.Formed c ∧ ins.length = cnt 1 c.gates ∧ las.length = cnt 3 c.gates
  · obtain ⟨hf, h1, h2⟩ := hg
    obtain ⟨v, hv⟩ := hf.vals ins las
    refine (step_own c sg so cg co ins las v si sl ci cl w hc hkd hf hI hL h1 h2 hv).mono ?_
    rintro e w' ⟨⟨o, n, rfl, hF⟩, hb⟩
    exact ⟨⟨o, n, _, _, 0, ⟨fun h => absurd hf h, fun _ h => absurd ⟨h1, h2⟩ h, fun _ _ _ => ⟨⟨v, hv, rfl, rfl⟩, rfl⟩⟩, rfl, hF⟩, hb⟩
  obtain ⟨x, hx⟩ : ∃ x, x = w.alloc (Obj.cells #[Value.string c.name, Value.slice sg c.gates.length cg, Value.slice so c.outs.length co] 26) := ⟨_, rfl⟩
  have RX : Hid (x.heap[w.heap.size]? = some (.cells #[Value.string c.name, Value.slice sg c.gates.length cg, Value.slice so c.outs.length co] 26 (0, 0))) := by rw [hx]; exact heap_alloc_new w _
  have BX : Hid (Below w.heap.size w x) := by rw [hx]; exact (Below.refl _ _).alloc (Nat.le_refl _) _
  have CE : Hid (∀ W, Below x.heap.size x W → (∀ j, W.cell? ⟨w.heap.size, j, none⟩ = (#[Value.string c.name, Value.slice sg c.gates.length cg, Value.slice so c.outs.length co] : Array Value)[j]?) ∧ w.heap.size < W.heap.size) := fun W hW => by
    have h2 := (hW.block _ (Array.getElem?_eq_some_iff.1 RX.out).1).trans RX.out
    exact ⟨fun j => cell_row h2 j, (Array.getElem?_eq_some_iff.1 h2).1⟩
  have C1 := hid (formed_gen c sg so cg co x (hc.below BX.out) (hkd.on BX.out) hn hns hl hlo)
  obtain ⟨d0, hb0⟩ := CE.out x (Below.refl _ _)
  have HX := hid hx
  by_cases hf : PureNet.Formed c
  · have HP : Hid (¬ (ins.length = cnt 1 c.gates ∧ las.length = cnt 3 c.gates)) := fun h => hg ⟨hf, h⟩
    have HF := hid hf
    have C2 : Hid (∀ W, Below x.heap.size x W → _) := fun W hW => newPlayer_ok c sg so cg co W ((hc.below BX.out).below hW) ((hkd.on BX.out).on hW) hf
    have C1n : Hid (cnt 1 c.gates ≤ 65536 ∧ cnt 3 c.gates ≤ 65536) := by
      have h1 := hf.few
      have h2 : cnt 1 c.gates ≤ c.gates.length := List.length_filter_le _ _
      have h3 : cnt 3 c.gates ≤ c.gates.length := List.length_filter_le _ _
      exact ⟨by omega, by omega⟩
    clear hx hc hkd hn hns hl hlo hg hf hI hL
    by_cases hi : ins.length = cnt 1 c.gates
    · have hlne : las.length ≠ cnt 3 c.gates := fun h => HP.out ⟨hi, h⟩
      have e1 : ((ins.length : Int) != (cnt 1 c.gates : Int)) = false := by rw [hi]; simp
      have e2 : ((las.length : Int) != (cnt 3 c.gates : Int)) = true := by
        rw [bne_iff_ne]
        omega
      clear hi hlne
      go_enter Tryd.func15, Tryd.ntmps15
      go_wp2_with (first
        | (rw [← HX.out])
        | (go_at_call 40; refine Calls.mono (C2.out w1 B1.out) ?_; rintro e w2 ⟨d, rfl, hpl, hgd, b2, hvb, hdc, hdi, hdl, hds, hnd, hall, hord⟩; have B2 : Hid (Below x.heap.size x w2) := B1.out.trans (b2.mono B1.out.size); have h1 : d.ins.length = cnt 1 c.gates := (by rw [hdi, kpTo_len 1 c.gates _ (Nat.le_refl _), List.take_length]); have h3 : d.las.length = cnt 3 c.gates := (by rw [hdl, kpTo_len 3 c.gates _ (Nat.le_refl _), List.take_length]); have k2 := hpl.cell 2; have k3 := hpl.cell 3; rw [h1] at k2; rw [h3] at k3; have hp2 := hpl.size; clear hpl hgd b2 hvb hdc hdi hdl hds hnd hall hord h1 h3)
        | (go_at_call 26; refine Calls.mono C1.out ?_; rintro e w1 ⟨⟨b, rfl, hb⟩, b1⟩; obtain rfl : b = true := hb.2 HF.out; have B1 : Hid (Below x.heap.size x w1) := b1; obtain ⟨d1, hb1⟩ := CE.out w1 B1.out; clear b1 hb))
      exact bodyPost_ret (v := .tuple #[.slice none 0 0, .slice none 0 0, .int .i64 1]) (by simp [results, Tryd.results15, go_sem]) rfl ⟨StepSays.arg HF.out HP.out, BX.out.trans (B2.out.mono BX.out.size)⟩
    · have e1 : ((ins.length : Int) != (cnt 1 c.gates : Int)) = true := by
        rw [bne_iff_ne]
        omega
      clear hi
      go_enter Tryd.func15, Tryd.ntmps15
      go_wp2_with (first
        | (rw [← HX.out])
        | (go_at_call 40; refine Calls.mono (C2.out w1 B1.out) ?_; rintro e w2 ⟨d, rfl, hpl, hgd, b2, hvb, hdc, hdi, hdl, hds, hnd, hall, hord⟩; have B2 : Hid (Below x.heap.size x w2) := B1.out.trans (b2.mono B1.out.size); have h1 : d.ins.length = cnt 1 c.gates := (by rw [hdi, kpTo_len 1 c.gates _ (Nat.le_refl _), List.take_length]); have k2 := hpl.cell 2; have k3 := hpl.cell 3; rw [h1] at k2; have hp2 := hpl.size; clear hpl hgd b2 hvb hdc hdi hdl hds hnd hall hord h1)
        | (go_at_call 26; refine Calls.mono C1.out ?_; rintro e w1 ⟨⟨b, rfl, hb⟩, b1⟩; obtain rfl : b = true := hb.2 HF.out; have B1 : Hid (Below x.heap.size x w1) := b1; obtain ⟨d1, hb1⟩ := CE.out w1 B1.out; clear b1 hb))
      exact bodyPost_ret (v := .tuple #[.slice none 0 0, .slice none 0 0, .int .i64 1]) (by simp [results, Tryd.results15, go_sem]) rfl ⟨StepSays.arg HF.out HP.out, BX.out.trans (B2.out.mono BX.out.size)⟩
  · have HF := hid hf
    clear hx hc hkd hn hns hl hlo hg hf hI hL
    go_enter Tryd.func15, Tryd.ntmps15
    go_wp2_with (first
      | (rw [← HX.out])
      | (go_at_call 26; refine Calls.mono C1.out ?_; rintro e w1 ⟨⟨b, rfl, hb⟩, b1⟩; obtain rfl : b = false := Bool.eq_false_iff.2 fun h => HF.out (hb.1 h); have B1 : Hid (Below x.heap.size x w1) := b1; clear b1 hb))
    exact bodyPost_ret (v := .tuple #[.slice none 0 0, .slice none 0 0, .int .i64 144]) (by simp [results, Tryd.results15, go_sem]) rfl ⟨StepSays.net HF.out, BX.out.trans (B1.out.mono BX.out.size)⟩

set_option maxHeartbeats 2000000 in
theorem first_own (c : Net) (sg so : Option Addr) (cg co : Nat) (w : World) (hc : CirAt w c sg so) (hkd : KindsAt w) (hf : PureNet.Formed c) :
    Calls Tryd.prog 11 #[cirV c sg cg so co] w fun e w' => (∃ x, e = .returned (.tuple #[x, .int .i64 0]) ∧ w'.ownsRow w.heap.size 4 1 x (firstsOf c.gates).length (bo (firstsOf c.gates))) ∧ Below w.heap.size w w' := by
  obtain ⟨x, hx⟩ : ∃ x, x = w.alloc (Obj.cells #[Value.string c.name, Value.slice sg c.gates.length cg, Value.slice so c.outs.length co] 26) := ⟨_, rfl⟩
  have RX : Hid (x.heap[w.heap.size]? = some (.cells #[Value.string c.name, Value.slice sg c.gates.length cg, Value.slice so c.outs.length co] 26 (0, 0))) := by rw [hx]; exact heap_alloc_new w _
  have BX : Hid (Below w.heap.size w x) := by rw [hx]; exact (Below.refl _ _).alloc (Nat.le_refl _) _
  have CE : Hid (∀ W, Below x.heap.size x W → (∀ j, W.cell? ⟨w.heap.size, j, none⟩ = (#[Value.string c.name, Value.slice sg c.gates.length cg, Value.slice so c.outs.length co] : Array Value)[j]?) ∧ w.heap.size < W.heap.size) := fun W hW => by
    have h2 := (hW.block _ (Array.getElem?_eq_some_iff.1 RX.out).1).trans RX.out
    exact ⟨fun j => cell_row h2 j, (Array.getElem?_eq_some_iff.1 h2).1⟩
  have C1 := hid (formed_ok c sg so cg co x (hc.below BX.out) (hkd.on BX.out) hf)
  have C2 : Hid (∀ W, Below x.heap.size x W → _) := fun W hW => pfirst_any c sg so cg co W ((hc.below BX.out).below hW).gates (by have := hf.few; omega)
  obtain ⟨d0, hb0⟩ := CE.out x (Below.refl _ _)
  have HX := hid hx
  have HFL := hid (firsts_len c.gates)
  clear hx hc hkd hf
  go_enter Tryd.func11, Tryd.ntmps11
  go_wp2_with (first
    | (rw [← HX.out])
    | (go_at_call 39; refine Calls.mono (C2.out w1 B1.out) ?_; rintro e w2 ⟨v, rfl, hm⟩; have HM := hid hm; clear hm)
    | (go_at_call 26; refine Calls.mono C1.out ?_; rintro e w1 ⟨rfl, b1⟩; have B1 : Hid (Below x.heap.size x w1) := b1; obtain ⟨d1, hb1⟩ := CE.out w1 B1.out; clear b1))
  have hb : Below w.heap.size w w1 := BX.out.trans (B1.out.mono BX.out.size)
  have ho := HM.out.own
  refine bodyPost_ret (v := .tuple #[v, .int .i64 0]) (by simp [results, Tryd.results11, go_sem]) rfl ⟨⟨v, rfl, ShfKit.own_base ?_ hb.size⟩, hb.trans (HM.out.below.mono hb.size)⟩
  first
    | exact ho
    | (rw [HFL.out]; exact ho)

set_option maxHeartbeats 2000000 in
theorem first_gen (c : Net) (sg so : Option Addr) (cg co : Nat) (w : World) (hc : CirAt w c sg so) (hkd : KindsAt w) (hn : c.name.size ≤ 140737488351232) (hns : ∀ g ∈ c.gates, g.name.size ≤ 140737488351232) (hl : c.gates.length ≤ 1099511627776) (hlo : c.outs.length ≤ 1099511627776) :
    Calls Tryd.prog 11 #[cirV c sg cg so co] w fun e w' => FirstSays c w.heap.size e w' ∧ Below w.heap.size w w' := by
  by_cases hf : PureNet.Formed c
  · refine (first_own c sg so cg co w hc hkd hf).mono ?_
    rintro e w' ⟨⟨x, rfl, ho⟩, hb⟩
    exact ⟨⟨x, _, 0, ⟨fun h => absurd hf h, fun _ => ⟨rfl, rfl⟩⟩, rfl, ho⟩, hb⟩
  obtain ⟨x, hx⟩ : ∃ x, x = w.alloc (Obj.cells #[Value.string c.name, Value.slice sg c.gates.length cg, Value.slice so c.outs.length co] 26) := ⟨_, rfl⟩
  have RX : Hid (x.heap[w.heap.size]? = some (.cells #[Value.string c.name, Value.slice sg c.gates.length cg, Value.slice so c.outs.length co] 26 (0, 0))) := by rw [hx]; exact heap_alloc_new w _
  have BX : Hid (Below w.heap.size w x) := by rw [hx]; exact (Below.refl _ _).alloc (Nat.le_refl _) _
  have CE : Hid (∀ W, Below x.heap.size x W → (∀ j, W.cell? ⟨w.heap.size, j, none⟩ = (#[Value.string c.name, Value.slice sg c.gates.length cg, Value.slice so c.outs.length co] : Array Value)[j]?) ∧ w.heap.size < W.heap.size) := fun W hW => by
    have h2 := (hW.block _ (Array.getElem?_eq_some_iff.1 RX.out).1).trans RX.out
    exact ⟨fun j => cell_row h2 j, (Array.getElem?_eq_some_iff.1 h2).1⟩
  have C1 := hid (formed_gen c sg so cg co x (hc.below BX.out) (hkd.on BX.out) hn hns hl hlo)
  obtain ⟨d0, hb0⟩ := CE.out x (Below.refl _ _)
  have HX := hid hx
  have HF := hid hf
  clear hx hc hkd hn hns hl hlo hf
  go_enter Tryd.func11, Tryd.ntmps11
  go_wp2_with (first
    | (rw [← HX.out])
    | (go_at_call 26; refine Calls.mono C1.out ?_; rintro e w1 ⟨⟨b, rfl, hb⟩, b1⟩; obtain rfl : b = false := Bool.eq_false_iff.2 fun h => HF.out (hb.1 h); have B1 : Hid (Below x.heap.size x w1) := b1; clear b1 hb))
  exact bodyPost_ret (v := .tuple #[.slice none 0 0, .int .i64 144]) (by simp [results, Tryd.results11, go_sem]) rfl ⟨⟨_, [], 144, ⟨fun _ => ⟨rfl, rfl⟩, fun h => absurd h HF.out⟩, rfl, World.ownsRow_nil _ _ _ _⟩, BX.out.trans (B1.out.mono BX.out.size)⟩
theorem rstep_gen (c : Net) (sg so : Option Addr) (cg co : Nat) (ins las : List Bool) (si sl : Option Addr) (ci cl : Nat) (w : World) (hc : CirAt w c sg so) (hn : c.name.size ≤ 140737488351232) (hns : ∀ g ∈ c.gates, g.name.size ≤ 140737488351232) (hl : c.gates.length ≤ 1099511627776) (hlo : c.outs.length ≤ 1099511627776) (hI : CellsAt w si (bo ins)) (hL : CellsAt w sl (bo las)) :
    Calls Tryd.prog 31 #[cirV c sg cg so co, .slice si ins.length ci, .slice sl las.length cl] w fun e w' => StepSays c ins las w.heap.size e w' ∧ Below w.heap.size w w' := by
  refine (rstep_any c sg so cg co ins las si sl ci cl w hc hn hns hl hlo hI hL).mono ?_
  rintro e w' ⟨h, hb⟩
  refine ⟨?_, hb⟩
  rcases h with ⟨hf, rfl⟩ | ⟨hf, hp, rfl⟩ | ⟨hf, h1, h2, v, o, n, hv, rfl, hF⟩
  · exact StepSays.net hf
  · exact StepSays.arg hf hp
  · exact ⟨o, n, _, _, 0, ⟨fun h => absurd hf h, fun _ h => absurd ⟨h1, h2⟩ h, fun _ _ _ => ⟨⟨v, hv, rfl, rfl⟩, rfl⟩⟩, rfl, hF⟩
theorem rfirst_gen (c : Net) (sg so : Option Addr) (cg co : Nat) (w : World) (hc : CirAt w c sg so) (hn : c.name.size ≤ 140737488351232) (hns : ∀ g ∈ c.gates, g.name.size ≤ 140737488351232) (hl : c.gates.length ≤ 1099511627776) (hlo : c.outs.length ≤ 1099511627776) :
    Calls Tryd.prog 32 #[cirV c sg cg so co] w fun e w' => FirstSays c w.heap.size e w' ∧ Below w.heap.size w w' := by
  refine (rfirst_any c sg so cg co w hc hn hns hl hlo).mono ?_
  rintro e w' ⟨h, hb⟩
  refine ⟨?_, hb⟩
  rcases h with ⟨hf, rfl⟩ | ⟨hf, v, rfl, ho⟩
  · exact ⟨_, [], 144, ⟨fun _ => ⟨rfl, rfl⟩, fun h => absurd h hf⟩, rfl, World.ownsRow_nil _ _ _ _⟩
  · exact ⟨v, _, 0, ⟨fun h => absurd hf h, fun _ => ⟨rfl, rfl⟩⟩, rfl, ho⟩
end Go.Proofs.YtfmmmhcpdinhgaaDoor
/-
  The law's own roomy.
-/
namespace Go.Proofs.YtfmmmhcpdinhgaaDoor
open Go.RowKit Go.Deep PureNet ShfKit
set_option maxRecDepth 100000

theorem add_addr (g o j : Nat) : Addr.add ⟨g, o, none⟩ j = ⟨g, o + j, none⟩ := by
  unfold Addr.add
  by_cases h : j = 0
  · rw [if_pos h, h]; rfl
  · rw [if_neg h]
theorem far_below {w W : World} {v v' : Value} {B : Nat} (h : (v'.ownBlock = v.ownBlock ∧ w.grownBy W v.ownBlock) ∨ ((∀ g, v'.ownBlock = some g → w.heap.size ≤ g) ∧ w.grownBy W none)) {w0 : World} (hb : Below B w0 w) (hB : B ≤ w.heap.size) (hv : ∀ g, v.ownBlock = some g → B ≤ g) : Below B w0 W := by
  rcases h with ⟨_, hg⟩ | ⟨_, hg⟩
  · exact hb.grown hg hB hv
  · exact hb.grown hg hB (fun k e => by cases e)
set_option maxHeartbeats 1000000 in
set_option maxRecDepth 100000 in
theorem roomy_any (l : List Bool) (sa : Option Addr) (ca : Nat) (w : World) (ha : CellsAt w sa (bo l)) (hca : sa = none → ca = 0) (hl : l.length ≤ 140737488351232) :
    Calls Tryd.prog 30 #[.slice sa l.length ca] w fun e w' => ∃ v, e = .returned v ∧ Mk w w' 4 1 v (l.length + 2) (bo (l ++ [true, false])) := by
  obtain ⟨ii, hi, hz0, hz1, hz2⟩ := info_parts info4
  have HA := hid ha
  have HI : Hid (Tryd.prog.info? 4 = some ii ∧ ii.zero = some (.bool false) ∧ ii.size = 1 ∧ ii.bytes = 1) := ⟨hi, hz0, hz1, hz2⟩
  have HE : Hid (bo (l ++ [true, false]) = bo l ++ [.bool true, .bool false]) := by show _ = _; simp [bo]
  have HLB : Hid ((bo l).length = l.length * 1) := by show _ = _; simp [bo]
  have HO : Hid (∀ u ∈ bo l, u.oneCell' = true) := fun u hu => by simp only [bo, List.mem_map] at hu; obtain ⟨b, _, rfl⟩ := hu; rfl
  have hL : Hid (l.length ≤ 140737488351232) := hl
  clear ha hi hz0 hz1 hz2
  cases sa with
  | none =>
    have h0 : l = [] := by
      cases l with
      | nil => rfl
      | cons b r =>
        obtain ⟨g, o, e, _⟩ := HA.out.at_ 0 (.bool b) (by simp [bo])
        cases e
    subst h0
    obtain rfl := hca rfl
    go_enter Tryd.func30, Tryd.ntmps30
    go_wp2_with (at_builtin; refine wpList_append_far (P := Tryd.prog) _ rfl _ _ 29 rfl w.heap.size 4 ii (.bool false) 1 1 Tryd.underlying29 HI.out.1 HI.out.2.1 HI.out.2.2.1 HI.out.2.2.2 rfl (by decide) (.slice none 0 0) 0 [] rfl (World.ownsRow_nil _ _ _ _) ⟨w.heap.size, 0, none⟩ 2 2 [.bool true, .bool false] rfl rfl (fun j u hu => by rw [add_zero_addr, cell_row (heap_alloc_new w _)]; simpa using hu) (fun u hu => by simp at hu; rcases hu with rfl | rfl <;> rfl) (by decide) (by decide) (by simp) ?_; intro v1 w1 o1 f1; have HO1 := hid o1; have HF1 := hid f1; clear o1 f1)
    go_ret
    refine ⟨v1, rfl, HO1.out, far_below HF1.out ((Below.refl _ _).alloc (Nat.le_refl _) _) (by simp) (fun g hg => by simp [Value.ownBlock] at hg)⟩
  | some a =>
    go_enter Tryd.func30, Tryd.ntmps30
    go_wp2_with (first
      | (have q := HO1; clear q; at_builtin; refine wpList_append_far (P := Tryd.prog) _ rfl _ _ 29 rfl w.heap.size 4 ii (.bool false) 1 1 Tryd.underlying29 HI.out.1 HI.out.2.1 HI.out.2.2.1 HI.out.2.2.2 rfl (by decide) v1 l.length (bo l) rfl (ownsRow_below HO1.out ((Below.refl _ _).alloc (Nat.le_refl _) _)) ⟨w1.heap.size, 0, none⟩ 2 2 [.bool true, .bool false] rfl rfl (fun j u hu => by rw [add_zero_addr, cell_row (heap_alloc_new w1 _)]; simpa using hu) (fun u hu => by simp at hu; rcases hu with rfl | rfl <;> rfl) (by have := hL.out; unfold maxLen; omega) (by have := hL.out; omega) (Nat.le_trans HB1.out.size (by simp)) ?_; intro v2 w2 o2 f2; have HO2 := hid o2; have HF2 := hid f2; clear o2 f2)
      | (at_builtin; refine wpList_append_far (P := Tryd.prog) w rfl _ _ 29 rfl w.heap.size 4 ii (.bool false) 1 1 Tryd.underlying29 HI.out.1 HI.out.2.1 HI.out.2.2.1 HI.out.2.2.2 rfl (by decide) (.slice none 0 0) 0 [] rfl (World.ownsRow_nil _ _ _ _) a l.length ca (bo l) rfl HLB.out (fun j u hu => by obtain ⟨g, o, e, _, hc⟩ := HA.out.at_ j u hu; cases e; rw [add_addr]; exact hc) HO.out (by have := hL.out; unfold maxLen; omega) (by have := hL.out; omega) (Nat.le_refl _) ?_; intro v1 w1 o1 f1; rw [Nat.zero_add, List.nil_append] at o1; have HO1 := hid o1; have HB1 : Hid (Below w.heap.size w w1) := far_below f1 (Below.refl _ _) (Nat.le_refl _) (fun g hg => by simp [Value.ownBlock] at hg); clear o1 f1))
    go_ret
    refine ⟨v2, rfl, by rw [HE.out]; exact HO2.out, far_below HF2.out (HB1.out.alloc HB1.out.size _) (Nat.le_trans HB1.out.size (by simp)) (fun g hg => (own_block HO1.out hg).1)⟩
end Go.Proofs.YtfmmmhcpdinhgaaDoor
/-
  Appending what another slice shows; the law's own twin.
-/
namespace Go.Proofs.YtfmmmhcpdinhgaaDoor
open Go.RowKit Go.Deep PureNet ShfKit
set_option maxRecDepth 100000

/-- how an append leaves memory: where it stood, or in a block that is new. -/
def Far (w w' : World) (v v' : Value) : Prop := (v'.ownBlock = v.ownBlock ∧ w.grownBy w' v.ownBlock) ∨ ((∀ g, v'.ownBlock = some g → w.heap.size ≤ g) ∧ w.grownBy w' none)
theorem run_cells (w : World) (B : Nat) (t ty e : TypeId) (z : Value) (size bytes : Nat) (ht : Tryd.prog.underlying t = some (.slice e)) (hinf : (Tryd.prog.info? e).map (fun i => (i.zero, i.size, i.bytes)) = some (some z, size, bytes))
    (hzs : z.cells.size = size) (hsz : 0 < size) (v : Value) (n : Nat) (xs : List Value) (hown : w.ownsRow B e size v n xs)
    (sa : Option Addr) (m c : Nat) (news : List Value) (hl : news.length = m * size) (hc : CellsAt w sa news) (hnil : sa = none → c = 0) (h1 : ∀ u ∈ news, u.oneCell' = true) (h63 : n + m ≤ maxLen) (hbytes : (n + m) * bytes ≤ 140737488355328) (hbase : B ≤ w.heap.size) :
    ∃ v' w', (Builtin.append_ #[t, t] ty #[v, .slice sa m c]).run Tryd.prog w = .ok v' w' ∧ w'.ownsRow B e size v' (n + m) (xs ++ news) ∧ Far w w' v v' := by
  obtain ⟨i, hi, hz0, hz1, hz2⟩ := info_parts hinf
  cases sa with
  | none =>
    obtain rfl := hnil rfl
    have h0 : news = [] := by
      cases news with
      | nil => rfl
      | cons u r =>
        obtain ⟨g, o, e, _⟩ := hc.at_ 0 u rfl
        cases e
    subst h0
    have hm : m = 0 := by
      have h2 : m * size = 0 := by rw [← hl]; rfl
      rcases Nat.mul_eq_zero.1 h2 with h | h
      · exact h
      · omega
    subst hm
    refine ⟨v, w, run_append_owned_none w B t ty e i size ht hi v n xs hown, by rw [List.append_nil]; exact hown, .inl ⟨rfl, World.grownBy.refl _ _⟩⟩
  | some a =>
    refine run_append_far (P := Tryd.prog) w B t ty e i z size bytes ht hi hz0 hz1 hz2 hzs hsz v n xs hown a m c news hl (fun j u hu => ?_) h1 h63 hbytes hbase
    obtain ⟨g, o, e, _, hce⟩ := hc.at_ j u hu
    cases e
    rw [add_addr]
    exact hce
/-- in the text's order. -/
theorem wpl_cells {ops : Array Oper} {rest : List Oper} {o : Oper} {a : Act} {Q : Exit → Act → World → Prop} (w : World)
    (hg : o.guard = none) (s x : Operand) (t : TypeId) (hop : o.op = Op.call { callee := Callee.builtin Builtin.append, args := #[s, x], argTypes := #[t, t] })
    (B : Nat) (e : TypeId) (z : Value) (size bytes : Nat) (ht : Tryd.prog.underlying t = some (.slice e)) (hinf : (Tryd.prog.info? e).map (fun i => (i.zero, i.size, i.bytes)) = some (some z, size, bytes))
    (hzs : z.cells.size = size) (hsz : 0 < size) (v : Value) (n : Nat) (xs : List Value) (hs : a.eval s = v) (hown : w.ownsRow B e size v n xs)
    (sa : Option Addr) (m c : Nat) (news : List Value) (hx : a.eval x = .slice sa m c) (hl : news.length = m * size) (hc : CellsAt w sa news) (hnil : sa = none → c = 0) (h1 : ∀ u ∈ news, u.oneCell' = true) (h63 : n + m ≤ maxLen) (hbytes : (n + m) * bytes ≤ 140737488355328) (hbase : B ≤ w.heap.size)
    (hK : ∀ v' w', w'.ownsRow B e size v' (n + m) (xs ++ news) → Far w w' v v' → wpList Tryd.prog ops Q rest (a.put o.dst v') w') :
    wpList Tryd.prog ops Q (o :: rest) a w := by
  refine wpList_plain hg fun K hK' => ?_
  obtain ⟨v', w', hrun, r1, r2⟩ := run_cells w B t o.type e z size bytes ht hinf hzs hsz v n xs hown sa m c news hl hc hnil h1 h63 hbytes hbase
  unfold Oper.wp
  simp [execOp, hop, resolve, invoke, builtin, hs, hx, hrun, Result.andThen]
  exact hK' _ _ (hK v' w' r1 r2)
/-- an operation by itself. -/
theorem wp_cells {o : Oper} {a : Act} {w : World} {K : Act → World → Prop} {Q : Exit → Act → World → Prop} (s x : Operand) (t : TypeId) (hop : o.op = Op.call { callee := Callee.builtin Builtin.append, args := #[s, x], argTypes := #[t, t] })
    (B : Nat) (e : TypeId) (z : Value) (size bytes : Nat) (ht : Tryd.prog.underlying t = some (.slice e)) (hinf : (Tryd.prog.info? e).map (fun i => (i.zero, i.size, i.bytes)) = some (some z, size, bytes))
    (hzs : z.cells.size = size) (hsz : 0 < size) (v : Value) (n : Nat) (xs : List Value) (hs : a.eval s = v) (hown : w.ownsRow B e size v n xs)
    (sa : Option Addr) (m c : Nat) (news : List Value) (hx : a.eval x = .slice sa m c) (hl : news.length = m * size) (hc : CellsAt w sa news) (hnil : sa = none → c = 0) (h1 : ∀ u ∈ news, u.oneCell' = true) (h63 : n + m ≤ maxLen) (hbytes : (n + m) * bytes ≤ 140737488355328) (hbase : B ≤ w.heap.size)
    (hK : ∀ v' w', w'.ownsRow B e size v' (n + m) (xs ++ news) → Far w w' v v' → K (a.put o.dst v') w') : Oper.wp Tryd.prog o a w K Q := by
  obtain ⟨v', w', hrun, r1, r2⟩ := run_cells w B t o.type e z size bytes ht hinf hzs hsz v n xs hown sa m c news hl hc hnil h1 h63 hbytes hbase
  unfold Oper.wp execOp
  simp only [hop, resolve, invoke, builtin, Sem.run_bind, Sem.run_pure, Result.andThen_ok, List.map_toArray, List.map_cons, List.map_nil, hs, hx, hrun]
  exact hK v' w' r1 r2
theorem Far.below {w W : World} {v v' : Value} {B : Nat} (h : Far w W v v') {w0 : World} (hb : Below B w0 w) (hB : B ≤ w.heap.size) (hv : ∀ g, v.ownBlock = some g → B ≤ g) : Below B w0 W := far_below h hb hB hv
theorem Far.size {w W : World} {v v' : Value} (h : Far w W v v') : w.heap.size ≤ W.heap.size := by
  rcases h with ⟨_, hg⟩ | ⟨_, hg⟩ <;> exact hg.size
theorem ga_one (g : Ga) : ∀ u ∈ ga g, u.oneCell' = true := fun u hu => by
  simp only [ga, List.mem_cons, List.not_mem_nil, or_false] at hu
  rcases hu with rfl | rfl | rfl | rfl | rfl | rfl <;> rfl
theorem gas_one (l : List Ga) : ∀ u ∈ gas l, u.oneCell' = true := fun u hu => by
  obtain ⟨g, _, hg⟩ := List.mem_flatMap.1 hu
  exact ga_one g u hg
theorem nus_one (l : List Int) : ∀ u ∈ nu l, u.oneCell' = true := fun u hu => by
  simp only [nu, List.mem_map] at hu
  obtain ⟨b, _, rfl⟩ := hu
  rfl
theorem Far.other {W W' : World} {v1 v2 v : Value} {B B' e e' size size' n n' : Nat} {xs xs' : List Value} (h : Far W W' v1 v2) (h1 : W.ownsRow B' e' size' v1 n' xs') (ho : W.ownsRow B e size v n xs) (hne : e ≠ e') : W'.ownsRow B e size v n xs := by
  rcases h with ⟨_, hg⟩ | ⟨_, hg⟩
  · exact Go.Proofs.YtfmmmhcpdinhgaaDoor.own_kept ho h1 hg hne
  · exact ShfKit.own_kept ho fun g hgv => hg.block g (own_block ho hgv).2 (fun e => by cases e)
/-- a line that marks spare room. -/
def roomG : Ga := ⟨0, ⟨#[114, 111, 111, 109]⟩, 0, 0, 0, 0⟩
/-- a twin in memory: its lists with their marks. -/
structure TwinAt (W : World) (B : Nat) (c : Net) (gg cg go co : Nat) : Prop where
  gates : W.ownsRow B 38 6 (.slice (some ⟨gg, 0, none⟩) (c.gates.length + 2) cg) (c.gates.length + 2) (gas (c.gates ++ [roomG, roomG]))
  outs : W.ownsRow B 3 1 (.slice (some ⟨go, 0, none⟩) (c.outs.length + 2) co) (c.outs.length + 2) (nu (c.outs ++ [77, 78]))
theorem own_some {W : World} {B e size n : Nat} {v : Value} {xs : List Value} (h : W.ownsRow B e size v n xs) (hn : 0 < n) : ∃ g c, v = .slice (some ⟨g, 0, none⟩) n c ∧ n ≤ c ∧ B ≤ g ∧ g < W.heap.size := by
  rcases h.2 with ⟨_, h0⟩ | ⟨g, cap, cur, hv, hb, hr, hnc, _⟩
  · omega
  · exact ⟨g, cap, hv, hnc, hb, (Array.getElem?_eq_some_iff.1 hr).1⟩
theorem CellsAt.front {W : World} {s : Option Addr} {xs ys : List Value} (h : CellsAt W s (xs ++ ys)) : CellsAt W s xs := ⟨fun k x hx => h.at_ k x (by
  rw [List.getElem?_append_left (List.getElem?_eq_some_iff.1 hx).1]
  exact hx)⟩
theorem own_at {W : World} {B e size n g c : Nat} {xs : List Value} (h : W.ownsRow B e size (.slice (some ⟨g, 0, none⟩) n c) n xs) : CellsAt W (some ⟨g, 0, none⟩) xs := by
  obtain ⟨sa, c', hv, hc, _⟩ := own_cells h
  cases hv
  exact hc
theorem TwinAt.cir {W : World} {B : Nat} {c : Net} {gg cg go co : Nat} (h : TwinAt W B c gg cg go co) : CirAt W c (some ⟨gg, 0, none⟩) (some ⟨go, 0, none⟩) := by
  have h1 := own_at h.gates
  have h2 := own_at h.outs
  have e1 : gas (c.gates ++ [roomG, roomG]) = gas c.gates ++ gas [roomG, roomG] := by simp [gas]
  have e2 : nu (c.outs ++ [77, 78]) = nu c.outs ++ nu [77, 78] := by simp [nu]
  rw [e1] at h1
  rw [e2] at h2
  exact ⟨h1.front, h2.front⟩
theorem TwinAt.below {W W' : World} {B : Nat} {c : Net} {gg cg go co : Nat} (h : TwinAt W B c gg cg go co) (hb : Below W.heap.size W W') : TwinAt W' B c gg cg go co := ⟨ownsRow_below h.gates hb, ownsRow_below h.outs hb⟩
end Go.Proofs.YtfmmmhcpdinhgaaDoor
