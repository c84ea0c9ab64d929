import Derived.Test.YtfmmmhcpdinhgabDoorZ14
/-
  The document's reading: what resolve leaves.
-/
namespace Go.Proofs.YtfmmmhcpdinhgabDoor
open Go.RowKit Go.Deep PureNet PureRd
set_option maxRecDepth 100000

/-- what resolve leaves. -/
def ResIs (w W : World) (r : Nat) (text : List UInt8) (s : Rs) (x : Dx) (RES : Option Wd × List Ga × List Int) (e : Ending) (W' : World) : Prop :=
  Below w.heap.size W W' ∧ Kp W W' ∧ ((∃ y gs os, RES = (some y, gs, os) ∧ e = .returned (faV text (142, y.2))) ∨ (∃ gs os, RES = (none, gs, os) ∧ gs.length = (gatesOf s.lines).length ∧ os.length = s.outs ∧ e = .returned (.agg #[.int .i64 0, .int .i64 0, .int .i64 0]) ∧ Rz w W' r text { dOf s with gs := gs } x os))
theorem putGa_cell (W : World) (g j : Nat) (y : Ga) (p : Addr) (hp : p.block ≠ g) : (putGa W g j y).cell? p = W.cell? p := World.cell?_of_block (putGa_other W g j y p.block hp)
theorem Rz.ln {w W : World} {r : Nat} {text : List UInt8} {d : Db} {x : Dx} {os : List Int} (h : Rz w W r text d x os) (j : Nat) (g0 : Ga) (hg0 : d.gs[j]? = some g0) : ∃ g c, x.gv = .slice (some ⟨g, 0, none⟩) d.gs.length c ∧ w.heap.size ≤ g ∧ g < W.heap.size ∧ ∀ jj, jj < 6 → W.cell? ⟨g, j * 6 + jj, none⟩ = (ga g0)[jj]? ∧ W.frozen? ⟨g, j * 6 + jj, none⟩ = false := by
  have hjl : j < d.gs.length := (List.getElem?_eq_some_iff.1 hg0).1
  have at_ : ∀ jj, jj < 6 → (gas d.gs)[j * 6 + jj]? = some ((ga g0)[jj]?.getD undef) := fun jj hjj => by
    rw [gas_at d.gs j jj hjl hjj, (List.getElem?_eq_some_iff.1 hg0).2]
    have hl : (ga g0).length = 6 := rfl
    rw [List.getElem?_eq_getElem (by omega)]
    rfl
  obtain ⟨g, c, h1, h2, h3, _⟩ := ShfKit.own_cell h.gates (at_ 0 (by omega))
  refine ⟨g, c, h1, h2, h3, fun jj hjj => ?_⟩
  obtain ⟨g', c', h1', h2', h3', h4', h5'⟩ := ShfKit.own_cell h.gates (at_ jj hjj)
  rw [h1] at h1'
  simp only [Value.slice.injEq, Option.some.injEq, Addr.mk.injEq, and_true, true_and] at h1'
  rw [h1'.1, h4']
  have hl : (ga g0).length = 6 := rfl
  rw [List.getElem?_eq_getElem (by omega)]
  exact ⟨rfl, h5'⟩
theorem Rz.ans {w W : World} {r k : Nat} {text : List UInt8} {d : Db} {x : Dx} {os : List Int} {cs : Array Value} (h : Rz w W r text d x os) (hk : W.heap[k]? = some (.cells cs 30 (0, 0))) (hl : w.heap.size ≤ k) (u1 u2 u3 : Value) : Rz w (((W.setCell ⟨k, 0, none⟩ u1).setCell ⟨k, 1, none⟩ u2).setCell ⟨k, 2, none⟩ u3) r text d x os := by
  have ne : ∀ j, j ≠ k → (((W.setCell ⟨k, 0, none⟩ u1).setCell ⟨k, 1, none⟩ u2).setCell ⟨k, 2, none⟩ u3).heap[j]? = W.heap[j]? := fun j hj => by
    rw [Below.heap_setCell _ _ _ _ (show j ≠ k from hj), Below.heap_setCell _ _ _ _ (show j ≠ k from hj), Below.heap_setCell _ _ _ _ (show j ≠ k from hj)]
  have keep : ∀ {e size n : Nat} {v : Value} {xs : List Value}, W.ownsRow w.heap.size e size v n xs → e ≠ 30 → (((W.setCell ⟨k, 0, none⟩ u1).setCell ⟨k, 1, none⟩ u2).setCell ⟨k, 2, none⟩ u3).ownsRow w.heap.size e size v n xs := fun ho h1 => own_same ho (fun j hj => ne j (fun e => by
    obtain ⟨c2, f2, hk2⟩ := Lib.ownsRow_kind ho j hj
    rw [e, hk] at hk2
    simp at hk2
    exact h1 hk2.2.1.symm))
  have n1 : r ≠ k := fun e => by
    have h1 := h.box
    rw [e, hk] at h1
    simp at h1
  have n2 : x.kb ≠ k := fun e => by
    have h1 := h.krow
    rw [e, hk] at h1
    simp at h1
  exact ⟨(ne r n1).trans h.box, h.low, (ne x.kb n2).trans h.krow, h.klow, keep h.kon (by decide), keep h.kop (by decide), keep h.gates (by decide), keep h.outs (by decide), keep h.ats (by decide), keep h.uses (by decide), h.two, h.hPl, h.rise, h.pl, ((h.below.setCell (p := ⟨k, 0, none⟩) hl _).setCell (p := ⟨k, 1, none⟩) hl _).setCell (p := ⟨k, 2, none⟩) hl _⟩
theorem res_res {w W w3 : World} {r : Nat} {text : List UInt8} {s : Rs} {x : Dx} {RES : Option Wd × List Ga × List Int} {e : Ending} (h : ResIs w W r text s x RES e w3) :
    ∃ A B C : Int, e = .returned (.agg #[.int .i64 A, .int .i64 B, .int .i64 C]) ∧ Hid ((∃ y gs os, RES = (some y, gs, os) ∧ faV text (142, y.2) = .agg #[.int .i64 A, .int .i64 B, .int .i64 C]) ∨ (∃ gs os, RES = (none, gs, os) ∧ gs.length = (gatesOf s.lines).length ∧ os.length = s.outs ∧ A = 0 ∧ Rz w w3 r text { dOf s with gs := gs } x os)) := by
  rcases h.2.2 with ⟨y, gs, os, h1, rfl⟩ | ⟨gs, os, h1, h2, h3, rfl, h4⟩
  · exact ⟨_, _, _, rfl, .inl ⟨y, gs, os, h1, rfl⟩⟩
  · exact ⟨0, 0, 0, rfl, .inr ⟨gs, os, h1, h2, h3, rfl, h4⟩⟩
/-- resolve use by use is what the landed reader connects. -/
theorem res_some {s : Rs} (hi : Inv s) (ho : Ov s) {y : Wd} {gs : List Ga} {os : List Int} (h : resU (placeOf s) (usesOf 0 s.lines) (gatesOf s.lines) (List.replicate s.outs 0) 0 = (some y, gs, os)) : ∃ gs' os', connF s s.lines [] [] = (some y, gs', os') := by
  obtain ⟨q1, q2⟩ := resU_conn s s.lines [] [] hi.form
  rw [ho.outs] at q1 q2
  obtain ⟨⟨c, gs', os'⟩, hc⟩ : ∃ z, connF s s.lines [] [] = z := ⟨_, rfl⟩
  cases c with
  | none =>
    have := q2 gs' os' hc
    simp only [List.length_nil, List.nil_append] at this
    rw [this] at h
    simp at h
  | some z =>
    obtain ⟨a, b, e⟩ := q1 z gs' os' hc
    simp only [List.length_nil, List.nil_append] at e
    rw [e] at h
    simp only [Prod.mk.injEq, Option.some.injEq] at h
    exact ⟨gs', os', by rw [hc, h.1]⟩
theorem res_none {s : Rs} (hi : Inv s) (ho : Ov s) {gs : List Ga} {os : List Int} (h : resU (placeOf s) (usesOf 0 s.lines) (gatesOf s.lines) (List.replicate s.outs 0) 0 = (none, gs, os)) : connF s s.lines [] [] = (none, gs, os) := by
  obtain ⟨q1, q2⟩ := resU_conn s s.lines [] [] hi.form
  rw [ho.outs] at q1 q2
  obtain ⟨⟨c, gs', os'⟩, hc⟩ : ∃ z, connF s s.lines [] [] = z := ⟨_, rfl⟩
  cases c with
  | none =>
    have := q2 gs' os' hc
    simp only [List.length_nil, List.nil_append] at this
    rw [this] at h
    simp only [Prod.mk.injEq, true_and] at h
    rw [hc, h.1, h.2]
  | some z =>
    obtain ⟨a, b, e⟩ := q1 z gs' os' hc
    simp only [List.length_nil, List.nil_append] at e
    rw [e] at h
    simp at h
end Go.Proofs.YtfmmmhcpdinhgabDoor
/-
  The document's own Circles.
-/
namespace Go.Proofs.YtfmmmhcpdinhgabDoor
open Go.RowKit Go.Deep PureNet ShfKit
set_option maxRecDepth 100000

set_option maxHeartbeats 1000000 in
set_option maxRecDepth 100000 in
theorem leans_any (g : Ga) (w : World) : Calls Tryd.prog 43 #[.agg #[.int .i64 g.kind, .string g.name, .int .i64 g.op, .int .i64 g.a, .int .i64 g.b, .int .i64 g.c]] w fun e w' => e = .returned (leansV g) ∧ Below w.heap.size w w' := by
  by_cases h2 : g.kind = 2
  · have HV : Hid (leansV g = .tuple #[.int .i64 2, .agg #[.int .i64 g.a, .int .i64 g.b, .int .i64 0]]) := by show _ = _; simp [leansV, h2]
    obtain ⟨x, hx⟩ : ∃ x, x = w.alloc (Obj.cells #[.int .i64 2, .string g.name, .int .i64 g.op, .int .i64 g.a, .int .i64 g.b, .int .i64 g.c] 57) := ⟨_, rfl⟩
    have c0 : ∀ i, x.cell? ⟨w.heap.size, i, none⟩ = (#[.int .i64 2, .string g.name, .int .i64 g.op, .int .i64 g.a, .int .i64 g.b, .int .i64 g.c] : Array Value)[i]? := fun i => by rw [hx]; exact cell_row (heap_alloc_new w _) i
    have hb0 : w.heap.size < x.heap.size := by rw [hx]; simp
    have BX : Hid (Below w.heap.size w x) := by rw [hx]; exact (Below.refl _ _).alloc (Nat.le_refl _) _
    have HX := hid hx
    clear hx
    rw [h2]
    clear h2
    go_enter Tryd.func43, Tryd.ntmps43
    go_wp2_with (rw [← HX.out])
    go_region
    go_wp2
    exact bodyPost_ret (v := .tuple #[.int .i64 2, .agg #[.int .i64 g.a, .int .i64 g.b, .int .i64 0]]) (by simp [results, Tryd.results43, go_sem]) rfl ⟨by rw [HV.out], below_drewN (BX.out.alloc BX.out.size _) 1⟩
  · by_cases h4 : g.kind = 4
    · have HV : Hid (leansV g = .tuple #[.int .i64 3, .agg #[.int .i64 g.a, .int .i64 g.b, .int .i64 g.c]]) := by show _ = _; simp [leansV, h4]
      obtain ⟨x, hx⟩ : ∃ x, x = w.alloc (Obj.cells #[.int .i64 4, .string g.name, .int .i64 g.op, .int .i64 g.a, .int .i64 g.b, .int .i64 g.c] 57) := ⟨_, rfl⟩
      have c0 : ∀ i, x.cell? ⟨w.heap.size, i, none⟩ = (#[.int .i64 4, .string g.name, .int .i64 g.op, .int .i64 g.a, .int .i64 g.b, .int .i64 g.c] : Array Value)[i]? := fun i => by rw [hx]; exact cell_row (heap_alloc_new w _) i
      have hb0 : w.heap.size < x.heap.size := by rw [hx]; simp
      have BX : Hid (Below w.heap.size w x) := by rw [hx]; exact (Below.refl _ _).alloc (Nat.le_refl _) _
      have HX := hid hx
      clear hx
      rw [h4]
      clear h4 h2
      go_enter Tryd.func43, Tryd.ntmps43
      go_wp2_with (rw [← HX.out])
      go_region
      go_wp2
      exact bodyPost_ret (v := .tuple #[.int .i64 3, .agg #[.int .i64 g.a, .int .i64 g.b, .int .i64 g.c]]) (by simp [results, Tryd.results43, go_sem]) rfl ⟨by rw [HV.out], below_drewN (BX.out.alloc BX.out.size _) 1⟩
    · have HV : Hid (leansV g = .tuple #[.int .i64 0, .agg #[.int .i64 0, .int .i64 0, .int .i64 0]]) := by show _ = _; simp [leansV, h2, h4]
      obtain ⟨x, hx⟩ : ∃ x, x = w.alloc (Obj.cells #[.int .i64 g.kind, .string g.name, .int .i64 g.op, .int .i64 g.a, .int .i64 g.b, .int .i64 g.c] 57) := ⟨_, rfl⟩
      have c0 : ∀ i, x.cell? ⟨w.heap.size, i, none⟩ = (#[.int .i64 g.kind, .string g.name, .int .i64 g.op, .int .i64 g.a, .int .i64 g.b, .int .i64 g.c] : Array Value)[i]? := fun i => by rw [hx]; exact cell_row (heap_alloc_new w _) i
      have hb0 : w.heap.size < x.heap.size := by rw [hx]; simp
      have BX : Hid (Below w.heap.size w x) := by rw [hx]; exact (Below.refl _ _).alloc (Nat.le_refl _) _
      have HX := hid hx
      clear hx
      go_enter Tryd.func43, Tryd.ntmps43
      go_wp2_with (rw [← HX.out])
      exact bodyPost_ret (v := .tuple #[.int .i64 0, .agg #[.int .i64 0, .int .i64 0, .int .i64 0]]) (by simp [results, Tryd.results43, go_sem]) rfl ⟨by rw [HV.out], BX.out.alloc BX.out.size _⟩

set_option maxHeartbeats 1000000 in
set_option maxRecDepth 100000 in
theorem layers_any (l : List Ga) (sg : Option Addr) (cg : Nat) (w : World) (hc : CellsAt w sg (gas l)) (hl : l.length ≤ 65536) (hp : ∀ (i : Nat) (g : Ga), l[i]? = some g → ∀ a ∈ leansOn g, 0 ≤ a ∧ a < (l.length : Int)) :
    Calls Tryd.prog 23 #[.slice sg l.length cg] w fun e w' => ∃ v out, e = .returned v ∧ w'.ownsRow w.heap.size 3 1 v out.length (placesV out) ∧ Below w.heap.size w w' ∧ LayS l out out.length (fun j => decide (((entsOf l).getD j (0, 0)).1 ∈ out.take out.length)) := by
  obtain ⟨n, hn⟩ : ∃ n, n = l.length := ⟨_, rfl⟩
  have HC := hid hc
  have HP := hid hp
  have HN := hid hn
  have hmk : ∀ W : World, (Instr.makeSlice 23 (.int .i64 (n : Int)) (.int .i64 (n : Int))).run Tryd.prog W = .ok (.slice (some ⟨W.heap.size, 0, none⟩) n n) (W.alloc (.cells (madeCells #[.int .i64 0] n) 3)) := fun W =>
    run_make_row' (P := Tryd.prog) 23 3 (.int .i64 0) 8 Tryd.underlying23 info3 rfl .i64 .i64 n (by omega) (by omega) W
  have hl' : n ≤ 65536 := by omega
  rw [← hn]
  clear hc hp hn hl
  go_enter Tryd.func23, Tryd.ntmps23
  go_wp2
  obtain ⟨X, hX⟩ : ∃ X, X = (w.alloc (.cells (madeCells #[.int .i64 0] n) 3)).alloc (.cells (madeCells #[.int .i64 0] n) 3) := ⟨_, rfl⟩
  have HF0 : Hid (Fam X w.heap.size 3 1 [(.slice (some ⟨w.heap.size, 0, none⟩) n n, n, rowF n fun _ => 0), (.slice (some ⟨w.heap.size + 1, 0, none⟩) n n, n, rowF n fun _ => 0)] ∧ Below w.heap.size w X) := by
    have h1 := (Fam.nil w w.heap.size 3 1).push (y := (.slice (some ⟨w.heap.size, 0, none⟩) n n, n, rowF n fun _ => 0)) ((Below.refl _ _).alloc (Nat.le_refl _) (.cells (madeCells #[.int .i64 0] n) 3)) (made_row w n hl') (Nat.le_refl _)
    have h2 := h1.push (y := (.slice (some ⟨w.heap.size + 1, 0, none⟩) n n, n, rowF n fun _ => 0)) ((Below.refl _ _).alloc (Nat.le_refl _) (.cells (madeCells #[.int .i64 0] n) 3)) (by
      have := made_row (w.alloc (.cells (madeCells #[.int .i64 0] n) 3)) n hl'
      simpa using this) (by simp)
    rw [hX]
    exact ⟨h2, ((Below.refl _ _).alloc (Nat.le_refl _) _).alloc (by simp) _⟩
  rw [← hX]
  clear hX hmk
  go_loopw [8] (fun iv W => ∃ i : Nat, i ≤ n ∧ iv = .int .i64 (i : Int) ∧ Hid (Fam W w.heap.size 3 1 [(.slice (some ⟨w.heap.size, 0, none⟩) n n, n, rowF n fun _ => 0), (.slice (some ⟨w.heap.size + 1, 0, none⟩) n n, n, rowF n fun x => if x < i then -1 else 0)] ∧ Below w.heap.size w W)) (fun iv _ => n - (intOf iv).toNat)
  case atStart => exact ⟨0, Nat.zero_le _, rfl, by
    have h := HF0.out
    refine ⟨?_, h.2⟩
    rw [show (rowF n fun x => if x < 0 then (-1 : Int) else 0) = rowF n fun _ => 0 from rowF_congr (fun j _ => by simp)]
    exact h.1⟩
  case round =>
    obtain ⟨i, hi, rfl, HR⟩ := hrel
    by_cases hlt : i < n
    · obtain ⟨hF, hB⟩ := HR.out
      obtain ⟨g, c, hv, _, hg, hc0, hf0⟩ := own_cell (hF.own 1 _ rfl) (rowF_at n _ i hlt)
      have hv2 := hv
      simp only [Value.slice.injEq, Option.some.injEq, Addr.mk.injEq, and_true, true_and] at hv
      obtain ⟨rfl, rfl⟩ := hv
      have HR2 : Hid (Fam (wr.setCell ⟨w.heap.size + 1, i, none⟩ (.int .i64 (-1))) w.heap.size 3 1 [(.slice (some ⟨w.heap.size, 0, none⟩) n n, n, rowF n fun _ => 0), (.slice (some ⟨w.heap.size + 1, 0, none⟩) n n, n, rowF n fun x => if x < i + 1 then -1 else 0)] ∧ Below w.heap.size w (wr.setCell ⟨w.heap.size + 1, i, none⟩ (.int .i64 (-1)))) := by
        have h1 := hF.write (i := 1) rfl hv2 (j := i) (.int .i64 (-1))
        refine ⟨?_, hB.setCell (by simp) _⟩
        have h3 : (rowF n fun x => if x < i then (-1 : Int) else 0).set i (.int .i64 (-1)) = rowF n fun x => if x < i + 1 then -1 else 0 := by
          rw [rowF_set]
          refine rowF_congr fun j hj => ?_
          by_cases hji : j = i
          · simp [hji]
          · rw [if_neg hji]
            by_cases hj2 : j < i
            · rw [if_pos hj2, if_pos (by omega)]
            · rw [if_neg hj2, if_neg (by omega)]
        rw [← h3]
        exact h1
      clear HR hF hB hv2
      go_wp2
      exact ⟨⟨i + 1, hlt, by go_num, HR2.out⟩, by simp [intOf]; omega⟩
    · obtain rfl : i = n := by omega
      have HA : Hid (LyA w wr l (.slice (some ⟨w.heap.size, 0, none⟩) i i) (.slice (some ⟨w.heap.size + 1, 0, none⟩) i i) (.slice none 0 0) (.slice none 0 0) (.slice none 0 0) (fun _ => 0) 0 []) := by
        obtain ⟨hF, hB⟩ := HR.out
        refine ⟨?_, hB⟩
        have h5 := fam_pushNil (fam_pushNil (fam_pushNil hF hB.size) hB.size) hB.size
        rw [← HN.out, show (rowF i fun y => lastI (entsOf l) y 0) = rowF i fun x => if x < i then -1 else 0 from rowF_congr (fun j hj => by rw [if_pos hj]; rfl)]
        exact h5
      clear HR HF0
      obtain ⟨wv, hwv⟩ : ∃ v, v = Value.slice (some ⟨w.heap.size, 0, none⟩) i i := ⟨_, rfl⟩
      obtain ⟨fv, hfv⟩ : ∃ v, v = Value.slice (some ⟨w.heap.size + 1, 0, none⟩) i i := ⟨_, rfl⟩
      rw [← hwv, ← hfv] at HA
      go_wp2
      go_loopw [5, 6, 7, 9] (fun nv uv ov iv W => ∃ k : Nat, k ≤ i ∧ iv = .int .i64 (k : Int) ∧ Hid (LyA w W l wv fv nv uv ov (fun x => if x < k then ((leansOn (l.getD x ⟨0, default, 0, 0, 0, 0⟩)).length : Int) else 0) (entsOf (l.take k)).length (freeL l k))) (fun _ _ _ iv _ => i - (intOf iv).toNat)
      case atStart =>
        refine ⟨0, Nat.zero_le _, rfl, ?_⟩
        show LyA _ _ _ _ _ _ _ _ _ _ _
        have h := HA.out
        refine ⟨?_, h.below⟩
        rw [show (rowF l.length fun x => if x < 0 then ((leansOn (l.getD x ⟨0, default, 0, 0, 0, 0⟩)).length : Int) else 0) = rowF l.length fun _ => 0 from rowF_congr (fun j _ => by simp)]
        exact h.fam
      case round =>
        obtain ⟨k, hk, rfl, HL⟩ := hrel
        clear HA
        by_cases hlt2 : k < i
        · obtain ⟨g, hg⟩ : ∃ g, l[k]? = some g := ⟨_, List.getElem?_eq_getElem (by rw [← HN.out]; exact hlt2)⟩
          obtain ⟨b, o, rfl, hb, d0, d1, d2, d3, d4, d5⟩ := gate_at (HC.out.below HL.out.below) k g hg
          obtain ⟨a0, a1, a2, hlv, hak⟩ := leansV_form g
          have HLE := hid (fun W => leans_any g W)
          rw [hlv] at HLE
          obtain ⟨cnt, hcnt⟩ : ∃ c, c = (leansOn g).length := ⟨_, rfl⟩
          rw [← hcnt] at HLE
          have hcnt3 : cnt ≤ 3 := by rw [hcnt]; exact leans_len g
          have HCNT := hid hcnt
          have HG := hid hg
          have HAK := hid hak
          clear hg hlv hak hcnt
          have HKL : Hid (k < l.length) := by rw [← HN.out]; exact hlt2
          go_wp2_with (go_at_call 43; refine Calls.mono (HLE.out _) ?_; rintro e w1 ⟨rfl, b1⟩; have HL1 : Hid (∀ o, LyA w (w1.alloc o) l wv fv u5 u6 u7 (fun x => if x < k then ((leansOn (l.getD x ⟨0, default, 0, 0, 0, 0⟩)).length : Int) else 0) (entsOf (l.take k)).length (freeL l k)) := (fun o => (HL.out.on b1).on ((Below.refl _ _).alloc (Nat.le_refl _) o)); have cw : ∀ o, (w1.alloc o).cell? ⟨w.heap.size, k, none⟩ = some (.int .i64 (if k < k then ((leansOn (l.getD k ⟨0, default, 0, 0, 0, 0⟩)).length : Int) else 0)) := (fun o => ((HL1.out o).wait HKL.out (by rw [hwv, HN.out])).1); have fw : ∀ o, (w1.alloc o).frozen? ⟨w.heap.size, k, none⟩ = false := (fun o => ((HL1.out o).wait HKL.out (by rw [hwv, HN.out])).2.1); have hszw : w.heap.size + 1 < w1.heap.size := Nat.lt_of_lt_of_le (HL.out.first HKL.out (by rw [hfv, HN.out])).2.2 b1.size; clear b1)
          obtain ⟨m, hm⟩ : ∃ m, m = (entsOf (l.take k)).length := ⟨_, rfl⟩
          have HM := hid hm
          have hm3 : m ≤ 196608 := by
            have := ents_take_len l k (by have := HKL.out; omega)
            omega
          rw [← hm] at HL1
          obtain ⟨Y, hY⟩ : ∃ Y, Y = (w1.alloc (Obj.cells #[Value.int IntKind.i64 a0, Value.int IntKind.i64 a1, Value.int IntKind.i64 a2] 88)).setCell ⟨w.heap.size, k, none⟩ (Value.int IntKind.i64 (cnt : Int)) := ⟨_, rfl⟩
          have HY : Hid (LyA w Y l wv fv u5 u6 u7 (fun x => if x < k + 1 then ((leansOn (l.getD x ⟨0, default, 0, 0, 0, 0⟩)).length : Int) else 0) m (freeL l k)) := by
            rw [hY]
            refine ((HL1.out _).setWait (by rw [hwv, HN.out]) k (cnt : Int) (Nat.le_refl _)).congr fun j _ => ?_
            by_cases hjk : j = k
            · rw [if_pos hjk, if_pos (by omega), hjk, HCNT.out, show l.getD k ⟨0, default, 0, 0, 0, 0⟩ = g by rw [List.getD_eq_getElem?_getD, HG.out]; rfl]
            · rw [if_neg hjk]
              by_cases hjl : j < k
              · rw [if_pos hjl, if_pos (by omega)]
              · rw [if_neg hjl, if_neg (by omega)]
          have HRY : Hid (Y.heap[w1.heap.size]? = some (.cells #[Value.int IntKind.i64 a0, Value.int IntKind.i64 a1, Value.int IntKind.i64 a2] 88 (0, 0))) := by
            rw [hY]
            exact (Below.heap_setCell _ _ _ _ (show w1.heap.size ≠ w.heap.size by omega)).trans (heap_alloc_new w1 _)
          rw [← hY]
          clear hY HL1 cw fw HLE d0 d1 d2 d3 d4 d5 HL hm
          go_loopw [5, 6, 12] (fun nv uv tv W => ∃ t : Nat, t ≤ cnt ∧ tv = .int .i64 (t : Int) ∧ Hid (LyA w W l wv fv nv uv u7 (fun x => if x < k + 1 then ((leansOn (l.getD x ⟨0, default, 0, 0, 0, 0⟩)).length : Int) else 0) (m + t) (freeL l k) ∧ W.heap[w1.heap.size]? = some (.cells #[Value.int IntKind.i64 a0, Value.int IntKind.i64 a1, Value.int IntKind.i64 a2] 88 (0, 0)))) (fun _ _ tv _ => cnt - (intOf tv).toNat)
          case atStart => exact ⟨0, Nat.zero_le _, rfl, HY.out, HRY.out⟩
          case round =>
            obtain ⟨t, ht, rfl, HT⟩ := hrel
            clear HY HRY
            by_cases htl : t < cnt
            · obtain ⟨av, hav⟩ : ∃ a, (leansOn g)[t]? = some a := ⟨_, List.getElem?_eq_getElem (by rw [← HCNT.out]; exact htl)⟩
              obtain ⟨av0, av1⟩ := HP.out k g HG.out av (List.mem_of_getElem? hav)
              obtain ⟨y, rfl⟩ := Int.eq_ofNat_of_zero_le av0
              have hyn : y < i := by rw [HN.out]; omega
              have HE := hid (ents_at l k t g _ HG.out hav)
              have HCR : Hid (∀ W : World, W.heap[w1.heap.size]? = some (.cells #[Value.int IntKind.i64 a0, Value.int IntKind.i64 a1, Value.int IntKind.i64 a2] 88 (0, 0)) → W.cell? ⟨w1.heap.size, t, none⟩ = some (.int .i64 (y : Int))) := fun W hW => by
                rw [cell_row hW]
                have := HAK.out t _ hav
                match t, this with
                | 0, h => simp at h; simp [h]
                | 1, h => simp at h; simp [h]
                | 2, h => simp at h; simp [h]
              have car := HCR.out wr HT.out.2
              have car1 := (Array.getElem?_eq_some_iff.1 HT.out.2).1
              obtain ⟨cf, ff, fl⟩ := HT.out.1.first (k := y) (by rw [← HN.out]; exact hyn) (by rw [hfv, HN.out])
              obtain ⟨la, hla⟩ : ∃ a, a = lastI (entsOf l) y (m + t) := ⟨_, rfl⟩
              rw [← hla] at cf
              have HLA := hid hla
              clear hav av0 av1 hla
              go_wp2_with (first
                | (have q := HF2; clear q; at_builtin; refine fam_app rfl _ _ rfl HF2.out HB2.out 3 _ rfl (k : Int) _ _ rfl rfl rfl (by show m + t ≤ _; omega) ?_; intro sx3 cx3 w3 hf3 hb3 hk3; have HF3 := hid hf3; have HB3 := hid hb3; have HR3 := hid (hk3 _ _ _ _ HR2.out (by decide)); have car3 := HCR.out w3 HR3.out; have car3l := (Array.getElem?_eq_some_iff.1 HR3.out).1; obtain ⟨cf3, ff3, fl3⟩ := fam_cell HF3.out (i := 1) rfl (by rw [hfv, HN.out]) (k := y) (by rw [← HN.out]; exact hyn); clear hf3 hb3 hk3)
                | (at_builtin; refine fam_app rfl _ _ rfl HT.out.1.fam HT.out.1.below 2 _ rfl la _ _ rfl rfl rfl (by show m + t ≤ _; omega) ?_; intro sx2 cx2 w2 hf2 hb2 hk2; have HF2 := hid hf2; have HB2 := hid hb2; have HR2 := hid (hk2 _ _ _ _ HT.out.2 (by decide)); clear hf2 hb2 hk2))
              have hE2 : (entsOf l).getD (m + t) (0, 0) = (y, k) := by
                have := HE.out.1
                rw [← HM.out] at this
                simpa using this
              have hF3 := HF3.out
              rw [HLA.out] at hF3
              have hA3 := LyA.entry (g := w.heap.size + 1) hE2 hF3 HB3.out (by rw [hfv, HN.out]) (by omega)
              have hR3 : (w3.setCell ⟨w.heap.size + 1, y, none⟩ (Value.int IntKind.i64 ((m : Int) + (t : Int)))).heap[w1.heap.size]? = some (.cells #[Value.int IntKind.i64 a0, Value.int IntKind.i64 a1, Value.int IntKind.i64 a2] 88 (0, 0)) := (Below.heap_setCell _ _ _ _ (show w1.heap.size ≠ w.heap.size + 1 by omega)).trans HR3.out
              rw [show ((m + t : Nat) : Int) = (m : Int) + (t : Int) by omega] at hA3
              exact ⟨⟨t + 1, htl, by go_num, hA3, hR3⟩, by simp [intOf]; omega⟩
            · obtain rfl : t = cnt := by omega
              have hlen : m + t = (entsOf (l.take (k + 1))).length := by rw [ents_take l k g HG.out, List.length_append, List.length_map, ← HM.out, ← HCNT.out]
              have HT1 := hid HT.out.1
              rw [hlen] at HT1
              have hfr := freeL_succ l k g HG.out
              have hfl := freeL_len l k
              clear HT
              by_cases hz : t = 0
              · have h0 : leansOn g = [] := List.eq_nil_of_length_eq_zero (by rw [← HCNT.out]; exact hz)
                rw [if_pos h0] at hfr
                have HFR := hid hfr
                clear hfr h0 hlen
                subst hz
                go_wp2_with (first
                  | (at_builtin; refine fam_app rfl _ _ rfl HT1.out.fam HT1.out.below 4 _ rfl (k : Int) _ _ rfl rfl rfl (by show (freeL l k).length ≤ _; omega) ?_; intro sx2 cx2 w2 hf2 hb2 _; have HF2 := hid hf2; have HB2 := hid hb2; clear hf2 hb2))
                refine ⟨⟨k + 1, hlt2, by go_num, ?_⟩, by simp [intOf]; omega⟩
                show LyA _ _ _ _ _ _ _ _ _ _ _
                refine ⟨?_, HB2.out⟩
                rw [HFR.out, ← places_snoc, List.length_append, List.length_singleton]
                exact HF2.out
              · have h0 : leansOn g ≠ [] := fun e => hz (by rw [HCNT.out, e]; rfl)
                rw [if_neg h0, List.append_nil] at hfr
                have HFR := hid hfr
                have hzi : ((t : Int) == 0) = false := by rw [beq_eq_false_iff_ne]; omega
                clear hfr h0 hlen
                go_wp2
                refine ⟨⟨k + 1, hlt2, by go_num, ?_⟩, by simp [intOf]; omega⟩
                show LyA _ _ _ _ _ _ _ _ _ _ _
                rw [HFR.out]
                exact HT1.out
        · obtain rfl : k = i := by omega
          obtain ⟨M, hM⟩ : ∃ M, M = (entsOf l).length := ⟨_, rfl⟩
          have HM := hid hM
          have hM3 : M ≤ 196608 := by
            have := ents_len l
            rw [← HN.out] at this
            omega
          have HC0 : Hid (LyA w wr l wv fv u5 u6 u7 (fun x => (waits (entsOf l) (fun j => decide (((entsOf l).getD j (0, 0)).1 ∈ (freeL l l.length).take 0)) x : Int)) M (freeL l l.length) ∧ LayS l (freeL l l.length) 0 (fun j => decide (((entsOf l).getD j (0, 0)).1 ∈ (freeL l l.length).take 0))) := by
            have h := HL.out
            rw [HN.out, List.take_length, ← HM.out] at h
            refine ⟨h.congr fun j hj => ?_, LayS.start (freeL_nodup l _) (freeL_mem l)⟩
            rw [if_pos hj, waits_first l _ j l[j] (List.getElem?_eq_getElem hj), List.getD_eq_getElem?_getD, List.getElem?_eq_getElem hj]
            rfl
          clear HL hM hlt2
          go_wp2
          go_loopw [7, 13] (fun ov qv W => ∃ (q : Nat) (out : List Nat), q ≤ out.length ∧ qv = .int .i64 (q : Int) ∧ Hid (LyA w W l wv fv u5 u6 ov (fun x => (waits (entsOf l) (fun j => decide (((entsOf l).getD j (0, 0)).1 ∈ out.take q)) x : Int)) M out ∧ LayS l out q (fun j => decide (((entsOf l).getD j (0, 0)).1 ∈ out.take q)))) (fun _ qv _ => k + 1 - (intOf qv).toNat)
          case atStart => exact ⟨0, _, Nat.zero_le _, rfl, HC0.out⟩
          case round =>
            obtain ⟨q, out, hq, rfl, HQ⟩ := hrel
            clear HC0
            have hfew := lay_few HQ.out.2
            rw [← HN.out] at hfew
            obtain ⟨so, co, hov⟩ := own_shape (HQ.out.1.fam.own 4 _ rfl)
            simp only at hov
            subst hov
            by_cases hqo : q < out.length
            · obtain ⟨y, hy⟩ : ∃ y, out[q]? = some y := ⟨_, List.getElem?_eq_getElem hqo⟩
              have hyl := HQ.out.2.lt y (List.mem_of_getElem? hy)
              rw [← HN.out] at hyl
              obtain ⟨go, co', hso, _, hgo, cq, _⟩ := own_cell (HQ.out.1.fam.own 4 _ rfl) (rowF_at out.length (fun k => (out.getD k 0 : Int)) q hqo)
              simp only [Value.slice.injEq, true_and] at hso
              obtain ⟨rfl, rfl⟩ := hso
              have hyd : (out.getD q 0 : Int) = (y : Int) := by rw [List.getD_eq_getElem?_getD, hy]; rfl
              rw [hyd] at cq
              obtain ⟨cf, _, fl⟩ := HQ.out.1.first (k := y) (by rw [← HN.out]; exact hyl) (by rw [hfv, HN.out])
              obtain ⟨e0, he0⟩ : ∃ e, e = lastI (entsOf l) y M := ⟨_, rfl⟩
              rw [← he0] at cf
              have HI : Hid (LyA w wr l wv fv u5 u6 (.slice (some ⟨go, 0, none⟩) out.length co) (fun x => (waits (entsOf l) (doneAt (entsOf l) out q e0) x : Int)) M out ∧ LayS l out q (doneAt (entsOf l) out q e0)) := by
                rw [he0, HM.out]
                refine ⟨?_, HQ.out.2.enter hy⟩
                have h1 := HQ.out.1
                rw [HM.out] at h1
                refine h1.congr fun j _ => ?_
                rw [waits_congr fun i hi _ => done_enter hy i hi]
              have hbnd := lastI_lt (entsOf l) y M
              have hhit := fun kk => lastI_hit (entsOf l) y M kk
              rw [← he0] at hbnd hhit
              have HHIT := hid hhit
              have HY0 := hid hy
              clear HQ he0 hyd hhit hy
              go_wp2
              go_loopw [7, 14] (fun ov ev W => ∃ (e : Int) (out1 : List Nat), ev = .int .i64 e ∧ -1 ≤ e ∧ e < (M : Int) ∧ Hid (out1[q]? = some y ∧ (∀ kk : Nat, e = (kk : Int) → ((entsOf l).getD kk (0, 0)).1 = y) ∧ LyA w W l wv fv u5 u6 ov (fun x => (waits (entsOf l) (doneAt (entsOf l) out1 q e) x : Int)) M out1 ∧ LayS l out1 q (doneAt (entsOf l) out1 q e))) (fun _ ev _ => (intOf ev + 1).toNat)
              case atStart => exact ⟨e0, out, rfl, hbnd.1, hbnd.2, HY0.out, fun kk h => (HHIT.out kk h).2.1, HI.out.1, HI.out.2⟩
              case round =>
                obtain ⟨e, out1, rfl, he1, he2, HJ⟩ := hrel
                clear HI HHIT HY0 cq cf fl hbnd
                by_cases hen : e < 0
                · obtain ⟨h1, _, h3, h4⟩ := HJ.out
                  have HNX : Hid (LyA w wr l wv fv u5 u6 u7 (fun x => (waits (entsOf l) (fun j => decide (((entsOf l).getD j (0, 0)).1 ∈ out1.take (q + 1))) x : Int)) M out1 ∧ LayS l out1 (q + 1) (fun j => decide (((entsOf l).getD j (0, 0)).1 ∈ out1.take (q + 1)))) := by
                    refine ⟨h3.congr fun j _ => ?_, h4.leave h1 hen⟩
                    rw [waits_congr fun i _ _ => done_leave h1 hen i]
                  have hq1 := (List.getElem?_eq_some_iff.1 h1).1
                  have hfew1 := lay_few h4
                  rw [← HN.out] at hfew1
                  clear h1 h3 h4 HJ
                  go_wp2
                  exact ⟨⟨q + 1, out1, hq1, by go_num, HNX.out⟩, by simp [intOf]; omega⟩
                · obtain ⟨kk, rfl⟩ := Int.eq_ofNat_of_zero_le (show 0 ≤ e by omega)
                  obtain ⟨h1, h2, h3, h4⟩ := HJ.out
                  have hk0 : kk < M := by omega
                  have hk1 : kk < (entsOf l).length := by rw [← HM.out]; exact hk0
                  obtain ⟨x, hx⟩ : ∃ x, (entsOf l).getD kk (0, 0) = (y, x) := ⟨((entsOf l).getD kk (0, 0)).2, by rw [← h2 kk rfl]⟩
                  have hxl : x < l.length := by
                    have hmem := getD_mem hk1
                    rw [hx] at hmem
                    obtain ⟨g, a, hg, _, _⟩ := (ents_mem l y x).1 hmem
                    exact (List.getElem?_eq_some_iff.1 hg).1
                  have hxi : x < k := by rw [HN.out]; exact hxl
                  obtain ⟨gu, cu, hvu, _, hgu, cuu, _⟩ := own_cell (h3.fam.own 3 _ rfl) (rowF_at M (fun j => (((entsOf l).getD j (0, 0)).2 : Int)) kk hk0)
                  obtain ⟨gn, cn, hvn, _, hgn, cnn, _⟩ := own_cell (h3.fam.own 2 _ rfl) (rowF_at M (fun j => lastI (entsOf l) ((entsOf l).getD j (0, 0)).1 j) kk hk0)
                  simp only at hvu hvn
                  rw [hx] at cuu cnn
                  subst hvu hvn
                  obtain ⟨cw, fw, wl⟩ := h3.wait hxl (by rw [hwv, HN.out])
                  obtain ⟨hd1, hd2, hd3⟩ := done_next (l := l) h4.nd h1 (by rw [hx])
                  obtain ⟨hw1, hz1, hz2⟩ := h4.one hk1 hx h1 hxl hd1 hd2 hd3
                  have hless := h3.less hk1 hx hd1 hd2 hd3 (by rw [hwv, HN.out]) (Nat.le_refl _)
                  obtain ⟨e1, hee1⟩ : ∃ e1, e1 = lastI (entsOf l) y kk := ⟨_, rfl⟩
                  have hb1 := lastI_lt (entsOf l) y kk
                  have hh1 := fun j => lastI_hit (entsOf l) y kk j
                  simp only at cnn
                  rw [← hee1] at cnn hb1 hh1 hd2 hd3 hw1 hz1 hz2 hless
                  obtain ⟨wx, hwx⟩ : ∃ a, a = waits (entsOf l) (doneAt (entsOf l) out1 q kk) x := ⟨_, rfl⟩
                  obtain ⟨wx', hwx'⟩ : ∃ a, a = waits (entsOf l) (doneAt (entsOf l) out1 q e1) x := ⟨_, rfl⟩
                  rw [← hwx] at cw hw1 hless
                  rw [← hwx'] at hw1 hz1 hz2
                  have hwb : wx ≤ M := by rw [hwx, HM.out]; exact cntP_le _ _
                  have hq1 := (List.getElem?_eq_some_iff.1 h1).1
                  have hfew1 := lay_few h4
                  rw [← HN.out] at hfew1
                  have HH1 := hid h1
                  have HHH := hid hh1
                  have HLS := hid hless
                  have HZ1 := hid hz1
                  have HZ2 := hid hz2
                  have zu := (fam_cell hless.fam (i := 3) rfl rfl hk0).1
                  have zul := (fam_cell hless.fam (i := 3) rfl rfl hk0).2.2
                  have HX := hid hx
                  have HEE := hid hee1
                  have HZN : Hid (∀ (W : World) (L : List Rw), Fam W w.heap.size 3 1 L → L[2]? = some (.slice (some ⟨gn, 0, none⟩) M cn, M, rowF M fun j => lastI (entsOf l) ((entsOf l).getD j (0, 0)).1 j) → W.cell? ⟨gn, kk, none⟩ = some (.int .i64 e1) ∧ gn < W.heap.size) := fun W L hF hL => by
                    have h := fam_cell hF hL rfl hk0
                    have h1 := h.1
                    rw [HX.out] at h1
                    rw [HEE.out]
                    exact ⟨h1, h.2.2⟩
                  rw [hx] at zu
                  have HD : Hid (∀ z, doneAt (entsOf l) (out1 ++ [x]) q e1 z = doneAt (entsOf l) out1 q e1 z) := fun z => doneAt_app _ _ _ _ _ _ hq1
                  clear hwx hwx' hless hh1 h1 h2 h3 h4 hz1 hz2 hd1 hd2 hd3 HJ hx hee1
                  by_cases hone : wx = 1
                  · have hw0 : wx' = 0 := by omega
                    have HNL := hid (HZ1.out hw0)
                    subst hone
                    rw [show ((1 : Nat) : Int) - 1 = 0 by decide] at HLS zu zul
                    clear hw1 hw0 HZ1 HZ2
                    go_wp2_with (first
                      | (at_builtin; refine fam_app rfl _ _ rfl HLS.out.fam HLS.out.below 4 _ rfl (x : Int) _ _ (by simp [World.setCell]) rfl rfl (by show out1.length ≤ _; omega) ?_; intro sx2 cx2 w2 hf2 hb2 _; have HF2 := hid hf2; have HB2 := hid hb2; have zn := (HZN.out w2 _ hf2 rfl).1; have znl := (HZN.out w2 _ hf2 rfl).2; clear hf2 hb2))
                    refine ⟨⟨e1, out1 ++ [x], rfl, hb1.1, by omega, ?_⟩, by simp [intOf]; omega⟩
                    refine ⟨by rw [List.getElem?_append_left hq1]; exact HH1.out, fun j h => (HHH.out j h).2.1, ?_, HNL.out.congr fun j _ => (HD.out j).symm⟩
                    have hA : LyA w w2 l wv fv (.slice (some ⟨gn, 0, none⟩) M cn) (.slice (some ⟨gu, 0, none⟩) M cu) (.slice sx2 (out1.length + 1) cx2) (fun z => (waits (entsOf l) (doneAt (entsOf l) out1 q e1) z : Int)) M (out1 ++ [x]) := by
                      refine ⟨?_, HB2.out⟩
                      rw [← places_snoc, List.length_append, List.length_singleton]
                      exact HF2.out
                    refine hA.congr fun j _ => ?_
                    rw [waits_congr fun i _ _ => (HD.out i).symm]
                  · have hw0 : wx' ≠ 0 := by
                      intro h
                      omega
                    have HNL := hid (HZ2.out hw0)
                    have hne : ((wx : Int) - 1 == 0) = false := by rw [beq_eq_false_iff_ne]; omega
                    have zn := (HZN.out _ _ HLS.out.fam rfl).1
                    have znl := (HZN.out _ _ HLS.out.fam rfl).2
                    clear hw1 hw0 HZ1 HZ2
                    go_wp2
                    refine ⟨⟨e1, out1, rfl, hb1.1, by omega, HH1.out, fun j h => (HHH.out j h).2.1, HLS.out, HNL.out⟩, by simp [intOf]; omega⟩
            · obtain rfl : q = out.length := by omega
              have HO := hid (HQ.out.1.fam.own 4 _ rfl)
              have HB := hid HQ.out.1.below
              have HLS := hid HQ.out.2
              clear HQ
              go_wp2
              go_ret
              exact ⟨_, rfl, out, HO.out, HB.out, by have h := HLS.out; simpa using h⟩
set_option maxHeartbeats 1000000 in
set_option maxRecDepth 100000 in
theorem comes_any (l : List Ga) (left : List Bool) (sg sl : Option Addr) (cg cl : Nat) (fr : Nat) (w : World) (hc : CellsAt w sg (gas l)) (hlf : CellsAt w sl (bo left)) (hll : left.length = l.length) (hl : l.length ≤ 65536) (hp : ∀ (i : Nat) (g : Ga), l[i]? = some g → ∀ a ∈ leansOn g, 0 ≤ a ∧ a < (l.length : Int)) (hfr : fr < l.length) (hcirc : ∀ x, PureNet.Way l x x → left[x]? = some true) :
    Calls Tryd.prog 24 #[.slice sg l.length cg, .slice sl l.length cl, .int .i64 (fr : Int)] w fun e w' => (∃ b : Bool, e = .returned (.bool b) ∧ (b = true ↔ PureNet.Way l fr fr)) ∧ Below w.heap.size w w' := by
  obtain ⟨n, hn⟩ : ∃ n, n = l.length := ⟨_, rfl⟩
  have HC := hid hc
  have HP := hid hp
  have HN := hid hn
  have HLF := hid hlf
  have HLL := hid hll
  have HCI := hid hcirc
  have hmk : ∀ W : World, (Instr.makeSlice 76 (.int .i64 (n : Int)) (.int .i64 (n : Int))).run Tryd.prog W = .ok (.slice (some ⟨W.heap.size, 0, none⟩) n n) (W.alloc (.cells (madeCells #[.bool false] n) 4)) := fun W =>
    run_make_row' (P := Tryd.prog) 76 4 (.bool false) 1 Tryd.underlying76 info4 rfl .i64 .i64 n (by omega) (by omega) W
  have hl' : n ≤ 65536 := by omega
  have hfr' : fr < n := by omega
  obtain ⟨ok, hok⟩ : ∃ ok : Nat → Bool, ok = fun x => decide (left[x]? = some true) := ⟨_, rfl⟩
  have HOK := hid hok
  rw [← hn]
  clear hc hp hn hl hlf hll hcirc hfr hok
  go_enter Tryd.func24, Tryd.ntmps24
  go_wp2
  obtain ⟨X, hX⟩ : ∃ X, X = (w.alloc (.cells (madeCells #[.bool false] n) 4)).alloc (.cells #[.int .i64 (fr : Int)] 3) := ⟨_, rfl⟩
  have HX0 : Hid (Cm w X (List.replicate l.length false) (.slice (some ⟨w.heap.size + 1, 0, none⟩) 1 1) [fr] ∧ Sea l fr ok (List.replicate l.length false) [fr] nobody) := by
    refine ⟨⟨?_, ?_, ?_⟩, Sea.start⟩
    · rw [hX]
      refine (Below.heap_alloc _ _ _ (by simp)).trans ((heap_alloc_new w _).trans ?_)
      congr 2
      apply Array.ext'
      rw [toList_madeCells_one]
      simp [bo, HN.out]
    · rw [hX]
      have h1 := (Fam.nil (w.alloc (.cells (madeCells #[.bool false] n) 4)) w.heap.size 3 1).push (y := (.slice (some ⟨w.heap.size + 1, 0, none⟩) 1 1, 1, placesV [fr])) ((Below.refl _ _).alloc (Nat.le_refl _) (.cells #[.int .i64 (fr : Int)] 3)) (by
        refine ⟨by simp [placesV, rowF_len], .inr ⟨w.heap.size + 1, 1, #[.int .i64 (fr : Int)], rfl, by simp, ?_, Nat.le_refl _, by decide, ?_, ?_⟩⟩
        · have := heap_alloc_new (w.alloc (.cells (madeCells #[.bool false] n) 4)) (.cells #[.int .i64 (fr : Int)] 3)
          simpa using this
        · rfl
        · rfl) (by simp)
      exact h1
    · rw [hX]
      exact ((Below.refl _ _).alloc (Nat.le_refl _) _).alloc (by simp) _
  rw [← hX]
  clear hX hmk
  go_loopw [8] (fun wv W => ∃ (met : List Bool) (work : List Nat), 2 * cntF met + work.length ≤ 2 * n + 1 ∧ Hid (Cm w W met wv work ∧ Sea l fr ok met work nobody)) (fun wv W => 2 * offs W w.heap.size n + lenV wv)
  case atStart => exact ⟨_, _, by rw [HN.out]; simp [cntF], HX0.out⟩
  case round =>
    obtain ⟨met, work, hbud, HR⟩ := hrel
    clear HX0
    have hml := HR.out.2.len
    obtain ⟨sw, cw, hwv⟩ := HR.out.1.shape
    subst hwv
    rcases List.eq_nil_or_concat work with h0 | ⟨work', i, h0⟩
    · subst h0
      have HNO : Hid (¬ PureNet.Way l fr fr) := HR.out.2.fin (fun x hx => by rw [HOK.out]; exact decide_eq_true (HCI.out x hx))
      have HB := hid HR.out.1.below
      clear HR
      go_wp2
      go_ret
      exact ⟨⟨false, rfl, by simp [HNO.out]⟩, HB.out⟩
    · rw [List.concat_eq_append] at h0
      subst h0
      obtain ⟨gw, cw', hv, hgw, ci, hcap⟩ := HR.out.1.last
      rw [List.length_append, List.length_singleton] at hv
      simp only [Value.slice.injEq, true_and] at hv
      obtain ⟨rfl, rfl⟩ := hv
      obtain ⟨hs0, hi0⟩ := HR.out.2.pop
      have hin : i < n := by
        rcases hi0 with h | h
        · omega
        · have := (List.getElem?_eq_some_iff.1 h).1
          rw [hml, ← HN.out] at this
          exact this
      obtain ⟨g, hg⟩ : ∃ g, l[i]? = some g := ⟨_, List.getElem?_eq_getElem (by rw [← HN.out]; exact hin)⟩
      have hcm := HR.out.1
      rw [show (Value.slice (some ⟨gw, 0, none⟩) (work' ++ [i]).length cw) = Value.slice (some ⟨gw, 0, none⟩) (work'.length + 1) cw by simp] at hcm
      obtain ⟨b, o, rfl, hb, d0, d1, d2, d3, d4, d5⟩ := gate_at (HC.out.below hcm.below) i g hg
      obtain ⟨a0, a1, a2, hlv, hak⟩ := leansV_form g
      have HLE := hid (fun W => leans_any g W)
      rw [hlv] at HLE
      obtain ⟨cnt, hcnt⟩ : ∃ c, c = (leansOn g).length := ⟨_, rfl⟩
      rw [← hcnt] at HLE
      have hcnt3 : cnt ≤ 3 := by rw [hcnt]; exact leans_len g
      have HCNT := hid hcnt
      have HG := hid hg
      have HAK := hid hak
      have HCM := hid hcm.cut
      have HS0 := hid hs0
      have HI0 := hid hi0
      have hoff := offs_eq hcm.row
      rw [hml, ← HN.out] at hoff
      have HOFF := hid hoff
      have hwl : (work' ++ [i]).length = work'.length + 1 := by simp
      rw [hwl] at hbud
      have hwb : work'.length ≤ 131072 := by omega
      rw [hwl]
      clear hg hlv hak hcnt HR hs0 hi0 hoff hcm hml hwl
      go_wp2_with (go_at_call 43; refine Calls.mono (HLE.out _) ?_; rintro e w1 ⟨rfl, b1⟩; have HC1 : Hid (∀ o, Cm w (w1.alloc o) met (.slice (some ⟨gw, 0, none⟩) work'.length cw) work') := (fun o => (HCM.out.on b1).on ((Below.refl _ _).alloc (Nat.le_refl _) o)); have HR1 : Hid (w.heap.size < w1.heap.size) := Nat.lt_of_lt_of_le (Array.getElem?_eq_some_iff.1 HCM.out.row).1 b1.size; clear b1)
      obtain ⟨Y, hY⟩ : ∃ Y, Y = w1.alloc (Obj.cells #[Value.int IntKind.i64 a0, Value.int IntKind.i64 a1, Value.int IntKind.i64 a2] 88) := ⟨_, rfl⟩
      have HCY : Hid (Cm w Y met (.slice (some ⟨gw, 0, none⟩) work'.length cw) work') := by rw [hY]; exact HC1.out _
      have HRY : Hid (Y.heap[w1.heap.size]? = some (.cells #[Value.int IntKind.i64 a0, Value.int IntKind.i64 a1, Value.int IntKind.i64 a2] 88 (0, 0))) := by rw [hY]; exact heap_alloc_new w1 _
      rw [← hY]
      clear hY HC1 HLE d0 d1 d2 d3 d4 d5 HCM ci
      go_loopw [8, 12] (fun wv tv W => ∃ (t : Nat) (met1 : List Bool) (work1 : List Nat), t ≤ cnt ∧ tv = .int .i64 (t : Int) ∧ 2 * cntF met1 + work1.length ≤ 2 * cntF met + work'.length ∧ Hid (Cm w W met1 wv work1 ∧ Sea l fr ok met1 work1 (PureNet.seen fr ok met1 i t) ∧ (i = fr ∨ met1[i]? = some true) ∧ W.heap[w1.heap.size]? = some (.cells #[Value.int IntKind.i64 a0, Value.int IntKind.i64 a1, Value.int IntKind.i64 a2] 88 (0, 0)))) (fun _ tv _ => cnt - (intOf tv).toNat)
      case atStart => exact ⟨0, met, work', Nat.zero_le _, rfl, Nat.le_refl _, HCY.out, HS0.out, HI0.out, HRY.out⟩
      case round =>
        obtain ⟨t, met1, work1, ht, rfl, hb1, HT⟩ := hrel
        clear HCY HS0 HI0 HRY
        have hml := HT.out.2.1.len
        obtain ⟨sw, cw1, hwv⟩ := HT.out.1.shape
        subst hwv
        have hwb1 : work1.length ≤ 131073 := by omega
        by_cases htl : t < cnt
        · obtain ⟨av, hav⟩ : ∃ a, (leansOn g)[t]? = some a := ⟨_, List.getElem?_eq_getElem (by rw [← HCNT.out]; exact htl)⟩
          obtain ⟨av0, av1⟩ := HP.out i g HG.out av (List.mem_of_getElem? hav)
          obtain ⟨y, rfl⟩ := Int.eq_ofNat_of_zero_le av0
          have hyl : y < l.length := by omega
          have hyn : y < n := by rw [HN.out]; exact hyl
          have HCR : Hid (∀ W : World, W.heap[w1.heap.size]? = some (.cells #[Value.int IntKind.i64 a0, Value.int IntKind.i64 a1, Value.int IntKind.i64 a2] 88 (0, 0)) → W.cell? ⟨w1.heap.size, t, none⟩ = some (.int .i64 (y : Int))) := fun W hW => by
            rw [cell_row hW]
            have := HAK.out t _ hav
            match t, this with
            | 0, h => simp at h; simp [h]
            | 1, h => simp at h; simp [h]
            | 2, h => simp at h; simp [h]
          have car := HCR.out wr HT.out.2.2.2
          have car1 := (Array.getElem?_eq_some_iff.1 HT.out.2.2.2).1
          have HAV := hid hav
          clear hav av1
          by_cases hyf : y = fr
          · have HW : Hid (PureNet.Way l fr fr) := HT.out.2.1.back HG.out HAV.out av0 HT.out.2.2.1 (by simpa using hyf)
            have HB := hid HT.out.1.below
            clear HT
            subst hyf
            go_wp2
            go_ret
            exact ⟨⟨true, rfl, by simp [HW.out]⟩, HB.out⟩
          · have hyfb : ((y : Int) == (fr : Int)) = false := by rw [beq_eq_false_iff_ne]; omega
            obtain ⟨lb, hlb⟩ : ∃ b, left[y]? = some b := ⟨_, List.getElem?_eq_getElem (by rw [HLL.out]; exact hyl)⟩
            obtain ⟨mb, hmb⟩ : ∃ b, met1[y]? = some b := ⟨_, List.getElem?_eq_getElem (by rw [hml]; exact hyl)⟩
            obtain ⟨bl, ol, rfl, hbl, cl0⟩ := bit_at HLF.out y lb hlb
            have cl1 := below_cell HT.out.1.below hbl cl0
            have cl2 : bl < wr.heap.size := Nat.lt_of_lt_of_le hbl HT.out.1.below.size
            obtain ⟨cm, fm⟩ := HT.out.1.cell hmb
            have cml := (Array.getElem?_eq_some_iff.1 HT.out.1.row).1
            have HLB := hid hlb
            have HMB := hid hmb
            clear hlb hmb cl0
            by_cases hgo : lb = true ∧ mb = false
            · obtain ⟨rfl, rfl⟩ := hgo
              have HS2 := hid (HT.out.2.1.meet HG.out HAV.out av0 HT.out.2.2.1 (by simpa using hyf) (by simpa using hyl))
              have HM2 := hid (HT.out.1.mark y)
              have hcf := cntF_set HMB.out
              have HI2 : Hid (i = fr ∨ (met1.set y true)[i]? = some true) := by
                rcases HT.out.2.2.1 with h | h
                · exact .inl h
                · refine .inr ?_
                  rw [List.getElem?_set]
                  by_cases hyi : y = i
                  · rw [if_pos hyi, if_pos (by rw [hml]; exact hyl)]
                  · rw [if_neg hyi]; exact h
              have HR2 : Hid ((wr.setCell ⟨w.heap.size, y, none⟩ (.bool true)).heap[w1.heap.size]? = some (.cells #[Value.int IntKind.i64 a0, Value.int IntKind.i64 a1, Value.int IntKind.i64 a2] 88 (0, 0))) := (Below.heap_setCell _ _ _ _ (show w1.heap.size ≠ w.heap.size by have := HR1.out; omega)).trans HT.out.2.2.2
              have car2 := HCR.out _ HR2.out
              have car2l := (Array.getElem?_eq_some_iff.1 HR2.out).1
              clear HT hyf
              go_wp2_with (first
                | (at_builtin; refine fam_app rfl _ _ rfl HM2.out.fam HM2.out.below 0 _ rfl (y : Int) _ _ (by simp [World.setCell]) rfl rfl (by show work1.length ≤ _; omega) ?_; intro sx2 cx2 w2 hf2 hb2 hk2; have HF2 := hid hf2; have HB2 := hid hb2; have HMR := hid (hk2 _ _ _ _ HM2.out.row (by decide)); have HAR := hid (hk2 _ _ _ _ HR2.out (by decide)); clear hf2 hb2 hk2))
              refine ⟨⟨t + 1, met1.set y true, work1 ++ [y], htl, by go_num, by rw [List.length_append, List.length_singleton]; omega, ⟨HMR.out, ?_, HB2.out⟩, ?_, HI2.out, HAR.out⟩, by simp [intOf]; omega⟩
              · rw [← places_snoc, List.length_append, List.length_singleton]
                exact HF2.out
              · simpa using HS2.out
            · have HS2 := hid (HT.out.2.1.pass HG.out HAV.out (by simpa using hyf) (fun h => by
                rw [HOK.out] at h
                have h2 := of_decide_eq_true h
                simp only [Int.toNat_natCast] at h2 ⊢
                rw [HLB.out] at h2
                cases mb with
                | true => exact HMB.out
                | false => exact absurd ⟨Option.some.inj h2, rfl⟩ hgo))
              have HT2 := hid HT.out
              clear HT
              have hsp : lb = false ∨ (lb = true ∧ mb = true) := by
                cases lb with
                | false => exact .inl rfl
                | true => cases mb with
                  | true => exact .inr ⟨rfl, rfl⟩
                  | false => exact absurd ⟨rfl, rfl⟩ hgo
              clear hgo
              rcases hsp with rfl | ⟨rfl, rfl⟩
              all_goals
                go_wp2
                exact ⟨⟨t + 1, met1, work1, htl, by go_num, hb1, HT2.out.1, HS2.out, HT2.out.2.2.1, HT2.out.2.2.2⟩, by simp [intOf]; omega⟩
        · obtain rfl : t = cnt := by omega
          have HS2 := hid (HT.out.2.1.done HG.out HCNT.out)
          have HCM2 := hid HT.out.1
          have hof := offs_eq HT.out.1.row
          rw [hml, ← HN.out] at hof
          have HOF2 := hid hof
          clear HT hof
          go_wp2
          refine ⟨⟨met1, work1, by omega, HCM2.out, HS2.out⟩, ?_⟩
          rw [HOF2.out, HOFF.out]
          simp only [lenV]
          omega
set_option maxHeartbeats 1000000 in
set_option maxRecDepth 100000 in
theorem circles_any (l : List Ga) (sg : Option Addr) (cg : Nat) (w : World) (hc : CellsAt w sg (gas l)) (hl : l.length ≤ 65536) (hp : ∀ (i : Nat) (g : Ga), l[i]? = some g → ∀ a ∈ leansOn g, 0 ≤ a ∧ a < (l.length : Int)) :
    Calls Tryd.prog 14 #[.slice sg l.length cg] w fun e w' => (∃ r : Int, e = .returned (.int .i64 r) ∧ CircleIs l r) ∧ Below w.heap.size w w' := by
  obtain ⟨n, hn⟩ : ∃ n, n = l.length := ⟨_, rfl⟩
  have HC := hid hc
  have HP := hid hp
  have HN := hid hn
  have HL := hid hl
  have hmk : ∀ W : World, (Instr.makeSlice 76 (.int .i64 (n : Int)) (.int .i64 (n : Int))).run Tryd.prog W = .ok (.slice (some ⟨W.heap.size, 0, none⟩) n n) (W.alloc (.cells (madeCells #[.bool false] n) 4)) := fun W =>
    run_make_row' (P := Tryd.prog) 76 4 (.bool false) 1 Tryd.underlying76 info4 rfl .i64 .i64 n (by omega) (by omega) W
  have hl' : n ≤ 65536 := by omega
  obtain ⟨X, hX⟩ : ∃ X, X = w.alloc (.cells (madeCells #[.bool false] n) 4) := ⟨_, rfl⟩
  have HLY := hid (layers_any l sg cg X (hc.below (by rw [hX]; exact (Below.refl _ _).alloc (Nat.le_refl _) _)) hl hp)
  have HX : Hid (X.heap[w.heap.size]? = some (.cells (bo (List.replicate n false)).toArray 4 (0, 0)) ∧ Below w.heap.size w X ∧ w.heap.size < X.heap.size) := by
    rw [hX]
    refine ⟨(heap_alloc_new w _).trans ?_, (Below.refl _ _).alloc (Nat.le_refl _) _, by simp⟩
    congr 2
    apply Array.ext'
    rw [toList_madeCells_one]
    simp [bo]
  rw [← hn] at HLY ⊢
  have HXE := hid hX
  clear hc hp hn hl hX
  go_enter Tryd.func14, Tryd.ntmps14
  go_upto_if 18 with (first | (rw [← HXE.out]; go_at_call 23; refine Calls.mono HLY.out ?_; rintro e w1 ⟨v, out, rfl, ho, b1, hls⟩; obtain ⟨so, co, rfl⟩ := own_shape ho; have HO := hid (own_base ho (Nat.succ_le_of_lt HX.out.2.2)); have HLS := hid hls; have HR1 : Hid (w1.heap[w.heap.size]? = some (.cells (bo (List.replicate n false)).toArray 4 (0, 0)) ∧ Below w.heap.size w w1) := ⟨(b1.block _ HX.out.2.2).trans HX.out.1, HX.out.2.1.trans (b1.mono HX.out.2.1.size)⟩; clear ho hls b1))
  have hfew : out.length ≤ n := by
    have := lay_few HLS.out
    rw [← HN.out] at this
    exact this
  clear HLY HX HXE hmk
  by_cases hall : out.length = n
  · have HNO : Hid (CircleIs l (-1)) := by
      refine .inl ⟨rfl, fun i hw => ?_⟩
      have hi := way_lt hw
      exact HLS.out.free (nodup_all HLS.out.nd (fun x hx => HLS.out.lt x hx) (by rw [← HN.out]; exact hall) i hi) hw
    have HB := hid HR1.out.2
    have hbe : ((out.length : Int) == (n : Int)) = true := by rw [hall]; simp
    clear HR1 HO
    go_wp2
    go_ret
    exact ⟨⟨-1, rfl, HNO.out⟩, HB.out⟩
  · have hbe : ((out.length : Int) == (n : Int)) = false := by rw [beq_eq_false_iff_ne]; omega
    clear hall
    go_wp2
    clear hbe
    obtain ⟨bq, hbq⟩ : ∃ bq : Bool, bq = ((out.length : Int) == (n : Int)) := ⟨_, rfl⟩
    rw [← hbq]
    clear hbq
    have HL0 : Hid (LfC w w1 (upL n 0) (.slice so out.length co) out) := ⟨by rw [upL_zero]; exact HR1.out.1, HR1.out.2, HO.out⟩
    clear HR1 HO
    go_loopw [5] (fun iv W => ∃ i : Nat, i ≤ n ∧ iv = .int .i64 (i : Int) ∧ Hid (LfC w W (upL n i) (.slice so out.length co) out)) (fun iv _ => n - (intOf iv).toNat)
    case atStart => exact ⟨0, Nat.zero_le _, rfl, HL0.out⟩
    case round =>
      obtain ⟨i, hi, rfl, HF⟩ := hrel
      clear HL0
      by_cases hlt : i < n
      · obtain ⟨c0, f0, l0⟩ := bits_cell HF.out.row (upL_at n i i hlt)
        have HF2 := hid (HF.out.set i true)
        rw [upL_set] at HF2
        clear HF
        go_wp2
        exact ⟨⟨i + 1, hlt, by go_num, HF2.out⟩, by simp [intOf]; omega⟩
      · obtain rfl : i = n := by omega
        have HL1 := hid HF.out
        rw [upL_all] at HL1
        clear HF
        go_wp2
        go_loopw [6] (fun kv W => ∃ k : Nat, k ≤ out.length ∧ kv = .int .i64 (k : Int) ∧ Hid (LfC w W (leftL i (out.take k)) (.slice so out.length co) out)) (fun kv _ => out.length - (intOf kv).toNat)
        case atStart => exact ⟨0, Nat.zero_le _, rfl, by rw [List.take_zero]; exact HL1.out⟩
        case round =>
          obtain ⟨k, hk, rfl, HF⟩ := hrel
          clear HL1
          by_cases hlt2 : k < out.length
          · obtain ⟨y, hy⟩ : ∃ y, out[k]? = some y := ⟨_, List.getElem?_eq_getElem hlt2⟩
            have hyn : y < i := by rw [HN.out]; exact HLS.out.lt y (List.mem_of_getElem? hy)
            obtain ⟨go, co', hso, _, hgo, cq, _⟩ := own_cell HF.out.own (rowF_at out.length (fun k => (out.getD k 0 : Int)) k hlt2)
            simp only [Value.slice.injEq, true_and] at hso
            obtain ⟨rfl, rfl⟩ := hso
            have hyd : (out.getD k 0 : Int) = (y : Int) := by rw [List.getD_eq_getElem?_getD, hy]; rfl
            rw [hyd] at cq
            obtain ⟨c0, f0, l0⟩ := bits_cell HF.out.row (leftL_at i (out.take k) y hyn)
            have htk : out.take (k + 1) = out.take k ++ [y] := by rw [List.take_add_one, hy]; rfl
            have HF2 := hid (HF.out.set y false)
            rw [leftL_snoc, ← htk] at HF2
            clear HF hyd htk hy
            go_wp2
            exact ⟨⟨k + 1, hlt2, by go_num, HF2.out⟩, by simp [intOf]; omega⟩
          · obtain rfl : k = out.length := by omega
            have HL2 := hid HF.out
            rw [List.take_length] at HL2
            clear HF
            go_wp2
            go_loopw [7] (fun iv W => ∃ j : Nat, j ≤ i ∧ iv = .int .i64 (j : Int) ∧ Hid (LfC w W (leftL i out) (.slice so out.length co) out ∧ ∀ x, x < j → ¬ PureNet.Way l x x)) (fun iv _ => i - (intOf iv).toNat)
            case atStart => exact ⟨0, Nat.zero_le _, rfl, HL2.out, fun x hx => by omega⟩
            case round =>
              obtain ⟨j, hj, rfl, HF⟩ := hrel
              clear HL2
              by_cases hlt3 : j < i
              · obtain ⟨c0, f0, l0⟩ := bits_cell HF.out.1.row (leftL_at i out j hlt3)
                by_cases hjo : j ∈ out
                · have HNX : Hid (LfC w wr (leftL i out) (.slice so out.length co) out ∧ ∀ x, x < j + 1 → ¬ PureNet.Way l x x) := ⟨HF.out.1, fun x hx => by
                    by_cases hxj : x = j
                    · rw [hxj]; exact HLS.out.free hjo
                    · exact HF.out.2 x (by omega)⟩
                  rw [show (!decide (j ∈ out)) = false by simp [hjo]] at c0
                  clear HF
                  go_wp2
                  exact ⟨⟨j + 1, hlt3, by go_num, HNX.out⟩, by simp [intOf]; omega⟩
                · rw [show (!decide (j ∈ out)) = true by simp [hjo]] at c0
                  have HCM := hid (comes_any l (leftL i out) sg (some ⟨w.heap.size, 0, none⟩) cg i j wr (HC.out.below HF.out.1.below) (bits_at HF.out.1.row) (by rw [leftL_len]; exact HN.out) HL.out HP.out (by rw [← HN.out]; exact hlt3) (fun x hx => by
                    have hxl := way_lt hx
                    rw [leftL_at i out x (by rw [HN.out]; exact hxl)]
                    have : x ∉ out := fun h => HLS.out.free h hx
                    simp [this]))
                  rw [← HN.out] at HCM
                  by_cases hway : PureNet.Way l j j
                  · have HW : Hid (CircleIs l (j : Int)) := .inr ⟨j, rfl, by rw [← HN.out]; exact hlt3, hway, HF.out.2⟩
                    have HWY := hid hway
                    clear hway
                    go_wp2_with (go_at_call 24; refine Calls.mono HCM.out ?_; rintro e w2 ⟨⟨bb, rfl, hbb⟩, b2⟩; obtain rfl : bb = true := hbb.2 HWY.out; have HF2 := hid (HF.out.1.on b2); clear hbb b2)
                    go_ret
                    exact ⟨⟨(j : Int), rfl, HW.out⟩, HF2.out.below⟩
                  · have HNX : Hid (∀ x, x < j + 1 → ¬ PureNet.Way l x x) := fun x hx => by
                      by_cases hxj : x = j
                      · rw [hxj]; exact hway
                      · exact HF.out.2 x (by omega)
                    have HWY := hid hway
                    clear hway
                    go_wp2_with (go_at_call 24; refine Calls.mono HCM.out ?_; rintro e w2 ⟨⟨bb, rfl, hbb⟩, b2⟩; obtain rfl : bb = false := (by cases bb with | false => rfl | true => exact absurd (hbb.1 rfl) HWY.out); have HF2 := hid (HF.out.1.on b2); clear hbb b2)
                    exact ⟨⟨j + 1, hlt3, by go_num, HF2.out, HNX.out⟩, by simp [intOf]; omega⟩
              · have HNO : Hid (CircleIs l (-1)) := by
                  refine .inl ⟨rfl, fun x hw => HF.out.2 x ?_ hw⟩
                  have := way_lt hw
                  rw [← HN.out] at this
                  omega
                have HB := hid HF.out.1.below
                clear HF
                go_wp2
                go_ret
                exact ⟨⟨-1, rfl, HNO.out⟩, HB.out⟩
end Go.Proofs.YtfmmmhcpdinhgabDoor
