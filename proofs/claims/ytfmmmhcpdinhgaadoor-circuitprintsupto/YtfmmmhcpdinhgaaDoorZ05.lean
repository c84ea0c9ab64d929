import Derived.Test.YtfmmmhcpdinhgaaDoorZ04
/-
  The document's Text.
-/
namespace Go.Proofs.YtfmmmhcpdinhgaaDoor
open Go.RowKit Go.Deep PureNet
set_option maxRecDepth 100000

theorem appG_text {ops : Array Oper} {rest : List Oper} {o : Oper} {a : Act} {Q : Exit → Act → World → Prop} {w : World} (hgd : o.guard = none) (sl x : Operand)
    (ho : o.op = .call { callee := .builtin .append, args := #[sl, x], argTypes := #[92, 9] })
    (B : Nat) (v : Value) (T D : List UInt8) (hs : a.eval sl = v) (hb : BfgKit.Own w B 5 v T) (hx : a.eval x = str D) (hlen : T.length + D.length ≤ 140737488355328) (hB : B ≤ w.heap.size)
    (h : ∀ X v' w', X = T ++ D → BfgKit.Own w' B 5 v' X → Below B w w' → wpList Tryd.prog ops Q rest (a.put o.dst v') w') : wpList Tryd.prog ops Q (o :: rest) a w := by
  obtain ⟨i, hi, hz0, hz1, hz2⟩ := info_parts info5
  obtain ⟨v', w', hr, h2, h3⟩ := BfgKit.run_own_text (P := Tryd.prog) w 92 9 o.type 5 i Tryd.underlying92 Tryd.underlying9 hi hz0 hz1 hz2 hb D hlen hB
  refine wpList_plain hgd fun K hK => ?_
  unfold Oper.wp execOp
  simp only [ho, resolve, invoke, builtin, Sem.run_bind, Sem.run_pure, Result.andThen_ok, List.map_toArray, List.map_cons, List.map_nil, hs, hx, hr]
  exact hK _ _ (h _ v' w' rfl h2 ((Below.refl B w).grown h3 hB (fun k hk => (hb.block hk).1)))
theorem appG_byte {ops : Array Oper} {rest : List Oper} {o : Oper} {a : Act} {Q : Exit → Act → World → Prop} {w0 : World} (hgd : o.guard = none) (sl x : Operand)
    (ho : o.op = .call { callee := .builtin .append, args := #[sl, x], argTypes := #[92, 92] })
    (B : Nat) (v : Value) (T : List UInt8) (d : UInt8) (dv : Int) (hdv : dv = (d.toNat : Int)) (hs : a.eval sl = v) (hb : BfgKit.Own w0 B 5 v T) (hx : a.eval x = .slice (some ⟨w0.heap.size, 0, none⟩) 1 1) (hlen : T.length + 1 ≤ 140737488355328) (hB : B ≤ w0.heap.size)
    (h : ∀ X v' w', X = T ++ [d] → BfgKit.Own w' B 5 v' X → Below B w0 w' → wpList Tryd.prog ops Q rest (a.put o.dst v') w') : wpList Tryd.prog ops Q (o :: rest) a (w0.alloc (.cells #[.int .u8 dv] 5)) := by
  subst hdv
  obtain ⟨i, hi, hz0, hz1, hz2⟩ := info_parts info5
  have hb2 : BfgKit.Own (w0.alloc (.cells #[.int .u8 d.toNat] 5)) B 5 v T := hb.kept fun g hg => Below.heap_alloc _ _ _ (hb.block hg).2
  obtain ⟨v', w', hr, h2, h3⟩ := BfgKit.run_own_bytes (P := Tryd.prog) (w0.alloc (.cells #[.int .u8 d.toNat] 5)) 92 o.type 5 i Tryd.underlying92 hi hz0 hz1 hz2 hb2 [d] ⟨w0.heap.size, 0, none⟩ 1 (fun j u hu => by rw [add_zero_addr, cell_row (heap_alloc_new w0 _)]; simpa [BfgKit.cbs] using hu) hlen (by simp; omega)
  refine wpList_plain hgd fun K hK => ?_
  unfold Oper.wp execOp
  simp only [ho, resolve, invoke, builtin, Sem.run_bind, Sem.run_pure, Result.andThen_ok, List.map_toArray, List.map_cons, List.map_nil, hs, hx]
  rw [show (1 : Nat) = [d].length from rfl] at *
  simp only [hr]
  exact hK _ _ (h _ v' w' rfl h2 (((Below.refl B w0).alloc hB _).grown h3 (by simp; omega) (fun k hk => (hb2.block hk).1)))
theorem stepG_text {ops : Array Oper} {o : Oper} {a : Act} {w : World} {K : Act → World → Prop} {Q : Exit → Act → World → Prop} {X : Prop} (hgd : o.guard = none) (sl x : Operand)
    (ho : o.op = .call { callee := .builtin .append, args := #[sl, x], argTypes := #[92, 9] })
    (B : Nat) (v : Value) (T D : List UInt8) (hs : a.eval sl = v) (hb : BfgKit.Own w B 5 v T) (hx : a.eval x = str D) (hlen : T.length + D.length ≤ 140737488355328) (hB : B ≤ w.heap.size)
    (h : ∀ X v' w', X = T ++ D → BfgKit.Own w' B 5 v' X → Below B w w' → K (a.put o.dst v') w') : if Region.wanted o (yielded ops a.tmps) = true then Oper.wp Tryd.prog o a w K Q else X := by
  have hw : Region.wanted o (yielded ops a.tmps) = true := by simp [Region.wanted, hgd]
  rw [if_pos hw]
  obtain ⟨i, hi, hz0, hz1, hz2⟩ := info_parts info5
  obtain ⟨v', w', hr, h2, h3⟩ := BfgKit.run_own_text (P := Tryd.prog) w 92 9 o.type 5 i Tryd.underlying92 Tryd.underlying9 hi hz0 hz1 hz2 hb D hlen hB
  unfold Oper.wp execOp
  simp only [ho, resolve, invoke, builtin, Sem.run_bind, Sem.run_pure, Result.andThen_ok, List.map_toArray, List.map_cons, List.map_nil, hs, hx, hr]
  exact h _ v' w' rfl h2 ((Below.refl B w).grown h3 hB (fun k hk => (hb.block hk).1))
theorem ownG_shape {w : World} {B : Nat} {v : Value} {T : List UInt8} (h : BfgKit.Own w B 5 v T) : ∃ g c, v = .slice (some ⟨g, 0, none⟩) T.length c := by
  obtain ⟨g, cap, cur, fz, hv, _⟩ := h
  exact ⟨g, cap, hv⟩
theorem ownG_text {w : World} {B : Nat} {v : Value} {T : List UInt8} (h : BfgKit.Own w B 5 v T) : (convert 92 9 v).run Tryd.prog w = .ok (str T) w := by
  obtain ⟨g, cap, cur, fz, rfl, hB, hg, hf, hc, hm, hs, ht⟩ := h
  refine run_convert_bytes_back (P := Tryd.prog) w 92 9 5 ⟨g, 0, none⟩ cap T Tryd.underlying92 Tryd.underlying5 Tryd.underlying9 (fun j hj => ?_)
  have h1 : cur.toList[j]? = (BfgKit.cbs T)[j]? := by rw [← ht, List.getElem?_take_of_lt hj]
  simp [BfgKit.cbs, List.getElem?_eq_getElem hj] at h1
  rw [add_zero_addr, cell_row hg]
  exact h1
theorem ownG_on {w W : World} {B : Nat} {v : Value} {T : List UInt8} (h : BfgKit.Own w B 5 v T) (hb : Below w.heap.size w W) : BfgKit.Own W B 5 v T := h.kept fun g hg => hb.block g (h.block hg).2

set_option maxHeartbeats 4000000 in
theorem rtext_any (T : Nat → ByteArray) (c : Net) (sg so : Option Addr) (cg co : Nat) (w : World) (hc : CirAt w c sg so) (ht : OpsAt w 2 T) (hl : ∀ (i : Nat) (g : Ga), c.gates[i]? = some g → lineB g c.gates.length = true) (ho : ∀ k ∈ c.outs, 0 ≤ k ∧ k < (c.gates.length : Int))
    (hng : c.gates.length ≤ 1099511627776) (hno : c.outs.length ≤ 1099511627776) (hlen : (textT T c).length ≤ 140737488355328) (hnm : ∀ g ∈ c.gates, g.name.size ≤ 140737488351232) (hop : ∀ k, (T k).size ≤ 140737488351232) (hcn : c.name.size ≤ 140737488351232) :
    Calls Tryd.prog 54 #[cirV c sg cg so co] w fun e w' => e = .returned (str (textT T c)) ∧ Below w.heap.size w w' := by
  have HNA : Hid (∀ k, (nmAt c k).size ≤ 140737488351232) := fun k => by
    unfold nmAt
    cases h : c.gates[k.toNat]? with
    | none => exact Nat.zero_le _
    | some g => simpa using hnm g (List.mem_of_getElem? h)
  have HNM := hid hnm
  obtain ⟨x, hx⟩ : ∃ x, x = w.alloc (Obj.cells (#[Value.string c.name, Value.slice sg c.gates.length cg, Value.slice so c.outs.length co] : Array Value) 26) := ⟨_, rfl⟩
  have sx : x.heap.size = w.heap.size + 1 := by rw [hx]; simp
  have R1 : x.heap[w.heap.size]? = some (.cells (#[Value.string c.name, Value.slice sg c.gates.length cg, Value.slice so c.outs.length co] : Array Value) 26 (0, 0)) := by rw [hx]; exact heap_alloc_new w _
  have BX : Hid (Below w.heap.size w x) := by rw [hx]; exact (Below.refl _ _).alloc (Nat.le_refl _) _
  have RS : Hid (∀ W, Below x.heap.size x W → W.heap[w.heap.size]? = some (.cells (#[Value.string c.name, Value.slice sg c.gates.length cg, Value.slice so c.outs.length co] : Array Value) 26 (0, 0))) := fun W hW => (hW.block _ (by omega)).trans R1
  have CX : Hid (∀ W, Below x.heap.size x W → CirAt W c sg so ∧ OpsAt W 2 T) := fun W hW => ⟨(hc.below BX.out).below hW, (ht.on BX.out).on hW⟩
  have WRD : Hid (∀ (W : World) (i : Nat) (g : Ga), Below x.heap.size x W → c.gates[i]? = some g → Calls Tryd.prog 82 #[cirV c sg cg so co, .agg #[.int .i64 g.kind, .string g.name, .int .i64 g.op, .int .i64 g.a, .int .i64 g.b, .int .i64 g.c]] W fun e w' => e = .returned (str (bl (wordsT T c g))) ∧ Below W.heap.size W w') := fun W i g hb hg => by
    have hlb := hl i g hg
    unfold lineB at hlb
    simp only [Bool.and_eq_true, decide_eq_true_eq] at hlb
    obtain ⟨⟨⟨⟨k1, k4, o0, o1⟩, fa⟩, fb⟩, fc⟩ := hlb
    refine rwords_any T c sg so cg co g W (CX.out W hb).1 (CX.out W hb).2 (hnm g (List.mem_of_getElem? hg)) HNA.out hop ?_ ?_ ?_ ?_
    · intro h; rw [h] at o1; simp [mostOp] at o1; omega
    · intro h; unfold fieldB at fa; rw [if_pos (by simp; omega)] at fa; simpa using fa
    · intro h; unfold fieldB at fb; rw [if_pos (by simpa using h)] at fb; simpa using fb
    · intro h; unfold fieldB at fc; rw [if_pos (by simpa using h)] at fc; simpa using fc
  have HOB := hid ho
  have HLEN := hid hlen
  have hcv := Lib.run_convert_string_bytes (P := Tryd.prog) x 9 92 5 (⟨#[99, 105, 114, 99, 117, 105, 116, 32]⟩ ++ c.name ++ ⟨#[10]⟩) Tryd.underlying9 Tryd.underlying92 Tryd.underlying5
  obtain ⟨y, hy⟩ : ∃ y, y = Lib.bytesWorld x 5 (⟨#[99, 105, 114, 99, 117, 105, 116, 32]⟩ ++ c.name ++ ⟨#[10]⟩) := ⟨_, rfl⟩
  rw [← hy] at hcv
  have hhd : (⟨#[99, 105, 114, 99, 117, 105, 116, 32]⟩ ++ c.name ++ ⟨#[10]⟩ : ByteArray).data.toList = headT c := by simp [headT]
  obtain ⟨cy, hcy⟩ : ∃ cy, cy = grownCap x (⟨#[99, 105, 114, 99, 117, 105, 116, 32]⟩ ++ c.name ++ ⟨#[10]⟩ : ByteArray).size 0 5 := ⟨_, rfl⟩
  have hsz : (⟨#[99, 105, 114, 99, 117, 105, 116, 32]⟩ ++ c.name ++ ⟨#[10]⟩ : ByteArray).size = (headT c).length := by rw [← hhd, Array.length_toList]; rfl
  have OY : Hid (BfgKit.Own y x.heap.size 5 (.slice (some ⟨x.heap.size, 0, none⟩) (headT c).length cy) (upG T c 0) ∧ Below x.heap.size x y) := by
    refine ⟨?_, by rw [hy]; exact ⟨rfl, rfl, rfl, by rw [Lib.bytesWorld_size]; omega, fun k hk => Lib.bytesWorld_at_old x 5 _ k hk⟩⟩
    have h := BfgKit.own_conv x 5 x.heap.size (⟨#[99, 105, 114, 99, 117, 105, 116, 32]⟩ ++ c.name ++ ⟨#[10]⟩) (Nat.le_refl _) (by rw [hsz]; have := upG_le T c 0; rw [upG_zero] at this; have := HLEN.out; omega)
    rw [hhd, ← hy, ← hcy, hsz] at h
    rw [upG_zero]
    exact h
  rw [← hcy, hsz] at hcv
  have q1 := fun j => cell_row R1 j
  have l1 := (Array.getElem?_eq_some_iff.1 R1).1
  have HX := hid hx
  have SX := hid sx
  clear hx hc ht R1 sx hl ho hlen hnm hhd hy hcy hsz
  go_enter Tryd.func54, Tryd.ntmps54
  go_wp2_with (rw [← HX.out])
  clear q1 l1 hcv
  go_loopw [3, 4] (fun ov iv W => ∃ i : Nat, i ≤ c.gates.length ∧ iv = .int .i64 (i : Int) ∧ Hid (BfgKit.Own W x.heap.size 5 ov (upG T c i) ∧ Below x.heap.size x W)) (fun ov iv _ => c.gates.length - (intOf iv).toNat)
  case atStart => exact ⟨0, Nat.zero_le _, rfl, OY.out⟩
  case round =>
    obtain ⟨i, hi, rfl, HR⟩ := hrel
    clear OY
    obtain ⟨vb, vc, rfl⟩ := ownG_shape HR.out.1
    have q1 := fun j => cell_row (RS.out wr HR.out.2) j
    have l1 := (Array.getElem?_eq_some_iff.1 (RS.out wr HR.out.2)).1
    by_cases hlt : i < c.gates.length
    · obtain ⟨g, hg⟩ : ∃ g, c.gates[i]? = some g := ⟨_, List.getElem?_eq_getElem hlt⟩
      obtain ⟨gb, go, rfl, hgb, -⟩ := gate_at (CX.out x (Below.refl _ _)).1.gates i g hg
      have HG := hid hg
      have KS : Hid (∀ W, Below x.heap.size x W → (fun W => W.cell? ⟨w.heap.size, 0, none⟩ = some (.string c.name) ∧ W.cell? ⟨w.heap.size, 1, none⟩ = some (.slice (some ⟨gb, go, none⟩) c.gates.length cg) ∧ W.cell? ⟨w.heap.size, 2, none⟩ = some (.slice so c.outs.length co) ∧ W.cell? ⟨gb, go + i * 6, none⟩ = some (.int .i64 g.kind) ∧ W.cell? ⟨gb, go + i * 6 + 1, none⟩ = some (.string g.name) ∧ W.cell? ⟨gb, go + i * 6 + 2, none⟩ = some (.int .i64 g.op) ∧ W.cell? ⟨gb, go + i * 6 + 3, none⟩ = some (.int .i64 g.a) ∧ W.cell? ⟨gb, go + i * 6 + 4, none⟩ = some (.int .i64 g.b) ∧ W.cell? ⟨gb, go + i * 6 + 5, none⟩ = some (.int .i64 g.c)) W) := fun W hW => by
        have r := fun j => cell_row (RS.out W hW) j
        obtain ⟨b', o', e1, _, c0, c1, c2, c3, c4, c5⟩ := gate_at (CX.out W hW).1.gates i g HG.out
        cases e1
        exact ⟨r 0, r 1, r 2, c0, c1, c2, c3, c4, c5⟩
      clear hg
      go_wp2
      clear q1 l1
      refine wp_region_noPanic ?_
      refine wp_region_held_drew (S := fun W => W.cell? ⟨w.heap.size, 0, none⟩ = some (.string c.name) ∧ W.cell? ⟨w.heap.size, 1, none⟩ = some (.slice (some ⟨gb, go, none⟩) c.gates.length cg) ∧ W.cell? ⟨w.heap.size, 2, none⟩ = some (.slice so c.outs.length co) ∧ W.cell? ⟨gb, go + i * 6, none⟩ = some (.int .i64 g.kind) ∧ W.cell? ⟨gb, go + i * 6 + 1, none⟩ = some (.string g.name) ∧ W.cell? ⟨gb, go + i * 6 + 2, none⟩ = some (.int .i64 g.op) ∧ W.cell? ⟨gb, go + i * 6 + 3, none⟩ = some (.int .i64 g.a) ∧ W.cell? ⟨gb, go + i * 6 + 4, none⟩ = some (.int .i64 g.b) ∧ W.cell? ⟨gb, go + i * 6 + 5, none⟩ = some (.int .i64 g.c)) (by kernel_rfl) (KS.out _ HR.out.2.drew) (fun hHeld => ?_)
      refine wpAnyH_take (i := 0) (v := ?_) (by simp only [List.getElem?_toArray, List.getElem?_cons_zero]; rfl) (by kernel_rfl) (by kernel_rfl) (by kernel_rfl) (fun _ _ _ h => h) (Or.inl ⟨by rfl, ?_⟩) (by assumption) ?_
      rotate_left 1
      · intro w hSw; (try dsimp only at hSw); go_simp; (try with_reducible rfl)
      try simp only [Act.put, List.setIfInBounds_toArray, List.set_cons_zero, List.set_cons_succ]
      refine wpAnyH_take (i := 1) (v := ?_) (by simp only [List.getElem?_toArray, List.getElem?_cons_succ, List.getElem?_cons_zero]; rfl) (by kernel_rfl) (by kernel_rfl) (by kernel_rfl) (fun _ _ _ h => h) (Or.inl ⟨by rfl, ?_⟩) (by assumption) ?_
      rotate_left 1
      · intro w hSw; (try dsimp only at hSw); go_simp; (try with_reducible rfl)
      try simp only [Act.put, List.setIfInBounds_toArray, List.set_cons_zero, List.set_cons_succ]
      refine wpAnyH_take (i := 2) (v := ?_) (by simp only [List.getElem?_toArray, List.getElem?_cons_succ, List.getElem?_cons_zero]; rfl) (by kernel_rfl) (by kernel_rfl) (by kernel_rfl) (fun _ _ _ h => h) (Or.inl ⟨by rfl, ?_⟩) (by assumption) ?_
      rotate_left 1
      · intro w hSw; (try dsimp only at hSw); go_simp; (try with_reducible rfl)
      try simp only [Act.put, List.setIfInBounds_toArray, List.set_cons_zero, List.set_cons_succ]
      refine wpAnyH_take (i := 3) (v := ?_) (by simp only [List.getElem?_toArray, List.getElem?_cons_succ, List.getElem?_cons_zero]; rfl) (by kernel_rfl) (by kernel_rfl) (by kernel_rfl) (fun _ _ _ h => h) (Or.inl ⟨by rfl, ?_⟩) (by assumption) ?_
      rotate_left 1
      · intro w hSw; (try dsimp only at hSw); go_simp; (try with_reducible rfl)
      try simp only [Act.put, List.setIfInBounds_toArray, List.set_cons_zero, List.set_cons_succ]
      refine wpAnyH_take (i := 4) (v := ?_) (by simp only [List.getElem?_toArray, List.getElem?_cons_succ, List.getElem?_cons_zero]; rfl) (by kernel_rfl) (by kernel_rfl) (by kernel_rfl) (fun _ _ _ h => h) (Or.inl ⟨by rfl, ?_⟩) (by assumption) ?_
      rotate_left 1
      · intro w hSw; (try dsimp only at hSw); go_simp; (try with_reducible rfl)
      try simp only [Act.put, List.setIfInBounds_toArray, List.set_cons_zero, List.set_cons_succ]
      refine wpAnyH_take (i := 5) (v := .pointer (some ⟨gb, go + i * 6, none⟩)) (by simp only [List.getElem?_toArray, List.getElem?_cons_succ, List.getElem?_cons_zero]; rfl) (by kernel_rfl) (by kernel_rfl) (by kernel_rfl) (fun _ _ _ h => h) (Or.inl ⟨by rfl, ?_⟩) (by assumption) ?_
      · intro w hSw; (try dsimp only at hSw); (try go_simp); (first | done | (intro h9; omega) | (rw [if_pos (by omega)]) | omega)
      try simp only [Act.put, List.setIfInBounds_toArray, List.set_cons_zero, List.set_cons_succ]
      refine wpAnyH_take (i := 6) (v := ?_) (by simp only [List.getElem?_toArray, List.getElem?_cons_succ, List.getElem?_cons_zero]; rfl) (by kernel_rfl) (by kernel_rfl) (by kernel_rfl) (fun _ _ _ h => h) (Or.inl ⟨by rfl, ?_⟩) (by assumption) ?_
      rotate_left 1
      · intro w hSw; (try dsimp only at hSw); go_simp; (try with_reducible rfl)
      try simp only [Act.put, List.setIfInBounds_toArray, List.set_cons_zero, List.set_cons_succ]
      refine wpAnyH_ready (rs := [7]) (by kernel_rfl) (by simp) ?_
      refine AllReadyH.cons (by simp only [List.getElem?_toArray, List.getElem?_cons_succ, List.getElem?_cons_zero]; rfl) (fun K hK => ?_) AllReadyH.nil
      go_simp
      go_at_call 82
      refine (WRD.out _ i g HR.out.2.drew HG.out).mono ?_
      rintro e w1 ⟨rfl, b1⟩
      have O1 : Hid (BfgKit.Own w1 x.heap.size 5 (.slice (some ⟨vb, 0, none⟩) (upG T c i).length vc) (upG T c i) ∧ Below x.heap.size x w1) := ⟨ownG_on HR.out.1 ((Below.refl _ _).drew.trans b1), HR.out.2.trans (((Below.refl _ _).drew.trans b1).mono HR.out.2.size)⟩
      clear b1
      clear hHeld
      refine hK.out _ _ (KS.out _ O1.out.2) (fun hHeld => ?_)
      clear hK K
      try simp only [Act.put, List.setIfInBounds_toArray, List.set_cons_zero, List.set_cons_succ]
      refine wpAnyH_ready (rs := [8]) (by kernel_rfl) (by simp) ?_
      refine AllReadyH.cons (by simp only [List.getElem?_toArray, List.getElem?_cons_succ, List.getElem?_cons_zero]; rfl) (fun K hK => ?_) AllReadyH.nil
      skip
      refine stepG_text rfl _ _ rfl x.heap.size _ (upG T c i) (bl (wordsT T c g)) rfl O1.out.1 rfl (by have h := upG_le T c (i + 1); have h2 := HLEN.out; rw [upG_step T c i g HG.out] at h; simp only [List.length_append, List.length_cons, List.length_nil] at h ⊢; omega) O1.out.2.size ?_
      intro X2 v2 w2 e2 o2 b2
      obtain ⟨vg, vcap, rfl⟩ := ownG_shape o2
      have O2 : Hid (BfgKit.Own w2 x.heap.size 5 (.slice (some ⟨vg, 0, none⟩) X2.length vcap) X2 ∧ Below x.heap.size x w2) := ⟨o2, O1.out.2.trans b2⟩
      have E2 := hid e2
      clear o2 b2 e2
      clear hHeld
      refine hK.out _ _ (KS.out _ O2.out.2) (fun hHeld => ?_)
      clear hK K
      try simp only [Act.put, List.setIfInBounds_toArray, List.set_cons_zero, List.set_cons_succ]
      refine wpAnyH_take (i := 9) (v := ?_) (by simp only [List.getElem?_toArray, List.getElem?_cons_succ, List.getElem?_cons_zero]; rfl) (by kernel_rfl) (by kernel_rfl) (by kernel_rfl) (fun _ _ _ h => h) (Or.inl ⟨by rfl, ?_⟩) (by assumption) ?_
      rotate_left 1
      · intro w hSw; (try dsimp only at hSw); go_simp; (try with_reducible rfl)
      try simp only [Act.put, List.setIfInBounds_toArray, List.set_cons_zero, List.set_cons_succ]
      refine wpAnyH_done (by kernel_rfl) ?_ _
      refine NoPanic.normal ?_
      clear hHeld KS HR O1
      go_wp2_with (at_builtin; refine appG_byte rfl _ _ rfl x.heap.size _ X2 10 10 ?a1 ?a2 O2.out.1 ?a3 ?a4 ?a5 ?_)
      case a1 => rfl
      case a2 => rfl
      case a3 => rfl
      case a4 => have h := upG_le T c (i + 1); have h2 := HLEN.out; rw [upG_step T c i g HG.out] at h; rw [E2.out]; simp only [List.length_append, List.length_cons, List.length_nil] at h ⊢; omega
      case a5 => exact O2.out.2.size
      intro X4 v4 w4 e4 o4 b4
      have E4 := hid e4
      have O4 := hid o4
      have B4 := hid b4
      clear o4 b4 e4
      go_wp2
      exact ⟨⟨i + 1, hlt, by go_num, by rw [upG_step T c i g HG.out, ← E2.out, ← E4.out]; exact O4.out, O2.out.2.trans B4.out⟩, by simp [intOf] <;> omega⟩
    · have hie : i = c.gates.length := by omega
      have HR2 : Hid (BfgKit.Own wr x.heap.size 5 (.slice (some ⟨vb, 0, none⟩) (upG T c i).length vc) (upO T c 0) ∧ Below x.heap.size x wr) := by
        have h := HR.out
        rw [← upG_full, ← hie]
        exact h
      subst hie
      clear HR
      go_wp2
      clear q1 l1
      go_loopw [3, 5] (fun ov iv W => ∃ i : Nat, i ≤ c.outs.length ∧ iv = .int .i64 (i : Int) ∧ Hid (BfgKit.Own W x.heap.size 5 ov (upO T c i) ∧ Below x.heap.size x W)) (fun ov iv _ => c.outs.length - (intOf iv).toNat)
      case atStart => exact ⟨0, Nat.zero_le _, rfl, HR2.out⟩
      case round =>
        obtain ⟨i, hi, rfl, HR⟩ := hrel
        clear HR2
        obtain ⟨vb2, vc2, rfl⟩ := ownG_shape HR.out.1
        obtain ⟨X1, hX1⟩ : ∃ X1, X1 = upO T c i := ⟨_, rfl⟩
        rw [← hX1] at HR ⊢
        have E1 := hid hX1
        clear hX1
        have q1 := fun j => cell_row (RS.out wr HR.out.2) j
        have l1 := (Array.getElem?_eq_some_iff.1 (RS.out wr HR.out.2)).1
        by_cases hlt2 : i < c.outs.length
        · obtain ⟨k, hk⟩ : ∃ k, c.outs[i]? = some k := ⟨_, List.getElem?_eq_getElem hlt2⟩
          obtain ⟨ob, oo, rfl, hob, -⟩ := num_at (CX.out x (Below.refl _ _)).1.outs i k hk
          have hkb := HOB.out k (List.mem_of_getElem? hk)
          obtain ⟨n, gb, go, rfl, hn, rfl, hgb, -⟩ := nm_at (CX.out x (Below.refl _ _)).1.gates k hkb.1 hkb.2
          have HKO := hid hk
          clear hk
          have KS : Hid (∀ W, Below x.heap.size x W → (fun W => W.cell? ⟨w.heap.size, 1, none⟩ = some (.slice (some ⟨gb, go, none⟩) c.gates.length cg) ∧ W.cell? ⟨w.heap.size, 2, none⟩ = some (.slice (some ⟨ob, oo, none⟩) c.outs.length co) ∧ W.cell? ⟨ob, oo + i, none⟩ = some (.int .i64 (n : Int)) ∧ W.cell? ⟨gb, go + n * 6 + 1, none⟩ = some (.string (nmAt c (n : Int)))) W) := fun W hW => by
            have r := fun j => cell_row (RS.out W hW) j
            obtain ⟨b', o', e1, _, c0⟩ := num_at (CX.out W hW).1.outs i (n : Int) HKO.out
            cases e1
            obtain ⟨n', b'', o'', e2, _, e3, _, c1⟩ := nm_at (CX.out W hW).1.gates (n : Int) hkb.1 hkb.2
            cases e3
            obtain rfl : n = n' := by omega
            exact ⟨r 1, r 2, c0, c1⟩
          go_wp2_with (at_builtin; refine appG_text rfl _ _ rfl x.heap.size _ X1 [111, 117, 116, 112, 117, 116, 32] rfl HR.out.1 rfl (by have h := upO_le T c (i + 1); have h2 := HLEN.out; rw [upO_step T c i (n : Int) HKO.out] at h; rw [E1.out]; simp only [List.length_append, List.length_cons, List.length_nil] at h ⊢; omega) HR.out.2.size ?_; intro X2 v2 w2 e2 o2 b2; obtain ⟨vg, vcap, rfl⟩ := ownG_shape o2; have E2 := hid (e2.trans (by rw [E1.out])); have O2 := hid (show BfgKit.Own w2 x.heap.size 5 (.slice (some ⟨vg, 0, none⟩) X2.length vcap) X2 ∧ Below x.heap.size x w2 from ⟨o2, HR.out.2.trans b2⟩); clear o2 b2 e2)
          clear q1 l1
          refine wp_region_noPanic ?_
          refine wp_region_held_drew (S := fun W => W.cell? ⟨w.heap.size, 1, none⟩ = some (.slice (some ⟨gb, go, none⟩) c.gates.length cg) ∧ W.cell? ⟨w.heap.size, 2, none⟩ = some (.slice (some ⟨ob, oo, none⟩) c.outs.length co) ∧ W.cell? ⟨ob, oo + i, none⟩ = some (.int .i64 (n : Int)) ∧ W.cell? ⟨gb, go + n * 6 + 1, none⟩ = some (.string (nmAt c (n : Int)))) (by kernel_rfl) (KS.out _ O2.out.2.drew) (fun hHeld => ?_)
          refine wpAnyH_take (i := 0) (v := ?_) (by simp only [List.getElem?_toArray, List.getElem?_cons_zero]; rfl) (by kernel_rfl) (by kernel_rfl) (by kernel_rfl) (fun _ _ _ h => h) (Or.inl ⟨by rfl, ?_⟩) (by assumption) ?_
          rotate_left 1
          · intro w hSw; (try dsimp only at hSw); go_simp; (try with_reducible rfl)
          try simp only [Act.put, List.setIfInBounds_toArray, List.set_cons_zero, List.set_cons_succ]
          refine wpAnyH_take (i := 1) (v := ?_) (by simp only [List.getElem?_toArray, List.getElem?_cons_succ, List.getElem?_cons_zero]; rfl) (by kernel_rfl) (by kernel_rfl) (by kernel_rfl) (fun _ _ _ h => h) (Or.inl ⟨by rfl, ?_⟩) (by assumption) ?_
          rotate_left 1
          · intro w hSw; (try dsimp only at hSw); go_simp; (try with_reducible rfl)
          try simp only [Act.put, List.setIfInBounds_toArray, List.set_cons_zero, List.set_cons_succ]
          refine wpAnyH_take (i := 2) (v := ?_) (by simp only [List.getElem?_toArray, List.getElem?_cons_succ, List.getElem?_cons_zero]; rfl) (by kernel_rfl) (by kernel_rfl) (by kernel_rfl) (fun _ _ _ h => h) (Or.inl ⟨by rfl, ?_⟩) (by assumption) ?_
          rotate_left 1
          · intro w hSw; (try dsimp only at hSw); go_simp; (try with_reducible rfl)
          try simp only [Act.put, List.setIfInBounds_toArray, List.set_cons_zero, List.set_cons_succ]
          refine wpAnyH_take (i := 3) (v := ?_) (by simp only [List.getElem?_toArray, List.getElem?_cons_succ, List.getElem?_cons_zero]; rfl) (by kernel_rfl) (by kernel_rfl) (by kernel_rfl) (fun _ _ _ h => h) (Or.inl ⟨by rfl, ?_⟩) (by assumption) ?_
          rotate_left 1
          · intro w hSw; (try dsimp only at hSw); go_simp; (try with_reducible rfl)
          try simp only [Act.put, List.setIfInBounds_toArray, List.set_cons_zero, List.set_cons_succ]
          refine wpAnyH_take (i := 4) (v := ?_) (by simp only [List.getElem?_toArray, List.getElem?_cons_succ, List.getElem?_cons_zero]; rfl) (by kernel_rfl) (by kernel_rfl) (by kernel_rfl) (fun _ _ _ h => h) (Or.inl ⟨by rfl, ?_⟩) (by assumption) ?_
          rotate_left 1
          · intro w hSw; (try dsimp only at hSw); go_simp; (try with_reducible rfl)
          try simp only [Act.put, List.setIfInBounds_toArray, List.set_cons_zero, List.set_cons_succ]
          refine wpAnyH_take (i := 5) (v := ?_) (by simp only [List.getElem?_toArray, List.getElem?_cons_succ, List.getElem?_cons_zero]; rfl) (by kernel_rfl) (by kernel_rfl) (by kernel_rfl) (fun _ _ _ h => h) (Or.inl ⟨by rfl, ?_⟩) (by assumption) ?_
          rotate_left 1
          · intro w hSw; (try dsimp only at hSw); go_simp; (try with_reducible rfl)
          try simp only [Act.put, List.setIfInBounds_toArray, List.set_cons_zero, List.set_cons_succ]
          refine wpAnyH_take (i := 6) (v := .pointer (some ⟨ob, oo + i, none⟩)) (by simp only [List.getElem?_toArray, List.getElem?_cons_succ, List.getElem?_cons_zero]; rfl) (by kernel_rfl) (by kernel_rfl) (by kernel_rfl) (fun _ _ _ h => h) (Or.inl ⟨by rfl, ?_⟩) (by assumption) ?_
          · intro w hSw; (try dsimp only at hSw); (try go_simp); (first | done | (intro h9; omega) | (rw [if_pos (by omega)]) | omega)
          try simp only [Act.put, List.setIfInBounds_toArray, List.set_cons_zero, List.set_cons_succ]
          refine wpAnyH_take (i := 7) (v := ?_) (by simp only [List.getElem?_toArray, List.getElem?_cons_succ, List.getElem?_cons_zero]; rfl) (by kernel_rfl) (by kernel_rfl) (by kernel_rfl) (fun _ _ _ h => h) (Or.inl ⟨by rfl, ?_⟩) (by assumption) ?_
          rotate_left 1
          · intro w hSw; (try dsimp only at hSw); go_simp; (try with_reducible rfl)
          try simp only [Act.put, List.setIfInBounds_toArray, List.set_cons_zero, List.set_cons_succ]
          refine wpAnyH_take (i := 8) (v := .pointer (some ⟨gb, go + n * 6, none⟩)) (by simp only [List.getElem?_toArray, List.getElem?_cons_succ, List.getElem?_cons_zero]; rfl) (by kernel_rfl) (by kernel_rfl) (by kernel_rfl) (fun _ _ _ h => h) (Or.inl ⟨by rfl, ?_⟩) (by assumption) ?_
          · intro w hSw; (try dsimp only at hSw); (try go_simp); (first | done | (intro h9; omega) | (rw [if_pos (by omega)]) | omega)
          try simp only [Act.put, List.setIfInBounds_toArray, List.set_cons_zero, List.set_cons_succ]
          refine wpAnyH_take (i := 9) (v := ?_) (by simp only [List.getElem?_toArray, List.getElem?_cons_succ, List.getElem?_cons_zero]; rfl) (by kernel_rfl) (by kernel_rfl) (by kernel_rfl) (fun _ _ _ h => h) (Or.inl ⟨by rfl, ?_⟩) (by assumption) ?_
          rotate_left 1
          · intro w hSw; (try dsimp only at hSw); go_simp; (try with_reducible rfl)
          try simp only [Act.put, List.setIfInBounds_toArray, List.set_cons_zero, List.set_cons_succ]
          refine wpAnyH_take (i := 10) (v := ?_) (by simp only [List.getElem?_toArray, List.getElem?_cons_succ, List.getElem?_cons_zero]; rfl) (by kernel_rfl) (by kernel_rfl) (by kernel_rfl) (fun _ _ _ h => h) (Or.inl ⟨by rfl, ?_⟩) (by assumption) ?_
          rotate_left 1
          · intro w hSw; (try dsimp only at hSw); go_simp; (try with_reducible rfl)
          try simp only [Act.put, List.setIfInBounds_toArray, List.set_cons_zero, List.set_cons_succ]
          refine wpAnyH_ready (rs := [11]) (by kernel_rfl) (by simp) ?_
          refine AllReadyH.cons (by simp only [List.getElem?_toArray, List.getElem?_cons_succ, List.getElem?_cons_zero]; rfl) (fun K hK => ?_) AllReadyH.nil
          skip
          refine stepG_text rfl _ _ rfl x.heap.size _ X2 (bl (nmAt c (n : Int))) rfl (ownG_on O2.out.1 (Below.refl _ _).drew) rfl (by have h := upO_le T c (i + 1); have h2 := HLEN.out; rw [upO_step T c i (n : Int) HKO.out] at h; rw [E2.out]; simp only [List.length_append, List.length_cons, List.length_nil] at h ⊢; omega) O2.out.2.drew.size ?_
          intro X3 v3 w3 e3 o3 b3
          obtain ⟨vg3, vcap3, rfl⟩ := ownG_shape o3
          have O3 : Hid (BfgKit.Own w3 x.heap.size 5 (.slice (some ⟨vg3, 0, none⟩) X3.length vcap3) X3 ∧ Below x.heap.size x w3) := ⟨o3, O2.out.2.drew.trans b3⟩
          have E3 := hid e3
          clear o3 b3 e3
          clear hHeld
          refine hK.out _ _ (KS.out _ O3.out.2) (fun hHeld => ?_)
          clear hK K
          try simp only [Act.put, List.setIfInBounds_toArray, List.set_cons_zero, List.set_cons_succ]
          refine wpAnyH_take (i := 12) (v := ?_) (by simp only [List.getElem?_toArray, List.getElem?_cons_succ, List.getElem?_cons_zero]; rfl) (by kernel_rfl) (by kernel_rfl) (by kernel_rfl) (fun _ _ _ h => h) (Or.inl ⟨by rfl, ?_⟩) (by assumption) ?_
          rotate_left 1
          · intro w hSw; (try dsimp only at hSw); go_simp; (try with_reducible rfl)
          try simp only [Act.put, List.setIfInBounds_toArray, List.set_cons_zero, List.set_cons_succ]
          refine wpAnyH_done (by kernel_rfl) ?_ _
          refine NoPanic.normal ?_
          clear hHeld KS HR
          go_wp2_with (at_builtin; refine appG_byte rfl _ _ rfl x.heap.size _ X3 10 10 ?a1 ?a2 O3.out.1 ?a3 ?a4 ?a5 ?_)
          case a1 => rfl
          case a2 => rfl
          case a3 => rfl
          case a4 => have h := upO_le T c (i + 1); have h2 := HLEN.out; rw [upO_step T c i (n : Int) HKO.out] at h; rw [E3.out, E2.out]; simp only [List.length_append, List.length_cons, List.length_nil] at h ⊢; omega
          case a5 => exact O3.out.2.size
          intro X4 v4 w4 e4 o4 b4
          have E4 := hid e4
          have O4 := hid o4
          have B4 := hid b4
          clear o4 b4 e4
          go_wp2
          exact ⟨⟨i + 1, hlt2, by go_num, by rw [upO_step T c i (n : Int) HKO.out, show upO T c i ++ ([111, 117, 116, 112, 117, 116, 32] ++ bl (nmAt c (n : Int))) ++ [10] = X4 by rw [E4.out, E3.out, E2.out]; simp]; exact O4.out, O3.out.2.trans B4.out⟩, by simp [intOf] <;> omega⟩
        · have hie2 : i = c.outs.length := by omega
          have htx := ownG_text HR.out.1
          have hE : X1 ++ [101, 110, 100, 10] = textT T c := by rw [E1.out, hie2, upO_full]
          have HE := hid hE
          have hx1 : X1.length ≤ 140737488355328 := by have := congrArg List.length hE; have := HLEN.out; simp only [List.length_append] at *; omega
          have HBW : Hid (Below w.heap.size w wr) := BX.out.trans (HR.out.2.mono (by have := SX.out; omega))
          clear hE
          go_wp2
          go_ret
          exact ⟨by rw [← HE.out]; first | rfl | simp, HBW.out⟩
end Go.Proofs.YtfmmmhcpdinhgaaDoor
/-
  The document's own letter, Name, field, FormedLine, leans.
-/
namespace Go.Proofs.YtfmmmhcpdinhgaaDoor
open Go.RowKit Go.Deep PureNet
set_option maxRecDepth 100000

set_option maxHeartbeats 1000000 in
theorem letter_any (c : UInt8) (w : World) : Calls Tryd.prog 83 #[.int .u8 (c.toNat : Int)] w fun e w' => e = .returned (.bool (letB c)) ∧ w' = w := by
  have hc : (c.toNat : Int) ≤ 255 := by have := c.toNat_lt; omega
  by_cases h1 : 97 ≤ (c.toNat : Int)
  · by_cases h2 : (c.toNat : Int) ≤ 122
    · have HD : Hid (letB c = true) := by show _ = _; unfold letB; simp; omega
      go_enter Tryd.func83, Tryd.ntmps83
      go_wp2
      go_ret
      rw [HD.out]
      exact ⟨rfl, rfl⟩
    · have HD : Hid (letB c = false) := by show _ = _; unfold letB; simp; omega
      have h3 : 65 ≤ (c.toNat : Int) := by omega
      have h4 : ¬ (c.toNat : Int) ≤ 90 := by omega
      have h5 : ((c.toNat : Int) == 95) = false := beq_eq_false_iff_ne.2 (by omega)
      go_enter Tryd.func83, Tryd.ntmps83
      go_wp2
      go_ret
      rw [HD.out]
      exact ⟨rfl, rfl⟩
  · by_cases h3 : 65 ≤ (c.toNat : Int)
    · by_cases h4 : (c.toNat : Int) ≤ 90
      · have HD : Hid (letB c = true) := by show _ = _; unfold letB; simp; omega
        go_enter Tryd.func83, Tryd.ntmps83
        go_wp2
        go_ret
        rw [HD.out]
        exact ⟨rfl, rfl⟩
      · by_cases h5 : (c.toNat : Int) = 95
        · have HD : Hid (letB c = true) := by show _ = _; unfold letB; simp; omega
          go_enter Tryd.func83, Tryd.ntmps83
          go_wp2
          go_ret
          rw [HD.out]
          exact ⟨rfl, rfl⟩
        · have HD : Hid (letB c = false) := by show _ = _; unfold letB; simp; omega
          have h6 : ((c.toNat : Int) == 95) = false := beq_eq_false_iff_ne.2 h5
          clear h5
          go_enter Tryd.func83, Tryd.ntmps83
          go_wp2
          go_ret
          rw [HD.out]
          exact ⟨rfl, rfl⟩
    · have HD : Hid (letB c = false) := by show _ = _; unfold letB; simp; omega
      have h5 : ((c.toNat : Int) == 95) = false := beq_eq_false_iff_ne.2 (by omega)
      go_enter Tryd.func83, Tryd.ntmps83
      go_wp2
      go_ret
      rw [HD.out]
      exact ⟨rfl, rfl⟩

set_option maxHeartbeats 1000000 in
theorem field_any (v : Int) (u : Bool) (n : Nat) (w : World) : Calls Tryd.prog 84 #[.int .i64 v, .bool u, .int .i64 (n : Int)] w fun e w' => e = .returned (.bool (fieldB v u n)) ∧ w' = w := by
  cases u
  · by_cases h : v = 0
    · have HD : Hid (fieldB v false n = true) := by show _ = _; simp [fieldB, h]
      subst h
      go_enter Tryd.func84, Tryd.ntmps84
      go_wp2
      go_ret
      rw [HD.out]
      exact ⟨rfl, rfl⟩
    · have HD : Hid (fieldB v false n = false) := by show _ = _; simp [fieldB, h]
      go_enter Tryd.func84, Tryd.ntmps84
      go_wp2
      go_ret
      rw [HD.out]
      exact ⟨by simp [h], rfl⟩
  · by_cases h : 0 ≤ v
    · by_cases h2 : v < (n : Int)
      · have HD : Hid (fieldB v true n = true) := by show _ = _; simp [fieldB, h, h2]
        go_enter Tryd.func84, Tryd.ntmps84
        go_wp2
        go_ret
        rw [HD.out]
        exact ⟨rfl, rfl⟩
      · have HD : Hid (fieldB v true n = false) := by show _ = _; simp [fieldB, h2]
        go_enter Tryd.func84, Tryd.ntmps84
        go_wp2
        go_ret
        rw [HD.out]
        exact ⟨rfl, rfl⟩
    · have HD : Hid (fieldB v true n = false) := by show _ = _; simp [fieldB, h]
      go_enter Tryd.func84, Tryd.ntmps84
      go_wp2
      go_ret
      rw [HD.out]
      exact ⟨rfl, rfl⟩

theorem nameB_long (s : ByteArray) (h : 32 < s.size) : nameB s = false := by
  unfold nameB
  have : s.data.toList.length = s.size := by simp
  cases hl : s.data.toList with
  | nil => rfl
  | cons c r =>
    rw [hl] at this
    simp only [List.length_cons] at this
    simp only [nameL]
    rw [decide_eq_false (show ¬ r.length ≤ 31 by omega), Bool.and_false]
theorem nameB_of (s : ByteArray) (h0 : 0 < s.size) (h1 : s.size ≤ 32) : nameB s = (letB (s[0]'h0) && decide (∀ q, (hq : q < s.size) → 0 < q → nameCB (s[q]'hq) = true)) := by
  unfold nameB
  have hlen : s.data.toList.length = s.size := by simp
  have hget : ∀ q (hq : q < s.size), s.data.toList[q]'(by rw [hlen]; exact hq) = s[q]'hq := fun q hq => rfl
  cases hl : s.data.toList with
  | nil => rw [hl] at hlen; simp at hlen; omega
  | cons c r =>
    have hc : s[0]'h0 = c := by
      have := hget 0 h0
      simp only [hl] at this
      exact this.symm
    have hlr : r.length + 1 = s.size := by rw [hl] at hlen; simpa using hlen
    simp only [nameL]
    rw [hc, decide_eq_true (show r.length ≤ 31 by omega), Bool.and_true]
    congr 1
    rw [Bool.eq_iff_iff, List.all_eq_true, decide_eq_true_eq]
    constructor
    · intro h q hq h0
      obtain ⟨k, rfl⟩ : ∃ k, q = k + 1 := ⟨q - 1, by omega⟩
      have := hget (k + 1) hq
      simp only [hl, List.getElem_cons_succ] at this
      rw [← this]
      exact h _ (List.getElem_mem _)
    · intro h x hx
      obtain ⟨k, hk, rfl⟩ := List.getElem_of_mem hx
      have := hget (k + 1) (by omega)
      simp only [hl, List.getElem_cons_succ] at this
      rw [this]
      exact h (k + 1) (by omega) (by omega)

set_option maxHeartbeats 2000000 in
set_option maxRecDepth 100000 in
theorem name_any (s : ByteArray) (w : World) (hs : s.size ≤ 140737488351232) : Calls Tryd.prog 55 #[.string s] w fun e w' => e = .returned (.bool (nameB s)) ∧ Below w.heap.size w w' := by
  by_cases h0 : s.size = 0
  · have HD : Hid (nameB s = false) := by
      show _ = _
      unfold nameB
      have : s.data.toList = [] := List.eq_nil_of_length_eq_zero (by simpa using h0)
      rw [this]
      rfl
    go_enter Tryd.func55, Tryd.ntmps55
    go_wp2
    go_ret
    rw [HD.out]
    exact ⟨rfl, Below.refl _ _⟩
  by_cases h32 : 32 < s.size
  · have HD := hid (nameB_long s h32)
    have h33 : (32 : Int) < (s.size : Int) := by omega
    have h34 : ¬ (s.size : Int) < 1 := by omega
    go_enter Tryd.func55, Tryd.ntmps55
    go_wp2
    go_ret
    rw [HD.out]
    exact ⟨rfl, Below.refl _ _⟩
  have hp : 0 < s.size := by omega
  have HN := hid (nameB_of s hp (by omega))
  have LE := hid (fun W => letter_any (s[0]'hp) W)
  have h33 : ¬ (32 : Int) < (s.size : Int) := by omega
  have h34 : ¬ (s.size : Int) < 1 := by omega
  cases hl0 : letB (s[0]'hp) with
  | false =>
    rw [hl0, Bool.false_and] at HN
    rw [hl0] at LE
    go_enter Tryd.func55, Tryd.ntmps55
    go_wp2_with (first
      | (go_at_call 83; with_reducible refine (LE.out _).mono ?_; rintro e w1 ⟨rfl, rfl⟩))
    go_ret
    rw [HN.out]
    exact ⟨rfl, Below.refl _ _⟩
  | true =>
    rw [hl0, Bool.true_and] at HN
    rw [hl0] at LE
    clear hl0
    go_enter Tryd.func55, Tryd.ntmps55
    go_wp2_with (first
      | (go_at_call 83; with_reducible refine (LE.out _).mono ?_; rintro e w1 ⟨rfl, rfl⟩))
    go_loopw [3] (fun iv W => ∃ i : Nat, 1 ≤ i ∧ i ≤ s.size ∧ iv = .int .i64 (i : Int) ∧ W = w1 ∧ Hid (∀ q, (hq : q < s.size) → 0 < q → q < i → nameCB (s[q]'hq) = true)) (fun iv _ => s.size - (intOf iv).toNat)
    case atStart => exact ⟨1, Nat.le_refl _, by omega, rfl, rfl, fun q _ h1 h2 => by omega⟩
    case round =>
      obtain ⟨i, hi1, hi, rfl, rfl, HR⟩ := hrel
      by_cases hlt : i < s.size
      · have hr := HR.out
        clear HR
        have LI := hid (fun W => letter_any (s[i]'hlt) W)
        have HNX : nameCB (s[i]'hlt) = true → Hid (∀ q, (hq : q < s.size) → 0 < q → q < i + 1 → nameCB (s[q]'hq) = true) := fun h q hq h1 h2 => by
          by_cases e : q = i
          · subst e; exact h
          · exact hr q hq h1 (by omega)
        have HNO : nameCB (s[i]'hlt) = false → Hid (nameB s = false) := fun h => by
          show _ = _
          rw [HN.out, decide_eq_false]
          intro hall
          have := hall i hlt (by omega)
          rw [h] at this
          cases this
        have hcb : ((s[i]'hlt).toNat : Int) ≤ 255 := by have := (s[i]'hlt).toNat_lt; omega
        cases hcl : letB (s[i]'hlt) with
        | true =>
          have NX := HNX (by simp [nameCB, hcl])
          rw [hcl] at LI
          clear HNX HNO hr hcl
          go_wp2_with (first
            | (go_at_call 83; with_reducible refine (LI.out _).mono ?_; rintro e w2 ⟨rfl, rfl⟩))
          exact ⟨⟨i + 1, by omega, hlt, by go_num, trivial, NX.out⟩, by simp [intOf]; omega⟩
        | false =>
          rw [hcl] at LI
          by_cases h1 : 48 ≤ ((s[i]'hlt).toNat : Int)
          · by_cases h2 : ((s[i]'hlt).toNat : Int) ≤ 57
            · have NX := HNX (by simp only [nameCB, hcl, Bool.false_or, decide_eq_true_eq]; omega)
              clear HNX HNO hr hcl
              go_wp2_with (first
                | (go_at_call 83; with_reducible refine (LI.out _).mono ?_; rintro e w2 ⟨rfl, rfl⟩))
              exact ⟨⟨i + 1, by omega, hlt, by go_num, trivial, NX.out⟩, by simp [intOf]; omega⟩
            · have NO := HNO (by simp only [nameCB, hcl, Bool.false_or, decide_eq_false_iff_not]; omega)
              have h3 : ¬ ((s[i]'hlt).toNat : Int) = 46 := by omega
              have h3b : (((s[i]'hlt).toNat : Int) == 46) = false := beq_eq_false_iff_ne.2 h3
              have h2b : decide (((s[i]'hlt).toNat : Int) ≤ 57) = false := decide_eq_false h2
              have h3c : (((s[i]'hlt).toNat : Int) != 46) = true := bne_iff_ne.2 h3
              clear HNX HNO hr hcl
              go_wp2_with (first
                | (go_at_call 83; with_reducible refine (LI.out _).mono ?_; rintro e w2 ⟨rfl, rfl⟩))
              go_ret
              rw [NO.out]
              exact ⟨rfl, Below.refl _ _⟩
          · by_cases h3 : ((s[i]'hlt).toNat : Int) = 46
            · have NX := HNX (by simp only [nameCB, hcl, Bool.false_or, decide_eq_true_eq]; omega)
              have h4 : (((s[i]'hlt).toNat : Int) == 46) = true := by rw [h3]; rfl
              clear HNX HNO hr hcl h3
              go_wp2_with (first
                | (go_at_call 83; with_reducible refine (LI.out _).mono ?_; rintro e w2 ⟨rfl, rfl⟩))
              exact ⟨⟨i + 1, by omega, hlt, by go_num, trivial, NX.out⟩, by simp [intOf]; omega⟩
            · have NO := HNO (by simp only [nameCB, hcl, Bool.false_or, decide_eq_false_iff_not]; omega)
              have h4 : (((s[i]'hlt).toNat : Int) == 46) = false := beq_eq_false_iff_ne.2 h3
              clear HNX HNO hr hcl h3
              go_wp2_with (first
                | (go_at_call 83; with_reducible refine (LI.out _).mono ?_; rintro e w2 ⟨rfl, rfl⟩))
              go_ret
              rw [NO.out]
              exact ⟨rfl, Below.refl _ _⟩
      · have hin : i = s.size := by omega
        have HF : Hid (nameB s = true) := by
          show _ = _
          rw [HN.out]
          exact decide_eq_true (fun q hq h0 => HR.out q hq h0 (by omega))
        clear HR hin
        go_wp2
        go_ret
        rw [HF.out]
        exact ⟨rfl, Below.refl _ _⟩
end Go.Proofs.YtfmmmhcpdinhgaaDoor
/-
  The program's names.
-/
namespace Go.Proofs.YtfmmmhcpdinhgaaDoor
open Go.RowKit Go.Deep PureNet
set_option maxRecDepth 100000

set_option maxHeartbeats 1000000 in
theorem begins_any (c : UInt8) (w : World) : Calls Tryd.prog 105 #[.int .u8 (c.toNat : Int)] w fun e w' => e = .returned (.bool (letB c)) ∧ w' = w := by
  have hc : (c.toNat : Int) ≤ 255 := by have := c.toNat_lt; omega
  by_cases h1 : 97 ≤ (c.toNat : Int)
  · by_cases h2 : (c.toNat : Int) ≤ 122
    · have HD : Hid (letB c = true) := by show _ = _; unfold letB; simp; omega
      go_enter Tryd.func105, Tryd.ntmps105
      go_wp2
      go_ret
      rw [HD.out]
      exact ⟨rfl, rfl⟩
    · have HD : Hid (letB c = false) := by show _ = _; unfold letB; simp; omega
      have h3 : 65 ≤ (c.toNat : Int) := by omega
      have h4 : ¬ (c.toNat : Int) ≤ 90 := by omega
      have h5 : ((c.toNat : Int) == 95) = false := beq_eq_false_iff_ne.2 (by omega)
      go_enter Tryd.func105, Tryd.ntmps105
      go_wp2
      go_ret
      rw [HD.out]
      exact ⟨rfl, rfl⟩
  · by_cases h3 : 65 ≤ (c.toNat : Int)
    · by_cases h4 : (c.toNat : Int) ≤ 90
      · have HD : Hid (letB c = true) := by show _ = _; unfold letB; simp; omega
        go_enter Tryd.func105, Tryd.ntmps105
        go_wp2
        go_ret
        rw [HD.out]
        exact ⟨rfl, rfl⟩
      · by_cases h5 : (c.toNat : Int) = 95
        · have HD : Hid (letB c = true) := by show _ = _; unfold letB; simp; omega
          go_enter Tryd.func105, Tryd.ntmps105
          go_wp2
          go_ret
          rw [HD.out]
          exact ⟨rfl, rfl⟩
        · have HD : Hid (letB c = false) := by show _ = _; unfold letB; simp; omega
          have h6 : ((c.toNat : Int) == 95) = false := beq_eq_false_iff_ne.2 h5
          clear h5
          go_enter Tryd.func105, Tryd.ntmps105
          go_wp2
          go_ret
          rw [HD.out]
          exact ⟨rfl, rfl⟩
    · have HD : Hid (letB c = false) := by show _ = _; unfold letB; simp; omega
      have h5 : ((c.toNat : Int) == 95) = false := beq_eq_false_iff_ne.2 (by omega)
      go_enter Tryd.func105, Tryd.ntmps105
      go_wp2
      go_ret
      rw [HD.out]
      exact ⟨rfl, rfl⟩

def goB (c : UInt8) : Bool := decide ((48 ≤ c.toNat ∧ c.toNat ≤ 57) ∨ c.toNat = 46)
set_option maxHeartbeats 1000000 in
theorem goesOn_any (c : UInt8) (w : World) : Calls Tryd.prog 106 #[.int .u8 (c.toNat : Int)] w fun e w' => e = .returned (.bool (goB c)) ∧ w' = w := by
  have hc : (c.toNat : Int) ≤ 255 := by have := c.toNat_lt; omega
  by_cases h1 : 48 ≤ (c.toNat : Int)
  · by_cases h2 : (c.toNat : Int) ≤ 57
    · have HD : Hid (goB c = true) := by show _ = _; unfold goB; simp; omega
      go_enter Tryd.func106, Tryd.ntmps106
      go_wp2
      go_ret
      rw [HD.out]
      exact ⟨rfl, rfl⟩
    · have HD : Hid (goB c = false) := by show _ = _; unfold goB; simp; omega
      have h5 : ((c.toNat : Int) == 46) = false := beq_eq_false_iff_ne.2 (by omega)
      go_enter Tryd.func106, Tryd.ntmps106
      go_wp2
      go_ret
      rw [HD.out]
      exact ⟨rfl, rfl⟩
  · by_cases h5 : (c.toNat : Int) = 46
    · have HD : Hid (goB c = true) := by show _ = _; unfold goB; simp; omega
      go_enter Tryd.func106, Tryd.ntmps106
      go_wp2
      go_ret
      rw [HD.out]
      exact ⟨rfl, rfl⟩
    · have HD : Hid (goB c = false) := by show _ = _; unfold goB; simp; omega
      have h6 : ((c.toNat : Int) == 46) = false := beq_eq_false_iff_ne.2 h5
      clear h5
      go_enter Tryd.func106, Tryd.ntmps106
      go_wp2
      go_ret
      rw [HD.out]
      exact ⟨rfl, rfl⟩

theorem nameB_all (s : ByteArray) (h0 : 0 < s.size) (h1 : s.size ≤ 32) (h : ∀ q, (hq : q < s.size) → letB (s[q]'hq) = true ∨ (0 < q ∧ goB (s[q]'hq) = true)) : nameB s = true := by
  rw [nameB_of s h0 h1, Bool.and_eq_true]
  refine ⟨?_, decide_eq_true fun q hq hp => ?_⟩
  · rcases h 0 h0 with h | ⟨h, _⟩
    · exact h
    · omega
  · unfold nameCB
    rcases h q hq with h | ⟨_, h⟩
    · rw [h]; rfl
    · unfold goB at h; rw [h]; simp
theorem nameB_not (s : ByteArray) (q : Nat) (hq : q < s.size) (h1 : letB (s[q]'hq) = false) (h2 : q = 0 ∨ goB (s[q]'hq) = false) : nameB s = false := by
  by_cases h32 : 32 < s.size
  · exact nameB_long s h32
  rw [nameB_of s (by omega) (by omega)]
  by_cases h0 : q = 0
  · subst h0
    rw [h1, Bool.false_and]
  · rw [decide_eq_false, Bool.and_false]
    intro h
    have := h q hq (by omega)
    unfold nameCB at this
    rw [h1, Bool.false_or] at this
    rcases h2 with h2 | h2
    · exact h0 h2
    · unfold goB at h2; rw [h2] at this; cases this

set_option maxHeartbeats 2000000 in
theorem isName_any (s : ByteArray) (w : World) (hs : s.size ≤ 140737488351232) : Calls Tryd.prog 78 #[.string s] w fun e w' => e = .returned (.bool (nameB s)) ∧ w' = w := by
  by_cases h0 : s.size = 0
  · have e0 : s = ⟨#[]⟩ := by
      obtain ⟨d⟩ := s
      congr
      exact Array.eq_empty_of_size_eq_zero h0
    subst e0
    have HD : Hid (nameB ⟨#[]⟩ = false) := rfl
    go_enter Tryd.func78, Tryd.ntmps78
    go_wp2
    go_ret
    refine ⟨?_, rfl⟩
    rw [HD.out]
    rfl
  have hneb : s.toList.isEmpty = false := by
    rw [ByteArray.toList_eq]
    cases h : s.data.toList with
    | nil => exact absurd (by simpa using congrArg List.length h) h0
    | cons a l => rfl
  by_cases h32 : 32 < s.size
  · have HD := hid (nameB_long s h32)
    have h33 : (32 : Int) < (s.size : Int) := by omega
    go_enter Tryd.func78, Tryd.ntmps78
    go_wp2
    go_ret
    rw [HD.out]
    exact ⟨rfl, rfl⟩
  have h33 : ¬ (32 : Int) < (s.size : Int) := by omega
  go_enter Tryd.func78, Tryd.ntmps78
  go_wp2
  go_loopw [14] (fun iv W => ∃ i : Nat, i ≤ s.size ∧ iv = .int .i64 (i : Int) ∧ W = w ∧ Hid (∀ q, (hq : q < s.size) → q < i → letB (s[q]'hq) = true ∨ (0 < q ∧ goB (s[q]'hq) = true))) (fun iv _ => s.size - (intOf iv).toNat)
  case atStart => exact ⟨0, Nat.zero_le _, rfl, rfl, fun q _ h => by omega⟩
  case round =>
    obtain ⟨i, hi, rfl, rfl, HR⟩ := hrel
    by_cases hlt : i < s.size
    · have hr := HR.out
      clear HR
      have LI := hid (fun W => begins_any (s[i]'hlt) W)
      have GI := hid (fun W => goesOn_any (s[i]'hlt) W)
      have NX : (letB (s[i]'hlt) = true ∨ (0 < i ∧ goB (s[i]'hlt) = true)) → Hid (∀ q, (hq : q < s.size) → q < i + 1 → letB (s[q]'hq) = true ∨ (0 < q ∧ goB (s[q]'hq) = true)) := fun h q hq h1 => by
        by_cases e : q = i
        · subst e; exact h
        · exact hr q hq (by omega)
      have NO : letB (s[i]'hlt) = false → (i = 0 ∨ goB (s[i]'hlt) = false) → Hid (nameB s = false) := fun h1 h2 => nameB_not s i hlt h1 h2
      clear hr
      cases hcl : letB (s[i]'hlt) with
      | true =>
        have HN := NX (.inl hcl)
        rw [hcl] at LI
        clear NX NO hcl
        go_wp2_with (first | (go_at_call 105; with_reducible refine (LI.out _).mono ?_; rintro e w2 ⟨rfl, rfl⟩))
        exact ⟨⟨i + 1, hlt, by go_num, by first | rfl | trivial, HN.out⟩, by simp [intOf]; omega⟩
      | false =>
        rw [hcl] at LI
        by_cases hi0 : i = 0
        · have HN := NO hcl (.inl hi0)
          have hib : ((i : Int) == 0) = true := by rw [hi0]; rfl
          clear NX NO hcl hi0
          go_wp2_with (first | (go_at_call 105; with_reducible refine (LI.out _).mono ?_; rintro e w2 ⟨rfl, rfl⟩))
          go_ret
          rw [HN.out]
          exact ⟨rfl, rfl⟩
        · have hib : ((i : Int) == 0) = false := beq_eq_false_iff_ne.2 (by omega)
          cases hcg : goB (s[i]'hlt) with
          | true =>
            have HN := NX (.inr ⟨by omega, hcg⟩)
            rw [hcg] at GI
            clear NX NO hcl hcg
            go_wp2_with (first | (go_at_call 106; with_reducible refine (GI.out _).mono ?_; rintro e w2 ⟨rfl, rfl⟩) | (go_at_call 105; with_reducible refine (LI.out _).mono ?_; rintro e w2 ⟨rfl, rfl⟩))
            exact ⟨⟨i + 1, hlt, by go_num, by first | rfl | trivial, HN.out⟩, by simp [intOf]; omega⟩
          | false =>
            have HN := NO hcl (.inr hcg)
            rw [hcg] at GI
            clear NX NO hcl hcg
            go_wp2_with (first | (go_at_call 106; with_reducible refine (GI.out _).mono ?_; rintro e w2 ⟨rfl, rfl⟩) | (go_at_call 105; with_reducible refine (LI.out _).mono ?_; rintro e w2 ⟨rfl, rfl⟩))
            go_ret
            rw [HN.out]
            exact ⟨rfl, rfl⟩
    · have HF : Hid (nameB s = true) := nameB_all s (by omega) (by omega) (fun q hq => HR.out q hq (by omega))
      clear HR
      go_wp2
      go_ret
      rw [HF.out]
      exact ⟨rfl, rfl⟩
end Go.Proofs.YtfmmmhcpdinhgaaDoor
/-
  The program's within, named.
-/
namespace Go.Proofs.YtfmmmhcpdinhgaaDoor
open Go.RowKit Go.Deep PureNet Go.Maps Go.WideShapes
set_option maxRecDepth 100000

set_option maxHeartbeats 1000000 in
theorem within_ok (c : Net) (sg so : Option Addr) (cg co : Nat) (w : World) (hl : c.gates.length ≤ 65536) (ho : c.outs.length ≤ 65536) :
    Calls Tryd.prog 50 #[cirV c sg cg so co] w fun e w' => e = .returned (.bool true) ∧ Below w.heap.size w w' := by
  have h1 : (c.gates.length : Int) ≤ 65536 := by omega
  have h2 : (c.outs.length : Int) ≤ 65536 := by omega
  go_enter Tryd.func50, Tryd.ntmps50
  go_wp2
  go_ret
  exact ⟨rfl, (Below.refl _ _).alloc (Nat.le_refl _) _⟩

/-- the names of the first lines, in a map. -/
structure Nam (x W : World) (l : List Ga) (i : Nat) (D : DataW Unit) : Prop where
  own : W.ownsMap Tryd.prog 9 (plainElem Tryd.prog 3) x.heap.size i D
  size : Maps.size D = i
  tidy : Tidy D
  only : ∀ s : List UInt8, has D (.string s) = true → ∃ j g, j < i ∧ l[j]? = some g ∧ s = g.name.data.toList
  below : Below x.heap.size x W
theorem Nam.start (x : World) (l : List Ga) : Nam x (x.alloc (.map #[] 0)) l 0 (.map []) :=
  ⟨World.ownsMap_made x _ _ _, rfl, tidy_empty, fun s h => by simp [has] at h, (Below.refl _ _).alloc (Nat.le_refl _) _⟩

set_option maxHeartbeats 2000000 in
theorem named_ok (c : Net) (sg so : Option Addr) (cg co : Nat) (w : World) (hc : CellsAt w sg (gas c.gates)) (hf : PureNet.Formed c) :
    Calls Tryd.prog 51 #[cirV c sg cg so co] w fun e w' => e = .returned (.bool true) ∧ Below w.heap.size w w' := by
  have short : ∀ s : ByteArray, nameB s = true → s.size ≤ 32 := fun s h => by
    apply Classical.byContradiction
    intro hn
    rw [nameB_long s (by omega)] at h
    cases h
  have HC := hid hc
  have HF := hid hf
  have hfew := hf.few
  have NC : Hid (∀ W, Calls Tryd.prog 78 #[.string c.name] W fun e w' => e = .returned (.bool true) ∧ w' = W) := fun W => by
    have := isName_any c.name W (by have := short _ hf.name; omega)
    rw [hf.name] at this
    exact this
  have NG : Hid (∀ (i : Nat) (g : Ga), c.gates[i]? = some g → g.name.size ≤ 32 ∧ ∀ W, Calls Tryd.prog 78 #[.string g.name] W fun e w' => e = .returned (.bool true) ∧ w' = W) := fun i g hg => ⟨short _ (hf.lines i g hg).1, fun W => by
    have := isName_any g.name W (by have := short _ (hf.lines i g hg).1; omega)
    rw [(hf.lines i g hg).1] at this
    exact this⟩
  clear hc hf short
  obtain ⟨x, hx⟩ : ∃ x, x = w.alloc (Obj.cells #[Value.string c.name, Value.slice sg c.gates.length cg, Value.slice so c.outs.length co] 26) := ⟨_, rfl⟩
  have RX : Hid (x.heap[w.heap.size]? = some (.cells #[Value.string c.name, Value.slice sg c.gates.length cg, Value.slice so c.outs.length co] 26 (0, 0))) := by rw [hx]; exact heap_alloc_new w _
  have BX : Hid (Below w.heap.size w x) := by rw [hx]; exact (Below.refl _ _).alloc (Nat.le_refl _) _
  have HX := hid hx
  clear hx
  have hmm := @run_makeMap Tryd.prog
  have cx := fun j => cell_row RX.out j
  have hbx := (Array.getElem?_eq_some_iff.1 RX.out).1
  go_enter Tryd.func51, Tryd.ntmps51
  go_wp2_with (rw [← HX.out])
  obtain ⟨y, hy⟩ : ∃ y, y = x.alloc (.map #[] 0) := ⟨_, rfl⟩
  have N0 : Hid (Nam x y c.gates 0 (.map [])) := by rw [hy]; exact Nam.start x _
  try rw [← hy]
  clear hy hmm cx hbx
  go_loopw [10] (fun iv W => ∃ i : Nat, i ≤ c.gates.length ∧ iv = .int .i64 (i : Int) ∧ Hid (∃ D, Nam x W c.gates i D)) (fun iv _ => c.gates.length - (intOf iv).toNat)
  case atStart => exact ⟨0, Nat.zero_le _, rfl, _, N0.out⟩
  case round =>
    clear N0
    obtain ⟨i, hi, rfl, HR⟩ := hrel
    obtain ⟨D, hN⟩ := HR.out
    clear HR
    have hwr : Below w.heap.size w wr := BX.out.trans (hN.below.mono BX.out.size)
    have hrow := (hN.below.block _ (Array.getElem?_eq_some_iff.1 RX.out).1).trans RX.out
    have c0 := fun j => cell_row hrow j
    have hb0 := (Array.getElem?_eq_some_iff.1 hrow).1
    have NM := hid hN
    have BW := hid hwr
    by_cases hlt : i < c.gates.length
    · obtain ⟨g, hg⟩ : ∃ g, c.gates[i]? = some g := ⟨_, List.getElem?_eq_getElem hlt⟩
      obtain ⟨b, o, rfl, hb, d0, d1, d2, d3, d4, d5⟩ := gate_at (HC.out.below hwr) i g hg
      have NI := hid ((NG.out i g hg).2)
      have hsz : g.name.size ≤ maxLen := by have := (NG.out i g hg).1; unfold maxLen; omega
      have HK := hid (WideMaps.keyOf_string_mk (P := Tryd.prog) Tryd.underlying9 hsz)
      have HV : Hid (plainElem (H := Unit) Tryd.prog 3 (.int .i64 (i : Int)) = some (.lit (.int .i64 (i : Int)), [])) := plainElem_int Tryd.underlying3 (by
        have e1 : IntKind.i64.min = -9223372036854775808 := rfl
        have e2 : IntKind.i64.max = 9223372036854775807 := rfl
        simp [Lit.wf, e1, e2]
        omega)
      have HH : Hid (has D (.string g.name.data.toList) = false) := by
        show _ = _
        cases h : has D (.string g.name.data.toList) with
        | false => rfl
        | true =>
          obtain ⟨j, g2, hj, hg2, e⟩ := hN.only _ h
          have e2 : g.name = g2.name := by
            have h1 : g.name.data = g2.name.data := by
              apply Array.ext'
              exact e
            cases hgn : g.name
            cases hgn2 : g2.name
            rw [hgn, hgn2] at h1
            exact congrArg _ h1
          have := HF.out.apart i j g g2 hg hg2 e2
          omega
      have HG := hid hg
      clear hN hwr hrow hg
      go_wp2_with (first | (go_at_call 78; refine Calls.mono (NI.out _) ?_; rintro e w2 ⟨rfl, rfl⟩) | (at_mapUpdate; refine wpList_mapUpdate_own _ rfl _ _ _ 110 rfl 9 3 (string_keyed Tryd.underlying9) Tryd.underlying110 _ x.heap.size i D rfl (NM.out.own.alloc _) (by unfold maxLen; omega) _ _ (.string g.name.data.toList) rfl rfl HK.out (.lit (.int .i64 (i : Int))) [] HV.out ?_; intro w2 hown2 hg2; have OW := hid hown2; have GR := hid hg2; clear hown2 hg2))
      refine ⟨⟨i + 1, hlt, by go_num, _, OW.out, ?_, OW.out.tidy (string_keyed Tryd.underlying9), fun s hs => ?_, ?_⟩, by simp [intOf]; omega⟩
      · rw [size_put NM.out.tidy, HH.out, NM.out.size]
        rfl
      · by_cases e : (Lit.string s) = .string g.name.data.toList
        · exact ⟨i, g, by omega, HG.out, by simpa using e⟩
        · rw [has_put_other e] at hs
          obtain ⟨j, g2, hj, hg2, e2⟩ := NM.out.only s hs
          exact ⟨j, g2, by omega, hg2, e2⟩
      · exact (NM.out.below.alloc NM.out.below.size _).grown GR.out (by have := NM.out.below.size; simp; omega) (fun j hj => by cases hj; exact Nat.le_refl _)
    · have hin : i = c.gates.length := by omega
      have hlen := fun ty => hN.own.len Tryd.underlying110 ty
      rw [hN.size, hin] at hlen
      clear hN hwr hrow
      go_wp2_with (first | (go_at_call 78; refine Calls.mono (NC.out _) ?_; rintro e w2 ⟨rfl, rfl⟩))

      go_ret
      exact ⟨rfl, BW.out⟩
end Go.Proofs.YtfmmmhcpdinhgaaDoor
