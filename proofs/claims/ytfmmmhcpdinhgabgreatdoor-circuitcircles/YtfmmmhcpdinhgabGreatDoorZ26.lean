import Derived.Test.YtfmmmhcpdinhgabGreatDoorZ25
/-
  The document's Text.
-/
namespace Go.Proofs.YtfmmmhcpdinhgabGreatDoor
open Go.RowKit Go.Deep PureNet
set_option maxRecDepth 100000

theorem appG_text {ops : Array Oper} {rest : List Oper} {o : Oper} {a : Act} {Q : Exit → Act → World → Prop} {w : World} (hgd : o.guard = none) (sl x : Operand)
    (ho : o.op = .call { callee := .builtin .append, args := #[sl, x], argTypes := #[38, 9] })
    (B : Nat) (v : Value) (T D : List UInt8) (hs : a.eval sl = v) (hb : BfgKit.Own w B 5 v T) (hx : a.eval x = str D) (hlen : T.length + D.length ≤ 140737488355328) (hB : B ≤ w.heap.size)
    (h : ∀ X v' w', X = T ++ D → BfgKit.Own w' B 5 v' X → Below B w w' → wpList Tryz.prog ops Q rest (a.put o.dst v') w') : wpList Tryz.prog ops Q (o :: rest) a w := by
  obtain ⟨i, hi, hz0, hz1, hz2⟩ := info_parts info5
  obtain ⟨v', w', hr, h2, h3⟩ := BfgKit.run_own_text (P := Tryz.prog) w 38 9 o.type 5 i Tryz.underlying38 Tryz.underlying9 hi hz0 hz1 hz2 hb D hlen hB
  refine wpList_plain hgd fun K hK => ?_
  unfold Oper.wp execOp
  simp only [ho, resolve, invoke, builtin, Sem.run_bind, Sem.run_pure, Result.andThen_ok, List.map_toArray, List.map_cons, List.map_nil, hs, hx, hr]
  exact hK _ _ (h _ v' w' rfl h2 ((Below.refl B w).grown h3 hB (fun k hk => (hb.block hk).1)))
theorem appG_byte {ops : Array Oper} {rest : List Oper} {o : Oper} {a : Act} {Q : Exit → Act → World → Prop} {w0 : World} (hgd : o.guard = none) (sl x : Operand)
    (ho : o.op = .call { callee := .builtin .append, args := #[sl, x], argTypes := #[38, 38] })
    (B : Nat) (v : Value) (T : List UInt8) (d : UInt8) (dv : Int) (hdv : dv = (d.toNat : Int)) (hs : a.eval sl = v) (hb : BfgKit.Own w0 B 5 v T) (hx : a.eval x = .slice (some ⟨w0.heap.size, 0, none⟩) 1 1) (hlen : T.length + 1 ≤ 140737488355328) (hB : B ≤ w0.heap.size)
    (h : ∀ X v' w', X = T ++ [d] → BfgKit.Own w' B 5 v' X → Below B w0 w' → wpList Tryz.prog ops Q rest (a.put o.dst v') w') : wpList Tryz.prog ops Q (o :: rest) a (w0.alloc (.cells #[.int .u8 dv] 5)) := by
  subst hdv
  obtain ⟨i, hi, hz0, hz1, hz2⟩ := info_parts info5
  have hb2 : BfgKit.Own (w0.alloc (.cells #[.int .u8 d.toNat] 5)) B 5 v T := hb.kept fun g hg => Below.heap_alloc _ _ _ (hb.block hg).2
  obtain ⟨v', w', hr, h2, h3⟩ := BfgKit.run_own_bytes (P := Tryz.prog) (w0.alloc (.cells #[.int .u8 d.toNat] 5)) 38 o.type 5 i Tryz.underlying38 hi hz0 hz1 hz2 hb2 [d] ⟨w0.heap.size, 0, none⟩ 1 (fun j u hu => by rw [add_zero_addr, cell_row (heap_alloc_new w0 _)]; simpa [BfgKit.cbs] using hu) hlen (by simp; omega)
  refine wpList_plain hgd fun K hK => ?_
  unfold Oper.wp execOp
  simp only [ho, resolve, invoke, builtin, Sem.run_bind, Sem.run_pure, Result.andThen_ok, List.map_toArray, List.map_cons, List.map_nil, hs, hx]
  rw [show (1 : Nat) = [d].length from rfl] at *
  simp only [hr]
  exact hK _ _ (h _ v' w' rfl h2 (((Below.refl B w0).alloc hB _).grown h3 (by simp; omega) (fun k hk => (hb2.block hk).1)))
theorem stepG_text {ops : Array Oper} {o : Oper} {a : Act} {w : World} {K : Act → World → Prop} {Q : Exit → Act → World → Prop} {X : Prop} (hgd : o.guard = none) (sl x : Operand)
    (ho : o.op = .call { callee := .builtin .append, args := #[sl, x], argTypes := #[38, 9] })
    (B : Nat) (v : Value) (T D : List UInt8) (hs : a.eval sl = v) (hb : BfgKit.Own w B 5 v T) (hx : a.eval x = str D) (hlen : T.length + D.length ≤ 140737488355328) (hB : B ≤ w.heap.size)
    (h : ∀ X v' w', X = T ++ D → BfgKit.Own w' B 5 v' X → Below B w w' → K (a.put o.dst v') w') : if Region.wanted o (yielded ops a.tmps) = true then Oper.wp Tryz.prog o a w K Q else X := by
  have hw : Region.wanted o (yielded ops a.tmps) = true := by simp [Region.wanted, hgd]
  rw [if_pos hw]
  obtain ⟨i, hi, hz0, hz1, hz2⟩ := info_parts info5
  obtain ⟨v', w', hr, h2, h3⟩ := BfgKit.run_own_text (P := Tryz.prog) w 38 9 o.type 5 i Tryz.underlying38 Tryz.underlying9 hi hz0 hz1 hz2 hb D hlen hB
  unfold Oper.wp execOp
  simp only [ho, resolve, invoke, builtin, Sem.run_bind, Sem.run_pure, Result.andThen_ok, List.map_toArray, List.map_cons, List.map_nil, hs, hx, hr]
  exact h _ v' w' rfl h2 ((Below.refl B w).grown h3 hB (fun k hk => (hb.block hk).1))
theorem ownG_shape {w : World} {B : Nat} {v : Value} {T : List UInt8} (h : BfgKit.Own w B 5 v T) : ∃ g c, v = .slice (some ⟨g, 0, none⟩) T.length c := by
  obtain ⟨g, cap, cur, fz, hv, _⟩ := h
  exact ⟨g, cap, hv⟩
theorem ownG_text {w : World} {B : Nat} {v : Value} {T : List UInt8} (h : BfgKit.Own w B 5 v T) : (convert 38 9 v).run Tryz.prog w = .ok (str T) w := by
  obtain ⟨g, cap, cur, fz, rfl, hB, hg, hf, hc, hm, hs, ht⟩ := h
  refine run_convert_bytes_back (P := Tryz.prog) w 38 9 5 ⟨g, 0, none⟩ cap T Tryz.underlying38 Tryz.underlying5 Tryz.underlying9 (fun j hj => ?_)
  have h1 : cur.toList[j]? = (BfgKit.cbs T)[j]? := by rw [← ht, List.getElem?_take_of_lt hj]
  simp [BfgKit.cbs, List.getElem?_eq_getElem hj] at h1
  rw [add_zero_addr, cell_row hg]
  exact h1
theorem ownG_on {w W : World} {B : Nat} {v : Value} {T : List UInt8} (h : BfgKit.Own w B 5 v T) (hb : Below w.heap.size w W) : BfgKit.Own W B 5 v T := h.kept fun g hg => hb.block g (h.block hg).2

set_option maxHeartbeats 4000000 in
theorem rtext_any (T : Nat → ByteArray) (c : Net) (sg so : Option Addr) (cg co : Nat) (w : World) (hc : CirAt w c sg so) (ht : OpsAt w 0 T) (hl : ∀ (i : Nat) (g : Ga), c.gates[i]? = some g → lineB g c.gates.length = true) (ho : ∀ k ∈ c.outs, 0 ≤ k ∧ k < (c.gates.length : Int))
    (hng : c.gates.length ≤ 1099511627776) (hno : c.outs.length ≤ 1099511627776) (hlen : (textT T c).length ≤ 140737488355328) (hnm : ∀ g ∈ c.gates, g.name.size ≤ 140737488351232) (hop : ∀ k, (T k).size ≤ 140737488351232) (hcn : c.name.size ≤ 140737488351232) :
    Calls Tryz.prog 12 #[cirV c sg cg so co] w fun e w' => e = .returned (str (textT T c)) ∧ Below w.heap.size w w' := by
  have HNA : Hid (∀ k, (nmAt c k).size ≤ 140737488351232) := fun k => by
    unfold nmAt
    cases h : c.gates[k.toNat]? with
    | none => exact Nat.zero_le _
    | some g => simpa using hnm g (List.mem_of_getElem? h)
  have HNM := hid hnm
  obtain ⟨x, hx⟩ : ∃ x, x = w.alloc (Obj.cells (#[Value.string c.name, Value.slice sg c.gates.length cg, Value.slice so c.outs.length co] : Array Value) 25) := ⟨_, rfl⟩
  have sx : x.heap.size = w.heap.size + 1 := by rw [hx]; simp
  have R1 : x.heap[w.heap.size]? = some (.cells (#[Value.string c.name, Value.slice sg c.gates.length cg, Value.slice so c.outs.length co] : Array Value) 25 (0, 0)) := by rw [hx]; exact heap_alloc_new w _
  have BX : Hid (Below w.heap.size w x) := by rw [hx]; exact (Below.refl _ _).alloc (Nat.le_refl _) _
  have RS : Hid (∀ W, Below x.heap.size x W → W.heap[w.heap.size]? = some (.cells (#[Value.string c.name, Value.slice sg c.gates.length cg, Value.slice so c.outs.length co] : Array Value) 25 (0, 0))) := fun W hW => (hW.block _ (by omega)).trans R1
  have CX : Hid (∀ W, Below x.heap.size x W → CirAt W c sg so ∧ OpsAt W 0 T) := fun W hW => ⟨(hc.below BX.out).below hW, (ht.on BX.out).on hW⟩
  have WRD : Hid (∀ (W : World) (i : Nat) (g : Ga), Below x.heap.size x W → c.gates[i]? = some g → Calls Tryz.prog 23 #[cirV c sg cg so co, .agg #[.int .i64 g.kind, .string g.name, .int .i64 g.op, .int .i64 g.a, .int .i64 g.b, .int .i64 g.c]] W fun e w' => e = .returned (str (bl (wordsT T c g))) ∧ Below W.heap.size W w') := fun W i g hb hg => by
    have hlb := hl i g hg
    unfold lineB at hlb
    simp only [Bool.and_eq_true, decide_eq_true_eq] at hlb
    obtain ⟨⟨⟨⟨k1, k4, o0, o1⟩, fa⟩, fb⟩, fc⟩ := hlb
    refine rwords_any T c sg so cg co g W (CX.out W hb).1 (CX.out W hb).2 (hnm g (List.mem_of_getElem? hg)) HNA.out hop ?_ ?_ ?_ ?_
    · intro h; rw [h] at o1; simp [mostOp] at o1; omega
    · intro h; unfold fieldB at fa; rw [if_pos (by simp; omega)] at fa; simpa using fa
    · intro h; unfold fieldB at fb; rw [if_pos (by simpa using h)] at fb; simpa using fb
    · intro h; unfold fieldB at fc; rw [if_pos (by simpa using h)] at fc; simpa using fc
  have HOB := hid ho
  have HLEN := hid hlen
  have hcv := Lib.run_convert_string_bytes (P := Tryz.prog) x 9 38 5 (⟨#[99, 105, 114, 99, 117, 105, 116, 32]⟩ ++ c.name ++ ⟨#[10]⟩) Tryz.underlying9 Tryz.underlying38 Tryz.underlying5
  obtain ⟨y, hy⟩ : ∃ y, y = Lib.bytesWorld x 5 (⟨#[99, 105, 114, 99, 117, 105, 116, 32]⟩ ++ c.name ++ ⟨#[10]⟩) := ⟨_, rfl⟩
  rw [← hy] at hcv
  have hhd : (⟨#[99, 105, 114, 99, 117, 105, 116, 32]⟩ ++ c.name ++ ⟨#[10]⟩ : ByteArray).data.toList = headT c := by simp [headT]
  obtain ⟨cy, hcy⟩ : ∃ cy, cy = grownCap x (⟨#[99, 105, 114, 99, 117, 105, 116, 32]⟩ ++ c.name ++ ⟨#[10]⟩ : ByteArray).size 0 5 := ⟨_, rfl⟩
  have hsz : (⟨#[99, 105, 114, 99, 117, 105, 116, 32]⟩ ++ c.name ++ ⟨#[10]⟩ : ByteArray).size = (headT c).length := by rw [← hhd, Array.length_toList]; rfl
  have OY : Hid (BfgKit.Own y x.heap.size 5 (.slice (some ⟨x.heap.size, 0, none⟩) (headT c).length cy) (upG T c 0) ∧ Below x.heap.size x y) := by
    refine ⟨?_, by rw [hy]; exact ⟨rfl, rfl, rfl, by rw [Lib.bytesWorld_size]; omega, fun k hk => Lib.bytesWorld_at_old x 5 _ k hk⟩⟩
    have h := BfgKit.own_conv x 5 x.heap.size (⟨#[99, 105, 114, 99, 117, 105, 116, 32]⟩ ++ c.name ++ ⟨#[10]⟩) (Nat.le_refl _) (by rw [hsz]; have := upG_le T c 0; rw [upG_zero] at this; have := HLEN.out; omega)
    rw [hhd, ← hy, ← hcy, hsz] at h
    rw [upG_zero]
    exact h
  rw [← hcy, hsz] at hcv
  have q1 := fun j => cell_row R1 j
  have l1 := (Array.getElem?_eq_some_iff.1 R1).1
  have HX := hid hx
  have SX := hid sx
  clear hx hc ht R1 sx hl ho hlen hnm hhd hy hcy hsz
  go_enter Tryz.func12, Tryz.ntmps12
  go_wp2_with (rw [← HX.out])
  clear q1 l1 hcv
  go_loopw [3, 4] (fun ov iv W => ∃ i : Nat, i ≤ c.gates.length ∧ iv = .int .i64 (i : Int) ∧ Hid (BfgKit.Own W x.heap.size 5 ov (upG T c i) ∧ Below x.heap.size x W)) (fun ov iv _ => c.gates.length - (intOf iv).toNat)
  case atStart => exact ⟨0, Nat.zero_le _, rfl, OY.out⟩
  case round =>
    obtain ⟨i, hi, rfl, HR⟩ := hrel
    clear OY
    obtain ⟨vb, vc, rfl⟩ := ownG_shape HR.out.1
    have q1 := fun j => cell_row (RS.out wr HR.out.2) j
    have l1 := (Array.getElem?_eq_some_iff.1 (RS.out wr HR.out.2)).1
    by_cases hlt : i < c.gates.length
    · obtain ⟨g, hg⟩ : ∃ g, c.gates[i]? = some g := ⟨_, List.getElem?_eq_getElem hlt⟩
      obtain ⟨gb, go, rfl, hgb, -⟩ := gate_at (CX.out x (Below.refl _ _)).1.gates i g hg
      have HG := hid hg
      have KS : Hid (∀ W, Below x.heap.size x W → (fun W => W.cell? ⟨w.heap.size, 0, none⟩ = some (.string c.name) ∧ W.cell? ⟨w.heap.size, 1, none⟩ = some (.slice (some ⟨gb, go, none⟩) c.gates.length cg) ∧ W.cell? ⟨w.heap.size, 2, none⟩ = some (.slice so c.outs.length co) ∧ W.cell? ⟨gb, go + i * 6, none⟩ = some (.int .i64 g.kind) ∧ W.cell? ⟨gb, go + i * 6 + 1, none⟩ = some (.string g.name) ∧ W.cell? ⟨gb, go + i * 6 + 2, none⟩ = some (.int .i64 g.op) ∧ W.cell? ⟨gb, go + i * 6 + 3, none⟩ = some (.int .i64 g.a) ∧ W.cell? ⟨gb, go + i * 6 + 4, none⟩ = some (.int .i64 g.b) ∧ W.cell? ⟨gb, go + i * 6 + 5, none⟩ = some (.int .i64 g.c)) W) := fun W hW => by
        have r := fun j => cell_row (RS.out W hW) j
        obtain ⟨b', o', e1, _, c0, c1, c2, c3, c4, c5⟩ := gate_at (CX.out W hW).1.gates i g HG.out
        cases e1
        exact ⟨r 0, r 1, r 2, c0, c1, c2, c3, c4, c5⟩
      clear hg
      go_wp2
      clear q1 l1
      refine wp_region_noPanic ?_
      refine wp_region_held_drew (S := fun W => W.cell? ⟨w.heap.size, 0, none⟩ = some (.string c.name) ∧ W.cell? ⟨w.heap.size, 1, none⟩ = some (.slice (some ⟨gb, go, none⟩) c.gates.length cg) ∧ W.cell? ⟨w.heap.size, 2, none⟩ = some (.slice so c.outs.length co) ∧ W.cell? ⟨gb, go + i * 6, none⟩ = some (.int .i64 g.kind) ∧ W.cell? ⟨gb, go + i * 6 + 1, none⟩ = some (.string g.name) ∧ W.cell? ⟨gb, go + i * 6 + 2, none⟩ = some (.int .i64 g.op) ∧ W.cell? ⟨gb, go + i * 6 + 3, none⟩ = some (.int .i64 g.a) ∧ W.cell? ⟨gb, go + i * 6 + 4, none⟩ = some (.int .i64 g.b) ∧ W.cell? ⟨gb, go + i * 6 + 5, none⟩ = some (.int .i64 g.c)) (by kernel_rfl) (KS.out _ HR.out.2.drew) (fun hHeld => ?_)
      refine wpAnyH_take (i := 0) (v := ?_) (by simp only [List.getElem?_toArray, List.getElem?_cons_zero]; rfl) (by kernel_rfl) (by kernel_rfl) (by kernel_rfl) (fun _ _ _ h => h) (Or.inl ⟨by rfl, ?_⟩) (by assumption) ?_
      rotate_left 1
      · intro w hSw; (try dsimp only at hSw); go_simp; (try with_reducible rfl)
      try simp only [Act.put, List.setIfInBounds_toArray, List.set_cons_zero, List.set_cons_succ]
      refine wpAnyH_take (i := 1) (v := ?_) (by simp only [List.getElem?_toArray, List.getElem?_cons_succ, List.getElem?_cons_zero]; rfl) (by kernel_rfl) (by kernel_rfl) (by kernel_rfl) (fun _ _ _ h => h) (Or.inl ⟨by rfl, ?_⟩) (by assumption) ?_
      rotate_left 1
      · intro w hSw; (try dsimp only at hSw); go_simp; (try with_reducible rfl)
      try simp only [Act.put, List.setIfInBounds_toArray, List.set_cons_zero, List.set_cons_succ]
      refine wpAnyH_take (i := 2) (v := ?_) (by simp only [List.getElem?_toArray, List.getElem?_cons_succ, List.getElem?_cons_zero]; rfl) (by kernel_rfl) (by kernel_rfl) (by kernel_rfl) (fun _ _ _ h => h) (Or.inl ⟨by rfl, ?_⟩) (by assumption) ?_
      rotate_left 1
      · intro w hSw; (try dsimp only at hSw); go_simp; (try with_reducible rfl)
      try simp only [Act.put, List.setIfInBounds_toArray, List.set_cons_zero, List.set_cons_succ]
      refine wpAnyH_take (i := 3) (v := ?_) (by simp only [List.getElem?_toArray, List.getElem?_cons_succ, List.getElem?_cons_zero]; rfl) (by kernel_rfl) (by kernel_rfl) (by kernel_rfl) (fun _ _ _ h => h) (Or.inl ⟨by rfl, ?_⟩) (by assumption) ?_
      rotate_left 1
      · intro w hSw; (try dsimp only at hSw); go_simp; (try with_reducible rfl)
      try simp only [Act.put, List.setIfInBounds_toArray, List.set_cons_zero, List.set_cons_succ]
      refine wpAnyH_take (i := 4) (v := ?_) (by simp only [List.getElem?_toArray, List.getElem?_cons_succ, List.getElem?_cons_zero]; rfl) (by kernel_rfl) (by kernel_rfl) (by kernel_rfl) (fun _ _ _ h => h) (Or.inl ⟨by rfl, ?_⟩) (by assumption) ?_
      rotate_left 1
      · intro w hSw; (try dsimp only at hSw); go_simp; (try with_reducible rfl)
      try simp only [Act.put, List.setIfInBounds_toArray, List.set_cons_zero, List.set_cons_succ]
      refine wpAnyH_take (i := 5) (v := .pointer (some ⟨gb, go + i * 6, none⟩)) (by simp only [List.getElem?_toArray, List.getElem?_cons_succ, List.getElem?_cons_zero]; rfl) (by kernel_rfl) (by kernel_rfl) (by kernel_rfl) (fun _ _ _ h => h) (Or.inl ⟨by rfl, ?_⟩) (by assumption) ?_
      · intro w hSw; (try dsimp only at hSw); (try go_simp); (first | done | (intro h9; omega) | (rw [if_pos (by omega)]) | omega)
      try simp only [Act.put, List.setIfInBounds_toArray, List.set_cons_zero, List.set_cons_succ]
      refine wpAnyH_take (i := 6) (v := ?_) (by simp only [List.getElem?_toArray, List.getElem?_cons_succ, List.getElem?_cons_zero]; rfl) (by kernel_rfl) (by kernel_rfl) (by kernel_rfl) (fun _ _ _ h => h) (Or.inl ⟨by rfl, ?_⟩) (by assumption) ?_
      rotate_left 1
      · intro w hSw; (try dsimp only at hSw); go_simp; (try with_reducible rfl)
      try simp only [Act.put, List.setIfInBounds_toArray, List.set_cons_zero, List.set_cons_succ]
      refine wpAnyH_ready (rs := [7]) (by kernel_rfl) (by simp) ?_
      refine AllReadyH.cons (by simp only [List.getElem?_toArray, List.getElem?_cons_succ, List.getElem?_cons_zero]; rfl) (fun K hK => ?_) AllReadyH.nil
      go_simp
      go_at_call 23
      refine (WRD.out _ i g HR.out.2.drew HG.out).mono ?_
      rintro e w1 ⟨rfl, b1⟩
      have O1 : Hid (BfgKit.Own w1 x.heap.size 5 (.slice (some ⟨vb, 0, none⟩) (upG T c i).length vc) (upG T c i) ∧ Below x.heap.size x w1) := ⟨ownG_on HR.out.1 ((Below.refl _ _).drew.trans b1), HR.out.2.trans (((Below.refl _ _).drew.trans b1).mono HR.out.2.size)⟩
      clear b1
      clear hHeld
      refine hK.out _ _ (KS.out _ O1.out.2) (fun hHeld => ?_)
      clear hK K
      try simp only [Act.put, List.setIfInBounds_toArray, List.set_cons_zero, List.set_cons_succ]
      refine wpAnyH_ready (rs := [8]) (by kernel_rfl) (by simp) ?_
      refine AllReadyH.cons (by simp only [List.getElem?_toArray, List.getElem?_cons_succ, List.getElem?_cons_zero]; rfl) (fun K hK => ?_) AllReadyH.nil
      skip
      refine stepG_text rfl _ _ rfl x.heap.size _ (upG T c i) (bl (wordsT T c g)) rfl O1.out.1 rfl (by have h := upG_le T c (i + 1); have h2 := HLEN.out; rw [upG_step T c i g HG.out] at h; simp only [List.length_append, List.length_cons, List.length_nil] at h ⊢; omega) O1.out.2.size ?_
      intro X2 v2 w2 e2 o2 b2
      obtain ⟨vg, vcap, rfl⟩ := ownG_shape o2
      have O2 : Hid (BfgKit.Own w2 x.heap.size 5 (.slice (some ⟨vg, 0, none⟩) X2.length vcap) X2 ∧ Below x.heap.size x w2) := ⟨o2, O1.out.2.trans b2⟩
      have E2 := hid e2
      clear o2 b2 e2
      clear hHeld
      refine hK.out _ _ (KS.out _ O2.out.2) (fun hHeld => ?_)
      clear hK K
      try simp only [Act.put, List.setIfInBounds_toArray, List.set_cons_zero, List.set_cons_succ]
      refine wpAnyH_take (i := 9) (v := ?_) (by simp only [List.getElem?_toArray, List.getElem?_cons_succ, List.getElem?_cons_zero]; rfl) (by kernel_rfl) (by kernel_rfl) (by kernel_rfl) (fun _ _ _ h => h) (Or.inl ⟨by rfl, ?_⟩) (by assumption) ?_
      rotate_left 1
      · intro w hSw; (try dsimp only at hSw); go_simp; (try with_reducible rfl)
      try simp only [Act.put, List.setIfInBounds_toArray, List.set_cons_zero, List.set_cons_succ]
      refine wpAnyH_done (by kernel_rfl) ?_ _
      refine NoPanic.normal ?_
      clear hHeld KS HR O1
      go_wp2_with (at_builtin; refine appG_byte rfl _ _ rfl x.heap.size _ X2 10 10 ?a1 ?a2 O2.out.1 ?a3 ?a4 ?a5 ?_)
      case a1 => rfl
      case a2 => rfl
      case a3 => rfl
      case a4 => have h := upG_le T c (i + 1); have h2 := HLEN.out; rw [upG_step T c i g HG.out] at h; rw [E2.out]; simp only [List.length_append, List.length_cons, List.length_nil] at h ⊢; omega
      case a5 => exact O2.out.2.size
      intro X4 v4 w4 e4 o4 b4
      have E4 := hid e4
      have O4 := hid o4
      have B4 := hid b4
      clear o4 b4 e4
      go_wp2
      exact ⟨⟨i + 1, hlt, by go_num, by rw [upG_step T c i g HG.out, ← E2.out, ← E4.out]; exact O4.out, O2.out.2.trans B4.out⟩, by simp [intOf] <;> omega⟩
    · have hie : i = c.gates.length := by omega
      have HR2 : Hid (BfgKit.Own wr x.heap.size 5 (.slice (some ⟨vb, 0, none⟩) (upG T c i).length vc) (upO T c 0) ∧ Below x.heap.size x wr) := by
        have h := HR.out
        rw [← upG_full, ← hie]
        exact h
      subst hie
      clear HR
      go_wp2
      clear q1 l1
      go_loopw [3, 5] (fun ov iv W => ∃ i : Nat, i ≤ c.outs.length ∧ iv = .int .i64 (i : Int) ∧ Hid (BfgKit.Own W x.heap.size 5 ov (upO T c i) ∧ Below x.heap.size x W)) (fun ov iv _ => c.outs.length - (intOf iv).toNat)
      case atStart => exact ⟨0, Nat.zero_le _, rfl, HR2.out⟩
      case round =>
        obtain ⟨i, hi, rfl, HR⟩ := hrel
        clear HR2
        obtain ⟨vb2, vc2, rfl⟩ := ownG_shape HR.out.1
        obtain ⟨X1, hX1⟩ : ∃ X1, X1 = upO T c i := ⟨_, rfl⟩
        rw [← hX1] at HR ⊢
        have E1 := hid hX1
        clear hX1
        have q1 := fun j => cell_row (RS.out wr HR.out.2) j
        have l1 := (Array.getElem?_eq_some_iff.1 (RS.out wr HR.out.2)).1
        by_cases hlt2 : i < c.outs.length
        · obtain ⟨k, hk⟩ : ∃ k, c.outs[i]? = some k := ⟨_, List.getElem?_eq_getElem hlt2⟩
          obtain ⟨ob, oo, rfl, hob, -⟩ := num_at (CX.out x (Below.refl _ _)).1.outs i k hk
          have hkb := HOB.out k (List.mem_of_getElem? hk)
          obtain ⟨n, gb, go, rfl, hn, rfl, hgb, -⟩ := nm_at (CX.out x (Below.refl _ _)).1.gates k hkb.1 hkb.2
          have HKO := hid hk
          clear hk
          have KS : Hid (∀ W, Below x.heap.size x W → (fun W => W.cell? ⟨w.heap.size, 1, none⟩ = some (.slice (some ⟨gb, go, none⟩) c.gates.length cg) ∧ W.cell? ⟨w.heap.size, 2, none⟩ = some (.slice (some ⟨ob, oo, none⟩) c.outs.length co) ∧ W.cell? ⟨ob, oo + i, none⟩ = some (.int .i64 (n : Int)) ∧ W.cell? ⟨gb, go + n * 6 + 1, none⟩ = some (.string (nmAt c (n : Int)))) W) := fun W hW => by
            have r := fun j => cell_row (RS.out W hW) j
            obtain ⟨b', o', e1, _, c0⟩ := num_at (CX.out W hW).1.outs i (n : Int) HKO.out
            cases e1
            obtain ⟨n', b'', o'', e2, _, e3, _, c1⟩ := nm_at (CX.out W hW).1.gates (n : Int) hkb.1 hkb.2
            cases e3
            obtain rfl : n = n' := by omega
            exact ⟨r 1, r 2, c0, c1⟩
          go_wp2_with (at_builtin; refine appG_text rfl _ _ rfl x.heap.size _ X1 [111, 117, 116, 112, 117, 116, 32] rfl HR.out.1 rfl (by have h := upO_le T c (i + 1); have h2 := HLEN.out; rw [upO_step T c i (n : Int) HKO.out] at h; rw [E1.out]; simp only [List.length_append, List.length_cons, List.length_nil] at h ⊢; omega) HR.out.2.size ?_; intro X2 v2 w2 e2 o2 b2; obtain ⟨vg, vcap, rfl⟩ := ownG_shape o2; have E2 := hid (e2.trans (by rw [E1.out])); have O2 := hid (show BfgKit.Own w2 x.heap.size 5 (.slice (some ⟨vg, 0, none⟩) X2.length vcap) X2 ∧ Below x.heap.size x w2 from ⟨o2, HR.out.2.trans b2⟩); clear o2 b2 e2)
          clear q1 l1
          refine wp_region_noPanic ?_
          refine wp_region_held_drew (S := fun W => W.cell? ⟨w.heap.size, 1, none⟩ = some (.slice (some ⟨gb, go, none⟩) c.gates.length cg) ∧ W.cell? ⟨w.heap.size, 2, none⟩ = some (.slice (some ⟨ob, oo, none⟩) c.outs.length co) ∧ W.cell? ⟨ob, oo + i, none⟩ = some (.int .i64 (n : Int)) ∧ W.cell? ⟨gb, go + n * 6 + 1, none⟩ = some (.string (nmAt c (n : Int)))) (by kernel_rfl) (KS.out _ O2.out.2.drew) (fun hHeld => ?_)
          refine wpAnyH_take (i := 0) (v := ?_) (by simp only [List.getElem?_toArray, List.getElem?_cons_zero]; rfl) (by kernel_rfl) (by kernel_rfl) (by kernel_rfl) (fun _ _ _ h => h) (Or.inl ⟨by rfl, ?_⟩) (by assumption) ?_
          rotate_left 1
          · intro w hSw; (try dsimp only at hSw); go_simp; (try with_reducible rfl)
          try simp only [Act.put, List.setIfInBounds_toArray, List.set_cons_zero, List.set_cons_succ]
          refine wpAnyH_take (i := 1) (v := ?_) (by simp only [List.getElem?_toArray, List.getElem?_cons_succ, List.getElem?_cons_zero]; rfl) (by kernel_rfl) (by kernel_rfl) (by kernel_rfl) (fun _ _ _ h => h) (Or.inl ⟨by rfl, ?_⟩) (by assumption) ?_
          rotate_left 1
          · intro w hSw; (try dsimp only at hSw); go_simp; (try with_reducible rfl)
          try simp only [Act.put, List.setIfInBounds_toArray, List.set_cons_zero, List.set_cons_succ]
          refine wpAnyH_take (i := 2) (v := ?_) (by simp only [List.getElem?_toArray, List.getElem?_cons_succ, List.getElem?_cons_zero]; rfl) (by kernel_rfl) (by kernel_rfl) (by kernel_rfl) (fun _ _ _ h => h) (Or.inl ⟨by rfl, ?_⟩) (by assumption) ?_
          rotate_left 1
          · intro w hSw; (try dsimp only at hSw); go_simp; (try with_reducible rfl)
          try simp only [Act.put, List.setIfInBounds_toArray, List.set_cons_zero, List.set_cons_succ]
          refine wpAnyH_take (i := 3) (v := ?_) (by simp only [List.getElem?_toArray, List.getElem?_cons_succ, List.getElem?_cons_zero]; rfl) (by kernel_rfl) (by kernel_rfl) (by kernel_rfl) (fun _ _ _ h => h) (Or.inl ⟨by rfl, ?_⟩) (by assumption) ?_
          rotate_left 1
          · intro w hSw; (try dsimp only at hSw); go_simp; (try with_reducible rfl)
          try simp only [Act.put, List.setIfInBounds_toArray, List.set_cons_zero, List.set_cons_succ]
          refine wpAnyH_take (i := 4) (v := ?_) (by simp only [List.getElem?_toArray, List.getElem?_cons_succ, List.getElem?_cons_zero]; rfl) (by kernel_rfl) (by kernel_rfl) (by kernel_rfl) (fun _ _ _ h => h) (Or.inl ⟨by rfl, ?_⟩) (by assumption) ?_
          rotate_left 1
          · intro w hSw; (try dsimp only at hSw); go_simp; (try with_reducible rfl)
          try simp only [Act.put, List.setIfInBounds_toArray, List.set_cons_zero, List.set_cons_succ]
          refine wpAnyH_take (i := 5) (v := ?_) (by simp only [List.getElem?_toArray, List.getElem?_cons_succ, List.getElem?_cons_zero]; rfl) (by kernel_rfl) (by kernel_rfl) (by kernel_rfl) (fun _ _ _ h => h) (Or.inl ⟨by rfl, ?_⟩) (by assumption) ?_
          rotate_left 1
          · intro w hSw; (try dsimp only at hSw); go_simp; (try with_reducible rfl)
          try simp only [Act.put, List.setIfInBounds_toArray, List.set_cons_zero, List.set_cons_succ]
          refine wpAnyH_take (i := 6) (v := .pointer (some ⟨ob, oo + i, none⟩)) (by simp only [List.getElem?_toArray, List.getElem?_cons_succ, List.getElem?_cons_zero]; rfl) (by kernel_rfl) (by kernel_rfl) (by kernel_rfl) (fun _ _ _ h => h) (Or.inl ⟨by rfl, ?_⟩) (by assumption) ?_
          · intro w hSw; (try dsimp only at hSw); (try go_simp); (first | done | (intro h9; omega) | (rw [if_pos (by omega)]) | omega)
          try simp only [Act.put, List.setIfInBounds_toArray, List.set_cons_zero, List.set_cons_succ]
          refine wpAnyH_take (i := 7) (v := ?_) (by simp only [List.getElem?_toArray, List.getElem?_cons_succ, List.getElem?_cons_zero]; rfl) (by kernel_rfl) (by kernel_rfl) (by kernel_rfl) (fun _ _ _ h => h) (Or.inl ⟨by rfl, ?_⟩) (by assumption) ?_
          rotate_left 1
          · intro w hSw; (try dsimp only at hSw); go_simp; (try with_reducible rfl)
          try simp only [Act.put, List.setIfInBounds_toArray, List.set_cons_zero, List.set_cons_succ]
          refine wpAnyH_take (i := 8) (v := .pointer (some ⟨gb, go + n * 6, none⟩)) (by simp only [List.getElem?_toArray, List.getElem?_cons_succ, List.getElem?_cons_zero]; rfl) (by kernel_rfl) (by kernel_rfl) (by kernel_rfl) (fun _ _ _ h => h) (Or.inl ⟨by rfl, ?_⟩) (by assumption) ?_
          · intro w hSw; (try dsimp only at hSw); (try go_simp); (first | done | (intro h9; omega) | (rw [if_pos (by omega)]) | omega)
          try simp only [Act.put, List.setIfInBounds_toArray, List.set_cons_zero, List.set_cons_succ]
          refine wpAnyH_take (i := 9) (v := ?_) (by simp only [List.getElem?_toArray, List.getElem?_cons_succ, List.getElem?_cons_zero]; rfl) (by kernel_rfl) (by kernel_rfl) (by kernel_rfl) (fun _ _ _ h => h) (Or.inl ⟨by rfl, ?_⟩) (by assumption) ?_
          rotate_left 1
          · intro w hSw; (try dsimp only at hSw); go_simp; (try with_reducible rfl)
          try simp only [Act.put, List.setIfInBounds_toArray, List.set_cons_zero, List.set_cons_succ]
          refine wpAnyH_take (i := 10) (v := ?_) (by simp only [List.getElem?_toArray, List.getElem?_cons_succ, List.getElem?_cons_zero]; rfl) (by kernel_rfl) (by kernel_rfl) (by kernel_rfl) (fun _ _ _ h => h) (Or.inl ⟨by rfl, ?_⟩) (by assumption) ?_
          rotate_left 1
          · intro w hSw; (try dsimp only at hSw); go_simp; (try with_reducible rfl)
          try simp only [Act.put, List.setIfInBounds_toArray, List.set_cons_zero, List.set_cons_succ]
          refine wpAnyH_ready (rs := [11]) (by kernel_rfl) (by simp) ?_
          refine AllReadyH.cons (by simp only [List.getElem?_toArray, List.getElem?_cons_succ, List.getElem?_cons_zero]; rfl) (fun K hK => ?_) AllReadyH.nil
          skip
          refine stepG_text rfl _ _ rfl x.heap.size _ X2 (bl (nmAt c (n : Int))) rfl (ownG_on O2.out.1 (Below.refl _ _).drew) rfl (by have h := upO_le T c (i + 1); have h2 := HLEN.out; rw [upO_step T c i (n : Int) HKO.out] at h; rw [E2.out]; simp only [List.length_append, List.length_cons, List.length_nil] at h ⊢; omega) O2.out.2.drew.size ?_
          intro X3 v3 w3 e3 o3 b3
          obtain ⟨vg3, vcap3, rfl⟩ := ownG_shape o3
          have O3 : Hid (BfgKit.Own w3 x.heap.size 5 (.slice (some ⟨vg3, 0, none⟩) X3.length vcap3) X3 ∧ Below x.heap.size x w3) := ⟨o3, O2.out.2.drew.trans b3⟩
          have E3 := hid e3
          clear o3 b3 e3
          clear hHeld
          refine hK.out _ _ (KS.out _ O3.out.2) (fun hHeld => ?_)
          clear hK K
          try simp only [Act.put, List.setIfInBounds_toArray, List.set_cons_zero, List.set_cons_succ]
          refine wpAnyH_take (i := 12) (v := ?_) (by simp only [List.getElem?_toArray, List.getElem?_cons_succ, List.getElem?_cons_zero]; rfl) (by kernel_rfl) (by kernel_rfl) (by kernel_rfl) (fun _ _ _ h => h) (Or.inl ⟨by rfl, ?_⟩) (by assumption) ?_
          rotate_left 1
          · intro w hSw; (try dsimp only at hSw); go_simp; (try with_reducible rfl)
          try simp only [Act.put, List.setIfInBounds_toArray, List.set_cons_zero, List.set_cons_succ]
          refine wpAnyH_done (by kernel_rfl) ?_ _
          refine NoPanic.normal ?_
          clear hHeld KS HR
          go_wp2_with (at_builtin; refine appG_byte rfl _ _ rfl x.heap.size _ X3 10 10 ?a1 ?a2 O3.out.1 ?a3 ?a4 ?a5 ?_)
          case a1 => rfl
          case a2 => rfl
          case a3 => rfl
          case a4 => have h := upO_le T c (i + 1); have h2 := HLEN.out; rw [upO_step T c i (n : Int) HKO.out] at h; rw [E3.out, E2.out]; simp only [List.length_append, List.length_cons, List.length_nil] at h ⊢; omega
          case a5 => exact O3.out.2.size
          intro X4 v4 w4 e4 o4 b4
          have E4 := hid e4
          have O4 := hid o4
          have B4 := hid b4
          clear o4 b4 e4
          go_wp2
          exact ⟨⟨i + 1, hlt2, by go_num, by rw [upO_step T c i (n : Int) HKO.out, show upO T c i ++ ([111, 117, 116, 112, 117, 116, 32] ++ bl (nmAt c (n : Int))) ++ [10] = X4 by rw [E4.out, E3.out, E2.out]; simp]; exact O4.out, O3.out.2.trans B4.out⟩, by simp [intOf] <;> omega⟩
        · have hie2 : i = c.outs.length := by omega
          have htx := ownG_text HR.out.1
          have hE : X1 ++ [101, 110, 100, 10] = textT T c := by rw [E1.out, hie2, upO_full]
          have HE := hid hE
          have hx1 : X1.length ≤ 140737488355328 := by have := congrArg List.length hE; have := HLEN.out; simp only [List.length_append] at *; omega
          have HBW : Hid (Below w.heap.size w wr) := BX.out.trans (HR.out.2.mono (by have := SX.out; omega))
          clear hE
          go_wp2
          go_ret
          exact ⟨by rw [← HE.out]; first | rfl | simp, HBW.out⟩
end Go.Proofs.YtfmmmhcpdinhgabGreatDoor
/-
  CircuitCircles: what its walk needs.
-/
namespace Go.Proofs.YtfmmmhcpdinhgabGreatDoor
open Go.RowKit Go.Deep PureNet PureRd ShfKit
set_option maxRecDepth 100000

theorem lean_cir (c : Net) (x y : Nat) (sg so : Option Addr) (cg co : Nat) : cirV (leanTo c x y) sg cg so co = cirV c sg cg so co := by
  unfold cirV
  rw [lean_len]
  rfl
theorem lean_gas (c : Net) (x y : Nat) (m : Nat) (hx : x < c.gates.length) (hm : m ≠ x * 6 + 3) : (gas (leanTo c x y).gates)[m]? = (gas c.gates)[m]? := by
  by_cases hl : m < c.gates.length * 6
  · obtain ⟨k, j, hj, rfl⟩ : ∃ k j, j < 6 ∧ m = k * 6 + j := ⟨m / 6, m % 6, Nat.mod_lt _ (by decide), by omega⟩
    have hk : k < c.gates.length := by omega
    have hk2 : k < (leanTo c x y).gates.length := by rw [lean_len]; exact hk
    rw [gas_at _ k j hk2 hj, gas_at _ k j hk hj]
    have h1 : (leanTo c x y).gates[k]? = some (leanTo c x y).gates[k] := List.getElem?_eq_getElem hk2
    by_cases e : k = x
    · subst e
      rw [lean_same (List.getElem?_eq_getElem hk)] at h1
      rw [← Option.some.inj h1]
      have : j ≠ 3 := fun e => hm (by rw [e])
      unfold ga
      rcases (show j = 0 ∨ j = 1 ∨ j = 2 ∨ j = 4 ∨ j = 5 by omega) with rfl | rfl | rfl | rfl | rfl <;> rfl
    · rw [lean_other e, List.getElem?_eq_getElem hk] at h1
      rw [← Option.some.inj h1]
  · rw [List.getElem?_eq_none (by rw [gas_length, lean_len]; omega), List.getElem?_eq_none (by rw [gas_length]; omega)]
/-- the gates' row is written over at one line's first field. -/
theorem cells_lean {W : World} {c : Net} {x y b o : Nat} (h : CellsAt W (some ⟨b, o, none⟩) (gas c.gates)) (hx : x < c.gates.length) : CellsAt (W.setCell ⟨b, o + (x * 6 + 3), none⟩ (.int .i64 (y : Int))) (some ⟨b, o, none⟩) (gas (leanTo c x y).gates) := by
  refine ⟨fun k v hv => ?_⟩
  have hk : k < c.gates.length * 6 := by
    have := (List.getElem?_eq_some_iff.1 hv).1
    rw [gas_length, lean_len] at this
    exact this
  obtain ⟨g, o', e, hg, hc⟩ := h.at_ k ((gas c.gates)[k]'(by rw [gas_length]; exact hk)) (List.getElem?_eq_getElem _)
  obtain ⟨rfl, rfl⟩ : g = b ∧ o' = o := by
    have := Option.some.inj e
    simp only [Addr.mk.injEq] at this
    exact ⟨this.1.symm, this.2.1.symm⟩
  refine ⟨g, o', rfl, by simpa using hg, ?_⟩
  by_cases e3 : k = x * 6 + 3
  · subst e3
    have hxl : x < (leanTo c x y).gates.length := by rw [lean_len]; exact hx
    rw [gas_at _ x 3 hxl (by omega)] at hv
    have h1 : (leanTo c x y).gates[x]? = some (leanTo c x y).gates[x] := List.getElem?_eq_getElem hxl
    rw [lean_same (List.getElem?_eq_getElem hx)] at h1
    rw [← Option.some.inj h1] at hv
    have hv2 : v = .int .i64 (y : Int) := by
      have : some (Value.int .i64 (y : Int)) = some v := hv
      exact (Option.some.inj this).symm
    rw [hv2]
    exact World.cell?_setCell_same _ _ _ hc
  · rw [lean_gas c x y k hx e3] at hv
    rw [List.getElem?_eq_getElem (by rw [gas_length]; exact hk)] at hv
    rw [← Option.some.inj hv, ← hc]
    exact World.cell?_setCell_other _ _ _ _ (fun e => e3 (by simp only [Addr.mk.injEq] at e; omega))
/-- rows of other blocks stay. -/
theorem cells_aside {W : World} {s : Option Addr} {xs : List Value} {b i : Nat} {v : Value} (h : CellsAt W s xs) (hs : ∀ g o, s = some ⟨g, o, none⟩ → g ≠ b) : CellsAt (W.setCell ⟨b, i, none⟩ v) s xs := ⟨fun k x hx => by
  obtain ⟨g, o, e, hg, hc⟩ := h.at_ k x hx
  refine ⟨g, o, e, by simpa using hg, ?_⟩
  rw [← hc]
  simp only [World.cell?]
  rw [set_ne (fun e2 => hs g o e e2.symm)]⟩
end Go.Proofs.YtfmmmhcpdinhgabGreatDoor
/-
  CircuitCircles: the calls behind the write.
-/
namespace Go.Proofs.YtfmmmhcpdinhgabGreatDoor
open Go.RowKit Go.Deep PureNet PureRd ShfKit
set_option maxRecDepth 100000

theorem nm_le {c : Net} (h : Named c) (k : Int) : (bl (nmAt c k)).length ≤ 32 := by
  unfold nmAt
  cases hg : c.gates[k.toNat]? with
  | none => simp [bl]
  | some g => exact name_size (h.lines _ g hg).1
theorem words_leN {T : Nat → ByteArray} {c : Net} (h : Named c) (hT : ∀ k, (bl (T k)).length ≤ 16) (g : Ga) (hg : nameB g.name = true) : (bl (wordsT T c g)).length ≤ 200 := by
  have h1 := name_size hg
  have ha := nm_le h g.a
  have hb := nm_le h g.b
  have hc := nm_le h g.c
  have ht := hT g.op.toNat
  simp only [bl] at h1 ha hb hc ht
  unfold wordsT
  by_cases h2 : g.kind = 2
  · simp [h2, bl] at h1 ha hb hc ht ⊢
    omega
  · by_cases h3 : g.kind = 3
    · by_cases h4 : g.op = 1
      · simp [h3, h4, bl] at h1 ha hb hc ht ⊢
        omega
      · simp [h3, h4, bl] at h1 ha hb hc ht ⊢
        omega
    · by_cases h4 : g.kind = 4
      · simp [h4, bl] at h1 ha hb hc ht ⊢
        omega
      · simp [h2, h3, h4, bl] at h1 ha hb hc ht ⊢
        omega
theorem text_leN {T : Nat → List UInt8} {c : Net} (h : Named c) (hT : TabOk T) (hg : c.gates.length ≤ 200) (ho : c.outs.length ≤ 200) : (textT (tbOf T) c).length ≤ 60000 := by
  have hs : ∀ k, (bl (tbOf T k)).length ≤ 16 := fun k => hT.small k
  have h1 := flat_le (lineT (tbOf T) c) 201 c.gates (fun g hg => by
    obtain ⟨i, hi⟩ := List.getElem?_of_mem hg
    have := words_leN h hs g (h.lines i g hi).1
    simp only [lineT, List.length_append, List.length_cons, List.length_nil]
    omega)
  have h2 := flat_le (outT c) 40 c.outs (fun k _ => by
    have := nm_le h k
    simp only [outT, List.length_append, List.length_cons, List.length_nil]
    omega)
  have h3 := name_size h.name
  unfold textT headT
  simp only [List.length_append, List.length_cons, List.length_nil]
  omega
theorem named_sizes {c : Net} (h : Named c) : c.name.size ≤ 140737488351232 ∧ ∀ g ∈ c.gates, g.name.size ≤ 140737488351232 := by
  refine ⟨?_, fun g hg => ?_⟩
  · have := name_size h.name
    simp [bl] at this
    omega
  · obtain ⟨i, hi⟩ := List.getElem?_of_mem hg
    have := name_size (h.lines i g hi).1
    simp [bl] at this
    omega
/-- behind the write: the box and the calls. -/
structure LV (T : Nat → List UInt8) (c : Net) (x y gb cg : Nat) (so : Option Addr) (co bx : Nat) (V : World) : Prop where
  box : ∀ W, Below V.heap.size V W → (∀ j, W.cell? ⟨bx, j, none⟩ = (#[.string c.name, .slice (some ⟨gb, 0, none⟩) c.gates.length cg, .slice so c.outs.length co] : Array Value)[j]?) ∧ bx < W.heap.size
  text : ∀ W, Below V.heap.size V W → Calls Tryz.prog 12 #[cirV c (some ⟨gb, 0, none⟩) cg so co] W fun e w' => e = .returned (str (textT (tbOf T) (leanTo c x y))) ∧ Below V.heap.size V w'
  formed : ∀ W (b : Bool), Below V.heap.size V W → (b = true ↔ PureNet.Formed (leanTo c x y)) → Calls Tryz.prog 7 #[cirV c (some ⟨gb, 0, none⟩) cg so co] W fun e w' => e = .returned (.bool b) ∧ Below W.heap.size W w'
  print : ∀ W, Below V.heap.size V W → ¬ PureNet.Formed (leanTo c x y) → Calls Tryz.prog 6 #[cirV c (some ⟨gb, 0, none⟩) cg so co] W fun e w' => e = .returned (.tuple #[str [], .int .i64 144]) ∧ Below W.heap.size W w'
  circle : ∀ W, Below V.heap.size V W → (x = y ∨ PureNet.Way c.gates y x) → Calls Tryz.prog 8 #[str (textT (tbOf T) (leanTo c x y))] W fun e w' => e = .returned (.tuple #[.agg #[.string ⟨#[]⟩, .slice none 0 0, .slice none 0 0], .agg #[.int .i64 143, .int .i64 ((x : Int) + 2), .int .i64 6]]) ∧ Below W.heap.size W w'
  good : ∀ W, Below V.heap.size V W → ¬ (x = y ∨ PureNet.Way c.gates y x) → Calls Tryz.prog 8 #[str (textT (tbOf T) (leanTo c x y))] W fun e w' => (∃ sg2 cg2 so2 co2, e = .returned (.tuple #[cirV (leanTo c x y) sg2 cg2 so2 co2, .agg #[.int .i64 0, .int .i64 0, .int .i64 0]])) ∧ Below W.heap.size W w'
theorem lv_of {T : Nat → List UInt8} (hT : TabOk T) {c : Net} {x y gb cg : Nat} {so : Option Addr} {co bx : Nat} {g : Ga} {w W : World} {cur : Array Value} (hm : Made c) (hg : c.gates[x]? = some g) (hk : g.kind = 2) (hy : y < c.gates.length) (hso : ∀ g o, so = some ⟨g, o, none⟩ → g ≠ gb) (hgb : w.heap.size ≤ gb) (hbx : gb ≠ bx)
    (hc : CirAt W c (some ⟨gb, 0, none⟩) so) (hr : W.heap[bx]? = some (Obj.cells #[.string c.name, .slice (some ⟨gb, 0, none⟩) c.gates.length cg, .slice so c.outs.length co] 25)) (hbw : Below w.heap.size w W) (hkd : KindsAt w) (hkw : KwAt w) (hops : OpsT w T) (hop0 : OpsAt w 0 (tbOf T)) (_hcur : W.heap[gb]? = some (.cells cur 42 (0, 0))) :
    LV T c x y gb cg so co bx (W.setCell ⟨gb, x * 6 + 3, none⟩ (.int .i64 (y : Int))) ∧ Below w.heap.size w (W.setCell ⟨gb, x * 6 + 3, none⟩ (.int .i64 (y : Int))) := by
  have hx : x < c.gates.length := (List.getElem?_eq_some_iff.1 hg).1
  obtain ⟨V, hV⟩ : ∃ V, V = W.setCell ⟨gb, x * 6 + 3, none⟩ (.int .i64 (y : Int)) := ⟨_, rfl⟩
  have hcv : CirAt V (leanTo c x y) (some ⟨gb, 0, none⟩) so := by
    rw [hV]
    refine ⟨?_, cells_aside hc.outs hso⟩
    have := cells_lean (y := y) hc.gates hx
    rwa [Nat.zero_add] at this
  have hrv : V.heap[bx]? = some (Obj.cells #[.string c.name, .slice (some ⟨gb, 0, none⟩) c.gates.length cg, .slice so c.outs.length co] 25) := by rw [hV, set_ne hbx]; exact hr
  have hbv : Below w.heap.size w V := by rw [hV]; exact hbw.setCell hgb _
  have hn := lean_named (named_of hm.formed) hg hk hy
  have hz := named_sizes hn
  have hfew : (leanTo c x y).gates.length ≤ 200 := by rw [lean_len]; exact hm.few
  have hfo : (leanTo c x y).outs.length ≤ 200 := hm.fewOuts
  have htl := text_leN hn hT hfew hfo
  rw [← hV]
  refine ⟨⟨fun W' hW => ?_, fun W' hW => ?_, fun W' b hW hb => ?_, fun W' hW hf => ?_, fun W' hW hl => ?_, fun W' hW hl => ?_⟩, hbv⟩
  · have h2 := (hW.block _ (Array.getElem?_eq_some_iff.1 hrv).1).trans hrv
    exact ⟨fun j => cell_row h2 j, (Array.getElem?_eq_some_iff.1 h2).1⟩
  · have hb := hbv.trans (hW.mono hbv.size)
    rw [← lean_cir c x y]
    exact (rtext_any (tbOf T) (leanTo c x y) _ so cg co W' (hcv.below hW) (hop0.on hb) (fun i g hg => (hn.lines i g hg).2) hn.outs (by omega) (by omega) (by omega) hz.2 (fun k => by have := hT.small k; show (T k).length ≤ _; omega) hz.1).mono fun e w' ⟨h1, h2⟩ => ⟨h1, hW.trans (h2.mono hW.size)⟩
  · have hb2 := hbv.trans (hW.mono hbv.size)
    rw [← lean_cir c x y]
    refine (formed_gen (leanTo c x y) _ so cg co W' (hcv.below hW) (hkd.on hb2) hz.1 hz.2 (by omega) (by omega)).mono fun e w' ⟨⟨b', h1, h3⟩, h2⟩ => ⟨?_, h2⟩
    have : b' = b := by cases b <;> cases b' <;> simp_all
    rw [h1, this]
  · have hb2 := hbv.trans (hW.mono hbv.size)
    rw [← lean_cir c x y]
    exact print_any (tbOf T) (fun k => hT.small k) (leanTo c x y) _ so cg co W' (hcv.below hW) (hkd.on hb2) (hkw.on hkd.pos hb2) (ops_at (hops.on hb2 hops.pos)) hz.1 hz.2 (by omega) (by omega) [] 144 (.inl ⟨hf, rfl, rfl⟩)
  · have hb2 := hbv.trans (hW.mono hbv.size)
    have := parse_circle hT hm hg hk hy hl (by omega) W' (hops.on hb2 hops.pos) (hkd.on hb2)
    rw [show ((x + 2 : Nat) : Int) = (x : Int) + 2 by omega] at this
    exact this
  · have hb2 := hbv.trans (hW.mono hbv.size)
    exact (parse_back (lean_formed hm hg hk hy hl) hT _ (Resp.refl _) (by omega) W' (hops.on hb2 hops.pos) (hkd.on hb2)).mono fun e w' ⟨⟨sg2, cg2, so2, co2, h1, _⟩, h2⟩ => ⟨⟨sg2, cg2, so2, co2, h1⟩, h2⟩
end Go.Proofs.YtfmmmhcpdinhgabGreatDoor
