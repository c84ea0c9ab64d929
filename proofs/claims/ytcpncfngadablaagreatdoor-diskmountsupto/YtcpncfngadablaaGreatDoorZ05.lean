import Derived.ProofKit
import Derived.Deep.Slices
import Derived.Test.YtcpncfngadablaaGreatDoorZ04
namespace Go.Proofs.YtcpncfngadablaaGreatDoor
open Go.RowKit Go.Deep

theorem Tryz.info9 : (Tryz.prog.info? 9).map (fun i => (i.zero, i.size, i.bytes)) = some (some (.string ⟨#[]⟩), 1, 16) := by kernel_rfl

section
variable {w w' : World} {E : Nat → Addr} {lo p mf mt : Nat} {D : DiskC}

theorem enc_one (ss : List (List UInt8)) : ∀ u ∈ ss.map encStr, u.oneCell' = true := by
  intro u hu
  obtain ⟨x, _, rfl⟩ := List.mem_map.1 hu
  rfl

/-- 'append([]string(nil), s...)'. -/
theorem run_append_names (ty : TypeId) (w : World) {base n : Nat} {v : Value} {ss : List (List UInt8)} (h : w.ownsRow base 9 1 v n (ss.map encStr)) (hn : n ≤ 1099511627776) :
    ∃ v' w', (Builtin.append_ #[32, 32] ty #[.slice none 0 0, v]).run Tryz.prog w = .ok v' w' ∧ w'.ownsRow w.heap.size 9 1 v' n (ss.map encStr) ∧ Below w.heap.size w w' := by
  obtain ⟨i, hi, hz0, hz1, hz2⟩ := info_parts Tryz.info9
  rcases h.2 with ⟨rfl, rfl⟩ | ⟨g, cap, cur, rfl, hb, hg, hc, hcm, hcs, ht⟩
  · have hs : ss = [] := List.eq_nil_of_length_eq_zero (by simpa using h.1)
    subst hs
    refine ⟨.slice none 0 0, w, ?_, World.ownsRow_nil _ _ _ _, Below.refl _ _⟩
    simp [Builtin.append_, run_underlying Tryz.underlying32, sizeOf, typeInfo, hi, Builtin.lenOf, Builtin.firstCells]
  · obtain ⟨v', w', hr, ho, hgr, _⟩ := run_append_own (P := Tryz.prog) w w.heap.size 32 ty 9 i _ 1 16 Tryz.underlying32 hi hz0 hz1 hz2 rfl (by decide) (.slice none 0 0) 0 [] (World.ownsRow_nil _ _ _ _) ⟨g, 0, none⟩ n cap (ss.map encStr) h.1 (fun j u hu => h.cells (g := g) rfl j u hu) (enc_one ss) (by unfold maxLen; omega) (by omega) (Nat.le_refl _)
    refine ⟨v', w', hr, ?_, (Below.refl _ w).grown hgr (Nat.le_refl _) (by simp [Value.ownBlock])⟩
    simpa using ho

theorem wpList_append_two (w : World) {ops : Array Oper} {rest : List Oper} {o : Oper} {a : Act} {Q : Exit → Act → World → Prop} (hgd : o.guard = none) (s x : Operand)
    (hop : o.op = Op.call { callee := Callee.builtin Builtin.append, args := #[s, x], argTypes := #[32, 32] })
    (base : Nat) (v : Value) (n : Nat) (xs : List Value) (ad : Addr) (t : ByteArray) (hs : a.eval s = v) (hx : a.eval x = .slice (some ad) 2 2) (hown : w.ownsRow base 9 1 v n xs) (hu : ∀ i, i < 2 → w.cell? (ad.add i) = some (.string t)) (hn : n ≤ 1099511627776) (hb : base ≤ w.heap.size)
    (hK : ∀ v' w', w.grownBy w' v.ownBlock → wpList Tryz.prog ops Q rest (a.put o.dst v') w') : wpList Tryz.prog ops Q (o :: rest) a w := by
  refine wpList_plain hgd fun K' hK' => ?_
  obtain ⟨i, hi, hz0, hz1, hz2⟩ := info_parts Tryz.info9
  have hnews : ∀ j u, [Value.string t, Value.string t][j]? = some u → w.cell? (ad.add j) = some u := by
    intro j u hu'
    match j, hu' with
    | 0, e => simp at e; rw [← e]; exact hu 0 (by omega)
    | 1, e => simp at e; rw [← e]; exact hu 1 (by omega)
  obtain ⟨v', w', hrun, _, hg, _⟩ := run_append_own (P := Tryz.prog) w base 32 o.type 9 i _ 1 16 Tryz.underlying32 hi hz0 hz1 hz2 rfl (by decide) v n _ hown ad 2 2 [.string t, .string t] rfl hnews (by simp [Value.oneCell']) (by unfold maxLen; omega) (by omega) hb
  unfold Oper.wp
  simp [execOp, hop, resolve, invoke, builtin, hs, hx, hrun, Result.andThen]
  exact hK' _ _ (hK v' w' hg)

/-- a row of one's own, one cell of it written. -/
theorem owns_set {base e n k g cap : Nat} {xs : List Value} (h : w.ownsRow base e 1 (.slice (some ⟨g, 0, none⟩) n cap) n xs) (u : Value) : ∃ xs', (w.setCell ⟨g, k, none⟩ u).ownsRow base e 1 (.slice (some ⟨g, 0, none⟩) n cap) n xs' := by
  rcases h.2 with ⟨e, _⟩ | ⟨g', cap', cur, e, hb, hg, hc, hcm, hcs, ht⟩
  · simp at e
  · simp only [Value.slice.injEq, Option.some.injEq, Addr.mk.injEq] at e
    obtain ⟨⟨rfl, _⟩, _, rfl⟩ := e
    exact ⟨_, ⟨by simp; omega, .inr ⟨g, cap, _, rfl, hb, heap_setCell_row hg k u, hc, hcm, by simpa using hcs, rfl⟩⟩⟩

theorem owns_at {base e n k g cap : Nat} {xs : List Value} (h : w.ownsRow base e 1 (.slice (some ⟨g, 0, none⟩) n cap) n xs) (hk : k < n) : ∃ u, w.cell? ⟨g, k, none⟩ = some u ∧ w.frozen? ⟨g, k, none⟩ = false := by
  rcases h.2 with ⟨e, _⟩ | ⟨g', cap', cur, e, hb, hg, hc, hcm, hcs, ht⟩
  · simp at e
  · simp only [Value.slice.injEq, Option.some.injEq, Addr.mk.injEq] at e
    obtain ⟨⟨rfl, _⟩, _, rfl⟩ := e
    exact ⟨cur[k]'(by omega), by rw [cell_row hg k]; exact Array.getElem?_eq_getElem (by omega), unfrozen_row hg k⟩

theorem owns_form {base e n : Nat} {v : Value} {xs : List Value} (h : w.ownsRow base e 1 v n xs) : ∃ sd cd, v = .slice sd n cd ∧ n ≤ cd ∧ (0 < n → ∃ g, sd = some ⟨g, 0, none⟩) := by
  rcases h.2 with ⟨e, e2⟩ | ⟨g, cap, _, e, _, _, hc, _⟩
  · exact ⟨none, 0, by rw [e, e2], by omega, by omega⟩
  · exact ⟨_, _, e, hc, fun _ => ⟨g, rfl⟩⟩

theorem prog7_rows {W w1 w2 w3 w4 : World} {h L : Nat} {v y : Value} {d : List Value} {o : Obj} (r1 : w1.heap[h + 1]? = some (.cells zeroT 36 (0, 0))) (r2 : w1.heap[h + 1 + 1]? = some (.cells zeroT 36 (0, 0))) (ho : w1.ownsRow W.heap.size 9 1 v L d) (hz : W.heap.size = h + 3) (t12 : Touch [] w1 w2)
    (t3 : Touch v.ownBlock.toList (w2.setCell ⟨h + 1 + 1, 4, none⟩ y) w3) (g4 : (w3.alloc o).grownBy w4 v.ownBlock) :
    w4.heap[h + 1]? = some (.cells zeroT 36 (0, 0)) ∧ w4.heap[h + 1 + 1]? = some (.cells #[.int .i64 0, .int .i64 0, .bool false, .slice none 0 0, y, .int .i64 0, .int .i64 0, .int .i64 0, .int .i64 0, .int .i64 0, .int .i64 0, .int .i64 0] 36 (0, 0)) ∧ Touch ((h + 1 + 1) :: v.ownBlock.toList) w1 w4 ∧ (∀ e size u j d', w2.ownsRow w1.heap.size e size u j d' → h + 3 ≤ w1.heap.size → w4.ownsRow w1.heap.size e size u j d') := by
  have g1 := owns_lt ho
  have t4 : Touch v.ownBlock.toList w3 w4 := ((Touch.refl _ w3).alloc o).grown g4 (fun k hk => .inl (by simp [hk]))
  refine ⟨?_, ?_, ?_, ?_⟩
  · refine kept_row (kept_row ?_ t3 fun hb => by have := g1 _ hb; omega) t4 fun hb => by have := g1 _ hb; omega
    rw [Below.heap_setCell _ _ _ _ (by simp)]
    exact kept_row r1 t12 (by simp)
  · refine kept_row (kept_row ?_ t3 fun hb => by have := g1 _ hb; omega) t4 fun hb => by have := g1 _ hb; omega
    refine (heap_setCell_row (kept_row r2 t12 (by simp)) 4 _).trans ?_
    simp [zeroT]
  · exact (((t12.mono (by simp)).trans ((Touch.refl [h + 1 + 1] w2).setCell (by simp) y) (by simp)).trans t3 (fun b hb => .inl (by simp [hb]))).trans t4 (fun b hb => .inl (by simp [hb]))
  · intro e size u j d' hu hh
    have gu := owns_lt hu
    refine owns_touch (owns_touch (owns_touch hu ((Touch.refl [h + 1 + 1] w2).setCell (by simp) y) ?_) t3 ?_) t4 ?_
    · intro b hb hm
      have := gu b (by simp [hb])
      simp at hm
      omega
    · intro b hb hm
      have := gu b (by simp [hb])
      have := g1 b hm
      omega
    · intro b hb hm
      have := gu b (by simp [hb])
      have := g1 b hm
      omega

end
end Go.Proofs.YtcpncfngadablaaGreatDoor
namespace Go.Proofs.YtcpncfngadablaaGreatDoor
open Go.RowKit Go.Deep

theorem FreshB.mono {n m : Nat} {sv : Value} {bs : List Nat} (h : FreshB n sv bs) (hm : m ≤ n) : FreshB m sv bs := ⟨fun x hx => Nat.le_trans hm (h.1 x hx), fun b hb => Nat.le_trans hm (h.2.1 b hb), h.2.2⟩

section
variable {w w' : World} {E : Nat → Addr} {lo p mf mt : Nat} {D : DiskC}

theorem BlocksAt.own_slice {B : Nat} {sv : Value} {bs : List Nat} {blocks : List (List UInt8)} (h : BlocksAt w B sv bs blocks) : ∃ a n c, sv = .slice a n c := by
  rcases h.own.2 with ⟨h1, _⟩ | ⟨g, cap, cur, h1, _⟩
  · exact ⟨none, 0, 0, h1⟩
  · exact ⟨_, _, cap, h1⟩

theorem told_facts {a b : Nat} {u v : Value} {w2 : World} {o : Array Value} (h0 : w.cell? ⟨a, 0, none⟩ = some u) (h1 : w.cell? ⟨a, 1, none⟩ = some v) (ht : Below (w.alloc (.cells o b)).drew.heap.size (w.alloc (.cells o b)).drew w2) :
    w2.cell? ⟨a, 0, none⟩ = some u ∧ w2.cell? ⟨a, 1, none⟩ = some v ∧ (w2.cell? ⟨w.heap.size, 0, none⟩ = o[0]? ∧ w2.cell? ⟨w.heap.size, 1, none⟩ = o[1]? ∧ w2.cell? ⟨w.heap.size, 2, none⟩ = o[2]?) ∧
      (w2.frozen? ⟨w.heap.size, 0, none⟩ = false ∧ w2.frozen? ⟨w.heap.size, 1, none⟩ = false ∧ w2.frozen? ⟨w.heap.size, 2, none⟩ = false) := by
  have la := World.block_lt_of_cell? w _ h0
  have hs : (w.alloc (.cells o b)).drew.heap.size = w.heap.size + 1 := by simp
  have hr : w2.heap[w.heap.size]? = some (.cells o b (0, 0)) := (ht.block _ (by omega)).trans (heap_alloc_new w _)
  have hc : ∀ i x, w.cell? ⟨a, i, none⟩ = some x → w2.cell? ⟨a, i, none⟩ = some x := fun i x h => (ht.cell (p := ⟨a, i, none⟩) (by have : a < w.heap.size := la; show a < _; omega)).trans ((World.cell?_of_block (Below.heap_alloc w _ a la)).trans h)
  exact ⟨hc 0 u h0, hc 1 v h1, ⟨cell_row hr 0, cell_row hr 1, cell_row hr 2⟩, ⟨unfrozen_row hr 0, unfrozen_row hr 1, unfrozen_row hr 2⟩⟩

set_option maxRecDepth 100000 in
set_option maxHeartbeats 400000 in
theorem told_any {B : Nat} {L : Lay} {f : FileA} (hat : FileAt w B L f) (s : ByteArray) (hB1 : 64 ≤ B) (hB2 : B ≤ 65536) (hn : f.blocks.length ≤ 1099511627776) :
    Calls Tryz.prog 38 #[ptr L.fb, .string s] w fun e w' => ∃ sv' bs', e = .returned (.agg #[.string s, .bool f.shut, sv']) ∧ BlocksAt w' B sv' bs' f.blocks ∧ FreshB w.heap.size sv' bs' ∧ Below w.heap.size w w' := by
  have hrow := hat.row
  have lfb := lt_of_block hrow
  have c0 := cell_row hrow 0
  have c1 := cell_row hrow 1
  simp at c0 c1
  have HC := hid (fun (o : Obj) => copyBlocks_any (w := (w.alloc o).drew) (((hat.kept fun b hb => Below.heap_alloc w o b (hat.lt b hb)).blocksAt).kept fun _ _ => rfl) hB1 hB2 hn)
  clear hat hrow
  obtain ⟨x, hx, c0'⟩ : ∃ x : Int, (x == 1) = f.shut ∧ w.cell? ⟨L.fb, 0, none⟩ = some (.int .i64 x) := by
    cases hs : f.shut
    · rw [hs] at c0; exact ⟨0, by decide, by simpa using c0⟩
    · rw [hs] at c0; exact ⟨1, by decide, by simpa using c0⟩
  clear c0
  have hnw := World.new_ne w ⟨L.fb, 0, none⟩ c0'
  have hnw1 := World.new_ne w ⟨L.fb, 1, none⟩ c1
  go_enter Tryz.func38, Tryz.ntmps38
  go_wp2
  go_region_held3 (fun W => W.cell? ⟨L.fb, 0, none⟩ = some (.int .i64 x) ∧ W.cell? ⟨L.fb, 1, none⟩ = some L.sv) (go_keep)
    (first | (go_at_call 75; refine (HC.out _).mono ?_; rintro e w2 ⟨sv', bs', rfl, hb2, hf2, ht2⟩; have HB2 := hid hb2; have HF2 := hid hf2; have HT2 := hid ht2; obtain ⟨v0, v1, ⟨q0, q1, q2⟩, ⟨z0, z1, z2⟩⟩ := told_facts c0' c1 ht2; obtain ⟨ga, gn, gc, hsv'⟩ := hb2.own_slice; clear hb2 hf2 ht2))
  go_wp2
  refine bodyPost_ret (v := .agg #[.string s, .bool f.shut, .slice ga gn gc]) (by simp [results, Tryz.results38, go_sem, q0, q1, q2]) rfl ⟨sv', bs', by rw [hsv'], ?_, HF2.out.mono (by simp), ?_⟩
  · refine HB2.out.kept fun b hb => ?_
    have hbn : b ≠ w.heap.size := by
      have h1 := HF2.out.1 b
      have h2 := HF2.out.2.1 b
      have hz : (w.alloc (.cells #[.string ⟨#[]⟩, .bool false, .slice none 0 0] 71)).drew.heap.size = w.heap.size + 1 := by simp
      rcases hb with h | h
      · have := h1 h; omega
      · have := h2 h; omega
    rw [Below.heap_setCell _ _ _ _ hbn, Below.heap_setCell _ _ _ _ hbn, Below.heap_setCell _ _ _ _ hbn]
  · have hb0 : Below w.heap.size w w2 := ((Below.refl _ w).alloc (Nat.le_refl _) _).drew.trans (HT2.out.mono (by simp))
    exact ((hb0.setCell (Nat.le_refl _) _).setCell (Nat.le_refl _) _).setCell (Nat.le_refl _) _
end
end Go.Proofs.YtcpncfngadablaaGreatDoor
namespace Go.Proofs.YtcpncfngadablaaGreatDoor
open Go.RowKit Go.Deep

/-- a file of a state: its name, what it holds, where its blocks lie. -/
structure SFile where
  name : List UInt8
  file : FileA
  sv : Value
  bs : List Nat

def SFile.cells (e : SFile) : List Value := [encStr e.name, .bool e.file.shut, e.sv]
def SFile.pub (e : SFile) : List UInt8 × FileA := (e.name, e.file)

/-- Files of a state lie behind a slice, from n on. -/
structure StateAt (w : World) (n B : Nat) (fv : Value) (l : List SFile) : Prop where
  own : w.ownsRow n 71 3 fv l.length (l.flatMap SFile.cells)
  each : ∀ e ∈ l, BlocksAt w B e.sv e.bs e.file.blocks
  from_ : ∀ e ∈ l, FreshB n e.sv e.bs

theorem Tryz.info71 : (Tryz.prog.info? 71).map (fun i => (i.zero, i.size, i.bytes)) = some (some (.agg #[.string ⟨#[]⟩, .bool false, .slice none 0 0]), 3, 48) := by kernel_rfl

/-- append of one file, as a step of a region that draws. -/
theorem step_append_file {ops : Array Oper} {o : Oper} {a : Act} {w : World} {K : Act → World → Prop} {Q : Exit → Act → World → Prop} {X : Prop}
    (hg : o.guard = none) (s x : Operand) (hop : o.op = Op.call { callee := Callee.builtin Builtin.append, args := #[s, x], argTypes := #[45, 45] })
    (base : Nat) (v : Value) (n : Nat) (xs : List Value) (b : Nat) (c0 c1 c2 : Value) (hs : a.eval s = v) (hx : a.eval x = .slice (some ⟨b, 0, none⟩) 1 1) (hown : w.ownsRow base 71 3 v n xs) (hb : w.heap[b]? = some (.cells #[c0, c1, c2] 71 (0, 0))) (h0 : c0.oneCell' = true) (h1 : c1.oneCell' = true) (h2 : c2.oneCell' = true) (hn : n ≤ 1099511627776) (hbase : base ≤ w.heap.size)
    (hK : ∀ g cap w', w'.ownsRow base 71 3 (.slice (some ⟨g, 0, none⟩) (n + 1) cap) (n + 1) (xs ++ [c0, c1, c2]) → w.grownBy w' v.ownBlock → K (a.put o.dst (.slice (some ⟨g, 0, none⟩) (n + 1) cap)) w') :
    if Region.wanted o (yielded ops a.tmps) = true then Oper.wp Tryz.prog o a w K Q else X := by
  have hw : Region.wanted o (yielded ops a.tmps) = true := by simp [Region.wanted, hg]
  rw [if_pos hw]
  obtain ⟨i, hi, hz0, hz1, hz2⟩ := info_parts Tryz.info71
  have hnews : ∀ j u, [c0, c1, c2][j]? = some u → w.cell? ((⟨b, 0, none⟩ : Addr).add j) = some u := by
    intro j u hu
    have hadd : (⟨b, 0, none⟩ : Addr).add j = ⟨b, j, none⟩ := by unfold Addr.add; split <;> simp_all
    rw [hadd, cell_row hb j]
    simpa using hu
  have hone : ∀ u ∈ [c0, c1, c2], u.oneCell' = true := by simp [h0, h1, h2]
  obtain ⟨v', w', hrun, r1, r2, _⟩ := run_append_own (P := Tryz.prog) w base 45 o.type 71 i _ 3 48 Tryz.underlying45 hi hz0 hz1 hz2 rfl (by decide) v n xs hown ⟨b, 0, none⟩ 1 1 [c0, c1, c2] rfl hnews hone (by unfold maxLen; omega) (by omega) hbase
  have hv : ∃ g cap, v' = .slice (some ⟨g, 0, none⟩) (n + 1) cap := by
    rcases r1.2 with ⟨_, h⟩ | ⟨g, cap, _, h, _⟩
    · omega
    · exact ⟨g, cap, h⟩
  obtain ⟨g, cap, rfl⟩ := hv
  unfold Oper.wp
  simp [execOp, hop, resolve, invoke, builtin, hs, hx, hrun, Result.andThen]
  exact hK g cap w' r1 r2

theorem BlocksAt.ne_row {w : World} {B : Nat} {sv : Value} {bs : List Nat} {blocks : List (List UInt8)} (h : BlocksAt w B sv bs blocks) {g : Nat} {c : Array Value} (hg : w.heap[g]? = some (.cells c 71 (0, 0))) : sv.ownBlock ≠ some g ∧ g ∉ bs := by
  refine ⟨fun e => ?_, fun hm => ?_⟩
  · rcases h.own.2 with ⟨h1, _⟩ | ⟨g', cap, cur, h1, _, hg', _⟩
    · rw [h1] at e; simp [Value.ownBlock] at e
    · rw [h1] at e; simp [Value.ownBlock] at e; subst e; rw [hg] at hg'; simp at hg'
  · obtain ⟨i, hi, rfl⟩ := List.getElem_of_mem hm
    have := (h.bytes i _ (blocks[i]'(by rw [← h.len]; exact hi)) (List.getElem?_eq_getElem hi) (List.getElem?_eq_getElem _)).2
    unfold BytesAt at this
    rw [hg] at this
    simp at this

/-- one file more. -/
theorem StateAt.snoc {w w2 w3 : World} {n B : Nat} {fv v' : Value} {l : List SFile} {e : SFile} {o : Obj} (h : StateAt w n B fv l) (hn : n ≤ w.heap.size) (hb : Below w.heap.size w w2) (he : BlocksAt w2 B e.sv e.bs e.file.blocks) (hef : FreshB w.heap.size e.sv e.bs)
    (hown : w3.ownsRow n 71 3 v' (l.length + 1) (l.flatMap SFile.cells ++ e.cells)) (hgr : (w2.alloc o).grownBy w3 fv.ownBlock) : StateAt w3 n B v' (l ++ [e]) ∧ Below n w w3 := by
  have hs := hb.size
  have hsz : (w2.alloc o).heap.size = w2.heap.size + 1 := by simp
  have hrow : ∀ g, fv.ownBlock = some g → n ≤ g ∧ g < w.heap.size ∧ ∃ c, w.heap[g]? = some (.cells c 71 (0, 0)) := by
    intro g hg
    rcases h.own.2 with ⟨h1, _⟩ | ⟨g', cap, cur, h1, hb', hg', _⟩
    · rw [h1] at hg; simp [Value.ownBlock] at hg
    · rw [h1] at hg; simp [Value.ownBlock] at hg; subst hg; exact ⟨hb', lt_of_block hg', cur, hg'⟩
  refine ⟨⟨?_, ?_, ?_⟩, ?_⟩
  · simpa [List.flatMap_append] using hown
  · intro x hx
    rcases List.mem_append.1 hx with hx | hx
    · refine (h.each x hx).kept fun b hb' => ?_
      have hlt : b < w.heap.size := by rcases hb' with h' | h'; exact (h.each x hx).lt.1 b h'; exact (h.each x hx).lt.2 b h'
      have hne : some b ≠ fv.ownBlock := fun e' => by
        obtain ⟨_, _, c, hc⟩ := hrow b e'.symm
        have := (h.each x hx).ne_row hc
        rcases hb' with h' | h'
        · exact this.1 h'
        · exact this.2 h'
      rw [hgr.block b (by omega) hne, Below.heap_alloc _ _ _ (by omega), hb.block b hlt]
    · simp at hx
      subst hx
      refine he.kept fun b hb' => ?_
      have hge : w.heap.size ≤ b := by rcases hb' with h' | h'; exact hef.1 b h'; exact hef.2.1 b h'
      have hlt : b < w2.heap.size := by rcases hb' with h' | h'; exact he.lt.1 b h'; exact he.lt.2 b h'
      have hne : some b ≠ fv.ownBlock := fun e' => by have := (hrow b e'.symm).2.1; omega
      rw [hgr.block b (by omega) hne, Below.heap_alloc _ _ _ hlt]
  · intro x hx
    rcases List.mem_append.1 hx with hx | hx
    · exact h.from_ x hx
    · simp at hx; subst hx; exact hef.mono hn
  · exact ((hb.mono hn).alloc (by omega) o).grown hgr (by omega) (fun k hk => (hrow k hk).1)

section
variable {w w' : World} {E : Nat → Addr} {lo p mf mt : Nat} {D : DiskC}

theorem Rep.look1 (h : Rep w lo p mf mt D) {e0 : Ent} (he : e0 ∈ D.ents) :
    (Instr.lookup 88 (.map (some mf)) (encStr e0.name) false).run Tryz.prog w = .ok (ptr e0.lay.fb) w := by
  have hs : (⟨e0.name.toArray⟩ : ByteArray).size ≤ 32 := by
    show e0.name.toArray.size ≤ 32
    simpa using h.names e0 he
  obtain ⟨v, ps, hrun, hv⟩ := h.files.lookup (t := 88) (e := 92) (Maps.string_keyed Tryz.underlying9) Tryz.underlying88 (Tryz.zero92 w) (zd := .nil) (zp := []) rfl (WideMaps.keyOf_string_mk Tryz.underlying9 (s := ⟨e0.name.toArray⟩) (by unfold maxLen; omega))
  rw [at_map] at hv
  have hf : findE D.ents e0.name = some e0 := by
    cases hx : findE D.ents e0.name with
    | none =>
      have := List.find?_eq_none.1 hx e0 he
      simp at this
    | some e1 => rw [h.one hx e0 he rfl]
  dsimp only at hv
  rw [hf] at hv
  rw [hrun, ptrElem_inv hv]
end
end Go.Proofs.YtcpncfngadablaaGreatDoor
namespace Go.Proofs.YtcpncfngadablaaGreatDoor
open Go.RowKit Go.Deep

section
variable {w w' : World} {E : Nat → Addr} {lo p mf mt : Nat} {D : DiskC}

theorem StateAt.kept {w w' : World} {n B : Nat} {fv : Value} {l : List SFile} (h : StateAt w n B fv l) (hk : ∀ b, n ≤ b → b < w.heap.size → w'.heap[b]? = w.heap[b]?) : StateAt w' n B fv l := by
  refine ⟨⟨h.own.1, ?_⟩, fun e he => (h.each e he).kept fun b hb => ?_, h.from_⟩
  · rcases h.own.2 with hn | ⟨g, cap, cur, hv, hb, hg, rest⟩
    · exact .inl hn
    · exact .inr ⟨g, cap, cur, hv, hb, (hk g hb (lt_of_block hg)).trans hg, rest⟩
  · rcases hb with h' | h'
    · exact hk b ((h.from_ e he).1 b h') ((h.each e he).lt.1 b h')
    · exact hk b ((h.from_ e he).2.1 b h') ((h.each e he).lt.2 b h')

/-- what a round of State's loop needs of memory. -/
theorem state_facts {N sb : Nat} {wr : World} {fv : Value} {l : List SFile} {x : Value} (R : Rep wr lo p mf mt D) (hS : StateAt wr N D.B fv l) (hsb : wr.heap[sb]? = some (.cells #[x, fv] 47 (0, 0))) (hN : sb < N) (hN2 : N ≤ wr.heap.size) (k : Nat) (hk : l.length = k) :
    ∀ w2, Below wr.drew.heap.size wr.drew w2 → w2.cell? ⟨sb, 1, none⟩ = some fv ∧ w2.cell? ⟨p, 3, none⟩ = some (.map (some mf)) ∧ (sb < w2.heap.size ∧ p < w2.heap.size) ∧
      Hid (∀ o, (w2.alloc o).ownsRow N 71 3 fv k (l.flatMap SFile.cells) ∧ N ≤ (w2.alloc o).heap.size ∧ ∀ w3, (w2.alloc o).grownBy w3 fv.ownBlock → w3.heap[sb]? = some (.cells #[x, fv] 47 (0, 0))) := by
  intro w2 hb
  have hs : wr.heap.size ≤ w2.heap.size := hb.size
  have hsb2 : w2.heap[sb]? = some (.cells #[x, fv] 47 (0, 0)) := (hb.block sb (lt_of_block (w := wr) hsb)).trans hsb
  have hp2 : w2.cell? ⟨p, 3, none⟩ = some (.map (some mf)) := (hb.cell (p := ⟨p, 3, none⟩) (lt_of_block (w := wr) R.row)).trans (R.cell 3)
  refine ⟨cell_row hsb2 1, hp2, ⟨lt_of_block hsb2, Nat.lt_of_lt_of_le (lt_of_block R.row) hs⟩, fun o => ⟨?_, by simp; omega, fun w3 hg => ?_⟩⟩
  · have h := hS.own
    rw [hk] at h
    refine ⟨h.1, ?_⟩
    rcases h.2 with hn | ⟨g, cap, cur, hv, hb', hg, rest⟩
    · exact .inl hn
    · have hlt := lt_of_block hg
      exact .inr ⟨g, cap, cur, hv, hb', (Below.heap_alloc _ _ g (by omega)).trans ((hb.block g hlt).trans hg), rest⟩
  · have hne : some sb ≠ fv.ownBlock := fun e => by
      have := (hS.own.lt sb e.symm).1
      omega
    rw [hg.block sb (by have := lt_of_block hsb2; simp; omega) hne, Below.heap_alloc _ _ _ (lt_of_block hsb2)]
    exact hsb2

/-- State's loop, k files told. -/
structure StInv (w1 wr : World) (sb : Nat) (D : DiskC) (k : Nat) (fv : Value) (l : List SFile) : Prop where
  touch : Touch [sb] w1 wr
  box : wr.heap[sb]? = some (.cells #[.int .i64 D.B, fv] 47 (0, 0))
  files : StateAt wr w1.heap.size D.B fv l
  pubs : l.map SFile.pub = (D.ents.take k).map Ent.pub

theorem StInv.len {w1 wr : World} {sb k : Nat} {fv : Value} {l : List SFile} (h : StInv w1 wr sb D k fv l) (hk : k ≤ D.ents.length) : l.length = k := by
  have := congrArg List.length h.pubs
  simp at this
  omega

theorem StInv.next {w1 wr w2 w3 : World} {sb k g cap : Nat} {fv sv' : Value} {l : List SFile} {e0 : Ent} {bs' : List Nat} {o : Obj} {ga : Option Addr} {gn gc : Nat} (h : StInv w1 wr sb D k fv l) (hk : k ≤ D.ents.length) (he : D.ents[k]? = some e0) (hsb : sb < w1.heap.size) (hb2 : BlocksAt w2 D.B sv' bs' e0.file.blocks) (hf2 : FreshB wr.drew.heap.size sv' bs') (ht2 : Below wr.drew.heap.size wr.drew w2)
    (hsv : sv' = .slice ga gn gc) (h1 : w3.ownsRow w1.heap.size 71 3 (.slice (some ⟨g, 0, none⟩) (k + 1) cap) (k + 1) (l.flatMap SFile.cells ++ [encStr e0.name, .bool e0.file.shut, .slice ga gn gc])) (h2 : (w2.alloc o).grownBy w3 fv.ownBlock) (h3 : w3.heap[sb]? = some (.cells #[.int .i64 D.B, fv] 47 (0, 0))) :
    StInv w1 (w3.setCell ⟨sb, 1, none⟩ (.slice (some ⟨g, 0, none⟩) (k + 1) cap)) sb D (k + 1) (.slice (some ⟨g, 0, none⟩) (k + 1) cap) (l ++ [⟨e0.name, e0.file, sv', bs'⟩]) := by
  have hl := h.len hk
  subst hsv
  have hsz := h.touch.size
  have hs := h.files.snoc (e := ⟨e0.name, e0.file, .slice ga gn gc, bs'⟩) hsz (⟨ht2.os, ht2.tape, ht2.output, ht2.size, ht2.block⟩ : Below wr.heap.size wr w2) hb2 hf2 (by rw [hl]; exact h1) h2
  refine ⟨?_, ?_, ?_, ?_⟩
  · have t : Touch [sb] w1 w3 := ⟨hs.2.os.trans h.touch.os, hs.2.tape.trans h.touch.tape, hs.2.output.trans h.touch.output, by have := hs.2.size; omega, fun b hb hbn => (hs.2.block b hb).trans (h.touch.block b hb hbn)⟩
    exact t.setCell (by simp) _
  · rw [heap_setCell_row h3 1]
    rfl
  · refine hs.1.kept fun b hb _ => Below.heap_setCell _ _ _ _ (by show b ≠ sb; omega)
  · rw [List.map_append, h.pubs, List.take_succ_eq_append_getElem (by have := (List.getElem?_eq_some_iff.1 he).1; omega), List.map_append]
    have : D.ents[k]'((List.getElem?_eq_some_iff.1 he).1) = e0 := (List.getElem?_eq_some_iff.1 he).2
    simp [this, SFile.pub, Ent.pub]

theorem state_fin {W w1 wr : World} {k : Nat} {fv : Value} {l : List SFile} (h : StInv w1 wr (w.heap.size + 1) D k fv l) (hz1 : W.heap.size ≤ w1.heap.size) (hzW : w.heap.size + 1 < W.heap.size) (hW : W.heap[w.heap.size]? = some (.cells #[.int .i64 0, .slice none 0 0] 47)) (hTW : Touch [] w W) (hB : Below W.heap.size W w1) (hk : k = D.ents.length) :
    wr.heap[w.heap.size]? = some (.cells #[.int .i64 0, .slice none 0 0] 47) ∧ ∀ x y : Value, StateAt ((wr.setCell ⟨w.heap.size, 0, none⟩ x).setCell ⟨w.heap.size, 1, none⟩ y) w.heap.size D.B fv l ∧ l.map SFile.pub = D.ents.map Ent.pub ∧ Below w.heap.size w ((wr.setCell ⟨w.heap.size, 0, none⟩ x).setCell ⟨w.heap.size, 1, none⟩ y) := by
  have hbw : Below w.heap.size w wr := ((hTW.below (Nat.le_refl _) (by simp)).trans (hB.mono hTW.size)).trans (h.touch.below (by have := hTW.size; omega) (by simp))
  refine ⟨?_, fun x y => ⟨?_, ?_, (hbw.setCell (Nat.le_refl _) _).setCell (Nat.le_refl _) _⟩⟩
  · rw [h.touch.block _ (by omega) (by simp), hB.block _ (by omega)]
    exact hW
  · have hs : StateAt ((wr.setCell ⟨w.heap.size, 0, none⟩ x).setCell ⟨w.heap.size, 1, none⟩ y) w1.heap.size D.B fv l := h.files.kept fun b hb _ => by
      have hbn : b ≠ w.heap.size := by omega
      rw [Below.heap_setCell _ _ _ _ hbn, Below.heap_setCell _ _ _ _ hbn]
    refine ⟨⟨hs.own.1, ?_⟩, hs.each, fun e he => (hs.from_ e he).mono (by omega)⟩
    rcases hs.own.2 with hn | ⟨g, cap, cur, hv, hb, rest⟩
    · exact .inl hn
    · exact .inr ⟨g, cap, cur, hv, by omega, rest⟩
  · rw [h.pubs, hk, List.take_length]

end
end Go.Proofs.YtcpncfngadablaaGreatDoor
namespace Go.Proofs.YtcpncfngadablaaGreatDoor
open Go.RowKit Go.Deep

section
variable {w w' : World} {E : Nat → Addr} {lo p mf mt : Nat} {D : DiskC}


theorem BlocksAt.slice0 {B : Nat} {sv : Value} {bs : List Nat} {blocks : List (List UInt8)} (h : BlocksAt w B sv bs blocks) (h0 : blocks.length = 0) : ∃ a c, sv = .slice a 0 c := by
  rcases h.own.2 with ⟨e, _⟩ | ⟨g, cap, _, e, _⟩
  · exact ⟨none, 0, e⟩
  · exact ⟨_, cap, by rw [e, h0]⟩
theorem BlocksAt.slice1 {B : Nat} {sv : Value} {bs : List Nat} {blocks : List (List UInt8)} (h : BlocksAt w B sv bs blocks) (h0 : ¬ blocks.length = 0) : ∃ g c, sv = .slice (some ⟨g, 0, none⟩) blocks.length c := by
  rcases h.own.2 with ⟨_, e⟩ | ⟨g, cap, _, e, _⟩
  · exact absurd e h0
  · exact ⟨g, cap, e⟩

theorem quiet_more {W : World} (h : Quiet W w) (n : Nat) : Quiet W (w.drewN n) := by
  obtain ⟨m, rfl⟩ := h
  exact ⟨m + n, by simp⟩

theorem below_up {n : Nat} {w2 : World} (h : Below (w.drewN n).heap.size (w.drewN n) w2) : ∀ G i v, w.cell? ⟨G, i, none⟩ = some v → w2.cell? ⟨G, i, none⟩ = some v := fun G i _ hv => (h.cell (p := ⟨G, i, none⟩) (World.block_lt_of_cell? w _ hv)).trans hv
theorem below_quiet {n N : Nat} {w2 : World} (h : Below (w.drewN n).heap.size (w.drewN n) w2) (hN : N ≤ w.heap.size) : Below N w w2 := ⟨h.os, h.tape, h.output, h.size, fun b hb => h.block b (by show b < w.heap.size; omega)⟩
theorem flat3 {l : List SFile} : ∀ (k j : Nat) (e : SFile), l[k]? = some e → j < 3 → (l.flatMap SFile.cells)[3 * k + j]? = e.cells[j]? := by
  induction l with
  | nil => intro k j e h; simp at h
  | cons a r ih =>
    intro k j e h hj
    cases k with
    | zero =>
      simp at h
      subst h
      rw [List.flatMap_cons, List.getElem?_append_left (by simp [SFile.cells]; omega)]
      simp
    | succ k =>
      simp at h
      rw [List.flatMap_cons, List.getElem?_append_right (by simp [SFile.cells]; omega)]
      have := ih k j e h hj
      rw [← this]
      congr 1
      simp [SFile.cells]
      omega




end
end Go.Proofs.YtcpncfngadablaaGreatDoor
namespace Go.Proofs.YtcpncfngadablaaGreatDoor
open Go.RowKit Go.Deep

section
variable {w w' : World} {E : Nat → Addr} {lo p mf mt : Nat} {D : DiskC}

theorem conv_shows {sa : Option Addr} {n c : Nat} {d : List UInt8} (h : Shows w sa n c d) : (convert 31 9 (.slice sa n c)).run Tryz.prog w = .ok (encStr d) w := by
  have hl := h.len
  subst hl
  cases sa with
  | none =>
    obtain ⟨e1, e2⟩ := h.nil rfl
    have : d = [] := List.eq_nil_of_length_eq_zero e1
    subst this
    subst e2
    rw [show ([] : List UInt8).length = 0 from rfl, run_convert_bytes_string w 31 9 5 none 0 0 Tryz.underlying31 Tryz.underlying5 Tryz.underlying9]
    simp [Conv.bytesToString, encStr]
    try rfl
  | some a =>
    refine run_convert_bytes_back (P := Tryz.prog) w 31 9 5 a c d Tryz.underlying31 Tryz.underlying5 Tryz.underlying9 (fun j hj => ?_)
    obtain ⟨a', e, _, hc⟩ := h.at_ (by omega)
    simp only [Option.some.injEq] at e
    subst e
    exact hc j _ (by simp [Lib.byteCells, List.getElem?_eq_getElem hj])

theorem wpList_append_789 (w : World) {ops : Array Oper} {rest : List Oper} {o : Oper} {a : Act} {Q : Exit → Act → World → Prop} (hgd : o.guard = none) (s x : Operand)
    (hop : o.op = Op.call { callee := Callee.builtin Builtin.append, args := #[s, x], argTypes := #[31, 31] })
    (base : Nat) (v : Value) (n : Nat) (d : List UInt8) (ad : Addr) (hs : a.eval s = v) (hx : a.eval x = .slice (some ad) 3 3) (hown : w.ownsRow base 5 1 v n (Lib.byteCells d)) (hu : ∀ j v, (Lib.byteCells [7, 8, 9])[j]? = some v → w.cell? (ad.add j) = some v) (hn : n ≤ 1099511627776) (hb : base ≤ w.heap.size)
    (hK : ∀ g c w', w'.ownsRow base 5 1 (.slice (some ⟨g, 0, none⟩) (n + 3) c) (n + 3) (Lib.byteCells (d ++ [7, 8, 9])) → Below base w w' → wpList Tryz.prog ops Q rest (a.put o.dst (.slice (some ⟨g, 0, none⟩) (n + 3) c)) w') : wpList Tryz.prog ops Q (o :: rest) a w := by
  refine wpList_plain hgd fun K' hK' => ?_
  obtain ⟨i, hi, hz0, hz1, hz2⟩ := info_parts Tryz.info5
  obtain ⟨v', w', hrun, ho, hg, _⟩ := run_append_own (P := Tryz.prog) w base 31 o.type 5 i (.int .u8 0) 1 1 Tryz.underlying31 hi hz0 hz1 hz2 rfl (by decide) v n _ hown ad 3 3 (Lib.byteCells [7, 8, 9]) (by simp [Lib.byteCells_length]) hu (byteCells_one' _) (by unfold maxLen; omega) (by omega) hb
  have ho' : w'.ownsRow base 5 1 v' (n + 3) (Lib.byteCells (d ++ [7, 8, 9])) := by
    rw [Lib.byteCells_append]
    exact ho
  have hbw : Below base w w' := (Below.refl _ w).grown hg hb (fun k hk => (hown.lt k hk).1)
  unfold Oper.wp
  simp [execOp, hop, resolve, invoke, builtin, hs, hx, hrun, Result.andThen]
  rcases ho'.2 with ⟨_, e⟩ | ⟨g, cap, _, e, _⟩
  · omega
  · subst e
    exact hK' _ _ (hK g cap w' ho' hbw)

theorem data_len (N : Int) (B : Nat) (d : List UInt8) (hd : d.length ≤ 1073741824) (hB : B ≤ 65536) : (dataA N B d).length ≤ 1073741824 := by
  unfold dataA
  split
  · exact hd
  · simp only [List.length_append, List.length_take, List.length_replicate]
    omega

end
end Go.Proofs.YtcpncfngadablaaGreatDoor
namespace Go.Proofs.YtcpncfngadablaaGreatDoor
open Go.RowKit Go.Deep

section
variable {w w' : World} {E : Nat → Addr} {lo p mf mt : Nat} {D : DiskC}

theorem names_at {base n k g cap : Nat} {ss : List (List UInt8)} (h : w.ownsRow base 9 1 (.slice (some ⟨g, 0, none⟩) n cap) n (ss.map encStr)) (hk : k < ss.length) : w.cell? ⟨g, k, none⟩ = some (encStr ss[k]) := by
  have := h.cells (g := g) rfl k (encStr ss[k]) (by simp [List.getElem?_eq_getElem hk])
  have hadd : (⟨g, 0, none⟩ : Addr).add k = ⟨g, k, none⟩ := by unfold Addr.add; split <;> simp_all
  rwa [hadd] at this

set_option maxRecDepth 100000 in
set_option maxHeartbeats 600000 in
theorem sameTold_true {b1 b2 : Nat} {T : ToldA} {v1 v2 : Value} (h1 : ToldAt w b1 T v1) (h2 : ToldAt w b2 T v2) (hn : T.names.length ≤ 1099511627776) :
    Calls Tryz.prog 42 #[v1, v2] w fun e w' => e = .returned (.bool true) ∧ Touch [] w w' := by
  obtain ⟨dv1, nv1, rfl, hd1, hn1⟩ := h1
  obtain ⟨dv2, nv2, rfl, hd2, hn2⟩ := h2
  obtain ⟨x1, y1, rfl, s1, _⟩ := shows_own hd1
  obtain ⟨x2, y2, rfl, s2, _⟩ := shows_own hd2
  obtain ⟨m1, l1, rfl, hl1, hg1⟩ := owns_form hn1
  obtain ⟨m2, l2, rfl, hl2, hg2⟩ := owns_form hn2
  obtain ⟨e, N, b, data, names, cn⟩ := T
  obtain ⟨q1, q2, q3, q4, q5, q6, q7⟩ := cn
  simp only at *
  obtain ⟨W, hW⟩ : ∃ W, W = (w.alloc (.cells #[.int .i64 e, .int .i64 N, .bool b, .slice x1 data.length y1, .slice m1 names.length l1, .int .i64 q1, .int .i64 q2, .int .i64 q3, .int .i64 q4, .int .i64 q5, .int .i64 q6, .int .i64 q7] 36)).alloc (.cells #[.int .i64 e, .int .i64 N, .bool b, .slice x2 data.length y2, .slice m2 names.length l2, .int .i64 q1, .int .i64 q2, .int .i64 q3, .int .i64 q4, .int .i64 q5, .int .i64 q6, .int .i64 q7] 36) := ⟨_, rfl⟩
  have tW : Touch [] w W := by rw [hW]; exact ((Touch.refl [] w).alloc _).alloc _
  have hrw := heap_two w (.cells #[.int .i64 e, .int .i64 N, .bool b, .slice x1 data.length y1, .slice m1 names.length l1, .int .i64 q1, .int .i64 q2, .int .i64 q3, .int .i64 q4, .int .i64 q5, .int .i64 q6, .int .i64 q7] 36) (.cells #[.int .i64 e, .int .i64 N, .bool b, .slice x2 data.length y2, .slice m2 names.length l2, .int .i64 q1, .int .i64 q2, .int .i64 q3, .int .i64 q4, .int .i64 q5, .int .i64 q6, .int .i64 q7] 36)
  rw [← hW] at hrw
  have c1 := fun i => cell_row hrw.1 i
  have c2 := fun i => cell_row hrw.2 i
  have k1 := conv_shows (s1.touch tW (by simp))
  have k2 := conv_shows (s2.touch tW (by simp))
  have HN1 := hid (owns_touch hn1 tW (by simp))
  have HN2 := hid (owns_touch hn2 tW (by simp))
  have HTW := hid tW
  have HE := hid hW
  have HG1 := hid hg1
  have HG2 := hid hg2
  clear hd1 hd2 hn1 hn2 s1 s2 hg1 hg2 tW hW hrw hl1 hl2
  unfold toldV
  simp only []
  go_enter Tryz.func42, Tryz.ntmps42
  go_wp2_with (rw [← HE.out])
  have HC1 := hid c1
  have HC2 := hid c2
  clear c1 c2 k1 k2
  go_loopw [5] (fun i wr => ∃ k : Nat, k ≤ names.length ∧ i = .int .i64 k ∧ Quiet W wr) (fun i _ => names.length - (intOf i).toNat)
  case atStart => exact ⟨0, Nat.zero_le _, rfl, ⟨0, rfl⟩⟩
  case round =>
    obtain ⟨k, hk, rfl, hq⟩ := hrel
    have d1 := fun i => (Quiet.cell hq ⟨w.heap.size, i, none⟩).trans (HC1.out i)
    have d2 := fun i => (Quiet.cell hq ⟨w.heap.size + 1, i, none⟩).trans (HC2.out i)
    have HQ := hid hq
    by_cases hlt : k < names.length
    · obtain ⟨g1, rfl⟩ := HG1.out (by omega)
      obtain ⟨g2, rfl⟩ := HG2.out (by omega)
      have a1 := (Quiet.cell hq _).trans (names_at HN1.out hlt)
      have a2 := (Quiet.cell hq _).trans (names_at HN2.out hlt)
      have j0 : (0 : Int) ≤ (k : Int) := by omega
      have j1 : (k : Int) < (names.length : Int) := by omega
      clear hq
      go_wp2
      go_quiet (fail)
      go_wp2
      go_roundw
      case rel => first | exact ⟨k + 1, by omega, by go_num, quiet_more HQ.out _⟩ | ((repeat apply Exists.intro); exact ⟨⟨k + 1, by omega, by go_num, quiet_more HQ.out _⟩, rfl⟩)
      case measure => simp [intOf]; omega
    · clear hq
      go_wp2
      go_ret
      exact ⟨rfl, HTW.out.trans (Quiet.touch HQ.out []) (by simp)⟩
end
end Go.Proofs.YtcpncfngadablaaGreatDoor
namespace Go.Proofs.YtcpncfngadablaaGreatDoor
open Go.RowKit Go.Deep

section
variable {w w' : World} {E : Nat → Addr} {lo p mf mt : Nat} {D : DiskC}




set_option maxRecDepth 100000 in
set_option maxHeartbeats 400000 in
theorem checkSetup_ok {B : Int} {Bs : Int} {v : Value} {ga : Option Addr} {gn gc : Nat} (hv : v = .slice ga gn gc) (h1 : 64 ≤ B) (h2 : B ≤ 65536) (h3 : B % 32 = 0) (h4 : 0 ≤ Bs) (h5 : Bs ≤ 1099511627776) (w : World) :
    Calls Tryz.prog 25 #[.agg #[.int .i64 B, .int .i64 Bs, v]] w fun e w' => e = .returned .nilIface ∧ Below w.heap.size w w' := by
  subst hv
  have h3' : (B.tmod 32 != 0) = false := by rw [Int.tmod_eq_emod_of_nonneg (by omega), h3]; decide
  go_enter Tryz.func25, Tryz.ntmps25
  go_wp2
  go_ret
  exact ⟨rfl, (Below.refl _ w).alloc (Nat.le_refl _) _⟩




theorem empty_map (w : World) (b : Nat) (k : TypeId) (R : Value → Option (DataW Unit × List MemPlace)) (h : w.heap[b]? = some (.map #[] 0)) : w.ownsMap Tryz.prog k R b 0 (.map []) :=
  ⟨#[], 0, h, ⟨by simp, MapKept.stamped_empty 0, by simp⟩, Nat.le_refl _, rfl⟩



theorem Rep.lower (R : Rep w lo p mf mt D) {n : Nat} (h : n ≤ lo) : Rep w n p mf mt D := ⟨R.row, R.files, R.troubles, R.each, R.apart, fun b hb => Nat.le_trans h (R.base b hb), R.names⟩

theorem box_up3 {a b c : Value} {t : TypeId} {w1 : World} (h : Below (w.alloc (.cells #[a, b, c] t)).heap.size (w.alloc (.cells #[a, b, c] t)) w1) : w1.cell? ⟨w.heap.size, 0, none⟩ = some a ∧ w1.cell? ⟨w.heap.size, 1, none⟩ = some b ∧ w1.cell? ⟨w.heap.size, 2, none⟩ = some c ∧ w.heap.size < w1.heap.size := by
  have hr : w1.heap[w.heap.size]? = some (.cells #[a, b, c] t (0, 0)) := (h.block _ (by simp)).trans (heap_alloc_new w _)
  exact ⟨cell_row hr 0, cell_row hr 1, cell_row hr 2, lt_of_block hr⟩


end
end Go.Proofs.YtcpncfngadablaaGreatDoor
namespace Go.Proofs.YtcpncfngadablaaGreatDoor
open Go.RowKit Go.Deep

section
variable {w w' : World} {E : Nat → Addr} {lo p mf mt : Nat} {D : DiskC}

theorem fileOf_fin {B : Nat} {o : Obj} {w1 : World} {sv : Value} {bs : List Nat} {blocks : List (List UInt8)} (x : Bool) (hb : BlocksAt w1 B sv bs blocks) (hf : FreshB (w.alloc o).heap.size sv bs) (ht : Below (w.alloc o).heap.size (w.alloc o) w1) :
    FileAt (w1.alloc (.cells #[.int .i64 (if x then 1 else 0), sv] 118)) B ⟨w1.heap.size, sv, bs⟩ ⟨x, blocks⟩ ∧ (∀ b ∈ (⟨w1.heap.size, sv, bs⟩ : Lay).foot, w.heap.size ≤ b) ∧ (⟨w1.heap.size, sv, bs⟩ : Lay).foot.Nodup ∧ ∀ o' : Obj, Below w.heap.size w (w1.alloc o') := by
  have hs : (w.alloc o).heap.size = w.heap.size + 1 := by simp
  have hs1 := ht.size
  have hk := hb.kept (w' := w1.alloc (.cells #[.int .i64 (if x then 1 else 0), sv] 118)) fun b hb' => Below.heap_alloc w1 _ b (by rcases hb' with h' | h'; exact hb.lt.1 b h'; exact hb.lt.2 b h')
  refine ⟨⟨heap_alloc_new w1 _, hk.own, hk.bytes⟩, fun b hb' => ?_, ?_, fun o' => ?_⟩
  · simp only [Lay.foot, List.mem_cons, List.mem_append, Option.mem_toList] at hb'
    rcases hb' with rfl | h | h
    · omega
    · have := hf.1 b h; omega
    · have := hf.2.1 b h; omega
  · show (w1.heap.size :: (sv.ownBlock.toList ++ bs)).Nodup
    rw [List.nodup_cons]
    refine ⟨fun h => ?_, hf.2.2⟩
    rcases List.mem_append.1 h with h | h
    · have := hb.lt.1 _ (by simpa using h); omega
    · have := hb.lt.2 _ h; omega
  · exact (((Below.refl _ w).alloc (Nat.le_refl _) o).trans (ht.mono (by omega))).alloc (by omega) _


theorem less_before : ∀ a b : List UInt8, Op.bytesLess a b = bytesBefore a b
  | [], [] => rfl
  | _ :: _, [] => rfl
  | [], _ :: _ => rfl
  | a :: x, b :: y => by simp only [Op.bytesLess, bytesBefore, less_before x y]

/-- a name behind another is not '<=' it. -/
theorem behind {a b : List UInt8} (h : bytesBefore a b = true) : (Op.bytesLess b a || b == a) = false := by
  rw [less_before]
  have hne : b ≠ a := fun e => by subst e; rw [WideAt.bytes_irrefl] at h; cases h
  have h1 : bytesBefore b a = false := by
    cases hx : bytesBefore b a with
    | false => rfl
    | true =>
      have := WideShapes.bytes_trans _ _ _ h hx
      rw [WideAt.bytes_irrefl] at this
      cases this
  simp [h1, hne]

end
end Go.Proofs.YtcpncfngadablaaGreatDoor
namespace Go.Proofs.YtcpncfngadablaaGreatDoor
open Go.RowKit Go.Deep

/-- the name ahead of file k. -/
def lastN (l : List SFile) (k : Nat) : List UInt8 := match k with | 0 => [] | j + 1 => (l[j]?.map SFile.name).getD []
/-- the blocks of the first k files. -/
def usedN (l : List SFile) (k : Nat) : Nat := ((l.take k).map fun e => e.file.blocks.length).sum

theorem usedN_succ {l : List SFile} {k : Nat} {e : SFile} (h : l[k]? = some e) : usedN l (k + 1) = usedN l k + e.file.blocks.length := by
  unfold usedN
  obtain ⟨hk, rfl⟩ := List.getElem?_eq_some_iff.1 h
  rw [List.take_succ_eq_append_getElem hk, List.map_append, List.sum_append]
  simp only [List.map_cons, List.map_nil, List.sum_cons, List.sum_nil, Nat.add_zero]
theorem usedN_le (l : List SFile) (k : Nat) : usedN l k ≤ usedN l l.length := by
  unfold usedN
  rw [List.take_length]
  have h := congrArg (fun x => (x.map fun e : SFile => e.file.blocks.length).sum) (List.take_append_drop k l)
  simp only [List.map_append, List.sum_append] at h
  omega

/-- what Mount asks of a state's files. -/
structure GoodL (l : List SFile) : Prop where
  names : ∀ e ∈ l, nameB ⟨e.name.toArray⟩ = true
  rising : l.Pairwise fun a b => bytesBefore a.name b.name = true
  few : l.length ≤ 1099511627776
  blocks : usedN l l.length ≤ 1099511627776

theorem GoodL.one {l : List SFile} (h : GoodL l) {k : Nat} {e : SFile} (he : l[k]? = some e) : e.file.blocks.length ≤ 1099511627776 := by
  have h1 := usedN_succ he
  have h2 := usedN_le l (k + 1)
  have h3 := h.blocks
  omega


section
variable {w w' : World} {E : Nat → Addr} {lo p mf mt : Nat} {D : DiskC}


end
end Go.Proofs.YtcpncfngadablaaGreatDoor
namespace Go.Proofs.YtcpncfngadablaaGreatDoor
open Go.RowKit Go.Deep

theorem insE_end {e : Ent} : ∀ {l : List Ent}, (∀ y ∈ l, bytesBefore y.name e.name = true) → insE e l = l ++ [e]
  | [], _ => rfl
  | y :: r, h => by
    have hy := h y (by simp)
    have hn : (Lit.string e.name).before (.string y.name) = false := by
      show bytesBefore e.name y.name = false
      cases hx : bytesBefore e.name y.name with
      | false => rfl
      | true =>
        have := WideShapes.bytes_trans _ _ _ hy hx
        rw [WideAt.bytes_irrefl] at this
        cases this
    unfold insE
    rw [hn]
    simp [insE_end (l := r) fun z hz => h z (by simp [hz])]

section
variable {w w' : World} {E : Nat → Addr} {lo p mf mt : Nat} {D : DiskC}

/-- A file, with what it holds, put in. -/
theorem Rep.insertFile (R : Rep w lo p mf mt D) {e : Ent} (hs : e.name.length ≤ 32) (hfind : findE D.ents e.name = none) (ht : Touch [mf] w w') (hfresh : ∀ b ∈ e.lay.foot, w.heap.size ≤ b) (hlo : lo ≤ w.heap.size) (hnd : e.lay.foot.Nodup) (hat : FileAt w' D.B e.lay e.file)
    (hmap : w'.ownsMap Tryz.prog 9 ptrElem mf (D.ents.length + 1) ((mapOf D.ents).put (.string e.name) (.lit (.int .i64 e.lay.fb)))) : Rep w' lo p mf mt { D with ents := insE e D.ents } := by
  obtain ⟨n, hT⟩ := R.troubles
  have hne := R.p_ne
  have hperm := insE_perm e D.ents
  have hfoot : (DiskC.foot { D with ents := insE e D.ents } p mf mt).Perm (e.lay.foot ++ D.foot p mf mt) := by
    simp only [DiskC.foot]
    have h1 := hperm.flatMap_right fun e : Ent => e.lay.foot
    rw [List.flatMap_cons] at h1
    refine (((h1.cons mt).cons mf).cons p).trans ?_
    refine .trans (((List.perm_middle (a := mt)).symm.cons mf).cons p) ?_
    refine .trans ((List.perm_middle (a := mf)).symm.cons p) ?_
    exact (List.perm_middle (a := p)).symm
  have hold : ∀ b ∈ D.foot p mf mt, b ≠ mf → w'.heap[b]? = w.heap[b]? := fun b hb h => ht.block b (R.lt b hb) (by simp [h])
  refine ⟨(hold p (by simp [DiskC.foot]) hne.2.1).trans R.row, ?_, ⟨n, ownsMap_kept hT (hold mt (by simp [DiskC.foot]) hne.2.2.symm)⟩, ?_, ?_, ?_, ?_⟩
  · rw [put_map hfind] at hmap
    show w'.ownsMap Tryz.prog 9 ptrElem mf (insE e D.ents).length _
    rw [hperm.length_eq]
    exact hmap
  · intro x hx
    rcases List.mem_cons.1 (hperm.mem_iff.1 hx) with rfl | hx
    · exact hat
    · exact (R.each x hx).kept fun b hb => by
        have := R.ent_ne hx hb
        exact ht.block b this.2.2.2.1 (by simp [this.2.1])
  · rw [hfoot.nodup_iff, List.nodup_append]
    exact ⟨hnd, R.apart, fun x hx y hy h => by have := hfresh x hx; have := R.lt y hy; omega⟩
  · intro b hb
    rcases List.mem_append.1 (hfoot.mem_iff.1 hb) with hb | hb
    · exact Nat.le_trans hlo (hfresh b hb)
    · exact R.base b hb
  · intro x hx
    rcases List.mem_cons.1 (hperm.mem_iff.1 hx) with rfl | hx
    · exact hs
    · exact R.names x hx

/-- what a mounted disk holds behind k files. -/
def mountA (B : Nat) (Bs : Int) (l : List SFile) (k : Nat) : PubA := ⟨B, Bs, true, (l.take k).map SFile.pub, ⟨0, 0, 0, 0, 0, usedN l k, usedN l k⟩⟩






theorem mount_arm {wr X wx : World} {a b c : Value} {t : TypeId} (R : Rep wr lo p mf mt D) (T : Touch [] wr X) (row : X.heap[wr.heap.size]? = some (.cells #[a, b, c] t (0, 0))) (hb : Below X.heap.size X wx) :
    Touch [] wr wx ∧ wx.heap[wr.heap.size]? = some (.cells #[a, b, c] t (0, 0)) ∧ wx.cell? ⟨p, 3, none⟩ = some (.map (some mf)) ∧ wx.cell? ⟨wr.heap.size, 0, none⟩ = some a ∧ wx.cell? ⟨wr.heap.size, 1, none⟩ = some b ∧ wx.cell? ⟨wr.heap.size, 2, none⟩ = some c := by
  have hr := (hb.block _ (lt_of_block row)).trans row
  have hT : Touch [] wr wx := T.trans (Touch.of_below (F := []) hb (Nat.le_refl _)) (by simp)
  exact ⟨hT, hr, (hT.cell (p := ⟨p, 3, none⟩) (lt_of_block R.row) (by simp)).trans (R.cell 3), cell_row hr 0, cell_row hr 1, cell_row hr 2⟩

theorem mount_upd {wr wx : World} {a b c : Value} {t : TypeId} {s : List UInt8} (R : Rep wr lo p mf mt D) (T : Touch [] wr wx) (row : wx.heap[wr.heap.size]? = some (.cells #[a, b, c] t (0, 0))) (hn : D.ents.length ≤ 1099511627776) (hs : s.length ≤ 32) (fb : Nat) :
    ∃ wA, (Instr.mapUpdate 88 (.map (some mf)) (encStr s) (ptr fb)).run Tryz.prog wx = .ok () wA ∧ wA.ownsMap Tryz.prog 9 ptrElem mf (D.ents.length + 1) ((mapOf D.ents).put (.string s) (.lit (.int .i64 fb))) ∧ wx.grownBy wA (some mf) ∧
      wA.cell? ⟨p, 3, none⟩ = some (.map (some mf)) ∧ wA.cell? ⟨wr.heap.size, 0, none⟩ = some a ∧ wA.cell? ⟨wr.heap.size, 1, none⟩ = some b ∧ wA.cell? ⟨wr.heap.size, 2, none⟩ = some c := by
  have h1 := ownsMap_kept R.files (T.block mf R.files.lt (by simp))
  obtain ⟨wA, a1, a2, a3⟩ := file_store h1 hn (s := ⟨s.toArray⟩) (show s.toArray.size ≤ 32 by simpa using hs) fb
  have hl := R.files.lt
  have hr := (a3.block _ (lt_of_block row) (by simp; omega)).trans row
  have hp : wx.cell? ⟨p, 3, none⟩ = some (.map (some mf)) := (T.cell (p := ⟨p, 3, none⟩) (lt_of_block R.row) (by simp)).trans (R.cell 3)
  exact ⟨wA, a1, a2, a3, a3.cell hp (by simp [R.p_ne.2.1]), cell_row hr 0, cell_row hr 1, cell_row hr 2⟩


end
end Go.Proofs.YtcpncfngadablaaGreatDoor
namespace Go.Proofs.YtcpncfngadablaaGreatDoor
open Go.RowKit Go.Deep

/-- an operation of a script. -/
structure OpA where
  kind : Int
  name : ByteArray
  N : Int
  bit : Int
  data : List UInt8


section
variable {w w' : World} {E : Nat → Addr} {lo p mf mt : Nat} {D : DiskC}

end









end Go.Proofs.YtcpncfngadablaaGreatDoor
namespace Go.Proofs.YtcpncfngadablaaGreatDoor
open Go.RowKit Go.Deep

def total (l : List (List UInt8 × FileA)) : Nat := (l.map fun e => e.2.blocks.length).sum

theorem set_absent {k : List UInt8} {f : FileA} : ∀ {l : List (List UInt8 × FileA)}, (∀ e ∈ l, e.1 ≠ k) → setA k f l = l
  | [], _ => rfl
  | a :: l, h => by
    have h1 := h a (by simp)
    have h2 := set_absent (k := k) (f := f) (l := l) (fun e he => h e (by simp [he]))
    simp only [setA, List.map_cons] at h2 ⊢
    rw [if_neg h1, h2]

theorem drop_absent {k : List UInt8} {l : List (List UInt8 × FileA)} (h : ∀ e ∈ l, e.1 ≠ k) : dropA k l = l := by
  unfold dropA
  rw [List.filter_eq_self]
  intro e he
  simp [h e he]

theorem total_set {k : List UInt8} {f f' : FileA} : ∀ {l : List (List UInt8 × FileA)}, (l.Pairwise fun a b => a.1 ≠ b.1) → findA l k = some f → total (setA k f' l) + f.blocks.length = total l + f'.blocks.length
  | [], _, h => by simp [findA] at h
  | a :: l, hp, h => by
    rw [List.pairwise_cons] at hp
    by_cases ha : a.1 = k
    · have hf : f = a.2 := by simp [findA, ha] at h; exact h.symm
      have hs := set_absent (k := k) (f := f') (l := l) (fun e he e1 => hp.1 e he (by rw [ha, e1]))
      simp only [setA, List.map_cons] at hs ⊢
      rw [if_pos ha, hs]
      simp only [total, List.map_cons, List.sum_cons, hf]
      omega
    · have hf : findA l k = some f := by simpa [findA, ha] using h
      have := total_set (f' := f') hp.2 hf
      simp only [setA, List.map_cons] at this ⊢
      rw [if_neg ha]
      simp only [total, List.map_cons, List.sum_cons] at this ⊢
      omega

theorem total_drop {k : List UInt8} {f : FileA} : ∀ {l : List (List UInt8 × FileA)}, (l.Pairwise fun a b => a.1 ≠ b.1) → findA l k = some f → total (dropA k l) + f.blocks.length = total l
  | [], _, h => by simp [findA] at h
  | a :: l, hp, h => by
    rw [List.pairwise_cons] at hp
    by_cases ha : a.1 = k
    · have hf : f = a.2 := by simp [findA, ha] at h; exact h.symm
      have hs := drop_absent (k := k) (l := l) (fun e he e1 => hp.1 e he (by rw [ha, e1]))
      simp only [dropA, List.filter_cons, ha] at hs ⊢
      simp only [decide_true, Bool.not_true, Bool.false_eq_true, if_false]
      rw [hs]
      simp only [total, List.map_cons, List.sum_cons, hf]
      omega
    · have hf : findA l k = some f := by simpa [findA, ha] using h
      have := total_drop hp.2 hf
      simp only [dropA, List.filter_cons, ha, decide_false, Bool.not_false, if_true] at this ⊢
      simp only [total, List.map_cons, List.sum_cons] at this ⊢
      omega

theorem perm_ins (e : List UInt8 × FileA) : ∀ l : List (List UInt8 × FileA), (insA e l).Perm (e :: l)
  | [] => List.Perm.refl _
  | a :: l => by
    unfold insA
    split
    · exact List.Perm.refl _
    · exact ((perm_ins e l).cons a).trans (List.Perm.swap e a l)

theorem total_perm {l l' : List (List UInt8 × FileA)} (h : l.Perm l') : total l = total l' := (h.map _).sum_nat



theorem le_total {l : List (List UInt8 × FileA)} : ∀ e ∈ l, e.2.blocks.length ≤ total l := by
  induction l with
  | nil => simp
  | cons a l ih =>
    intro e he
    simp only [List.mem_cons] at he
    rcases he with rfl | he
    · simp only [total, List.map_cons, List.sum_cons]
      omega
    · have := ih e he
      simp only [total, List.map_cons, List.sum_cons] at this ⊢
      omega



theorem set_len (k : List UInt8) (f : FileA) (l : List (List UInt8 × FileA)) : (setA k f l).length = l.length := by simp [setA]









end Go.Proofs.YtcpncfngadablaaGreatDoor
namespace Go.Proofs.YtcpncfngadablaaGreatDoor
open Go.RowKit Go.Deep


section
variable {w w' : World} {E : Nat → Addr} {lo p mf mt : Nat} {D : DiskC}

/-- a script, as a slice shows it. -/
structure OpsAt (w : World) (sa : Option Addr) (l : List OpA) : Prop where
  at_ : ∀ k (hk : k < l.length), ∃ a sb m c, sa = some a ∧ a.block < w.heap.size ∧ w.cell? (a.add (k * 5)) = some (.int .i64 l[k].kind) ∧ w.cell? ⟨(a.add (k * 5)).block, (a.add (k * 5)).off + 1, none⟩ = some (.string l[k].name) ∧ w.cell? ⟨(a.add (k * 5)).block, (a.add (k * 5)).off + 2, none⟩ = some (.int .i64 l[k].N) ∧ w.cell? ⟨(a.add (k * 5)).block, (a.add (k * 5)).off + 3, none⟩ = some (.int .i64 l[k].bit) ∧ w.cell? ⟨(a.add (k * 5)).block, (a.add (k * 5)).off + 4, none⟩ = some (.slice sb m c) ∧ Shows w sb m c l[k].data ∧ m ≤ 1073741824







theorem add_block (a : Addr) (j : Nat) : (a.add j).block = a.block := by unfold Addr.add; split <;> rfl





end
end Go.Proofs.YtcpncfngadablaaGreatDoor
namespace Go.Proofs.YtcpncfngadablaaGreatDoor
open Go.ChangeShapes Go.WideShapes Go.ChangeAt Go.RowKit Go.Deep

theorem own : ownKnob Tryz.prog.godebug = none := by kernel_rfl
theorem laidOut : laidOutB Tryz.prog = true := by kernel_rfl
theorem cells3 : Tryz.prog.cellsOf 3 = 1 := by kernel_rfl
theorem cells5 : Tryz.prog.cellsOf 5 = 1 := by kernel_rfl
theorem cells9 : Tryz.prog.cellsOf 9 = 1 := by kernel_rfl
theorem cells31 : Tryz.prog.cellsOf 31 = 1 := by kernel_rfl
theorem cells40 : Tryz.prog.cellsOf 40 = 5 := by kernel_rfl

/-! ### what the bound gives -/
theorem bulk_one {H : Type} (d : DataW H) : 1 ≤ Rows.uptoBulk d := by
  cases d with
  | lit l => cases l <;> simp [Rows.uptoBulk]
  | nil => simp [Rows.uptoBulk]
  | ptr d => simp [Rows.uptoBulk]
  | slice elems spare => simp [Rows.uptoBulk]
  | agg parts => simp [Rows.uptoBulk]
  | iface t d => simp [Rows.uptoBulk]
  | map entries => simp [Rows.uptoBulk]
  | held h => simp [Rows.uptoBulk]
theorem bulk_part {H : Type} {d : DataW H} {l : List (DataW H)} (h : d ∈ l) : Rows.uptoBulk d ≤ Rows.uptoBulkAll l := by
  induction l with
  | nil => cases h
  | cons x r ih =>
    simp only [Rows.uptoBulkAll]
    cases List.mem_cons.1 h with
    | inl e => subst e; omega
    | inr e => have := ih e; omega
theorem bulk_length {H : Type} (l : List (DataW H)) : l.length ≤ Rows.uptoBulkAll l := by
  induction l with
  | nil => simp [Rows.uptoBulkAll]
  | cons x r ih => have := bulk_one x; simp only [Rows.uptoBulkAll, List.length_cons]; omega

section
variable {H : Type} {enc : TypeId × Value → H} {W : World} {spare : Nat → Bool} {held : Bool}

/-- bytes that came in. -/
theorem open_data {fuel : Nat} {v : Value} {x : DataW H × List MemPlace} (h : DataW.trod enc Tryz.prog W 0 spare held fuel 31 [v] = some x) :
    ∃ sb m c d, v = .slice sb m c ∧ Shows W sb m c d ∧ m ≤ Rows.uptoBulk x.1 := by
  rcases open_ints Tryz.underlying31 Tryz.underlying5 cells5 h with ⟨hcs, rfl⟩ | ⟨a, len, cap, zs, hcs, _, hl, hm, hz, rfl, hcell, hwz⟩
  · simp at hcs
    subst hcs
    exact ⟨none, 0, 0, [], rfl, ⟨rfl, Nat.le_refl _, fun h => by omega, fun _ => ⟨rfl, rfl⟩⟩, by omega⟩
  · simp at hcs
    subst hcs
    have hlz : len ≤ zs.length := by rw [hz]; split <;> omega
    have hd : ∀ (j : Nat) (hj : j < len), Value.int .u8 ((UInt8.ofNat (zs[j]'(by omega)).toNat).toNat : Int) = .int .u8 (zs[j]'(by omega)) := fun j hj => by
      have h5 := hwz (zs[j]'(by omega)) (List.getElem_mem _)
      have e1 : IntKind.u8.min = 0 := rfl
      have e2 : IntKind.u8.max = 255 := rfl
      have h6 : 0 ≤ zs[j]'(by omega) ∧ zs[j]'(by omega) ≤ 255 := by simpa [Lit.wf, e1, e2] using h5
      congr 1
      simp
      omega
    refine ⟨some a, len, cap, ((zs.take len).map fun z => UInt8.ofNat z.toNat), rfl, ⟨by simp [hlz], hl, fun h0 => ⟨a, rfl, ?_, fun j u hu => ?_⟩, by simp⟩, ?_⟩
    · have := World.block_lt_of_cell? W _ (hcell 0 (by omega))
      rwa [add_block] at this
    · obtain ⟨hj, hu⟩ := List.getElem?_eq_some_iff.1 hu
      have hj' : j < len := by simpa [Lib.byteCells, hlz] using hj
      rw [hcell j (by omega), ← hu]
      simp only [Lib.byteCells, List.getElem_map, List.getElem_take]
      rw [hd j hj', show zs.getD j 0 = zs[j]'(by omega) by simp [List.getD, List.getElem?_eq_getElem (show j < zs.length by omega)]]
    · simp only [Rows.uptoBulk]
      have h1 := bulk_length (H := H) (lits .u8 (zs.take len))
      simp only [lits, List.length_map, List.length_take] at h1 ⊢
      omega


end
end Go.Proofs.YtcpncfngadablaaGreatDoor
