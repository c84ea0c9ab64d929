import Derived.Test.YtcpncfngadablaaDoorC4
namespace Go.Proofs.YtcpncfngadablaaDoor
open Go.RowKit Go.Deep

/-- a file of a state: its name, what it holds, where its blocks lie. -/
structure SFile where
  name : List UInt8
  file : FileA
  sv : Value
  bs : List Nat

def SFile.cells (e : SFile) : List Value := [encStr e.name, .bool e.file.shut, e.sv]
def SFile.pub (e : SFile) : List UInt8 × FileA := (e.name, e.file)

/-- Files of a state lie behind a slice, from n on. -/
structure StateAt (w : World) (n B : Nat) (fv : Value) (l : List SFile) : Prop where
  own : w.ownsRow n 75 3 fv l.length (l.flatMap SFile.cells)
  each : ∀ e ∈ l, BlocksAt w B e.sv e.bs e.file.blocks
  from_ : ∀ e ∈ l, FreshB n e.sv e.bs

theorem Tryd.info75 : (Tryd.prog.info? 75).map (fun i => (i.zero, i.size, i.bytes)) = some (some (.agg #[.string ⟨#[]⟩, .bool false, .slice none 0 0]), 3, 48) := by kernel_rfl

/-- append of one file, as a step of a region that draws. -/
theorem step_append_file {ops : Array Oper} {o : Oper} {a : Act} {w : World} {K : Act → World → Prop} {Q : Exit → Act → World → Prop} {X : Prop}
    (hg : o.guard = none) (s x : Operand) (hop : o.op = Op.call { callee := Callee.builtin Builtin.append, args := #[s, x], argTypes := #[41, 41] })
    (base : Nat) (v : Value) (n : Nat) (xs : List Value) (b : Nat) (c0 c1 c2 : Value) (hs : a.eval s = v) (hx : a.eval x = .slice (some ⟨b, 0, none⟩) 1 1) (hown : w.ownsRow base 75 3 v n xs) (hb : w.heap[b]? = some (.cells #[c0, c1, c2] 75 (0, 0))) (h0 : c0.oneCell' = true) (h1 : c1.oneCell' = true) (h2 : c2.oneCell' = true) (hn : n ≤ 1099511627776) (hbase : base ≤ w.heap.size)
    (hK : ∀ g cap w', w'.ownsRow base 75 3 (.slice (some ⟨g, 0, none⟩) (n + 1) cap) (n + 1) (xs ++ [c0, c1, c2]) → w.grownBy w' v.ownBlock → K (a.put o.dst (.slice (some ⟨g, 0, none⟩) (n + 1) cap)) w') :
    if Region.wanted o (yielded ops a.tmps) = true then Oper.wp Tryd.prog o a w K Q else X := by
  have hw : Region.wanted o (yielded ops a.tmps) = true := by simp [Region.wanted, hg]
  rw [if_pos hw]
  obtain ⟨i, hi, hz0, hz1, hz2⟩ := info_parts Tryd.info75
  have hnews : ∀ j u, [c0, c1, c2][j]? = some u → w.cell? ((⟨b, 0, none⟩ : Addr).add j) = some u := by
    intro j u hu
    have hadd : (⟨b, 0, none⟩ : Addr).add j = ⟨b, j, none⟩ := by unfold Addr.add; split <;> simp_all
    rw [hadd, cell_row hb j]
    simpa using hu
  have hone : ∀ u ∈ [c0, c1, c2], u.oneCell' = true := by simp [h0, h1, h2]
  obtain ⟨v', w', hrun, r1, r2, _⟩ := run_append_own (P := Tryd.prog) w base 41 o.type 75 i _ 3 48 Tryd.underlying41 hi hz0 hz1 hz2 rfl (by decide) v n xs hown ⟨b, 0, none⟩ 1 1 [c0, c1, c2] rfl hnews hone (by unfold maxLen; omega) (by omega) hbase
  have hv : ∃ g cap, v' = .slice (some ⟨g, 0, none⟩) (n + 1) cap := by
    rcases r1.2 with ⟨_, h⟩ | ⟨g, cap, _, h, _⟩
    · omega
    · exact ⟨g, cap, h⟩
  obtain ⟨g, cap, rfl⟩ := hv
  unfold Oper.wp
  simp [execOp, hop, resolve, invoke, builtin, hs, hx, hrun, Result.andThen]
  exact hK g cap w' r1 r2

theorem BlocksAt.ne_row {w : World} {B : Nat} {sv : Value} {bs : List Nat} {blocks : List (List UInt8)} (h : BlocksAt w B sv bs blocks) {g : Nat} {c : Array Value} (hg : w.heap[g]? = some (.cells c 75 (0, 0))) : sv.ownBlock ≠ some g ∧ g ∉ bs := by
  refine ⟨fun e => ?_, fun hm => ?_⟩
  · rcases h.own.2 with ⟨h1, _⟩ | ⟨g', cap, cur, h1, _, hg', _⟩
    · rw [h1] at e; simp [Value.ownBlock] at e
    · rw [h1] at e; simp [Value.ownBlock] at e; subst e; rw [hg] at hg'; simp at hg'
  · obtain ⟨i, hi, rfl⟩ := List.getElem_of_mem hm
    have := (h.bytes i _ (blocks[i]'(by rw [← h.len]; exact hi)) (List.getElem?_eq_getElem hi) (List.getElem?_eq_getElem _)).2
    unfold BytesAt at this
    rw [hg] at this
    simp at this

/-- one file more. -/
theorem StateAt.snoc {w w2 w3 : World} {n B : Nat} {fv v' : Value} {l : List SFile} {e : SFile} {o : Obj} (h : StateAt w n B fv l) (hn : n ≤ w.heap.size) (hb : Below w.heap.size w w2) (he : BlocksAt w2 B e.sv e.bs e.file.blocks) (hef : FreshB w.heap.size e.sv e.bs)
    (hown : w3.ownsRow n 75 3 v' (l.length + 1) (l.flatMap SFile.cells ++ e.cells)) (hgr : (w2.alloc o).grownBy w3 fv.ownBlock) : StateAt w3 n B v' (l ++ [e]) ∧ Below n w w3 := by
  have hs := hb.size
  have hsz : (w2.alloc o).heap.size = w2.heap.size + 1 := by simp
  have hrow : ∀ g, fv.ownBlock = some g → n ≤ g ∧ g < w.heap.size ∧ ∃ c, w.heap[g]? = some (.cells c 75 (0, 0)) := by
    intro g hg
    rcases h.own.2 with ⟨h1, _⟩ | ⟨g', cap, cur, h1, hb', hg', _⟩
    · rw [h1] at hg; simp [Value.ownBlock] at hg
    · rw [h1] at hg; simp [Value.ownBlock] at hg; subst hg; exact ⟨hb', lt_of_block hg', cur, hg'⟩
  refine ⟨⟨?_, ?_, ?_⟩, ?_⟩
  · simpa [List.flatMap_append] using hown
  · intro x hx
    rcases List.mem_append.1 hx with hx | hx
    · refine (h.each x hx).kept fun b hb' => ?_
      have hlt : b < w.heap.size := by rcases hb' with h' | h'; exact (h.each x hx).lt.1 b h'; exact (h.each x hx).lt.2 b h'
      have hne : some b ≠ fv.ownBlock := fun e' => by
        obtain ⟨_, _, c, hc⟩ := hrow b e'.symm
        have := (h.each x hx).ne_row hc
        rcases hb' with h' | h'
        · exact this.1 h'
        · exact this.2 h'
      rw [hgr.block b (by omega) hne, Below.heap_alloc _ _ _ (by omega), hb.block b hlt]
    · simp at hx
      subst hx
      refine he.kept fun b hb' => ?_
      have hge : w.heap.size ≤ b := by rcases hb' with h' | h'; exact hef.1 b h'; exact hef.2.1 b h'
      have hlt : b < w2.heap.size := by rcases hb' with h' | h'; exact he.lt.1 b h'; exact he.lt.2 b h'
      have hne : some b ≠ fv.ownBlock := fun e' => by have := (hrow b e'.symm).2.1; omega
      rw [hgr.block b (by omega) hne, Below.heap_alloc _ _ _ hlt]
  · intro x hx
    rcases List.mem_append.1 hx with hx | hx
    · exact h.from_ x hx
    · simp at hx; subst hx; exact hef.mono hn
  · exact ((hb.mono hn).alloc (by omega) o).grown hgr (by omega) (fun k hk => (hrow k hk).1)

section
variable {w w' : World} {E : Nat → Addr} {lo p mf mt : Nat} {D : DiskC}

theorem Rep.look1 (h : Rep w lo p mf mt D) {e0 : Ent} (he : e0 ∈ D.ents) :
    (Instr.lookup 69 (.map (some mf)) (encStr e0.name) false).run Tryd.prog w = .ok (ptr e0.lay.fb) w := by
  have hs : (⟨e0.name.toArray⟩ : ByteArray).size ≤ 32 := by
    show e0.name.toArray.size ≤ 32
    simpa using h.names e0 he
  obtain ⟨v, ps, hrun, hv⟩ := h.files.lookup (t := 69) (e := 76) (Maps.string_keyed Tryd.underlying9) Tryd.underlying69 (Tryd.zero76 w) (zd := .nil) (zp := []) rfl (WideMaps.keyOf_string_mk Tryd.underlying9 (s := ⟨e0.name.toArray⟩) (by unfold maxLen; omega))
  rw [at_map] at hv
  have hf : findE D.ents e0.name = some e0 := by
    cases hx : findE D.ents e0.name with
    | none =>
      have := List.find?_eq_none.1 hx e0 he
      simp at this
    | some e1 => rw [h.one hx e0 he rfl]
  dsimp only at hv
  rw [hf] at hv
  rw [hrun, ptrElem_inv hv]
end
end Go.Proofs.YtcpncfngadablaaDoor
