import Derived.Test.YtcpncfngadablaaDoorZ30
namespace Go.Proofs.YtcpncfngadablaaDoor
open Go.RowKit Go.Deep

theorem field_files (B : Int) (v : Value) (W : World) : (Instr.field 43 (.agg #[.int .i64 B, v]) 1).run Tryd.prog W = .ok v W := by
  simp [Instr.field, asAgg, go_sem]

section
variable {w4 w5 X wr w7 : World} {g4 b1 b2 b3 b4 i : Nat} {v : Value} {cur c1 c2 c3 c4 : Array Value}

/-- the boxes behind the store into the list of the file's blocks. -/
theorem part_boxes (hcur : w4.heap[g4]? = some (.cells cur 31 (0, 0))) (h4X : Below w4.heap.size w4 X) (h5X : Below w5.heap.size w5 X) (hq : Quiet X wr) (h7 : Below wr.heap.size wr w7)
    (hz1 : w4.heap[b1]? = some (.cells c1 43 (0, 0))) (hz2 : w4.heap[b2]? = some (.cells c2 40 (0, 0))) (hx1 : w5.heap[b3]? = some (.cells c3 43 (0, 0))) (hx3 : X.heap[b4]? = some (.cells c4 75 (0, 0))) :
    ∀ Y, Below (w7.setCell ⟨g4, i, none⟩ v).heap.size (w7.setCell ⟨g4, i, none⟩ v) Y → Y.heap[b1]? = some (.cells c1 43 (0, 0)) ∧ Y.heap[b2]? = some (.cells c2 40 (0, 0)) ∧ Y.heap[b3]? = some (.cells c3 43 (0, 0)) ∧ Y.heap[b4]? = some (.cells c4 75 (0, 0)) := by
  intro Y hY
  have hXw : Below X.heap.size X wr := (Quiet.touch hq []).below (Nat.le_refl _) (by simp)
  have hX7 : Below X.heap.size X w7 := hXw.trans (h7.mono hXw.size)
  have h47 : Below w4.heap.size w4 w7 := h4X.trans (hX7.mono h4X.size)
  have h57 : Below w5.heap.size w5 w7 := h5X.trans (hX7.mono h5X.size)
  have hg : w7.heap[g4]? = some (.cells cur 31 (0, 0)) := (h47.block _ (lt_of_block hcur)).trans hcur
  have key : ∀ {b : Nat} {c : Array Value} {T : TypeId}, T ≠ 31 → w7.heap[b]? = some (.cells c T (0, 0)) → Y.heap[b]? = some (.cells c T (0, 0)) := fun {b c T} hT hb => by
    have hne : b ≠ g4 := fun e => by
      rw [e, hg] at hb
      simp only [Option.some.injEq, Obj.cells.injEq] at hb
      exact hT hb.2.1.symm
    have hs : (w7.setCell ⟨g4, i, none⟩ v).heap[b]? = w7.heap[b]? := Below.heap_setCell _ _ _ _ hne
    exact (hY.block b (lt_of_block (hs.trans hb))).trans (hs.trans hb)
  exact ⟨key (by decide) ((h47.block _ (lt_of_block hz1)).trans hz1), key (by decide) ((h47.block _ (lt_of_block hz2)).trans hz2), key (by decide) ((h57.block _ (lt_of_block hx1)).trans hx1), key (by decide) ((hX7.block _ (lt_of_block hx3)).trans hx3)⟩
end

section
variable {Y Z : World} {n1 n4 ki B : Nat} {x : Int} {s : ByteArray} {fv fv4 : Value} {l l4 : List SFile} {e : SFile}

/-- what cut has in hand when it holds the two states against each other. -/
structure EndAt (Y : World) (n1 n4 : Nat) (fv fv4 : Value) (l l4 : List SFile) (ki : Nat) (e : SFile) (s : ByteArray) : Prop where
  st : StateSh Y n1 fv l
  own : Y.ownsRow n4 75 3 fv4 l4.length (l4.flatMap SFile.cells)
  each : ∀ z ∈ l4.set ki e, BlocksSh Y z.sv z.file.blocks
  sl : ∀ z ∈ l4, ∃ a n c, z.sv = .slice a n c
  slE : ∃ a n c, e.sv = .slice a n c
  at_ : ki < l4.length
  name : ∃ h : ki < l4.length, l4[ki].name = nm s
  nameE : e.name = nm s
  rises : RisesS l4
  pub : (l4.set ki e).map SFile.pub = l.map SFile.pub
  few : l.length < 1099511627776
  fewB : ∀ z ∈ l, z.file.blocks.length ≤ 1099511627776

theorem EndAt.below (h : EndAt Y n1 n4 fv fv4 l l4 ki e s) (hb : Below Y.heap.size Y Z) : EndAt Z n1 n4 fv fv4 l l4 ki e s :=
  ⟨h.st.below hb, row_below h.own hb, fun z hz => (h.each z hz).below hb, h.sl, h.slE, h.at_, h.name, h.nameE, h.rises, h.pub, h.few, h.fewB⟩

theorem EndAt.len (h : EndAt Y n1 n4 fv fv4 l l4 ki e s) : l4.length = l.length := by
  have := congrArg List.length h.pub
  simpa using this

theorem EndAt.sorted (h : EndAt Y n1 n4 fv fv4 l l4 ki e s) : sortS (lessS s l4 ++ [e]) = l4.set ki e := by
  obtain ⟨hk, hn⟩ := h.name
  exact sort_back h.nameE l4 hk h.rises hn

theorem EndAt.lessLen (h : EndAt Y n1 n4 fv fv4 l l4 ki e s) : (lessS s l4).length + 1 = l4.length := by
  have h1 := congrArg List.length h.sorted
  have h2 := sortS_len (l := lessS s l4 ++ [e]) (lessS s l4 ++ [e]).length (Nat.le_refl _)
  rw [List.take_length] at h2
  rw [h2] at h1
  simpa using h1

theorem EndAt.without (h : EndAt Y n1 n4 fv fv4 l l4 ki e s) : Calls Tryd.prog 38 #[.agg #[.int .i64 x, fv4], .string s] Y fun r w' => ∃ fv2, r = .returned (.agg #[.int .i64 x, fv2]) ∧ w'.ownsRow Y.heap.size 75 3 fv2 (lessS s l4).length ((lessS s l4).flatMap SFile.cells) ∧ Below Y.heap.size Y w' :=
  Without_row s h.own h.sl (by have := h.len; have := h.few; omega)

theorem EndAt.state (h : EndAt Y n1 n4 fv fv4 l l4 ki e s) {b : Nat} {fv3 : Value} (ho : Y.ownsRow b 75 3 fv3 ((lessS s l4).length + 1) ((lessS s l4).flatMap SFile.cells ++ e.cells)) :
    Calls Tryd.prog 37 #[.int .i64 x, fv3] Y fun r w' => ∃ fv2, r = .returned (.agg #[.int .i64 x, fv2]) ∧ w'.ownsRow Y.heap.size 75 3 fv2 (l4.set ki e).length ((l4.set ki e).flatMap SFile.cells) ∧ Below Y.heap.size Y w' := by
  have h1 := StateF_any (w := Y) (x := x) (fv := fv3) (l := lessS s l4 ++ [e]) (n1 := b) (by simpa [List.flatMap_append] using ho) (fun z hz => by
    rcases List.mem_append.1 hz with hz | hz
    · exact h.sl z (List.mem_filter.1 hz).1
    · simp at hz; subst hz; exact h.slE) (by have := h.lessLen; have := h.len; have := h.few; simp; omega)
  rw [h.sorted] at h1
  exact h1

theorem EndAt.same (h : EndAt Y n1 n4 fv fv4 l l4 ki e s) {b : Nat} {fv3 : Value} (ho : Y.ownsRow b 75 3 fv3 (l4.set ki e).length ((l4.set ki e).flatMap SFile.cells)) :
    Calls Tryd.prog 11 #[.agg #[.int .i64 x, fv], .agg #[.int .i64 x, fv3]] Y fun r w' => r = .returned (.bool true) ∧ Below Y.heap.size Y w' :=
  SameState_sh h.st ⟨ho, h.each⟩ h.pub.symm (by have := h.few; omega) h.fewB
end
end Go.Proofs.YtcpncfngadablaaDoor
