import Derived.Test.YtcpncfngadablaaDoorG1
import Derived.LaidLaws
import Derived.MakeChecks
namespace Go.Proofs.YtcpncfngadablaaDoor
open Go.ChangeShapes Go.WideShapes Go.ChangeAt Go.RowKit Go.Deep

theorem cells182 : Tryd.prog.cellsOf 182 = 1 := by kernel_rfl
theorem star : "*" ++ "errors.errorString" = "*errors.errorString" := by decide
theorem row158 (u : TypeId) (h : Tryd.prog.typeName? 3 u = some "*errors.errorString") : u = 158 :=
  typeName_ptr_named (nm := "errors.errorString") (by rw [star]; kernel_rfl) (by kernel_rfl) (by decide) u (by rw [star]; exact h)


set_option maxRecDepth 100000 in
theorem laid_step {W : World} {n : String} {i : Nat} {text : List UInt8} {r : List (String × DataW Unit)} {ps all : List MemPlace} (hg : Tryd.prog.globalNamed n = some i) (ht : (Tryd.prog.globals[i]?).map (·.type) = some 55)
    (h : DataW.LaidVars Tryd.prog W ((n, .iface "*errors.errorString" (.ptr (.agg [.lit (.string text)]))) :: r) ps) (hsub : ∀ x ∈ ps, x ∈ all)
    (hrows : ∀ b off, MemPlace.cell b off ∈ all → (∃ c t, W.heap[b]? = some (.cells c t (0, 0))) ∧ ∀ u v, W.cell? ⟨b, off, none⟩ = some (.iface u v) → Value.okWide Tryd.prog W .any 0 u v) :
    ∃ (a : Addr) (q : List MemPlace), W.cell? ⟨i, 0, none⟩ = some (.iface 158 (.pointer (some a))) ∧ (∃ c t, W.heap[a.block]? = some (.cells c t (0, 0))) ∧ a.spot = none ∧ DataW.LaidVars Tryd.prog W r q ∧ ps = .cell i 0 :: .cell a.block a.off :: q := by
  obtain ⟨g, t, cs, f, p, q, hg0, ht0, hv0, hd0, hr, e⟩ := h
  obtain rfl := Option.some.inj (hg.symm.trans hg0)
  obtain rfl := Option.some.inj (ht.symm.trans ht0)
  obtain ⟨l0⟩ := cs
  have ok0 : ∀ u v, l0 = [.iface u v] → Value.okWide Tryd.prog W .any 0 u v := fun u v el => by
    subst el
    exact (hrows i 0 (hsub _ (by rw [e]; simp [MemPlace.row]))).2 u v (by simpa using World.var?_cell hg0 hv0 0)
  obtain ⟨a, s, rfl, hc, _, _, rfl⟩ := errorString_of_trod Tryd.underlying55 row158 Tryd.underlying158 Tryd.underlying182 rfl rfl Tryd.underlying9 cells182 cells9 hd0 ok0
  have hsp := World.cell?_spot hc
  have hps : ps = .cell i 0 :: .cell a.block a.off :: q := by rw [e]; simp [MemPlace.row]
  exact ⟨a, q, by simpa using World.var?_cell hg0 hv0 0, (hrows a.block a.off (hsub _ (by rw [hps]; simp))).1, hsp, hr, hps⟩

set_option maxRecDepth 100000 in
/-- the eleven errors of the package, as the row's list gives them. -/
theorem sents_of_laid {W : World} (h0 : laidMetH Tryd.prog Rows.diskGoesOnUptoRow.laid W) : ∃ E, Env W W.heap.size E := by
  have h : laidMet Tryd.prog Rows.diskGoesOnUptoRow.laid W := h0
  obtain ⟨ps, hl0, hnd, hrows⟩ := h
  obtain ⟨a0, q0, v0, o0, s0, hl1, e0⟩ := laid_step (W := W) (i := 0) (by kernel_rfl) (by kernel_rfl) hl0 (fun x hx => hx) hrows
  obtain ⟨a1, q1, v1, o1, s1, hl2, e1⟩ := laid_step (W := W) (i := 1) (by kernel_rfl) (by kernel_rfl) hl1 (fun x hx => by rw [e0]; simp [hx]) hrows
  obtain ⟨a2, q2, v2, o2, s2, hl3, e2⟩ := laid_step (W := W) (i := 2) (by kernel_rfl) (by kernel_rfl) hl2 (fun x hx => by rw [e0, e1]; simp [hx]) hrows
  obtain ⟨a3, q3, v3, o3, s3, hl4, e3⟩ := laid_step (W := W) (i := 3) (by kernel_rfl) (by kernel_rfl) hl3 (fun x hx => by rw [e0, e1, e2]; simp [hx]) hrows
  obtain ⟨a4, q4, v4, o4, s4, hl5, e4⟩ := laid_step (W := W) (i := 4) (by kernel_rfl) (by kernel_rfl) hl4 (fun x hx => by rw [e0, e1, e2, e3]; simp [hx]) hrows
  obtain ⟨a5, q5, v5, o5, s5, hl6, e5⟩ := laid_step (W := W) (i := 5) (by kernel_rfl) (by kernel_rfl) hl5 (fun x hx => by rw [e0, e1, e2, e3, e4]; simp [hx]) hrows
  obtain ⟨a6, q6, v6, o6, s6, hl7, e6⟩ := laid_step (W := W) (i := 6) (by kernel_rfl) (by kernel_rfl) hl6 (fun x hx => by rw [e0, e1, e2, e3, e4, e5]; simp [hx]) hrows
  obtain ⟨a7, q7, v7, o7, s7, hl8, e7⟩ := laid_step (W := W) (i := 7) (by kernel_rfl) (by kernel_rfl) hl7 (fun x hx => by rw [e0, e1, e2, e3, e4, e5, e6]; simp [hx]) hrows
  obtain ⟨a8, q8, v8, o8, s8, hl9, e8⟩ := laid_step (W := W) (i := 8) (by kernel_rfl) (by kernel_rfl) hl8 (fun x hx => by rw [e0, e1, e2, e3, e4, e5, e6, e7]; simp [hx]) hrows
  obtain ⟨a9, q9, v9, o9, s9, hl10, e9⟩ := laid_step (W := W) (i := 9) (by kernel_rfl) (by kernel_rfl) hl9 (fun x hx => by rw [e0, e1, e2, e3, e4, e5, e6, e7, e8]; simp [hx]) hrows
  obtain ⟨a10, q10, v10, o10, s10, hl11, e10⟩ := laid_step (W := W) (i := 10) (by kernel_rfl) (by kernel_rfl) hl10 (fun x hx => by rw [e0, e1, e2, e3, e4, e5, e6, e7, e8, e9]; simp [hx]) hrows
  rw [e0, e1, e2, e3, e4, e5, e6, e7, e8, e9, e10] at hnd
  have hsub : ([a0, a1, a2, a3, a4, a5, a6, a7, a8, a9, a10].map fun a => MemPlace.cell a.block a.off).Nodup := List.Nodup.sublist (.cons _ (.cons_cons _ (.cons _ (.cons_cons _ (.cons _ (.cons_cons _ (.cons _ (.cons_cons _ (.cons _ (.cons_cons _ (.cons _ (.cons_cons _ (.cons _ (.cons_cons _ (.cons _ (.cons_cons _ (.cons _ (.cons_cons _ (.cons _ (.cons_cons _ (.cons _ (.cons_cons _ (List.nil_sublist _))))))))))))))))))))))) hnd
  have hL : [a0, a1, a2, a3, a4, a5, a6, a7, a8, a9, a10].Nodup := (List.pairwise_map.1 hsub).imp (fun {a b} hab e => hab (by rw [e]))
  have hne : ∀ i j : Nat, i < 11 → j < 11 → (fun k => #[a0, a1, a2, a3, a4, a5, a6, a7, a8, a9, a10].getD k a0) i = (fun k => #[a0, a1, a2, a3, a4, a5, a6, a7, a8, a9, a10].getD k a0) j → i = j := fun i j hi hj e => by
    have e1 : ∀ k (hk : k < 11), #[a0, a1, a2, a3, a4, a5, a6, a7, a8, a9, a10].getD k a0 = [a0, a1, a2, a3, a4, a5, a6, a7, a8, a9, a10][k]'(by simpa using hk) := fun k hk => by simp [Array.getD, hk]
    simp only [e1 i hi, e1 j hj] at e
    have hp := List.pairwise_iff_getElem.1 hL
    rcases Nat.lt_trichotomy i j with h | h | h
    · exact absurd e (hp i j _ _ h)
    · exact h
    · exact absurd e.symm (hp j i _ _ h)
  refine ⟨fun k => #[a0, a1, a2, a3, a4, a5, a6, a7, a8, a9, a10].getD k a0, ⟨⟨fun i hi => ?_, fun i hi => ?_, hne⟩, ?_, fun i hi => ?_, Nat.le_refl _⟩⟩
  · match i, hi with
    | 0, _ => exact v0
    | 1, _ => exact v1
    | 2, _ => exact v2
    | 3, _ => exact v3
    | 4, _ => exact v4
    | 5, _ => exact v5
    | 6, _ => exact v6
    | 7, _ => exact v7
    | 8, _ => exact v8
    | 9, _ => exact v9
    | 10, _ => exact v10
  · match i, hi with
    | 0, _ => exact o0
    | 1, _ => exact o1
    | 2, _ => exact o2
    | 3, _ => exact o3
    | 4, _ => exact o4
    | 5, _ => exact o5
    | 6, _ => exact o6
    | 7, _ => exact o7
    | 8, _ => exact o8
    | 9, _ => exact o9
    | 10, _ => exact o10
  · have := World.block_lt_of_cell? W _ v10
    exact this
  · match i, hi with
    | 0, _ => exact (by obtain ⟨c, t, ho⟩ := o0; exact lt_of_block ho)
    | 1, _ => exact (by obtain ⟨c, t, ho⟩ := o1; exact lt_of_block ho)
    | 2, _ => exact (by obtain ⟨c, t, ho⟩ := o2; exact lt_of_block ho)
    | 3, _ => exact (by obtain ⟨c, t, ho⟩ := o3; exact lt_of_block ho)
    | 4, _ => exact (by obtain ⟨c, t, ho⟩ := o4; exact lt_of_block ho)
    | 5, _ => exact (by obtain ⟨c, t, ho⟩ := o5; exact lt_of_block ho)
    | 6, _ => exact (by obtain ⟨c, t, ho⟩ := o6; exact lt_of_block ho)
    | 7, _ => exact (by obtain ⟨c, t, ho⟩ := o7; exact lt_of_block ho)
    | 8, _ => exact (by obtain ⟨c, t, ho⟩ := o8; exact lt_of_block ho)
    | 9, _ => exact (by obtain ⟨c, t, ho⟩ := o9; exact lt_of_block ho)
    | 10, _ => exact (by obtain ⟨c, t, ho⟩ := o10; exact lt_of_block ho)
end Go.Proofs.YtcpncfngadablaaDoor
