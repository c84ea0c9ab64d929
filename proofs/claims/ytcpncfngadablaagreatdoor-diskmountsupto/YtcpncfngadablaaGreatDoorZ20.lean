import Derived.Test.YtcpncfngadablaaGreatDoorZ19
/-
  New: refused and granted, the landed one and the document's.
-/
namespace Go.Proofs.YtcpncfngadablaaGreatDoor
open Go.RowKit Go.Deep ShfKit
set_option maxRecDepth 100000
theorem Tryz.info65 : (Tryz.prog.info? 65).map (fun i => (i.zero, i.size, i.bytes)) = some (some (.agg #[.int .i64 0, .int .i64 0, .int .i64 0]), 3, 24) := by kernel_rfl
/-- a setup that a disk may have. -/
def SetOk (B Bs : Int) : Prop := 64 ≤ B ∧ B ≤ 65536 ∧ B % 32 = 0 ∧ 0 ≤ Bs ∧ Bs ≤ 1099511627776
theorem SetOk.not {B Bs : Int} (h : ¬ SetOk B Bs) : B < 64 ∨ (¬ B < 64 ∧ 65536 < B) ∨ (¬ B < 64 ∧ ¬ 65536 < B ∧ ¬ B % 32 = 0) ∨ (¬ B < 64 ∧ ¬ 65536 < B ∧ B % 32 = 0 ∧ Bs < 0) ∨ (¬ B < 64 ∧ ¬ 65536 < B ∧ B % 32 = 0 ∧ ¬ Bs < 0 ∧ 1099511627776 < Bs) := by
  unfold SetOk at h
  omega
section
variable {w : World} {E : Nat → Addr} {lo : Nat}
set_option maxHeartbeats 1000000 in
theorem checkSetup_bad (S : ∀ o, Sents (w.alloc o) E) {B Bs : Int} {ga : Option Addr} {gn gc : Nat} (h : ¬ SetOk B Bs) :
    Calls Tryz.prog 25 #[.agg #[.int .i64 B, .int .i64 Bs, .slice ga gn gc]] w fun e w' => e = .returned (errV E 0) ∧ Below w.heap.size w w' := by
  have c0 : ∀ o : Obj, (w.alloc o).cell? ⟨0, 0, none⟩ = some (errV E 0) := fun o => (S o).var 0 (by omega)
  have h2 := SetOk.not h
  clear h S
  rcases h2 with x1 | ⟨x1, x2⟩ | ⟨x1, x2, x3⟩ | ⟨x1, x2, x3, x4⟩ | ⟨x1, x2, x3, x4, x5⟩
  all_goals
    go_enter Tryz.func25, Tryz.ntmps25
    go_wp2
    go_ret
    exact ⟨rfl, (Below.refl _ w).alloc (Nat.le_refl _) _⟩
end
/-- a list of troubles in memory, cell by cell. -/
theorem TrsAt.cells {w : World} {a : Addr} {l : List TrA} (h : TrsAt w (some a) l) : ∀ (j : Nat) (u : Value), (l.flatMap TrA.cells)[j]? = some u → w.cell? (a.add j) = some u := by
  intro j u hj
  have hlen : (l.flatMap TrA.cells).length = l.length * 3 := by
    clear hj h
    induction l with
    | nil => rfl
    | cons x l ih => rw [List.flatMap_cons, List.length_append, ih]; simp [TrA.cells]; omega
  have hlt := (List.getElem?_eq_some_iff.1 hj).1
  have hk : j / 3 < l.length := by omega
  obtain ⟨a', e, _, c0, c1, c2⟩ := h.at_ (j / 3) hk
  cases e
  have hq := tflat3 (j / 3) (j % 3) l[j / 3] (List.getElem?_eq_getElem hk) (by omega)
  rw [show j / 3 * 3 + j % 3 = j by omega, hj] at hq
  have hadd : ∀ r, 0 < r → a.add (j / 3 * 3 + r) = ⟨(a.add (j / 3 * 3)).block, (a.add (j / 3 * 3)).off + r, none⟩ := fun r hr => by
    unfold Addr.add
    rw [if_neg (by omega)]
    split
    · next hz => rw [hz]; simp
    · simp [Nat.add_assoc]
  rcases (by omega : j % 3 = 0 ∨ j % 3 = 1 ∨ j % 3 = 2) with h3 | h3 | h3
  · rw [h3] at hq
    have e2 : j = j / 3 * 3 := by omega
    rw [e2, c0]
    simpa [TrA.cells] using hq.symm
  · rw [h3] at hq
    have e2 : j = j / 3 * 3 + 1 := by omega
    rw [e2, hadd 1 (by omega), c1]
    simpa [TrA.cells] using hq.symm
  · rw [h3] at hq
    have e2 : j = j / 3 * 3 + 2 := by omega
    rw [e2, hadd 2 (by omega), c2]
    simpa [TrA.cells] using hq.symm
theorem tflat_len (l : List TrA) : (l.flatMap TrA.cells).length = l.length * 3 := by
  induction l with
  | nil => rfl
  | cons x l ih => rw [List.flatMap_cons, List.length_append, ih]; simp [TrA.cells]; omega
theorem tflat_one (l : List TrA) : ∀ u ∈ l.flatMap TrA.cells, u.oneCell' = true := fun u hu => by
  obtain ⟨t, _, hu⟩ := List.mem_flatMap.1 hu
  simp only [TrA.cells, List.mem_cons, List.not_mem_nil, or_false] at hu
  rcases hu with rfl | rfl | rfl <;> rfl
/-- a row of troubles is a list of them. -/
theorem trs_own {w : World} {base : Nat} {v : Value} {l : List TrA} (h : w.ownsRow base 65 3 v l.length (l.flatMap TrA.cells)) (hw : ∀ k (hk : k < l.length), (Lit.int .i64 l[k].at_).wf = true) : ∃ sa c, v = .slice sa l.length c ∧ TrsAt w sa l ∧ ∀ a, sa = some a → base ≤ a.block ∧ a.spot = none ∧ a.off = 0 := by
  obtain ⟨sa, c, hv⟩ := sh_slice h
  refine ⟨sa, c, hv, ⟨fun k hk => ?_, hw⟩, fun a ha => ?_⟩
  · have c0 := tflat3 k 0 l[k] (List.getElem?_eq_getElem hk) (by omega)
    have c1 := tflat3 k 1 l[k] (List.getElem?_eq_getElem hk) (by omega)
    have c2 := tflat3 k 2 l[k] (List.getElem?_eq_getElem hk) (by omega)
    obtain ⟨G, gc, hv0, _, hG, d0, _⟩ := own_cell h (j := k * 3) (x := .int .i64 l[k].at_) (by simpa [TrA.cells] using c0)
    have at_ : ∀ (j : Nat) (x : Value), (l.flatMap TrA.cells)[j]? = some x → w.cell? ⟨G, j, none⟩ = some x := fun j x hj => by
      obtain ⟨g', c', e', _, _, hc, _⟩ := own_cell h hj
      rw [hv0] at e'
      simp only [Value.slice.injEq, Option.some.injEq, Addr.mk.injEq] at e'
      obtain ⟨⟨rfl, _⟩, _⟩ := e'
      exact hc
    rw [hv] at hv0
    simp only [Value.slice.injEq, true_and] at hv0
    refine ⟨⟨G, 0, none⟩, hv0.1, hG, ?_, ?_, ?_⟩
    · rw [add_zero_addr]
      exact d0
    · rw [add_zero_addr]
      exact at_ _ _ (by simpa [TrA.cells] using c1)
    · rw [add_zero_addr]
      exact at_ _ _ (by simpa [TrA.cells] using c2)
  · rcases h.2 with ⟨e, _⟩ | ⟨g, cap, cur, e, hb, _⟩
    · rw [hv, ha] at e
      cases e
    · rw [hv, ha] at e
      simp only [Value.slice.injEq, Option.some.injEq] at e
      obtain ⟨rfl, _⟩ := e
      exact ⟨hb, rfl, rfl⟩
theorem wp_farO {o : Oper} {a : Act} {w : World} {K : Act → World → Prop} {Q : Exit → Act → World → Prop} (hg : o.guard = none) (sl x : Operand) (t e : TypeId) (z : Value) (size bytes : Nat)
    (ho : o.op = .call { callee := .builtin .append, args := #[sl, x], argTypes := #[t, t] }) (hu : Tryz.prog.underlying t = some (.slice e)) (hinf : (Tryz.prog.info? e).map (fun i => (i.zero, i.size, i.bytes)) = some (some z, size, bytes))
    (hzs : z.cells.size = size) (hsz : 0 < size) (B n m c : Nat) (v : Value) (xs news : List Value) (ad : Addr) (hs : a.eval sl = v) (hown : w.ownsRow B e size v n xs) (hx : a.eval x = .slice (some ad) m c)
    (hl : news.length = m * size) (hnews : ∀ j u, news[j]? = some u → w.cell? (ad.add j) = some u) (h1 : ∀ u ∈ news, u.oneCell' = true) (hn : n + m ≤ 1099511627776) (hby : (n + m) * bytes ≤ 140737488355328) (hB : B ≤ w.heap.size)
    (h : ∀ v' w', w'.ownsRow B e size v' (n + m) (xs ++ news) → ((v'.ownBlock = v.ownBlock ∧ w.grownBy w' v.ownBlock) ∨ ((∀ g, v'.ownBlock = some g → w.heap.size ≤ g) ∧ w.grownBy w' none)) → K (a.put o.dst v') w') :
    Oper.wp Tryz.prog o a w K Q := by
  have hw : Region.wanted o (yielded #[] a.tmps) = true := by simp [Region.wanted, hg]
  have := step_far (ops := #[]) (X := False) hg sl x t e z size bytes ho hu hinf hzs hsz B n m c v xs news ad hs hown hx hl hnews h1 hn hby hB h (Q := Q)
  rw [if_pos hw] at this
  exact this
theorem wp_none {o : Oper} {a : Act} {w : World} {K : Act → World → Prop} {Q : Exit → Act → World → Prop} (sl x : Operand) (t e : TypeId) (z : Value) (size bytes : Nat)
    (ho : o.op = .call { callee := .builtin .append, args := #[sl, x], argTypes := #[t, t] }) (hu : Tryz.prog.underlying t = some (.slice e)) (hinf : (Tryz.prog.info? e).map (fun i => (i.zero, i.size, i.bytes)) = some (some z, size, bytes))
    (b : Option Addr) (n cap c : Nat) (hs : a.eval sl = .slice b n cap) (hx : a.eval x = .slice none 0 c) (hn : n ≤ cap) (h : K (a.put o.dst (.slice b n cap)) w) :
    Oper.wp Tryz.prog o a w K Q := by
  obtain ⟨i, hi, _⟩ := info_parts hinf
  have hrun := run_append_none (P := Tryz.prog) w t o.type e i hu hi b n cap c hn
  unfold Oper.wp
  simp [execOp, ho, resolve, invoke, builtin, hs, hx, hrun, Result.andThen]
  exact h
def RefD.new (p : Nat) (tv : Value) (l : List TrA) (B : Nat) (Bs : Int) : RefD := ⟨p, .slice none 0 0, tv, [], l, B, Bs, true, ⟨0, 0, 0, 0, 0, 0, 0⟩⟩
theorem RefAt.new {w : World} {p : Nat} {tv : Value} {l : List TrA} {B : Nat} {Bs : Int} (hrow : w.heap[p]? = some (.cells (RefD.new p tv l B Bs).row 100 (0, 0))) (ht : w.ownsRow 0 65 3 tv l.length (l.flatMap TrA.cells)) : RefAt w (RefD.new p tv l B Bs) :=
  ⟨hrow, World.ownsRow_nil _ _ _ _, ht, Fam.nil _ _ _ _, Fam.nil _ _ _ _, by simp [RefD.new]⟩
set_option maxHeartbeats 1000000 in
theorem rNew_bad {w : World} {B Bs : Int} {ga : Option Addr} {gn gc : Nat} (h : ¬ SetOk B Bs) :
    Calls Tryz.prog 20 #[.agg #[.int .i64 B, .int .i64 Bs, .slice ga gn gc]] w fun e w' => e = .returned (.tuple #[.pointer none, .int .i64 1]) ∧ Below w.heap.size w w' := by
  have h2 := SetOk.not h
  clear h
  rcases h2 with x1 | ⟨x1, x2⟩ | ⟨x1, x2, x3⟩ | ⟨x1, x2, x3, x4⟩ | ⟨x1, x2, x3, x4, x5⟩
  all_goals
    go_enter Tryz.func20, Tryz.ntmps20
    go_wp2
    go_ret2
    exact ⟨rfl, (Below.refl _ w).alloc (Nat.le_refl _) _⟩
set_option maxHeartbeats 2000000 in
theorem rNew_ok {w : World} {B : Nat} {Bs : Int} (h1 : 64 ≤ B) (h2 : B ≤ 65536) (h3 : (B : Int) % 32 = 0) (h4 : 0 ≤ Bs) (h5 : Bs ≤ 1099511627776) {sa : Option Addr} {ca : Nat} {l : List TrA} (hl : TrsAt w sa l) (hs : sa = none → l = []) (hlen : l.length ≤ 1073741824) :
    Calls Tryz.prog 20 #[.agg #[.int .i64 (B : Int), .int .i64 Bs, .slice sa l.length ca]] w fun e w' => ∃ p tv, e = .returned (.tuple #[.pointer (some ⟨p, 0, none⟩), .int .i64 0]) ∧ RefAt w' (RefD.new p tv l B Bs) ∧ (∀ b ∈ (RefD.new p tv l B Bs).foot, w.heap.size ≤ b) ∧ Below w.heap.size w w' := by
  have x1 : ¬ (B : Int) < 64 := by omega
  have x2 : ¬ (65536 : Int) < (B : Int) := by omega
  have x4 : ¬ Bs < 0 := by omega
  have x5 : ¬ 1099511627776 < Bs := by omega
  obtain ⟨X, hX⟩ : ∃ X, X = (w.alloc (.cells #[.int .i64 (B : Int), .int .i64 Bs, .slice sa l.length ca] 29)) := ⟨_, rfl⟩
  have rowX : X.heap[w.heap.size]? = some (.cells #[.int .i64 (B : Int), .int .i64 Bs, .slice sa l.length ca] 29) := by rw [hX]; exact heap_alloc_new w _
  have bX : Below w.heap.size w X := by rw [hX]; exact ((Below.refl _ w).alloc (Nat.le_refl _) _)
  have KS : Hid (∀ V, Below X.heap.size X V → V.cell? ⟨w.heap.size, 0, none⟩ = some (.int .i64 (B : Int)) ∧ V.cell? ⟨w.heap.size, 1, none⟩ = some (.int .i64 Bs) ∧ V.cell? ⟨w.heap.size, 2, none⟩ = some (.slice sa l.length ca)) := fun V hb => by
    have hV := (hb.block _ (lt_of_block rowX)).trans rowX
    exact ⟨cell_row hV 0, cell_row hV 1, cell_row hV 2⟩
  have CS := KS.out X (Below.refl _ _)
  have lX := lt_of_block rowX
  have BX := hid bX
  have HX := hid hX
  cases sa with
  | none =>
    have hl0 := hs rfl
    subst hl0
    have cs8 : ∀ o : Obj, (X.alloc o).cell? ⟨w.heap.size, 0, none⟩ = some (.int .i64 (B : Int)) ∧ (X.alloc o).cell? ⟨w.heap.size, 1, none⟩ = some (.int .i64 Bs) ∧ (X.alloc o).cell? ⟨w.heap.size, 2, none⟩ = some (.slice none 0 ca) := fun o => KS.out _ ((Below.refl _ _).alloc (Nat.le_refl _) _)
    have hX0 : Hid (X = w.alloc (.cells #[.int .i64 (B : Int), .int .i64 Bs, .slice none 0 ca] 29)) := HX.out
    clear hl hs hX rowX bX KS
    simp only [List.length_nil] at CS ⊢
    go_enter Tryz.func20, Tryz.ntmps20
    go_wp2
    rw [← hX0.out]
    refine wp_region_noPanic ?_
    refine wp_region_held_drew (S := fun V => V.cell? ⟨w.heap.size, 0, none⟩ = some (.int .i64 (B : Int)) ∧ V.cell? ⟨w.heap.size, 1, none⟩ = some (.int .i64 Bs) ∧ V.cell? ⟨w.heap.size, 2, none⟩ = some (.slice none 0 ca)) (by kernel_rfl) CS (fun hHeld => ?_)
    refine wpAnyH_take (i := 0) (v := ?_) (by simp only [List.getElem?_toArray, List.getElem?_cons_zero]; rfl) (by kernel_rfl) (by kernel_rfl) (by kernel_rfl) (fun _ _ _ h => h) (Or.inl ⟨by rfl, ?_⟩) (by assumption) ?_
    rotate_left 1
    · intro w hSw; (try dsimp only at hSw); go_simp; (try with_reducible rfl)
    try simp only [Act.put, List.setIfInBounds_toArray, List.set_cons_zero, List.set_cons_succ]
    refine wpAnyH_take (i := 1) (v := ?_) (by simp only [List.getElem?_toArray, List.getElem?_cons_succ, List.getElem?_cons_zero]; rfl) (by kernel_rfl) (by kernel_rfl) (by kernel_rfl) (fun _ _ _ h => h) (Or.inl ⟨by rfl, ?_⟩) (by assumption) ?_
    rotate_left 1
    · intro w hSw; (try dsimp only at hSw); go_simp; (try with_reducible rfl)
    try simp only [Act.put, List.setIfInBounds_toArray, List.set_cons_zero, List.set_cons_succ]
    refine wpAnyH_take (i := 2) (v := ?_) (by simp only [List.getElem?_toArray, List.getElem?_cons_succ, List.getElem?_cons_zero]; rfl) (by kernel_rfl) (by kernel_rfl) (by kernel_rfl) (fun _ _ _ h => h) (Or.inl ⟨by rfl, ?_⟩) (by assumption) ?_
    rotate_left 1
    · intro w hSw; (try dsimp only at hSw); go_simp; (try with_reducible rfl)
    try simp only [Act.put, List.setIfInBounds_toArray, List.set_cons_zero, List.set_cons_succ]
    refine wpAnyH_take (i := 3) (v := ?_) (by simp only [List.getElem?_toArray, List.getElem?_cons_succ, List.getElem?_cons_zero]; rfl) (by kernel_rfl) (by kernel_rfl) (by kernel_rfl) (fun _ _ _ h => h) (Or.inl ⟨by rfl, ?_⟩) (by assumption) ?_
    rotate_left 1
    · intro w hSw; (try dsimp only at hSw); go_simp; (try with_reducible rfl)
    try simp only [Act.put, List.setIfInBounds_toArray, List.set_cons_zero, List.set_cons_succ]
    refine wpAnyH_take (i := 4) (v := ?_) (by simp only [List.getElem?_toArray, List.getElem?_cons_succ, List.getElem?_cons_zero]; rfl) (by kernel_rfl) (by kernel_rfl) (by kernel_rfl) (fun _ _ _ h => h) (Or.inl ⟨by rfl, ?_⟩) (by assumption) ?_
    rotate_left 1
    · intro w hSw; (try dsimp only at hSw); go_simp; (try with_reducible rfl)
    try simp only [Act.put, List.setIfInBounds_toArray, List.set_cons_zero, List.set_cons_succ]
    refine wpAnyH_take (i := 5) (v := ?_) (by simp only [List.getElem?_toArray, List.getElem?_cons_succ, List.getElem?_cons_zero]; rfl) (by kernel_rfl) (by kernel_rfl) (by kernel_rfl) (fun _ _ _ h => h) (Or.inl ⟨by rfl, ?_⟩) (by assumption) ?_
    rotate_left 1
    · intro w hSw; (try dsimp only at hSw); go_simp; (try with_reducible rfl)
    try simp only [Act.put, List.setIfInBounds_toArray, List.set_cons_zero, List.set_cons_succ]
    refine wpAnyH_ready (rs := [6]) (by kernel_rfl) (by simp) ?_
    refine AllReadyH.cons (by simp only [List.getElem?_toArray, List.getElem?_cons_succ, List.getElem?_cons_zero]; rfl) (fun K hK => ?_) AllReadyH.nil
    skip
    refine wp_none _ _ 27 65 _ 3 24 rfl Tryz.underlying27 Tryz.info65 none 0 0 ca rfl rfl (Nat.le_refl _) ?_
    clear hHeld
    refine hK.out _ _ CS (fun hHeld => ?_)
    clear hK K
    try simp only [Act.put, List.setIfInBounds_toArray, List.set_cons_zero, List.set_cons_succ]
    refine wpAnyH_take (i := 7) (v := ?_) (by simp only [List.getElem?_toArray, List.getElem?_cons_succ, List.getElem?_cons_zero]; rfl) (by kernel_rfl) (by kernel_rfl) (by kernel_rfl) (fun _ _ _ h => h) (Or.inl ⟨by rfl, ?_⟩) (by assumption) ?_
    rotate_left 1
    · intro w hSw; (try dsimp only at hSw); go_simp; (try with_reducible rfl)
    try simp only [Act.put, List.setIfInBounds_toArray, List.set_cons_zero, List.set_cons_succ]
    refine wpAnyH_ready (rs := [8]) (by kernel_rfl) (by simp) ?_
    refine AllReadyH.cons (by simp only [List.getElem?_toArray, List.getElem?_cons_succ, List.getElem?_cons_zero]; rfl) (fun K hK => ?_) AllReadyH.nil
    go_simp
    clear hHeld
    refine hK.out _ _ (cs8 _) (fun hHeld => ?_)
    clear hK K
    try simp only [Act.put, List.setIfInBounds_toArray, List.set_cons_zero, List.set_cons_succ]
    refine wpAnyH_take (i := 9) (v := ?_) (by simp only [List.getElem?_toArray, List.getElem?_cons_succ, List.getElem?_cons_zero]; rfl) (by kernel_rfl) (by kernel_rfl) (by kernel_rfl) (fun _ _ _ h => h) (Or.inl ⟨by rfl, ?_⟩) (by assumption) ?_
    rotate_left 1
    · intro w hSw; (try dsimp only at hSw); go_simp; (try with_reducible rfl)
    try simp only [Act.put, List.setIfInBounds_toArray, List.set_cons_zero, List.set_cons_succ]
    refine wpAnyH_take (i := 10) (v := ?_) (by simp only [List.getElem?_toArray, List.getElem?_cons_succ, List.getElem?_cons_zero]; rfl) (by kernel_rfl) (by kernel_rfl) (by kernel_rfl) (fun _ _ _ h => h) (Or.inl ⟨by rfl, ?_⟩) (by assumption) ?_
    rotate_left 1
    · intro w hSw; (try dsimp only at hSw); go_simp; (try with_reducible rfl)
    try simp only [Act.put, List.setIfInBounds_toArray, List.set_cons_zero, List.set_cons_succ]
    refine wpAnyH_done (by kernel_rfl) ?_ _
    refine NoPanic.normal ?_
    go_wp2
    refine bodyPost_ret (v := .tuple #[.pointer (some ⟨X.heap.size, 0, none⟩), .int .i64 0]) (by simp [results, Tryz.results20, go_sem]) rfl ?_
    refine ⟨X.heap.size, .slice none 0 0, rfl, RefAt.new (heap_alloc_new X.drew _) (World.ownsRow_nil _ _ _ _), ?_, ?_⟩
    · intro b hb
      have z2 := BX.out.size
      simp [RefD.foot, RefD.new, blks, Value.ownBlock] at hb
      omega
    · exact (BX.out.drew).alloc BX.out.size _
  | some a =>
    have TC : Hid (∀ (j : Nat) (u : Value), (l.flatMap TrA.cells)[j]? = some u → X.cell? (a.add j) = some u) := by
      rw [hX]
      exact fun j u hj => (hl.below (((Below.refl w.heap.size w).alloc (Nat.le_refl _) _))).cells j u hj
    clear hl hs hX rowX bX
    go_enter Tryz.func20, Tryz.ntmps20
    go_wp2
    rw [← HX.out]
    refine wp_region_noPanic ?_
    refine wp_region_held_drew (S := fun V => V.cell? ⟨w.heap.size, 0, none⟩ = some (.int .i64 (B : Int)) ∧ V.cell? ⟨w.heap.size, 1, none⟩ = some (.int .i64 Bs) ∧ V.cell? ⟨w.heap.size, 2, none⟩ = some (.slice (some a) l.length ca)) (by kernel_rfl) CS (fun hHeld => ?_)
    refine wpAnyH_take (i := 0) (v := ?_) (by simp only [List.getElem?_toArray, List.getElem?_cons_zero]; rfl) (by kernel_rfl) (by kernel_rfl) (by kernel_rfl) (fun _ _ _ h => h) (Or.inl ⟨by rfl, ?_⟩) (by assumption) ?_
    rotate_left 1
    · intro w hSw; (try dsimp only at hSw); go_simp; (try with_reducible rfl)
    try simp only [Act.put, List.setIfInBounds_toArray, List.set_cons_zero, List.set_cons_succ]
    refine wpAnyH_take (i := 1) (v := ?_) (by simp only [List.getElem?_toArray, List.getElem?_cons_succ, List.getElem?_cons_zero]; rfl) (by kernel_rfl) (by kernel_rfl) (by kernel_rfl) (fun _ _ _ h => h) (Or.inl ⟨by rfl, ?_⟩) (by assumption) ?_
    rotate_left 1
    · intro w hSw; (try dsimp only at hSw); go_simp; (try with_reducible rfl)
    try simp only [Act.put, List.setIfInBounds_toArray, List.set_cons_zero, List.set_cons_succ]
    refine wpAnyH_take (i := 2) (v := ?_) (by simp only [List.getElem?_toArray, List.getElem?_cons_succ, List.getElem?_cons_zero]; rfl) (by kernel_rfl) (by kernel_rfl) (by kernel_rfl) (fun _ _ _ h => h) (Or.inl ⟨by rfl, ?_⟩) (by assumption) ?_
    rotate_left 1
    · intro w hSw; (try dsimp only at hSw); go_simp; (try with_reducible rfl)
    try simp only [Act.put, List.setIfInBounds_toArray, List.set_cons_zero, List.set_cons_succ]
    refine wpAnyH_take (i := 3) (v := ?_) (by simp only [List.getElem?_toArray, List.getElem?_cons_succ, List.getElem?_cons_zero]; rfl) (by kernel_rfl) (by kernel_rfl) (by kernel_rfl) (fun _ _ _ h => h) (Or.inl ⟨by rfl, ?_⟩) (by assumption) ?_
    rotate_left 1
    · intro w hSw; (try dsimp only at hSw); go_simp; (try with_reducible rfl)
    try simp only [Act.put, List.setIfInBounds_toArray, List.set_cons_zero, List.set_cons_succ]
    refine wpAnyH_take (i := 4) (v := ?_) (by simp only [List.getElem?_toArray, List.getElem?_cons_succ, List.getElem?_cons_zero]; rfl) (by kernel_rfl) (by kernel_rfl) (by kernel_rfl) (fun _ _ _ h => h) (Or.inl ⟨by rfl, ?_⟩) (by assumption) ?_
    rotate_left 1
    · intro w hSw; (try dsimp only at hSw); go_simp; (try with_reducible rfl)
    try simp only [Act.put, List.setIfInBounds_toArray, List.set_cons_zero, List.set_cons_succ]
    refine wpAnyH_take (i := 5) (v := ?_) (by simp only [List.getElem?_toArray, List.getElem?_cons_succ, List.getElem?_cons_zero]; rfl) (by kernel_rfl) (by kernel_rfl) (by kernel_rfl) (fun _ _ _ h => h) (Or.inl ⟨by rfl, ?_⟩) (by assumption) ?_
    rotate_left 1
    · intro w hSw; (try dsimp only at hSw); go_simp; (try with_reducible rfl)
    try simp only [Act.put, List.setIfInBounds_toArray, List.set_cons_zero, List.set_cons_succ]
    refine wpAnyH_ready (rs := [6]) (by kernel_rfl) (by simp) ?_
    refine AllReadyH.cons (by simp only [List.getElem?_toArray, List.getElem?_cons_succ, List.getElem?_cons_zero]; rfl) (fun K hK => ?_) AllReadyH.nil
    skip
    refine wp_farO rfl _ _ 27 65 _ 3 24 rfl Tryz.underlying27 Tryz.info65 rfl (by decide) X.heap.size 0 l.length ca (.slice none 0 0) [] (l.flatMap TrA.cells) a rfl (World.ownsRow_nil _ _ _ _) rfl (tflat_len l) (fun j u hj => TC.out j u hj) (tflat_one l) (by omega) (by omega) (Nat.le_refl _) ?_
    intro v7 W7 o7 f7
    rw [Nat.zero_add, List.nil_append] at o7
    have g7 : X.drew.grownBy W7 none := by rcases f7 with ⟨_, h1⟩ | ⟨_, h1⟩ <;> exact h1
    have b7 : Below X.heap.size X W7 := ⟨g7.os, g7.tape, g7.output, g7.size, fun b hb => g7.block b hb (by simp)⟩
    obtain ⟨va, vc, rfl⟩ := sh_slice o7
    have O7 := hid o7
    have B7 := hid b7
    have cs7 := KS.out _ b7
    clear o7 f7 g7 b7
    clear hHeld
    refine hK.out _ _ cs7 (fun hHeld => ?_)
    clear hK K
    try simp only [Act.put, List.setIfInBounds_toArray, List.set_cons_zero, List.set_cons_succ]
    refine wpAnyH_take (i := 7) (v := ?_) (by simp only [List.getElem?_toArray, List.getElem?_cons_succ, List.getElem?_cons_zero]; rfl) (by kernel_rfl) (by kernel_rfl) (by kernel_rfl) (fun _ _ _ h => h) (Or.inl ⟨by rfl, ?_⟩) (by assumption) ?_
    rotate_left 1
    · intro w hSw; (try dsimp only at hSw); go_simp; (try with_reducible rfl)
    try simp only [Act.put, List.setIfInBounds_toArray, List.set_cons_zero, List.set_cons_succ]
    refine wpAnyH_ready (rs := [8]) (by kernel_rfl) (by simp) ?_
    refine AllReadyH.cons (by simp only [List.getElem?_toArray, List.getElem?_cons_succ, List.getElem?_cons_zero]; rfl) (fun K hK => ?_) AllReadyH.nil
    go_simp
    clear hHeld
    refine hK.out _ _ (KS.out _ (B7.out.alloc B7.out.size _)) (fun hHeld => ?_)
    clear hK K
    try simp only [Act.put, List.setIfInBounds_toArray, List.set_cons_zero, List.set_cons_succ]
    refine wpAnyH_take (i := 9) (v := ?_) (by simp only [List.getElem?_toArray, List.getElem?_cons_succ, List.getElem?_cons_zero]; rfl) (by kernel_rfl) (by kernel_rfl) (by kernel_rfl) (fun _ _ _ h => h) (Or.inl ⟨by rfl, ?_⟩) (by assumption) ?_
    rotate_left 1
    · intro w hSw; (try dsimp only at hSw); go_simp; (try with_reducible rfl)
    try simp only [Act.put, List.setIfInBounds_toArray, List.set_cons_zero, List.set_cons_succ]
    refine wpAnyH_take (i := 10) (v := ?_) (by simp only [List.getElem?_toArray, List.getElem?_cons_succ, List.getElem?_cons_zero]; rfl) (by kernel_rfl) (by kernel_rfl) (by kernel_rfl) (fun _ _ _ h => h) (Or.inl ⟨by rfl, ?_⟩) (by assumption) ?_
    rotate_left 1
    · intro w hSw; (try dsimp only at hSw); go_simp; (try with_reducible rfl)
    try simp only [Act.put, List.setIfInBounds_toArray, List.set_cons_zero, List.set_cons_succ]
    refine wpAnyH_done (by kernel_rfl) ?_ _
    refine NoPanic.normal ?_
    go_wp2
    refine bodyPost_ret (v := .tuple #[.pointer (some ⟨W7.heap.size, 0, none⟩), .int .i64 0]) (by simp [results, Tryz.results20, go_sem]) rfl ?_
    refine ⟨W7.heap.size, .slice va l.length vc, rfl, RefAt.new (heap_alloc_new W7 _) ?_, ?_, ?_⟩
    · exact own_base (own_kept O7.out fun g hg => Below.heap_alloc _ _ _ (own_block O7.out hg).2) (Nat.zero_le _)
    · intro b hb
      have z1 := B7.out.size
      have z2 := BX.out.size
      simp only [RefD.foot, RefD.new, List.mem_cons, List.mem_append, Option.mem_toList] at hb
      rcases hb with rfl | hb | hb | hb | hb
      · omega
      · simp [Value.ownBlock] at hb
      · have := (own_block O7.out hb).1; omega
      · simp [blks] at hb
      · simp [blks] at hb
    · exact (BX.out.trans (B7.out.mono BX.out.size)).alloc (Nat.le_trans BX.out.size B7.out.size) _
end Go.Proofs.YtcpncfngadablaaGreatDoor
/-
  DiskPlays: the law.
-/
namespace Go.Proofs.YtcpncfngadablaaGreatDoor
open Go.RowKit Go.Deep ShfKit
set_option maxRecDepth 100000
theorem below_of_far {W W3 : World} {v v3 : Value} (hv : v.ownBlock = none) (h : (v3.ownBlock = v.ownBlock ∧ W.grownBy W3 v.ownBlock) ∨ ((∀ g, v3.ownBlock = some g → W.heap.size ≤ g) ∧ W.grownBy W3 none)) : Below W.heap.size W W3 := by
  have g : W.grownBy W3 none := by
    rcases h with ⟨_, h⟩ | ⟨_, h⟩
    · rw [hv] at h
      exact h
    · exact h
  exact ⟨g.os, g.tape, g.output, g.size, fun b hb => g.block b hb (by simp)⟩
/-- the troubles are written over. -/
theorem own_over {W : World} {n : Nat} {va : Option Addr} {vc i : Nat} {xs : List Value} (h : W.ownsRow 0 65 3 (.slice va n vc) n xs) (hi : i < n) : ∃ G, va = some ⟨G, 0, none⟩ ∧ (∃ a b c, W.cell? ⟨G, i * 3, none⟩ = some a ∧ W.cell? ⟨G, i * 3 + 1, none⟩ = some b ∧ W.cell? ⟨G, i * 3 + 2, none⟩ = some c) ∧ (∀ j, W.frozen? ⟨G, j, none⟩ = false) ∧ G < W.heap.size ∧ ∀ u0 u1 u2, ∃ ys, (((W.setCell ⟨G, i * 3, none⟩ u0).setCell ⟨G, i * 3 + 1, none⟩ u1).setCell ⟨G, i * 3 + 2, none⟩ u2).ownsRow 0 65 3 (.slice va n vc) n ys := by
  have hl : xs.length = n * 3 := h.1
  obtain ⟨a, ha⟩ : ∃ a, xs[i * 3]? = some a := ⟨_, List.getElem?_eq_getElem (by omega)⟩
  obtain ⟨b, hb⟩ : ∃ b, xs[i * 3 + 1]? = some b := ⟨_, List.getElem?_eq_getElem (by omega)⟩
  obtain ⟨c, hc⟩ : ∃ c, xs[i * 3 + 2]? = some c := ⟨_, List.getElem?_eq_getElem (by omega)⟩
  obtain ⟨G, gc, e1, _, hG, k1, _⟩ := own_cell h ha
  obtain ⟨G2, gc2, e2, _, _, k2, _⟩ := own_cell h hb
  obtain ⟨G3, gc3, e3, _, _, k3, _⟩ := own_cell h hc
  simp only [Value.slice.injEq, true_and] at e1 e2 e3
  obtain ⟨rfl, rfl⟩ := e1
  simp only [Option.some.injEq, Addr.mk.injEq] at e2 e3
  obtain ⟨⟨rfl, _⟩, _⟩ := e2
  obtain ⟨⟨rfl, _⟩, _⟩ := e3
  refine ⟨G, rfl, ⟨a, b, c, k1, k2, k3⟩, fun j => ?_, hG, fun u0 u1 u2 => ?_⟩
  · rcases h.2 with ⟨e', _⟩ | ⟨g', cap, cur, e', _, hr, _⟩
    · cases e'
    · simp only [Value.slice.injEq, Option.some.injEq, Addr.mk.injEq] at e'
      obtain ⟨⟨rfl, _⟩, _⟩ := e'
      exact unfrozen_row hr j
  · obtain ⟨s1, _⟩ := own_set h (j := i * 3) rfl u0
    obtain ⟨s2, _⟩ := own_set s1 (j := i * 3 + 1) rfl u1
    obtain ⟨s3, _⟩ := own_set s2 (j := i * 3 + 2) rfl u2
    exact ⟨_, s3⟩
end Go.Proofs.YtcpncfngadablaaGreatDoor
/-
  What came in: a setup, a script with its names.
-/
namespace Go.Proofs.YtcpncfngadablaaGreatDoor
open Go.ChangeShapes Go.WideShapes Go.ChangeAt Go.RowKit Go.Deep
theorem cells65 : Tryz.prog.cellsOf 65 = 3 := by kernel_rfl
theorem cells27 : Tryz.prog.cellsOf 27 = 1 := by kernel_rfl
theorem cells29 : Tryz.prog.cellsOf 29 = 3 := by kernel_rfl

section
variable {H : Type} {enc : TypeId × Value → H} {W : World} {spare : Nat → Bool} {held : Bool}

set_option maxRecDepth 100000 in
theorem open_op2 {n : Nat} {a : Addr} {cs : List Value} {x : DataW H × List MemPlace} (h1 : W.cells? 0 a 5 = some cs) (h2 : DataW.trod enc Tryz.prog W 0 spare held n 40 cs = some x) :
    ∃ (o : OpA) (sb : Option Addr) (m c : Nat), W.cell? a = some (.int .i64 o.kind) ∧ W.cell? ⟨a.block, a.off + 1, none⟩ = some (.string o.name) ∧ W.cell? ⟨a.block, a.off + 2, none⟩ = some (.int .i64 o.N) ∧ W.cell? ⟨a.block, a.off + 3, none⟩ = some (.int .i64 o.bit) ∧ W.cell? ⟨a.block, a.off + 4, none⟩ = some (.slice sb m c) ∧ Shows W sb m c o.data ∧ m ≤ Rows.uptoBulk x.1 ∧ o.name.size ≤ Rows.uptoBulk x.1 := by
  obtain ⟨xs, k, rfl, rfl, hl, hxs, hf⟩ := DataW.trod_struct Tryz.underlying40 h2
  have hm : (List.range 5).mapM (fun i => W.cell? (a.add i)) = some cs := by
    simpa [World.cells?] using h1
  have g : ∀ i, i < 5 → W.cell? (a.add i) = cs[i]? := fun i hi => mapM_some_get hm i i (by simp [hi])
  rw [cells40] at hl
  match cs, hl with
  | [v0, v1, v2, v3, v4], _ =>
  have g0 := g 0 (by omega)
  have g1 := g 1 (by omega)
  have g2 := g 2 (by omega)
  have g3 := g 3 (by omega)
  have g4 := g 4 (by omega)
  simp at g0 g1 g2 g3 g4
  have hsp := World.cell?_spot g0
  have f0 := hf 0 _ rfl
  have f1 := hf 1 _ rfl
  have f2 := hf 2 _ rfl
  have f3 := hf 3 _ rfl
  have f4 := hf 4 _ rfl
  simp [cells3, cells9, cells31] at f0 f1 f2 f3 f4
  have hx5 : xs.length = 5 := by simpa using hxs
  have hx4 : xs[4]? = some (xs[4]'(by omega)) := List.getElem?_eq_getElem (by omega)
  rw [List.getElem?_eq_getElem (by omega)] at f0 f1 f2 f3 f4
  obtain ⟨n0, e0, _, _⟩ := DataW.trod_int Tryz.underlying3 f0
  obtain ⟨s1, e1, e1x, _⟩ := DataW.trod_string Tryz.underlying9 f1
  obtain ⟨n2, e2, _, _⟩ := DataW.trod_int Tryz.underlying3 f2
  obtain ⟨n3, e3, _, _⟩ := DataW.trod_int Tryz.underlying3 f3
  obtain ⟨sb, m, c, d, rfl, hs, hmb⟩ := open_data f4
  simp at e0 e1 e2 e3
  subst e0
  subst e1
  subst e2
  subst e3
  obtain ⟨b, off, spot⟩ := a
  obtain rfl : spot = none := hsp
  rw [add_plain] at g1 g2 g3 g4
  refine ⟨⟨n0, s1, n2, n3, d⟩, sb, m, c, by simpa [Addr.add] using g0, g1, g2, g3, g4, hs, Nat.le_trans hmb ?_, ?_⟩
  rotate_left 1
  · have h9 := bulk_part (H := H) (d := (xs[1]'(by omega)).1) (l := xs.map (·.1)) (List.mem_map.2 ⟨_, List.getElem_mem _, rfl⟩)
    rw [e1x] at h9
    simp only [Rows.uptoBulk] at h9 ⊢
    have h8 : s1.size = s1.data.toList.length := Array.length_toList.symm
    omega
  simp only [Rows.uptoBulk]
  have := bulk_part (H := H) (d := (xs[4]'(by omega)).1) (l := xs.map (·.1)) (List.mem_map.2 ⟨_, List.getElem_mem _, rfl⟩)
  omega


set_option maxRecDepth 100000 in
theorem open_tr {n : Nat} {a : Addr} {cs : List Value} {x : DataW H × List MemPlace} (h1 : W.cells? 0 a 3 = some cs) (h2 : DataW.trod enc Tryz.prog W 0 spare held n 65 cs = some x) :
    ∃ o : TrA, W.cell? a = some (.int .i64 o.at_) ∧ W.cell? ⟨a.block, a.off + 1, none⟩ = some (.int .i64 o.kind) ∧ W.cell? ⟨a.block, a.off + 2, none⟩ = some (.int .i64 o.bytes) ∧ (Lit.int .i64 o.at_).wf = true := by
  obtain ⟨xs, k, rfl, rfl, hl, hxs, hf⟩ := DataW.trod_struct Tryz.underlying65 h2
  have hm : (List.range 3).mapM (fun i => W.cell? (a.add i)) = some cs := by
    simpa [World.cells?] using h1
  have g : ∀ i, i < 3 → W.cell? (a.add i) = cs[i]? := fun i hi => mapM_some_get hm i i (by simp [hi])
  rw [cells65] at hl
  match cs, hl with
  | [v0, v1, v2], _ =>
  have g0 := g 0 (by omega)
  have g1 := g 1 (by omega)
  have g2 := g 2 (by omega)
  simp at g0 g1 g2
  have hsp := World.cell?_spot g0
  have f0 := hf 0 _ rfl
  have f1 := hf 1 _ rfl
  have f2 := hf 2 _ rfl
  simp [cells3] at f0 f1 f2
  have hx5 : xs.length = 3 := by simpa using hxs
  rw [List.getElem?_eq_getElem (by omega)] at f0 f1 f2
  obtain ⟨n0, e0, _, w0⟩ := DataW.trod_int Tryz.underlying3 f0
  obtain ⟨n1, e1, _, _⟩ := DataW.trod_int Tryz.underlying3 f1
  obtain ⟨n2, e2, _, _⟩ := DataW.trod_int Tryz.underlying3 f2
  simp at e0 e1 e2
  subst e0
  subst e1
  subst e2
  obtain ⟨b, off, spot⟩ := a
  obtain rfl : spot = none := hsp
  rw [add_plain] at g1 g2
  exact ⟨⟨n0, n1, n2⟩, by simpa [Addr.add] using g0, g1, g2, w0⟩

set_option maxRecDepth 100000 in
/-- troubles that came in. -/
theorem open_trs2 {fuel : Nat} {v : Value} {x : DataW H × List MemPlace} (hf : DataW.trod enc Tryz.prog W 0 spare held fuel 27 [v] = some x) (hk : Rows.uptoBulk x.1 ≤ 1048576) :
    ∃ (sa : Option Addr) (ca : Nat) (l : List TrA), v = .slice sa l.length ca ∧ TrsAt W sa l ∧ l.length ≤ 1073741824 ∧ (sa = none → l = []) := by
  rcases open_slice Tryz.underlying27 hf with ⟨hcs, hx⟩ | ⟨a, len, cap, m, n, D, Pl, hcs, _, hl, hm, hmm, hx, hall⟩
  · simp at hcs
    subst hcs
    exact ⟨none, 0, [], rfl, ⟨fun k hk => by simp at hk, fun k hk => by simp at hk⟩, Nat.zero_le _, fun _ => rfl⟩
  · simp at hcs
    subst hcs
    rw [cells65] at hx hall
    subst hx
    have hlm : len ≤ m := by rw [hmm]; split <;> omega
    have hb1 : Rows.uptoBulkAll ((List.range len).map D) ≤ 1048576 := by
      simp only [Rows.uptoBulk] at hk
      omega
    have hlen2 := bulk_length ((List.range len).map D)
    simp only [List.length_map, List.length_range] at hlen2
    have each : ∀ i, i < len → ∃ o : TrA, W.cell? (a.add (i * 3)) = some (.int .i64 o.at_) ∧ W.cell? ⟨(a.add (i * 3)).block, (a.add (i * 3)).off + 1, none⟩ = some (.int .i64 o.kind) ∧ W.cell? ⟨(a.add (i * 3)).block, (a.add (i * 3)).off + 2, none⟩ = some (.int .i64 o.bytes) ∧ (Lit.int .i64 o.at_).wf = true := fun i hi => by
      obtain ⟨cs', h1, h2⟩ := hall i (by omega)
      exact open_tr h1 h2
    haveI : Inhabited TrA := ⟨⟨0, 0, 0⟩⟩
    obtain ⟨f, hf⟩ := choose_lt each
    have hlen : ((List.range len).map f).length = len := by simp
    refine ⟨some a, cap, (List.range len).map f, by rw [hlen], ⟨fun k hk => ?_, fun k hk => ?_⟩, by rw [hlen]; omega, fun e => by cases e⟩
    · rw [hlen] at hk
      obtain ⟨c0, c1, c2, _⟩ := hf k hk
      refine ⟨a, rfl, ?_, by simpa using c0, by simpa using c1, by simpa using c2⟩
      have := World.block_lt_of_cell? W _ c0
      rwa [add_block] at this
    · rw [hlen] at hk
      simpa using (hf k hk).2.2.2

set_option maxRecDepth 100000 in
/-- a setup that came in. -/
theorem open_setup {v : Value} {d : DataW H} {ps : List MemPlace} {base : Nat} (hval : Value.okWide Tryz.prog W .any base 29 v) (h : DataW.Trod enc Tryz.prog W 0 spare held 29 v d ps) (hk : Rows.uptoBulk d ≤ 1048576) :
    ∃ (B Bs : Int) (sa : Option Addr) (ca : Nat) (l : List TrA), v = .agg #[.int .i64 B, .int .i64 Bs, .slice sa l.length ca] ∧ TrsAt W sa l ∧ l.length ≤ 1073741824 ∧ (sa = none → l = []) := by
  obtain ⟨cs, rfl, hcs⟩ := okWide_struct Tryz.underlying29 hval
  obtain ⟨fuel, hf⟩ := h
  obtain ⟨xs, k, hk1, hx, hl, hxs, hf⟩ := DataW.trod_struct Tryz.underlying29 hf
  rw [cells29] at hcs
  obtain ⟨v0, v1, v2, rfl⟩ : ∃ v0 v1 v2, cs = #[v0, v1, v2] := by
    match cs, hcs with
    | ⟨[a, b, c]⟩, _ => exact ⟨a, b, c, rfl⟩
  have f0 := hf 0 _ rfl
  have f1 := hf 1 _ rfl
  have f2 := hf 2 _ rfl
  simp [cells3, cells27, Value.cells] at f0 f1 f2
  have hx5 : xs.length = 3 := by simpa using hxs
  rw [List.getElem?_eq_getElem (by omega)] at f0 f1 f2
  obtain ⟨n0, e0, _, _⟩ := DataW.trod_int Tryz.underlying3 f0
  obtain ⟨n1, e1, _, _⟩ := DataW.trod_int Tryz.underlying3 f1
  simp at e0 e1
  subst e0
  subst e1
  obtain ⟨rfl, -⟩ := Prod.mk.inj hx
  have hb := bulk_part (H := H) (d := (xs[2]'(by omega)).1) (l := xs.map (·.1)) (List.mem_map.2 ⟨_, List.getElem_mem _, rfl⟩)
  simp only [Rows.uptoBulk] at hk
  obtain ⟨sa, ca, l, rfl, h1, h2, h3⟩ := open_trs2 f2 (by omega)
  exact ⟨n0, n1, sa, ca, l, rfl, h1, h2, h3⟩
end
end Go.Proofs.YtcpncfngadablaaGreatDoor
/-
  A state that came in: only read.
-/
namespace Go.Proofs.YtcpncfngadablaaGreatDoor
open Go.RowKit Go.Deep ShfKit
set_option maxRecDepth 100000
/-- blocks that a slice shows. -/
structure BlIn (w : World) (sv : Value) (blocks : List (List UInt8)) : Prop where
  sl : ∃ a c, sv = .slice a blocks.length c
  at_ : ∀ i (hi : i < blocks.length), ∃ a c xa xn xc, sv = .slice (some a) blocks.length c ∧ a.block < w.heap.size ∧ w.cell? (a.add i) = some (.slice xa xn xc) ∧ Shows w xa xn xc blocks[i]
/-- files that a slice shows. -/
structure StIn (w : World) (fv : Value) (l : List SFile) : Prop where
  sl : ∃ a c, fv = .slice a l.length c
  at_ : ∀ (k : Nat) (e : SFile), l[k]? = some e → ∃ a c, fv = .slice (some a) l.length c ∧ a.block < w.heap.size ∧ w.cell? (a.add (k * 3)) = some (encStr e.name) ∧ w.cell? ⟨(a.add (k * 3)).block, (a.add (k * 3)).off + 1, none⟩ = some (.bool e.file.shut) ∧ w.cell? ⟨(a.add (k * 3)).block, (a.add (k * 3)).off + 2, none⟩ = some e.sv ∧ BlIn w e.sv e.file.blocks
section
variable {w w' : World} {sv fv : Value} {blocks : List (List UInt8)} {l : List SFile}
theorem BlIn.below (h : BlIn w sv blocks) (hb : Below w.heap.size w w') : BlIn w' sv blocks :=
  ⟨h.sl, fun i hi => by
    obtain ⟨a, c, xa, xn, xc, e, hl, hc, hs⟩ := h.at_ i hi
    exact ⟨a, c, xa, xn, xc, e, Nat.lt_of_lt_of_le hl hb.size, (hb.cell (by rw [add_block]; exact hl)).trans hc, hs.touch (Touch.of_below (F := []) hb (Nat.le_refl _)) (by simp)⟩⟩
theorem StIn.below (h : StIn w fv l) (hb : Below w.heap.size w w') : StIn w' fv l :=
  ⟨h.sl, fun k e he => by
    obtain ⟨a, c, e1, hl, c0, c1, c2, hbl⟩ := h.at_ k e he
    have hc : ∀ q : Addr, q.block = (a.add (k * 3)).block → w'.cell? q = w.cell? q := fun q hq => hb.cell (by rw [hq, add_block]; exact hl)
    exact ⟨a, c, e1, Nat.lt_of_lt_of_le hl hb.size, (hc _ rfl).trans c0, (hc ⟨(a.add (k * 3)).block, (a.add (k * 3)).off + 1, none⟩ rfl).trans c1, (hc ⟨(a.add (k * 3)).block, (a.add (k * 3)).off + 2, none⟩ rfl).trans c2, hbl.below hb⟩⟩
theorem BlocksSh.in_ (h : BlocksSh w sv blocks) : BlIn w sv blocks :=
  ⟨h.sl, fun i hi => by
    obtain ⟨G, gc, xa, xn, xc, e, c, s⟩ := h.at_ i hi
    have lc : G < w.heap.size := World.block_lt_of_cell? w _ c
    exact ⟨⟨G, 0, none⟩, gc, xa, xn, xc, e, lc, by rw [add_zero_addr]; exact c, s⟩⟩
theorem StateSh.in_ {n : Nat} (h : StateSh w n fv l) : StIn w fv l := by
  refine ⟨row_slice h.own, fun k e he => ?_⟩
  have hk := (List.getElem?_eq_some_iff.1 he).1
  have hke := (List.getElem?_eq_some_iff.1 he).2
  obtain ⟨G, gc, hv, _, hG⟩ := row_form h.own (by omega)
  obtain ⟨c0, c1, c2⟩ := row_cells h.own hv hk
  rw [hke] at c0 c1 c2
  refine ⟨⟨G, 0, none⟩, gc, hv, hG, ?_, ?_, ?_, (h.each e (List.mem_of_getElem? he)).in_⟩
  · rw [add_zero_addr]
    exact c0
  · rw [add_zero_addr]
    exact c1
  · rw [add_zero_addr]
    exact c2
end
set_option maxHeartbeats 2000000 in
theorem copiedIn_any {w : World} {sv : Value} {blocks : List (List UInt8)} {B : Nat} (h : BlIn w sv blocks) (hB : 0 < B) (hB2 : B ≤ 65536) (hl : ∀ b ∈ blocks, b.length = B) (hn : blocks.length ≤ 1099511627776) :
    Calls Tryz.prog 61 #[sv] w fun e w' => ∃ v vs, e = .returned v ∧ NewB w w' B v vs blocks := by
  obtain ⟨sa, sc, hsv⟩ := h.sl
  obtain ⟨n, hnn⟩ : ∃ n, n = blocks.length := ⟨_, rfl⟩
  rw [← hnn] at hsv hn
  have HH := hid h
  have HSV := hid hsv
  have HN := hid hnn
  have HL := hid hl
  rw [hsv]
  clear h hsv hnn hl
  go_enter Tryz.func61, Tryz.ntmps61
  go_wp2_with fail
  go_loopw [3, 4] (fun lv iv W => Hid (∃ (i : Nat) (vs : List Value), iv = .int .i64 (i : Int) ∧ i ≤ n ∧ NewB w W B lv vs (blocks.take i))) (fun _ iv _ => match iv with | .int _ i => n + 1 - i.toNat | _ => 0)
  case atStart => exact ⟨0, [], rfl, Nat.zero_le _, World.ownsRow_nil _ _ _ _, Fam.nil _ _ _ _, Below.refl _ _⟩
  case round =>
    obtain ⟨W, hW⟩ : ∃ W, W = wr := ⟨_, rfl⟩
    rw [← hW] at hrel ⊢
    clear hW
    obtain ⟨i, vs, rfl, hin, hnb⟩ := hrel.out
    clear hrel
    have hti : (blocks.take i).length = i := by rw [List.length_take, ← HN.out]; omega
    obtain ⟨sl, cl, hlv⟩ := sh_slice hnb.own
    rw [hti] at hlv
    subst hlv
    have HNB := hid hnb
    rcases Nat.lt_or_eq_of_le hin with hlt | hlt
    · obtain ⟨bl, hbl⟩ : ∃ bl, blocks[i]? = some bl := ⟨_, List.getElem?_eq_getElem (by rw [← HN.out]; exact hlt)⟩
      obtain ⟨a9, gc, xa, xn, xc, e1, l1, c1, s1⟩ := (HH.out.below hnb.low).at_ i (by rw [← HN.out]; exact hlt)
      rw [HSV.out, ← HN.out] at e1
      simp only [Value.slice.injEq, true_and] at e1
      obtain ⟨rfl, rfl⟩ := e1
      have hbe : blocks[i]'(by rw [← HN.out]; exact hlt) = bl := (List.getElem?_eq_some_iff.1 hbl).2
      rw [hbe] at s1
      have hblB : bl.length = B := HL.out bl (List.mem_of_getElem? hbl)
      have hxn : xn = B := by rw [← s1.len, hblB]
      subst hxn
      obtain ⟨ad, rfl, _, hcells⟩ := s1.at_ hB
      have HT : Hid (blocks.take (i + 1) = blocks.take i ++ [bl]) := by show _ = _; rw [List.take_add_one, hbl]; rfl
      have HCL := hid hcells
      have HBL := hid hblB
      have OW : Hid (W.ownsRow w.heap.size 31 1 (.slice sl i cl) i vs) := by
        have h1 := hnb.own
        rw [hti] at h1
        exact h1
      have SZ := hid hnb.low.size
      have HTI := hid hti
      have hlt1 : (i : Int) < (n : Int) := by omega
      have V1 : IntKind.i64.wrap ((i : Int) + 1) = (i : Int) + 1 := by rw [IntKind.wrap_i64]; omega
      have i0 : (0 : Int) ≤ (i : Int) := by omega
      clear hnb hbl hbe s1 hcells hti hblB
      go_wp2_with (first
        | (have q := O5; clear q; at_builtin; refine wpl_one rfl _ _ 51 rfl w.heap.size 31 _ 1 24 Tryz.underlying51 info31 rfl (by decide) (.slice sl i cl) i vs rfl (own_kept OW.out fun g hg => G5.out.block g (own_block OW.out hg).2 (by simp)) [.slice s5 xn c5] 31 _ rfl rfl rfl (fun u hu => by simp at hu; subst hu; rfl) (by omega) (by omega) (Nat.le_trans SZ.out G5.out.size) ?_; intro v8 w8 o8 f8; have NX := hid (HNB.out.next O5.out G5.out (by rw [HTI.out]; exact o8) f8); clear o8 f8)
        | (at_builtin; refine wpl_far rfl _ _ 31 rfl W.heap.size 5 _ 1 1 Tryz.underlying31 info5 rfl (by decide) (.slice none 0 0) 0 [] rfl (World.ownsRow_nil _ _ _ _) ad xn xc (Lib.byteCells bl) rfl (by rw [Lib.byteCells_length, HBL.out, Nat.mul_one]) HCL.out (fun u hu => by simp only [Lib.byteCells, List.mem_map] at hu; obtain ⟨c, _, rfl⟩ := hu; rfl) (by omega) (by omega) (Nat.le_refl _) ?_; intro v5 W5 o5 f5; rw [Nat.zero_add, List.nil_append] at o5; obtain ⟨s5, c5, rfl⟩ := sh_slice o5; have O5 := hid o5; have G5 : Hid (W.grownBy W5 none) := (by rcases f5 with ⟨_, h1⟩ | ⟨_, h1⟩ <;> exact h1); clear o5 f5))
      clear V1
      refine ⟨⟨i + 1, _, by go_num, by omega, by rw [HT.out]; exact NX.out⟩, ?_⟩
      show n + 1 - ((i : Int) + 1).toNat < n + 1 - (i : Int).toNat
      omega
    · have hlt1 : ¬ (i : Int) < (n : Int) := by omega
      have OE : Hid (NewB w W B (.slice sl i cl) vs blocks) := by
        have h1 := hnb
        rw [List.take_of_length_le (by rw [← HN.out]; omega)] at h1
        exact h1
      have hl9 := hlt.symm
      clear hlt hnb hti
      subst hl9
      go_wp2_with fail
      go_ret
      exact ⟨_, rfl, vs, OE.out⟩
end Go.Proofs.YtcpncfngadablaaGreatDoor
/-
  Two states that are only read: alike.
-/
namespace Go.Proofs.YtcpncfngadablaaGreatDoor
open Go.RowKit Go.Deep
section
variable {w w' : World}
theorem below_upA {n : Nat} {w2 : World} (h : Below (w.drewN n).heap.size (w.drewN n) w2) : ∀ (q : Addr) v, w.cell? q = some v → w2.cell? q = some v := fun q _ hv => (h.cell (p := q) (World.block_lt_of_cell? w _ hv)).trans hv
theorem BlIn.slice1 {sv : Value} {blocks : List (List UInt8)} (h : BlIn w sv blocks) (h0 : ¬ blocks.length = 0) : ∃ a c, sv = .slice (some a) blocks.length c := by
  obtain ⟨a, c, _, _, _, e, _⟩ := h.at_ 0 (by omega)
  exact ⟨a, c, e⟩
theorem StIn.one {fv : Value} {l : List SFile} (h : StIn w fv l) (h0 : ¬ l.length = 0) : ∃ a c, fv = .slice (some a) l.length c := by
  obtain ⟨a, c, e, _⟩ := h.at_ 0 _ (List.getElem?_eq_getElem (by omega))
  exact ⟨a, c, e⟩
theorem BlIn.round {sv : Value} {blocks : List (List UInt8)} {W wr : World} {k gc : Nat} {A : Addr} (h : BlIn w sv blocks) (hk : k < blocks.length) (hb : Below w.heap.size w W) (hq : Quiet W wr) (e : sv = .slice (some A) blocks.length gc) :
    ∃ xa xn xc, wr.cell? (A.add k) = some (.slice xa xn xc) ∧ ∀ n, (convert 31 9 (.slice xa xn xc)).run Tryz.prog (wr.drewN n) = .ok (encStr blocks[k]) (wr.drewN n) := by
  have hbr : Below w.heap.size w wr := hb.trans ((Quiet.touch hq []).below hb.size (by simp))
  obtain ⟨a, cap, xa, xn, xc, e1, _, c, hs⟩ := (h.below hbr).at_ k hk
  rw [e] at e1
  simp only [Value.slice.injEq, Option.some.injEq] at e1
  obtain ⟨rfl, _⟩ := e1
  exact ⟨xa, xn, xc, c, fun n => conv_shows (hs.touch (F := []) ((Touch.refl _ _).drewN n) (by simp))⟩
theorem StIn.read {fv : Value} {l : List SFile} {k gc : Nat} {A : Addr} {e : SFile} (h : StIn w fv l) (he : l[k]? = some e) (hv : fv = .slice (some A) l.length gc) : w.cell? (A.add (k * 3)) = some (encStr e.name) ∧ w.cell? ⟨(A.add (k * 3)).block, (A.add (k * 3)).off + 1, none⟩ = some (.bool e.file.shut) ∧ w.cell? ⟨(A.add (k * 3)).block, (A.add (k * 3)).off + 2, none⟩ = some e.sv ∧ BlIn w e.sv e.file.blocks := by
  obtain ⟨a, c, e1, _, c0, c1, c2, hb⟩ := h.at_ k e he
  rw [hv] at e1
  simp only [Value.slice.injEq, Option.some.injEq] at e1
  obtain ⟨rfl, _⟩ := e1
  exact ⟨c0, c1, c2, hb⟩

set_option maxRecDepth 100000 in
set_option maxHeartbeats 400000 in
theorem SameFile_in {s : ByteArray} {x : Bool} {sv1 sv2 : Value} {blocks : List (List UInt8)} (h1 : BlIn w sv1 blocks) (h2 : BlIn w sv2 blocks) (hn : blocks.length ≤ 1099511627776) :
    Calls Tryz.prog 41 #[.agg #[.string s, .bool x, sv1], .agg #[.string s, .bool x, sv2]] w fun e w' => e = .returned (.bool true) ∧ Below w.heap.size w w' := by
  by_cases h0 : blocks.length = 0
  · obtain ⟨a1, c1, e1⟩ := h1.sl
    obtain ⟨a2, c2, e2⟩ := h2.sl
    rw [e1, e2, h0]
    clear h1 h2 e1 e2 h0
    cases x
    all_goals
      go_enter Tryz.func41, Tryz.ntmps41
      go_wp2
      refine wp_loop_rounds 1 ?_
      rw [rounds_succ]
      go_wp2
      go_ret
      exact ⟨rfl, ((Below.refl _ w).alloc (Nat.le_refl _) _).alloc (by simp) _⟩
  · obtain ⟨A1, gc1, e1⟩ := h1.slice1 h0
    obtain ⟨A2, gc2, e2⟩ := h2.slice1 h0
    have H1 := hid h1
    have H2 := hid h2
    have E1 := hid e1
    have E2 := hid e2
    rw [e1, e2]
    clear h1 h2 e1 e2
    obtain ⟨W, hW⟩ : ∃ W, W = (w.alloc (.cells #[.string s, .bool x, .slice (some A1) blocks.length gc1] 71)).alloc (.cells #[.string s, .bool x, .slice (some A2) blocks.length gc2] 71) := ⟨_, rfl⟩
    have hW1 := heap_two w (.cells #[.string s, .bool x, .slice (some A1) blocks.length gc1] 71) (.cells #[.string s, .bool x, .slice (some A2) blocks.length gc2] 71)
    rw [← hW] at hW1
    have hTW : Below w.heap.size w W := by rw [hW]; exact ((Below.refl _ w).alloc (Nat.le_refl _) _).alloc (by simp) _
    have b1 := cell_row hW1.1 2
    have b2 := cell_row hW1.2 2
    simp at b1 b2
    have HE := hid hW
    have HTW := hid hTW
    clear hW hW1 hTW
    cases x
    all_goals
      go_enter Tryz.func41, Tryz.ntmps41
      go_wp2
      rw [← HE.out]
      go_loopw [5] (fun i wr => ∃ k : Nat, k ≤ blocks.length ∧ i = .int .i64 k ∧ Quiet W wr) (fun i _ => blocks.length - (intOf i).toNat)
      case atStart => exact ⟨0, Nat.zero_le _, rfl, 0, rfl⟩
      case round =>
        obtain ⟨k, hk, rfl, hq⟩ := hrel
        have d1 := (Quiet.cell hq _).trans b1
        have d2 := (Quiet.cell hq _).trans b2
        by_cases hlt : k < blocks.length
        · obtain ⟨xa, xn, xc, g1, cv1⟩ := H1.out.round hlt HTW.out hq E1.out
          obtain ⟨ya, yn, yc, g2, cv2⟩ := H2.out.round hlt HTW.out hq E2.out
          have HQ := hid hq
          clear hq b1 b2
          go_wp2
          go_quiet (fail)
          go_wp2
          go_roundw
          case rel => exact ⟨k + 1, by omega, by go_num, quiet_more HQ.out _⟩
          case measure => simp [intOf]; omega
        · have HQ := hid hq
          clear hq b1 b2
          go_wp2
          go_ret
          exact ⟨rfl, HTW.out.trans ((Quiet.touch HQ.out []).below HTW.out.size (by simp))⟩


set_option maxRecDepth 100000 in
set_option maxHeartbeats 400000 in
theorem SameState_in {x : Int} {fv1 fv2 : Value} {l1 l2 : List SFile} (h1 : StIn w fv1 l1) (h2 : StIn w fv2 l2) (hp : l1.map SFile.pub = l2.map SFile.pub) (hn : l1.length ≤ 1099511627776) (hnb : ∀ e ∈ l1, e.file.blocks.length ≤ 1099511627776) :
    Calls Tryz.prog 17 #[.agg #[.int .i64 x, fv1], .agg #[.int .i64 x, fv2]] w fun e w' => e = .returned (.bool true) ∧ Below w.heap.size w w' := by
  have hll : l1.length = l2.length := by simpa using congrArg List.length hp
  obtain ⟨a1, c1, e1⟩ := h1.sl
  obtain ⟨a2, c2, e2⟩ := h2.sl
  by_cases h0 : l1.length = 0
  · rw [e1, e2, ← hll, h0]
    clear h1 h2 e1 e2 h0 hll hp
    go_enter Tryz.func17, Tryz.ntmps17
    go_wp2
    refine wp_loop_rounds 1 ?_
    rw [rounds_succ]
    go_wp2
    go_ret
    exact ⟨rfl, ((Below.refl _ w).alloc (Nat.le_refl _) _).alloc (by simp) _⟩
  · clear e1 e2
    obtain ⟨A1, gc1, e1⟩ := h1.one h0
    obtain ⟨A2, gc2, e2⟩ := h2.one (by omega)
    have H1 := hid h1
    have H2 := hid h2
    have E1 := hid e1
    have E2 := hid e2
    have HP := hid hp
    have HNB := hid hnb
    have HL := hid hll
    rw [e1, e2, ← hll]
    clear h1 h2 e1 e2 hll hp hnb
    obtain ⟨W, hW⟩ : ∃ W, W = (w.alloc (.cells #[.int .i64 x, .slice (some A1) l1.length gc1] 47)).alloc (.cells #[.int .i64 x, .slice (some A2) l1.length gc2] 47) := ⟨_, rfl⟩
    have hW1 := heap_two w (.cells #[.int .i64 x, .slice (some A1) l1.length gc1] 47) (.cells #[.int .i64 x, .slice (some A2) l1.length gc2] 47)
    rw [← hW] at hW1
    have hTW : Below w.heap.size w W := by rw [hW]; exact ((Below.refl _ w).alloc (Nat.le_refl _) _).alloc (by simp) _
    have HW := hid hW1
    have HE := hid hW
    have HTW := hid hTW
    clear hW hW1 hTW
    go_enter Tryz.func17, Tryz.ntmps17
    go_wp2
    rw [← HE.out]
    go_loopw [5] (fun i wr => ∃ k : Nat, k ≤ l1.length ∧ i = .int .i64 k ∧ Below W.heap.size W wr) (fun i _ => l1.length - (intOf i).toNat)
    case atStart => exact ⟨0, Nat.zero_le _, rfl, Below.refl _ _⟩
    case round =>
      obtain ⟨k, hk, rfl, hq⟩ := hrel
      have r1 : wr.heap[w.heap.size]? = some (.cells #[.int .i64 x, .slice (some A1) l1.length gc1] 47) := (hq.block _ (lt_of_block HW.out.1)).trans HW.out.1
      have r2 : wr.heap[w.heap.size + 1]? = some (.cells #[.int .i64 x, .slice (some A2) l1.length gc2] 47) := (hq.block _ (lt_of_block HW.out.2)).trans HW.out.2
      have d1 := cell_row r1 1
      have d2 := cell_row r2 1
      simp at d1 d2
      have hbw : Below w.heap.size w wr := HTW.out.trans (hq.mono HTW.out.size)
      by_cases hlt : k < l1.length
      · have hlt2 : k < l2.length := by have := HL.out; omega
        have hpk : l1[k].pub = l2[k].pub := by
          have := congrArg (fun l => l[k]?) HP.out
          simpa [List.getElem?_eq_getElem hlt, List.getElem?_eq_getElem hlt2] using this
        have hnm : l1[k].name = l2[k].name := congrArg Prod.fst hpk
        have hfl : l1[k].file = l2[k].file := congrArg Prod.snd hpk
        have S1 := H1.out.below hbw
        have S2 := H2.out.below hbw
        obtain ⟨c10, c11, c12, hb1⟩ := S1.read (List.getElem?_eq_getElem hlt) E1.out
        obtain ⟨c20, c21, c22, hb2⟩ := S2.read (List.getElem?_eq_getElem hlt2) E2.out
        rw [← hnm] at c20
        rw [← hfl] at c21 hb2
        have hnk := HNB.out _ (List.getElem_mem hlt)
        obtain ⟨s, hs⟩ : ∃ s, Value.string s = encStr l1[k].name := ⟨_, rfl⟩
        obtain ⟨y, hy⟩ : ∃ y, y = l1[k].file.shut := ⟨_, rfl⟩
        have HC := hid (fun n : Nat => SameFile_in (w := wr.drewN n) (s := s) (x := y) (hb1.below (w := wr) ⟨rfl, rfl, rfl, Nat.le_refl _, fun _ _ => rfl⟩) (hb2.below (w := wr) ⟨rfl, rfl, rfl, Nat.le_refl _, fun _ _ => rfl⟩) hnk)
        obtain ⟨ga1, gk1, hs1⟩ := hb1.sl
        obtain ⟨ga2, gk2, hs2⟩ := hb2.sl
        have HQ := hid hq
        have l1' := lt_of_block r1
        have l2' := lt_of_block r2
        obtain ⟨m, hm⟩ : ∃ m, m = l1[k].file.blocks.length := ⟨_, rfl⟩
        rw [← hm] at hs1 hs2
        rw [hs1] at HC c12
        rw [hs2] at HC c22
        rw [← hs] at c10 c20
        rw [← hy] at c11 c21
        clear hq r1 r2 hb1 hb2 hbw hs1 hs2 hs hy hnk hpk hnm hfl S1 S2 hm
        go_wp2
        go_region_held3 (fun V => (V.cell? ⟨w.heap.size, 1, none⟩ = some (.slice (some A1) l1.length gc1) ∧ V.cell? ⟨w.heap.size + 1, 1, none⟩ = some (.slice (some A2) l1.length gc2)) ∧ (V.cell? (A1.add (k * 3)) = some (.string s) ∧ V.cell? ⟨(A1.add (k * 3)).block, (A1.add (k * 3)).off + 1, none⟩ = some (.bool y) ∧ V.cell? ⟨(A1.add (k * 3)).block, (A1.add (k * 3)).off + 2, none⟩ = some (.slice ga1 m gk1)) ∧ V.cell? (A2.add (k * 3)) = some (.string s) ∧ V.cell? ⟨(A2.add (k * 3)).block, (A2.add (k * 3)).off + 1, none⟩ = some (.bool y) ∧ V.cell? ⟨(A2.add (k * 3)).block, (A2.add (k * 3)).off + 2, none⟩ = some (.slice ga2 m gk2)) (go_keep)
          (first | (go_at_call 41; refine (HC.out 1).mono ?_; rintro e w2 ⟨rfl, ht2⟩; have up := below_upA ht2; have z1 := up _ _ d1; have z2 := up _ _ d2; have z3 := up _ _ c10; have z4 := up _ _ c11; have z5 := up _ _ c12; have z6 := up _ _ c20; have z7 := up _ _ c21; have z8 := up _ _ c22; have HT2 := hid ht2; clear up ht2))
        go_wp2
        go_roundw
        case rel => exact ⟨k + 1, by omega, by go_num, HQ.out.trans (below_quiet HT2.out HQ.out.size)⟩
        case measure => simp [intOf]; omega
      · have HQ := hid hbw
        clear hq r1 r2 hbw
        go_wp2
        go_ret
        exact ⟨rfl, HQ.out⟩
end
end Go.Proofs.YtcpncfngadablaaGreatDoor
