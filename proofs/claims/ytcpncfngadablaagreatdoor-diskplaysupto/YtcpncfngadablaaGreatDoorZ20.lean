import Derived.Test.YtcpncfngadablaaGreatDoorZ19
/-
  New: refused and granted, the landed one and the document's.
-/
namespace Go.Proofs.YtcpncfngadablaaGreatDoor
open Go.RowKit Go.Deep ShfKit
set_option maxRecDepth 100000
theorem Tryz.info65 : (Tryz.prog.info? 65).map (fun i => (i.zero, i.size, i.bytes)) = some (some (.agg #[.int .i64 0, .int .i64 0, .int .i64 0]), 3, 24) := by kernel_rfl
/-- a setup that a disk may have. -/
def SetOk (B Bs : Int) : Prop := 64 ≤ B ∧ B ≤ 65536 ∧ B % 32 = 0 ∧ 0 ≤ Bs ∧ Bs ≤ 1099511627776
theorem SetOk.not {B Bs : Int} (h : ¬ SetOk B Bs) : B < 64 ∨ (¬ B < 64 ∧ 65536 < B) ∨ (¬ B < 64 ∧ ¬ 65536 < B ∧ ¬ B % 32 = 0) ∨ (¬ B < 64 ∧ ¬ 65536 < B ∧ B % 32 = 0 ∧ Bs < 0) ∨ (¬ B < 64 ∧ ¬ 65536 < B ∧ B % 32 = 0 ∧ ¬ Bs < 0 ∧ 1099511627776 < Bs) := by
  unfold SetOk at h
  omega
section
variable {w : World} {E : Nat → Addr} {lo : Nat}
set_option maxHeartbeats 1000000 in
theorem checkSetup_bad (S : ∀ o, Sents (w.alloc o) E) {B Bs : Int} {ga : Option Addr} {gn gc : Nat} (h : ¬ SetOk B Bs) :
    Calls Tryz.prog 25 #[.agg #[.int .i64 B, .int .i64 Bs, .slice ga gn gc]] w fun e w' => e = .returned (errV E 0) ∧ Below w.heap.size w w' := by
  have c0 : ∀ o : Obj, (w.alloc o).cell? ⟨0, 0, none⟩ = some (errV E 0) := fun o => (S o).var 0 (by omega)
  have h2 := SetOk.not h
  clear h S
  rcases h2 with x1 | ⟨x1, x2⟩ | ⟨x1, x2, x3⟩ | ⟨x1, x2, x3, x4⟩ | ⟨x1, x2, x3, x4, x5⟩
  all_goals
    go_enter Tryz.func25, Tryz.ntmps25
    go_wp2
    go_ret
    exact ⟨rfl, (Below.refl _ w).alloc (Nat.le_refl _) _⟩
set_option maxHeartbeats 1000000 in
theorem New_bad (V : Env w lo E) {B Bs : Int} {ga : Option Addr} {gn gc : Nat} (h : ¬ SetOk B Bs) :
    Calls Tryz.prog 6 #[.agg #[.int .i64 B, .int .i64 Bs, .slice ga gn gc]] w fun e w' => e = .returned (.tuple #[.pointer none, .int .i64 1]) ∧ Below w.heap.size w w' := by
  have HC := hid (fun o : Obj => checkSetup_bad (w := w.alloc o) (E := E) (fun o2 => ((V.alloc o).alloc o2).sents) (ga := ga) (gn := gn) (gc := gc) h)
  have HV : Hid (∀ W, Below w.heap.size w W → Sents W E) := fun W hb => (V.touch (Touch.of_below (F := []) hb (Nat.le_refl _)) (by simp)).sents
  clear h V
  go_enter Tryz.func6, Tryz.ntmps6
  go_wp2_with (first
    | (have q := HB0; clear q; go_at_call 26; refine (tell_err (HV.out _ HB0.out) 0 (by omega)).mono ?_; rintro e w2 ⟨rfl, rfl⟩)
    | (go_at_call 25; refine (HC.out _).mono ?_; rintro e w1 ⟨rfl, hb1⟩; have HB0 : Hid (Below w.heap.size w w1) := hid (((Below.refl _ w).alloc (Nat.le_refl _) _).trans (hb1.mono (by simp))); clear hb1))
  go_ret2
  exact ⟨rfl, HB0.out⟩
end
/-- a list of troubles in memory, cell by cell. -/
theorem TrsAt.cells {w : World} {a : Addr} {l : List TrA} (h : TrsAt w (some a) l) : ∀ (j : Nat) (u : Value), (l.flatMap TrA.cells)[j]? = some u → w.cell? (a.add j) = some u := by
  intro j u hj
  have hlen : (l.flatMap TrA.cells).length = l.length * 3 := by
    clear hj h
    induction l with
    | nil => rfl
    | cons x l ih => rw [List.flatMap_cons, List.length_append, ih]; simp [TrA.cells]; omega
  have hlt := (List.getElem?_eq_some_iff.1 hj).1
  have hk : j / 3 < l.length := by omega
  obtain ⟨a', e, _, c0, c1, c2⟩ := h.at_ (j / 3) hk
  cases e
  have hq := tflat3 (j / 3) (j % 3) l[j / 3] (List.getElem?_eq_getElem hk) (by omega)
  rw [show j / 3 * 3 + j % 3 = j by omega, hj] at hq
  have hadd : ∀ r, 0 < r → a.add (j / 3 * 3 + r) = ⟨(a.add (j / 3 * 3)).block, (a.add (j / 3 * 3)).off + r, none⟩ := fun r hr => by
    unfold Addr.add
    rw [if_neg (by omega)]
    split
    · next hz => rw [hz]; simp
    · simp [Nat.add_assoc]
  rcases (by omega : j % 3 = 0 ∨ j % 3 = 1 ∨ j % 3 = 2) with h3 | h3 | h3
  · rw [h3] at hq
    have e2 : j = j / 3 * 3 := by omega
    rw [e2, c0]
    simpa [TrA.cells] using hq.symm
  · rw [h3] at hq
    have e2 : j = j / 3 * 3 + 1 := by omega
    rw [e2, hadd 1 (by omega), c1]
    simpa [TrA.cells] using hq.symm
  · rw [h3] at hq
    have e2 : j = j / 3 * 3 + 2 := by omega
    rw [e2, hadd 2 (by omega), c2]
    simpa [TrA.cells] using hq.symm
theorem tflat_len (l : List TrA) : (l.flatMap TrA.cells).length = l.length * 3 := by
  induction l with
  | nil => rfl
  | cons x l ih => rw [List.flatMap_cons, List.length_append, ih]; simp [TrA.cells]; omega
theorem tflat_one (l : List TrA) : ∀ u ∈ l.flatMap TrA.cells, u.oneCell' = true := fun u hu => by
  obtain ⟨t, _, hu⟩ := List.mem_flatMap.1 hu
  simp only [TrA.cells, List.mem_cons, List.not_mem_nil, or_false] at hu
  rcases hu with rfl | rfl | rfl <;> rfl
/-- a row of troubles is a list of them. -/
theorem trs_own {w : World} {base : Nat} {v : Value} {l : List TrA} (h : w.ownsRow base 65 3 v l.length (l.flatMap TrA.cells)) (hw : ∀ k (hk : k < l.length), (Lit.int .i64 l[k].at_).wf = true) : ∃ sa c, v = .slice sa l.length c ∧ TrsAt w sa l ∧ ∀ a, sa = some a → base ≤ a.block ∧ a.spot = none ∧ a.off = 0 := by
  obtain ⟨sa, c, hv⟩ := sh_slice h
  refine ⟨sa, c, hv, ⟨fun k hk => ?_, hw⟩, fun a ha => ?_⟩
  · have c0 := tflat3 k 0 l[k] (List.getElem?_eq_getElem hk) (by omega)
    have c1 := tflat3 k 1 l[k] (List.getElem?_eq_getElem hk) (by omega)
    have c2 := tflat3 k 2 l[k] (List.getElem?_eq_getElem hk) (by omega)
    obtain ⟨G, gc, hv0, _, hG, d0, _⟩ := own_cell h (j := k * 3) (x := .int .i64 l[k].at_) (by simpa [TrA.cells] using c0)
    have at_ : ∀ (j : Nat) (x : Value), (l.flatMap TrA.cells)[j]? = some x → w.cell? ⟨G, j, none⟩ = some x := fun j x hj => by
      obtain ⟨g', c', e', _, _, hc, _⟩ := own_cell h hj
      rw [hv0] at e'
      simp only [Value.slice.injEq, Option.some.injEq, Addr.mk.injEq] at e'
      obtain ⟨⟨rfl, _⟩, _⟩ := e'
      exact hc
    rw [hv] at hv0
    simp only [Value.slice.injEq, true_and] at hv0
    refine ⟨⟨G, 0, none⟩, hv0.1, hG, ?_, ?_, ?_⟩
    · rw [add_zero_addr]
      exact d0
    · rw [add_zero_addr]
      exact at_ _ _ (by simpa [TrA.cells] using c1)
    · rw [add_zero_addr]
      exact at_ _ _ (by simpa [TrA.cells] using c2)
  · rcases h.2 with ⟨e, _⟩ | ⟨g, cap, cur, e, hb, _⟩
    · rw [hv, ha] at e
      cases e
    · rw [hv, ha] at e
      simp only [Value.slice.injEq, Option.some.injEq] at e
      obtain ⟨rfl, _⟩ := e
      exact ⟨hb, rfl, rfl⟩
theorem wp_farO {o : Oper} {a : Act} {w : World} {K : Act → World → Prop} {Q : Exit → Act → World → Prop} (hg : o.guard = none) (sl x : Operand) (t e : TypeId) (z : Value) (size bytes : Nat)
    (ho : o.op = .call { callee := .builtin .append, args := #[sl, x], argTypes := #[t, t] }) (hu : Tryz.prog.underlying t = some (.slice e)) (hinf : (Tryz.prog.info? e).map (fun i => (i.zero, i.size, i.bytes)) = some (some z, size, bytes))
    (hzs : z.cells.size = size) (hsz : 0 < size) (B n m c : Nat) (v : Value) (xs news : List Value) (ad : Addr) (hs : a.eval sl = v) (hown : w.ownsRow B e size v n xs) (hx : a.eval x = .slice (some ad) m c)
    (hl : news.length = m * size) (hnews : ∀ j u, news[j]? = some u → w.cell? (ad.add j) = some u) (h1 : ∀ u ∈ news, u.oneCell' = true) (hn : n + m ≤ 1099511627776) (hby : (n + m) * bytes ≤ 140737488355328) (hB : B ≤ w.heap.size)
    (h : ∀ v' w', w'.ownsRow B e size v' (n + m) (xs ++ news) → ((v'.ownBlock = v.ownBlock ∧ w.grownBy w' v.ownBlock) ∨ ((∀ g, v'.ownBlock = some g → w.heap.size ≤ g) ∧ w.grownBy w' none)) → K (a.put o.dst v') w') :
    Oper.wp Tryz.prog o a w K Q := by
  have hw : Region.wanted o (yielded #[] a.tmps) = true := by simp [Region.wanted, hg]
  have := step_far (ops := #[]) (X := False) hg sl x t e z size bytes ho hu hinf hzs hsz B n m c v xs news ad hs hown hx hl hnews h1 hn hby hB h (Q := Q)
  rw [if_pos hw] at this
  exact this
theorem wp_none {o : Oper} {a : Act} {w : World} {K : Act → World → Prop} {Q : Exit → Act → World → Prop} (sl x : Operand) (t e : TypeId) (z : Value) (size bytes : Nat)
    (ho : o.op = .call { callee := .builtin .append, args := #[sl, x], argTypes := #[t, t] }) (hu : Tryz.prog.underlying t = some (.slice e)) (hinf : (Tryz.prog.info? e).map (fun i => (i.zero, i.size, i.bytes)) = some (some z, size, bytes))
    (b : Option Addr) (n cap c : Nat) (hs : a.eval sl = .slice b n cap) (hx : a.eval x = .slice none 0 c) (hn : n ≤ cap) (h : K (a.put o.dst (.slice b n cap)) w) :
    Oper.wp Tryz.prog o a w K Q := by
  obtain ⟨i, hi, _⟩ := info_parts hinf
  have hrun := run_append_none (P := Tryz.prog) w t o.type e i hu hi b n cap c hn
  unfold Oper.wp
  simp [execOp, ho, resolve, invoke, builtin, hs, hx, hrun, Result.andThen]
  exact h
def RefD.new (p : Nat) (tv : Value) (l : List TrA) (B : Nat) (Bs : Int) : RefD := ⟨p, .slice none 0 0, tv, [], l, B, Bs, true, ⟨0, 0, 0, 0, 0, 0, 0⟩⟩
theorem RefAt.new {w : World} {p : Nat} {tv : Value} {l : List TrA} {B : Nat} {Bs : Int} (hrow : w.heap[p]? = some (.cells (RefD.new p tv l B Bs).row 100 (0, 0))) (ht : w.ownsRow 0 65 3 tv l.length (l.flatMap TrA.cells)) : RefAt w (RefD.new p tv l B Bs) :=
  ⟨hrow, World.ownsRow_nil _ _ _ _, ht, Fam.nil _ _ _ _, Fam.nil _ _ _ _, by simp [RefD.new]⟩
set_option maxHeartbeats 1000000 in
theorem rNew_bad {w : World} {B Bs : Int} {ga : Option Addr} {gn gc : Nat} (h : ¬ SetOk B Bs) :
    Calls Tryz.prog 20 #[.agg #[.int .i64 B, .int .i64 Bs, .slice ga gn gc]] w fun e w' => e = .returned (.tuple #[.pointer none, .int .i64 1]) ∧ Below w.heap.size w w' := by
  have h2 := SetOk.not h
  clear h
  rcases h2 with x1 | ⟨x1, x2⟩ | ⟨x1, x2, x3⟩ | ⟨x1, x2, x3, x4⟩ | ⟨x1, x2, x3, x4, x5⟩
  all_goals
    go_enter Tryz.func20, Tryz.ntmps20
    go_wp2
    go_ret2
    exact ⟨rfl, (Below.refl _ w).alloc (Nat.le_refl _) _⟩
set_option maxHeartbeats 2000000 in
theorem rNew_ok {w : World} {B : Nat} {Bs : Int} (h1 : 64 ≤ B) (h2 : B ≤ 65536) (h3 : (B : Int) % 32 = 0) (h4 : 0 ≤ Bs) (h5 : Bs ≤ 1099511627776) {sa : Option Addr} {ca : Nat} {l : List TrA} (hl : TrsAt w sa l) (hs : sa = none → l = []) (hlen : l.length ≤ 1073741824) :
    Calls Tryz.prog 20 #[.agg #[.int .i64 (B : Int), .int .i64 Bs, .slice sa l.length ca]] w fun e w' => ∃ p tv, e = .returned (.tuple #[.pointer (some ⟨p, 0, none⟩), .int .i64 0]) ∧ RefAt w' (RefD.new p tv l B Bs) ∧ (∀ b ∈ (RefD.new p tv l B Bs).foot, w.heap.size ≤ b) ∧ Below w.heap.size w w' := by
  have x1 : ¬ (B : Int) < 64 := by omega
  have x2 : ¬ (65536 : Int) < (B : Int) := by omega
  have x4 : ¬ Bs < 0 := by omega
  have x5 : ¬ 1099511627776 < Bs := by omega
  obtain ⟨X, hX⟩ : ∃ X, X = (w.alloc (.cells #[.int .i64 (B : Int), .int .i64 Bs, .slice sa l.length ca] 29)) := ⟨_, rfl⟩
  have rowX : X.heap[w.heap.size]? = some (.cells #[.int .i64 (B : Int), .int .i64 Bs, .slice sa l.length ca] 29) := by rw [hX]; exact heap_alloc_new w _
  have bX : Below w.heap.size w X := by rw [hX]; exact ((Below.refl _ w).alloc (Nat.le_refl _) _)
  have KS : Hid (∀ V, Below X.heap.size X V → V.cell? ⟨w.heap.size, 0, none⟩ = some (.int .i64 (B : Int)) ∧ V.cell? ⟨w.heap.size, 1, none⟩ = some (.int .i64 Bs) ∧ V.cell? ⟨w.heap.size, 2, none⟩ = some (.slice sa l.length ca)) := fun V hb => by
    have hV := (hb.block _ (lt_of_block rowX)).trans rowX
    exact ⟨cell_row hV 0, cell_row hV 1, cell_row hV 2⟩
  have CS := KS.out X (Below.refl _ _)
  have lX := lt_of_block rowX
  have BX := hid bX
  have HX := hid hX
  cases sa with
  | none =>
    have hl0 := hs rfl
    subst hl0
    have cs8 : ∀ o : Obj, (X.alloc o).cell? ⟨w.heap.size, 0, none⟩ = some (.int .i64 (B : Int)) ∧ (X.alloc o).cell? ⟨w.heap.size, 1, none⟩ = some (.int .i64 Bs) ∧ (X.alloc o).cell? ⟨w.heap.size, 2, none⟩ = some (.slice none 0 ca) := fun o => KS.out _ ((Below.refl _ _).alloc (Nat.le_refl _) _)
    have hX0 : Hid (X = w.alloc (.cells #[.int .i64 (B : Int), .int .i64 Bs, .slice none 0 ca] 29)) := HX.out
    clear hl hs hX rowX bX KS
    simp only [List.length_nil] at CS ⊢
    go_enter Tryz.func20, Tryz.ntmps20
    go_wp2
    rw [← hX0.out]
    refine wp_region_noPanic ?_
    refine wp_region_held_drew (S := fun V => V.cell? ⟨w.heap.size, 0, none⟩ = some (.int .i64 (B : Int)) ∧ V.cell? ⟨w.heap.size, 1, none⟩ = some (.int .i64 Bs) ∧ V.cell? ⟨w.heap.size, 2, none⟩ = some (.slice none 0 ca)) (by kernel_rfl) CS (fun hHeld => ?_)
    refine wpAnyH_take (i := 0) (v := ?_) (by simp only [List.getElem?_toArray, List.getElem?_cons_zero]; rfl) (by kernel_rfl) (by kernel_rfl) (by kernel_rfl) (fun _ _ _ h => h) (Or.inl ⟨by rfl, ?_⟩) (by assumption) ?_
    rotate_left 1
    · intro w hSw; (try dsimp only at hSw); go_simp; (try with_reducible rfl)
    try simp only [Act.put, List.setIfInBounds_toArray, List.set_cons_zero, List.set_cons_succ]
    refine wpAnyH_take (i := 1) (v := ?_) (by simp only [List.getElem?_toArray, List.getElem?_cons_succ, List.getElem?_cons_zero]; rfl) (by kernel_rfl) (by kernel_rfl) (by kernel_rfl) (fun _ _ _ h => h) (Or.inl ⟨by rfl, ?_⟩) (by assumption) ?_
    rotate_left 1
    · intro w hSw; (try dsimp only at hSw); go_simp; (try with_reducible rfl)
    try simp only [Act.put, List.setIfInBounds_toArray, List.set_cons_zero, List.set_cons_succ]
    refine wpAnyH_take (i := 2) (v := ?_) (by simp only [List.getElem?_toArray, List.getElem?_cons_succ, List.getElem?_cons_zero]; rfl) (by kernel_rfl) (by kernel_rfl) (by kernel_rfl) (fun _ _ _ h => h) (Or.inl ⟨by rfl, ?_⟩) (by assumption) ?_
    rotate_left 1
    · intro w hSw; (try dsimp only at hSw); go_simp; (try with_reducible rfl)
    try simp only [Act.put, List.setIfInBounds_toArray, List.set_cons_zero, List.set_cons_succ]
    refine wpAnyH_take (i := 3) (v := ?_) (by simp only [List.getElem?_toArray, List.getElem?_cons_succ, List.getElem?_cons_zero]; rfl) (by kernel_rfl) (by kernel_rfl) (by kernel_rfl) (fun _ _ _ h => h) (Or.inl ⟨by rfl, ?_⟩) (by assumption) ?_
    rotate_left 1
    · intro w hSw; (try dsimp only at hSw); go_simp; (try with_reducible rfl)
    try simp only [Act.put, List.setIfInBounds_toArray, List.set_cons_zero, List.set_cons_succ]
    refine wpAnyH_take (i := 4) (v := ?_) (by simp only [List.getElem?_toArray, List.getElem?_cons_succ, List.getElem?_cons_zero]; rfl) (by kernel_rfl) (by kernel_rfl) (by kernel_rfl) (fun _ _ _ h => h) (Or.inl ⟨by rfl, ?_⟩) (by assumption) ?_
    rotate_left 1
    · intro w hSw; (try dsimp only at hSw); go_simp; (try with_reducible rfl)
    try simp only [Act.put, List.setIfInBounds_toArray, List.set_cons_zero, List.set_cons_succ]
    refine wpAnyH_take (i := 5) (v := ?_) (by simp only [List.getElem?_toArray, List.getElem?_cons_succ, List.getElem?_cons_zero]; rfl) (by kernel_rfl) (by kernel_rfl) (by kernel_rfl) (fun _ _ _ h => h) (Or.inl ⟨by rfl, ?_⟩) (by assumption) ?_
    rotate_left 1
    · intro w hSw; (try dsimp only at hSw); go_simp; (try with_reducible rfl)
    try simp only [Act.put, List.setIfInBounds_toArray, List.set_cons_zero, List.set_cons_succ]
    refine wpAnyH_ready (rs := [6]) (by kernel_rfl) (by simp) ?_
    refine AllReadyH.cons (by simp only [List.getElem?_toArray, List.getElem?_cons_succ, List.getElem?_cons_zero]; rfl) (fun K hK => ?_) AllReadyH.nil
    skip
    refine wp_none _ _ 27 65 _ 3 24 rfl Tryz.underlying27 Tryz.info65 none 0 0 ca rfl rfl (Nat.le_refl _) ?_
    clear hHeld
    refine hK.out _ _ CS (fun hHeld => ?_)
    clear hK K
    try simp only [Act.put, List.setIfInBounds_toArray, List.set_cons_zero, List.set_cons_succ]
    refine wpAnyH_take (i := 7) (v := ?_) (by simp only [List.getElem?_toArray, List.getElem?_cons_succ, List.getElem?_cons_zero]; rfl) (by kernel_rfl) (by kernel_rfl) (by kernel_rfl) (fun _ _ _ h => h) (Or.inl ⟨by rfl, ?_⟩) (by assumption) ?_
    rotate_left 1
    · intro w hSw; (try dsimp only at hSw); go_simp; (try with_reducible rfl)
    try simp only [Act.put, List.setIfInBounds_toArray, List.set_cons_zero, List.set_cons_succ]
    refine wpAnyH_ready (rs := [8]) (by kernel_rfl) (by simp) ?_
    refine AllReadyH.cons (by simp only [List.getElem?_toArray, List.getElem?_cons_succ, List.getElem?_cons_zero]; rfl) (fun K hK => ?_) AllReadyH.nil
    go_simp
    clear hHeld
    refine hK.out _ _ (cs8 _) (fun hHeld => ?_)
    clear hK K
    try simp only [Act.put, List.setIfInBounds_toArray, List.set_cons_zero, List.set_cons_succ]
    refine wpAnyH_take (i := 9) (v := ?_) (by simp only [List.getElem?_toArray, List.getElem?_cons_succ, List.getElem?_cons_zero]; rfl) (by kernel_rfl) (by kernel_rfl) (by kernel_rfl) (fun _ _ _ h => h) (Or.inl ⟨by rfl, ?_⟩) (by assumption) ?_
    rotate_left 1
    · intro w hSw; (try dsimp only at hSw); go_simp; (try with_reducible rfl)
    try simp only [Act.put, List.setIfInBounds_toArray, List.set_cons_zero, List.set_cons_succ]
    refine wpAnyH_take (i := 10) (v := ?_) (by simp only [List.getElem?_toArray, List.getElem?_cons_succ, List.getElem?_cons_zero]; rfl) (by kernel_rfl) (by kernel_rfl) (by kernel_rfl) (fun _ _ _ h => h) (Or.inl ⟨by rfl, ?_⟩) (by assumption) ?_
    rotate_left 1
    · intro w hSw; (try dsimp only at hSw); go_simp; (try with_reducible rfl)
    try simp only [Act.put, List.setIfInBounds_toArray, List.set_cons_zero, List.set_cons_succ]
    refine wpAnyH_done (by kernel_rfl) ?_ _
    refine NoPanic.normal ?_
    go_wp2
    refine bodyPost_ret (v := .tuple #[.pointer (some ⟨X.heap.size, 0, none⟩), .int .i64 0]) (by simp [results, Tryz.results20, go_sem]) rfl ?_
    refine ⟨X.heap.size, .slice none 0 0, rfl, RefAt.new (heap_alloc_new X.drew _) (World.ownsRow_nil _ _ _ _), ?_, ?_⟩
    · intro b hb
      have z2 := BX.out.size
      simp [RefD.foot, RefD.new, blks, Value.ownBlock] at hb
      omega
    · exact (BX.out.drew).alloc BX.out.size _
  | some a =>
    have TC : Hid (∀ (j : Nat) (u : Value), (l.flatMap TrA.cells)[j]? = some u → X.cell? (a.add j) = some u) := by
      rw [hX]
      exact fun j u hj => (hl.below (((Below.refl w.heap.size w).alloc (Nat.le_refl _) _))).cells j u hj
    clear hl hs hX rowX bX
    go_enter Tryz.func20, Tryz.ntmps20
    go_wp2
    rw [← HX.out]
    refine wp_region_noPanic ?_
    refine wp_region_held_drew (S := fun V => V.cell? ⟨w.heap.size, 0, none⟩ = some (.int .i64 (B : Int)) ∧ V.cell? ⟨w.heap.size, 1, none⟩ = some (.int .i64 Bs) ∧ V.cell? ⟨w.heap.size, 2, none⟩ = some (.slice (some a) l.length ca)) (by kernel_rfl) CS (fun hHeld => ?_)
    refine wpAnyH_take (i := 0) (v := ?_) (by simp only [List.getElem?_toArray, List.getElem?_cons_zero]; rfl) (by kernel_rfl) (by kernel_rfl) (by kernel_rfl) (fun _ _ _ h => h) (Or.inl ⟨by rfl, ?_⟩) (by assumption) ?_
    rotate_left 1
    · intro w hSw; (try dsimp only at hSw); go_simp; (try with_reducible rfl)
    try simp only [Act.put, List.setIfInBounds_toArray, List.set_cons_zero, List.set_cons_succ]
    refine wpAnyH_take (i := 1) (v := ?_) (by simp only [List.getElem?_toArray, List.getElem?_cons_succ, List.getElem?_cons_zero]; rfl) (by kernel_rfl) (by kernel_rfl) (by kernel_rfl) (fun _ _ _ h => h) (Or.inl ⟨by rfl, ?_⟩) (by assumption) ?_
    rotate_left 1
    · intro w hSw; (try dsimp only at hSw); go_simp; (try with_reducible rfl)
    try simp only [Act.put, List.setIfInBounds_toArray, List.set_cons_zero, List.set_cons_succ]
    refine wpAnyH_take (i := 2) (v := ?_) (by simp only [List.getElem?_toArray, List.getElem?_cons_succ, List.getElem?_cons_zero]; rfl) (by kernel_rfl) (by kernel_rfl) (by kernel_rfl) (fun _ _ _ h => h) (Or.inl ⟨by rfl, ?_⟩) (by assumption) ?_
    rotate_left 1
    · intro w hSw; (try dsimp only at hSw); go_simp; (try with_reducible rfl)
    try simp only [Act.put, List.setIfInBounds_toArray, List.set_cons_zero, List.set_cons_succ]
    refine wpAnyH_take (i := 3) (v := ?_) (by simp only [List.getElem?_toArray, List.getElem?_cons_succ, List.getElem?_cons_zero]; rfl) (by kernel_rfl) (by kernel_rfl) (by kernel_rfl) (fun _ _ _ h => h) (Or.inl ⟨by rfl, ?_⟩) (by assumption) ?_
    rotate_left 1
    · intro w hSw; (try dsimp only at hSw); go_simp; (try with_reducible rfl)
    try simp only [Act.put, List.setIfInBounds_toArray, List.set_cons_zero, List.set_cons_succ]
    refine wpAnyH_take (i := 4) (v := ?_) (by simp only [List.getElem?_toArray, List.getElem?_cons_succ, List.getElem?_cons_zero]; rfl) (by kernel_rfl) (by kernel_rfl) (by kernel_rfl) (fun _ _ _ h => h) (Or.inl ⟨by rfl, ?_⟩) (by assumption) ?_
    rotate_left 1
    · intro w hSw; (try dsimp only at hSw); go_simp; (try with_reducible rfl)
    try simp only [Act.put, List.setIfInBounds_toArray, List.set_cons_zero, List.set_cons_succ]
    refine wpAnyH_take (i := 5) (v := ?_) (by simp only [List.getElem?_toArray, List.getElem?_cons_succ, List.getElem?_cons_zero]; rfl) (by kernel_rfl) (by kernel_rfl) (by kernel_rfl) (fun _ _ _ h => h) (Or.inl ⟨by rfl, ?_⟩) (by assumption) ?_
    rotate_left 1
    · intro w hSw; (try dsimp only at hSw); go_simp; (try with_reducible rfl)
    try simp only [Act.put, List.setIfInBounds_toArray, List.set_cons_zero, List.set_cons_succ]
    refine wpAnyH_ready (rs := [6]) (by kernel_rfl) (by simp) ?_
    refine AllReadyH.cons (by simp only [List.getElem?_toArray, List.getElem?_cons_succ, List.getElem?_cons_zero]; rfl) (fun K hK => ?_) AllReadyH.nil
    skip
    refine wp_farO rfl _ _ 27 65 _ 3 24 rfl Tryz.underlying27 Tryz.info65 rfl (by decide) X.heap.size 0 l.length ca (.slice none 0 0) [] (l.flatMap TrA.cells) a rfl (World.ownsRow_nil _ _ _ _) rfl (tflat_len l) (fun j u hj => TC.out j u hj) (tflat_one l) (by omega) (by omega) (Nat.le_refl _) ?_
    intro v7 W7 o7 f7
    rw [Nat.zero_add, List.nil_append] at o7
    have g7 : X.drew.grownBy W7 none := by rcases f7 with ⟨_, h1⟩ | ⟨_, h1⟩ <;> exact h1
    have b7 : Below X.heap.size X W7 := ⟨g7.os, g7.tape, g7.output, g7.size, fun b hb => g7.block b hb (by simp)⟩
    obtain ⟨va, vc, rfl⟩ := sh_slice o7
    have O7 := hid o7
    have B7 := hid b7
    have cs7 := KS.out _ b7
    clear o7 f7 g7 b7
    clear hHeld
    refine hK.out _ _ cs7 (fun hHeld => ?_)
    clear hK K
    try simp only [Act.put, List.setIfInBounds_toArray, List.set_cons_zero, List.set_cons_succ]
    refine wpAnyH_take (i := 7) (v := ?_) (by simp only [List.getElem?_toArray, List.getElem?_cons_succ, List.getElem?_cons_zero]; rfl) (by kernel_rfl) (by kernel_rfl) (by kernel_rfl) (fun _ _ _ h => h) (Or.inl ⟨by rfl, ?_⟩) (by assumption) ?_
    rotate_left 1
    · intro w hSw; (try dsimp only at hSw); go_simp; (try with_reducible rfl)
    try simp only [Act.put, List.setIfInBounds_toArray, List.set_cons_zero, List.set_cons_succ]
    refine wpAnyH_ready (rs := [8]) (by kernel_rfl) (by simp) ?_
    refine AllReadyH.cons (by simp only [List.getElem?_toArray, List.getElem?_cons_succ, List.getElem?_cons_zero]; rfl) (fun K hK => ?_) AllReadyH.nil
    go_simp
    clear hHeld
    refine hK.out _ _ (KS.out _ (B7.out.alloc B7.out.size _)) (fun hHeld => ?_)
    clear hK K
    try simp only [Act.put, List.setIfInBounds_toArray, List.set_cons_zero, List.set_cons_succ]
    refine wpAnyH_take (i := 9) (v := ?_) (by simp only [List.getElem?_toArray, List.getElem?_cons_succ, List.getElem?_cons_zero]; rfl) (by kernel_rfl) (by kernel_rfl) (by kernel_rfl) (fun _ _ _ h => h) (Or.inl ⟨by rfl, ?_⟩) (by assumption) ?_
    rotate_left 1
    · intro w hSw; (try dsimp only at hSw); go_simp; (try with_reducible rfl)
    try simp only [Act.put, List.setIfInBounds_toArray, List.set_cons_zero, List.set_cons_succ]
    refine wpAnyH_take (i := 10) (v := ?_) (by simp only [List.getElem?_toArray, List.getElem?_cons_succ, List.getElem?_cons_zero]; rfl) (by kernel_rfl) (by kernel_rfl) (by kernel_rfl) (fun _ _ _ h => h) (Or.inl ⟨by rfl, ?_⟩) (by assumption) ?_
    rotate_left 1
    · intro w hSw; (try dsimp only at hSw); go_simp; (try with_reducible rfl)
    try simp only [Act.put, List.setIfInBounds_toArray, List.set_cons_zero, List.set_cons_succ]
    refine wpAnyH_done (by kernel_rfl) ?_ _
    refine NoPanic.normal ?_
    go_wp2
    refine bodyPost_ret (v := .tuple #[.pointer (some ⟨W7.heap.size, 0, none⟩), .int .i64 0]) (by simp [results, Tryz.results20, go_sem]) rfl ?_
    refine ⟨W7.heap.size, .slice va l.length vc, rfl, RefAt.new (heap_alloc_new W7 _) ?_, ?_, ?_⟩
    · exact own_base (own_kept O7.out fun g hg => Below.heap_alloc _ _ _ (own_block O7.out hg).2) (Nat.zero_le _)
    · intro b hb
      have z1 := B7.out.size
      have z2 := BX.out.size
      simp only [RefD.foot, RefD.new, List.mem_cons, List.mem_append, Option.mem_toList] at hb
      rcases hb with rfl | hb | hb | hb | hb
      · omega
      · simp [Value.ownBlock] at hb
      · have := (own_block O7.out hb).1; omega
      · simp [blks] at hb
      · simp [blks] at hb
    · exact (BX.out.trans (B7.out.mono BX.out.size)).alloc (Nat.le_trans BX.out.size B7.out.size) _
end Go.Proofs.YtcpncfngadablaaGreatDoor
/-
  DiskPlays: the law.
-/
namespace Go.Proofs.YtcpncfngadablaaGreatDoor
open Go.RowKit Go.Deep ShfKit
set_option maxRecDepth 100000
theorem box_two {w : World} {o : Array Value} : ((w.alloc (.cells o 29)).alloc (.cells o 29)).heap[w.heap.size]? = some (.cells o 29 (0, 0)) ∧ ((w.alloc (.cells o 29)).alloc (.cells o 29)).heap[w.heap.size + 1]? = some (.cells o 29 (0, 0)) := heap_two w _ _
theorem ib_zero {B : Nat} {Bs : Int} (h1 : 64 ≤ B) (h2 : B ≤ 65536) (p : Nat) (tv : Value) (l : List TrA) : IB 0 (RefD.new p tv l B Bs).pub :=
  ⟨⟨h1, h2⟩, by simp [RefD.new, RefD.pub], by simp [RefD.new, RefD.pub], by simp [RefD.new, RefD.pub], by simp [RefD.new, RefD.pub], by simp [RefD.new, RefD.pub], by simp [RefD.new, RefD.pub, total], by simp [RefD.new, RefD.pub], by simp [RefD.new, RefD.pub, total], by simp [RefD.new, RefD.pub], List.Pairwise.nil⟩
theorem below_of_far {W W3 : World} {v v3 : Value} (hv : v.ownBlock = none) (h : (v3.ownBlock = v.ownBlock ∧ W.grownBy W3 v.ownBlock) ∨ ((∀ g, v3.ownBlock = some g → W.heap.size ≤ g) ∧ W.grownBy W3 none)) : Below W.heap.size W W3 := by
  have g : W.grownBy W3 none := by
    rcases h with ⟨_, h⟩ | ⟨_, h⟩
    · rw [hv] at h
      exact h
    · exact h
  exact ⟨g.os, g.tape, g.output, g.size, fun b hb => g.block b hb (by simp)⟩
/-- the troubles are written over. -/
theorem own_over {W : World} {n : Nat} {va : Option Addr} {vc i : Nat} {xs : List Value} (h : W.ownsRow 0 65 3 (.slice va n vc) n xs) (hi : i < n) : ∃ G, va = some ⟨G, 0, none⟩ ∧ (∃ a b c, W.cell? ⟨G, i * 3, none⟩ = some a ∧ W.cell? ⟨G, i * 3 + 1, none⟩ = some b ∧ W.cell? ⟨G, i * 3 + 2, none⟩ = some c) ∧ (∀ j, W.frozen? ⟨G, j, none⟩ = false) ∧ G < W.heap.size ∧ ∀ u0 u1 u2, ∃ ys, (((W.setCell ⟨G, i * 3, none⟩ u0).setCell ⟨G, i * 3 + 1, none⟩ u1).setCell ⟨G, i * 3 + 2, none⟩ u2).ownsRow 0 65 3 (.slice va n vc) n ys := by
  have hl : xs.length = n * 3 := h.1
  obtain ⟨a, ha⟩ : ∃ a, xs[i * 3]? = some a := ⟨_, List.getElem?_eq_getElem (by omega)⟩
  obtain ⟨b, hb⟩ : ∃ b, xs[i * 3 + 1]? = some b := ⟨_, List.getElem?_eq_getElem (by omega)⟩
  obtain ⟨c, hc⟩ : ∃ c, xs[i * 3 + 2]? = some c := ⟨_, List.getElem?_eq_getElem (by omega)⟩
  obtain ⟨G, gc, e1, _, hG, k1, _⟩ := own_cell h ha
  obtain ⟨G2, gc2, e2, _, _, k2, _⟩ := own_cell h hb
  obtain ⟨G3, gc3, e3, _, _, k3, _⟩ := own_cell h hc
  simp only [Value.slice.injEq, true_and] at e1 e2 e3
  obtain ⟨rfl, rfl⟩ := e1
  simp only [Option.some.injEq, Addr.mk.injEq] at e2 e3
  obtain ⟨⟨rfl, _⟩, _⟩ := e2
  obtain ⟨⟨rfl, _⟩, _⟩ := e3
  refine ⟨G, rfl, ⟨a, b, c, k1, k2, k3⟩, fun j => ?_, hG, fun u0 u1 u2 => ?_⟩
  · rcases h.2 with ⟨e', _⟩ | ⟨g', cap, cur, e', _, hr, _⟩
    · cases e'
    · simp only [Value.slice.injEq, Option.some.injEq, Addr.mk.injEq] at e'
      obtain ⟨⟨rfl, _⟩, _⟩ := e'
      exact unfrozen_row hr j
  · obtain ⟨s1, _⟩ := own_set h (j := i * 3) rfl u0
    obtain ⟨s2, _⟩ := own_set s1 (j := i * 3 + 1) rfl u1
    obtain ⟨s3, _⟩ := own_set s2 (j := i * 3 + 2) rfl u2
    exact ⟨_, s3⟩
set_option maxHeartbeats 4000000 in
theorem diskPlays_law {w : World} {E : Nat → Addr} (V : Env w w.heap.size E) (B Bs : Int) {sa : Option Addr} {ca : Nat} {l : List TrA} (hT : TrsAt w sa l) (hs : sa = none → l = []) (hl : l.length ≤ 1073741824) {so : Option Addr} {co : Nat} {ops : List OpA} (hO : OpsAt w so ops) (hnm : ∀ o ∈ ops, o.name.size ≤ 1099511627776) (hlen : ops.length ≤ 1048576) :
    Calls Tryz.prog 4 #[.agg #[.int .i64 B, .int .i64 Bs, .slice sa l.length ca], .slice so ops.length co] w fun e w' => e = .returned (.bool true) ∧ Below w.heap.size w w' := by
  obtain ⟨n, hn⟩ : ∃ n, n = l.length := ⟨_, rfl⟩
  obtain ⟨Wa, hWa⟩ : ∃ Wa, Wa = (w.alloc (.cells #[.int .i64 B, .int .i64 Bs, .slice sa n ca] 29)).alloc (.cells #[.int .i64 B, .int .i64 Bs, .slice sa n ca] 29) := ⟨_, rfl⟩
  have bWa : Below w.heap.size w Wa := by rw [hWa]; exact ((Below.refl _ w).alloc (Nat.le_refl _) _).alloc (by simp) _
  have rows : Wa.heap[w.heap.size]? = some (.cells #[.int .i64 B, .int .i64 Bs, .slice sa n ca] 29 (0, 0)) ∧ Wa.heap[w.heap.size + 1]? = some (.cells #[.int .i64 B, .int .i64 Bs, .slice sa n ca] 29 (0, 0)) := by rw [hWa]; exact box_two
  have zWa : Wa.heap.size = w.heap.size + 2 := by rw [hWa]; simp
  have s0 := cell_row rows.1 0
  have s1 := cell_row rows.1 1
  have s2 := cell_row rows.1 2
  have i0 := cell_row rows.2 0
  have i1 := cell_row rows.2 1
  have i2 := cell_row rows.2 2
  have if2 := unfrozen_row rows.2 2
  simp at s0 s1 s2 i0 i1 i2
  /- behind the copy of the troubles -/
  have REST : Hid (∀ (W3 : World) (va : Option Addr) (vc : Nat), Below Wa.heap.size Wa W3 → W3.ownsRow Wa.heap.size 65 3 (.slice va n vc) n (l.flatMap TrA.cells) → ∃ Wc, Wc = W3.setCell ⟨w.heap.size + 1, 2, none⟩ (.slice va n vc) ∧ Below w.heap.size w Wc ∧ Wc.heap.size = W3.heap.size ∧ Wa.heap.size ≤ Wc.heap.size ∧ Wc.heap[w.heap.size]? = some (.cells #[.int .i64 B, .int .i64 Bs, .slice sa n ca] 29 (0, 0)) ∧ Wc.heap[w.heap.size + 1]? = some (.cells #[.int .i64 B, .int .i64 Bs, .slice va n vc] 29 (0, 0)) ∧ Wc.ownsRow Wa.heap.size 65 3 (.slice va n vc) n (l.flatMap TrA.cells) ∧ TrsAt Wc va l) := fun W3 va vc hb ho => by
    have r2 := (hb.block _ (lt_of_block rows.2)).trans rows.2
    have r1 := (hb.block _ (lt_of_block rows.1)).trans rows.1
    have z3 := hb.size
    have ho2 : (W3.setCell ⟨w.heap.size + 1, 2, none⟩ (.slice va n vc)).ownsRow Wa.heap.size 65 3 (.slice va n vc) n (l.flatMap TrA.cells) := own_kept ho fun g hg => Below.heap_setCell _ _ _ _ (by have := (own_block ho hg).1; show g ≠ w.heap.size + 1; omega)
    refine ⟨_, rfl, ((bWa.trans (hb.mono (by omega))).setCell (by show _ ≤ w.heap.size + 1; omega) _), by simp [World.setCell], by simp [World.setCell]; omega, (Below.heap_setCell _ _ _ _ (by simp)).trans r1, ?_, ho2, ?_⟩
    · rw [heap_setCell_row r2 2]
      rfl
    · rw [hn] at ho2
      obtain ⟨sa', c', e1, e2, _⟩ := trs_own ho2 hT.wf
      simp only [Value.slice.injEq] at e1
      obtain ⟨rfl, _⟩ := e1
      rw [← hn] at e2
      exact e2
  have ENV : Hid (∀ W, Below w.heap.size w W → Env W w.heap.size E) := fun W hb => V.touch (Touch.of_below (F := []) hb (Nat.le_refl _)) (by simp)
  have TRS : Hid (∀ W, Below w.heap.size w W → TrsAt W sa l) := fun W hb => hT.below hb
  have HN := hid hn
  have HROW := hid rows
  have HWa := hid hWa
  have HZ := hid zWa
  have HO := hid hO
  have HNM := hid hnm
  have HBA := hid bWa
  have HSN := hid hs
  have TC : Hid (∀ a, sa = some a → ∀ (j : Nat) (u : Value), (l.flatMap TrA.cells)[j]? = some u → Wa.cell? (a.add j) = some u) := fun a ha j u hj => by
    subst ha
    exact (hT.below bWa).cells j u hj
  rw [← hn] at hl ⊢
  clear hn hWa bWa rows zWa hO hnm hT hs V
  cases sa with
  | none =>
    by_cases hok : SetOk B Bs
    · obtain ⟨h1, h2, h3, h4, h5⟩ := hok
      obtain ⟨Bn, hBn⟩ : ∃ b : Nat, B = (b : Int) := ⟨B.toNat, by omega⟩
      subst hBn
      have NEW : Hid (∀ (Wc : World) (va : Option Addr) (vc : Nat), TrsAt Wc va l → Calls Tryz.prog 6 #[.agg #[.int .i64 (Bn : Int), .int .i64 Bs, .slice va n vc]] Wc fun e w4 => ∃ p mf mt T, e = .returned (.tuple #[ptr p, .int .i64 0]) ∧ Rep w4 Wc.heap.size p mf mt (.newT Bn Bs T) ∧ TIs T l ∧ Below Wc.heap.size Wc w4) := fun Wc va vc ht => by
        have r := New_x (w := Wc) (B := Bn) (Bs := Bs) (ca := vc) (by omega) (by omega) h3 h4 h5 ht (by have := HN.out; omega)
        have e := HN.out
        rw [← e] at r
        exact r
      have RNEW : Hid (∀ W, Below w.heap.size w W → Calls Tryz.prog 20 #[.agg #[.int .i64 (Bn : Int), .int .i64 Bs, .slice none n ca]] W fun e w5 => ∃ q tv, e = .returned (.tuple #[.pointer (some ⟨q, 0, none⟩), .int .i64 0]) ∧ RefAt w5 (RefD.new q tv l Bn Bs) ∧ (∀ b ∈ (RefD.new q tv l Bn Bs).foot, W.heap.size ≤ b) ∧ Below W.heap.size W w5) := fun W hb => by
        have r := rNew_ok (w := W) (B := Bn) (Bs := Bs) (ca := ca) (by omega) (by omega) h3 h4 h5 (TRS.out W hb) HSN.out (by have := HN.out; omega)
        have e := HN.out
        rw [← e] at r
        exact r
      have IBZ := hid (fun q tv => ib_zero (B := Bn) (Bs := Bs) (by omega) (by omega) q tv l)
      clear h3 h4 h5
      have n0 : n = 0 := by have h1 := HN.out; have h2 := HSN.out rfl; rw [h2] at h1; exact h1
      subst n0
      go_enter Tryz.func4, Tryz.ntmps4
      go_wp2_with (first
        | (have q := N6; clear q; go_at_call 20; refine (RNEW.out _ BW4.out).mono ?_; rintro e w5 ⟨rq, tv, rfl, h51, h52, h53⟩; have R5 := hid h51; have F5 := hid h52; have B5 := hid h53; clear h51 h52 h53; have K5 := hid ((B5.out.block _ (lt_of_block X4.out.2)).trans X4.out.2))
        | (have q := XC; clear q; rw [← HWC.out]; go_at_call 6; refine (NEW.out _ _ _ XC.out.2.2.2.2.2.2).mono ?_; rintro e w4 ⟨dp, mf, mt, DT, rfl, h41, h42, h43⟩; have N6 := hid h41; have N7 := hid h42; have N8 := hid h43; clear h41 h42 h43; have X4 := hid (And.intro ((N8.out.block _ (lt_of_block XC.out.2.2.2.1)).trans XC.out.2.2.2.1) ((N8.out.block _ (lt_of_block XC.out.2.2.2.2.1)).trans XC.out.2.2.2.2.1)); have BW4 : Hid (Below w.heap.size w w4) := XC.out.1.trans (N8.out.mono XC.out.1.size); have t0 := cell_row X4.out.1 0; have t1 := cell_row X4.out.1 1; have t2 := cell_row X4.out.1 2; simp at t0 t1 t2)
        | (rw [← HWa.out]; at_builtin; refine wpl_none rfl _ _ 27 rfl 65 _ 3 24 Tryz.underlying27 Tryz.info65 none 0 0 ca rfl rfl (Nat.le_refl _) ?_; obtain ⟨Wc, hWc, xc⟩ := REST.out Wa none 0 (Below.refl _ _) (by have h1 := HSN.out rfl; rw [h1]; exact World.ownsRow_nil _ _ _ _); have XC := hid xc; have HWC := hid hWc; clear xc hWc))
      have BW5 : Hid (Below w.heap.size w w5) := BW4.out.trans (B5.out.mono BW4.out.size)
      have OW5 : Hid (w5.ownsRow 0 65 3 (.slice none 0 0) 0 (l.flatMap TrA.cells)) := own_base (own_kept XC.out.2.2.2.2.2.1 fun g hg => (B5.out.block g (Nat.lt_of_lt_of_le (own_block XC.out.2.2.2.2.2.1 hg).2 N8.out.size)).trans (N8.out.block g (own_block XC.out.2.2.2.2.2.1 hg).2)) (Nat.zero_le _)
      have GB : Hid (∀ g, (Value.slice none 0 0).ownBlock = some g → Wa.heap.size ≤ g ∧ g < Wc.heap.size) := fun g hg => own_block XC.out.2.2.2.2.2.1 hg
      go_loopw [10] (fun iv W => Hid (∃ (i : Nat) (xs : List Value), iv = .int .i64 (i : Int) ∧ i ≤ 0 ∧ Touch (Value.slice none 0 0).ownBlock.toList w5 W ∧ W.ownsRow 0 65 3 (.slice none 0 0) 0 xs)) (fun iv _ => match iv with | .int _ i => 0 + 1 - i.toNat | _ => 0)
      case atStart => exact ⟨0, _, rfl, Nat.zero_le _, Touch.refl _ _, OW5.out⟩
      case round =>
        obtain ⟨W, hW⟩ : ∃ W, W = wr := ⟨_, rfl⟩
        rw [← hW] at hrel ⊢
        clear hW
        obtain ⟨i, xs, rfl, hi, htw, hxs⟩ := hrel.out
        clear hrel
        have rW : W.heap[w.heap.size + 1]? = _ := (htw.block _ (lt_of_block K5.out) (by simp only [Option.mem_toList]; intro hm; have h1 := GB.out _ hm; have h2 := HZ.out; omega)).trans K5.out
        have q2 := cell_row rW 2
        simp at q2
        have lW := lt_of_block rW
        have HTW := hid htw
        have HXS := hid hxs
        clear rW htw
        have hnlt : ¬ (i : Int) < ((0 : Nat) : Int) := by omega
        clear hxs
        have zc := XC.out.1.size
        have za := XC.out.2.2.1
        have z4 := N8.out.size
        have z5 := B5.out.size
        have BWW : Hid (Below w.heap.size w W) := BW5.out.trans (HTW.out.below (by omega) (fun b hb => by have h1 := GB.out b (by simpa using hb); have h2 := HZ.out; omega))
        have PL : Hid (Pl W E w.heap.size dp mf mt 0 (.newT Bn Bs DT) (RefD.new rq tv l Bn Bs)) := by
          have hD : ∀ b ∈ (DiskC.newT Bn Bs DT).foot dp mf mt, Wc.heap.size ≤ b ∧ b < w4.heap.size := fun b hb => ⟨N6.out.base b hb, N6.out.lt b hb⟩
          refine ⟨ENV.out W BWW.out, ?_, ?_, rfl, N7.out.from _, IBZ.out rq tv, fun b hb hm => ?_, fun b hb => ?_, by show l.length ≤ _; have := HN.out; omega⟩
          · refine (((N6.out.touch (Touch.of_below (F := []) B5.out (Nat.le_refl _)) (by simp)).touch HTW.out (fun b hb hm => ?_)).lower (by omega))
            have h1 := GB.out b (by simpa using hm)
            have h2 := hD b hb
            omega
          · refine R5.out.touch HTW.out (fun b hb hm => ?_)
            have h1 := GB.out b (by simpa using hm)
            have h2 := F5.out b hb
            omega
          · have h1 := F5.out b hb
            have h2 := hD b hm
            omega
          · have h1 := F5.out b hb
            omega
        have C21 := hid (plays_any (ca := co) PL.out rfl HO.out BWW.out HNM.out (by omega))
        clear zc za z4 z5
        go_wp2_with (go_at_call 21; refine C21.out.mono ?_; rintro e w9 ⟨rfl, hb9⟩; have B9 := hid hb9; clear hb9)
        go_ret
        exact ⟨rfl, BWW.out.trans B9.out⟩
    · have NEW : Hid (∀ (Wc : World) (va : Option Addr) (vc : Nat), Below w.heap.size w Wc → Calls Tryz.prog 6 #[.agg #[.int .i64 B, .int .i64 Bs, .slice va n vc]] Wc fun e w4 => e = .returned (.tuple #[.pointer none, .int .i64 1]) ∧ Below Wc.heap.size Wc w4) := fun Wc va vc hb => New_bad (ENV.out Wc hb) hok
      have RNEW : Hid (∀ W, Calls Tryz.prog 20 #[.agg #[.int .i64 B, .int .i64 Bs, .slice none n ca]] W fun e w5 => e = .returned (.tuple #[.pointer none, .int .i64 1]) ∧ Below W.heap.size W w5) := fun W => rNew_bad hok
      clear hok
      have n0 : n = 0 := by have h1 := HN.out; have h2 := HSN.out rfl; rw [h2] at h1; exact h1
      subst n0
      go_enter Tryz.func4, Tryz.ntmps4
      go_wp2_with (first
        | (have q := N8; clear q; go_at_call 20; refine (RNEW.out _).mono ?_; rintro e w5 ⟨rfl, h53⟩; have B5 := hid h53; clear h53; have K5 := hid ((B5.out.block _ (lt_of_block X4.out.2)).trans X4.out.2))
        | (have q := XC; clear q; rw [← HWC.out]; go_at_call 6; refine (NEW.out _ _ _ XC.out.1).mono ?_; rintro e w4 ⟨rfl, h43⟩; have N8 := hid h43; clear h43; have X4 := hid (And.intro ((N8.out.block _ (lt_of_block XC.out.2.2.2.1)).trans XC.out.2.2.2.1) ((N8.out.block _ (lt_of_block XC.out.2.2.2.2.1)).trans XC.out.2.2.2.2.1)); have BW4 : Hid (Below w.heap.size w w4) := XC.out.1.trans (N8.out.mono XC.out.1.size); have t0 := cell_row X4.out.1 0; have t1 := cell_row X4.out.1 1; have t2 := cell_row X4.out.1 2; simp at t0 t1 t2)
        | (rw [← HWa.out]; at_builtin; refine wpl_none rfl _ _ 27 rfl 65 _ 3 24 Tryz.underlying27 Tryz.info65 none 0 0 ca rfl rfl (Nat.le_refl _) ?_; obtain ⟨Wc, hWc, xc⟩ := REST.out Wa none 0 (Below.refl _ _) (by have h1 := HSN.out rfl; rw [h1]; exact World.ownsRow_nil _ _ _ _); have XC := hid xc; have HWC := hid hWc; clear xc hWc))
      have BW5 : Hid (Below w.heap.size w w5) := BW4.out.trans (B5.out.mono BW4.out.size)
      have OW5 : Hid (w5.ownsRow 0 65 3 (.slice none 0 0) 0 (l.flatMap TrA.cells)) := own_base (own_kept XC.out.2.2.2.2.2.1 fun g hg => (B5.out.block g (Nat.lt_of_lt_of_le (own_block XC.out.2.2.2.2.2.1 hg).2 N8.out.size)).trans (N8.out.block g (own_block XC.out.2.2.2.2.2.1 hg).2)) (Nat.zero_le _)
      have GB : Hid (∀ g, (Value.slice none 0 0).ownBlock = some g → Wa.heap.size ≤ g ∧ g < Wc.heap.size) := fun g hg => own_block XC.out.2.2.2.2.2.1 hg
      go_loopw [10] (fun iv W => Hid (∃ (i : Nat) (xs : List Value), iv = .int .i64 (i : Int) ∧ i ≤ 0 ∧ Touch (Value.slice none 0 0).ownBlock.toList w5 W ∧ W.ownsRow 0 65 3 (.slice none 0 0) 0 xs)) (fun iv _ => match iv with | .int _ i => 0 + 1 - i.toNat | _ => 0)
      case atStart => exact ⟨0, _, rfl, Nat.zero_le _, Touch.refl _ _, OW5.out⟩
      case round =>
        obtain ⟨W, hW⟩ : ∃ W, W = wr := ⟨_, rfl⟩
        rw [← hW] at hrel ⊢
        clear hW
        obtain ⟨i, xs, rfl, hi, htw, hxs⟩ := hrel.out
        clear hrel
        have rW : W.heap[w.heap.size + 1]? = _ := (htw.block _ (lt_of_block K5.out) (by simp only [Option.mem_toList]; intro hm; have h1 := GB.out _ hm; have h2 := HZ.out; omega)).trans K5.out
        have q2 := cell_row rW 2
        simp at q2
        have lW := lt_of_block rW
        have HTW := hid htw
        have HXS := hid hxs
        clear rW htw
        have hnlt : ¬ (i : Int) < ((0 : Nat) : Int) := by omega
        clear hxs
        have zc := XC.out.1.size
        have za := XC.out.2.2.1
        have z4 := N8.out.size
        have z5 := B5.out.size
        have BWW : Hid (Below w.heap.size w W) := BW5.out.trans (HTW.out.below (by omega) (fun b hb => by have h1 := GB.out b (by simpa using hb); have h2 := HZ.out; omega))
        clear zc za z4 z5
        go_wp2
        go_ret
        exact ⟨rfl, BWW.out⟩
  | some a =>
    by_cases hok : SetOk B Bs
    · obtain ⟨h1, h2, h3, h4, h5⟩ := hok
      obtain ⟨Bn, hBn⟩ : ∃ b : Nat, B = (b : Int) := ⟨B.toNat, by omega⟩
      subst hBn
      have NEW : Hid (∀ (Wc : World) (va : Option Addr) (vc : Nat), TrsAt Wc va l → Calls Tryz.prog 6 #[.agg #[.int .i64 (Bn : Int), .int .i64 Bs, .slice va n vc]] Wc fun e w4 => ∃ p mf mt T, e = .returned (.tuple #[ptr p, .int .i64 0]) ∧ Rep w4 Wc.heap.size p mf mt (.newT Bn Bs T) ∧ TIs T l ∧ Below Wc.heap.size Wc w4) := fun Wc va vc ht => by
        have r := New_x (w := Wc) (B := Bn) (Bs := Bs) (ca := vc) (by omega) (by omega) h3 h4 h5 ht (by have := HN.out; omega)
        have e := HN.out
        rw [← e] at r
        exact r
      have RNEW : Hid (∀ W, Below w.heap.size w W → Calls Tryz.prog 20 #[.agg #[.int .i64 (Bn : Int), .int .i64 Bs, .slice (some a) n ca]] W fun e w5 => ∃ q tv, e = .returned (.tuple #[.pointer (some ⟨q, 0, none⟩), .int .i64 0]) ∧ RefAt w5 (RefD.new q tv l Bn Bs) ∧ (∀ b ∈ (RefD.new q tv l Bn Bs).foot, W.heap.size ≤ b) ∧ Below W.heap.size W w5) := fun W hb => by
        have r := rNew_ok (w := W) (B := Bn) (Bs := Bs) (ca := ca) (by omega) (by omega) h3 h4 h5 (TRS.out W hb) HSN.out (by have := HN.out; omega)
        have e := HN.out
        rw [← e] at r
        exact r
      have IBZ := hid (fun q tv => ib_zero (B := Bn) (Bs := Bs) (by omega) (by omega) q tv l)
      clear h3 h4 h5
      go_enter Tryz.func4, Tryz.ntmps4
      go_wp2_with (first
        | (have q := N6; clear q; go_at_call 20; refine (RNEW.out _ BW4.out).mono ?_; rintro e w5 ⟨rq, tv, rfl, h51, h52, h53⟩; have R5 := hid h51; have F5 := hid h52; have B5 := hid h53; clear h51 h52 h53; have K5 := hid ((B5.out.block _ (lt_of_block X4.out.2)).trans X4.out.2))
        | (have q := XC; clear q; rw [← HWC.out]; go_at_call 6; refine (NEW.out _ _ _ XC.out.2.2.2.2.2.2).mono ?_; rintro e w4 ⟨dp, mf, mt, DT, rfl, h41, h42, h43⟩; have N6 := hid h41; have N7 := hid h42; have N8 := hid h43; clear h41 h42 h43; have X4 := hid (And.intro ((N8.out.block _ (lt_of_block XC.out.2.2.2.1)).trans XC.out.2.2.2.1) ((N8.out.block _ (lt_of_block XC.out.2.2.2.2.1)).trans XC.out.2.2.2.2.1)); have BW4 : Hid (Below w.heap.size w w4) := XC.out.1.trans (N8.out.mono XC.out.1.size); have t0 := cell_row X4.out.1 0; have t1 := cell_row X4.out.1 1; have t2 := cell_row X4.out.1 2; simp at t0 t1 t2)
        | (rw [← HWa.out]; at_builtin; refine wpl_far rfl _ _ 27 rfl Wa.heap.size 65 _ 3 24 Tryz.underlying27 Tryz.info65 rfl (by decide) (.slice none 0 0) 0 [] rfl (World.ownsRow_nil _ _ _ _) a n ca (l.flatMap TrA.cells) rfl (by rw [tflat_len, ← HN.out]) (fun j u hj => TC.out a rfl j u hj) (tflat_one l) (by omega) (by omega) (Nat.le_refl _) ?_; intro v3 W3 o3 f3; rw [Nat.zero_add, List.nil_append] at o3; obtain ⟨va, vc, rfl⟩ := sh_slice o3; have b3 := below_of_far rfl f3; obtain ⟨Wc, hWc, xc⟩ := REST.out W3 va vc b3 o3; have XC := hid xc; have HWC := hid hWc; have r3 := (b3.block _ (lt_of_block HROW.out.2)).trans HROW.out.2; have y0 := cell_row r3 0; have y1 := cell_row r3 1; have y2 := cell_row r3 2; have yf := unfrozen_row r3 2; simp at y0 y1 y2; clear o3 f3 b3 xc hWc r3))
      have BW5 : Hid (Below w.heap.size w w5) := BW4.out.trans (B5.out.mono BW4.out.size)
      have OW5 : Hid (w5.ownsRow 0 65 3 (.slice va n vc) n (l.flatMap TrA.cells)) := own_base (own_kept XC.out.2.2.2.2.2.1 fun g hg => (B5.out.block g (Nat.lt_of_lt_of_le (own_block XC.out.2.2.2.2.2.1 hg).2 N8.out.size)).trans (N8.out.block g (own_block XC.out.2.2.2.2.2.1 hg).2)) (Nat.zero_le _)
      have GB : Hid (∀ g, (Value.slice va n vc).ownBlock = some g → Wa.heap.size ≤ g ∧ g < Wc.heap.size) := fun g hg => own_block XC.out.2.2.2.2.2.1 hg
      go_loopw [10] (fun iv W => Hid (∃ (i : Nat) (xs : List Value), iv = .int .i64 (i : Int) ∧ i ≤ n ∧ Touch (Value.slice va n vc).ownBlock.toList w5 W ∧ W.ownsRow 0 65 3 (.slice va n vc) n xs)) (fun iv _ => match iv with | .int _ i => n + 1 - i.toNat | _ => 0)
      case atStart => exact ⟨0, _, rfl, Nat.zero_le _, Touch.refl _ _, OW5.out⟩
      case round =>
        obtain ⟨W, hW⟩ : ∃ W, W = wr := ⟨_, rfl⟩
        rw [← hW] at hrel ⊢
        clear hW
        obtain ⟨i, xs, rfl, hi, htw, hxs⟩ := hrel.out
        clear hrel
        have rW : W.heap[w.heap.size + 1]? = _ := (htw.block _ (lt_of_block K5.out) (by simp only [Option.mem_toList]; intro hm; have h1 := GB.out _ hm; have h2 := HZ.out; omega)).trans K5.out
        have q2 := cell_row rW 2
        simp at q2
        have lW := lt_of_block rW
        have HTW := hid htw
        have HXS := hid hxs
        clear rW htw
        by_cases hlt : i < n
        · obtain ⟨G, hG, ⟨u0, u1, u2, k0, k1, k2⟩, kf, lG, hov⟩ := own_over hxs hlt
          subst hG
          have hlt1 : (i : Int) < (n : Int) := by omega
          have i9 : (0 : Int) ≤ (i : Int) := by omega
          have V2 : IntKind.i64.wrap ((i : Int) + 1) = (i : Int) + 1 := by rw [IntKind.wrap_i64]; omega
          have kf0 := kf (i * 3)
          have kf1 := kf (i * 3 + 1)
          have kf2 := kf (i * 3 + 2)
          have HOV := hid hov
          clear hxs kf hov
          go_wp2
          obtain ⟨ys, hys⟩ := HOV.out (.int .i64 (i : Int)) (.int .i64 2) (.int .i64 1)
          exact ⟨⟨i + 1, ys, by simp, by omega, ((HTW.out.setCell (.inl (by simp [Value.ownBlock])) _).setCell (.inl (by simp [Value.ownBlock])) _).setCell (.inl (by simp [Value.ownBlock])) _, hys⟩, by simp; omega⟩
        · have hnlt : ¬ (i : Int) < (n : Int) := by omega
          clear hxs
          have zc := XC.out.1.size
          have za := XC.out.2.2.1
          have z4 := N8.out.size
          have z5 := B5.out.size
          have BWW : Hid (Below w.heap.size w W) := BW5.out.trans (HTW.out.below (by omega) (fun b hb => by have h1 := GB.out b (by simpa using hb); have h2 := HZ.out; omega))
          have PL : Hid (Pl W E w.heap.size dp mf mt 0 (.newT Bn Bs DT) (RefD.new rq tv l Bn Bs)) := by
            have hD : ∀ b ∈ (DiskC.newT Bn Bs DT).foot dp mf mt, Wc.heap.size ≤ b ∧ b < w4.heap.size := fun b hb => ⟨N6.out.base b hb, N6.out.lt b hb⟩
            refine ⟨ENV.out W BWW.out, ?_, ?_, rfl, N7.out.from _, IBZ.out rq tv, fun b hb hm => ?_, fun b hb => ?_, by show l.length ≤ _; have := HN.out; omega⟩
            · refine (((N6.out.touch (Touch.of_below (F := []) B5.out (Nat.le_refl _)) (by simp)).touch HTW.out (fun b hb hm => ?_)).lower (by omega))
              have h1 := GB.out b (by simpa using hm)
              have h2 := hD b hb
              omega
            · refine R5.out.touch HTW.out (fun b hb hm => ?_)
              have h1 := GB.out b (by simpa using hm)
              have h2 := F5.out b hb
              omega
            · have h1 := F5.out b hb
              have h2 := hD b hm
              omega
            · have h1 := F5.out b hb
              omega
          have C21 := hid (plays_any (ca := co) PL.out rfl HO.out BWW.out HNM.out (by omega))
          clear zc za z4 z5
          go_wp2_with (go_at_call 21; refine C21.out.mono ?_; rintro e w9 ⟨rfl, hb9⟩; have B9 := hid hb9; clear hb9)
          go_ret
          exact ⟨rfl, BWW.out.trans B9.out⟩
    · have NEW : Hid (∀ (Wc : World) (va : Option Addr) (vc : Nat), Below w.heap.size w Wc → Calls Tryz.prog 6 #[.agg #[.int .i64 B, .int .i64 Bs, .slice va n vc]] Wc fun e w4 => e = .returned (.tuple #[.pointer none, .int .i64 1]) ∧ Below Wc.heap.size Wc w4) := fun Wc va vc hb => New_bad (ENV.out Wc hb) hok
      have RNEW : Hid (∀ W, Calls Tryz.prog 20 #[.agg #[.int .i64 B, .int .i64 Bs, .slice (some a) n ca]] W fun e w5 => e = .returned (.tuple #[.pointer none, .int .i64 1]) ∧ Below W.heap.size W w5) := fun W => rNew_bad hok
      clear hok
      go_enter Tryz.func4, Tryz.ntmps4
      go_wp2_with (first
        | (have q := N8; clear q; go_at_call 20; refine (RNEW.out _).mono ?_; rintro e w5 ⟨rfl, h53⟩; have B5 := hid h53; clear h53; have K5 := hid ((B5.out.block _ (lt_of_block X4.out.2)).trans X4.out.2))
        | (have q := XC; clear q; rw [← HWC.out]; go_at_call 6; refine (NEW.out _ _ _ XC.out.1).mono ?_; rintro e w4 ⟨rfl, h43⟩; have N8 := hid h43; clear h43; have X4 := hid (And.intro ((N8.out.block _ (lt_of_block XC.out.2.2.2.1)).trans XC.out.2.2.2.1) ((N8.out.block _ (lt_of_block XC.out.2.2.2.2.1)).trans XC.out.2.2.2.2.1)); have BW4 : Hid (Below w.heap.size w w4) := XC.out.1.trans (N8.out.mono XC.out.1.size); have t0 := cell_row X4.out.1 0; have t1 := cell_row X4.out.1 1; have t2 := cell_row X4.out.1 2; simp at t0 t1 t2)
        | (rw [← HWa.out]; at_builtin; refine wpl_far rfl _ _ 27 rfl Wa.heap.size 65 _ 3 24 Tryz.underlying27 Tryz.info65 rfl (by decide) (.slice none 0 0) 0 [] rfl (World.ownsRow_nil _ _ _ _) a n ca (l.flatMap TrA.cells) rfl (by rw [tflat_len, ← HN.out]) (fun j u hj => TC.out a rfl j u hj) (tflat_one l) (by omega) (by omega) (Nat.le_refl _) ?_; intro v3 W3 o3 f3; rw [Nat.zero_add, List.nil_append] at o3; obtain ⟨va, vc, rfl⟩ := sh_slice o3; have b3 := below_of_far rfl f3; obtain ⟨Wc, hWc, xc⟩ := REST.out W3 va vc b3 o3; have XC := hid xc; have HWC := hid hWc; have r3 := (b3.block _ (lt_of_block HROW.out.2)).trans HROW.out.2; have y0 := cell_row r3 0; have y1 := cell_row r3 1; have y2 := cell_row r3 2; have yf := unfrozen_row r3 2; simp at y0 y1 y2; clear o3 f3 b3 xc hWc r3))
      have BW5 : Hid (Below w.heap.size w w5) := BW4.out.trans (B5.out.mono BW4.out.size)
      have OW5 : Hid (w5.ownsRow 0 65 3 (.slice va n vc) n (l.flatMap TrA.cells)) := own_base (own_kept XC.out.2.2.2.2.2.1 fun g hg => (B5.out.block g (Nat.lt_of_lt_of_le (own_block XC.out.2.2.2.2.2.1 hg).2 N8.out.size)).trans (N8.out.block g (own_block XC.out.2.2.2.2.2.1 hg).2)) (Nat.zero_le _)
      have GB : Hid (∀ g, (Value.slice va n vc).ownBlock = some g → Wa.heap.size ≤ g ∧ g < Wc.heap.size) := fun g hg => own_block XC.out.2.2.2.2.2.1 hg
      go_loopw [10] (fun iv W => Hid (∃ (i : Nat) (xs : List Value), iv = .int .i64 (i : Int) ∧ i ≤ n ∧ Touch (Value.slice va n vc).ownBlock.toList w5 W ∧ W.ownsRow 0 65 3 (.slice va n vc) n xs)) (fun iv _ => match iv with | .int _ i => n + 1 - i.toNat | _ => 0)
      case atStart => exact ⟨0, _, rfl, Nat.zero_le _, Touch.refl _ _, OW5.out⟩
      case round =>
        obtain ⟨W, hW⟩ : ∃ W, W = wr := ⟨_, rfl⟩
        rw [← hW] at hrel ⊢
        clear hW
        obtain ⟨i, xs, rfl, hi, htw, hxs⟩ := hrel.out
        clear hrel
        have rW : W.heap[w.heap.size + 1]? = _ := (htw.block _ (lt_of_block K5.out) (by simp only [Option.mem_toList]; intro hm; have h1 := GB.out _ hm; have h2 := HZ.out; omega)).trans K5.out
        have q2 := cell_row rW 2
        simp at q2
        have lW := lt_of_block rW
        have HTW := hid htw
        have HXS := hid hxs
        clear rW htw
        by_cases hlt : i < n
        · obtain ⟨G, hG, ⟨u0, u1, u2, k0, k1, k2⟩, kf, lG, hov⟩ := own_over hxs hlt
          subst hG
          have hlt1 : (i : Int) < (n : Int) := by omega
          have i9 : (0 : Int) ≤ (i : Int) := by omega
          have V2 : IntKind.i64.wrap ((i : Int) + 1) = (i : Int) + 1 := by rw [IntKind.wrap_i64]; omega
          have kf0 := kf (i * 3)
          have kf1 := kf (i * 3 + 1)
          have kf2 := kf (i * 3 + 2)
          have HOV := hid hov
          clear hxs kf hov
          go_wp2
          obtain ⟨ys, hys⟩ := HOV.out (.int .i64 (i : Int)) (.int .i64 2) (.int .i64 1)
          exact ⟨⟨i + 1, ys, by simp, by omega, ((HTW.out.setCell (.inl (by simp [Value.ownBlock])) _).setCell (.inl (by simp [Value.ownBlock])) _).setCell (.inl (by simp [Value.ownBlock])) _, hys⟩, by simp; omega⟩
        · have hnlt : ¬ (i : Int) < (n : Int) := by omega
          clear hxs
          have zc := XC.out.1.size
          have za := XC.out.2.2.1
          have z4 := N8.out.size
          have z5 := B5.out.size
          have BWW : Hid (Below w.heap.size w W) := BW5.out.trans (HTW.out.below (by omega) (fun b hb => by have h1 := GB.out b (by simpa using hb); have h2 := HZ.out; omega))
          clear zc za z4 z5
          go_wp2
          go_ret
          exact ⟨rfl, BWW.out⟩
end Go.Proofs.YtcpncfngadablaaGreatDoor
