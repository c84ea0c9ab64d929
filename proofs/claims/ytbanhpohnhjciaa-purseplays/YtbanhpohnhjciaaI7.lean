/-
  The two lists of the law, and what an append does to all.
-/
import Derived.Test.YtbanhpohnhjciaaI6
namespace Go.Proofs.Ytbanhpohnhjciaa
open Go.RowKit Go.MuLone

/-- The lists of both sides: their first n entries are the nodes'; N nodes there are. -/
structure LL (w : World) (base n N : Nat) (f : Nat → Nd) (av bv : Value) : Prop where
  a : w.ownsRow base 24 1 av n ((List.range n).map fun i => ptr (f i).pb)
  b : w.ownsRow base 44 1 bv n ((List.range n).map fun i => ptr (f i).rb)
  sep : ∀ i, i < N → ∀ k, bv.ownBlock = some k → (f i).r.pv.ownBlock ≠ some k

section
variable {w w' w1 w2 w3 : World} {base n N : Nat} {f f' : Nat → Nd} {i : Nat} {av bv : Value}

theorem LL.congr (l : LL w base n N f av bv) (hp : ∀ j, j < n → (f' j).pb = (f j).pb ∧ (f' j).rb = (f j).rb) {N' : Nat} (hs : ∀ j, j < N' → ∀ k, bv.ownBlock = some k → (f' j).r.pv.ownBlock ≠ some k) : LL w base n N' f' av bv := by
  have e1 : ((List.range n).map fun i => ptr (f' i).pb) = (List.range n).map fun i => ptr (f i).pb := List.map_congr_left fun j hj => by rw [(hp j (List.mem_range.1 hj)).1]
  have e2 : ((List.range n).map fun i => ptr (f' i).rb) = (List.range n).map fun i => ptr (f i).rb := List.map_congr_left fun j hj => by rw [(hp j (List.mem_range.1 hj)).2]
  exact ⟨by rw [e1]; exact l.a, by rw [e2]; exact l.b, hs⟩

theorem LL.keep (l : LL w base n N f av bv) {F : List Nat} (t : Touch F w w') (ha : ∀ x, av.ownBlock = some x → x ∉ F) (hb : ∀ x, bv.ownBlock = some x → x ∉ F) : LL w' base n N f av bv :=
  ⟨owns_touch l.a t ha, owns_touch l.b t hb, l.sep⟩

/-- Nodes' blocks may turn. -/
theorem LL.turn (l : LL w base n N f av bv) {m : Nat} (M : Mem w base m f') {F : List Nat} (t : Touch F w w') (h : ∀ b ∈ F, InF m f' b) : LL w' base n N f av bv := by
  refine l.keep t (fun x hx hF => ?_) (fun x hx hF => ?_)
  · obtain ⟨c, ty, hc, hty⟩ := M.typed (h x hF)
    obtain ⟨c', z', hc'⟩ := own_type l.a hx
    exact ne_type hc hc' (by rcases hty with rfl | rfl | rfl <;> decide) rfl
  · obtain ⟨c, ty, hc, hty⟩ := M.typed (h x hF)
    obtain ⟨c', z', hc'⟩ := own_type l.b hx
    exact ne_type hc hc' (by rcases hty with rfl | rfl | rfl <;> decide) rfl

theorem range_snoc (n : Nat) (g : Nat → Value) : (List.range n).map g ++ [g n] = (List.range (n + 1)).map g := by
  rw [List.range_succ, List.map_append]; rfl

/-- Behind the first append. -/
structure MidA (w : World) (base n : Nat) (f : Nat → Nd) (av bv : Value) : Prop where
  mem : Mem w base (n + 1) f
  a : w.ownsRow base 24 1 av (n + 1) ((List.range (n + 1)).map fun i => ptr (f i).pb)
  b : w.ownsRow base 44 1 bv n ((List.range n).map fun i => ptr (f i).rb)
  sep : ∀ i, i < n + 1 → ∀ k, bv.ownBlock = some k → (f i).r.pv.ownBlock ≠ some k

theorem appA' (M : Mem w base (n + 1) f) (l : LL w base n (n + 1) f av bv) {O : Obj} {g cap : Nat} (hlo : base ≤ w.heap.size)
    (r1 : w3.ownsRow base 24 1 (.slice (some ⟨g, 0, none⟩) (n + 1) cap) (n + 1) (((List.range n).map fun i => ptr (f i).pb) ++ [ptr (f n).pb])) (r2 : (w.alloc O).grownBy w3 av.ownBlock) :
    MidA w3 base n f (.slice (some ⟨g, 0, none⟩) (n + 1) cap) bv ∧ Below base w w3 := by
  have t : Touch av.ownBlock.toList w w3 := ((Touch.refl _ w).alloc O).trans (touch_grown r2) (fun b hb => .inl hb)
  have hF : ∀ x ∈ av.ownBlock.toList, ∃ c z, w.heap[x]? = some (.cells c 24 z) := fun x hx => by
    simp at hx
    exact own_type l.a hx
  refine ⟨⟨?_, ?_, ?_, l.sep⟩, t.below hlo fun x hx => ?_⟩
  · refine M.keep t fun x hx j hj => ?_
    obtain ⟨c, z, hc⟩ := hF x hx
    exact ⟨ne_type (M.pur j hj) hc (by decide), ne_type (M.lock j hj) hc (by decide), ne_type (M.row j hj) hc (by decide), M.own_ne hj hc (by decide)⟩
  · rw [range_snoc n fun i => ptr (f i).pb] at r1; exact r1
  · refine owns_touch l.b t fun x hx hx2 => ?_
    obtain ⟨c, z, hc⟩ := hF x hx2
    obtain ⟨c', z', hc'⟩ := own_type l.b hx
    exact ne_type hc hc' (by decide) rfl
  · simp at hx
    exact (l.a.lt x hx).1

theorem appB' (A : MidA w base n f av bv) {O : Obj} {g cap : Nat} (hlo : base ≤ w.heap.size)
    (r1 : w3.ownsRow base 44 1 (.slice (some ⟨g, 0, none⟩) (n + 1) cap) (n + 1) (((List.range n).map fun i => ptr (f i).rb) ++ [ptr (f n).rb])) (r2 : (w.alloc O).grownBy w3 bv.ownBlock) (r3 : bv.ownBlock = some g ∨ g = (w.alloc O).heap.size) :
    Mem w3 base (n + 1) f ∧ LL w3 base (n + 1) (n + 1) f av (.slice (some ⟨g, 0, none⟩) (n + 1) cap) ∧ Below base w w3 := by
  have t : Touch bv.ownBlock.toList w w3 := ((Touch.refl _ w).alloc O).trans (touch_grown r2) (fun b hb => .inl hb)
  have hF : ∀ x ∈ bv.ownBlock.toList, bv.ownBlock = some x ∧ ∃ c z, w.heap[x]? = some (.cells c 44 z) := fun x hx => by
    simp at hx
    exact ⟨hx, own_type A.b hx⟩
  refine ⟨?_, ⟨?_, ?_, ?_⟩, t.below hlo fun x hx => ?_⟩
  · refine A.mem.keep t fun x hx j hj => ?_
    obtain ⟨h1, c, z, hc⟩ := hF x hx
    exact ⟨ne_type (A.mem.pur j hj) hc (by decide), ne_type (A.mem.lock j hj) hc (by decide), ne_type (A.mem.row j hj) hc (by decide), A.sep j hj x h1⟩
  · refine owns_touch A.a t fun x hx hx2 => ?_
    obtain ⟨h1, c, z, hc⟩ := hF x hx2
    obtain ⟨c', z', hc'⟩ := own_type A.a hx
    exact ne_type hc hc' (by decide) rfl
  · rw [range_snoc n fun i => ptr (f i).rb] at r1; exact r1
  · intro j hj k hk hk2
    simp [Value.ownBlock] at hk
    subst hk
    rcases r3 with r3 | r3
    · exact A.sep j hj g r3 hk2
    · have := (A.mem.own j hj).lt g hk2
      simp at r3
      omega
  · simp at hx
    exact (A.b.lt x hx).1

/-- Behind New of both sides. -/
theorem made_new (M : Mem w base n f) (L : Laws n f) (l : LL w base n n f av bv) (hlo : base ≤ w.heap.size) {m : Int} (h0 : 0 ≤ m) (h1 : m ≤ 9223372036854775807) {b lb : Nat} (hb : w.heap.size ≤ b) (hl : w.heap.size ≤ lb)
    (hp : PurseAt w1 b (.new m lb)) (hk : LockAt w1 lb 0) (t1 : Touch [] w w1) (hr : w2.heap[w1.heap.size]? = some (.cells (Rf.row ⟨m, 0, 0, true, false, .slice none 0 0⟩) 69 (0, 0))) (t2 : Touch [] w1 w2) :
    ∃ f', Mem w2 base (n + 1) f' ∧ Laws (n + 1) f' ∧ LL w2 base n (n + 1) f' av bv ∧ Below base w w2 ∧ (f' n).pb = b ∧ (f' n).rb = w1.heap.size := by
  have t : Touch [] w w2 := t1.trans t2 (by simp)
  have M2 := M.keep t (by simp)
  have l2 := l.keep t (by simp) (by simp)
  refine ⟨upd f n ⟨b, w1.heap.size, .new m lb, ⟨m, 0, 0, true, false, .slice none 0 0⟩, []⟩, ?_, L.snoc h0 h1, ?_, t.below hlo (by simp), by rw [upd_at], by rw [upd_at]⟩
  · refine M2.snoc L.ref (hp.touch t2 (by simp)) (hk.touch t2 (by simp)) hr rfl (fun j hj e => ?_) (fun j hj e => ?_) ⟨by omega, by show base ≤ lb; omega, by have := t1.size; omega⟩
    · have := lt_of_block (M.pur j hj); omega
    · have := lt_of_block (M.row j hj); have := t1.size; omega
  · refine l2.congr (fun j hj => by rw [upd_ne (by omega)]; exact ⟨rfl, rfl⟩) (fun j hj k hk => ?_)
    by_cases e : j = n
    · subst e; rw [upd_at]; intro h; cases h
    · rw [upd_ne e]; exact l2.sep j (by omega) k hk

/-- Behind a Part that both sides grant. -/
theorem made_part (M : Mem w base n f) (L : Laws n f) (l : LL w base n n f av bv) (hlo : base ≤ w.heap.size) (hi : i < n) (hn : n < 17592186044416) {m : Int} (he : leaveE (f i).s m = 0) {q : Nat} (hq : w.heap.size ≤ q)
    (h1 : PurseAt w1 (f i).pb ((f i).s.lend m)) (h2 : PurseAt w1 q (.part m (f i).s.lb (f i).pb)) (h3 : LockAt w1 (f i).s.lb 0) (t1 : Touch [(f i).pb, (f i).s.lb] w w1) :
    Calls Try.prog 30 #[ptr (f i).rb, .int .i64 m] w1 fun e w2 => e = .returned (.tuple #[ptr w1.heap.size, .int .i64 0]) ∧
      ∃ f', Mem w2 base (n + 1) f' ∧ Laws (n + 1) f' ∧ LL w2 base n (n + 1) f' av bv ∧ Below base w w2 ∧ (f' n).pb = q ∧ (f' n).rb = w1.heap.size ∧ (∀ (x : Nat) (c : Array Value) (z : Nat × Nat), w1.heap[x]? = some (.cells c 29 z) → w2.heap[x]? = some (.cells c 29 z)) ∧ (∀ j, j < n → (f' j).rb = (f j).rb) := by
  have M1 := M.doS hi h1 h3 rfl t1
  have R1 := L.ref.updS (i := i) ((f i).s.lend m)
  have hi2 : InF n f (f i).pb := InF.pp hi
  have l1 := l.turn M t1 (by simp; exact ⟨InF.pp hi, InF.l hi⟩)
  have hsz := t1.size
  have href := M1.ref R1 hi (by omega)
  have hne := M1.ne R1 hi
  have hpne := M1.pne hi
  have hkne : ∀ k ∈ kl (updS f i ((f i).s.lend m)) (updS f i ((f i).s.lend m) i).kids, (updS f i ((f i).s.lend m) i).r.pv.ownBlock ≠ some k.b := by
    intro k hk
    obtain ⟨j, hj, rfl⟩ := List.mem_map.1 hk
    exact M1.own_ne hi (M1.row j (R1.kid i hi j hj).2) (by decide)
  have hlen : (kl f (f i).kids).length < 17592186044416 := by simp only [kl, List.length_map]; have := L.few i hi; omega
  rw [updS_rb, updS_r, updS_kids, kl_updS] at href
  rw [updS_rb, updS_kids, kl_updS] at hne
  rw [updS_rb, updS_r] at hpne
  rw [updS_r, updS_kids, kl_updS] at hkne
  refine (partR_any href hne hpne hkne (by omega) (L.ref.lim i hi) (L.ref.top i hi) (by rw [← L.leave hi m]; exact he) hlen).mono ?_
  rintro _ w2 ⟨g, cap, rfl, hR, hrow, hg, hgb, t2⟩
  have nq : ∀ j, j < n → (f j).pb ≠ q := fun j hj e => by have := lt_of_block (M.pur j hj); omega
  have row1 : ∀ j, j < n → w1.heap[(f j).rb]? = some (.cells (f j).r.row 69 (0, 0)) := fun j hj => by have := M1.row j hj; rwa [updS_rb, updS_r] at this
  have own1 := M1.own i hi
  rw [updS_r] at own1
  refine ⟨rfl, _, M1.grow L hi h2 nq ⟨by omega, by omega⟩ hR hrow hg t2, L.grow hi he (by omega) q w1.heap.size _, ?_, ?_, by rw [grow_n], by rw [grow_n], fun x c z hx => ?_, fun j hj => (grow_keeps f (j := j) m q _ _ hi hj).2.1⟩
  · have l2 : LL w2 base n n f av bv := by
      refine l1.keep t2 (fun x hx hF => ?_) (fun x hx hF => ?_)
      · obtain ⟨c', z', hc'⟩ := own_type l1.a hx
        rcases List.mem_cons.1 hF with e | e
        · exact ne_type hc' (row1 i hi) (by decide) e
        · simp at e
          obtain ⟨c, z, hc⟩ := own_type own1 e
          exact ne_type hc' hc (by decide) rfl
      · obtain ⟨c', z', hc'⟩ := own_type l1.b hx
        rcases List.mem_cons.1 hF with e | e
        · exact ne_type hc' (row1 i hi) (by decide) e
        · simp at e
          exact l1.sep i hi x hx e
    refine l2.congr (fun j hj => ?_) (fun j hj k hk => ?_)
    · have g := grow_keeps f (j := j) m q w1.heap.size (.slice (some ⟨g, 0, none⟩) ((kl f (f i).kids).length + 1) cap) hi hj
      exact ⟨g.1, g.2.1⟩
    · have hklt := (l1.b.lt k hk).2
      by_cases e : j = n
      · subst e; rw [grow_n]; intro h; cases h
      · by_cases e2 : j = i
        · subst e2
          rw [grow_i f m q _ _ hi]
          intro h
          have h' : (g : Nat) = k := by simpa [Value.ownBlock] using h
          rcases hg with hg | hg
          · exact l1.sep j hi k hk (by rw [hg, h'])
          · omega
        · rw [grow_j f m q _ _ (by omega) e2]
          exact l1.sep j (by omega) k hk
  · have b1 : Below base w w1 := t1.below hlo (by simp; exact ⟨(M.plo i hi).1, (M.plo i hi).2.1⟩)
    refine b1.trans (t2.below (by omega) fun x hx => ?_)
    rcases List.mem_cons.1 hx with rfl | e
    · exact (M.plo i hi).2.2
    · simp at e
      exact (own1.lt x e).1
  · refine (t2.block x (lt_of_block hx) fun hF => ?_).trans hx
    rcases List.mem_cons.1 hF with e | e
    · exact ne_type hx (row1 i hi) (by decide) e
    · simp at e
      obtain ⟨c', z', hc⟩ := own_type own1 e
      exact ne_type hx hc (by decide) rfl

theorem own_cell {e : TypeId} {g cap : Nat} {xs : List Value} (h : w.ownsRow base e 1 (.slice (some ⟨g, 0, none⟩) n cap) n xs) {j : Nat} {x : Value} (hj : xs[j]? = some x) : w.cell? ⟨g, j, none⟩ = some x := by
  rcases h.2 with ⟨e1, _⟩ | ⟨g', cap', cur, e1, _, hg, _, _, _, ht⟩
  · cases e1
  · cases e1
    rw [cell_row hg j]
    have hj' := hj
    rw [← ht, List.getElem?_take] at hj'
    split at hj'
    · simpa using hj'
    · cases hj'

theorem range_get (n : Nat) (g : Nat → Value) {j : Nat} (hj : j < n) : ((List.range n).map g)[j]? = some (g j) := by simp [hj]
end

end Go.Proofs.Ytbanhpohnhjciaa
