import Derived.Test.YtdkboifpdodonaaDoorZ06
set_option linter.unusedSimpArgs false
/-
  The landed program's list, kind by kind.
-/
namespace Go.Proofs.YtdkboifpdodonaaDoor
open Go.RowKit Go.Deep PureCnf PureForm PureRd
set_option maxRecDepth 100000

theorem meth147 (v : Value) (w : World) : Sem.run Tryd.prog (method 319 147 v "strata/formula.node") w = .ok (182, v) w := rfl
theorem meth149 (v : Value) (w : World) : Sem.run Tryd.prog (method 319 149 v "strata/formula.node") w = .ok (183, v) w := rfl
theorem meth120 (v : Value) (w : World) : Sem.run Tryd.prog (method 319 120 v "strata/formula.node") w = .ok (178, v) w := rfl
theorem meth122 (v : Value) (w : World) : Sem.run Tryd.prog (method 319 122 v "strata/formula.node") w = .ok (179, v) w := rfl
theorem meth124 (v : Value) (w : World) : Sem.run Tryd.prog (method 319 124 v "strata/formula.node") w = .ok (180, v) w := rfl
theorem meth126 (v : Value) (w : World) : Sem.run Tryd.prog (method 319 126 v "strata/formula.node") w = .ok (181, v) w := rfl
theorem own_slice {W : World} {B e size n : Nat} {v : Value} {xs : List Value} (h : W.ownsRow B e size v n xs) : ∃ sa c, v = .slice sa n c := by
  rcases h.2 with ⟨hv, h0⟩ | ⟨g, cap, cur, hv, _⟩
  · exact ⟨none, 0, by rw [hv, h0]⟩
  · exact ⟨_, _, hv⟩
theorem box_box (w : World) {w1 : World} (b : Below w.heap.size w w1) (o : Obj) : Below w.heap.size w (w1.alloc o) := b.alloc b.size _
theorem LG.row {W w' : World} {v v' : Value} {b : Nat} {o : Obj} (h : LG W w' v v') (hb : some b ≠ v.ownBlock) (hr : W.heap[b]? = some o) : w'.heap[b]? = some o :=
  (h.grown.block b (Array.getElem?_eq_some_iff.1 hr).1 hb).trans hr
theorem own_ne {W : World} {B e size n : Nat} {v : Value} {xs : List Value} (h : W.ownsRow B e size v n xs) {b : Nat} (hb : W.heap.size ≤ b) : some b ≠ v.ownBlock := fun e => by
  have := (h.lt b e.symm).2
  omega
theorem LG.ne {W w' : World} {v v' : Value} {b : Nat} (h : LG W w' v v') (hb : some b ≠ v.ownBlock) (hlt : b < W.heap.size) : some b ≠ v'.ownBlock := by
  rcases h.own with e | ⟨g, e, hg⟩
  · rw [e]; exact hb
  · rw [e]; intro x; injection x with x; omega

set_option maxHeartbeats 2000000 in
theorem list_const (n : Int) : ListC (.lf (1, n)) := by
  intro W B v L ho hB hn
  obtain ⟨sa, ca, rfl⟩ := own_slice ho
  show Calls Tryd.prog 36 #[_, .iface 147 (.agg #[.int .i64 n])] W _
  have m1 := fun x W => ta120_miss 147 (by decide) (.agg #[.int .i64 n]) x W
  have m2 := fun x W => ta122_miss 147 (by decide) (.agg #[.int .i64 n]) x W
  have m3 := fun x W => ta124_miss 147 (by decide) (.agg #[.int .i64 n]) x W
  have m4 := fun x W => ta126_miss 147 (by decide) (.agg #[.int .i64 n]) x W
  have me := fun v W => meth147 v W
  have HN := fun W => hid (node_const n W)
  have HO := hid ho
  have hlen : (Tr.lf (1, n)).post.length = 1 := rfl
  rw [hlen] at hn
  clear ho hlen
  go_enter Tryd.func36, Tryd.ntmps36
  go_wp2_with (first | (go_at_call 182; refine (HN _).out.mono ?_; rintro e w8 ⟨rfl, b8⟩; have O8 := hid (ownsRow_below HO.out (box_box _ b8 (.cells #[.int .i64 1, .int .i64 n] 54))); have hs8 := b8.size; have B8 := hid (box_box _ b8 (.cells #[.int .i64 1, .int .i64 n] 54)); clear b8) | (at_builtin; refine app_node rfl _ _ rfl B _ (L) (1, n) w8.heap.size rfl O8.out rfl (heap_alloc_new w8 _) (by omega) (by simp; omega) ?_; intro v9 w9 o9 g9; rw [List.length_append, List.length_singleton] at o9; obtain ⟨s9, c9, rfl⟩ := own_slice o9; have O9 := hid o9; have G9 := hid (LG.front B8.out g9); clear o9 g9))
  go_ret
  exact ⟨_, rfl, by rw [show (L ++ (Tr.lf (1, n)).post).length = L.length + 1 from List.length_append]; exact O9.out, G9.out⟩
set_option maxHeartbeats 2000000 in
theorem list_var (n : Int) : ListC (.lf (2, n)) := by
  intro W B v L ho hB hn
  obtain ⟨sa, ca, rfl⟩ := own_slice ho
  show Calls Tryd.prog 36 #[_, .iface 149 (.agg #[.int .i64 n])] W _
  have m1 := fun x W => ta120_miss 149 (by decide) (.agg #[.int .i64 n]) x W
  have m2 := fun x W => ta122_miss 149 (by decide) (.agg #[.int .i64 n]) x W
  have m3 := fun x W => ta124_miss 149 (by decide) (.agg #[.int .i64 n]) x W
  have m4 := fun x W => ta126_miss 149 (by decide) (.agg #[.int .i64 n]) x W
  have me := fun v W => meth149 v W
  have HN := fun W => hid (node_var n W)
  have HO := hid ho
  have hlen : (Tr.lf (2, n)).post.length = 1 := rfl
  rw [hlen] at hn
  clear ho hlen
  go_enter Tryd.func36, Tryd.ntmps36
  go_wp2_with (first | (go_at_call 183; refine (HN _).out.mono ?_; rintro e w8 ⟨rfl, b8⟩; have O8 := hid (ownsRow_below HO.out (box_box _ b8 (.cells #[.int .i64 2, .int .i64 n] 54))); have hs8 := b8.size; have B8 := hid (box_box _ b8 (.cells #[.int .i64 2, .int .i64 n] 54)); clear b8) | (at_builtin; refine app_node rfl _ _ rfl B _ (L) (2, n) w8.heap.size rfl O8.out rfl (heap_alloc_new w8 _) (by omega) (by simp; omega) ?_; intro v9 w9 o9 g9; rw [List.length_append, List.length_singleton] at o9; obtain ⟨s9, c9, rfl⟩ := own_slice o9; have O9 := hid o9; have G9 := hid (LG.front B8.out g9); clear o9 g9))
  go_ret
  exact ⟨_, rfl, by rw [show (L ++ (Tr.lf (2, n)).post).length = L.length + 1 from List.length_append]; exact O9.out, G9.out⟩
set_option maxHeartbeats 2000000 in
theorem list_not  (a : Tr) (I : ListC a) : ListC (Tr.un (3, 0) a) := by
  intro W B v L ho hB hn
  obtain ⟨sa, ca, rfl⟩ := own_slice ho
  obtain ⟨k, u, e⟩ := tv_form a
  have et : tv (Tr.un (3, 0) a) = .iface 120 (.agg #[.iface k u]) := by (first | rw [tv_un, if_pos rfl, e] | rw [tv_bi, if_pos rfl, e] | rw [tv_te, if_pos rfl, e] | rw [tv_lf, if_pos rfl, e])
  rw [et]
  have m1 := fun x W => ta120_hit (.agg #[.iface k u]) x W
  have me := fun v W => meth120 v W
  have HN := fun W => hid (node_not k u W)
  have hlen : (Tr.un (3, 0) a).post.length = a.post.length + 1 := by simp [Tr.post_lf, Tr.post_un, Tr.post_bi, Tr.post_te]
  have hll : (L ++ a.post).length = L.length + a.post.length := List.length_append
  have hp : L ++ (Tr.un (3, 0) a).post = (L ++ a.post) ++ [(3, 0)] := by simp [Tr.post_lf, Tr.post_un, Tr.post_bi, Tr.post_te]
  obtain ⟨L1, hL1⟩ : ∃ L1, L1 = L ++ a.post := ⟨_, rfl⟩
  rw [hlen] at hn
  rw [hp]
  obtain ⟨WA, hWA⟩ : ∃ WA, WA = W.alloc (Obj.cells #[.iface k u] 120) := ⟨_, rfl⟩
  have hbA : Below W.heap.size W WA := by rw [hWA]; exact below_box _ _
  have rA : WA.heap[W.heap.size]? = some (.cells #[.iface k u] 120 (0, 0)) := by rw [hWA]; exact heap_alloc_new W _
  have c0 := fun j => cell_row rA j
  have hI := I WA B _ L (ownsRow_below ho hbA) (by have := hbA.size; omega) (by omega)
  rw [e, ← hL1] at hI
  rw [← hL1] at hll ⊢
  have hbL : L1.length + 1 ≤ 1099511627776 := by omega
  have H1 := hid hI
  have HWA := hid hWA
  have HBA := hid hbA
  have hsA := hbA.size
  clear hI hWA hbA rA ho hlen e et I hp hL1 hll hn
  go_enter Tryd.func36, Tryd.ntmps36
  go_wp2_with (first | (rw [← HWA.out]) | (go_at_call 36; refine H1.out.mono ?_; rintro e w1 ⟨v1, rfl, o1, g1⟩; obtain ⟨s1, c1, rfl⟩ := own_slice o1; have O1 := hid o1; have G1 := hid g1; have hs1 := g1.grown.size; clear o1 g1 H1) | (go_at_call 178; refine (HN _).out.mono ?_; rintro e w8 ⟨rfl, b8⟩; have O8 := hid (ownsRow_below O1.out (box_box _ b8 (.cells #[.int .i64 3, .int .i64 0] 54))); have hs8 := b8.size; have B8 := hid (box_box _ b8 (.cells #[.int .i64 3, .int .i64 0] 54)); clear b8) | (at_builtin; refine app_node rfl _ _ rfl B _ (L1) (3, 0) w8.heap.size rfl O8.out rfl (heap_alloc_new w8 _) (by omega) (by simp; omega) ?_; intro v9 w9 o9 g9; rw [List.length_append, List.length_singleton] at o9; obtain ⟨s9, c9, rfl⟩ := own_slice o9; have O9 := hid o9; have G9 := hid ((LG.front HBA.out G1.out).trans (LG.front B8.out g9)); clear o9 g9))
  go_ret
  exact ⟨_, rfl, by rw [List.length_append, List.length_singleton]; exact O9.out, G9.out⟩
set_option maxHeartbeats 2000000 in
theorem list_quant (o n : Int) (h3 : o ≠ 3) (a : Tr) (I : ListC a) : ListC (Tr.un (o, n) a) := by
  intro W B v L ho hB hn
  obtain ⟨sa, ca, rfl⟩ := own_slice ho
  obtain ⟨k, u, e⟩ := tv_form a
  have et : tv (Tr.un (o, n) a) = .iface 122 (.agg #[.int .i64 o, .int .i64 n, .iface k u]) := by (first | rw [tv_un, if_neg h3, e] | rw [tv_bi, if_neg h3, e] | rw [tv_te, if_neg h3, e] | rw [tv_lf, if_neg h3, e])
  rw [et]
  have m1 := fun x W => ta120_miss 122 (by decide) (.agg #[.int .i64 o, .int .i64 n, .iface k u]) x W
  have m2 := fun x W => ta122_hit (.agg #[.int .i64 o, .int .i64 n, .iface k u]) x W
  have me := fun v W => meth122 v W
  have HN := fun W => hid (node_quant o n k u W)
  have hlen : (Tr.un (o, n) a).post.length = a.post.length + 1 := by simp [Tr.post_lf, Tr.post_un, Tr.post_bi, Tr.post_te]
  have hll : (L ++ a.post).length = L.length + a.post.length := List.length_append
  have hp : L ++ (Tr.un (o, n) a).post = (L ++ a.post) ++ [(o, n)] := by simp [Tr.post_lf, Tr.post_un, Tr.post_bi, Tr.post_te]
  obtain ⟨L1, hL1⟩ : ∃ L1, L1 = L ++ a.post := ⟨_, rfl⟩
  rw [hlen] at hn
  rw [hp]
  obtain ⟨WA, hWA⟩ : ∃ WA, WA = W.alloc (Obj.cells #[.int .i64 o, .int .i64 n, .iface k u] 122) := ⟨_, rfl⟩
  have hbA : Below W.heap.size W WA := by rw [hWA]; exact below_box _ _
  have rA : WA.heap[W.heap.size]? = some (.cells #[.int .i64 o, .int .i64 n, .iface k u] 122 (0, 0)) := by rw [hWA]; exact heap_alloc_new W _
  have c0 := fun j => cell_row rA j
  have hI := I WA B _ L (ownsRow_below ho hbA) (by have := hbA.size; omega) (by omega)
  rw [e, ← hL1] at hI
  rw [← hL1] at hll ⊢
  have hbL : L1.length + 1 ≤ 1099511627776 := by omega
  have H1 := hid hI
  have HWA := hid hWA
  have HBA := hid hbA
  have hsA := hbA.size
  clear hI hWA hbA rA ho hlen e et I hp hL1 hll hn
  go_enter Tryd.func36, Tryd.ntmps36
  go_wp2_with (first | (rw [← HWA.out]) | (go_at_call 36; refine H1.out.mono ?_; rintro e w1 ⟨v1, rfl, o1, g1⟩; obtain ⟨s1, c1, rfl⟩ := own_slice o1; have O1 := hid o1; have G1 := hid g1; have hs1 := g1.grown.size; clear o1 g1 H1) | (go_at_call 179; refine (HN _).out.mono ?_; rintro e w8 ⟨rfl, b8⟩; have O8 := hid (ownsRow_below O1.out (box_box _ b8 (.cells #[.int .i64 o, .int .i64 n] 54))); have hs8 := b8.size; have B8 := hid (box_box _ b8 (.cells #[.int .i64 o, .int .i64 n] 54)); clear b8) | (at_builtin; refine app_node rfl _ _ rfl B _ (L1) (o, n) w8.heap.size rfl O8.out rfl (heap_alloc_new w8 _) (by omega) (by simp; omega) ?_; intro v9 w9 o9 g9; rw [List.length_append, List.length_singleton] at o9; obtain ⟨s9, c9, rfl⟩ := own_slice o9; have O9 := hid o9; have G9 := hid ((LG.front HBA.out G1.out).trans (LG.front B8.out g9)); clear o9 g9))
  go_ret
  exact ⟨_, rfl, by rw [List.length_append, List.length_singleton]; exact O9.out, G9.out⟩
end Go.Proofs.YtdkboifpdodonaaDoor
/-
  The landed program's list: nodes of two and three operands; every tree.
-/
namespace Go.Proofs.YtdkboifpdodonaaDoor
open Go.RowKit Go.Deep PureCnf PureForm PureRd
set_option maxRecDepth 100000

theorem LG.undrew {W w' : World} {v v' : Value} (h : LG W.drew w' v v') : LG W w' v v' := ⟨⟨h.grown.os, h.grown.tape, h.grown.output, h.grown.size, h.grown.block⟩, h.own⟩
theorem own_drew {W : World} {B e size n : Nat} {v : Value} {xs : List Value} (h : W.ownsRow B e size v n xs) : W.drew.ownsRow B e size v n xs := h
set_option maxHeartbeats 4000000 in
theorem list_two (o : Int) (a1 : Tr) (I1 : ListC a1) (a2 : Tr) (I2 : ListC a2) : ListC (Tr.bi (o, 0) a1 a2) := by
  intro W B v L ho hB hn
  obtain ⟨sa, ca, rfl⟩ := own_slice ho
  obtain ⟨k1, u1, e1⟩ := tv_form a1
  obtain ⟨k2, u2, e2⟩ := tv_form a2
  have et : tv (Tr.bi (o, 0) a1 a2) = .iface 124 (.agg #[.int .i64 o, .iface k1 u1, .iface k2 u2]) := by (first | rw [tv_un, e1, e2] | rw [tv_bi, e1, e2] | rw [tv_te, e1, e2] | rw [tv_lf, e1, e2])
  rw [et]
  have m1 := fun x W => ta120_miss 124 (by decide) (.agg #[.int .i64 o, .iface k1 u1, .iface k2 u2]) x W
  have m2 := fun x W => ta122_miss 124 (by decide) (.agg #[.int .i64 o, .iface k1 u1, .iface k2 u2]) x W
  have m3 := fun x W => ta124_hit (.agg #[.int .i64 o, .iface k1 u1, .iface k2 u2]) x W
  have me := fun v W => meth124 v W
  have HN := fun W => hid (node_two o k1 k2 u1 u2 W)
  obtain ⟨L1, hL1⟩ : ∃ L1, L1 = L ++ a1.post := ⟨_, rfl⟩
  obtain ⟨L2, hL2⟩ : ∃ L2, L2 = L1 ++ a2.post := ⟨_, rfl⟩
  have hp : L ++ (Tr.bi (o, 0) a1 a2).post = L2 ++ [(o, 0)] := by rw [hL2, hL1]; simp [Tr.post_lf, Tr.post_un, Tr.post_bi, Tr.post_te]
  have hlen : (Tr.bi (o, 0) a1 a2).post.length = a1.post.length + a2.post.length + 1 := by simp [Tr.post_lf, Tr.post_un, Tr.post_bi, Tr.post_te]; omega
  have hll1 : L1.length = L.length + a1.post.length := by rw [hL1]; exact List.length_append
  have hll2 : L2.length = L1.length + a2.post.length := by rw [hL2]; exact List.length_append
  rw [hlen] at hn
  rw [hp]
  have hb1 : L1.length + 1 ≤ 1099511627776 := by omega
  have hq1 : L.length + a1.post.length ≤ 1099511627776 := by omega
  have HL1 := hid hL1
  have HI1 := hid I1
  have hb2 : L2.length + 1 ≤ 1099511627776 := by omega
  have hq2 : L1.length + a2.post.length ≤ 1099511627776 := by omega
  have HL2 := hid hL2
  have HI2 := hid I2
  obtain ⟨WA, hWA⟩ : ∃ WA, WA = W.alloc (Obj.cells #[.int .i64 o, .iface k1 u1, .iface k2 u2] 124) := ⟨_, rfl⟩
  have hbA : Below W.heap.size W WA := by rw [hWA]; exact below_box _ _
  have rA : WA.heap[W.heap.size]? = some (.cells #[.int .i64 o, .iface k1 u1, .iface k2 u2] 124 (0, 0)) := by rw [hWA]; exact heap_alloc_new W _
  have c0 := fun j => cell_row rA j
  have NE := hid (own_ne ho (Nat.le_refl W.heap.size))
  have RB := hid (drew_row rA)
  have HBL := hid (Array.getElem?_eq_some_iff.1 (drew_row rA)).1
  have H1 := hid (I1 WA.drew B _ L (own_drew (ownsRow_below ho hbA)) (by have := hbA.size; exact Nat.le_trans hB this) hq1)
  have HWA := hid hWA
  have HBA := hid hbA
  have hzA : Hid (B ≤ WA.drew.heap.size) := Nat.le_trans hB hbA.size
  simp only [e1, e2, ListC] at H1 HI2
  clear hWA hbA rA ho hlen et hp hn e1 I1 hL1 hll1 e2 I2 hL2 hll2 HI1
  go_enter Tryd.func36, Tryd.ntmps36
  go_wp2_with (rw [← HWA.out])
  go_region_held3 (fun W' => W'.cell? ⟨W.heap.size, 1, none⟩ = some (.iface k1 u1) ∧ W'.cell? ⟨W.heap.size, 2, none⟩ = some (.iface k2 u2)) (go_keep) (first | (have qq := H2; clear qq; go_at_call 36; refine H2.out.mono ?_; rintro e w2 ⟨v2, rfl, o2, g2⟩; rw [← HL2.out] at o2; have NE2 := hid (g2.ne NE1.out HBL1.out); have rb2 := g2.row NE1.out RB1.out; have HBL2 := hid (Array.getElem?_eq_some_iff.1 rb2).1; have cb2 := fun j => cell_row rb2 j; have RB2 := hid rb2; have O2 := hid o2; have G2 := hid (G1.out.trans g2); have hz2 : B ≤ w2.heap.size := Nat.le_trans hz1 g2.grown.size; obtain ⟨s2, c2, rfl⟩ := own_slice o2; clear o2 g2 H2 rb2) | (have qq := H1; clear qq; go_at_call 36; refine H1.out.mono ?_; rintro e w1 ⟨v1, rfl, o1, g1⟩; rw [← HL1.out] at o1; have NE1 := hid (g1.ne NE.out HBL.out); have rb1 := g1.row NE.out RB.out; have HBL1 := hid (Array.getElem?_eq_some_iff.1 rb1).1; have cb1 := fun j => cell_row rb1 j; have RB1 := hid rb1; have O1 := hid o1; have G1 := hid (g1.undrew); have hz1 : B ≤ w1.heap.size := Nat.le_trans hzA.out g1.grown.size; have H2 := hid (HI2.out w1 B _ L1 o1 hz1 hq2); obtain ⟨s1, c1, rfl⟩ := own_slice o1; clear o1 g1 H1 rb1))
  all_goals
    go_wp2_with (first | (go_at_call 180; refine (HN _).out.mono ?_; rintro e w8 ⟨rfl, b8⟩; have O8 := hid (ownsRow_below O2.out (box_box _ b8 (.cells #[.int .i64 o, .int .i64 0] 54))); have hs8 := b8.size; have B8 := hid (box_box _ b8 (.cells #[.int .i64 o, .int .i64 0] 54)); clear b8) | (at_builtin; refine app_node rfl _ _ rfl B _ (L2) (o, 0) w8.heap.size rfl O8.out rfl (heap_alloc_new w8 _) (by omega) (by simp; omega) ?_; intro v9 w9 o9 g9; rw [List.length_append, List.length_singleton] at o9; obtain ⟨s9, c9, rfl⟩ := own_slice o9; have O9 := hid o9; have G9 := hid ((LG.front HBA.out G2.out).trans (LG.front B8.out g9)); clear o9 g9))
    go_ret
    exact ⟨_, rfl, by rw [List.length_append, List.length_singleton]; exact O9.out, G9.out⟩
set_option maxHeartbeats 4000000 in
theorem list_ite  (a1 : Tr) (I1 : ListC a1) (a2 : Tr) (I2 : ListC a2) (a3 : Tr) (I3 : ListC a3) : ListC (Tr.te (11, 0) a1 a2 a3) := by
  intro W B v L ho hB hn
  obtain ⟨sa, ca, rfl⟩ := own_slice ho
  obtain ⟨k1, u1, e1⟩ := tv_form a1
  obtain ⟨k2, u2, e2⟩ := tv_form a2
  obtain ⟨k3, u3, e3⟩ := tv_form a3
  have et : tv (Tr.te (11, 0) a1 a2 a3) = .iface 126 (.agg #[.iface k1 u1, .iface k2 u2, .iface k3 u3]) := by (first | rw [tv_un, e1, e2, e3] | rw [tv_bi, e1, e2, e3] | rw [tv_te, e1, e2, e3] | rw [tv_lf, e1, e2, e3])
  rw [et]
  have m1 := fun x W => ta120_miss 126 (by decide) (.agg #[.iface k1 u1, .iface k2 u2, .iface k3 u3]) x W
  have m2 := fun x W => ta122_miss 126 (by decide) (.agg #[.iface k1 u1, .iface k2 u2, .iface k3 u3]) x W
  have m3 := fun x W => ta124_miss 126 (by decide) (.agg #[.iface k1 u1, .iface k2 u2, .iface k3 u3]) x W
  have m4 := fun x W => ta126_hit (.agg #[.iface k1 u1, .iface k2 u2, .iface k3 u3]) x W
  have me := fun v W => meth126 v W
  have HN := fun W => hid (node_ite k1 k2 k3 u1 u2 u3 W)
  obtain ⟨L1, hL1⟩ : ∃ L1, L1 = L ++ a1.post := ⟨_, rfl⟩
  obtain ⟨L2, hL2⟩ : ∃ L2, L2 = L1 ++ a2.post := ⟨_, rfl⟩
  obtain ⟨L3, hL3⟩ : ∃ L3, L3 = L2 ++ a3.post := ⟨_, rfl⟩
  have hp : L ++ (Tr.te (11, 0) a1 a2 a3).post = L3 ++ [(11, 0)] := by rw [hL3, hL2, hL1]; simp [Tr.post_lf, Tr.post_un, Tr.post_bi, Tr.post_te]
  have hlen : (Tr.te (11, 0) a1 a2 a3).post.length = a1.post.length + a2.post.length + a3.post.length + 1 := by simp [Tr.post_lf, Tr.post_un, Tr.post_bi, Tr.post_te]; omega
  have hll1 : L1.length = L.length + a1.post.length := by rw [hL1]; exact List.length_append
  have hll2 : L2.length = L1.length + a2.post.length := by rw [hL2]; exact List.length_append
  have hll3 : L3.length = L2.length + a3.post.length := by rw [hL3]; exact List.length_append
  rw [hlen] at hn
  rw [hp]
  have hb1 : L1.length + 1 ≤ 1099511627776 := by omega
  have hq1 : L.length + a1.post.length ≤ 1099511627776 := by omega
  have HL1 := hid hL1
  have HI1 := hid I1
  have hb2 : L2.length + 1 ≤ 1099511627776 := by omega
  have hq2 : L1.length + a2.post.length ≤ 1099511627776 := by omega
  have HL2 := hid hL2
  have HI2 := hid I2
  have hb3 : L3.length + 1 ≤ 1099511627776 := by omega
  have hq3 : L2.length + a3.post.length ≤ 1099511627776 := by omega
  have HL3 := hid hL3
  have HI3 := hid I3
  obtain ⟨WA, hWA⟩ : ∃ WA, WA = W.alloc (Obj.cells #[.iface k1 u1, .iface k2 u2, .iface k3 u3] 126) := ⟨_, rfl⟩
  have hbA : Below W.heap.size W WA := by rw [hWA]; exact below_box _ _
  have rA : WA.heap[W.heap.size]? = some (.cells #[.iface k1 u1, .iface k2 u2, .iface k3 u3] 126 (0, 0)) := by rw [hWA]; exact heap_alloc_new W _
  have c0 := fun j => cell_row rA j
  have NE := hid (own_ne ho (Nat.le_refl W.heap.size))
  have RB := hid (drew_row rA)
  have HBL := hid (Array.getElem?_eq_some_iff.1 (drew_row rA)).1
  have H1 := hid (I1 WA.drew B _ L (own_drew (ownsRow_below ho hbA)) (by have := hbA.size; exact Nat.le_trans hB this) hq1)
  have HWA := hid hWA
  have HBA := hid hbA
  have hzA : Hid (B ≤ WA.drew.heap.size) := Nat.le_trans hB hbA.size
  simp only [e1, e2, e3, ListC] at H1 HI2 HI3
  clear hWA hbA rA ho hlen et hp hn e1 I1 hL1 hll1 e2 I2 hL2 hll2 e3 I3 hL3 hll3 HI1
  go_enter Tryd.func36, Tryd.ntmps36
  go_wp2_with (rw [← HWA.out])
  go_region_held3 (fun W' => W'.cell? ⟨W.heap.size, 0, none⟩ = some (.iface k1 u1) ∧ W'.cell? ⟨W.heap.size, 1, none⟩ = some (.iface k2 u2) ∧ W'.cell? ⟨W.heap.size, 2, none⟩ = some (.iface k3 u3)) (go_keep) (first | (have qq := H3; clear qq; go_at_call 36; refine H3.out.mono ?_; rintro e w3 ⟨v3, rfl, o3, g3⟩; rw [← HL3.out] at o3; have NE3 := hid (g3.ne NE2.out HBL2.out); have rb3 := g3.row NE2.out RB2.out; have HBL3 := hid (Array.getElem?_eq_some_iff.1 rb3).1; have cb3 := fun j => cell_row rb3 j; have RB3 := hid rb3; have O3 := hid o3; have G3 := hid (G2.out.trans g3); have hz3 : B ≤ w3.heap.size := Nat.le_trans hz2 g3.grown.size; obtain ⟨s3, c3, rfl⟩ := own_slice o3; clear o3 g3 H3 rb3) | (have qq := H2; clear qq; go_at_call 36; refine H2.out.mono ?_; rintro e w2 ⟨v2, rfl, o2, g2⟩; rw [← HL2.out] at o2; have NE2 := hid (g2.ne NE1.out HBL1.out); have rb2 := g2.row NE1.out RB1.out; have HBL2 := hid (Array.getElem?_eq_some_iff.1 rb2).1; have cb2 := fun j => cell_row rb2 j; have RB2 := hid rb2; have O2 := hid o2; have G2 := hid (G1.out.trans g2); have hz2 : B ≤ w2.heap.size := Nat.le_trans hz1 g2.grown.size; have H3 := hid (HI3.out w2 B _ L2 o2 hz2 hq3); obtain ⟨s2, c2, rfl⟩ := own_slice o2; clear o2 g2 H2 rb2) | (have qq := H1; clear qq; go_at_call 36; refine H1.out.mono ?_; rintro e w1 ⟨v1, rfl, o1, g1⟩; rw [← HL1.out] at o1; have NE1 := hid (g1.ne NE.out HBL.out); have rb1 := g1.row NE.out RB.out; have HBL1 := hid (Array.getElem?_eq_some_iff.1 rb1).1; have cb1 := fun j => cell_row rb1 j; have RB1 := hid rb1; have O1 := hid o1; have G1 := hid (g1.undrew); have hz1 : B ≤ w1.heap.size := Nat.le_trans hzA.out g1.grown.size; have H2 := hid (HI2.out w1 B _ L1 o1 hz1 hq2); obtain ⟨s1, c1, rfl⟩ := own_slice o1; clear o1 g1 H1 rb1))
  all_goals
    go_wp2_with (first | (go_at_call 181; refine (HN _).out.mono ?_; rintro e w8 ⟨rfl, b8⟩; have O8 := hid (ownsRow_below O3.out (box_box _ b8 (.cells #[.int .i64 11, .int .i64 0] 54))); have hs8 := b8.size; have B8 := hid (box_box _ b8 (.cells #[.int .i64 11, .int .i64 0] 54)); clear b8) | (at_builtin; refine app_node rfl _ _ rfl B _ (L3) (11, 0) w8.heap.size rfl O8.out rfl (heap_alloc_new w8 _) (by omega) (by simp; omega) ?_; intro v9 w9 o9 g9; rw [List.length_append, List.length_singleton] at o9; obtain ⟨s9, c9, rfl⟩ := own_slice o9; have O9 := hid o9; have G9 := hid ((LG.front HBA.out G3.out).trans (LG.front B8.out g9)); clear o9 g9))
    go_ret
    exact ⟨_, rfl, by rw [List.length_append, List.length_singleton]; exact O9.out, G9.out⟩

theorem list_all : ∀ t : Tr, t.good → ListC t := by
  intro t
  induction t using Tr.ind with
  | lf x =>
    intro h
    obtain ⟨o, n⟩ := x
    rcases h with ⟨h1, _⟩ | ⟨h1, _⟩
    · simp only at h1; subst h1; exact list_const n
    · simp only at h1; subst h1; exact list_var n
  | un x a ih =>
    intro h
    obtain ⟨o, n⟩ := x
    obtain ⟨hx, ha⟩ := h
    rcases hx with ⟨h1, h2⟩ | ⟨h1, _⟩
    · simp only at h1 h2; subst h1 h2; exact list_not a (ih ha)
    · have h45 : o = 4 ∨ o = 5 := by simpa [isQ] using h1
      exact list_quant o n (by omega) a (ih ha)
  | bi x a b iha ihb =>
    intro h
    obtain ⟨o, n⟩ := x
    obtain ⟨⟨_, h2⟩, ha, hb⟩ := h
    simp only at h2
    subst h2
    exact list_two o a (iha ha) b (ihb hb)
  | te x a b c iha ihb ihc =>
    intro h
    obtain ⟨o, n⟩ := x
    obtain ⟨⟨h1, h2⟩, ha, hb, hc⟩ := h
    simp only at h1 h2
    subst h1 h2
    exact list_ite a (iha ha) b (ihb hb) c (ihc hc)
end Go.Proofs.YtdkboifpdodonaaDoor
/-
  The document's own letter, digit, number, word.
-/
namespace Go.Proofs.YtdkboifpdodonaaDoor.Doc
open Go.RowKit Go.Deep PureCnf PureForm
set_option maxRecDepth 100000

theorem hid {q : Prop} (h : q) : Hid q := h

/-- a string of these bytes. -/
abbrev str (l : List UInt8) : Value := .string ⟨l.toArray⟩
theorem list_at (s : ByteArray) (k : Nat) (h : k < s.size) : s.data.toList[k]'(by simpa using h) = s[k] := rfl
theorem take_snoc (l : List UInt8) (k : Nat) (h : k < l.length) : l.take (k + 1) = l.take k ++ [l[k]] := by rw [List.take_add_one, List.getElem?_eq_getElem h]; rfl
theorem extract_list (s : ByteArray) (i j : Nat) : (s.extract i j).data.toList = (s.data.toList.drop i).take (j - i) := by
  rw [ByteArray.data_extract, Array.toList_extract]
theorem extract_str (s : ByteArray) (i j : Nat) : s.extract i j = ⟨((s.data.toList.take j).drop i).toArray⟩ := by
  apply ByteArray.ext
  apply Array.ext'
  rw [extract_list, List.drop_take]
theorem add_block (a : Addr) (j : Nat) : (a.add j).block = a.block := by unfold Addr.add; split <;> rfl
theorem add_zero_addr (g j : Nat) : (⟨g, 0, none⟩ : Addr).add j = ⟨g, j, none⟩ := by
  unfold Addr.add
  split <;> simp_all
theorem cell_row {w : World} {b : Nat} {c : Array Value} {t : TypeId} {fz : Nat × Nat} (h : w.heap[b]? = some (.cells c t fz)) (i : Nat) : w.cell? ⟨b, i, none⟩ = c[i]? := by simp [World.cell?, h]
theorem unfrozen_row {w : World} {b : Nat} {c : Array Value} {t : TypeId} (h : w.heap[b]? = some (.cells c t (0, 0))) (i : Nat) : w.frozen? ⟨b, i, none⟩ = false := by simp [World.frozen?, h]
theorem below_cell {B b o : Nat} {w w' : World} {x : Value} (hb : Below B w w') (hlt : b < B) (h : w.cell? ⟨b, o, none⟩ = some x) : w'.cell? ⟨b, o, none⟩ = some x := (hb.cell (p := ⟨b, o, none⟩) hlt).trans h
theorem below_drewN {B : Nat} {w W : World} (h : Below B w W) (n : Nat) : Below B w (W.drewN n) := ⟨h.os, h.tape, h.output, h.size, h.block⟩
/-- a token as a value. -/
abbrev tokV (t : PureForm.Tok) : Value := .agg #[.int .i64 t.kind, .int .i64 t.n, .int .i64 t.at_, .int .i64 t.end_]

set_option maxHeartbeats 400000 in
theorem digit_any (c : UInt8) (w : World) : Calls Tryd.prog 66 #[.int .u8 (c.toNat : Int)] w fun e w' => e = .returned (.bool (digB c)) ∧ w' = w := by
  by_cases h1 : 48 ≤ (c.toNat : Int)
  · by_cases h2 : (c.toNat : Int) ≤ 57
    · have HD : Hid (digB c = true) := by show _ = _; unfold digB; simp; omega
      go_enter Tryd.func66, Tryd.ntmps66
      go_wp2
      go_ret
      rw [HD.out]
      exact ⟨rfl, rfl⟩
    · have HD : Hid (digB c = false) := by show _ = _; unfold digB; simp; omega
      go_enter Tryd.func66, Tryd.ntmps66
      go_wp2
      go_ret
      rw [HD.out]
      exact ⟨rfl, rfl⟩
  · have HD : Hid (digB c = false) := by show _ = _; unfold digB; simp; omega
    go_enter Tryd.func66, Tryd.ntmps66
    go_wp2
    go_ret
    rw [HD.out]
    exact ⟨rfl, rfl⟩

set_option maxHeartbeats 400000 in
theorem letter_any (c : UInt8) (w : World) : Calls Tryd.prog 65 #[.int .u8 (c.toNat : Int)] w fun e w' => e = .returned (.bool (letB c)) ∧ w' = w := by
  by_cases h1 : 97 ≤ (c.toNat : Int)
  · by_cases h2 : (c.toNat : Int) ≤ 122
    · have HD : Hid (letB c = true) := by show _ = _; unfold letB; simp; omega
      go_enter Tryd.func65, Tryd.ntmps65
      go_wp2
      go_ret
      rw [HD.out]
      exact ⟨rfl, rfl⟩
    · have HD : Hid (letB c = false) := by show _ = _; unfold letB; simp; omega
      have h3 : 65 ≤ (c.toNat : Int) := by omega
      have h4 : ¬ (c.toNat : Int) ≤ 90 := by omega
      go_enter Tryd.func65, Tryd.ntmps65
      go_wp2
      go_ret
      rw [HD.out]
      exact ⟨rfl, rfl⟩
  · by_cases h3 : 65 ≤ (c.toNat : Int)
    · by_cases h4 : (c.toNat : Int) ≤ 90
      · have HD : Hid (letB c = true) := by show _ = _; unfold letB; simp; omega
        go_enter Tryd.func65, Tryd.ntmps65
        go_wp2
        go_ret
        rw [HD.out]
        exact ⟨rfl, rfl⟩
      · have HD : Hid (letB c = false) := by show _ = _; unfold letB; simp; omega
        go_enter Tryd.func65, Tryd.ntmps65
        go_wp2
        go_ret
        rw [HD.out]
        exact ⟨rfl, rfl⟩
    · have HD : Hid (letB c = false) := by show _ = _; unfold letB; simp; omega
      go_enter Tryd.func65, Tryd.ntmps65
      go_wp2
      go_ret
      rw [HD.out]
      exact ⟨rfl, rfl⟩

set_option maxHeartbeats 1000000 in
theorem number_any (s : ByteArray) (most : Nat) (w : World) (hs : s.size ≤ 1099511627776) (hm : most ≤ 1099511627776) :
    Calls Tryd.prog 94 #[.string s, .int .i64 (most : Int)] w fun e w' => e = .returned (.int .i64 (numB s.data.toList most)) ∧ w' = w := by
  have hlen : s.data.toList.length = s.size := by simp
  cases hp : plainB s.data.toList with
  | false =>
    have HN := hid (numB_plain (most := most) hp)
    by_cases h0 : s.size = 0
    · clear hp
      go_enter Tryd.func94, Tryd.ntmps94
      go_wp2
      go_ret
      rw [HN.out]
      exact ⟨rfl, rfl⟩
    · have h1 : 1 < s.size ∧ s.data.toList.head? = some 48 := by
        have hne : s.data.toList ≠ [] := fun e => h0 (by rw [← hlen, e]; rfl)
        simpa [plainB, hne] using hp
      obtain ⟨h2, h3⟩ := h1
      have h4 : (s[0].toNat : Int) = 48 := by
        rw [List.head?_eq_getElem?, List.getElem?_eq_getElem (by omega)] at h3
        have := Option.some.inj h3
        rw [list_at s 0 (by omega)] at this
        rw [this]; rfl
      have h5 : ((s.size : Int) == 0) = false := by rw [beq_eq_false_iff_ne]; omega
      clear hp h0 h3
      go_enter Tryd.func94, Tryd.ntmps94
      go_wp2
      go_ret
      rw [HN.out]
      exact ⟨rfl, rfl⟩
  | true =>
    have h0 : s.data.toList ≠ [] := fun e => by rw [e] at hp; simp [plainB] at hp
    have h1 : 0 < s.size := by
      rcases Nat.eq_zero_or_pos s.size with h | h
      · exact absurd (List.eq_nil_of_length_eq_zero (hlen.trans h)) h0
      · exact h
    have h2 : s.size = 1 ∨ (1 < s.size ∧ ((s[0].toNat : Int) == 48) = false) := by
      by_cases h : 1 < s.size
      · refine .inr ⟨h, ?_⟩
        have h3 : s.data.toList.head? ≠ some 48 := by simpa [plainB, h0, h] using hp
        rw [List.head?_eq_getElem?, List.getElem?_eq_getElem (by omega), list_at s 0 (by omega)] at h3
        have h4 : s[0].toNat ≠ 48 := fun e => h3 (by rw [← UInt8.toNat_inj.1 (show s[0].toNat = (48 : UInt8).toNat from e)])
        simp; omega
      · exact .inl (by omega)
    have h5 : ((s.size : Int) == 0) = false := by rw [beq_eq_false_iff_ne]; omega
    have HP := hid hp
    have HL := hid hlen
    clear hp h0 hlen
    rcases h2 with h2 | ⟨h2, h6⟩
    all_goals
      go_enter Tryd.func94, Tryd.ntmps94
      go_wp2
      go_loop [5, 6] (fun n i => ∃ k : Nat, k ≤ s.size ∧ i = .int .i64 k ∧ n = .int .i64 (valN (s.data.toList.take k) : Int) ∧ valN (s.data.toList.take k) ≤ most ∧ Hid ((s.data.toList.take k).all digB = true)) (fun _ i => s.size - (intOf i).toNat)
      case atStart => exact ⟨0, Nat.zero_le _, rfl, rfl, Nat.zero_le _, rfl⟩
      case round =>
        obtain ⟨k, hk, rfl, rfl, hv, HA⟩ := hrel
        by_cases hlt : k < s.size
        · have hlt' : k < s.data.toList.length := by rw [HL.out]; exact hlt
          have HDG := hid (digit_any s[k] w)
          cases hd : digB s[k] with
          | false =>
            rw [hd] at HDG
            have HN := hid (numB_off (most := most) hlt' hd)
            clear hd
            go_wp2_with (go_at_call 66; refine HDG.out.mono ?_; rintro e w' ⟨rfl, rfl⟩)
            go_ret
            rw [HN.out]
            exact ⟨rfl, rfl⟩
          | true =>
            rw [hd] at HDG
            have hr : 48 ≤ s[k].toNat ∧ s[k].toNat ≤ 57 := by simpa [digB] using hd
            have hv1 : Hid ((valN (s.data.toList.take (k + 1)) : Int) = 10 * (valN (s.data.toList.take k) : Int) + ((s[k].toNat : Int) - 48)) := by
              show _ = _
              rw [take_snoc _ k hlt', valN_snoc, list_at s k hlt]; omega
            have HA1 : Hid ((s.data.toList.take (k + 1)).all digB = true) := by
              show _ = _
              rw [take_snoc _ k hlt', List.all_append, HA.out, list_at s k hlt]
              simp [hd]
            clear hd
            obtain ⟨r1, r2⟩ := hr
            have r3 : (48 : Int) ≤ (s[k].toNat : Int) := by omega
            have r4 : (s[k].toNat : Int) ≤ 57 := by omega
            have r5 : (0 : Int) ≤ (valN (s.data.toList.take k) : Int) := by omega
            have r6 : (valN (s.data.toList.take k) : Int) ≤ 1099511627776 := by omega
            by_cases hgt : (most : Int) < 10 * (valN (s.data.toList.take k) : Int) + ((s[k].toNat : Int) - 48)
            · have HN := hid (numB_great (l := s.data.toList) (most := most) (k := k + 1) (by have := hv1.out; omega))
              go_wp2_with (go_at_call 66; refine HDG.out.mono ?_; rintro e w' ⟨rfl, rfl⟩)
              go_ret
              rw [HN.out]
              exact ⟨rfl, rfl⟩
            · go_wp2_with (go_at_call 66; refine HDG.out.mono ?_; rintro e w' ⟨rfl, rfl⟩)
              exact ⟨⟨k + 1, hlt, by go_num, by rw [hv1.out], by have := hv1.out; omega, HA1.out⟩, by simp [intOf]; omega⟩
        · have HE : Hid (numB s.data.toList most = (valN (s.data.toList.take k) : Int)) := by
            show _ = _
            have e : s.data.toList.take k = s.data.toList := List.take_of_length_le (by rw [HL.out]; omega)
            have ha := HA.out
            rw [e] at ha hv ⊢
            exact numB_end HP.out ha hv
          go_wp2
          go_ret
          rw [HE.out]
          exact ⟨rfl, rfl⟩


end Go.Proofs.YtdkboifpdodonaaDoor.Doc
/-
  The document's own word.
-/
namespace Go.Proofs.YtdkboifpdodonaaDoor.Doc
open Go.RowKit Go.Deep PureCnf PureForm
set_option maxRecDepth 100000

theorem str_size (l : List UInt8) : (⟨l.toArray⟩ : ByteArray).size = l.length := by simp [ByteArray.size]
theorem two_allocs (w : World) (a b : Obj) : Below w.heap.size w ((w.alloc a).alloc b) := ((Below.refl _ _).alloc (Nat.le_refl _) _).alloc (by simp) _

set_option maxHeartbeats 1000000 in
theorem word_key (l : List UInt8) (k n : Nat) (at_ : Nat) (w : World) (ha : at_ ≤ 1048576)
    (h : (l = [116, 114, 117, 101] ∧ k = 2 ∧ n = 1) ∨ (l = [102, 97, 108, 115, 101] ∧ k = 2 ∧ n = 0) ∨ (l = [101, 120, 105, 115, 116, 115] ∧ k = 5 ∧ n = 4) ∨ (l = [102, 111, 114, 97, 108, 108] ∧ k = 5 ∧ n = 5) ∨ (l = [105, 116, 101] ∧ k = 6 ∧ n = 131)) :
    Calls Tryd.prog 67 #[str l, .int .i64 (at_ : Int)] w fun e w' => e = .returned (tokV ⟨k, n, at_, at_ + l.length⟩) ∧ Below w.heap.size w w' := by
  rcases h with ⟨rfl, rfl, rfl⟩ | ⟨rfl, rfl, rfl⟩ | ⟨rfl, rfl, rfl⟩ | ⟨rfl, rfl, rfl⟩ | ⟨rfl, rfl, rfl⟩
  all_goals
    go_enter Tryd.func67, Tryd.ntmps67
    go_wp2
    exact bodyPost_ret (v := tokV ⟨_, _, at_, at_ + _⟩) (by simp [results, Tryd.results67, go_sem, tokV]) rfl ⟨rfl, two_allocs _ _ _⟩

set_option maxHeartbeats 1000000 in
/-- a word that is none of these. -/
theorem word_other (c : UInt8) (t : List UInt8) (at_ : Nat) (w : World) (ha : at_ ≤ 1048576) (hl : t.length ≤ 1048576)
    (n1 : ((c :: t) == [116, 114, 117, 101]) = false) (n2 : ((c :: t) == [102, 97, 108, 115, 101]) = false) (n3 : ((c :: t) == [101, 120, 105, 115, 116, 115]) = false) (n4 : ((c :: t) == [102, 111, 114, 97, 108, 108]) = false) (n5 : ((c :: t) == [105, 116, 101]) = false)
    (hx : ((c.toNat : Int) == 120) = false) :
    Calls Tryd.prog 67 #[str (c :: t), .int .i64 (at_ : Int)] w fun e w' => e = .returned (tokV ⟨1, 131, at_, at_ + (c :: t).length⟩) ∧ Below w.heap.size w w' := by
  have hs : (⟨(c :: t).toArray⟩ : ByteArray).size = t.length + 1 := str_size _
  have hc0 : ((⟨(c :: t).toArray⟩ : ByteArray)[0]'(by rw [hs]; omega)) = c := rfl
  go_enter Tryd.func67, Tryd.ntmps67
  go_wp2
  exact bodyPost_ret (v := tokV ⟨_, _, at_, at_ + _⟩) (by simp [results, Tryd.results67, go_sem, tokV]) rfl ⟨rfl, two_allocs _ _ _⟩

/-- number, of a string that is these bytes. -/
theorem number_of (l : List UInt8) (n : Int) (hl : l.length ≤ 1048576) (hn : numB l 65535 = n) : ∀ (W : World) (s : ByteArray), s = ⟨l.toArray⟩ → Calls Tryd.prog 94 #[.string s, .int .i64 65535] W fun e w' => e = .returned (.int .i64 n) ∧ w' = W := by
  rintro W s rfl
  have := number_any ⟨l.toArray⟩ 65535 W (by rw [str_size]; omega) (by omega)
  simpa [hn] using this

set_option maxHeartbeats 1000000 in
theorem word_x0 (at_ : Nat) (w : World) (ha : at_ ≤ 1048576) :
    Calls Tryd.prog 67 #[str [120], .int .i64 (at_ : Int)] w fun e w' => e = .returned (tokV ⟨1, 133, at_, at_ + 1⟩) ∧ Below w.heap.size w w' := by
  have HN := hid (number_of [] (-1) (by simp) (by decide))
  go_enter Tryd.func67, Tryd.ntmps67
  go_wp2_with fail
  refine (HN.out _ _ rfl).mono ?_
  rintro e w' ⟨rfl, rfl⟩
  go_wp2
  exact bodyPost_ret (v := tokV ⟨_, _, at_, at_ + _⟩) (by simp [results, Tryd.results67, go_sem, tokV]) rfl ⟨rfl, two_allocs _ _ _⟩

theorem tail_str (c : UInt8) (l : List UInt8) (n : Nat) (hn : n = l.length + 1) : (⟨(c :: l).toArray⟩ : ByteArray).extract 1 n = ⟨l.toArray⟩ := by
  subst hn
  rw [extract_str]
  simp

set_option maxHeartbeats 1000000 in
theorem word_xd (d : UInt8) (t : List UInt8) (at_ : Nat) (w : World) (ha : at_ ≤ 1048576) (hl : t.length ≤ 1048574) :
    Calls Tryd.prog 67 #[str (120 :: d :: t), .int .i64 (at_ : Int)] w fun e w' => e = .returned (tokV (wordT (120 :: d :: t) at_)) ∧ Below w.heap.size w w' := by
  have hs : (⟨(120 :: d :: t).toArray⟩ : ByteArray).size = t.length + 2 := str_size _
  have hc0 : ((⟨(120 :: d :: t).toArray⟩ : ByteArray)[0]'(by rw [hs]; omega)) = 120 := rfl
  have hc1 : ((⟨(120 :: d :: t).toArray⟩ : ByteArray)[1]'(by rw [hs]; omega)) = d := rfl
  have HDG := hid (fun W => digit_any d W)
  cases hd : digB d with
  | false =>
    have HW : Hid (wordT (120 :: d :: t) at_ = ⟨1, 131, at_, at_ + (t.length + 2)⟩) := by show _ = _; simp [wordT, hd]
    rw [hd] at HDG
    clear hd
    go_enter Tryd.func67, Tryd.ntmps67
    go_wp2_with (go_at_call 66; refine (HDG.out _).mono ?_; rintro e w' ⟨rfl, rfl⟩)
    rw [HW.out]
    exact bodyPost_ret (v := tokV ⟨_, _, at_, at_ + _⟩) (by simp [results, Tryd.results67, go_sem, tokV]) rfl ⟨rfl, two_allocs _ _ _⟩
  | true =>
    obtain ⟨n, hn⟩ : ∃ n, n = numB (d :: t) 65535 := ⟨_, rfl⟩
    have hr := numB_range (d :: t) 65535
    rw [← hn] at hr
    obtain ⟨r1, r2⟩ := hr
    have HN := hid (number_of (d :: t) n (by simp; omega) hn.symm)
    rw [hd] at HDG
    by_cases h0 : 0 ≤ n
    · have HW : Hid (wordT (120 :: d :: t) at_ = ⟨3, n.toNat, at_, at_ + (t.length + 2)⟩) := by show _ = _; simp [wordT, hd, ← hn, h0]
      obtain ⟨m, rfl⟩ : ∃ m : Nat, n = m := ⟨n.toNat, by omega⟩
      clear hd hn
      go_enter Tryd.func67, Tryd.ntmps67
      go_wp2_with (first | (go_at_call 66; refine (HDG.out _).mono ?_; rintro e w' ⟨rfl, rfl⟩) | (go_at_call 94; refine (HN.out _ _ (tail_str _ _ _ (by simp))).mono ?_; rintro e w' ⟨rfl, rfl⟩))
      rw [HW.out]
      exact bodyPost_ret (v := tokV ⟨_, _, at_, at_ + _⟩) (by simp [results, Tryd.results67, go_sem, tokV]) rfl ⟨rfl, two_allocs _ _ _⟩
    · have HW : Hid (wordT (120 :: d :: t) at_ = ⟨1, 133, at_, at_ + (t.length + 2)⟩) := by show _ = _; simp [wordT, hd, ← hn, h0]
      clear hd hn
      go_enter Tryd.func67, Tryd.ntmps67
      go_wp2_with (first | (go_at_call 66; refine (HDG.out _).mono ?_; rintro e w' ⟨rfl, rfl⟩) | (go_at_call 94; refine (HN.out _ _ (tail_str _ _ _ (by simp))).mono ?_; rintro e w' ⟨rfl, rfl⟩))
      rw [HW.out]
      exact bodyPost_ret (v := tokV ⟨_, _, at_, at_ + _⟩) (by simp [results, Tryd.results67, go_sem, tokV]) rfl ⟨rfl, two_allocs _ _ _⟩

/-- the token of a word. -/
theorem word_any (l : List UInt8) (at_ : Nat) (w : World) (ha : at_ ≤ 1048576) (h0 : l ≠ []) (hl : l.length ≤ 1048576) :
    Calls Tryd.prog 67 #[str l, .int .i64 (at_ : Int)] w fun e w' => e = .returned (tokV (wordT l at_)) ∧ Below w.heap.size w w' := by
  by_cases h1 : l = [116, 114, 117, 101]
  · have := word_key l 2 1 at_ w ha (.inl ⟨h1, rfl, rfl⟩)
    rwa [show wordT l at_ = ⟨2, 1, at_, at_ + l.length⟩ by simp [wordT, h1]]
  · by_cases h2 : l = [102, 97, 108, 115, 101]
    · have := word_key l 2 0 at_ w ha (.inr (.inl ⟨h2, rfl, rfl⟩))
      rwa [show wordT l at_ = ⟨2, 0, at_, at_ + l.length⟩ by simp [wordT, h2]]
    · by_cases h3 : l = [101, 120, 105, 115, 116, 115]
      · have := word_key l 5 4 at_ w ha (.inr (.inr (.inl ⟨h3, rfl, rfl⟩)))
        rwa [show wordT l at_ = ⟨5, 4, at_, at_ + l.length⟩ by simp [wordT, h3]]
      · by_cases h4 : l = [102, 111, 114, 97, 108, 108]
        · have := word_key l 5 5 at_ w ha (.inr (.inr (.inr (.inl ⟨h4, rfl, rfl⟩))))
          rwa [show wordT l at_ = ⟨5, 5, at_, at_ + l.length⟩ by simp [wordT, h4]]
        · by_cases h5 : l = [105, 116, 101]
          · have := word_key l 6 131 at_ w ha (.inr (.inr (.inr (.inr ⟨h5, rfl, rfl⟩))))
            rwa [show wordT l at_ = ⟨6, 131, at_, at_ + l.length⟩ by simp [wordT, h5]]
          · obtain ⟨c, t, rfl⟩ := List.exists_cons_of_ne_nil h0
            by_cases h6 : c = 120
            · subst h6
              cases t with
              | nil =>
                have := word_x0 at_ w ha
                rwa [show wordT [120] at_ = ⟨1, 133, at_, at_ + 1⟩ by simp [wordT, numB, numOk, plainB]]
              | cons d t => exact word_xd d t at_ w ha (by simp at hl; omega)
            · have hx : ((c.toNat : Int) == 120) = false := by
                rw [beq_eq_false_iff_ne]
                intro e
                exact h6 (UInt8.toNat_inj.1 (show c.toNat = (120 : UInt8).toNat by have : (120 : UInt8).toNat = 120 := rfl; omega))
              have := word_other c t at_ w ha (by simp at hl; omega) (by rw [beq_eq_false_iff_ne]; exact h1) (by rw [beq_eq_false_iff_ne]; exact h2) (by rw [beq_eq_false_iff_ne]; exact h3) (by rw [beq_eq_false_iff_ne]; exact h4) (by rw [beq_eq_false_iff_ne]; exact h5) hx
              rwa [show wordT (c :: t) at_ = ⟨1, 131, at_, at_ + (c :: t).length⟩ by
                unfold wordT
                rw [if_neg h1, if_neg h2, if_neg h3, if_neg h4, if_neg h5, if_neg (by simp [h6])]]
end Go.Proofs.YtdkboifpdodonaaDoor.Doc
