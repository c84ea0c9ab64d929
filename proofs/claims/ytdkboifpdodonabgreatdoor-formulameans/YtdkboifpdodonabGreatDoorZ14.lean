import Derived.Test.YtdkboifpdodonabGreatDoorZ13
set_option linter.unusedSimpArgs false
/-
  The landed program's list, kind by kind.
-/
namespace Go.Proofs.YtdkboifpdodonabGreatDoor
open Go.RowKit Go.Deep PureCnf PureForm PureRd
set_option maxRecDepth 100000

theorem meth133 (v : Value) (w : World) : Sem.run Tryz.prog (method 314 133 v "strata/formula.node") w = .ok (177, v) w := rfl
theorem meth135 (v : Value) (w : World) : Sem.run Tryz.prog (method 314 135 v "strata/formula.node") w = .ok (178, v) w := rfl
theorem meth120 (v : Value) (w : World) : Sem.run Tryz.prog (method 314 120 v "strata/formula.node") w = .ok (173, v) w := rfl
theorem meth122 (v : Value) (w : World) : Sem.run Tryz.prog (method 314 122 v "strata/formula.node") w = .ok (174, v) w := rfl
theorem meth124 (v : Value) (w : World) : Sem.run Tryz.prog (method 314 124 v "strata/formula.node") w = .ok (175, v) w := rfl
theorem meth126 (v : Value) (w : World) : Sem.run Tryz.prog (method 314 126 v "strata/formula.node") w = .ok (176, v) w := rfl
theorem own_slice {W : World} {B e size n : Nat} {v : Value} {xs : List Value} (h : W.ownsRow B e size v n xs) : ∃ sa c, v = .slice sa n c := by
  rcases h.2 with ⟨hv, h0⟩ | ⟨g, cap, cur, hv, _⟩
  · exact ⟨none, 0, by rw [hv, h0]⟩
  · exact ⟨_, _, hv⟩
theorem box_box (w : World) {w1 : World} (b : Below w.heap.size w w1) (o : Obj) : Below w.heap.size w (w1.alloc o) := b.alloc b.size _
theorem LG.row {W w' : World} {v v' : Value} {b : Nat} {o : Obj} (h : LG W w' v v') (hb : some b ≠ v.ownBlock) (hr : W.heap[b]? = some o) : w'.heap[b]? = some o :=
  (h.grown.block b (Array.getElem?_eq_some_iff.1 hr).1 hb).trans hr
theorem own_ne {W : World} {B e size n : Nat} {v : Value} {xs : List Value} (h : W.ownsRow B e size v n xs) {b : Nat} (hb : W.heap.size ≤ b) : some b ≠ v.ownBlock := fun e => by
  have := (h.lt b e.symm).2
  omega
theorem LG.ne {W w' : World} {v v' : Value} {b : Nat} (h : LG W w' v v') (hb : some b ≠ v.ownBlock) (hlt : b < W.heap.size) : some b ≠ v'.ownBlock := by
  rcases h.own with e | ⟨g, e, hg⟩
  · rw [e]; exact hb
  · rw [e]; intro x; injection x with x; omega

set_option maxHeartbeats 2000000 in
theorem list_const (n : Int) : ListC (.lf (1, n)) := by
  intro W B v L ho hB hn
  obtain ⟨sa, ca, rfl⟩ := own_slice ho
  show Calls Tryz.prog 30 #[_, .iface 133 (.agg #[.int .i64 n])] W _
  have m1 := fun x W => ta120_miss 133 (by decide) (.agg #[.int .i64 n]) x W
  have m2 := fun x W => ta122_miss 133 (by decide) (.agg #[.int .i64 n]) x W
  have m3 := fun x W => ta124_miss 133 (by decide) (.agg #[.int .i64 n]) x W
  have m4 := fun x W => ta126_miss 133 (by decide) (.agg #[.int .i64 n]) x W
  have me := fun v W => meth133 v W
  have HN := fun W => hid (node_const n W)
  have HO := hid ho
  have hlen : (Tr.lf (1, n)).post.length = 1 := rfl
  rw [hlen] at hn
  clear ho hlen
  go_enter Tryz.func30, Tryz.ntmps30
  go_wp2_with (first | (go_at_call 177; refine (HN _).out.mono ?_; rintro e w8 ⟨rfl, b8⟩; have O8 := hid (ownsRow_below HO.out (box_box _ b8 (.cells #[.int .i64 1, .int .i64 n] 49))); have hs8 := b8.size; have B8 := hid (box_box _ b8 (.cells #[.int .i64 1, .int .i64 n] 49)); clear b8) | (at_builtin; refine app_node rfl _ _ rfl B _ (L) (1, n) w8.heap.size rfl O8.out rfl (heap_alloc_new w8 _) (by omega) (by simp; omega) ?_; intro v9 w9 o9 g9; rw [List.length_append, List.length_singleton] at o9; obtain ⟨s9, c9, rfl⟩ := own_slice o9; have O9 := hid o9; have G9 := hid (LG.front B8.out g9); clear o9 g9))
  go_ret
  exact ⟨_, rfl, by rw [show (L ++ (Tr.lf (1, n)).post).length = L.length + 1 from List.length_append]; exact O9.out, G9.out⟩
set_option maxHeartbeats 2000000 in
theorem list_var (n : Int) : ListC (.lf (2, n)) := by
  intro W B v L ho hB hn
  obtain ⟨sa, ca, rfl⟩ := own_slice ho
  show Calls Tryz.prog 30 #[_, .iface 135 (.agg #[.int .i64 n])] W _
  have m1 := fun x W => ta120_miss 135 (by decide) (.agg #[.int .i64 n]) x W
  have m2 := fun x W => ta122_miss 135 (by decide) (.agg #[.int .i64 n]) x W
  have m3 := fun x W => ta124_miss 135 (by decide) (.agg #[.int .i64 n]) x W
  have m4 := fun x W => ta126_miss 135 (by decide) (.agg #[.int .i64 n]) x W
  have me := fun v W => meth135 v W
  have HN := fun W => hid (node_var n W)
  have HO := hid ho
  have hlen : (Tr.lf (2, n)).post.length = 1 := rfl
  rw [hlen] at hn
  clear ho hlen
  go_enter Tryz.func30, Tryz.ntmps30
  go_wp2_with (first | (go_at_call 178; refine (HN _).out.mono ?_; rintro e w8 ⟨rfl, b8⟩; have O8 := hid (ownsRow_below HO.out (box_box _ b8 (.cells #[.int .i64 2, .int .i64 n] 49))); have hs8 := b8.size; have B8 := hid (box_box _ b8 (.cells #[.int .i64 2, .int .i64 n] 49)); clear b8) | (at_builtin; refine app_node rfl _ _ rfl B _ (L) (2, n) w8.heap.size rfl O8.out rfl (heap_alloc_new w8 _) (by omega) (by simp; omega) ?_; intro v9 w9 o9 g9; rw [List.length_append, List.length_singleton] at o9; obtain ⟨s9, c9, rfl⟩ := own_slice o9; have O9 := hid o9; have G9 := hid (LG.front B8.out g9); clear o9 g9))
  go_ret
  exact ⟨_, rfl, by rw [show (L ++ (Tr.lf (2, n)).post).length = L.length + 1 from List.length_append]; exact O9.out, G9.out⟩
set_option maxHeartbeats 2000000 in
theorem list_not  (a : Tr) (I : ListC a) : ListC (Tr.un (3, 0) a) := by
  intro W B v L ho hB hn
  obtain ⟨sa, ca, rfl⟩ := own_slice ho
  obtain ⟨k, u, e⟩ := tv_form a
  have et : tv (Tr.un (3, 0) a) = .iface 120 (.agg #[.iface k u]) := by (first | rw [tv_un, if_pos rfl, e] | rw [tv_bi, if_pos rfl, e] | rw [tv_te, if_pos rfl, e] | rw [tv_lf, if_pos rfl, e])
  rw [et]
  have m1 := fun x W => ta120_hit (.agg #[.iface k u]) x W
  have me := fun v W => meth120 v W
  have HN := fun W => hid (node_not k u W)
  have hlen : (Tr.un (3, 0) a).post.length = a.post.length + 1 := by simp [Tr.post_lf, Tr.post_un, Tr.post_bi, Tr.post_te]
  have hll : (L ++ a.post).length = L.length + a.post.length := List.length_append
  have hp : L ++ (Tr.un (3, 0) a).post = (L ++ a.post) ++ [(3, 0)] := by simp [Tr.post_lf, Tr.post_un, Tr.post_bi, Tr.post_te]
  obtain ⟨L1, hL1⟩ : ∃ L1, L1 = L ++ a.post := ⟨_, rfl⟩
  rw [hlen] at hn
  rw [hp]
  obtain ⟨WA, hWA⟩ : ∃ WA, WA = W.alloc (Obj.cells #[.iface k u] 120) := ⟨_, rfl⟩
  have hbA : Below W.heap.size W WA := by rw [hWA]; exact below_box _ _
  have rA : WA.heap[W.heap.size]? = some (.cells #[.iface k u] 120 (0, 0)) := by rw [hWA]; exact heap_alloc_new W _
  have c0 := fun j => cell_row rA j
  have hI := I WA B _ L (ownsRow_below ho hbA) (by have := hbA.size; omega) (by omega)
  rw [e, ← hL1] at hI
  rw [← hL1] at hll ⊢
  have hbL : L1.length + 1 ≤ 1099511627776 := by omega
  have H1 := hid hI
  have HWA := hid hWA
  have HBA := hid hbA
  have hsA := hbA.size
  clear hI hWA hbA rA ho hlen e et I hp hL1 hll hn
  go_enter Tryz.func30, Tryz.ntmps30
  go_wp2_with (first | (rw [← HWA.out]) | (go_at_call 30; refine H1.out.mono ?_; rintro e w1 ⟨v1, rfl, o1, g1⟩; obtain ⟨s1, c1, rfl⟩ := own_slice o1; have O1 := hid o1; have G1 := hid g1; have hs1 := g1.grown.size; clear o1 g1 H1) | (go_at_call 173; refine (HN _).out.mono ?_; rintro e w8 ⟨rfl, b8⟩; have O8 := hid (ownsRow_below O1.out (box_box _ b8 (.cells #[.int .i64 3, .int .i64 0] 49))); have hs8 := b8.size; have B8 := hid (box_box _ b8 (.cells #[.int .i64 3, .int .i64 0] 49)); clear b8) | (at_builtin; refine app_node rfl _ _ rfl B _ (L1) (3, 0) w8.heap.size rfl O8.out rfl (heap_alloc_new w8 _) (by omega) (by simp; omega) ?_; intro v9 w9 o9 g9; rw [List.length_append, List.length_singleton] at o9; obtain ⟨s9, c9, rfl⟩ := own_slice o9; have O9 := hid o9; have G9 := hid ((LG.front HBA.out G1.out).trans (LG.front B8.out g9)); clear o9 g9))
  go_ret
  exact ⟨_, rfl, by rw [List.length_append, List.length_singleton]; exact O9.out, G9.out⟩
set_option maxHeartbeats 2000000 in
theorem list_quant (o n : Int) (h3 : o ≠ 3) (a : Tr) (I : ListC a) : ListC (Tr.un (o, n) a) := by
  intro W B v L ho hB hn
  obtain ⟨sa, ca, rfl⟩ := own_slice ho
  obtain ⟨k, u, e⟩ := tv_form a
  have et : tv (Tr.un (o, n) a) = .iface 122 (.agg #[.int .i64 o, .int .i64 n, .iface k u]) := by (first | rw [tv_un, if_neg h3, e] | rw [tv_bi, if_neg h3, e] | rw [tv_te, if_neg h3, e] | rw [tv_lf, if_neg h3, e])
  rw [et]
  have m1 := fun x W => ta120_miss 122 (by decide) (.agg #[.int .i64 o, .int .i64 n, .iface k u]) x W
  have m2 := fun x W => ta122_hit (.agg #[.int .i64 o, .int .i64 n, .iface k u]) x W
  have me := fun v W => meth122 v W
  have HN := fun W => hid (node_quant o n k u W)
  have hlen : (Tr.un (o, n) a).post.length = a.post.length + 1 := by simp [Tr.post_lf, Tr.post_un, Tr.post_bi, Tr.post_te]
  have hll : (L ++ a.post).length = L.length + a.post.length := List.length_append
  have hp : L ++ (Tr.un (o, n) a).post = (L ++ a.post) ++ [(o, n)] := by simp [Tr.post_lf, Tr.post_un, Tr.post_bi, Tr.post_te]
  obtain ⟨L1, hL1⟩ : ∃ L1, L1 = L ++ a.post := ⟨_, rfl⟩
  rw [hlen] at hn
  rw [hp]
  obtain ⟨WA, hWA⟩ : ∃ WA, WA = W.alloc (Obj.cells #[.int .i64 o, .int .i64 n, .iface k u] 122) := ⟨_, rfl⟩
  have hbA : Below W.heap.size W WA := by rw [hWA]; exact below_box _ _
  have rA : WA.heap[W.heap.size]? = some (.cells #[.int .i64 o, .int .i64 n, .iface k u] 122 (0, 0)) := by rw [hWA]; exact heap_alloc_new W _
  have c0 := fun j => cell_row rA j
  have hI := I WA B _ L (ownsRow_below ho hbA) (by have := hbA.size; omega) (by omega)
  rw [e, ← hL1] at hI
  rw [← hL1] at hll ⊢
  have hbL : L1.length + 1 ≤ 1099511627776 := by omega
  have H1 := hid hI
  have HWA := hid hWA
  have HBA := hid hbA
  have hsA := hbA.size
  clear hI hWA hbA rA ho hlen e et I hp hL1 hll hn
  go_enter Tryz.func30, Tryz.ntmps30
  go_wp2_with (first | (rw [← HWA.out]) | (go_at_call 30; refine H1.out.mono ?_; rintro e w1 ⟨v1, rfl, o1, g1⟩; obtain ⟨s1, c1, rfl⟩ := own_slice o1; have O1 := hid o1; have G1 := hid g1; have hs1 := g1.grown.size; clear o1 g1 H1) | (go_at_call 174; refine (HN _).out.mono ?_; rintro e w8 ⟨rfl, b8⟩; have O8 := hid (ownsRow_below O1.out (box_box _ b8 (.cells #[.int .i64 o, .int .i64 n] 49))); have hs8 := b8.size; have B8 := hid (box_box _ b8 (.cells #[.int .i64 o, .int .i64 n] 49)); clear b8) | (at_builtin; refine app_node rfl _ _ rfl B _ (L1) (o, n) w8.heap.size rfl O8.out rfl (heap_alloc_new w8 _) (by omega) (by simp; omega) ?_; intro v9 w9 o9 g9; rw [List.length_append, List.length_singleton] at o9; obtain ⟨s9, c9, rfl⟩ := own_slice o9; have O9 := hid o9; have G9 := hid ((LG.front HBA.out G1.out).trans (LG.front B8.out g9)); clear o9 g9))
  go_ret
  exact ⟨_, rfl, by rw [List.length_append, List.length_singleton]; exact O9.out, G9.out⟩

end Go.Proofs.YtdkboifpdodonabGreatDoor
/-
  The landed program's list: nodes of two and three operands; every tree.
-/
namespace Go.Proofs.YtdkboifpdodonabGreatDoor
open Go.RowKit Go.Deep PureCnf PureForm PureRd
set_option maxRecDepth 100000

theorem LG.undrew {W w' : World} {v v' : Value} (h : LG W.drew w' v v') : LG W w' v v' := ⟨⟨h.grown.os, h.grown.tape, h.grown.output, h.grown.size, h.grown.block⟩, h.own⟩
theorem own_drew {W : World} {B e size n : Nat} {v : Value} {xs : List Value} (h : W.ownsRow B e size v n xs) : W.drew.ownsRow B e size v n xs := h
set_option maxHeartbeats 4000000 in
theorem list_two (o : Int) (a1 : Tr) (I1 : ListC a1) (a2 : Tr) (I2 : ListC a2) : ListC (Tr.bi (o, 0) a1 a2) := by
  intro W B v L ho hB hn
  obtain ⟨sa, ca, rfl⟩ := own_slice ho
  obtain ⟨k1, u1, e1⟩ := tv_form a1
  obtain ⟨k2, u2, e2⟩ := tv_form a2
  have et : tv (Tr.bi (o, 0) a1 a2) = .iface 124 (.agg #[.int .i64 o, .iface k1 u1, .iface k2 u2]) := by (first | rw [tv_un, e1, e2] | rw [tv_bi, e1, e2] | rw [tv_te, e1, e2] | rw [tv_lf, e1, e2])
  rw [et]
  have m1 := fun x W => ta120_miss 124 (by decide) (.agg #[.int .i64 o, .iface k1 u1, .iface k2 u2]) x W
  have m2 := fun x W => ta122_miss 124 (by decide) (.agg #[.int .i64 o, .iface k1 u1, .iface k2 u2]) x W
  have m3 := fun x W => ta124_hit (.agg #[.int .i64 o, .iface k1 u1, .iface k2 u2]) x W
  have me := fun v W => meth124 v W
  have HN := fun W => hid (node_two o k1 k2 u1 u2 W)
  obtain ⟨L1, hL1⟩ : ∃ L1, L1 = L ++ a1.post := ⟨_, rfl⟩
  obtain ⟨L2, hL2⟩ : ∃ L2, L2 = L1 ++ a2.post := ⟨_, rfl⟩
  have hp : L ++ (Tr.bi (o, 0) a1 a2).post = L2 ++ [(o, 0)] := by rw [hL2, hL1]; simp [Tr.post_lf, Tr.post_un, Tr.post_bi, Tr.post_te]
  have hlen : (Tr.bi (o, 0) a1 a2).post.length = a1.post.length + a2.post.length + 1 := by simp [Tr.post_lf, Tr.post_un, Tr.post_bi, Tr.post_te]; omega
  have hll1 : L1.length = L.length + a1.post.length := by rw [hL1]; exact List.length_append
  have hll2 : L2.length = L1.length + a2.post.length := by rw [hL2]; exact List.length_append
  rw [hlen] at hn
  rw [hp]
  have hb1 : L1.length + 1 ≤ 1099511627776 := by omega
  have hq1 : L.length + a1.post.length ≤ 1099511627776 := by omega
  have HL1 := hid hL1
  have HI1 := hid I1
  have hb2 : L2.length + 1 ≤ 1099511627776 := by omega
  have hq2 : L1.length + a2.post.length ≤ 1099511627776 := by omega
  have HL2 := hid hL2
  have HI2 := hid I2
  obtain ⟨WA, hWA⟩ : ∃ WA, WA = W.alloc (Obj.cells #[.int .i64 o, .iface k1 u1, .iface k2 u2] 124) := ⟨_, rfl⟩
  have hbA : Below W.heap.size W WA := by rw [hWA]; exact below_box _ _
  have rA : WA.heap[W.heap.size]? = some (.cells #[.int .i64 o, .iface k1 u1, .iface k2 u2] 124 (0, 0)) := by rw [hWA]; exact heap_alloc_new W _
  have c0 := fun j => cell_row rA j
  have NE := hid (own_ne ho (Nat.le_refl W.heap.size))
  have RB := hid (drew_row rA)
  have HBL := hid (Array.getElem?_eq_some_iff.1 (drew_row rA)).1
  have H1 := hid (I1 WA.drew B _ L (own_drew (ownsRow_below ho hbA)) (by have := hbA.size; exact Nat.le_trans hB this) hq1)
  have HWA := hid hWA
  have HBA := hid hbA
  have hzA : Hid (B ≤ WA.drew.heap.size) := Nat.le_trans hB hbA.size
  simp only [e1, e2, ListC] at H1 HI2
  clear hWA hbA rA ho hlen et hp hn e1 I1 hL1 hll1 e2 I2 hL2 hll2 HI1
  go_enter Tryz.func30, Tryz.ntmps30
  go_wp2_with (rw [← HWA.out])
  go_region_held3 (fun W' => W'.cell? ⟨W.heap.size, 1, none⟩ = some (.iface k1 u1) ∧ W'.cell? ⟨W.heap.size, 2, none⟩ = some (.iface k2 u2)) (go_keep) (first | (have qq := H2; clear qq; go_at_call 30; refine H2.out.mono ?_; rintro e w2 ⟨v2, rfl, o2, g2⟩; rw [← HL2.out] at o2; have NE2 := hid (g2.ne NE1.out HBL1.out); have rb2 := g2.row NE1.out RB1.out; have HBL2 := hid (Array.getElem?_eq_some_iff.1 rb2).1; have cb2 := fun j => cell_row rb2 j; have RB2 := hid rb2; have O2 := hid o2; have G2 := hid (G1.out.trans g2); have hz2 : B ≤ w2.heap.size := Nat.le_trans hz1 g2.grown.size; obtain ⟨s2, c2, rfl⟩ := own_slice o2; clear o2 g2 H2 rb2) | (have qq := H1; clear qq; go_at_call 30; refine H1.out.mono ?_; rintro e w1 ⟨v1, rfl, o1, g1⟩; rw [← HL1.out] at o1; have NE1 := hid (g1.ne NE.out HBL.out); have rb1 := g1.row NE.out RB.out; have HBL1 := hid (Array.getElem?_eq_some_iff.1 rb1).1; have cb1 := fun j => cell_row rb1 j; have RB1 := hid rb1; have O1 := hid o1; have G1 := hid (g1.undrew); have hz1 : B ≤ w1.heap.size := Nat.le_trans hzA.out g1.grown.size; have H2 := hid (HI2.out w1 B _ L1 o1 hz1 hq2); obtain ⟨s1, c1, rfl⟩ := own_slice o1; clear o1 g1 H1 rb1))
  all_goals
    go_wp2_with (first | (go_at_call 175; refine (HN _).out.mono ?_; rintro e w8 ⟨rfl, b8⟩; have O8 := hid (ownsRow_below O2.out (box_box _ b8 (.cells #[.int .i64 o, .int .i64 0] 49))); have hs8 := b8.size; have B8 := hid (box_box _ b8 (.cells #[.int .i64 o, .int .i64 0] 49)); clear b8) | (at_builtin; refine app_node rfl _ _ rfl B _ (L2) (o, 0) w8.heap.size rfl O8.out rfl (heap_alloc_new w8 _) (by omega) (by simp; omega) ?_; intro v9 w9 o9 g9; rw [List.length_append, List.length_singleton] at o9; obtain ⟨s9, c9, rfl⟩ := own_slice o9; have O9 := hid o9; have G9 := hid ((LG.front HBA.out G2.out).trans (LG.front B8.out g9)); clear o9 g9))
    go_ret
    exact ⟨_, rfl, by rw [List.length_append, List.length_singleton]; exact O9.out, G9.out⟩
set_option maxHeartbeats 4000000 in
theorem list_ite  (a1 : Tr) (I1 : ListC a1) (a2 : Tr) (I2 : ListC a2) (a3 : Tr) (I3 : ListC a3) : ListC (Tr.te (11, 0) a1 a2 a3) := by
  intro W B v L ho hB hn
  obtain ⟨sa, ca, rfl⟩ := own_slice ho
  obtain ⟨k1, u1, e1⟩ := tv_form a1
  obtain ⟨k2, u2, e2⟩ := tv_form a2
  obtain ⟨k3, u3, e3⟩ := tv_form a3
  have et : tv (Tr.te (11, 0) a1 a2 a3) = .iface 126 (.agg #[.iface k1 u1, .iface k2 u2, .iface k3 u3]) := by (first | rw [tv_un, e1, e2, e3] | rw [tv_bi, e1, e2, e3] | rw [tv_te, e1, e2, e3] | rw [tv_lf, e1, e2, e3])
  rw [et]
  have m1 := fun x W => ta120_miss 126 (by decide) (.agg #[.iface k1 u1, .iface k2 u2, .iface k3 u3]) x W
  have m2 := fun x W => ta122_miss 126 (by decide) (.agg #[.iface k1 u1, .iface k2 u2, .iface k3 u3]) x W
  have m3 := fun x W => ta124_miss 126 (by decide) (.agg #[.iface k1 u1, .iface k2 u2, .iface k3 u3]) x W
  have m4 := fun x W => ta126_hit (.agg #[.iface k1 u1, .iface k2 u2, .iface k3 u3]) x W
  have me := fun v W => meth126 v W
  have HN := fun W => hid (node_ite k1 k2 k3 u1 u2 u3 W)
  obtain ⟨L1, hL1⟩ : ∃ L1, L1 = L ++ a1.post := ⟨_, rfl⟩
  obtain ⟨L2, hL2⟩ : ∃ L2, L2 = L1 ++ a2.post := ⟨_, rfl⟩
  obtain ⟨L3, hL3⟩ : ∃ L3, L3 = L2 ++ a3.post := ⟨_, rfl⟩
  have hp : L ++ (Tr.te (11, 0) a1 a2 a3).post = L3 ++ [(11, 0)] := by rw [hL3, hL2, hL1]; simp [Tr.post_lf, Tr.post_un, Tr.post_bi, Tr.post_te]
  have hlen : (Tr.te (11, 0) a1 a2 a3).post.length = a1.post.length + a2.post.length + a3.post.length + 1 := by simp [Tr.post_lf, Tr.post_un, Tr.post_bi, Tr.post_te]; omega
  have hll1 : L1.length = L.length + a1.post.length := by rw [hL1]; exact List.length_append
  have hll2 : L2.length = L1.length + a2.post.length := by rw [hL2]; exact List.length_append
  have hll3 : L3.length = L2.length + a3.post.length := by rw [hL3]; exact List.length_append
  rw [hlen] at hn
  rw [hp]
  have hb1 : L1.length + 1 ≤ 1099511627776 := by omega
  have hq1 : L.length + a1.post.length ≤ 1099511627776 := by omega
  have HL1 := hid hL1
  have HI1 := hid I1
  have hb2 : L2.length + 1 ≤ 1099511627776 := by omega
  have hq2 : L1.length + a2.post.length ≤ 1099511627776 := by omega
  have HL2 := hid hL2
  have HI2 := hid I2
  have hb3 : L3.length + 1 ≤ 1099511627776 := by omega
  have hq3 : L2.length + a3.post.length ≤ 1099511627776 := by omega
  have HL3 := hid hL3
  have HI3 := hid I3
  obtain ⟨WA, hWA⟩ : ∃ WA, WA = W.alloc (Obj.cells #[.iface k1 u1, .iface k2 u2, .iface k3 u3] 126) := ⟨_, rfl⟩
  have hbA : Below W.heap.size W WA := by rw [hWA]; exact below_box _ _
  have rA : WA.heap[W.heap.size]? = some (.cells #[.iface k1 u1, .iface k2 u2, .iface k3 u3] 126 (0, 0)) := by rw [hWA]; exact heap_alloc_new W _
  have c0 := fun j => cell_row rA j
  have NE := hid (own_ne ho (Nat.le_refl W.heap.size))
  have RB := hid (drew_row rA)
  have HBL := hid (Array.getElem?_eq_some_iff.1 (drew_row rA)).1
  have H1 := hid (I1 WA.drew B _ L (own_drew (ownsRow_below ho hbA)) (by have := hbA.size; exact Nat.le_trans hB this) hq1)
  have HWA := hid hWA
  have HBA := hid hbA
  have hzA : Hid (B ≤ WA.drew.heap.size) := Nat.le_trans hB hbA.size
  simp only [e1, e2, e3, ListC] at H1 HI2 HI3
  clear hWA hbA rA ho hlen et hp hn e1 I1 hL1 hll1 e2 I2 hL2 hll2 e3 I3 hL3 hll3 HI1
  go_enter Tryz.func30, Tryz.ntmps30
  go_wp2_with (rw [← HWA.out])
  go_region_held3 (fun W' => W'.cell? ⟨W.heap.size, 0, none⟩ = some (.iface k1 u1) ∧ W'.cell? ⟨W.heap.size, 1, none⟩ = some (.iface k2 u2) ∧ W'.cell? ⟨W.heap.size, 2, none⟩ = some (.iface k3 u3)) (go_keep) (first | (have qq := H3; clear qq; go_at_call 30; refine H3.out.mono ?_; rintro e w3 ⟨v3, rfl, o3, g3⟩; rw [← HL3.out] at o3; have NE3 := hid (g3.ne NE2.out HBL2.out); have rb3 := g3.row NE2.out RB2.out; have HBL3 := hid (Array.getElem?_eq_some_iff.1 rb3).1; have cb3 := fun j => cell_row rb3 j; have RB3 := hid rb3; have O3 := hid o3; have G3 := hid (G2.out.trans g3); have hz3 : B ≤ w3.heap.size := Nat.le_trans hz2 g3.grown.size; obtain ⟨s3, c3, rfl⟩ := own_slice o3; clear o3 g3 H3 rb3) | (have qq := H2; clear qq; go_at_call 30; refine H2.out.mono ?_; rintro e w2 ⟨v2, rfl, o2, g2⟩; rw [← HL2.out] at o2; have NE2 := hid (g2.ne NE1.out HBL1.out); have rb2 := g2.row NE1.out RB1.out; have HBL2 := hid (Array.getElem?_eq_some_iff.1 rb2).1; have cb2 := fun j => cell_row rb2 j; have RB2 := hid rb2; have O2 := hid o2; have G2 := hid (G1.out.trans g2); have hz2 : B ≤ w2.heap.size := Nat.le_trans hz1 g2.grown.size; have H3 := hid (HI3.out w2 B _ L2 o2 hz2 hq3); obtain ⟨s2, c2, rfl⟩ := own_slice o2; clear o2 g2 H2 rb2) | (have qq := H1; clear qq; go_at_call 30; refine H1.out.mono ?_; rintro e w1 ⟨v1, rfl, o1, g1⟩; rw [← HL1.out] at o1; have NE1 := hid (g1.ne NE.out HBL.out); have rb1 := g1.row NE.out RB.out; have HBL1 := hid (Array.getElem?_eq_some_iff.1 rb1).1; have cb1 := fun j => cell_row rb1 j; have RB1 := hid rb1; have O1 := hid o1; have G1 := hid (g1.undrew); have hz1 : B ≤ w1.heap.size := Nat.le_trans hzA.out g1.grown.size; have H2 := hid (HI2.out w1 B _ L1 o1 hz1 hq2); obtain ⟨s1, c1, rfl⟩ := own_slice o1; clear o1 g1 H1 rb1))
  all_goals
    go_wp2_with (first | (go_at_call 176; refine (HN _).out.mono ?_; rintro e w8 ⟨rfl, b8⟩; have O8 := hid (ownsRow_below O3.out (box_box _ b8 (.cells #[.int .i64 11, .int .i64 0] 49))); have hs8 := b8.size; have B8 := hid (box_box _ b8 (.cells #[.int .i64 11, .int .i64 0] 49)); clear b8) | (at_builtin; refine app_node rfl _ _ rfl B _ (L3) (11, 0) w8.heap.size rfl O8.out rfl (heap_alloc_new w8 _) (by omega) (by simp; omega) ?_; intro v9 w9 o9 g9; rw [List.length_append, List.length_singleton] at o9; obtain ⟨s9, c9, rfl⟩ := own_slice o9; have O9 := hid o9; have G9 := hid ((LG.front HBA.out G3.out).trans (LG.front B8.out g9)); clear o9 g9))
    go_ret
    exact ⟨_, rfl, by rw [List.length_append, List.length_singleton]; exact O9.out, G9.out⟩

theorem list_all : ∀ t : Tr, t.good → ListC t := by
  intro t
  induction t using Tr.ind with
  | lf x =>
    intro h
    obtain ⟨o, n⟩ := x
    rcases h with ⟨h1, _⟩ | ⟨h1, _⟩
    · simp only at h1; subst h1; exact list_const n
    · simp only at h1; subst h1; exact list_var n
  | un x a ih =>
    intro h
    obtain ⟨o, n⟩ := x
    obtain ⟨hx, ha⟩ := h
    rcases hx with ⟨h1, h2⟩ | ⟨h1, _⟩
    · simp only at h1 h2; subst h1 h2; exact list_not a (ih ha)
    · have h45 : o = 4 ∨ o = 5 := by simpa [isQ] using h1
      exact list_quant o n (by omega) a (ih ha)
  | bi x a b iha ihb =>
    intro h
    obtain ⟨o, n⟩ := x
    obtain ⟨⟨_, h2⟩, ha, hb⟩ := h
    simp only at h2
    subst h2
    exact list_two o a (iha ha) b (ihb hb)
  | te x a b c iha ihb ihc =>
    intro h
    obtain ⟨o, n⟩ := x
    obtain ⟨⟨h1, h2⟩, ha, hb, hc⟩ := h
    simp only at h1 h2
    subst h1 h2
    exact list_ite a (iha ha) b (ihb hb) c (ihc hc)

end Go.Proofs.YtdkboifpdodonabGreatDoor
/-
  How long a list is read: plain mathematics.
-/
namespace Go.Proofs.YtdkboifpdodonabGreatDoor.Doc
open PureCnf PureForm
set_option maxRecDepth 100000

theorem settleOps_len (op : Nat) (st : List Wt) : ∀ out, (settleOps op st out).1.length + (settleOps op st out).2.length = st.length + out.length := by
  induction st with
  | nil => intro out; simp [settleOps]
  | cons w t ih =>
    intro out
    rw [settleOps]
    split
    · rw [ih]; simp; omega
    · rfl
theorem settleIn_len (st : List Wt) : ∀ out, (settleIn st out).1.length + (settleIn st out).2.length = st.length + out.length := by
  induction st with
  | nil => intro out; simp [settleIn]
  | cons w t ih =>
    intro out
    rw [settleIn]
    split
    · rfl
    · rw [ih]; simp; omega
/-- which states may follow. -/
def Next (p : PS) (t : PureForm.Tok) (p' : PS) : Prop := ∀ C : Prop, ((p' = { p with out := p.out ++ [((if t.kind = 3 then 2 else 1 : Int), (t.n : Int))], made := p.made + 1, want := 1 }) → (p.made < 65536) → C) → ((p' = { p with quant := t.n, want := 3 }) → (t.kind = 5) → C) → (∀ (w : Wt), ∀ (d wn : Nat), (p' = { p with st := w :: p.st, made := p.made + d, want := wn }) → (¬ 64 ≤ opnOf p.st) → (d = 0 ∨ (d = 1 ∧ p.made < 65536)) → (1 ≤ w.kind ∧ w.kind ≤ 4) → (wn ≤ 4) → (w.op ≤ 5) → C) → (∀ (wn : Nat), (p' = { p with want := wn }) → (wn ≤ 4) → C) → ((p' = { p with st := ⟨5, t.n, 0⟩ :: (settleOps t.n p.st p.out).1, out := (settleOps t.n p.st p.out).2, made := p.made + 1, want := 0 }) → (p.made < 65536) → (t.kind = 7) → C) → (∀ (x : Wt), ∀ (s : List Wt), ∀ (o : List Nd), (settleIn p.st p.out = (x :: s, o)) → ∀ (o' : List Nd), (p' = { p with st := s, out := o' }) → (o'.length ≤ o.length + 1) → C) → (∀ (x : Wt), ∀ (s : List Wt), ∀ (o : List Nd), (settleIn p.st p.out = (x :: s, o)) → (p' = { p with st := { x with n := x.n + 1 } :: s, out := o, want := 0 }) → C) → C
theorem Next.node {p : PS} {t : PureForm.Tok} {p' : PS} (e : p' = { p with out := p.out ++ [((if t.kind = 3 then 2 else 1 : Int), (t.n : Int))], made := p.made + 1, want := 1 }) (h : p.made < 65536) : Next p t p' := fun _ k _ _ _ _ _ _ => k e h
theorem Next.quant {p : PS} {t : PureForm.Tok} {p' : PS} (e : p' = { p with quant := t.n, want := 3 }) (h : t.kind = 5) : Next p t p' := fun _ _ k _ _ _ _ _ => k e h
theorem Next.opens {p : PS} {t : PureForm.Tok} {p' : PS} (w : Wt) (d wn : Nat) (e : p' = { p with st := w :: p.st, made := p.made + d, want := wn }) (h1 : ¬ 64 ≤ opnOf p.st) (h2 : d = 0 ∨ (d = 1 ∧ p.made < 65536)) (h3 : 1 ≤ w.kind ∧ w.kind ≤ 4) (h4 : wn ≤ 4) (h5 : w.op ≤ 5) : Next p t p' := fun _ _ _ k _ _ _ _ => k w d wn e h1 h2 h3 h4 h5
theorem Next.want {p : PS} {t : PureForm.Tok} {p' : PS} (wn : Nat) (e : p' = { p with want := wn }) (h : wn ≤ 4) : Next p t p' := fun _ _ _ _ k _ _ _ => k wn e h
theorem Next.oper {p : PS} {t : PureForm.Tok} {p' : PS} (e : p' = { p with st := ⟨5, t.n, 0⟩ :: (settleOps t.n p.st p.out).1, out := (settleOps t.n p.st p.out).2, made := p.made + 1, want := 0 }) (h : p.made < 65536) (h7 : t.kind = 7) : Next p t p' := fun _ _ _ _ _ k _ _ => k e h h7
theorem Next.close {p : PS} {t : PureForm.Tok} {p' : PS} (x : Wt) (s : List Wt) (o : List Nd) (h : settleIn p.st p.out = (x :: s, o)) (o' : List Nd) (e : p' = { p with st := s, out := o' }) (h2 : o'.length ≤ o.length + 1) : Next p t p' := fun _ _ _ _ _ _ k _ => k x s o h o' e h2
theorem Next.comma {p : PS} {t : PureForm.Tok} {p' : PS} (x : Wt) (s : List Wt) (o : List Nd) (h : settleIn p.st p.out = (x :: s, o)) (e : p' = { p with st := { x with n := x.n + 1 } :: s, out := o, want := 0 }) : Next p t p' := fun _ _ _ _ _ _ _ k => k x s o h e
theorem Next.cas {p : PS} {t : PureForm.Tok} {p' : PS} {motive : Next p t p' → Prop} (node : ∀ (e : p' = { p with out := p.out ++ [((if t.kind = 3 then 2 else 1 : Int), (t.n : Int))], made := p.made + 1, want := 1 }) (h : p.made < 65536), motive (Next.node e h)) (quant : ∀ (e : p' = { p with quant := t.n, want := 3 }) (h : t.kind = 5), motive (Next.quant e h)) (opens : ∀ (w : Wt) (d wn : Nat) (e : p' = { p with st := w :: p.st, made := p.made + d, want := wn }) (h1 : ¬ 64 ≤ opnOf p.st) (h2 : d = 0 ∨ (d = 1 ∧ p.made < 65536)) (h3 : 1 ≤ w.kind ∧ w.kind ≤ 4) (h4 : wn ≤ 4) (h5 : w.op ≤ 5), motive (Next.opens w d wn e h1 h2 h3 h4 h5)) (want : ∀ (wn : Nat) (e : p' = { p with want := wn }) (h : wn ≤ 4), motive (Next.want wn e h)) (oper : ∀ (e : p' = { p with st := ⟨5, t.n, 0⟩ :: (settleOps t.n p.st p.out).1, out := (settleOps t.n p.st p.out).2, made := p.made + 1, want := 0 }) (h : p.made < 65536) (h7 : t.kind = 7), motive (Next.oper e h h7)) (close : ∀ (x : Wt) (s : List Wt) (o : List Nd) (h : settleIn p.st p.out = (x :: s, o)) (o' : List Nd) (e : p' = { p with st := s, out := o' }) (h2 : o'.length ≤ o.length + 1), motive (Next.close x s o h o' e h2)) (comma : ∀ (x : Wt) (s : List Wt) (o : List Nd) (h : settleIn p.st p.out = (x :: s, o)) (e : p' = { p with st := { x with n := x.n + 1 } :: s, out := o, want := 0 }), motive (Next.comma x s o h e)) (x : Next p t p') : motive x :=
  x (motive x) (fun e h => node e h) (fun e h => quant e h) (fun w d wn e h1 h2 h3 h4 h5 => opens w d wn e h1 h2 h3 h4 h5) (fun wn e h => want wn e h) (fun e h h7 => oper e h h7) (fun x s o h o' e h2 => close x s o h o' e h2) (fun x s o h e => comma x s o h e)
theorem opensP_next {p p' : PS} {t : PureForm.Tok} {w : Wt} {d wn : Nat} (hw : 1 ≤ w.kind ∧ w.kind ≤ 4) (hn : wn ≤ 4) (hop : w.op ≤ 5) (hd : d = 0 ∨ d = 1) (h : opensP p w d wn = .ok (.inl p')) : Next p t p' := by
  unfold opensP at h
  split at h
  · cases h
  · next h1 =>
    split at h
    · cases h
    · next h2 =>
      simp at h
      exact .opens w d wn h.symm h1 (by omega) hw hn hop
theorem stepP_next {p p' : PS} {t : PureForm.Tok} (hq : p.quant ≤ 5) (h : stepP p t = .ok (.inl p')) : Next p t p' := by
  unfold stepP at h
  split at h
  · cases h
  · split at h
    · split at h
      · split at h
        · cases h
        · next h1 => simp at h; exact .node h.symm (by omega)
      · split at h
        · next h5 => simp at h; exact .quant h.symm h5
        · split at h
          · exact opensP_next (by simp) (by omega) (by simp) (.inl rfl) h
          · split at h
            · exact opensP_next (by simp) (by omega) (by simp) (.inr rfl) h
            · split at h
              · exact opensP_next (by simp) (by omega) (by simp) (.inr rfl) h
              · cases h
    · split at h
      · split at h
        · simp at h; exact .want 0 h.symm (by omega)
        · cases h
      · split at h
        · split at h
          · exact opensP_next (by simp) (by omega) (by simpa using hq) (.inr rfl) h
          · cases h
        · split at h
          · split at h
            · simp at h; exact .want 3 h.symm (by omega)
            · split at h
              · simp at h; exact .want 0 h.symm (by omega)
              · cases h
          · split at h
            · next h7 =>
              split at h
              · cases h
              · simp at h; exact .oper h.symm (by omega) h7
            · split at h
              · unfold closesP at h
                split at h
                · next x s o hs =>
                  split at h
                  · simp at h; exact .close x s o hs o h.symm (by omega)
                  · split at h
                    · simp at h; exact .close x s o hs (o ++ [nodeOf x]) h.symm (by simp)
                    · cases h
                · cases h
              · split at h
                · unfold commaP at h
                  split at h
                  · next x s o hs =>
                    split at h
                    · simp at h; exact .comma x s o hs h.symm
                    · cases h
                  · cases h
                · split at h
                  · unfold endsP at h
                    split at h <;> simp at h
                  · cases h
theorem stepP_len {p p' : PS} {t : PureForm.Tok} (hq : p.quant ≤ 5) (h : stepP p t = .ok (.inl p')) : p'.st.length + p'.out.length ≤ p.st.length + p.out.length + 1 := by
  cases stepP_next hq h using Next.cas with
  | node e _ => subst e; simp; omega
  | quant e _ => subst e; simp
  | opens w d wn e _ _ _ _ _ => subst e; simp; omega
  | want wn e _ => subst e; simp
  | oper e _ _ => subst e; have := settleOps_len t.n p.st p.out; simp; omega
  | close x s o hs o' e h2 =>
    subst e
    have := settleIn_len p.st p.out
    rw [hs] at this
    simp at this ⊢; omega
  | comma x s o hs e =>
    subst e
    have := settleIn_len p.st p.out
    rw [hs] at this
    simp at this ⊢; omega
theorem stepP_quant {p p' : PS} {t : PureForm.Tok} (hq : p.quant ≤ 5) (ht : t.kind = 5 → t.n ≤ 5) (h : stepP p t = .ok (.inl p')) : p'.quant ≤ 5 := by
  cases stepP_next hq h using Next.cas with
  | node e _ => subst e; exact hq
  | quant e h5 => subst e; exact ht h5
  | opens w d wn e _ _ _ _ _ => subst e; exact hq
  | want wn e _ => subst e; exact hq
  | oper e _ _ => subst e; exact hq
  | close x s o hs o' e h2 => subst e; exact hq
  | comma x s o hs e => subst e; exact hq
theorem stepP_done {p : PS} {t : PureForm.Tok} {o : List Nd} (h : stepP p t = .ok (.inr o)) : o.length ≤ p.st.length + p.out.length := by
  have key : ∀ {w : Wt} {d wn : Nat}, opensP p w d wn ≠ .ok (.inr o) := by
    intro w d wn e
    unfold opensP at e
    split at e
    · cases e
    · split at e
      · cases e
      · simp at e
  unfold stepP at h
  split at h
  · cases h
  · split at h
    · split at h
      · split at h
        · cases h
        · simp at h
      · split at h
        · simp at h
        · split at h
          · exact absurd h key
          · split at h
            · exact absurd h key
            · split at h
              · exact absurd h key
              · cases h
    · split at h
      · split at h
        · simp at h
        · cases h
      · split at h
        · split at h
          · exact absurd h key
          · cases h
        · split at h
          · split at h
            · simp at h
            · split at h
              · simp at h
              · cases h
          · split at h
            · split at h
              · cases h
              · simp at h
            · split at h
              · unfold closesP at h
                split at h
                · split at h
                  · simp at h
                  · split at h
                    · simp at h
                    · cases h
                · cases h
              · split at h
                · unfold commaP at h
                  split at h
                  · split at h
                    · simp at h
                    · cases h
                  · cases h
                · split at h
                  · unfold endsP at h
                    split at h
                    · cases h
                    · next o' hs =>
                      simp at h
                      subst h
                      have := settleIn_len p.st p.out
                      rw [hs] at this
                      simp at this
                      omega
                  · cases h
theorem runP_len : ∀ (ts : List PureForm.Tok) (p : PS) (o : List Nd), p.quant ≤ 5 → (∀ t ∈ ts, t.kind = 5 → t.n ≤ 5) → runP p ts = .ok o → o.length ≤ p.st.length + p.out.length + ts.length := by
  intro ts
  induction ts with
  | nil => intro p o _ _ h; simp [runP] at h
  | cons t r ih =>
    intro p o hq ht h
    rw [runP] at h
    split at h
    · cases h
    · next p' h1 =>
      have h2 := stepP_len hq h1
      have h3 := ih p' o (stepP_quant hq (ht t (List.mem_cons_self ..)) h1) (fun t' h' => ht t' (List.mem_cons_of_mem _ h')) h
      simp only [List.length_cons]
      omega
    · next o' h1 =>
      cases h
      have := stepP_done h1
      omega
theorem toks_len (l : List UInt8) : ∀ (d i : Nat), l.length - i = d → (toksFrom l i).length ≤ d + 1 ∧ ∀ t ∈ toksFrom l i, t.kind = 5 → t.n ≤ 5 := by
  intro d
  induction d using Nat.strongRecOn with
  | _ d ih =>
    intro i hd
    have hq := (next_ok l i).quant
    rw [toksFrom_eq]
    split
    · next h =>
      have := ih (l.length - (nextT l i).end_) (by omega) _ rfl
      refine ⟨by simp only [List.length_cons]; omega, fun t ht => ?_⟩
      rcases List.mem_cons.1 ht with rfl | h'
      · exact hq
      · exact this.2 t h'
    · exact ⟨by simp, fun t ht => by simp at ht; subst ht; exact hq⟩
theorem parseF_len {l : List UInt8} {o : List Nd} (h : parseF l = .ok o) : o.length ≤ 1048577 := by
  unfold parseF at h
  split at h
  · cases h
  · next hl =>
    split at h
    · cases h
    · next o' hr =>
      cases h
      obtain ⟨h1, h2⟩ := toks_len l _ 0 rfl
      have := runP_len _ _ _ (by simp) h2 hr
      simp at this
      omega
end Go.Proofs.YtdkboifpdodonabGreatDoor.Doc
/-
  The landed program's Parse.
-/
namespace Go.Proofs.YtdkboifpdodonabGreatDoor
open Go.RowKit Go.Deep PureCnf PureForm PureRd
set_option maxRecDepth 100000

/-- a fault, as a value. -/
def faultP (l : List UInt8) (f : Nat × Option Nat) : Value := match f.2 with
  | none => .agg #[.int .i64 (f.1 : Int), .int .i64 0, .int .i64 0]
  | some p => .agg #[.int .i64 (f.1 : Int), .int .i64 ((spotN (l.take p)).1 : Int), .int .i64 ((spotN (l.take p)).2 : Int)]
/-- what reading a formula answers. -/
def ParsedP (l : List UInt8) (base : Nat) (e : Ending) (w' : World) : Prop := match parseF l with
  | .error f => e = .returned (.tuple #[.slice none 0 0, faultP l f])
  | .ok o => ∃ v, e = .returned (.tuple #[v, .agg #[.int .i64 0, .int .i64 0, .int .i64 0]]) ∧ w'.ownsRow base 49 2 v o.length (ndL o)
theorem ParsedP.err {l : List UInt8} {base : Nat} {e : Ending} {w' : World} {f : Nat × Option Nat} (h : parseF l = .error f) (he : e = .returned (.tuple #[.slice none 0 0, faultP l f])) : ParsedP l base e w' := by
  unfold ParsedP; rw [h]; exact he
theorem ParsedP.ok {l : List UInt8} {base : Nat} {e : Ending} {w' : World} {o : List Nd} {v : Value} (h : parseF l = .ok o) (he : e = .returned (.tuple #[v, .agg #[.int .i64 0, .int .i64 0, .int .i64 0]])) (ho : w'.ownsRow base 49 2 v o.length (ndL o)) : ParsedP l base e w' := by
  unfold ParsedP; rw [h]; exact ⟨v, he, ho⟩

set_option maxHeartbeats 1000000 in
theorem parse_big (s : ByteArray) (w : World) (hs : s.size ≤ 9223372036854775807) (hl : 1048576 < s.size) :
    Calls Tryz.prog 13 #[.string s] w fun e w' => ParsedP s.data.toList w.heap.size e w' ∧ Below w.heap.size w w' := by
  have hlen : s.data.toList.length = s.size := by simp
  have HP := hid (parseF_long (l := s.data.toList) (by omega))
  obtain ⟨WA, hWA⟩ : ∃ WA, WA = w.alloc (Obj.cells #[.int .i64 0, .int .i64 0, .int .i64 0] 31) := ⟨_, rfl⟩
  have hB : Below w.heap.size w WA := by rw [hWA]; exact below_box _ _
  have r0 : WA.heap[w.heap.size]? = some (.cells #[.int .i64 0, .int .i64 0, .int .i64 0] 31 (0, 0)) := by rw [hWA]; exact heap_alloc_new w _
  have c0 := fun j => cell_row r0 j
  have f0 := fun j => unfrozen_row r0 j
  have HB := hid hB
  have HWA := hid hWA
  have i1 : (1048576 : Int) < s.size := by omega
  clear hWA hB r0 hlen
  go_enter Tryz.func13, Tryz.ntmps13
  go_wp2_with (rw [← HWA.out])
  exact bodyPost_ret (v := .tuple #[.slice none 0 0, .agg #[.int .i64 5, .int .i64 0, .int .i64 0]]) (by simp [results, Tryz.results13, go_sem, c0]) rfl ⟨ParsedP.err HP.out rfl, below3 HB.out _ _ _⟩

theorem ownsRow_lower {W : World} {B B' e size n : Nat} {v : Value} {xs : List Value} (h : W.ownsRow B e size v n xs) (hb : B' ≤ B) : W.ownsRow B' e size v n xs := by
  refine ⟨h.1, ?_⟩
  rcases h.2 with h0 | ⟨g, cap, cur, hv, hg, rest⟩
  · exact .inl h0
  · exact .inr ⟨g, cap, cur, hv, by omega, rest⟩
theorem LG.below {W w' : World} {B : Nat} {v v' : Value} (h : LG W w' v v') (hB : B ≤ W.heap.size) (hv : ∀ k, v.ownBlock = some k → B ≤ k) : Below B W w' :=
  (Below.refl B W).grown h.grown hB hv
set_option maxHeartbeats 4000000 in
theorem parse_small (s : ByteArray) (w : World) (hs : s.size ≤ 1048576) (hT : Lib.Utf8Tabs 1 2 w) :
    Calls Tryz.prog 13 #[.string s] w fun e w' => ParsedP s.data.toList w.heap.size e w' ∧ Below w.heap.size w w' := by
  obtain ⟨WA, hWA⟩ : ∃ WA, WA = w.alloc (Obj.cells #[.int .i64 0, .int .i64 0, .int .i64 0] 31) := ⟨_, rfl⟩
  have hB : Below w.heap.size w WA := by rw [hWA]; exact below_box _ _
  have r0 : WA.heap[w.heap.size]? = some (.cells #[.int .i64 0, .int .i64 0, .int .i64 0] 31 (0, 0)) := by rw [hWA]; exact heap_alloc_new w _
  have HR := hid (read_any s WA hs (Utf8Tabs_below hT hB))
  have HB := hid hB
  have HR0 := hid r0
  have HWA := hid hWA
  have i1 : (s.size : Int) ≤ 1048576 := by omega
  clear hWA hB r0 hT
  go_enter Tryz.func13, Tryz.ntmps13
  go_wp2_with (rw [← HWA.out])
  refine HR.out.mono ?_
  rintro e w1 ⟨h, b1⟩
  have r1 := step_row HR0.out b1
  have hb1 := HB.out.trans (b1.mono HB.out.size)
  have hlt := (Array.getElem?_eq_some_iff.1 r1).1
  rcases h with ⟨f, hp, h0, rfl⟩ | ⟨t, hp, ht, rfl⟩
  · obtain ⟨WC, hWC⟩ : ∃ WC, WC = w1.alloc (Obj.cells #[.int .i64 f.1, .int .i64 ((spotN (s.data.toList.take f.2)).1 : Nat), .int .i64 ((spotN (s.data.toList.take f.2)).2 : Nat)] 31) := ⟨_, rfl⟩
    have hbC : Below w1.heap.size w1 WC := by rw [hWC]; exact below_box _ _
    have rC : WC.heap[w1.heap.size]? = some (.cells #[.int .i64 f.1, .int .i64 ((spotN (s.data.toList.take f.2)).1 : Nat), .int .i64 ((spotN (s.data.toList.take f.2)).2 : Nat)] 31 (0, 0)) := by rw [hWC]; exact heap_alloc_new w1 _
    have r2 := step_row r1 hbC
    have c2 := fun j => cell_row r2 j
    have f2 := fun j => unfrozen_row r2 j
    have cC := fun j => cell_row rC j
    have HWC := hid hWC
    have HPF := hid hp
    have HB2 := hid (hb1.trans (hbC.mono hb1.size))
    have hz : ((f.1 : Int) != 0) = true := by simp; exact h0
    have n1 : w.heap.size ≠ w1.heap.size := by omega
    unfold spV
    clear hWC rC r2 r1 b1 hb1 hbC hp h0 HR
    go_wp2_with (rw [← HWC.out])
    go_region_law (fail)
    all_goals
      go_wp2_with fail
      exact bodyPost_ret (v := .tuple #[.slice none 0 0, spV s.data.toList f]) (by simp [results, Tryz.results13, go_sem, c2, spV]) rfl ⟨ParsedP.err HPF.out rfl, below3 HB2.out.drew _ _ _⟩
  · obtain ⟨WC, hWC⟩ : ∃ WC, WC = w1.alloc (Obj.cells #[.int .i64 0, .int .i64 0, .int .i64 0] 31) := ⟨_, rfl⟩
    have hbC : Below w1.heap.size w1 WC := by rw [hWC]; exact below_box _ _
    have rC : WC.heap[w1.heap.size]? = some (.cells #[.int .i64 0, .int .i64 0, .int .i64 0] 31 (0, 0)) := by rw [hWC]; exact heap_alloc_new w1 _
    have r2 := step_row r1 hbC
    have cC := fun j => cell_row rC j
    have hpl := Doc.parseF_len hp
    have HPF := hid hp
    have HR2 := hid r2
    have hB2 := hb1.trans (hbC.mono hb1.size)
    have HB2 := hid hB2
    have hzs : w.heap.size < WC.heap.size := (Array.getElem?_eq_some_iff.1 r2).1
    have own0 : WC.ownsRow WC.heap.size 49 2 (.slice none 0 0) ([] : List Nd).length (ndL []) := ⟨rfl, .inl ⟨rfl, rfl⟩⟩
    have hL := list_all t ht WC WC.heap.size (.slice none 0 0) [] own0 (Nat.le_refl _) (by simp; omega)
    rw [List.nil_append] at hL
    obtain ⟨kt, ut, et⟩ := tv_form t
    rw [et] at hL ⊢
    have HL := hid hL
    clear rC r2 r1 b1 hb1 hbC hp HR hL own0 hB2 ht et
    subst hWC
    go_wp2_with fail
    refine HL.out.mono ?_
    rintro e w2 ⟨v2, rfl, o2, g2⟩
    have rr2 := g2.row (by simp [Value.ownBlock]) HR2.out
    have c3 := fun j => cell_row rr2 j
    have f3 := fun j => unfrozen_row rr2 j
    have HB3 := hid (HB2.out.trans (g2.below (Nat.le_of_lt hzs) (fun k hk => by simp [Value.ownBlock] at hk)))
    obtain ⟨s2, c2, rfl⟩ := own_slice o2
    have O2 := hid o2
    clear o2 g2 rr2
    go_wp2_with fail
    refine bodyPost_ret (v := .tuple #[.slice s2 t.post.length c2, .agg #[.int .i64 0, .int .i64 0, .int .i64 0]]) (by simp [results, Tryz.results13, go_sem, c3]) rfl ⟨ParsedP.ok HPF.out rfl ?_, below3 HB3.out _ _ _⟩
    exact ownsRow_lower (ownsRow_store (ownsRow_store (ownsRow_store O2.out hzs) hzs) hzs) (Nat.le_of_lt hzs)

theorem parse_landed (s : ByteArray) (w : World) (hs : s.size ≤ 9223372036854775807) (hT : Lib.Utf8Tabs 1 2 w) :
    Calls Tryz.prog 13 #[.string s] w fun e w' => ParsedP s.data.toList w.heap.size e w' ∧ Below w.heap.size w w' := by
  by_cases hl : s.size ≤ 1048576
  · exact parse_small s w hl hT
  · exact parse_big s w hs (by omega)

end Go.Proofs.YtdkboifpdodonabGreatDoor
/-
  FormulaBack: the law over contracts of the program's Parse and Print.
-/
namespace Go.Proofs.YtdkboifpdodonabGreatDoor.Doc
open Go.RowKit Go.Deep PureCnf PureForm
set_option maxRecDepth 100000

/-- what reading answers, in worlds that hold what it asks for. -/
structure ParseC (K : World → Prop) (g : Nat) : Prop where
  call : ∀ (s : ByteArray) (w : World), K w → s.size ≤ 9223372036854775807 → Calls Tryz.prog g #[.string s] w fun e w' => ParsedP s.data.toList w.heap.size e w' ∧ Below w.heap.size w w'
  keep : ∀ w w', K w → Below w.heap.size w w' → K w'

/-- what printing answers, in such worlds. -/
def PrintK (K : World → Prop) (g : Nat) : Prop := ∀ (f : List Nd) (sa : Option Addr) (ca : Nat) (w : World), K w → NodesAt w sa f → f.length ≤ 9223372036854775807 →
  Calls Tryz.prog g #[.slice sa f.length ca] w fun e w' => e = .returned (printV (printF f)) ∧ Below w.heap.size w w'

def wantL : List Nd := [(2, 0), (2, 1), (6, 0), (2, 2), (3, 0), (7, 0)]
def wantT : List UInt8 := [120, 48, 32, 38, 32, 120, 49, 32, 124, 32, 33, 120, 50]
def wantTr : Tr := .bi (7, 0) (.bi (6, 0) (.lf (2, 0)) (.lf (2, 1))) (.un (3, 0) (.lf (2, 2)))
theorem want_tree : treeOf wantL = some wantTr := by rfl
theorem want_text : wantTr.text = wantT := by
  simp [Tr.text, wantTr, Tr.its_lf, Tr.its_un, Tr.its_bi, Tr.its_te, sepI, wrapI, brk, firstB, secondB, two, isQ, bindsI, Tr.root_lf, Tr.root_un, Tr.root_bi, Tr.root_te, textOf, signI, varI, notI, dec_small, wantT]
theorem want_print : printF wantL = .ok wantT := by
  unfold printF
  rw [want_tree]
  simp only
  rw [want_text, if_pos ⟨by decide, by decide⟩, if_pos (by decide)]
theorem want_parse : parseF wantT = .ok wantL := parse_print want_print

theorem nodes_row {W : World} {g : Nat} {l : List Nd} {fz : Nat × Nat} (h : W.heap[g]? = some (.cells (nds l).toArray 49 fz)) : NodesAt W (some ⟨g, 0, none⟩) l := by
  refine ⟨fun k hk => ⟨g, 0, rfl, (Array.getElem?_eq_some_iff.1 h).1, ?_, ?_⟩⟩
  · have := nds_at l k 0 hk (by decide)
    rw [cell_row h]
    simpa [nd] using this
  · have := nds_at l k 1 hk (by decide)
    rw [cell_row h]
    simpa [nd] using this

/-- what reading a text that is right answers. -/
theorem parse_ok {K : World → Prop} {g : Nat} (hP : ParseC K g) {T : List UInt8} {o : List Nd} (h : parseF T = .ok o) (w : World) (hk : K w) (hl : T.length ≤ 1048576) :
    Calls Tryz.prog g #[str T] w fun e w' => (∃ sa ca, e = .returned (.tuple #[.slice sa o.length ca, .agg #[.int .i64 0, .int .i64 0, .int .i64 0]]) ∧ NodesAt w' sa o) ∧ Below w.heap.size w w' := by
  refine (hP.call ⟨T.toArray⟩ w hk (by show T.toArray.size ≤ _; simp; omega)).mono ?_
  rintro e w' ⟨hp, hb⟩
  unfold ParsedP at hp
  simp only at hp
  rw [h] at hp
  obtain ⟨v, he, ho⟩ := hp
  obtain ⟨sa, ca, rfl, hn⟩ := own_nodes ho
  exact ⟨⟨sa, ca, he, hn⟩, hb⟩

theorem print_okK {K : World → Prop} {g : Nat} (hR : PrintK K g) {f : List Nd} {T : List UInt8} (h : printF f = .ok T) (sa : Option Addr) (ca : Nat) (w : World) (hk : K w) (hn : NodesAt w sa f) (hl : f.length ≤ 9223372036854775807) :
    Calls Tryz.prog g #[.slice sa f.length ca] w fun e w' => e = .returned (.tuple #[str T, .int .i64 0]) ∧ Below w.heap.size w w' := by
  have := hR f sa ca w hk hn hl
  rw [h] at this
  exact this
set_option maxHeartbeats 1000000 in
set_option maxRecDepth 100000 in
theorem alive_any {K : World → Prop} (hP : ParseC K 13) (hR : PrintK K 11) (w : World) (hk : K w) : Calls Tryz.prog 9 #[] w fun e w' => e = .returned (.bool true) ∧ Below w.heap.size w w' := by
  have HP := hid (parse_ok hP want_parse w hk (by decide))
  have HR := hid (fun sa ca W hW hn => print_okK hR want_print sa ca W (hP.keep w W hk hW) hn (by decide))
  have HS := hid (fun sa sb ca cb W ha hb => same_true wantL sa sb ca cb W (by decide) ha hb)
  have HW : Hid (∀ (W : World) (o : Obj), NodesAt ((W.alloc o).alloc (Obj.cells #[.int .i64 2, .int .i64 0, .int .i64 2, .int .i64 1, .int .i64 6, .int .i64 0, .int .i64 2, .int .i64 2, .int .i64 3, .int .i64 0, .int .i64 7, .int .i64 0] 49)) (some ⟨W.heap.size + 1, 0, none⟩) wantL) := fun W o => by
    have := nodes_row (l := wantL) (heap_alloc_new (W.alloc o) (Obj.cells #[.int .i64 2, .int .i64 0, .int .i64 2, .int .i64 1, .int .i64 6, .int .i64 0, .int .i64 2, .int .i64 2, .int .i64 3, .int .i64 0, .int .i64 7, .int .i64 0] 49))
    rwa [show (W.alloc o).heap.size = W.heap.size + 1 by simp] at this
  have HBB : Hid (∀ (W : World) (o o' : Obj), Below W.heap.size W ((W.alloc o).alloc o')) := fun W o o' => ((Below.refl _ _).alloc (Nat.le_refl _) o).alloc (by simp) o'
  clear hP hR hk
  go_enter Tryz.func9, Tryz.ntmps9
  go_wp2_with (first
    | (have q := B2; clear q; go_at_call 11; refine (HR.out _ _ _ ((B1.out.trans ((HBB.out w1 _ _).mono B1.out.size)).trans (B2.out.mono (Nat.le_trans B1.out.size (by simp; omega)))) ((HW.out w1 _).below (B2.out.mono (by simp)))).mono ?_; rintro e w3 ⟨rfl, b3⟩; have B3 := hid b3; clear b3)
    | (have q := B1; clear q; go_at_call 14; refine (HS.out _ _ _ _ _ (N1.out.below (HBB.out w1 _ _)) (HW.out w1 _)).mono ?_; rintro e w2 ⟨rfl, b2⟩; have B2 := hid b2; clear b2)
    | (go_at_call 13; refine HP.out.mono ?_; rintro e w1 ⟨⟨sa, ca, rfl, n1⟩, b1⟩; have N1 := hid n1; have B1 := hid b1; clear n1 b1))
  go_ret
  exact ⟨rfl, (B1.out.trans ((HBB.out w1 _ _).mono B1.out.size)).trans ((B2.out.trans (B3.out.mono B2.out.size)).mono (Nat.le_trans B1.out.size (by simp; omega)))⟩


end Go.Proofs.YtdkboifpdodonabGreatDoor.Doc
/-
  nodes that came in.
-/
namespace Go.Proofs.YtdkboifpdodonabGreatDoor.Doc
open Go.ChangeShapes Go.WideShapes Go.ChangeAt Go.RowKit Go.Deep PureCnf PureForm
set_option maxRecDepth 100000

theorem cells3 : Tryz.prog.cellsOf 3 = 1 := by kernel_rfl
theorem cells54 : Tryz.prog.cellsOf 49 = 2 := by kernel_rfl
theorem bytes54 : Tryz.prog.bytesOf 49 = 16 := by kernel_rfl
theorem add_plainN (g o k : Nat) : (⟨g, o, none⟩ : Addr).add k = ⟨g, o + k, none⟩ := by
  unfold Addr.add
  split <;> simp_all

section
variable {H : Type} {enc : TypeId × Value → H} {W : World} {spare : Nat → Bool} {held : Bool}

set_option maxRecDepth 100000 in
theorem open_node {n : Nat} {a : Addr} {cs : List Value} {x : DataW H × List MemPlace} (h1 : W.cells? 0 a 2 = some cs) (h2 : DataW.trod enc Tryz.prog W 0 spare held n 49 cs = some x) :
    ∃ p : Nd, a.spot = none ∧ W.cell? a = some (.int .i64 p.1) ∧ W.cell? (a.add 1) = some (.int .i64 p.2) := by
  obtain ⟨xs, k, rfl, rfl, hl, hxs, hf⟩ := DataW.trod_struct Tryz.underlying49 h2
  have hm : (List.range 2).mapM (fun i => W.cell? (a.add i)) = some cs := by
    simpa [World.cells?] using h1
  have g : ∀ i, i < 2 → W.cell? (a.add i) = cs[i]? := fun i hi => mapM_some_get hm i i (by simp [hi])
  rw [cells54] at hl
  match cs, hl with
  | [v0, v1], _ =>
  have g0 := g 0 (by omega)
  have g1 := g 1 (by omega)
  simp at g0 g1
  have hsp := World.cell?_spot g0
  have f0 := hf 0 _ rfl
  have f1 := hf 1 _ rfl
  simp [cells3] at f0 f1
  have hx2 : xs.length = 2 := by simpa using hxs
  rw [List.getElem?_eq_getElem (by omega)] at f0 f1
  obtain ⟨n0, e0, _, _⟩ := DataW.trod_int Tryz.underlying3 f0
  obtain ⟨n1, e1, _, _⟩ := DataW.trod_int Tryz.underlying3 f1
  simp at e0 e1
  subst e0 e1
  exact ⟨(n0, n1), hsp, by simpa [Addr.add] using g0, g1⟩

set_option maxRecDepth 100000 in
/-- nodes that came in. -/
theorem open_nodes {v : Value} {d : DataW H} {ps : List MemPlace} {base : Nat} (hval : Value.okWide Tryz.prog W .any base 22 v) (h : DataW.Trod enc Tryz.prog W 0 spare held 22 v d ps) :
    ∃ (sa : Option Addr) (ca : Nat) (l : List Nd), v = .slice sa l.length ca ∧ NodesAt W sa l ∧ (sa = none → ca = 0) ∧
      ∀ {ts : List TypeId} {ds : List (DataW H)} {j : Nat}, (DataW.weightsEach Tryz.prog ts ds).all (· ≤ reachBytes) = true → ts[j]? = some 22 → ds[j]? = some d → l.length ≤ 8796093022206 := by
  obtain ⟨a0, len, cap, rfl⟩ := okWide_slice Tryz.underlying22 hval
  obtain ⟨fuel, hf⟩ := h
  rcases open_slice Tryz.underlying22 hf with ⟨hcs, hx⟩ | ⟨a, len', cap', m, n, D, Pl, hcs, _, hl, hm, hmm, hx, hall⟩
  · simp [Value.cells] at hcs
    obtain ⟨rfl, rfl, rfl⟩ := hcs
    exact ⟨none, 0, [], rfl, ⟨fun k hk => by simp at hk⟩, fun _ => rfl, fun _ _ _ => Nat.zero_le _⟩
  · simp [Value.cells] at hcs
    obtain ⟨rfl, rfl, rfl⟩ := hcs
    rw [cells54] at hx hall
    obtain ⟨rfl, -⟩ := Prod.mk.inj hx
    have hlm : len ≤ m := by rw [hmm]; split <;> omega
    have each : ∀ i, i < len → ∃ p : Nd, (a.add (i * 2)).spot = none ∧ W.cell? (a.add (i * 2)) = some (.int .i64 p.1) ∧ W.cell? ((a.add (i * 2)).add 1) = some (.int .i64 p.2) := fun i hi => by
      obtain ⟨cs', h1, h2⟩ := hall i (by omega)
      exact open_node h1 h2
    haveI : Inhabited Nd := ⟨(0, 0)⟩
    obtain ⟨f, hf⟩ := choose_lt each
    have hlen : ((List.range len).map f).length = len := by simp
    refine ⟨some a, cap, (List.range len).map f, by rw [hlen], ⟨fun k hk => ?_⟩, (fun e => by cases e), fun {ts ds j} hsz ht hd => ?_⟩
    · rw [hlen] at hk
      obtain ⟨hs0, _, _⟩ := hf 0 (by omega)
      obtain ⟨b, off, spot⟩ := a
      obtain rfl : spot = none := by simpa [Addr.add] using hs0
      obtain ⟨_, c0, c1⟩ := hf k hk
      rw [add_plainN] at c0
      rw [add_plainN, add_plainN] at c1
      refine ⟨b, off, rfl, World.block_lt_of_cell? W _ c0, ?_, ?_⟩
      · simpa using c0
      · simpa using c1
    · rw [hlen]
      have hr : reachBytes = 140737488351232 := by decide
      have hw : (((List.range len).map D).length + ((List.range (m - len)).map fun i => D (len + i)).length) * 16 ∈ (DataW.slice ((List.range len).map D) ((List.range (m - len)).map fun i => D (len + i))).weights Tryz.prog 22 := by
        simp [DataW.weights, Tryz.underlying22, bytes54]
      have := List.all_eq_true.1 hsz _ (DataW.weights_mem_each ht hd _ hw)
      have h3 : (((List.range len).map D).length + ((List.range (m - len)).map fun i => D (len + i)).length) * 16 ≤ reachBytes := by simpa using this
      simp only [List.length_map, List.length_range] at h3
      omega
end
end Go.Proofs.YtdkboifpdodonabGreatDoor.Doc
/-
  The rows of this seat: the tables that are laid.
-/

namespace Go.Proofs.YtdkboifpdodonabGreatDoor
open Go.ChangeShapes Go.WideShapes Go.ChangeAt Go.RowKit Go.Deep PureCnf PureForm

theorem own : ownKnob Tryz.prog.godebug = none := by kernel_rfl
theorem laidOut : laidOutB Tryz.prog = true := by kernel_rfl
/-- the tables that the calls read. -/
def Met (W : World) : Prop := Tab W ∧ Lib.Utf8Tabs 1 2 W
theorem parseK : Doc.ParseC Met 13 := ⟨fun s w hk hs => parse_landed s w hs hk.2, fun _ _ hk hb => ⟨hk.1.below hb, Utf8Tabs_below hk.2 hb⟩⟩
theorem printK : Doc.PrintK Met 11 := fun f sa ca w hk hn hl => print14 f sa ca w hk.1 hn hl
set_option maxRecDepth 100000 in
theorem first_is : (Rows.laid_unicode_utf8_first : DataW Unit) = Lib.firstData := by kernel_rfl
set_option maxRecDepth 100000 in
theorem accept_is : (Rows.laid_unicode_utf8_acceptRanges : DataW Unit) = Lib.acceptData := by kernel_rfl
set_option maxRecDepth 100000 in
theorem u8extra : U8Extra Tryz.prog Tryz.lays197_ren := ⟨by kernel_rfl, by kernel_rfl, by kernel_rfl, by kernel_rfl, by kernel_rfl, by kernel_rfl, by kernel_rfl⟩
set_option maxRecDepth 100000 in
theorem pow10_is : (Rows.laid_internal_strconv_uint64pow10 : DataW Unit) = Lib.tabData .u64 Lib.pow10Tab := by kernel_rfl
set_option maxRecDepth 100000 in
theorem met {W : World} (h : laidMet Tryz.prog [("math/bits.deBruijn32tab", Rows.laid_math_bits_deBruijn32tab), ("math/bits.deBruijn64tab", Rows.laid_math_bits_deBruijn64tab), ("internal/strconv.uint64pow10", Rows.laid_internal_strconv_uint64pow10), ("unicode/utf8.acceptRanges", Rows.laid_unicode_utf8_acceptRanges), ("unicode/utf8.first", Rows.laid_unicode_utf8_first)] W) : Met W := by
  obtain ⟨ps, hl, _⟩ := h
  have h3 := Lib.LaidVars_reads hl "unicode/utf8.first" Rows.laid_unicode_utf8_first (by simp)
  have h4 := Lib.LaidVars_reads hl "unicode/utf8.acceptRanges" Rows.laid_unicode_utf8_acceptRanges (by simp)
  have h5 := Lib.LaidVars_reads hl "internal/strconv.uint64pow10" Rows.laid_internal_strconv_uint64pow10 (by simp)
  rw [first_is] at h3
  rw [accept_is] at h4
  refine ⟨?_, utf8Tabs_of_reads (P := Tryz.prog) (ρ := Tryz.lays197_ren) { Tryz.lays197 with } u8extra h3 h4⟩
  obtain ⟨g', t', cs, fuel, p, hg', ht', hvar, hd⟩ := h5
  obtain rfl : 4 = g' := Option.some.inj ((show Tryz.prog.globalNamed "internal/strconv.uint64pow10" = some 4 by kernel_rfl).symm.trans hg')
  obtain rfl : 196 = t' := Option.some.inj ((show (Tryz.prog.globals[4]?).map (·.type) = some 196 by kernel_rfl).symm.trans ht')
  rw [pow10_is] at hd
  unfold Tab Lib.TabIs
  rw [hvar, ← Lib.cells_of_tab Tryz.underlying196 (by exact Tryz.underlying189) (by kernel_rfl) (by kernel_rfl) hd]

end Go.Proofs.YtdkboifpdodonabGreatDoor
/-
  What a formula says of an assignment: plain mathematics.
-/
namespace PureForm
open PureCnf Go.Lib

def upd (e : Int → Bool) (v : Int) (b : Bool) : Int → Bool := fun x => if x = v then b else e x
def Tr.says : Tr → (Int → Bool) → Bool := Tr.fold (fun x e => if x.1 = 1 then x.2 == 1 else e x.2)
  (fun x _ i e => if x.1 = 3 then !i e else if x.1 = 4 then (i (upd e x.2 false) || i (upd e x.2 true)) else (i (upd e x.2 false) && i (upd e x.2 true)))
  (fun x _ _ i j e => if x.1 = 6 then (i e && j e) else if x.1 = 7 then (i e || j e) else if x.1 = 8 then (i e != j e) else if x.1 = 9 then (!i e || j e) else (i e == j e))
  (fun _ _ _ _ i j k e => if i e = true then j e else k e)
theorem Tr.says_lf (x : Nd) (e : Int → Bool) : (Tr.lf x).says e = if x.1 = 1 then x.2 == 1 else e x.2 := rfl
theorem Tr.says_un (x : Nd) (a : Tr) (e : Int → Bool) : (Tr.un x a).says e = if x.1 = 3 then !a.says e else if x.1 = 4 then (a.says (upd e x.2 false) || a.says (upd e x.2 true)) else (a.says (upd e x.2 false) && a.says (upd e x.2 true)) := rfl
theorem Tr.says_bi (x : Nd) (a b : Tr) (e : Int → Bool) : (Tr.bi x a b).says e = if x.1 = 6 then (a.says e && b.says e) else if x.1 = 7 then (a.says e || b.says e) else if x.1 = 8 then (a.says e != b.says e) else if x.1 = 9 then (!a.says e || b.says e) else (a.says e == b.says e) := rfl
theorem Tr.says_te (x : Nd) (a b c : Tr) (e : Int → Bool) : (Tr.te x a b c).says e = if a.says e = true then b.says e else c.says e := rfl
/-- quantifiers within one another. -/
def Tr.within : Tr → Nat := Tr.fold (fun _ => 0) (fun x _ i => if isQ x.1 = true then i + 1 else i) (fun _ _ _ i j => max i j) (fun _ _ _ _ i j k => max (max i j) k)
theorem Tr.within_lf (x : Nd) : (Tr.lf x).within = 0 := rfl
theorem Tr.within_un (x : Nd) (a : Tr) : (Tr.un x a).within = if isQ x.1 = true then a.within + 1 else a.within := rfl
theorem Tr.within_bi (x : Nd) (a b : Tr) : (Tr.bi x a b).within = max a.within b.within := rfl
theorem Tr.within_te (x : Nd) (a b c : Tr) : (Tr.te x a b c).within = max (max a.within b.within) c.within := rfl
/-- an assignment by a list: what lies beyond it is false. -/
def bitsE (l : List Bool) : Int → Bool := fun v => decide (0 ≤ v) && l.getD v.toNat false
/-- P13.5: what it says; 134: no formula; 8: too many quantifiers within one another. -/
def evalF (f : List Nd) (l : List Bool) : Except Nat Bool := match treeOf f with
  | some t => if f.length ≤ 65536 ∧ t.need true ≤ 64 then (if 8 < t.within then .error 8 else .ok (t.says (bitsE l))) else .error 134
  | none => .error 134

theorem evalF_ok {f : List Nd} {l : List Bool} {b : Bool} (h : evalF f l = .ok b) : ∃ t, treeOf f = some t ∧ formedF f = true ∧ t.within ≤ 8 ∧ b = t.says (bitsE l) := by
  unfold evalF at h
  split at h
  · next t ht =>
    split at h
    · next h1 =>
      split at h
      · cases h
      · next h2 =>
        cases h
        exact ⟨t, ht, by unfold formedF; rw [ht]; exact decide_eq_true h1, by omega, rfl⟩
    · cases h
  · cases h
theorem evalF_of {f : List Nd} {l : List Bool} {t : Tr} (ht : treeOf f = some t) (hf : formedF f = true) (hw : t.within ≤ 8) : evalF f l = .ok (t.says (bitsE l)) := by
  unfold formedF at hf
  rw [ht] at hf
  unfold evalF
  rw [ht]
  simp only
  rw [if_pos (of_decide_eq_true hf), if_neg (by omega)]
theorem evalF_many {f : List Nd} {l : List Bool} {t : Tr} (ht : treeOf f = some t) (hf : formedF f = true) (hw : 8 < t.within) : evalF f l = .error 8 := by
  unfold formedF at hf
  rw [ht] at hf
  unfold evalF
  rw [ht]
  simp only
  rw [if_pos (of_decide_eq_true hf), if_pos hw]
theorem evalF_no {f : List Nd} {l : List Bool} (hf : formedF f = false) : evalF f l = .error 134 := by
  unfold formedF at hf
  unfold evalF
  split at hf
  · next t ht =>
    rw [ht]
    simp only
    rw [if_neg (of_decide_eq_false hf)]
  · next ht => rw [ht]

theorem tree_bi {f g : List Nd} {a b : Tr} {op : Int} (hf : treeOf f = some a) (hg : treeOf g = some b) (ho : two op = true) : treeOf (f ++ g ++ [(op, 0)]) = some (.bi (op, 0) a b) := by
  obtain ⟨ga, pa⟩ := treeOf_some hf
  obtain ⟨gb, pb⟩ := treeOf_some hg
  rw [← pa, ← pb]
  exact treeOf_post (t := .bi (op, 0) a b) ⟨⟨ho, rfl⟩, ga, gb⟩
theorem tree_un {f : List Nd} {a : Tr} {x : Nd} (hf : treeOf f = some a) (hx : (x.1 = 3 ∧ x.2 = 0) ∨ (isQ x.1 = true ∧ 0 ≤ x.2 ∧ x.2 < 65536)) : treeOf (f ++ [x]) = some (.un x a) := by
  obtain ⟨ga, pa⟩ := treeOf_some hf
  rw [← pa]
  exact treeOf_post (t := .un x a) ⟨hx, ga⟩

/-- a list with one truth turned: as an assignment. -/
theorem bitsE_set (l : List Bool) (v : Nat) (b : Bool) (m : List Bool) (hm : m.length = max l.length (v + 1)) (hs : ∀ k (hk : k < m.length), m[k] = if k = v then b else l.getD k false) : bitsE m = upd (bitsE l) (v : Int) b := by
  funext x
  unfold bitsE upd
  by_cases h0 : 0 ≤ x
  · obtain ⟨k, rfl⟩ : ∃ k : Nat, x = k := ⟨x.toNat, by omega⟩
    simp only [decide_eq_true h0, Bool.true_and, Int.toNat_natCast]
    by_cases hk : k < m.length
    · have := hs k hk
      rw [show m.getD k false = m[k] by simp [List.getD, List.getElem?_eq_getElem hk], this]
      by_cases hkv : k = v
      · subst hkv; simp
      · rw [if_neg hkv, if_neg (by omega)]
    · have hkv : k ≠ v := by omega
      rw [if_neg (by omega)]
      rw [show m.getD k false = false by simp [List.getD, List.getElem?_eq_none (show m.length ≤ k by omega)]]
      rw [show l.getD k false = false by simp [List.getD, List.getElem?_eq_none (show l.length ≤ k by omega)]]
  · rw [decide_eq_false h0, if_neg (by omega)]
    simp [h0]
end PureForm
