import Derived.Test.YtdkboifpdodonacGreatDoorZ14
set_option linter.unusedSimpArgs false
/-
 The landed program's list, kind by kind.
-/
namespace Go.Proofs.YtdkboifpdodonacGreatDoor
open Go.RowKit Go.Deep PureCnf PureForm PureRd
set_option maxRecDepth 100000

theorem meth139 (v : Value) (w : World) : Sem.run Tryz.prog (method 312 139 v "strata/formula.node") w = .ok (157, v) w := rfl
theorem meth141 (v : Value) (w : World) : Sem.run Tryz.prog (method 312 141 v "strata/formula.node") w = .ok (158, v) w := rfl
theorem meth90 (v : Value) (w : World) : Sem.run Tryz.prog (method 312 90 v "strata/formula.node") w = .ok (152, v) w := rfl
theorem meth92 (v : Value) (w : World) : Sem.run Tryz.prog (method 312 92 v "strata/formula.node") w = .ok (153, v) w := rfl
theorem meth94 (v : Value) (w : World) : Sem.run Tryz.prog (method 312 94 v "strata/formula.node") w = .ok (154, v) w := rfl
theorem meth96 (v : Value) (w : World) : Sem.run Tryz.prog (method 312 96 v "strata/formula.node") w = .ok (155, v) w := rfl
theorem own_slice {W : World} {B e size n : Nat} {v : Value} {xs : List Value} (h : W.ownsRow B e size v n xs) : ∃ sa c, v = .slice sa n c := by
 rcases h.2 with ⟨hv, h0⟩ | ⟨g, cap, cur, hv, _⟩
 ·exact ⟨none, 0, by rw [hv, h0]⟩
 ·exact ⟨_, _, hv⟩
theorem box_box (w : World) {w1 : World} (b : Below w.heap.size w w1) (o : Obj) : Below w.heap.size w (w1.alloc o) := b.alloc b.size _
theorem LG.row {W w' : World} {v v' : Value} {b : Nat} {o : Obj} (h : LG W w' v v') (hb : some b ≠ v.ownBlock) (hr : W.heap[b]? = some o) : w'.heap[b]? = some o :=
 (h.grown.block b (Array.getElem?_eq_some_iff.1 hr).1 hb).trans hr
theorem own_ne {W : World} {B e size n : Nat} {v : Value} {xs : List Value} (h : W.ownsRow B e size v n xs) {b : Nat} (hb : W.heap.size ≤ b) : some b ≠ v.ownBlock := fun e => by
 have := (h.lt b e.symm).2
 omega
theorem LG.ne {W w' : World} {v v' : Value} {b : Nat} (h : LG W w' v v') (hb : some b ≠ v.ownBlock) (hlt : b < W.heap.size) : some b ≠ v'.ownBlock := by
 rcases h.own with e | ⟨g, e, hg⟩
 ·rw [e]; exact hb
 ·rw [e]; intro x; injection x with x; omega

set_option maxHeartbeats 2000000 in
theorem list_const (n : Int) : ListC (.lf (1, n)) := by
 intro W B v L ho hB hn
 obtain ⟨sa, ca, rfl⟩ := own_slice ho
 show Calls Tryz.prog 15 #[_, .iface 139 (.agg #[.int .i64 n])] W _
 have m1 := fun x W => ta90_miss 139 (by decide) (.agg #[.int .i64 n]) x W
 have m2 := fun x W => ta92_miss 139 (by decide) (.agg #[.int .i64 n]) x W
 have m3 := fun x W => ta94_miss 139 (by decide) (.agg #[.int .i64 n]) x W
 have m4 := fun x W => ta96_miss 139 (by decide) (.agg #[.int .i64 n]) x W
 have me := fun v W => meth139 v W
 have HN := fun W => hid (node_const n W)
 have HO := hid ho
 have hlen : (Tr.lf (1, n)).post.length = 1 := rfl
 rw [hlen] at hn
 clear ho hlen
 go_enter Tryz.func15, Tryz.ntmps15
 go_wp2_with (first | (go_at_call 157; refine (HN _).out.mono ?_; rintro e w8 ⟨rfl, b8⟩; have O8 := hid (ownsRow_below HO.out (box_box _ b8 (.cells #[.int .i64 1, .int .i64 n] 44))); have hs8 := b8.size; have B8 := hid (box_box _ b8 (.cells #[.int .i64 1, .int .i64 n] 44)); clear b8) | (at_builtin; refine app_node rfl _ _ rfl B _ (L) (1, n) w8.heap.size rfl O8.out rfl (heap_alloc_new w8 _) (by omega) (by simp; omega) ?_; intro v9 w9 o9 g9; rw [List.length_append, List.length_singleton] at o9; obtain ⟨s9, c9, rfl⟩ := own_slice o9; have O9 := hid o9; have G9 := hid (LG.front B8.out g9); clear o9 g9))
 go_ret
 exact ⟨_, rfl, by rw [show (L ++ (Tr.lf (1, n)).post).length = L.length + 1 from List.length_append]; exact O9.out, G9.out⟩
set_option maxHeartbeats 2000000 in
theorem list_var (n : Int) : ListC (.lf (2, n)) := by
 intro W B v L ho hB hn
 obtain ⟨sa, ca, rfl⟩ := own_slice ho
 show Calls Tryz.prog 15 #[_, .iface 141 (.agg #[.int .i64 n])] W _
 have m1 := fun x W => ta90_miss 141 (by decide) (.agg #[.int .i64 n]) x W
 have m2 := fun x W => ta92_miss 141 (by decide) (.agg #[.int .i64 n]) x W
 have m3 := fun x W => ta94_miss 141 (by decide) (.agg #[.int .i64 n]) x W
 have m4 := fun x W => ta96_miss 141 (by decide) (.agg #[.int .i64 n]) x W
 have me := fun v W => meth141 v W
 have HN := fun W => hid (node_var n W)
 have HO := hid ho
 have hlen : (Tr.lf (2, n)).post.length = 1 := rfl
 rw [hlen] at hn
 clear ho hlen
 go_enter Tryz.func15, Tryz.ntmps15
 go_wp2_with (first | (go_at_call 158; refine (HN _).out.mono ?_; rintro e w8 ⟨rfl, b8⟩; have O8 := hid (ownsRow_below HO.out (box_box _ b8 (.cells #[.int .i64 2, .int .i64 n] 44))); have hs8 := b8.size; have B8 := hid (box_box _ b8 (.cells #[.int .i64 2, .int .i64 n] 44)); clear b8) | (at_builtin; refine app_node rfl _ _ rfl B _ (L) (2, n) w8.heap.size rfl O8.out rfl (heap_alloc_new w8 _) (by omega) (by simp; omega) ?_; intro v9 w9 o9 g9; rw [List.length_append, List.length_singleton] at o9; obtain ⟨s9, c9, rfl⟩ := own_slice o9; have O9 := hid o9; have G9 := hid (LG.front B8.out g9); clear o9 g9))
 go_ret
 exact ⟨_, rfl, by rw [show (L ++ (Tr.lf (2, n)).post).length = L.length + 1 from List.length_append]; exact O9.out, G9.out⟩
set_option maxHeartbeats 2000000 in
theorem list_not  (a : Tr) (I : ListC a) : ListC (Tr.un (3, 0) a) := by
 intro W B v L ho hB hn
 obtain ⟨sa, ca, rfl⟩ := own_slice ho
 obtain ⟨k, u, e⟩ := tv_form a
 have et : tv (Tr.un (3, 0) a) = .iface 90 (.agg #[.iface k u]) := by (first | rw [tv_un, if_pos rfl, e] | rw [tv_bi, if_pos rfl, e] | rw [tv_te, if_pos rfl, e] | rw [tv_lf, if_pos rfl, e])
 rw [et]
 have m1 := fun x W => ta90_hit (.agg #[.iface k u]) x W
 have me := fun v W => meth90 v W
 have HN := fun W => hid (node_not k u W)
 have hlen : (Tr.un (3, 0) a).post.length = a.post.length + 1 := by simp [Tr.post_lf, Tr.post_un, Tr.post_bi, Tr.post_te]
 have hll : (L ++ a.post).length = L.length + a.post.length := List.length_append
 have hp : L ++ (Tr.un (3, 0) a).post = (L ++ a.post) ++ [(3, 0)] := by simp [Tr.post_lf, Tr.post_un, Tr.post_bi, Tr.post_te]
 obtain ⟨L1, hL1⟩ : ∃ L1, L1 = L ++ a.post := ⟨_, rfl⟩
 rw [hlen] at hn
 rw [hp]
 obtain ⟨WA, hWA⟩ : ∃ WA, WA = W.alloc (Obj.cells #[.iface k u] 90) := ⟨_, rfl⟩
 have hbA : Below W.heap.size W WA := by rw [hWA]; exact below_box _ _
 have rA : WA.heap[W.heap.size]? = some (.cells #[.iface k u] 90 (0, 0)) := by rw [hWA]; exact heap_alloc_new W _
 have c0 := fun j => cell_row rA j
 have hI := I WA B _ L (ownsRow_below ho hbA) (by have := hbA.size; omega) (by omega)
 rw [e, ← hL1] at hI
 rw [← hL1] at hll ⊢
 have hbL : L1.length + 1 ≤ 1099511627776 := by omega
 have H1 := hid hI
 have HWA := hid hWA
 have HBA := hid hbA
 have hsA := hbA.size
 clear hI hWA hbA rA ho hlen e et I hp hL1 hll hn
 go_enter Tryz.func15, Tryz.ntmps15
 go_wp2_with (first | (rw [← HWA.out]) | (go_at_call 15; refine H1.out.mono ?_; rintro e w1 ⟨v1, rfl, o1, g1⟩; obtain ⟨s1, c1, rfl⟩ := own_slice o1; have O1 := hid o1; have G1 := hid g1; have hs1 := g1.grown.size; clear o1 g1 H1) | (go_at_call 152; refine (HN _).out.mono ?_; rintro e w8 ⟨rfl, b8⟩; have O8 := hid (ownsRow_below O1.out (box_box _ b8 (.cells #[.int .i64 3, .int .i64 0] 44))); have hs8 := b8.size; have B8 := hid (box_box _ b8 (.cells #[.int .i64 3, .int .i64 0] 44)); clear b8) | (at_builtin; refine app_node rfl _ _ rfl B _ (L1) (3, 0) w8.heap.size rfl O8.out rfl (heap_alloc_new w8 _) (by omega) (by simp; omega) ?_; intro v9 w9 o9 g9; rw [List.length_append, List.length_singleton] at o9; obtain ⟨s9, c9, rfl⟩ := own_slice o9; have O9 := hid o9; have G9 := hid ((LG.front HBA.out G1.out).trans (LG.front B8.out g9)); clear o9 g9))
 go_ret
 exact ⟨_, rfl, by rw [List.length_append, List.length_singleton]; exact O9.out, G9.out⟩
set_option maxHeartbeats 2000000 in
theorem list_quant (o n : Int) (h3 : o ≠ 3) (a : Tr) (I : ListC a) : ListC (Tr.un (o, n) a) := by
 intro W B v L ho hB hn
 obtain ⟨sa, ca, rfl⟩ := own_slice ho
 obtain ⟨k, u, e⟩ := tv_form a
 have et : tv (Tr.un (o, n) a) = .iface 92 (.agg #[.int .i64 o, .int .i64 n, .iface k u]) := by (first | rw [tv_un, if_neg h3, e] | rw [tv_bi, if_neg h3, e] | rw [tv_te, if_neg h3, e] | rw [tv_lf, if_neg h3, e])
 rw [et]
 have m1 := fun x W => ta90_miss 92 (by decide) (.agg #[.int .i64 o, .int .i64 n, .iface k u]) x W
 have m2 := fun x W => ta92_hit (.agg #[.int .i64 o, .int .i64 n, .iface k u]) x W
 have me := fun v W => meth92 v W
 have HN := fun W => hid (node_quant o n k u W)
 have hlen : (Tr.un (o, n) a).post.length = a.post.length + 1 := by simp [Tr.post_lf, Tr.post_un, Tr.post_bi, Tr.post_te]
 have hll : (L ++ a.post).length = L.length + a.post.length := List.length_append
 have hp : L ++ (Tr.un (o, n) a).post = (L ++ a.post) ++ [(o, n)] := by simp [Tr.post_lf, Tr.post_un, Tr.post_bi, Tr.post_te]
 obtain ⟨L1, hL1⟩ : ∃ L1, L1 = L ++ a.post := ⟨_, rfl⟩
 rw [hlen] at hn
 rw [hp]
 obtain ⟨WA, hWA⟩ : ∃ WA, WA = W.alloc (Obj.cells #[.int .i64 o, .int .i64 n, .iface k u] 92) := ⟨_, rfl⟩
 have hbA : Below W.heap.size W WA := by rw [hWA]; exact below_box _ _
 have rA : WA.heap[W.heap.size]? = some (.cells #[.int .i64 o, .int .i64 n, .iface k u] 92 (0, 0)) := by rw [hWA]; exact heap_alloc_new W _
 have c0 := fun j => cell_row rA j
 have hI := I WA B _ L (ownsRow_below ho hbA) (by have := hbA.size; omega) (by omega)
 rw [e, ← hL1] at hI
 rw [← hL1] at hll ⊢
 have hbL : L1.length + 1 ≤ 1099511627776 := by omega
 have H1 := hid hI
 have HWA := hid hWA
 have HBA := hid hbA
 have hsA := hbA.size
 clear hI hWA hbA rA ho hlen e et I hp hL1 hll hn
 go_enter Tryz.func15, Tryz.ntmps15
 go_wp2_with (first | (rw [← HWA.out]) | (go_at_call 15; refine H1.out.mono ?_; rintro e w1 ⟨v1, rfl, o1, g1⟩; obtain ⟨s1, c1, rfl⟩ := own_slice o1; have O1 := hid o1; have G1 := hid g1; have hs1 := g1.grown.size; clear o1 g1 H1) | (go_at_call 153; refine (HN _).out.mono ?_; rintro e w8 ⟨rfl, b8⟩; have O8 := hid (ownsRow_below O1.out (box_box _ b8 (.cells #[.int .i64 o, .int .i64 n] 44))); have hs8 := b8.size; have B8 := hid (box_box _ b8 (.cells #[.int .i64 o, .int .i64 n] 44)); clear b8) | (at_builtin; refine app_node rfl _ _ rfl B _ (L1) (o, n) w8.heap.size rfl O8.out rfl (heap_alloc_new w8 _) (by omega) (by simp; omega) ?_; intro v9 w9 o9 g9; rw [List.length_append, List.length_singleton] at o9; obtain ⟨s9, c9, rfl⟩ := own_slice o9; have O9 := hid o9; have G9 := hid ((LG.front HBA.out G1.out).trans (LG.front B8.out g9)); clear o9 g9))
 go_ret
 exact ⟨_, rfl, by rw [List.length_append, List.length_singleton]; exact O9.out, G9.out⟩

end Go.Proofs.YtdkboifpdodonacGreatDoor
/-
 The landed program's list: nodes of two and three operands; every tree.
-/
namespace Go.Proofs.YtdkboifpdodonacGreatDoor
open Go.RowKit Go.Deep PureCnf PureForm PureRd
set_option maxRecDepth 100000

theorem LG.undrew {W w' : World} {v v' : Value} (h : LG W.drew w' v v') : LG W w' v v' := ⟨⟨h.grown.os, h.grown.tape, h.grown.output, h.grown.size, h.grown.block⟩, h.own⟩
theorem own_drew {W : World} {B e size n : Nat} {v : Value} {xs : List Value} (h : W.ownsRow B e size v n xs) : W.drew.ownsRow B e size v n xs := h
set_option maxHeartbeats 4000000 in
theorem list_two (o : Int) (a1 : Tr) (I1 : ListC a1) (a2 : Tr) (I2 : ListC a2) : ListC (Tr.bi (o, 0) a1 a2) := by
 intro W B v L ho hB hn
 obtain ⟨sa, ca, rfl⟩ := own_slice ho
 obtain ⟨k1, u1, e1⟩ := tv_form a1
 obtain ⟨k2, u2, e2⟩ := tv_form a2
 have et : tv (Tr.bi (o, 0) a1 a2) = .iface 94 (.agg #[.int .i64 o, .iface k1 u1, .iface k2 u2]) := by (first | rw [tv_un, e1, e2] | rw [tv_bi, e1, e2] | rw [tv_te, e1, e2] | rw [tv_lf, e1, e2])
 rw [et]
 have m1 := fun x W => ta90_miss 94 (by decide) (.agg #[.int .i64 o, .iface k1 u1, .iface k2 u2]) x W
 have m2 := fun x W => ta92_miss 94 (by decide) (.agg #[.int .i64 o, .iface k1 u1, .iface k2 u2]) x W
 have m3 := fun x W => ta94_hit (.agg #[.int .i64 o, .iface k1 u1, .iface k2 u2]) x W
 have me := fun v W => meth94 v W
 have HN := fun W => hid (node_two o k1 k2 u1 u2 W)
 obtain ⟨L1, hL1⟩ : ∃ L1, L1 = L ++ a1.post := ⟨_, rfl⟩
 obtain ⟨L2, hL2⟩ : ∃ L2, L2 = L1 ++ a2.post := ⟨_, rfl⟩
 have hp : L ++ (Tr.bi (o, 0) a1 a2).post = L2 ++ [(o, 0)] := by rw [hL2, hL1]; simp [Tr.post_lf, Tr.post_un, Tr.post_bi, Tr.post_te]
 have hlen : (Tr.bi (o, 0) a1 a2).post.length = a1.post.length + a2.post.length + 1 := by simp [Tr.post_lf, Tr.post_un, Tr.post_bi, Tr.post_te]; omega
 have hll1 : L1.length = L.length + a1.post.length := by rw [hL1]; exact List.length_append
 have hll2 : L2.length = L1.length + a2.post.length := by rw [hL2]; exact List.length_append
 rw [hlen] at hn
 rw [hp]
 have hb1 : L1.length + 1 ≤ 1099511627776 := by omega
 have hq1 : L.length + a1.post.length ≤ 1099511627776 := by omega
 have HL1 := hid hL1
 have HI1 := hid I1
 have hb2 : L2.length + 1 ≤ 1099511627776 := by omega
 have hq2 : L1.length + a2.post.length ≤ 1099511627776 := by omega
 have HL2 := hid hL2
 have HI2 := hid I2
 obtain ⟨WA, hWA⟩ : ∃ WA, WA = W.alloc (Obj.cells #[.int .i64 o, .iface k1 u1, .iface k2 u2] 94) := ⟨_, rfl⟩
 have hbA : Below W.heap.size W WA := by rw [hWA]; exact below_box _ _
 have rA : WA.heap[W.heap.size]? = some (.cells #[.int .i64 o, .iface k1 u1, .iface k2 u2] 94 (0, 0)) := by rw [hWA]; exact heap_alloc_new W _
 have c0 := fun j => cell_row rA j
 have NE := hid (own_ne ho (Nat.le_refl W.heap.size))
 have RB := hid (drew_row rA)
 have HBL := hid (Array.getElem?_eq_some_iff.1 (drew_row rA)).1
 have H1 := hid (I1 WA.drew B _ L (own_drew (ownsRow_below ho hbA)) (by have := hbA.size; exact Nat.le_trans hB this) hq1)
 have HWA := hid hWA
 have HBA := hid hbA
 have hzA : Hid (B ≤ WA.drew.heap.size) := Nat.le_trans hB hbA.size
 simp only [e1, e2, ListC] at H1 HI2
 clear hWA hbA rA ho hlen et hp hn e1 I1 hL1 hll1 e2 I2 hL2 hll2 HI1
 go_enter Tryz.func15, Tryz.ntmps15
 go_wp2_with (rw [← HWA.out])
 go_region_held3 (fun W' => W'.cell? ⟨W.heap.size, 1, none⟩ = some (.iface k1 u1) ∧ W'.cell? ⟨W.heap.size, 2, none⟩ = some (.iface k2 u2)) (go_keep) (first | (have qq := H2; clear qq; go_at_call 15; refine H2.out.mono ?_; rintro e w2 ⟨v2, rfl, o2, g2⟩; rw [← HL2.out] at o2; have NE2 := hid (g2.ne NE1.out HBL1.out); have rb2 := g2.row NE1.out RB1.out; have HBL2 := hid (Array.getElem?_eq_some_iff.1 rb2).1; have cb2 := fun j => cell_row rb2 j; have RB2 := hid rb2; have O2 := hid o2; have G2 := hid (G1.out.trans g2); have hz2 : B ≤ w2.heap.size := Nat.le_trans hz1 g2.grown.size; obtain ⟨s2, c2, rfl⟩ := own_slice o2; clear o2 g2 H2 rb2) | (have qq := H1; clear qq; go_at_call 15; refine H1.out.mono ?_; rintro e w1 ⟨v1, rfl, o1, g1⟩; rw [← HL1.out] at o1; have NE1 := hid (g1.ne NE.out HBL.out); have rb1 := g1.row NE.out RB.out; have HBL1 := hid (Array.getElem?_eq_some_iff.1 rb1).1; have cb1 := fun j => cell_row rb1 j; have RB1 := hid rb1; have O1 := hid o1; have G1 := hid (g1.undrew); have hz1 : B ≤ w1.heap.size := Nat.le_trans hzA.out g1.grown.size; have H2 := hid (HI2.out w1 B _ L1 o1 hz1 hq2); obtain ⟨s1, c1, rfl⟩ := own_slice o1; clear o1 g1 H1 rb1))
 all_goals
  go_wp2_with (first | (go_at_call 154; refine (HN _).out.mono ?_; rintro e w8 ⟨rfl, b8⟩; have O8 := hid (ownsRow_below O2.out (box_box _ b8 (.cells #[.int .i64 o, .int .i64 0] 44))); have hs8 := b8.size; have B8 := hid (box_box _ b8 (.cells #[.int .i64 o, .int .i64 0] 44)); clear b8) | (at_builtin; refine app_node rfl _ _ rfl B _ (L2) (o, 0) w8.heap.size rfl O8.out rfl (heap_alloc_new w8 _) (by omega) (by simp; omega) ?_; intro v9 w9 o9 g9; rw [List.length_append, List.length_singleton] at o9; obtain ⟨s9, c9, rfl⟩ := own_slice o9; have O9 := hid o9; have G9 := hid ((LG.front HBA.out G2.out).trans (LG.front B8.out g9)); clear o9 g9))
  go_ret
  exact ⟨_, rfl, by rw [List.length_append, List.length_singleton]; exact O9.out, G9.out⟩
set_option maxHeartbeats 4000000 in
theorem list_ite  (a1 : Tr) (I1 : ListC a1) (a2 : Tr) (I2 : ListC a2) (a3 : Tr) (I3 : ListC a3) : ListC (Tr.te (11, 0) a1 a2 a3) := by
 intro W B v L ho hB hn
 obtain ⟨sa, ca, rfl⟩ := own_slice ho
 obtain ⟨k1, u1, e1⟩ := tv_form a1
 obtain ⟨k2, u2, e2⟩ := tv_form a2
 obtain ⟨k3, u3, e3⟩ := tv_form a3
 have et : tv (Tr.te (11, 0) a1 a2 a3) = .iface 96 (.agg #[.iface k1 u1, .iface k2 u2, .iface k3 u3]) := by (first | rw [tv_un, e1, e2, e3] | rw [tv_bi, e1, e2, e3] | rw [tv_te, e1, e2, e3] | rw [tv_lf, e1, e2, e3])
 rw [et]
 have m1 := fun x W => ta90_miss 96 (by decide) (.agg #[.iface k1 u1, .iface k2 u2, .iface k3 u3]) x W
 have m2 := fun x W => ta92_miss 96 (by decide) (.agg #[.iface k1 u1, .iface k2 u2, .iface k3 u3]) x W
 have m3 := fun x W => ta94_miss 96 (by decide) (.agg #[.iface k1 u1, .iface k2 u2, .iface k3 u3]) x W
 have m4 := fun x W => ta96_hit (.agg #[.iface k1 u1, .iface k2 u2, .iface k3 u3]) x W
 have me := fun v W => meth96 v W
 have HN := fun W => hid (node_ite k1 k2 k3 u1 u2 u3 W)
 obtain ⟨L1, hL1⟩ : ∃ L1, L1 = L ++ a1.post := ⟨_, rfl⟩
 obtain ⟨L2, hL2⟩ : ∃ L2, L2 = L1 ++ a2.post := ⟨_, rfl⟩
 obtain ⟨L3, hL3⟩ : ∃ L3, L3 = L2 ++ a3.post := ⟨_, rfl⟩
 have hp : L ++ (Tr.te (11, 0) a1 a2 a3).post = L3 ++ [(11, 0)] := by rw [hL3, hL2, hL1]; simp [Tr.post_lf, Tr.post_un, Tr.post_bi, Tr.post_te]
 have hlen : (Tr.te (11, 0) a1 a2 a3).post.length = a1.post.length + a2.post.length + a3.post.length + 1 := by simp [Tr.post_lf, Tr.post_un, Tr.post_bi, Tr.post_te]; omega
 have hll1 : L1.length = L.length + a1.post.length := by rw [hL1]; exact List.length_append
 have hll2 : L2.length = L1.length + a2.post.length := by rw [hL2]; exact List.length_append
 have hll3 : L3.length = L2.length + a3.post.length := by rw [hL3]; exact List.length_append
 rw [hlen] at hn
 rw [hp]
 have hb1 : L1.length + 1 ≤ 1099511627776 := by omega
 have hq1 : L.length + a1.post.length ≤ 1099511627776 := by omega
 have HL1 := hid hL1
 have HI1 := hid I1
 have hb2 : L2.length + 1 ≤ 1099511627776 := by omega
 have hq2 : L1.length + a2.post.length ≤ 1099511627776 := by omega
 have HL2 := hid hL2
 have HI2 := hid I2
 have hb3 : L3.length + 1 ≤ 1099511627776 := by omega
 have hq3 : L2.length + a3.post.length ≤ 1099511627776 := by omega
 have HL3 := hid hL3
 have HI3 := hid I3
 obtain ⟨WA, hWA⟩ : ∃ WA, WA = W.alloc (Obj.cells #[.iface k1 u1, .iface k2 u2, .iface k3 u3] 96) := ⟨_, rfl⟩
 have hbA : Below W.heap.size W WA := by rw [hWA]; exact below_box _ _
 have rA : WA.heap[W.heap.size]? = some (.cells #[.iface k1 u1, .iface k2 u2, .iface k3 u3] 96 (0, 0)) := by rw [hWA]; exact heap_alloc_new W _
 have c0 := fun j => cell_row rA j
 have NE := hid (own_ne ho (Nat.le_refl W.heap.size))
 have RB := hid (drew_row rA)
 have HBL := hid (Array.getElem?_eq_some_iff.1 (drew_row rA)).1
 have H1 := hid (I1 WA.drew B _ L (own_drew (ownsRow_below ho hbA)) (by have := hbA.size; exact Nat.le_trans hB this) hq1)
 have HWA := hid hWA
 have HBA := hid hbA
 have hzA : Hid (B ≤ WA.drew.heap.size) := Nat.le_trans hB hbA.size
 simp only [e1, e2, e3, ListC] at H1 HI2 HI3
 clear hWA hbA rA ho hlen et hp hn e1 I1 hL1 hll1 e2 I2 hL2 hll2 e3 I3 hL3 hll3 HI1
 go_enter Tryz.func15, Tryz.ntmps15
 go_wp2_with (rw [← HWA.out])
 go_region_held3 (fun W' => W'.cell? ⟨W.heap.size, 0, none⟩ = some (.iface k1 u1) ∧ W'.cell? ⟨W.heap.size, 1, none⟩ = some (.iface k2 u2) ∧ W'.cell? ⟨W.heap.size, 2, none⟩ = some (.iface k3 u3)) (go_keep) (first | (have qq := H3; clear qq; go_at_call 15; refine H3.out.mono ?_; rintro e w3 ⟨v3, rfl, o3, g3⟩; rw [← HL3.out] at o3; have NE3 := hid (g3.ne NE2.out HBL2.out); have rb3 := g3.row NE2.out RB2.out; have HBL3 := hid (Array.getElem?_eq_some_iff.1 rb3).1; have cb3 := fun j => cell_row rb3 j; have RB3 := hid rb3; have O3 := hid o3; have G3 := hid (G2.out.trans g3); have hz3 : B ≤ w3.heap.size := Nat.le_trans hz2 g3.grown.size; obtain ⟨s3, c3, rfl⟩ := own_slice o3; clear o3 g3 H3 rb3) | (have qq := H2; clear qq; go_at_call 15; refine H2.out.mono ?_; rintro e w2 ⟨v2, rfl, o2, g2⟩; rw [← HL2.out] at o2; have NE2 := hid (g2.ne NE1.out HBL1.out); have rb2 := g2.row NE1.out RB1.out; have HBL2 := hid (Array.getElem?_eq_some_iff.1 rb2).1; have cb2 := fun j => cell_row rb2 j; have RB2 := hid rb2; have O2 := hid o2; have G2 := hid (G1.out.trans g2); have hz2 : B ≤ w2.heap.size := Nat.le_trans hz1 g2.grown.size; have H3 := hid (HI3.out w2 B _ L2 o2 hz2 hq3); obtain ⟨s2, c2, rfl⟩ := own_slice o2; clear o2 g2 H2 rb2) | (have qq := H1; clear qq; go_at_call 15; refine H1.out.mono ?_; rintro e w1 ⟨v1, rfl, o1, g1⟩; rw [← HL1.out] at o1; have NE1 := hid (g1.ne NE.out HBL.out); have rb1 := g1.row NE.out RB.out; have HBL1 := hid (Array.getElem?_eq_some_iff.1 rb1).1; have cb1 := fun j => cell_row rb1 j; have RB1 := hid rb1; have O1 := hid o1; have G1 := hid (g1.undrew); have hz1 : B ≤ w1.heap.size := Nat.le_trans hzA.out g1.grown.size; have H2 := hid (HI2.out w1 B _ L1 o1 hz1 hq2); obtain ⟨s1, c1, rfl⟩ := own_slice o1; clear o1 g1 H1 rb1))
 all_goals
  go_wp2_with (first | (go_at_call 155; refine (HN _).out.mono ?_; rintro e w8 ⟨rfl, b8⟩; have O8 := hid (ownsRow_below O3.out (box_box _ b8 (.cells #[.int .i64 11, .int .i64 0] 44))); have hs8 := b8.size; have B8 := hid (box_box _ b8 (.cells #[.int .i64 11, .int .i64 0] 44)); clear b8) | (at_builtin; refine app_node rfl _ _ rfl B _ (L3) (11, 0) w8.heap.size rfl O8.out rfl (heap_alloc_new w8 _) (by omega) (by simp; omega) ?_; intro v9 w9 o9 g9; rw [List.length_append, List.length_singleton] at o9; obtain ⟨s9, c9, rfl⟩ := own_slice o9; have O9 := hid o9; have G9 := hid ((LG.front HBA.out G3.out).trans (LG.front B8.out g9)); clear o9 g9))
  go_ret
  exact ⟨_, rfl, by rw [List.length_append, List.length_singleton]; exact O9.out, G9.out⟩

theorem list_all : ∀ t : Tr, t.good → ListC t := by
 intro t
 induction t using Tr.ind with
 | lf x =>
  intro h
  obtain ⟨o, n⟩ := x
  rcases h with ⟨h1, _⟩ | ⟨h1, _⟩
  ·simp only at h1; subst h1; exact list_const n
  ·simp only at h1; subst h1; exact list_var n
 | un x a ih =>
  intro h
  obtain ⟨o, n⟩ := x
  obtain ⟨hx, ha⟩ := h
  rcases hx with ⟨h1, h2⟩ | ⟨h1, _⟩
  ·simp only at h1 h2; subst h1 h2; exact list_not a (ih ha)
  ·have h45 : o = 4 ∨ o = 5 := by simpa [isQ] using h1
   exact list_quant o n (by omega) a (ih ha)
 | bi x a b iha ihb =>
  intro h
  obtain ⟨o, n⟩ := x
  obtain ⟨⟨_, h2⟩, ha, hb⟩ := h
  simp only at h2
  subst h2
  exact list_two o a (iha ha) b (ihb hb)
 | te x a b c iha ihb ihc =>
  intro h
  obtain ⟨o, n⟩ := x
  obtain ⟨⟨h1, h2⟩, ha, hb, hc⟩ := h
  simp only at h1 h2
  subst h1 h2
  exact list_ite a (iha ha) b (ihb hb) c (ihc hc)

end Go.Proofs.YtdkboifpdodonacGreatDoor
/-
 How long a list is read: plain mathematics.
-/
namespace Go.Proofs.YtdkboifpdodonacGreatDoor.Doc
open PureCnf PureForm
set_option maxRecDepth 100000

theorem settleOps_len (op : Nat) (st : List Wt) : ∀ out, (settleOps op st out).1.length + (settleOps op st out).2.length = st.length + out.length := by
 induction st with
 | nil => intro out; simp [settleOps]
 | cons w t ih =>
  intro out
  rw [settleOps]
  split
  ·rw [ih]; simp; omega
  ·rfl
theorem settleIn_len (st : List Wt) : ∀ out, (settleIn st out).1.length + (settleIn st out).2.length = st.length + out.length := by
 induction st with
 | nil => intro out; simp [settleIn]
 | cons w t ih =>
  intro out
  rw [settleIn]
  split
  ·rfl
  ·rw [ih]; simp; omega
/-- which states may follow. -/
def Next (p : PS) (t : PureForm.Tok) (p' : PS) : Prop := ∀ C : Prop, ((p' = { p with out := p.out ++ [((if t.kind = 3 then 2 else 1 : Int), (t.n : Int))], made := p.made + 1, want := 1 }) → (p.made < 65536) → C) → ((p' = { p with quant := t.n, want := 3 }) → (t.kind = 5) → C) → (∀ (w : Wt), ∀ (d wn : Nat), (p' = { p with st := w :: p.st, made := p.made + d, want := wn }) → (¬ 64 ≤ opnOf p.st) → (d = 0 ∨ (d = 1 ∧ p.made < 65536)) → (1 ≤ w.kind ∧ w.kind ≤ 4) → (wn ≤ 4) → (w.op ≤ 5) → C) → (∀ (wn : Nat), (p' = { p with want := wn }) → (wn ≤ 4) → C) → ((p' = { p with st := ⟨5, t.n, 0⟩ :: (settleOps t.n p.st p.out).1, out := (settleOps t.n p.st p.out).2, made := p.made + 1, want := 0 }) → (p.made < 65536) → (t.kind = 7) → C) → (∀ (x : Wt), ∀ (s : List Wt), ∀ (o : List Nd), (settleIn p.st p.out = (x :: s, o)) → ∀ (o' : List Nd), (p' = { p with st := s, out := o' }) → (o'.length ≤ o.length + 1) → C) → (∀ (x : Wt), ∀ (s : List Wt), ∀ (o : List Nd), (settleIn p.st p.out = (x :: s, o)) → (p' = { p with st := { x with n := x.n + 1 } :: s, out := o, want := 0 }) → C) → C
theorem Next.node {p : PS} {t : PureForm.Tok} {p' : PS} (e : p' = { p with out := p.out ++ [((if t.kind = 3 then 2 else 1 : Int), (t.n : Int))], made := p.made + 1, want := 1 }) (h : p.made < 65536) : Next p t p' := fun _ k _ _ _ _ _ _ => k e h
theorem Next.quant {p : PS} {t : PureForm.Tok} {p' : PS} (e : p' = { p with quant := t.n, want := 3 }) (h : t.kind = 5) : Next p t p' := fun _ _ k _ _ _ _ _ => k e h
theorem Next.opens {p : PS} {t : PureForm.Tok} {p' : PS} (w : Wt) (d wn : Nat) (e : p' = { p with st := w :: p.st, made := p.made + d, want := wn }) (h1 : ¬ 64 ≤ opnOf p.st) (h2 : d = 0 ∨ (d = 1 ∧ p.made < 65536)) (h3 : 1 ≤ w.kind ∧ w.kind ≤ 4) (h4 : wn ≤ 4) (h5 : w.op ≤ 5) : Next p t p' := fun _ _ _ k _ _ _ _ => k w d wn e h1 h2 h3 h4 h5
theorem Next.want {p : PS} {t : PureForm.Tok} {p' : PS} (wn : Nat) (e : p' = { p with want := wn }) (h : wn ≤ 4) : Next p t p' := fun _ _ _ _ k _ _ _ => k wn e h
theorem Next.oper {p : PS} {t : PureForm.Tok} {p' : PS} (e : p' = { p with st := ⟨5, t.n, 0⟩ :: (settleOps t.n p.st p.out).1, out := (settleOps t.n p.st p.out).2, made := p.made + 1, want := 0 }) (h : p.made < 65536) (h7 : t.kind = 7) : Next p t p' := fun _ _ _ _ _ k _ _ => k e h h7
theorem Next.close {p : PS} {t : PureForm.Tok} {p' : PS} (x : Wt) (s : List Wt) (o : List Nd) (h : settleIn p.st p.out = (x :: s, o)) (o' : List Nd) (e : p' = { p with st := s, out := o' }) (h2 : o'.length ≤ o.length + 1) : Next p t p' := fun _ _ _ _ _ _ k _ => k x s o h o' e h2
theorem Next.comma {p : PS} {t : PureForm.Tok} {p' : PS} (x : Wt) (s : List Wt) (o : List Nd) (h : settleIn p.st p.out = (x :: s, o)) (e : p' = { p with st := { x with n := x.n + 1 } :: s, out := o, want := 0 }) : Next p t p' := fun _ _ _ _ _ _ _ k => k x s o h e
theorem Next.cas {p : PS} {t : PureForm.Tok} {p' : PS} {motive : Next p t p' → Prop} (node : ∀ (e : p' = { p with out := p.out ++ [((if t.kind = 3 then 2 else 1 : Int), (t.n : Int))], made := p.made + 1, want := 1 }) (h : p.made < 65536), motive (Next.node e h)) (quant : ∀ (e : p' = { p with quant := t.n, want := 3 }) (h : t.kind = 5), motive (Next.quant e h)) (opens : ∀ (w : Wt) (d wn : Nat) (e : p' = { p with st := w :: p.st, made := p.made + d, want := wn }) (h1 : ¬ 64 ≤ opnOf p.st) (h2 : d = 0 ∨ (d = 1 ∧ p.made < 65536)) (h3 : 1 ≤ w.kind ∧ w.kind ≤ 4) (h4 : wn ≤ 4) (h5 : w.op ≤ 5), motive (Next.opens w d wn e h1 h2 h3 h4 h5)) (want : ∀ (wn : Nat) (e : p' = { p with want := wn }) (h : wn ≤ 4), motive (Next.want wn e h)) (oper : ∀ (e : p' = { p with st := ⟨5, t.n, 0⟩ :: (settleOps t.n p.st p.out).1, out := (settleOps t.n p.st p.out).2, made := p.made + 1, want := 0 }) (h : p.made < 65536) (h7 : t.kind = 7), motive (Next.oper e h h7)) (close : ∀ (x : Wt) (s : List Wt) (o : List Nd) (h : settleIn p.st p.out = (x :: s, o)) (o' : List Nd) (e : p' = { p with st := s, out := o' }) (h2 : o'.length ≤ o.length + 1), motive (Next.close x s o h o' e h2)) (comma : ∀ (x : Wt) (s : List Wt) (o : List Nd) (h : settleIn p.st p.out = (x :: s, o)) (e : p' = { p with st := { x with n := x.n + 1 } :: s, out := o, want := 0 }), motive (Next.comma x s o h e)) (x : Next p t p') : motive x :=
 x (motive x) (fun e h => node e h) (fun e h => quant e h) (fun w d wn e h1 h2 h3 h4 h5 => opens w d wn e h1 h2 h3 h4 h5) (fun wn e h => want wn e h) (fun e h h7 => oper e h h7) (fun x s o h o' e h2 => close x s o h o' e h2) (fun x s o h e => comma x s o h e)
theorem opensP_next {p p' : PS} {t : PureForm.Tok} {w : Wt} {d wn : Nat} (hw : 1 ≤ w.kind ∧ w.kind ≤ 4) (hn : wn ≤ 4) (hop : w.op ≤ 5) (hd : d = 0 ∨ d = 1) (h : opensP p w d wn = .ok (.inl p')) : Next p t p' := by
 unfold opensP at h
 split at h
 ·cases h
 ·next h1 =>
  split at h
  ·cases h
  ·next h2 =>
   simp at h
   exact .opens w d wn h.symm h1 (by omega) hw hn hop
theorem stepP_next {p p' : PS} {t : PureForm.Tok} (hq : p.quant ≤ 5) (h : stepP p t = .ok (.inl p')) : Next p t p' := by
 unfold stepP at h
 split at h
 ·cases h
 ·split at h
  ·split at h
   ·split at h
    ·cases h
    ·next h1 => simp at h; exact .node h.symm (by omega)
   ·split at h
    ·next h5 => simp at h; exact .quant h.symm h5
    ·split at h
     ·exact opensP_next (by simp) (by omega) (by simp) (.inl rfl) h
     ·split at h
      ·exact opensP_next (by simp) (by omega) (by simp) (.inr rfl) h
      ·split at h
       ·exact opensP_next (by simp) (by omega) (by simp) (.inr rfl) h
       ·cases h
  ·split at h
   ·split at h
    ·simp at h; exact .want 0 h.symm (by omega)
    ·cases h
   ·split at h
    ·split at h
     ·exact opensP_next (by simp) (by omega) (by simpa using hq) (.inr rfl) h
     ·cases h
    ·split at h
     ·split at h
      ·simp at h; exact .want 3 h.symm (by omega)
      ·split at h
       ·simp at h; exact .want 0 h.symm (by omega)
       ·cases h
     ·split at h
      ·next h7 =>
       split at h
       ·cases h
       ·simp at h; exact .oper h.symm (by omega) h7
      ·split at h
       ·unfold closesP at h
        split at h
        ·next x s o hs =>
         split at h
         ·simp at h; exact .close x s o hs o h.symm (by omega)
         ·split at h
          ·simp at h; exact .close x s o hs (o ++ [nodeOf x]) h.symm (by simp)
          ·cases h
        ·cases h
       ·split at h
        ·unfold commaP at h
         split at h
         ·next x s o hs =>
          split at h
          ·simp at h; exact .comma x s o hs h.symm
          ·cases h
         ·cases h
        ·split at h
         ·unfold endsP at h
          split at h <;> simp at h
         ·cases h
theorem stepP_len {p p' : PS} {t : PureForm.Tok} (hq : p.quant ≤ 5) (h : stepP p t = .ok (.inl p')) : p'.st.length + p'.out.length ≤ p.st.length + p.out.length + 1 := by
 cases stepP_next hq h using Next.cas with
 | node e _ => subst e; simp; omega
 | quant e _ => subst e; simp
 | opens w d wn e _ _ _ _ _ => subst e; simp; omega
 | want wn e _ => subst e; simp
 | oper e _ _ => subst e; have := settleOps_len t.n p.st p.out; simp; omega
 | close x s o hs o' e h2 =>
  subst e
  have := settleIn_len p.st p.out
  rw [hs] at this
  simp at this ⊢; omega
 | comma x s o hs e =>
  subst e
  have := settleIn_len p.st p.out
  rw [hs] at this
  simp at this ⊢; omega
theorem stepP_quant {p p' : PS} {t : PureForm.Tok} (hq : p.quant ≤ 5) (ht : t.kind = 5 → t.n ≤ 5) (h : stepP p t = .ok (.inl p')) : p'.quant ≤ 5 := by
 cases stepP_next hq h using Next.cas with
 | node e _ => subst e; exact hq
 | quant e h5 => subst e; exact ht h5
 | opens w d wn e _ _ _ _ _ => subst e; exact hq
 | want wn e _ => subst e; exact hq
 | oper e _ _ => subst e; exact hq
 | close x s o hs o' e h2 => subst e; exact hq
 | comma x s o hs e => subst e; exact hq
theorem stepP_done {p : PS} {t : PureForm.Tok} {o : List Nd} (h : stepP p t = .ok (.inr o)) : o.length ≤ p.st.length + p.out.length := by
 have key : ∀ {w : Wt} {d wn : Nat}, opensP p w d wn ≠ .ok (.inr o) := by
  intro w d wn e
  unfold opensP at e
  split at e
  ·cases e
  ·split at e
   ·cases e
   ·simp at e
 unfold stepP at h
 split at h
 ·cases h
 ·split at h
  ·split at h
   ·split at h
    ·cases h
    ·simp at h
   ·split at h
    ·simp at h
    ·split at h
     ·exact absurd h key
     ·split at h
      ·exact absurd h key
      ·split at h
       ·exact absurd h key
       ·cases h
  ·split at h
   ·split at h
    ·simp at h
    ·cases h
   ·split at h
    ·split at h
     ·exact absurd h key
     ·cases h
    ·split at h
     ·split at h
      ·simp at h
      ·split at h
       ·simp at h
       ·cases h
     ·split at h
      ·split at h
       ·cases h
       ·simp at h
      ·split at h
       ·unfold closesP at h
        split at h
        ·split at h
         ·simp at h
         ·split at h
          ·simp at h
          ·cases h
        ·cases h
       ·split at h
        ·unfold commaP at h
         split at h
         ·split at h
          ·simp at h
          ·cases h
         ·cases h
        ·split at h
         ·unfold endsP at h
          split at h
          ·cases h
          ·next o' hs =>
           simp at h
           subst h
           have := settleIn_len p.st p.out
           rw [hs] at this
           simp at this
           omega
         ·cases h
theorem runP_len : ∀ (ts : List PureForm.Tok) (p : PS) (o : List Nd), p.quant ≤ 5 → (∀ t ∈ ts, t.kind = 5 → t.n ≤ 5) → runP p ts = .ok o → o.length ≤ p.st.length + p.out.length + ts.length := by
 intro ts
 induction ts with
 | nil => intro p o _ _ h; simp [runP] at h
 | cons t r ih =>
  intro p o hq ht h
  rw [runP] at h
  split at h
  ·cases h
  ·next p' h1 =>
   have h2 := stepP_len hq h1
   have h3 := ih p' o (stepP_quant hq (ht t (List.mem_cons_self ..)) h1) (fun t' h' => ht t' (List.mem_cons_of_mem _ h')) h
   simp only [List.length_cons]
   omega
  ·next o' h1 =>
   cases h
   have := stepP_done h1
   omega
theorem toks_len (l : List UInt8) : ∀ (d i : Nat), l.length - i = d → (toksFrom l i).length ≤ d + 1 ∧ ∀ t ∈ toksFrom l i, t.kind = 5 → t.n ≤ 5 := by
 intro d
 induction d using Nat.strongRecOn with
 | _ d ih =>
  intro i hd
  have hq := (next_ok l i).quant
  rw [toksFrom_eq]
  split
  ·next h =>
   have := ih (l.length - (nextT l i).end_) (by omega) _ rfl
   refine ⟨by simp only [List.length_cons]; omega, fun t ht => ?_⟩
   rcases List.mem_cons.1 ht with rfl | h'
   ·exact hq
   ·exact this.2 t h'
  ·exact ⟨by simp, fun t ht => by simp at ht; subst ht; exact hq⟩
theorem parseF_len {l : List UInt8} {o : List Nd} (h : parseF l = .ok o) : o.length ≤ 1048577 := by
 unfold parseF at h
 split at h
 ·cases h
 ·next hl =>
  split at h
  ·cases h
  ·next o' hr =>
   cases h
   obtain ⟨h1, h2⟩ := toks_len l _ 0 rfl
   have := runP_len _ _ _ (by simp) h2 hr
   simp at this
   omega
end Go.Proofs.YtdkboifpdodonacGreatDoor.Doc
/-
 The landed program's Parse.
-/
namespace Go.Proofs.YtdkboifpdodonacGreatDoor
open Go.RowKit Go.Deep PureCnf PureForm PureRd
set_option maxRecDepth 100000

/-- a fault, as a value. -/
def faultP (l : List UInt8) (f : Nat × Option Nat) : Value := match f.2 with
 | none => .agg #[.int .i64 (f.1 : Int), .int .i64 0, .int .i64 0]
 | some p => .agg #[.int .i64 (f.1 : Int), .int .i64 ((spotN (l.take p)).1 : Int), .int .i64 ((spotN (l.take p)).2 : Int)]
/-- what reading a formula answers. -/
def ParsedP (l : List UInt8) (base : Nat) (e : Ending) (w' : World) : Prop := match parseF l with
 | .error f => e = .returned (.tuple #[.slice none 0 0, faultP l f])
 | .ok o => ∃ v, e = .returned (.tuple #[v, .agg #[.int .i64 0, .int .i64 0, .int .i64 0]]) ∧ w'.ownsRow base 44 2 v o.length (ndL o)
theorem ParsedP.err {l : List UInt8} {base : Nat} {e : Ending} {w' : World} {f : Nat × Option Nat} (h : parseF l = .error f) (he : e = .returned (.tuple #[.slice none 0 0, faultP l f])) : ParsedP l base e w' := by
 unfold ParsedP; rw [h]; exact he
theorem ParsedP.ok {l : List UInt8} {base : Nat} {e : Ending} {w' : World} {o : List Nd} {v : Value} (h : parseF l = .ok o) (he : e = .returned (.tuple #[v, .agg #[.int .i64 0, .int .i64 0, .int .i64 0]])) (ho : w'.ownsRow base 44 2 v o.length (ndL o)) : ParsedP l base e w' := by
 unfold ParsedP; rw [h]; exact ⟨v, he, ho⟩

set_option maxHeartbeats 1000000 in
theorem parse_big (s : ByteArray) (w : World) (hs : s.size ≤ 9223372036854775807) (hl : 1048576 < s.size) :
  Calls Tryz.prog 5 #[.string s] w fun e w' => ParsedP s.data.toList w.heap.size e w' ∧ Below w.heap.size w w' := by
 have hlen : s.data.toList.length = s.size := by simp
 have HP := hid (parseF_long (l := s.data.toList) (by omega))
 obtain ⟨WA, hWA⟩ : ∃ WA, WA = w.alloc (Obj.cells #[.int .i64 0, .int .i64 0, .int .i64 0] 28) := ⟨_, rfl⟩
 have hB : Below w.heap.size w WA := by rw [hWA]; exact below_box _ _
 have r0 : WA.heap[w.heap.size]? = some (.cells #[.int .i64 0, .int .i64 0, .int .i64 0] 28 (0, 0)) := by rw [hWA]; exact heap_alloc_new w _
 have c0 := fun j => cell_row r0 j
 have f0 := fun j => unfrozen_row r0 j
 have HB := hid hB
 have HWA := hid hWA
 have i1 : (1048576 : Int) < s.size := by omega
 clear hWA hB r0 hlen
 go_enter Tryz.func5, Tryz.ntmps5
 go_wp2_with (rw [← HWA.out])
 exact bodyPost_ret (v := .tuple #[.slice none 0 0, .agg #[.int .i64 5, .int .i64 0, .int .i64 0]]) (by simp [results, Tryz.results5, go_sem, c0]) rfl ⟨ParsedP.err HP.out rfl, below3 HB.out _ _ _⟩

theorem ownsRow_lower {W : World} {B B' e size n : Nat} {v : Value} {xs : List Value} (h : W.ownsRow B e size v n xs) (hb : B' ≤ B) : W.ownsRow B' e size v n xs := by
 refine ⟨h.1, ?_⟩
 rcases h.2 with h0 | ⟨g, cap, cur, hv, hg, rest⟩
 ·exact .inl h0
 ·exact .inr ⟨g, cap, cur, hv, by omega, rest⟩
theorem LG.below {W w' : World} {B : Nat} {v v' : Value} (h : LG W w' v v') (hB : B ≤ W.heap.size) (hv : ∀ k, v.ownBlock = some k → B ≤ k) : Below B W w' :=
 (Below.refl B W).grown h.grown hB hv
set_option maxHeartbeats 4000000 in
theorem parse_small (s : ByteArray) (w : World) (hs : s.size ≤ 1048576) (hT : Lib.Utf8Tabs 2 3 w) :
  Calls Tryz.prog 5 #[.string s] w fun e w' => ParsedP s.data.toList w.heap.size e w' ∧ Below w.heap.size w w' := by
 obtain ⟨WA, hWA⟩ : ∃ WA, WA = w.alloc (Obj.cells #[.int .i64 0, .int .i64 0, .int .i64 0] 28) := ⟨_, rfl⟩
 have hB : Below w.heap.size w WA := by rw [hWA]; exact below_box _ _
 have r0 : WA.heap[w.heap.size]? = some (.cells #[.int .i64 0, .int .i64 0, .int .i64 0] 28 (0, 0)) := by rw [hWA]; exact heap_alloc_new w _
 have HR := hid (read_any s WA hs (Utf8Tabs_below hT hB))
 have HB := hid hB
 have HR0 := hid r0
 have HWA := hid hWA
 have i1 : (s.size : Int) ≤ 1048576 := by omega
 clear hWA hB r0 hT
 go_enter Tryz.func5, Tryz.ntmps5
 go_wp2_with (rw [← HWA.out])
 refine HR.out.mono ?_
 rintro e w1 ⟨h, b1⟩
 have r1 := step_row HR0.out b1
 have hb1 := HB.out.trans (b1.mono HB.out.size)
 have hlt := (Array.getElem?_eq_some_iff.1 r1).1
 rcases h with ⟨f, hp, h0, rfl⟩ | ⟨t, hp, ht, rfl⟩
 ·obtain ⟨WC, hWC⟩ : ∃ WC, WC = w1.alloc (Obj.cells #[.int .i64 f.1, .int .i64 ((spotN (s.data.toList.take f.2)).1 : Nat), .int .i64 ((spotN (s.data.toList.take f.2)).2 : Nat)] 28) := ⟨_, rfl⟩
  have hbC : Below w1.heap.size w1 WC := by rw [hWC]; exact below_box _ _
  have rC : WC.heap[w1.heap.size]? = some (.cells #[.int .i64 f.1, .int .i64 ((spotN (s.data.toList.take f.2)).1 : Nat), .int .i64 ((spotN (s.data.toList.take f.2)).2 : Nat)] 28 (0, 0)) := by rw [hWC]; exact heap_alloc_new w1 _
  have r2 := step_row r1 hbC
  have c2 := fun j => cell_row r2 j
  have f2 := fun j => unfrozen_row r2 j
  have cC := fun j => cell_row rC j
  have HWC := hid hWC
  have HPF := hid hp
  have HB2 := hid (hb1.trans (hbC.mono hb1.size))
  have hz : ((f.1 : Int) != 0) = true := by simp; exact h0
  have n1 : w.heap.size ≠ w1.heap.size := by omega
  unfold spV
  clear hWC rC r2 r1 b1 hb1 hbC hp h0 HR
  go_wp2_with (rw [← HWC.out])
  go_region_law (fail)
  all_goals
   go_wp2_with fail
   exact bodyPost_ret (v := .tuple #[.slice none 0 0, spV s.data.toList f]) (by simp [results, Tryz.results5, go_sem, c2, spV]) rfl ⟨ParsedP.err HPF.out rfl, below3 HB2.out.drew _ _ _⟩
 ·obtain ⟨WC, hWC⟩ : ∃ WC, WC = w1.alloc (Obj.cells #[.int .i64 0, .int .i64 0, .int .i64 0] 28) := ⟨_, rfl⟩
  have hbC : Below w1.heap.size w1 WC := by rw [hWC]; exact below_box _ _
  have rC : WC.heap[w1.heap.size]? = some (.cells #[.int .i64 0, .int .i64 0, .int .i64 0] 28 (0, 0)) := by rw [hWC]; exact heap_alloc_new w1 _
  have r2 := step_row r1 hbC
  have cC := fun j => cell_row rC j
  have hpl := Doc.parseF_len hp
  have HPF := hid hp
  have HR2 := hid r2
  have hB2 := hb1.trans (hbC.mono hb1.size)
  have HB2 := hid hB2
  have hzs : w.heap.size < WC.heap.size := (Array.getElem?_eq_some_iff.1 r2).1
  have own0 : WC.ownsRow WC.heap.size 44 2 (.slice none 0 0) ([] : List Nd).length (ndL []) := ⟨rfl, .inl ⟨rfl, rfl⟩⟩
  have hL := list_all t ht WC WC.heap.size (.slice none 0 0) [] own0 (Nat.le_refl _) (by simp; omega)
  rw [List.nil_append] at hL
  obtain ⟨kt, ut, et⟩ := tv_form t
  rw [et] at hL ⊢
  have HL := hid hL
  clear rC r2 r1 b1 hb1 hbC hp HR hL own0 hB2 ht et
  subst hWC
  go_wp2_with fail
  refine HL.out.mono ?_
  rintro e w2 ⟨v2, rfl, o2, g2⟩
  have rr2 := g2.row (by simp [Value.ownBlock]) HR2.out
  have c3 := fun j => cell_row rr2 j
  have f3 := fun j => unfrozen_row rr2 j
  have HB3 := hid (HB2.out.trans (g2.below (Nat.le_of_lt hzs) (fun k hk => by simp [Value.ownBlock] at hk)))
  obtain ⟨s2, c2, rfl⟩ := own_slice o2
  have O2 := hid o2
  clear o2 g2 rr2
  go_wp2_with fail
  refine bodyPost_ret (v := .tuple #[.slice s2 t.post.length c2, .agg #[.int .i64 0, .int .i64 0, .int .i64 0]]) (by simp [results, Tryz.results5, go_sem, c3]) rfl ⟨ParsedP.ok HPF.out rfl ?_, below3 HB3.out _ _ _⟩
  exact ownsRow_lower (ownsRow_store (ownsRow_store (ownsRow_store O2.out hzs) hzs) hzs) (Nat.le_of_lt hzs)

theorem parse_landed (s : ByteArray) (w : World) (hs : s.size ≤ 9223372036854775807) (hT : Lib.Utf8Tabs 2 3 w) :
  Calls Tryz.prog 5 #[.string s] w fun e w' => ParsedP s.data.toList w.heap.size e w' ∧ Below w.heap.size w w' := by
 by_cases hl : s.size ≤ 1048576
 ·exact parse_small s w hl hT
 ·exact parse_big s w hs (by omega)

end Go.Proofs.YtdkboifpdodonacGreatDoor
/-
 FormulaBack: the law over contracts of the program's Parse and Print.
-/
namespace Go.Proofs.YtdkboifpdodonacGreatDoor.Doc
open Go.RowKit Go.Deep PureCnf PureForm
set_option maxRecDepth 100000

/-- what reading answers, in worlds that hold what it asks for. -/
structure ParseC (K : World → Prop) (g : Nat) : Prop where
 call : ∀ (s : ByteArray) (w : World), K w → s.size ≤ 9223372036854775807 → Calls Tryz.prog g #[.string s] w fun e w' => ParsedP s.data.toList w.heap.size e w' ∧ Below w.heap.size w w'
 keep : ∀ w w', K w → Below w.heap.size w w' → K w'

/-- what printing answers, in such worlds. -/
def PrintK (K : World → Prop) (g : Nat) : Prop := ∀ (f : List Nd) (sa : Option Addr) (ca : Nat) (w : World), K w → NodesAt w sa f → f.length ≤ 9223372036854775807 →
 Calls Tryz.prog g #[.slice sa f.length ca] w fun e w' => e = .returned (printV (printF f)) ∧ Below w.heap.size w w'

def wantL : List Nd := [(2, 0), (2, 1), (6, 0), (2, 2), (3, 0), (7, 0)]
def wantT : List UInt8 := [120, 48, 32, 38, 32, 120, 49, 32, 124, 32, 33, 120, 50]
def wantTr : Tr := .bi (7, 0) (.bi (6, 0) (.lf (2, 0)) (.lf (2, 1))) (.un (3, 0) (.lf (2, 2)))
theorem want_tree : treeOf wantL = some wantTr := by rfl
theorem want_text : wantTr.text = wantT := by
 simp [Tr.text, wantTr, Tr.its_lf, Tr.its_un, Tr.its_bi, Tr.its_te, sepI, wrapI, brk, firstB, secondB, two, isQ, bindsI, Tr.root_lf, Tr.root_un, Tr.root_bi, Tr.root_te, textOf, signI, varI, notI, dec_small, wantT]
theorem want_print : printF wantL = .ok wantT := by
 unfold printF
 rw [want_tree]
 simp only
 rw [want_text, if_pos ⟨by decide, by decide⟩, if_pos (by decide)]
theorem want_parse : parseF wantT = .ok wantL := parse_print want_print

theorem nodes_row {W : World} {g : Nat} {l : List Nd} {fz : Nat × Nat} (h : W.heap[g]? = some (.cells (nds l).toArray 44 fz)) : NodesAt W (some ⟨g, 0, none⟩) l := by
 refine ⟨fun k hk => ⟨g, 0, rfl, (Array.getElem?_eq_some_iff.1 h).1, ?_, ?_⟩⟩
 ·have := nds_at l k 0 hk (by decide)
  rw [cell_row h]
  simpa [nd] using this
 ·have := nds_at l k 1 hk (by decide)
  rw [cell_row h]
  simpa [nd] using this

/-- what reading a text that is right answers. -/
theorem parse_ok {K : World → Prop} {g : Nat} (hP : ParseC K g) {T : List UInt8} {o : List Nd} (h : parseF T = .ok o) (w : World) (hk : K w) (hl : T.length ≤ 1048576) :
  Calls Tryz.prog g #[str T] w fun e w' => (∃ sa ca, e = .returned (.tuple #[.slice sa o.length ca, .agg #[.int .i64 0, .int .i64 0, .int .i64 0]]) ∧ NodesAt w' sa o) ∧ Below w.heap.size w w' := by
 refine (hP.call ⟨T.toArray⟩ w hk (by show T.toArray.size ≤ _; simp; omega)).mono ?_
 rintro e w' ⟨hp, hb⟩
 unfold ParsedP at hp
 simp only at hp
 rw [h] at hp
 obtain ⟨v, he, ho⟩ := hp
 obtain ⟨sa, ca, rfl, hn⟩ := own_nodes ho
 exact ⟨⟨sa, ca, he, hn⟩, hb⟩
theorem print_okK {K : World → Prop} {g : Nat} (hR : PrintK K g) {f : List Nd} {T : List UInt8} (h : printF f = .ok T) (sa : Option Addr) (ca : Nat) (w : World) (hk : K w) (hn : NodesAt w sa f) (hl : f.length ≤ 9223372036854775807) :
  Calls Tryz.prog g #[.slice sa f.length ca] w fun e w' => e = .returned (.tuple #[str T, .int .i64 0]) ∧ Below w.heap.size w w' := by
 have := hR f sa ca w hk hn hl
 rw [h] at this
 exact this
set_option maxHeartbeats 1000000 in
set_option maxRecDepth 100000 in
theorem alive_any {K : World → Prop} (hP : ParseC K 5) (hR : PrintK K 13) (w : World) (hk : K w) : Calls Tryz.prog 4 #[] w fun e w' => e = .returned (.bool true) ∧ Below w.heap.size w w' := by
 have HP := hid (parse_ok hP want_parse w hk (by decide))
 have HR := hid (fun sa ca W hW hn => print_okK hR want_print sa ca W (hP.keep w W hk hW) hn (by decide))
 have HS := hid (fun sa sb ca cb W ha hb => same_true wantL sa sb ca cb W (by decide) ha hb)
 have HW : Hid (∀ (W : World) (o : Obj), NodesAt ((W.alloc o).alloc (Obj.cells #[.int .i64 2, .int .i64 0, .int .i64 2, .int .i64 1, .int .i64 6, .int .i64 0, .int .i64 2, .int .i64 2, .int .i64 3, .int .i64 0, .int .i64 7, .int .i64 0] 44)) (some ⟨W.heap.size + 1, 0, none⟩) wantL) := fun W o => by
  have := nodes_row (l := wantL) (heap_alloc_new (W.alloc o) (Obj.cells #[.int .i64 2, .int .i64 0, .int .i64 2, .int .i64 1, .int .i64 6, .int .i64 0, .int .i64 2, .int .i64 2, .int .i64 3, .int .i64 0, .int .i64 7, .int .i64 0] 44))
  rwa [show (W.alloc o).heap.size = W.heap.size + 1 by simp] at this
 have HBB : Hid (∀ (W : World) (o o' : Obj), Below W.heap.size W ((W.alloc o).alloc o')) := fun W o o' => ((Below.refl _ _).alloc (Nat.le_refl _) o).alloc (by simp) o'
 clear hP hR hk
 go_enter Tryz.func4, Tryz.ntmps4
 go_wp2_with (first
  |(have q := B2; clear q; go_at_call 13; refine (HR.out _ _ _ ((B1.out.trans ((HBB.out w1 _ _).mono B1.out.size)).trans (B2.out.mono (Nat.le_trans B1.out.size (by simp; omega)))) ((HW.out w1 _).below (B2.out.mono (by simp)))).mono ?_; rintro e w3 ⟨rfl, b3⟩; have B3 := hid b3; clear b3)
  |(have q := B1; clear q; go_at_call 9; refine (HS.out _ _ _ _ _ (N1.out.below (HBB.out w1 _ _)) (HW.out w1 _)).mono ?_; rintro e w2 ⟨rfl, b2⟩; have B2 := hid b2; clear b2)
  |(go_at_call 5; refine HP.out.mono ?_; rintro e w1 ⟨⟨sa, ca, rfl, n1⟩, b1⟩; have N1 := hid n1; have B1 := hid b1; clear n1 b1))
 go_ret
 exact ⟨rfl, (B1.out.trans ((HBB.out w1 _ _).mono B1.out.size)).trans ((B2.out.trans (B3.out.mono B2.out.size)).mono (Nat.le_trans B1.out.size (by simp; omega)))⟩

end Go.Proofs.YtdkboifpdodonacGreatDoor.Doc
/-
 The document's own letter, digit, number, word.
-/
namespace Go.Proofs.YtdkboifpdodonacGreatDoor.Ref
open Go.RowKit Go.Deep PureCnf PureForm
set_option maxRecDepth 100000

theorem hid {q : Prop} (h : q) : Hid q := h

/-- a string of these bytes. -/
abbrev str (l : List UInt8) : Value := .string ⟨l.toArray⟩
theorem list_at (s : ByteArray) (k : Nat) (h : k < s.size) : s.data.toList[k]'(by simpa using h) = s[k] := rfl
theorem take_snoc (l : List UInt8) (k : Nat) (h : k < l.length) : l.take (k + 1) = l.take k ++ [l[k]] := by rw [List.take_add_one, List.getElem?_eq_getElem h]; rfl
theorem extract_list (s : ByteArray) (i j : Nat) : (s.extract i j).data.toList = (s.data.toList.drop i).take (j - i) := by
 rw [ByteArray.data_extract, Array.toList_extract]
theorem extract_str (s : ByteArray) (i j : Nat) : s.extract i j = ⟨((s.data.toList.take j).drop i).toArray⟩ := by
 apply ByteArray.ext
 apply Array.ext'
 rw [extract_list, List.drop_take]
theorem add_block (a : Addr) (j : Nat) : (a.add j).block = a.block := by unfold Addr.add; split <;> rfl
theorem add_zero_addr (g j : Nat) : (⟨g, 0, none⟩ : Addr).add j = ⟨g, j, none⟩ := by
 unfold Addr.add
 split <;> simp_all
theorem cell_row {w : World} {b : Nat} {c : Array Value} {t : TypeId} {fz : Nat × Nat} (h : w.heap[b]? = some (.cells c t fz)) (i : Nat) : w.cell? ⟨b, i, none⟩ = c[i]? := by simp [World.cell?, h]
theorem unfrozen_row {w : World} {b : Nat} {c : Array Value} {t : TypeId} (h : w.heap[b]? = some (.cells c t (0, 0))) (i : Nat) : w.frozen? ⟨b, i, none⟩ = false := by simp [World.frozen?, h]
theorem below_cell {B b o : Nat} {w w' : World} {x : Value} (hb : Below B w w') (hlt : b < B) (h : w.cell? ⟨b, o, none⟩ = some x) : w'.cell? ⟨b, o, none⟩ = some x := (hb.cell (p := ⟨b, o, none⟩) hlt).trans h
theorem below_drewN {B : Nat} {w W : World} (h : Below B w W) (n : Nat) : Below B w (W.drewN n) := ⟨h.os, h.tape, h.output, h.size, h.block⟩
/-- a token as a value. -/
abbrev tokV (t : PureForm.Tok) : Value := .agg #[.int .i64 t.kind, .int .i64 t.n, .int .i64 t.at_, .int .i64 t.end_]

set_option maxHeartbeats 400000 in
theorem digit_any (c : UInt8) (w : World) : Calls Tryz.prog 43 #[.int .u8 (c.toNat : Int)] w fun e w' => e = .returned (.bool (digB c)) ∧ w' = w := by
 by_cases h1 : 48 ≤ (c.toNat : Int)
 ·by_cases h2 : (c.toNat : Int) ≤ 57
  ·have HD : Hid (digB c = true) := by show _ = _; unfold digB; simp; omega
   go_enter Tryz.func43, Tryz.ntmps43
   go_wp2
   go_ret
   rw [HD.out]
   exact ⟨rfl, rfl⟩
  ·have HD : Hid (digB c = false) := by show _ = _; unfold digB; simp; omega
   go_enter Tryz.func43, Tryz.ntmps43
   go_wp2
   go_ret
   rw [HD.out]
   exact ⟨rfl, rfl⟩
 ·have HD : Hid (digB c = false) := by show _ = _; unfold digB; simp; omega
  go_enter Tryz.func43, Tryz.ntmps43
  go_wp2
  go_ret
  rw [HD.out]
  exact ⟨rfl, rfl⟩

set_option maxHeartbeats 400000 in
theorem letter_any (c : UInt8) (w : World) : Calls Tryz.prog 42 #[.int .u8 (c.toNat : Int)] w fun e w' => e = .returned (.bool (letB c)) ∧ w' = w := by
 by_cases h1 : 97 ≤ (c.toNat : Int)
 ·by_cases h2 : (c.toNat : Int) ≤ 122
  ·have HD : Hid (letB c = true) := by show _ = _; unfold letB; simp; omega
   go_enter Tryz.func42, Tryz.ntmps42
   go_wp2
   go_ret
   rw [HD.out]
   exact ⟨rfl, rfl⟩
  ·have HD : Hid (letB c = false) := by show _ = _; unfold letB; simp; omega
   have h3 : 65 ≤ (c.toNat : Int) := by omega
   have h4 : ¬ (c.toNat : Int) ≤ 90 := by omega
   go_enter Tryz.func42, Tryz.ntmps42
   go_wp2
   go_ret
   rw [HD.out]
   exact ⟨rfl, rfl⟩
 ·by_cases h3 : 65 ≤ (c.toNat : Int)
  ·by_cases h4 : (c.toNat : Int) ≤ 90
   ·have HD : Hid (letB c = true) := by show _ = _; unfold letB; simp; omega
    go_enter Tryz.func42, Tryz.ntmps42
    go_wp2
    go_ret
    rw [HD.out]
    exact ⟨rfl, rfl⟩
   ·have HD : Hid (letB c = false) := by show _ = _; unfold letB; simp; omega
    go_enter Tryz.func42, Tryz.ntmps42
    go_wp2
    go_ret
    rw [HD.out]
    exact ⟨rfl, rfl⟩
  ·have HD : Hid (letB c = false) := by show _ = _; unfold letB; simp; omega
   go_enter Tryz.func42, Tryz.ntmps42
   go_wp2
   go_ret
   rw [HD.out]
   exact ⟨rfl, rfl⟩

set_option maxHeartbeats 1000000 in
theorem number_any (s : ByteArray) (most : Nat) (w : World) (hs : s.size ≤ 1099511627776) (hm : most ≤ 1099511627776) :
  Calls Tryz.prog 48 #[.string s, .int .i64 (most : Int)] w fun e w' => e = .returned (.int .i64 (numB s.data.toList most)) ∧ w' = w := by
 have hlen : s.data.toList.length = s.size := by simp
 cases hp : plainB s.data.toList with
 | false =>
  have HN := hid (numB_plain (most := most) hp)
  by_cases h0 : s.size = 0
  ·clear hp
   go_enter Tryz.func48, Tryz.ntmps48
   go_wp2
   go_ret
   rw [HN.out]
   exact ⟨rfl, rfl⟩
  ·have h1 : 1 < s.size ∧ s.data.toList.head? = some 48 := by
    have hne : s.data.toList ≠ [] := fun e => h0 (by rw [← hlen, e]; rfl)
    simpa [plainB, hne] using hp
   obtain ⟨h2, h3⟩ := h1
   have h4 : (s[0].toNat : Int) = 48 := by
    rw [List.head?_eq_getElem?, List.getElem?_eq_getElem (by omega)] at h3
    have := Option.some.inj h3
    rw [list_at s 0 (by omega)] at this
    rw [this]; rfl
   have h5 : ((s.size : Int) == 0) = false := by rw [beq_eq_false_iff_ne]; omega
   clear hp h0 h3
   go_enter Tryz.func48, Tryz.ntmps48
   go_wp2
   go_ret
   rw [HN.out]
   exact ⟨rfl, rfl⟩
 | true =>
  have h0 : s.data.toList ≠ [] := fun e => by rw [e] at hp; simp [plainB] at hp
  have h1 : 0 < s.size := by
   rcases Nat.eq_zero_or_pos s.size with h | h
   ·exact absurd (List.eq_nil_of_length_eq_zero (hlen.trans h)) h0
   ·exact h
  have h2 : s.size = 1 ∨ (1 < s.size ∧ ((s[0].toNat : Int) == 48) = false) := by
   by_cases h : 1 < s.size
   ·refine .inr ⟨h, ?_⟩
    have h3 : s.data.toList.head? ≠ some 48 := by simpa [plainB, h0, h] using hp
    rw [List.head?_eq_getElem?, List.getElem?_eq_getElem (by omega), list_at s 0 (by omega)] at h3
    have h4 : s[0].toNat ≠ 48 := fun e => h3 (by rw [← UInt8.toNat_inj.1 (show s[0].toNat = (48 : UInt8).toNat from e)])
    simp; omega
   ·exact .inl (by omega)
  have h5 : ((s.size : Int) == 0) = false := by rw [beq_eq_false_iff_ne]; omega
  have HP := hid hp
  have HL := hid hlen
  clear hp h0 hlen
  rcases h2 with h2 | ⟨h2, h6⟩
  all_goals
   go_enter Tryz.func48, Tryz.ntmps48
   go_wp2
   go_loop [5, 6] (fun n i => ∃ k : Nat, k ≤ s.size ∧ i = .int .i64 k ∧ n = .int .i64 (valN (s.data.toList.take k) : Int) ∧ valN (s.data.toList.take k) ≤ most ∧ Hid ((s.data.toList.take k).all digB = true)) (fun _ i => s.size - (intOf i).toNat)
   case atStart => exact ⟨0, Nat.zero_le _, rfl, rfl, Nat.zero_le _, rfl⟩
   case round =>
    obtain ⟨k, hk, rfl, rfl, hv, HA⟩ := hrel
    by_cases hlt : k < s.size
    ·have hlt' : k < s.data.toList.length := by rw [HL.out]; exact hlt
     have HDG := hid (digit_any s[k] w)
     cases hd : digB s[k] with
     | false =>
      rw [hd] at HDG
      have HN := hid (numB_off (most := most) hlt' hd)
      clear hd
      go_wp2_with (go_at_call 43; refine HDG.out.mono ?_; rintro e w' ⟨rfl, rfl⟩)
      go_ret
      rw [HN.out]
      exact ⟨rfl, rfl⟩
     | true =>
      rw [hd] at HDG
      have hr : 48 ≤ s[k].toNat ∧ s[k].toNat ≤ 57 := by simpa [digB] using hd
      have hv1 : Hid ((valN (s.data.toList.take (k + 1)) : Int) = 10 * (valN (s.data.toList.take k) : Int) + ((s[k].toNat : Int) - 48)) := by
       show _ = _
       rw [take_snoc _ k hlt', valN_snoc, list_at s k hlt]; omega
      have HA1 : Hid ((s.data.toList.take (k + 1)).all digB = true) := by
       show _ = _
       rw [take_snoc _ k hlt', List.all_append, HA.out, list_at s k hlt]
       simp [hd]
      clear hd
      obtain ⟨r1, r2⟩ := hr
      have r3 : (48 : Int) ≤ (s[k].toNat : Int) := by omega
      have r4 : (s[k].toNat : Int) ≤ 57 := by omega
      have r5 : (0 : Int) ≤ (valN (s.data.toList.take k) : Int) := by omega
      have r6 : (valN (s.data.toList.take k) : Int) ≤ 1099511627776 := by omega
      by_cases hgt : (most : Int) < 10 * (valN (s.data.toList.take k) : Int) + ((s[k].toNat : Int) - 48)
      ·have HN := hid (numB_great (l := s.data.toList) (most := most) (k := k + 1) (by have := hv1.out; omega))
       go_wp2_with (go_at_call 43; refine HDG.out.mono ?_; rintro e w' ⟨rfl, rfl⟩)
       go_ret
       rw [HN.out]
       exact ⟨rfl, rfl⟩
      ·go_wp2_with (go_at_call 43; refine HDG.out.mono ?_; rintro e w' ⟨rfl, rfl⟩)
       exact ⟨⟨k + 1, hlt, by go_num, by rw [hv1.out], by have := hv1.out; omega, HA1.out⟩, by simp [intOf]; omega⟩
    ·have HE : Hid (numB s.data.toList most = (valN (s.data.toList.take k) : Int)) := by
      show _ = _
      have e : s.data.toList.take k = s.data.toList := List.take_of_length_le (by rw [HL.out]; omega)
      have ha := HA.out
      rw [e] at ha hv ⊢
      exact numB_end HP.out ha hv
     go_wp2
     go_ret
     rw [HE.out]
     exact ⟨rfl, rfl⟩


end Go.Proofs.YtdkboifpdodonacGreatDoor.Ref
