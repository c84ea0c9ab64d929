import Derived.Test.YtdkboifpdodonabGreatDoorZ16
set_option linter.unusedSimpArgs false
/-
  The landed program's assignment: what every tree says of it.
-/
namespace Go.Proofs.YtdkboifpdodonabGreatDoor
open Go.RowKit Go.Deep PureCnf PureForm
set_option maxRecDepth 100000

set_option maxHeartbeats 1000000 in
theorem of_const (n : Int) (g : Nat) (m : Nat) (w : World) :
    Calls Tryz.prog 44 #[.slice (some ⟨g, 0, none⟩) m m, .iface 133 (.agg #[.int .i64 n])] w fun e w' => e = .returned (.bool (n == 1)) ∧ Below w.heap.size w w' := by
  have m1 := fun x W => ta133_hit (.agg #[.int .i64 n]) x W
  obtain ⟨WA, hWA⟩ : ∃ WA, WA = w.alloc (Obj.cells #[.int .i64 n] 133) := ⟨_, rfl⟩
  have hB : Below w.heap.size w WA := by rw [hWA]; exact below_box _ _
  have r0 : WA.heap[w.heap.size]? = some (.cells #[.int .i64 n] 133 (0, 0)) := by rw [hWA]; exact heap_alloc_new w _
  have c0 := fun j => cell_row r0 j
  have HWA := hid hWA
  have HB := hid hB
  clear hWA hB r0
  go_enter Tryz.func44, Tryz.ntmps44
  go_wp2_with (rw [← HWA.out])
  go_ret
  exact ⟨rfl, HB.out⟩

set_option maxHeartbeats 1000000 in
theorem of_var (v : Nat) (g : Nat) (L : List Bool) (w : World) (hr : w.heap[g]? = some (.cells (bz L).toArray 4 (0, 0))) (hv : v < L.length) :
    Calls Tryz.prog 44 #[.slice (some ⟨g, 0, none⟩) L.length L.length, .iface 135 (.agg #[.int .i64 (v : Int)])] w fun e w' => e = .returned (.bool (bitsE L (v : Int))) ∧ Below w.heap.size w w' := by
  rw [bitsE_is hv]
  have m1 := fun x W => ta133_miss 135 (by decide) (.agg #[.int .i64 (v : Int)]) x W
  have m2 := fun x W => ta135_hit (.agg #[.int .i64 (v : Int)]) x W
  obtain ⟨WA, hWA⟩ : ∃ WA, WA = w.alloc (Obj.cells #[.int .i64 (v : Int)] 135) := ⟨_, rfl⟩
  have hB : Below w.heap.size w WA := by rw [hWA]; exact below_box _ _
  have r0 : WA.heap[w.heap.size]? = some (.cells #[.int .i64 (v : Int)] 135 (0, 0)) := by rw [hWA]; exact heap_alloc_new w _
  have c0 := fun j => cell_row r0 j
  have hgl : g < w.heap.size := (Array.getElem?_eq_some_iff.1 hr).1
  have cv := bz_cell ((hB.block g hgl).trans hr) hv
  have hgA : g < WA.heap.size := Nat.lt_of_lt_of_le hgl hB.size
  have hvI : (v : Int) < (L.length : Int) := by omega
  generalize L[v] = x at *
  have HWA := hid hWA
  have HB := hid hB
  clear hWA hB r0 hr
  go_enter Tryz.func44, Tryz.ntmps44
  go_wp2_with (rw [← HWA.out])
  go_ret
  exact ⟨rfl, HB.out⟩

set_option maxHeartbeats 1000000 in
theorem of_not (a : Tr) (HA : OfC a) (g : Nat) (L : List Bool) (w : World) (hr : w.heap[g]? = some (.cells (bz L).toArray 4 (0, 0))) (hu : Und L.length a.post) :
    Calls Tryz.prog 44 #[.slice (some ⟨g, 0, none⟩) L.length L.length, .iface 120 (.agg #[tv a])] w fun e w' => e = .returned (.bool (!a.says (bitsE L))) ∧ Below w.heap.size w w' := by
  obtain ⟨x1, hx1⟩ : ∃ x, x = a.says (bitsE L) := ⟨_, rfl⟩
  have hgl : g < w.heap.size := (Array.getElem?_eq_some_iff.1 hr).1
  have HNA : Hid (∀ W, Below w.heap.size w W → Calls Tryz.prog 44 #[.slice (some ⟨g, 0, none⟩) L.length L.length, tv a] W fun e w' => e = .returned (.bool x1) ∧ Below W.heap.size W w') := fun W hW => by
    rw [hx1]; exact HA g L W ((hW.block g hgl).trans hr) hu
  rw [← hx1]
  obtain ⟨k, u, e⟩ := tv_form a
  rw [e]
  rw [e] at HNA
  have m1 := fun x W => ta133_miss 120 (by decide) (.agg #[.iface k u]) x W
  have m2 := fun x W => ta135_miss 120 (by decide) (.agg #[.iface k u]) x W
  have m3 := fun x W => ta120_hit (.agg #[.iface k u]) x W
  obtain ⟨WA, hWA⟩ : ∃ WA, WA = w.alloc (Obj.cells #[.iface k u] 120) := ⟨_, rfl⟩
  have hB : Below w.heap.size w WA := by rw [hWA]; exact below_box _ _
  have r0 : WA.heap[w.heap.size]? = some (.cells #[.iface k u] 120 (0, 0)) := by rw [hWA]; exact heap_alloc_new w _
  have c0 := fun j => cell_row r0 j
  have HWA := hid hWA
  have HB := hid hB
  clear hWA hB r0 hr e HA hu hgl hx1
  go_enter Tryz.func44, Tryz.ntmps44
  go_wp2_with (first | (rw [← HWA.out]) | (go_at_call 44; refine (HNA.out _ HB.out).mono ?_; rintro e w1 ⟨rfl, b1⟩; have HB1 := hid (HB.out.trans (b1.mono HB.out.size)); clear b1))
  go_ret
  exact ⟨rfl, HB1.out⟩

set_option maxHeartbeats 1000000 in
theorem of_quant (o n : Int) (a : Tr) (x : Bool) (s : Value) (w : World) (hs : ∃ g m, s = .slice (some ⟨g, 0, none⟩) m m)
    (HT : ∀ W, Below w.heap.size w W → Calls Tryz.prog 63 #[s, .agg #[.int .i64 o, .int .i64 n, tv a]] W fun e w' => e = .returned (.bool x) ∧ Below W.heap.size W w') :
    Calls Tryz.prog 44 #[s, .iface 122 (.agg #[.int .i64 o, .int .i64 n, tv a])] w fun e w' => e = .returned (.bool x) ∧ Below w.heap.size w w' := by
  obtain ⟨g, m, rfl⟩ := hs
  have HNA := hid HT
  obtain ⟨k, u, e⟩ := tv_form a
  rw [e]
  rw [e] at HNA
  have m1 := fun x W => ta133_miss 122 (by decide) (.agg #[.int .i64 o, .int .i64 n, .iface k u]) x W
  have m2 := fun x W => ta135_miss 122 (by decide) (.agg #[.int .i64 o, .int .i64 n, .iface k u]) x W
  have m3 := fun x W => ta120_miss 122 (by decide) (.agg #[.int .i64 o, .int .i64 n, .iface k u]) x W
  have m4 := fun x W => ta122_hit (.agg #[.int .i64 o, .int .i64 n, .iface k u]) x W
  obtain ⟨WA, hWA⟩ : ∃ WA, WA = w.alloc (Obj.cells #[.int .i64 o, .int .i64 n, .iface k u] 122) := ⟨_, rfl⟩
  have hB : Below w.heap.size w WA := by rw [hWA]; exact below_box _ _
  have r0 : WA.heap[w.heap.size]? = some (.cells #[.int .i64 o, .int .i64 n, .iface k u] 122 (0, 0)) := by rw [hWA]; exact heap_alloc_new w _
  have c0 := fun j => cell_row r0 j
  have HWA := hid hWA
  have HB := hid hB
  clear hWA hB r0 e HT
  go_enter Tryz.func44, Tryz.ntmps44
  go_wp2_with (first | (rw [← HWA.out]) | (go_at_call 63; refine (HNA.out _ HB.out).mono ?_; rintro e w1 ⟨rfl, b1⟩; have HB1 := hid (HB.out.trans (b1.mono HB.out.size)); clear b1))
  go_ret
  exact ⟨rfl, HB1.out⟩

set_option maxHeartbeats 1000000 in
theorem of_two (o : Int) (a b : Tr) (x : Bool) (s : Value) (w : World) (hs : ∃ g m, s = .slice (some ⟨g, 0, none⟩) m m)
    (HT : ∀ W, Below w.heap.size w W → Calls Tryz.prog 64 #[s, .agg #[.int .i64 o, tv a, tv b]] W fun e w' => e = .returned (.bool x) ∧ Below W.heap.size W w') :
    Calls Tryz.prog 44 #[s, .iface 124 (.agg #[.int .i64 o, tv a, tv b])] w fun e w' => e = .returned (.bool x) ∧ Below w.heap.size w w' := by
  obtain ⟨g, m, rfl⟩ := hs
  have HNA := hid HT
  obtain ⟨k, u, e⟩ := tv_form a
  obtain ⟨k2, u2, e'⟩ := tv_form b
  rw [e, e']
  rw [e, e'] at HNA
  have m1 := fun x W => ta133_miss 124 (by decide) (.agg #[.int .i64 o, .iface k u, .iface k2 u2]) x W
  have m2 := fun x W => ta135_miss 124 (by decide) (.agg #[.int .i64 o, .iface k u, .iface k2 u2]) x W
  have m3 := fun x W => ta120_miss 124 (by decide) (.agg #[.int .i64 o, .iface k u, .iface k2 u2]) x W
  have m4 := fun x W => ta122_miss 124 (by decide) (.agg #[.int .i64 o, .iface k u, .iface k2 u2]) x W
  have m5 := fun x W => ta124_hit (.agg #[.int .i64 o, .iface k u, .iface k2 u2]) x W
  obtain ⟨WA, hWA⟩ : ∃ WA, WA = w.alloc (Obj.cells #[.int .i64 o, .iface k u, .iface k2 u2] 124) := ⟨_, rfl⟩
  have hB : Below w.heap.size w WA := by rw [hWA]; exact below_box _ _
  have r0 : WA.heap[w.heap.size]? = some (.cells #[.int .i64 o, .iface k u, .iface k2 u2] 124 (0, 0)) := by rw [hWA]; exact heap_alloc_new w _
  have c0 := fun j => cell_row r0 j
  have HWA := hid hWA
  have HB := hid hB
  clear hWA hB r0 e e' HT
  go_enter Tryz.func44, Tryz.ntmps44
  go_wp2_with (first | (rw [← HWA.out]) | (go_at_call 64; refine (HNA.out _ HB.out).mono ?_; rintro e w1 ⟨rfl, b1⟩; have HB1 := hid (HB.out.trans (b1.mono HB.out.size)); clear b1))
  go_ret
  exact ⟨rfl, HB1.out⟩

set_option maxHeartbeats 2000000 in
theorem of_three (a b c : Tr) (HA : OfC a) (HBB : OfC b) (HC : OfC c) (g : Nat) (L : List Bool) (w : World) (hr : w.heap[g]? = some (.cells (bz L).toArray 4 (0, 0))) (hua : Und L.length a.post) (hub : Und L.length b.post) (huc : Und L.length c.post) :
    Calls Tryz.prog 44 #[.slice (some ⟨g, 0, none⟩) L.length L.length, .iface 126 (.agg #[tv a, tv b, tv c])] w fun e w' => e = .returned (.bool (if a.says (bitsE L) = true then b.says (bitsE L) else c.says (bitsE L))) ∧ Below w.heap.size w w' := by
  obtain ⟨x1, hx1⟩ : ∃ x, x = a.says (bitsE L) := ⟨_, rfl⟩
  obtain ⟨x2, hx2⟩ : ∃ x, x = b.says (bitsE L) := ⟨_, rfl⟩
  obtain ⟨x3, hx3⟩ : ∃ x, x = c.says (bitsE L) := ⟨_, rfl⟩
  have hgl : g < w.heap.size := (Array.getElem?_eq_some_iff.1 hr).1
  have HNA : Hid (∀ W, Below w.heap.size w W → Calls Tryz.prog 44 #[.slice (some ⟨g, 0, none⟩) L.length L.length, tv a] W fun e w' => e = .returned (.bool x1) ∧ Below W.heap.size W w') := fun W hW => by
    rw [hx1]; exact HA g L W ((hW.block g hgl).trans hr) hua
  have HNB : Hid (∀ W, Below w.heap.size w W → Calls Tryz.prog 44 #[.slice (some ⟨g, 0, none⟩) L.length L.length, tv b] W fun e w' => e = .returned (.bool x2) ∧ Below W.heap.size W w') := fun W hW => by
    rw [hx2]; exact HBB g L W ((hW.block g hgl).trans hr) hub
  have HNC : Hid (∀ W, Below w.heap.size w W → Calls Tryz.prog 44 #[.slice (some ⟨g, 0, none⟩) L.length L.length, tv c] W fun e w' => e = .returned (.bool x3) ∧ Below W.heap.size W w') := fun W hW => by
    rw [hx3]; exact HC g L W ((hW.block g hgl).trans hr) huc
  rw [← hx1, ← hx2, ← hx3]
  obtain ⟨k, u, e⟩ := tv_form a
  obtain ⟨k2, u2, e'⟩ := tv_form b
  obtain ⟨k3, u3, e''⟩ := tv_form c
  rw [e, e', e'']
  rw [e] at HNA
  rw [e'] at HNB
  rw [e''] at HNC
  have m1 := fun x W => ta133_miss 126 (by decide) (.agg #[.iface k u, .iface k2 u2, .iface k3 u3]) x W
  have m2 := fun x W => ta135_miss 126 (by decide) (.agg #[.iface k u, .iface k2 u2, .iface k3 u3]) x W
  have m3 := fun x W => ta120_miss 126 (by decide) (.agg #[.iface k u, .iface k2 u2, .iface k3 u3]) x W
  have m4 := fun x W => ta122_miss 126 (by decide) (.agg #[.iface k u, .iface k2 u2, .iface k3 u3]) x W
  have m5 := fun x W => ta124_miss 126 (by decide) (.agg #[.iface k u, .iface k2 u2, .iface k3 u3]) x W
  have m6 := fun x W => ta126_hit (.agg #[.iface k u, .iface k2 u2, .iface k3 u3]) x W
  obtain ⟨WA, hWA⟩ : ∃ WA, WA = w.alloc (Obj.cells #[.iface k u, .iface k2 u2, .iface k3 u3] 126) := ⟨_, rfl⟩
  have hB : Below w.heap.size w WA := by rw [hWA]; exact below_box _ _
  have r0 : WA.heap[w.heap.size]? = some (.cells #[.iface k u, .iface k2 u2, .iface k3 u3] 126 (0, 0)) := by rw [hWA]; exact heap_alloc_new w _
  have c0 := fun j => cell_row r0 j
  have HWA := hid hWA
  have HB := hid hB
  have R0 := hid r0
  clear hWA hB r0 hr e e' e'' HA HBB HC hua hub huc hgl hx1 hx2 hx3
  cases x1
  · go_enter Tryz.func44, Tryz.ntmps44
    go_wp2_with (first
      | (rw [← HWA.out])
      | (have q := B1; clear q; go_at_call 44; refine (HNC.out _ B1.out).mono ?_; rintro e w2 ⟨rfl, b2⟩; have B2 := hid (B1.out.trans (b2.mono B1.out.size)); clear b2)
      | (go_at_call 44; refine (HNA.out _ HB.out).mono ?_; rintro e w1 ⟨rfl, b1⟩; have q1 := (b1.block _ (Array.getElem?_eq_some_iff.1 R0.out).1).trans R0.out; have c1 := fun j => cell_row q1 j; have B1 := hid (HB.out.trans (b1.mono HB.out.size)); clear b1 q1))
    go_ret
    exact ⟨rfl, B2.out⟩
  · go_enter Tryz.func44, Tryz.ntmps44
    go_wp2_with (first
      | (rw [← HWA.out])
      | (have q := B1; clear q; go_at_call 44; refine (HNB.out _ B1.out).mono ?_; rintro e w2 ⟨rfl, b2⟩; have B2 := hid (B1.out.trans (b2.mono B1.out.size)); clear b2)
      | (go_at_call 44; refine (HNA.out _ HB.out).mono ?_; rintro e w1 ⟨rfl, b1⟩; have q1 := (b1.block _ (Array.getElem?_eq_some_iff.1 R0.out).1).trans R0.out; have c1 := fun j => cell_row q1 j; have B1 := hid (HB.out.trans (b1.mono HB.out.size)); clear b1 q1))
    go_ret
    exact ⟨rfl, B2.out⟩

theorem of_any (t : Tr) : t.good → OfC t := by
  induction t using Tr.ind with
  | lf x =>
    obtain ⟨o, n⟩ := x
    intro ht g L w hr hu
    have ht' : (o = 1 ∧ (n = 0 ∨ n = 1)) ∨ (o = 2 ∧ 0 ≤ n ∧ n < 65536) := ht
    rcases ht' with ⟨h1, _⟩ | ⟨h1, _, _⟩
    · subst h1
      exact of_const n g L.length w
    · subst h1
      have h3 := hu (2, n) (by simp [Tr.post_lf, Tr.post_un, Tr.post_bi, Tr.post_te]) (.inl rfl)
      obtain ⟨v, rfl⟩ : ∃ v : Nat, n = (v : Int) := ⟨n.toNat, by have := h3.1; omega⟩
      exact of_var v g L w hr (by have : (v : Int) < (L.length : Int) := h3.2; omega)
  | un x a iha =>
    obtain ⟨o, n⟩ := x
    intro ht g L w hr hu
    obtain ⟨hx, ha⟩ : ((o = 3 ∧ n = 0) ∨ (isQ o = true ∧ 0 ≤ n ∧ n < 65536)) ∧ a.good := ht
    have hua : Und L.length a.post := hu.sub (by intro y hy; simp [Tr.post_lf, Tr.post_un, Tr.post_bi, Tr.post_te, hy])
    rcases hx with ⟨h1, h2⟩ | ⟨h1, _⟩
    · subst h1 h2
      exact of_not a (iha ha) g L w hr hua
    · have h45 : o = 4 ∨ o = 5 := by simpa [isQ] using h1
      have e1 : tv (.un (o, n) a) = .iface 122 (.agg #[.int .i64 o, .int .i64 n, tv a]) := by (first | rw [tv_un, if_neg (by simp; omega)] | rw [tv_bi, if_neg (by simp; omega)] | rw [tv_te, if_neg (by simp; omega)] | rw [tv_lf, if_neg (by simp; omega)])
      have e2 : (Tr.un (o, n) a).says (bitsE L) = if o = 4 then (a.says (upd (bitsE L) n false) || a.says (upd (bitsE L) n true)) else (a.says (upd (bitsE L) n false) && a.says (upd (bitsE L) n true)) := by
        (first | rw [Tr.says_un, if_neg (by simp; omega)] | rw [Tr.says_bi, if_neg (by simp; omega)] | rw [Tr.says_te, if_neg (by simp; omega)] | rw [Tr.says_lf, if_neg (by simp; omega)])
      have h3 := hu (o, n) (by simp [Tr.post_lf, Tr.post_un, Tr.post_bi, Tr.post_te]) (by simp; omega)
      obtain ⟨v, rfl⟩ : ∃ v : Nat, n = (v : Int) := ⟨n.toNat, by have := h3.1; omega⟩
      have hv : v < L.length := by have : (v : Int) < (L.length : Int) := h3.2; omega
      have hgl : g < w.heap.size := (Array.getElem?_eq_some_iff.1 hr).1
      rw [e1, e2]
      exact of_quant o (v : Int) a _ _ w ⟨g, _, rfl⟩ (fun W hW => tried_any o h45 a (iha ha) g L W ((hW.block g hgl).trans hr) v hv hua)
  | bi x a b iha ihb =>
    obtain ⟨o, n⟩ := x
    intro ht g L w hr hu
    obtain ⟨⟨h1, h2⟩, ha, hb⟩ : (two o = true ∧ n = 0) ∧ a.good ∧ b.good := ht
    have hua : Und L.length a.post := hu.sub (by intro y hy; simp [Tr.post_lf, Tr.post_un, Tr.post_bi, Tr.post_te, hy])
    have hub : Und L.length b.post := hu.sub (by intro y hy; simp [Tr.post_lf, Tr.post_un, Tr.post_bi, Tr.post_te, hy])
    have hgl : g < w.heap.size := (Array.getElem?_eq_some_iff.1 hr).1
    exact of_two o a b _ _ w ⟨g, _, rfl⟩ (fun W hW => joined_any o h1 a b (iha ha) (ihb hb) g L W ((hW.block g hgl).trans hr) hua hub)
  | te x a b c iha ihb ihc =>
    obtain ⟨o, n⟩ := x
    intro ht g L w hr hu
    obtain ⟨⟨h1, h2⟩, ha, hb, hc⟩ : (o = 11 ∧ n = 0) ∧ a.good ∧ b.good ∧ c.good := ht
    have hua : Und L.length a.post := hu.sub (by intro y hy; simp [Tr.post_lf, Tr.post_un, Tr.post_bi, Tr.post_te, hy])
    have hub : Und L.length b.post := hu.sub (by intro y hy; simp [Tr.post_lf, Tr.post_un, Tr.post_bi, Tr.post_te, hy])
    have huc : Und L.length c.post := hu.sub (by intro y hy; simp [Tr.post_lf, Tr.post_un, Tr.post_bi, Tr.post_te, hy])
    exact of_three a b c (iha ha) (ihb hb) (ihc hc) g L w hr hua hub huc

end Go.Proofs.YtdkboifpdodonabGreatDoor
/-
  The landed program's Eval.
-/
namespace Go.Proofs.YtdkboifpdodonabGreatDoor
open Go.RowKit Go.Deep PureCnf PureForm
set_option maxRecDepth 100000

theorem size4b : (Tryz.prog.info? 4).map (·.size) = some 1 := by kernel_rfl
theorem info4b : (Tryz.prog.info? 4).map (fun i => (i.zero, i.size, i.bytes)) = some (some (.bool false), 1, 1) := by kernel_rfl
theorem made_bz (n : Nat) : (madeCells #[Value.bool false] n).toList = bz (List.replicate n false) := by rw [toList_madeCells_one]; simp [bz]
theorem padded (L : List Bool) (n : Nat) : (madeCells #[Value.bool false] n).toList.take 0 ++ bz (L.take n) ++ (madeCells #[Value.bool false] n).toList.drop (0 + (bz (L.take n)).length) = bz (padB n L) := by
  rw [made_bz]
  simp only [bz, padB, List.take_zero, List.nil_append, List.map_append, List.length_map, List.length_take, Nat.zero_add, List.map_replicate, List.drop_replicate, List.map_take]
  congr 2
  omega
theorem run_copy_none (w : World) (a : Addr) (dLen dCap c : Nat) : (Builtin.copy_ #[86, 41] 3 #[.slice (some a) dLen dCap, .slice none 0 c]).run Tryz.prog w = .ok (goInt 0) w := by
  have hs := size4b
  cases hq : Tryz.prog.info? 4 with
  | none => simp [hq] at hs
  | some i => simp [Builtin.copy_, run_underlying Tryz.underlying86, Builtin.lenOf, Builtin.firstCells, sizeOf, typeInfo, hq, storeCells]
/-- the truths are copied into what was made. -/
theorem copied (L : List Bool) (sb : Option Addr) (cb n : Nat) (w : World) (hb : Doc.BitsAt w sb L) :
    ∃ (c : Value) (W' : World), (Builtin.copy_ #[86, 41] 3 #[.slice (some ⟨w.heap.size, 0, none⟩) n n, .slice sb L.length cb]).run Tryz.prog (w.alloc (.cells (madeCells #[.bool false] n) 4)) = .ok c W' ∧ W'.heap[w.heap.size]? = some (.cells (bz (padB n L)).toArray 4 (0, 0)) ∧ Below w.heap.size w W' := by
  cases sb with
  | none =>
    have h0 : L = [] := by
      cases L with
      | nil => rfl
      | cons x r =>
        obtain ⟨g, o, e, _⟩ := hb.at_ 0 (by simp)
        cases e
    subst h0
    refine ⟨_, _, run_copy_none _ _ _ _ _, ?_, (Below.refl _ _).alloc (Nat.le_refl _) _⟩
    have e : (madeCells #[Value.bool false] n) = (bz (padB n [])).toArray := by apply Array.ext'; rw [made_bz]; simp [padB]
    rw [← e]
    exact heap_alloc_new w _
  | some ad =>
    have hlen : (bz (L.take n)).length = Nat.min L.length n := by simp [bz, Nat.min_comm]
    have hcp := run_copy_row (P := Tryz.prog) (w.alloc (.cells (madeCells #[.bool false] n) 4)) 86 41 3 4 w.heap.size 0 n n ad L.length cb (madeCells #[.bool false] n) 4 (bz (L.take n)) Tryz.underlying86 size4b (heap_alloc_new w _) hlen
      (fun j v hj => by
        obtain ⟨hj1, hj2⟩ : j < L.length ∧ (bz L)[j]? = some v := by
          simp only [bz, List.getElem?_map, List.getElem?_take] at hj ⊢
          split at hj
          · refine ⟨?_, hj⟩
            cases hq : L[j]? with
            | none => rw [hq] at hj; simp at hj
            | some y => exact (List.getElem?_eq_some_iff.1 hq).1
          · simp at hj
        obtain ⟨g, o, e, hg, c⟩ := hb.at_ j hj1
        cases e
        have ev : v = .bool L[j] := by
          simp only [bz, List.getElem?_map, List.getElem?_eq_getElem hj1, Option.map_some, Option.some.injEq] at hj2
          exact hj2.symm
        have ea : (⟨g, o, none⟩ : Addr).add j = ⟨g, o + j, none⟩ := by unfold Addr.add; split <;> simp_all
        rw [ea, ev]
        exact below_cell ((Below.refl _ _).alloc (Nat.le_refl _) _) hg c)
      (by rw [size_madeCells, hlen, Nat.zero_add]; exact Nat.min_le_right L.length n) (fun v hv => by simp only [bz, List.mem_map] at hv; obtain ⟨x, _, rfl⟩ := hv; rfl)
    rw [padded] at hcp
    exact ⟨_, _, hcp, setRow_heap _ _ _ _ 4 (0, 0) (heap_alloc_new w _), ⟨rfl, rfl, rfl, by simp, fun b hb => (setRow_other _ _ _ _ (by omega)).trans (Below.heap_alloc w _ b hb)⟩⟩

theorem grow_yes {f : List Nd} {t : Tr} (ht : treeOf f = some t) (hf : formedF f = true) : growV f = .tuple #[tv t, .bool true] := by
  unfold formedF at hf
  rw [ht] at hf
  unfold growV
  rw [ht]
  simp only
  rw [if_pos (of_decide_eq_true hf)]
theorem grow_no {f : List Nd} (hf : formedF f = false) : growV f = .tuple #[.nilIface, .bool false] := by
  unfold formedF at hf
  unfold growV
  split at hf
  · next t ht =>
    rw [ht]
    simp only
    rw [if_neg (of_decide_eq_false hf)]
  · next ht => rw [ht]

set_option maxHeartbeats 2000000 in
theorem eval18 : Doc.EvalC 18 := by
  intro f sa ca L sb cb w hf hb hl hL
  have HG := hid (grow_any f sa ca w hf hl)
  cases hfm : formedF f with
  | false =>
    rw [grow_no hfm] at HG
    have HE := hid (evalF_no (l := L) hfm)
    clear hf hb hfm
    go_enter Tryz.func18, Tryz.ntmps18
    go_wp2_with (go_at_call 26; refine HG.out.mono ?_; rintro e w1 ⟨rfl, b1⟩; have B1 := hid b1; clear b1)
    exact bodyPost_ret (v := .tuple #[.bool false, .int .i64 134]) (by simp [results, Tryz.results18, go_sem]) rfl ⟨by rw [HE.out]; rfl, B1.out⟩
  | true =>
    obtain ⟨t, ht, hlen⟩ : ∃ t, treeOf f = some t ∧ f.length ≤ 65536 := by
      unfold formedF at hfm
      split at hfm
      · next t ht => exact ⟨t, ht, (of_decide_eq_true hfm).1⟩
      · cases hfm
    rw [grow_yes ht hfm] at HG
    obtain ⟨hgd, hp⟩ := treeOf_some ht
    have hpl : t.post.length ≤ 900000 := by rw [hp]; omega
    have HNS := fun W => hid (nested_any t hgd hpl W)
    obtain ⟨k, u, etv⟩ := tv_form t
    obtain ⟨hund, hn⟩ := vars_und ht
    by_cases h8 : 8 < (t.within : Int)
    · have HE := hid (evalF_many (l := L) ht hfm (by omega))
      rw [etv] at HG
      simp only [etv] at HNS
      clear hf hb hfm ht hgd hp hpl hund hn etv
      go_enter Tryz.func18, Tryz.ntmps18
      go_wp2_with (first
        | (have q := B1; clear q; go_at_call 42; refine (HNS _).out.mono ?_; rintro e w2 ⟨rfl, b2⟩; have B2 := hid (B1.out.trans (b2.mono B1.out.size)); clear b2)
        | (go_at_call 26; refine HG.out.mono ?_; rintro e w1 ⟨rfl, b1⟩; have B1 := hid b1; clear b1))
      exact bodyPost_ret (v := .tuple #[.bool false, .int .i64 8]) (by simp [results, Tryz.results18, go_sem]) rfl ⟨by rw [HE.out]; rfl, B2.out⟩
    · have HE := hid (evalF_of (l := L) ht hfm (by omega))
      obtain ⟨n, hnn⟩ : ∃ n, n = varsN f := ⟨_, rfl⟩
      rw [← hnn] at hund hn
      have HV : Hid (∀ W, Below w.heap.size w W → Calls Tryz.prog 43 #[.slice sa f.length ca] W fun e w' => e = .returned (.int .i64 (n : Int)) ∧ Below W.heap.size W w') := fun W hW => by
        rw [hnn]
        exact vars_walk f sa ca W (hf.below hW) hlen fun k hk hv => good_nodes t hgd f[k] (by rw [hp]; exact List.getElem_mem hk) hv
      have hmk : ∀ W : World, (Instr.makeSlice 86 (.int .i64 (n : Int)) (.int .i64 (n : Int))).run Tryz.prog W = .ok (.slice (some ⟨W.heap.size, 0, none⟩) n n) (W.alloc (.cells (madeCells #[.bool false] n) 4)) := fun W =>
        run_make_row' (P := Tryz.prog) 86 4 (.bool false) 1 Tryz.underlying86 info4b rfl .i64 .i64 n (by omega) (by omega) W
      have HC : Hid (∀ W, Below w.heap.size w W → ∃ (c : Value) (W' : World), (Builtin.copy_ #[86, 41] 3 #[.slice (some ⟨W.heap.size, 0, none⟩) n n, .slice sb L.length cb]).run Tryz.prog (W.alloc (.cells (madeCells #[.bool false] n) 4)) = .ok c W' ∧ W'.heap[W.heap.size]? = some (.cells (bz (padB n L)).toArray 4 (0, 0)) ∧ Below W.heap.size W W') := fun W hW => copied L sb cb n W (hb.below hW)
      obtain ⟨x, hx⟩ : ∃ x, x = t.says (bitsE L) := ⟨_, rfl⟩
      have HO : Hid (∀ W g, W.heap[g]? = some (.cells (bz (padB n L)).toArray 4 (0, 0)) → Calls Tryz.prog 44 #[.slice (some ⟨g, 0, none⟩) n n, .iface k u] W fun e w' => e = .returned (.bool x) ∧ Below W.heap.size W w') := fun W g hr => by
        have h1 := of_any t hgd g (padB n L) W hr (by rw [padB_len, hp]; exact hund)
        rw [padB_len, etv, says_cong n t hgd (by rw [hp]; exact hund) (bitsE (padB n L)) (bitsE L) (fun v h0 h1 => padB_bits n L v h0 h1), ← hx] at h1
        exact h1
      rw [← hx] at HE
      rw [etv] at HG
      simp only [etv] at HNS
      clear hf hb hfm ht hgd hp hpl hund etv hx hnn hlen
      go_enter Tryz.func18, Tryz.ntmps18
      go_wp2_with (first
        | (have q := B4; clear q; go_at_call 44; refine (HO.out _ _ R4.out).mono ?_; rintro e w5 ⟨rfl, b5⟩; have B5 := hid (B4.out.trans (b5.mono B4.out.size)); clear b5)
        | (have q := B2; clear q; go_at_call 43; refine (HV.out _ B2.out).mono ?_; rintro e w3 ⟨rfl, b3⟩; have B3 := hid (B2.out.trans (b3.mono B2.out.size)); obtain ⟨c4, w4, hcp, r4, b4⟩ := HC.out w3 B3.out; have R4 := hid r4; have B4 := hid (B3.out.trans (b4.mono B3.out.size)); clear b3 r4 b4)
        | (have q := B1; clear q; go_at_call 42; refine (HNS _).out.mono ?_; rintro e w2 ⟨rfl, b2⟩; have B2 := hid (B1.out.trans (b2.mono B1.out.size)); clear b2)
        | (go_at_call 26; refine HG.out.mono ?_; rintro e w1 ⟨rfl, b1⟩; have B1 := hid b1; clear b1))
      exact bodyPost_ret (v := .tuple #[.bool x, .int .i64 0]) (by simp [results, Tryz.results18, go_sem]) rfl ⟨by rw [HE.out]; rfl, B5.out⟩
end Go.Proofs.YtdkboifpdodonabGreatDoor
/-
  FormulaSays: the law over contracts of the program's Parse, Print and Eval.
-/
namespace Go.Proofs.YtdkboifpdodonabGreatDoor.Doc
open Go.RowKit Go.Deep PureCnf PureForm
set_option maxRecDepth 100000

theorem own_bits {W : World} {B : Nat} {v : Value} {L : List Bool} (h : W.ownsRow B 4 1 v L.length (bo L)) : ∃ sx cx, v = .slice sx L.length cx ∧ BitsAt W sx L := by
  rcases h.2 with ⟨hv, h0⟩ | ⟨g, cap, cur, hv, hb, hg, hn, hm, hsz, ht⟩
  · have : L = [] := List.eq_nil_of_length_eq_zero h0
    subst this
    exact ⟨none, 0, hv, ⟨fun k hk => by simp at hk⟩⟩
  · refine ⟨_, _, hv, ⟨fun k hk => ⟨g, 0, rfl, (Array.getElem?_eq_some_iff.1 hg).1, ?_⟩⟩⟩
    rw [cell_row hg, Nat.zero_add]
    have e : (cur.toList.take (L.length * 1))[k]? = (bo L)[k]? := by rw [ht]
    rw [List.getElem?_take_of_lt (by omega)] at e
    simp only [bo, List.getElem?_map, List.getElem?_eq_getElem hk, Option.map_some] at e
    simpa using e
theorem eval_val (f : List Nd) (L : List Bool) : ∃ (b : Bool) (n : Int), evalV (evalF f L) = .tuple #[.bool b, .int .i64 n] := by
  cases evalF f L with
  | ok b => exact ⟨b, 0, rfl⟩
  | error n => exact ⟨false, n, rfl⟩

/-- all of a list of truths behind none. -/
theorem app_bits {ops : Array Oper} {rest : List Oper} {o : Oper} {a : Act} {Q : Exit → Act → World → Prop} {W : World} (hgd : o.guard = none) (sl y : Operand)
    (ho : o.op = .call { callee := .builtin .append, args := #[sl, y], argTypes := #[41, 41] }) (L : List Bool) (sb : Option Addr) (cb : Nat) (hb : BitsAt W sb L) (hcb : sb = none → cb = 0) (hs : a.eval sl = .slice none 0 0) (hx : a.eval y = .slice sb L.length cb) (hl : L.length ≤ 140737488351232)
    (hK : ∀ sx cx w', BitsAt w' sx L → Below W.heap.size W w' → wpList Tryz.prog ops Q rest (a.put o.dst (.slice sx L.length cx)) w') :
    wpList Tryz.prog ops Q (o :: rest) a W := by
  cases sb with
  | none =>
    have h0 : L = [] := by
      cases L with
      | nil => rfl
      | cons x r =>
        obtain ⟨g, o, e, _⟩ := hb.at_ 0 (by simp)
        cases e
    subst h0
    obtain ⟨i, hi, _⟩ := info_parts info4
    have hc := hcb rfl
    subst hc
    exact wpList_append_own_none hgd sl y 41 ho W.heap.size 4 i 1 Tryz.underlying41 hi (.slice none 0 0) 0 [] hs (World.ownsRow_nil _ _ _ _) hx (hK none 0 W ⟨fun k hk => by simp at hk⟩ (Below.refl _ _))
  | some ad =>
    obtain ⟨i, hi, hz0, hz1, hz2⟩ := info_parts info4
    have hown : W.ownsRow W.heap.size 4 1 (.slice none 0 0) 0 [] := World.ownsRow_nil _ _ _ _
    refine wpList_append_own W hgd sl y 41 ho W.heap.size 4 i _ 1 1 Tryz.underlying41 hi hz0 hz1 hz2 rfl (by decide) (.slice none 0 0) 0 [] hs hown ad L.length cb (bo L) hx (by simp [bo]) (fun j u hu => ?_) (fun u hu => by simp only [bo, List.mem_map] at hu; obtain ⟨x, _, rfl⟩ := hu; rfl) (by unfold maxLen; omega) (by omega) (Nat.le_refl _) ?_
    · have hj : j < L.length := by
        have := (List.getElem?_eq_some_iff.1 hu).1
        simpa [bo] using this
      obtain ⟨g, o, e, _, c0⟩ := hb.at_ j hj
      cases e
      simp only [bo, List.getElem?_map, List.getElem?_eq_getElem hj, Option.map_some, Option.some.injEq] at hu
      rw [← hu]
      by_cases h0 : j = 0
      · subst h0
        simpa [Addr.add] using c0
      · simpa [Addr.add, h0] using c0
    · intro v' w' o' g' _
      rw [List.nil_append, Nat.zero_add] at o'
      obtain ⟨sx, cx, rfl, hb'⟩ := own_bits o'
      exact hK sx cx w' hb' ((Below.refl _ _).grown g' (Nat.le_refl _) (fun j hj => by simp [Value.ownBlock] at hj))

set_option maxHeartbeats 1000000 in
set_option maxRecDepth 100000 in
theorem says_law {K : World → Prop} (hP : ParseC K 13) (hR : PrintK K 11) (hE : EvalC 18) (f : List Nd) (sa : Option Addr) (ca : Nat) (L : List Bool) (sb : Option Addr) (cb : Nat) (w : World) (hk : K w) (hn : NodesAt w sa f) (hb : BitsAt w sb L) (hcb : sb = none → cb = 0) (hl : f.length ≤ 9223372036854775807) (hL : L.length ≤ 140737488351232) :
    Calls Tryz.prog 6 #[.slice sa f.length ca, .slice sb L.length cb] w fun e w' => e = .returned (.bool true) ∧ Below w.heap.size w w' := by
  have HA := hid (alive_any hP hR w hk)
  obtain ⟨bb, n, hV⟩ := eval_val f L
  have H1 : Hid (∀ (W : World) (sx : Option Addr) (cx : Nat), Below w.heap.size w W → BitsAt W sx L → Calls Tryz.prog 18 #[.slice sa f.length ca, .slice sx L.length cx] W fun e w' => e = .returned (.tuple #[.bool bb, .int .i64 n]) ∧ Below W.heap.size W w') := fun W sx cx hW hx => by
    have := hE f sa ca L sx cx W (hn.below hW) hx hl hL
    rwa [hV] at this
  have H2 : Hid (∀ (W : World), Below w.heap.size w W → Calls Tryz.prog 19 #[.slice sa f.length ca, .slice sb L.length cb] W fun e w' => e = .returned (.tuple #[.bool bb, .int .i64 n]) ∧ Below W.heap.size W w') := fun W hW => by
    have := eval_any f sa ca L sb cb W (hn.below hW) (hb.below hW) hl hL
    rwa [hV] at this
  have HB := hid hb
  have HCB := hid hcb
  clear hP hR hE hk hn hb hV hcb
  go_enter Tryz.func6, Tryz.ntmps6
  go_wp2_with (first
    | (have q := B3; clear q; go_at_call 19; refine (H2.out _ B3.out).mono ?_; rintro e w4 ⟨rfl, b4⟩; have X4 := hid (X3.out.below b4); have B4 := hid (B3.out.trans (b4.mono B3.out.size)); clear b4)
    | (have q := B2; clear q; go_at_call 18; refine (H1.out _ _ _ B2.out X2.out).mono ?_; rintro e w3 ⟨rfl, b3⟩; have X3 := hid (X2.out.below b3); have B3 := hid (B2.out.trans (b3.mono B2.out.size)); clear b3)
    | (have q := B1; clear q; at_builtin; refine app_bits rfl _ _ rfl L sb cb (HB.out.below B1.out) HCB.out rfl rfl hL ?_; intro sx cx w2 x2 b2; have X2 := hid x2; have B2 := hid (B1.out.trans (b2.mono B1.out.size)); clear x2 b2)
    | (go_at_call 9; refine HA.out.mono ?_; rintro e w1 ⟨rfl, b1⟩; have B1 := hid b1; clear b1))
  go_loopw [11] (fun iv W => ∃ k : Nat, k ≤ L.length ∧ iv = .int .i64 (k : Int) ∧ Hid (Below w4.heap.size w4 W)) (fun iv _ => L.length - (intOf iv).toNat)
  case atStart => exact ⟨0, Nat.zero_le _, rfl, Below.refl _ _⟩
  case round =>
    obtain ⟨k, hk, rfl, HW⟩ := hrel
    by_cases hlt : k < L.length
    · obtain ⟨ga, oa, hsx, hga, a0⟩ := X4.out.at_ k hlt
      obtain ⟨gb, ob, hsb, hgb, b0⟩ := (HB.out.below B4.out).at_ k hlt
      subst hsx hsb
      have p0 := below_cell HW.out hga a0
      have q0 := below_cell HW.out hgb b0
      obtain ⟨x, hx⟩ : ∃ x, x = L[k] := ⟨_, rfl⟩
      rw [← hx] at p0 q0
      clear a0 b0 hx
      go_wp2
      go_quiet (fail)
      go_wp2
      exact ⟨⟨k + 1, hlt, by go_num, below_drewN HW.out _⟩, by simp [intOf]; omega⟩
    · go_wp2
      go_ret
      exact ⟨by simp, B4.out.trans (HW.out.mono B4.out.size)⟩
end Go.Proofs.YtdkboifpdodonabGreatDoor.Doc
