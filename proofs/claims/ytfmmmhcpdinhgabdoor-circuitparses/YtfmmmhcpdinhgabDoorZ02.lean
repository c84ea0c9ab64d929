import Derived.Test.YtfmmmhcpdinhgabDoorZ01
/-
  The document's own table of names: add.
-/
namespace Go.Proofs.YtfmmmhcpdinhgabDoor
open Go.RowKit Go.Deep PureNet
set_option maxRecDepth 100000

theorem put_in {α : Type} (N : List α) (z s : α) (i : Nat) (h : i ≤ N.length) : ((N ++ [z]).take (i + 1) ++ N.drop i).set i s = N.take i ++ s :: N.drop i := by
  have h1 : (N ++ [z]).take (i + 1) = N.take i ++ [(N ++ [z])[i]'(by simp; omega)] := by
    rw [List.take_succ_eq_append_getElem (by simp; omega), List.take_append_of_le_length h]
  rw [h1, List.append_assoc, List.set_append_right _ _ (by simp; omega)]
  have h2 : i - (N.take i).length = 0 := by simp; omega
  rw [h2]
  rfl
theorem grown_set {w w1 : World} {g i : Nat} {u : Value} (h : w.grownBy w1 (some g)) : w.grownBy (w1.setCell ⟨g, i, none⟩ u) (some g) :=
  ⟨h.os, h.tape, h.output, by simpa using h.size, fun k hk hne => (Below.heap_setCell w1 _ _ _ (fun e => hne (by rw [e]))).trans (h.block k hk hne)⟩
theorem ns_one (N : List ByteArray) : ∀ v ∈ ns N, v.oneCell' = true := fun v hv => by simp only [ns, List.mem_map] at hv; obtain ⟨x, _, rfl⟩ := hv; rfl
theorem nu_one (P : List Int) : ∀ v ∈ nu P, v.oneCell' = true := fun v hv => by simp only [nu, List.mem_map] at hv; obtain ⟨x, _, rfl⟩ := hv; rfl

/-- append of one to a row in the making, with what becomes of its block. -/
theorem mk_far {ops : Array Oper} {rest : List Oper} {o : Oper} {a : Act} {Q : Exit → Act → World → Prop} {w W : World} {v : Value} {e size n : Nat} {xs : List Value} (hgd : o.guard = none) (sl y : Operand) (t : TypeId) (z : Value) (bytes : Nat)
    (ho : o.op = .call { callee := .builtin .append, args := #[sl, y], argTypes := #[t, t] }) (hu : Tryd.prog.underlying t = some (.slice e)) (hinf : (Tryd.prog.info? e).map (fun i => (i.zero, i.size, i.bytes)) = some (some z, size, bytes)) (hzs : z.cells.size = size) (hsz : 0 < size)
    (h : Mk w W e size v n xs) (news : List Value) (u : TypeId) (ad : Nat) (had : ad = W.heap.size) (hs : a.eval sl = v) (hx : a.eval y = .slice (some ⟨ad, 0, none⟩) 1 1) (hl : news.length = size) (h1 : ∀ u ∈ news, u.oneCell' = true) (hn : n ≤ 140737488351232) (hby : (n + 1) * bytes ≤ 140737488351233)
    (hK : ∀ sx cx w', (W.alloc (.cells news.toArray u)).grownBy w' v.ownBlock → Mk w w' e size (.slice sx (n + 1) cx) (n + 1) (xs ++ news) → (∀ g, (Value.slice sx (n + 1) cx).ownBlock = some g → v.ownBlock = some g ∨ (W.alloc (.cells news.toArray u)).heap.size ≤ g) → wpList Tryd.prog ops Q rest (a.put o.dst (.slice sx (n + 1) cx)) w') :
    wpList Tryd.prog ops Q (o :: rest) a (W.alloc (.cells news.toArray u)) := by
  subst had
  have h2 := h.on ((Below.refl _ _).alloc (Nat.le_refl _) (Obj.cells news.toArray u))
  obtain ⟨i, hi, hz0, hz1, hz2⟩ := info_parts hinf
  refine ShfKit.wpList_append_far _ hgd sl y t ho w.heap.size e i z size bytes hu hi hz0 hz1 hz2 hzs hsz v n xs hs h2.own ⟨W.heap.size, 0, none⟩ 1 1 news hx (by rw [hl, Nat.one_mul]) (fun j u hu => by rw [add_zero_addr, cell_row (heap_alloc_new W _)]; simpa using hu) h1 (by unfold maxLen; omega) (by omega) h2.below.size ?_
  intro v4 w4 o4 g4
  obtain ⟨sx, cx, rfl⟩ := own_shape o4
  have g5 : (W.alloc (.cells news.toArray u)).grownBy w4 v.ownBlock := by
    rcases g4 with ⟨_, g⟩ | ⟨_, g⟩
    · exact g
    · exact ⟨g.os, g.tape, g.output, g.size, fun k hk _ => g.block k hk (by simp)⟩
  refine hK sx cx w4 g5 (h2.grow o4 g5) (fun g hg => ?_)
  rcases g4 with ⟨e4, _⟩ | ⟨e4, _⟩
  · exact .inl (e4 ▸ hg)
  · exact .inr (e4 g hg)

set_option maxHeartbeats 2000000 in
set_option maxRecDepth 100000 in
theorem add_any (kb : Nat) (nv pv : Value) (N : List ByteArray) (P : List Int) (s : ByteArray) (p : Int) (S0 : Kst) (w : World) (h : Kn S0 w kb nv pv N P) (hPl : P.length = N.length) (hr : Rising N) (hl : N.length ≤ 1048575) :
    Calls Tryd.prog 41 #[.pointer (some ⟨kb, 0, none⟩), .string s, .int .i64 p] w fun e w' => (∃ v, e = .returned v) ∧ ∃ nv' pv' i, Spot N s i ∧ Kn S0 w' kb nv' pv' (N.take i ++ s :: N.drop i) (P.take i ++ p :: P.drop i) := by
  obtain ⟨sn, cn, rfl⟩ := own_shape h.on_
  obtain ⟨sp, cp, rfl⟩ := own_shape h.op
  obtain ⟨sn2, cn2, he, hcn, _⟩ := own_cells h.on_
  cases he
  have FD := hid (find_any kb sn cn (.slice sp P.length cp) N s w h.row hcn hr (by omega))
  have K0 := hid h
  have HPL := hid hPl
  have HR := hid hr
  clear h hcn hPl hr
  go_enter Tryd.func41, Tryd.ntmps41
  go_wp2_with (fail)
  with_reducible refine FD.out.mono ?_
  rintro e w1 ⟨i, hsp, rfl, b1⟩
  have hile := hsp.le
  have k1 := K0.out.on b1
  have K1 := hid k1
  have SP := hid hsp
  have c1 := fun j => cell_row k1.row j
  have f1 := fun j => unfrozen_row k1.row j
  have hb1 := k1.size
  clear hsp b1 k1
  go_wp2_with (first
    | (rw [← HW5.out])
    | (rw [← HW3.out])
    | (have q := K3; clear q; at_builtin; refine mk_far rfl _ _ 23 _ 8 rfl Tryd.underlying23 info3 rfl (by decide) (⟨K3.out.op, K3.out.below⟩ : Mk S0.w W3 3 1 (.slice sp P.length cp) P.length (nu P)) [.int .i64 0] 3 _ rfl rfl rfl rfl (fun u hu => by simp at hu; subst hu; rfl) (by have := HPL.out; omega) (by have := HPL.out; omega) ?_; intro sy cy w4 g4 m4 f4; obtain ⟨hr4, hk5⟩ := (K3.out.on ((Below.refl _ _).alloc (Nat.le_refl _) _)).place m4.own g4 f4; clear f4; have c4 := fun j => cell_row hr4 j; have f4 := fun j => unfrozen_row hr4 j; have hb4 := (Array.getElem?_eq_some_iff.1 hr4).1; obtain ⟨W5, hW5⟩ : ∃ W5, W5 = w4.setCell ⟨kb, 1, none⟩ (.slice sy (P.length + 1) cy) := ⟨_, rfl⟩; rw [← hW5] at hk5; have HW5 := hid hW5; have K5 := hid hk5; have c5 := fun j => cell_row hk5.row j; have f5 := fun j => unfrozen_row hk5.row j; have hb5 := hk5.size; clear g4 m4 hr4 hk5 hW5)
    | (at_builtin; refine mk_far rfl _ _ 43 _ 16 rfl Tryd.underlying43 info9 rfl (by decide) (⟨K1.out.on_, K1.out.below⟩ : Mk S0.w w1 9 1 (.slice sn N.length cn) N.length (ns N)) [.string ⟨#[]⟩] 9 _ rfl rfl rfl rfl (fun u hu => by simp at hu; subst hu; rfl) (by omega) (by omega) ?_; intro sx cx w2 g2 m2 f2; obtain ⟨hr2, hk3⟩ := (K1.out.on ((Below.refl _ _).alloc (Nat.le_refl _) _)).name m2.own g2 f2; clear f2; have c2 := fun j => cell_row hr2 j; have f2 := fun j => unfrozen_row hr2 j; have hb2 := (Array.getElem?_eq_some_iff.1 hr2).1; obtain ⟨W3, hW3⟩ : ∃ W3, W3 = w2.setCell ⟨kb, 0, none⟩ (.slice sx (N.length + 1) cx) := ⟨_, rfl⟩; rw [← hW3] at hk3; have HW3 := hid hW3; have K3 := hid hk3; have c3 := fun j => cell_row hk3.row j; have f3 := fun j => unfrozen_row hk3.row j; have hb3 := hk3.size; clear g2 m2 hr2 hk3 hW3))
  obtain ⟨gn, cpn, curn, hvn, hrn, hBn, hnn, hmn, hsn, htn⟩ := own_open K5.out.on_ (by simp)
  simp only [List.length_append, List.length_cons, List.length_nil, Nat.zero_add, Value.slice.injEq, true_and] at hvn
  obtain ⟨rfl, rfl⟩ := hvn
  have hnn2 : N.length + 1 ≤ cx := by simpa using hnn
  obtain ⟨cur1, hcp1, hsz1, ht1⟩ := copy_up (W := W5.drew) (i := i) (n := N.length) (xs := ns N) (z := .string ⟨#[]⟩) Tryd.underlying43 size9 hrn hsn hnn2 hile (by simp [ns]) (by simpa [ns] using htn) (ns_one N) (by omega)
  obtain ⟨W6, hW6⟩ : ∃ W6, W6 = W5.drew.setRow gn cur1 := ⟨_, rfl⟩
  have hr6 : W6.heap[gn]? = some (.cells cur1 9 (0, 0)) := by rw [hW6]; exact setRow_heap _ _ curn _ 9 (0, 0) hrn
  have K6 : Hid (Kn S0 W6 kb (.slice (some ⟨gn, 0, none⟩) (N.length + 1) cx) (.slice sy (P.length + 1) cy) ((N ++ [(⟨#[]⟩ : ByteArray)]).take (i + 1) ++ N.drop i) (P ++ [0])) := by
    refine (K5.out.on (Below.refl _ _).drew).names (by rw [hW6]; exact setRow_grown _ _ _) hr6 hsz1 hnn2 (by simpa using hmn) (by simp; omega) (by rw [ht1]; simp [ns, List.map_take, List.map_drop])
  have a0 : W5.drew.cell? ⟨kb, 0, none⟩ = some (.slice (some ⟨gn, 0, none⟩) (N.length + 1) cx) := (c5 0).trans rfl
  have a6 : W6.cell? ⟨kb, 0, none⟩ = some (.slice (some ⟨gn, 0, none⟩) (N.length + 1) cx) := (cell_row K6.out.row 0).trans rfl
  have v1 : IntKind.i64.wrap ((i : Int) + 1) = (i : Int) + 1 := by rw [IntKind.wrap_i64]; omega
  have v2 : (0 : Int) ≤ (i : Int) + 1 := by omega
  have v3 : (i : Int) + 1 ≤ (N.length : Int) + 1 := by omega
  have v4 : ((i : Int) + 1).toNat = i + 1 := by omega
  have v5 : (i : Int) ≤ (N.length : Int) + 1 := by omega
  rw [← hW6] at hcp1
  have HW6 := hid hW6
  clear hW6 c1 f1 hb1 c2 f2 hb2 c3 f3 hb3 c4 f4 hb4 HW3 HW5 hrn hsn htn hsz1 ht1
  refine wp_region_noPanic ?_
  refine wp_region_held_drew (S := fun W => W.cell? ⟨kb, 0, none⟩ = some (.slice (some ⟨gn, 0, none⟩) (N.length + 1) cx)) (by kernel_rfl) a0 (fun hHeld => ?_)
  refine wpAnyH_take (i := 0) (v := ?_) (by simp only [List.getElem?_toArray, List.getElem?_cons_zero]; rfl) (by kernel_rfl) (by kernel_rfl) (by kernel_rfl) (fun _ _ _ h => h) (Or.inl ⟨by rfl, ?_⟩) (by assumption) ?_
  rotate_left 1
  · intro w hSw; (try dsimp only at hSw); go_simp; (try with_reducible rfl)
  try simp only [Act.put, List.setIfInBounds_toArray, List.set_cons_zero, List.set_cons_succ]
  refine wpAnyH_take (i := 1) (v := ?_) (by simp only [List.getElem?_toArray, List.getElem?_cons_succ, List.getElem?_cons_zero]; rfl) (by kernel_rfl) (by kernel_rfl) (by kernel_rfl) (fun _ _ _ h => h) (Or.inl ⟨by rfl, ?_⟩) (by assumption) ?_
  rotate_left 1
  · intro w hSw; (try dsimp only at hSw); go_simp; (try with_reducible rfl)
  try simp only [Act.put, List.setIfInBounds_toArray, List.set_cons_zero, List.set_cons_succ]
  refine wpAnyH_take (i := 2) (v := ?_) (by simp only [List.getElem?_toArray, List.getElem?_cons_succ, List.getElem?_cons_zero]; rfl) (by kernel_rfl) (by kernel_rfl) (by kernel_rfl) (fun _ _ _ h => h) (Or.inl ⟨by rfl, ?_⟩) (by assumption) ?_
  rotate_left 1
  · intro w hSw; (try dsimp only at hSw); go_simp; (try with_reducible rfl)
  try simp only [Act.put, List.setIfInBounds_toArray, List.set_cons_zero, List.set_cons_succ]
  refine wpAnyH_take (i := 3) (v := ?_) (by simp only [List.getElem?_toArray, List.getElem?_cons_succ, List.getElem?_cons_zero]; rfl) (by kernel_rfl) (by kernel_rfl) (by kernel_rfl) (fun _ _ _ h => h) (Or.inl ⟨by rfl, ?_⟩) (by assumption) ?_
  rotate_left 1
  · intro w hSw; (try dsimp only at hSw); go_simp; (try with_reducible rfl)
  try simp only [Act.put, List.setIfInBounds_toArray, List.set_cons_zero, List.set_cons_succ]
  refine wpAnyH_take (i := 4) (v := ?_) (by simp only [List.getElem?_toArray, List.getElem?_cons_succ, List.getElem?_cons_zero]; rfl) (by kernel_rfl) (by kernel_rfl) (by kernel_rfl) (fun _ _ _ h => h) (Or.inl ⟨by rfl, ?_⟩) (by assumption) ?_
  rotate_left 1
  · intro w hSw; (try dsimp only at hSw); go_simp; (try with_reducible rfl)
  try simp only [Act.put, List.setIfInBounds_toArray, List.set_cons_zero, List.set_cons_succ]
  refine wpAnyH_take (i := 5) (v := ?_) (by simp only [List.getElem?_toArray, List.getElem?_cons_succ, List.getElem?_cons_zero]; rfl) (by kernel_rfl) (by kernel_rfl) (by kernel_rfl) (fun _ _ _ h => h) (Or.inl ⟨by rfl, ?_⟩) (by assumption) ?_
  rotate_left 1
  · intro w hSw; (try dsimp only at hSw); go_simp; (try with_reducible rfl)
  try simp only [Act.put, List.setIfInBounds_toArray, List.set_cons_zero, List.set_cons_succ]
  refine wpAnyH_take (i := 6) (v := ?_) (by simp only [List.getElem?_toArray, List.getElem?_cons_succ, List.getElem?_cons_zero]; rfl) (by kernel_rfl) (by kernel_rfl) (by kernel_rfl) (fun _ _ _ h => h) (Or.inl ⟨by rfl, ?_⟩) (by assumption) ?_
  rotate_left 1
  · intro w hSw; (try dsimp only at hSw); go_simp; (try with_reducible rfl)
  try simp only [Act.put, List.setIfInBounds_toArray, List.set_cons_zero, List.set_cons_succ]
  refine wpAnyH_take (i := 7) (v := ?_) (by simp only [List.getElem?_toArray, List.getElem?_cons_succ, List.getElem?_cons_zero]; rfl) (by kernel_rfl) (by kernel_rfl) (by kernel_rfl) (fun _ _ _ h => h) (Or.inl ⟨by rfl, ?_⟩) (by assumption) ?_
  rotate_left 1
  · intro w hSw; (try dsimp only at hSw); go_simp; (try with_reducible rfl)
  try simp only [Act.put, List.setIfInBounds_toArray, List.set_cons_zero, List.set_cons_succ]
  refine wpAnyH_take (i := 8) (v := ?_) (by simp only [List.getElem?_toArray, List.getElem?_cons_succ, List.getElem?_cons_zero]; rfl) (by kernel_rfl) (by kernel_rfl) (by kernel_rfl) (fun _ _ _ h => h) (Or.inl ⟨by rfl, ?_⟩) (by assumption) ?_
  rotate_left 1
  · intro w hSw; (try dsimp only at hSw); go_simp; (try with_reducible rfl)
  try simp only [Act.put, List.setIfInBounds_toArray, List.set_cons_zero, List.set_cons_succ]
  refine wpAnyH_take (i := 9) (v := ?_) (by simp only [List.getElem?_toArray, List.getElem?_cons_succ, List.getElem?_cons_zero]; rfl) (by kernel_rfl) (by kernel_rfl) (by kernel_rfl) (fun _ _ _ h => h) (Or.inl ⟨by rfl, ?_⟩) (by assumption) ?_
  rotate_left 1
  · intro w hSw; (try dsimp only at hSw); go_simp; (try with_reducible rfl)
  try simp only [Act.put, List.setIfInBounds_toArray, List.set_cons_zero, List.set_cons_succ]
  refine wpAnyH_take (i := 10) (v := ?_) (by simp only [List.getElem?_toArray, List.getElem?_cons_succ, List.getElem?_cons_zero]; rfl) (by kernel_rfl) (by kernel_rfl) (by kernel_rfl) (fun _ _ _ h => h) (Or.inl ⟨by rfl, ?_⟩) (by assumption) ?_
  rotate_left 1
  · intro w hSw; (try dsimp only at hSw); go_simp; (try with_reducible rfl)
  try simp only [Act.put, List.setIfInBounds_toArray, List.set_cons_zero, List.set_cons_succ]
  refine wpAnyH_take (i := 11) (v := ?_) (by simp only [List.getElem?_toArray, List.getElem?_cons_succ, List.getElem?_cons_zero]; rfl) (by kernel_rfl) (by kernel_rfl) (by kernel_rfl) (fun _ _ _ h => h) (Or.inl ⟨by rfl, ?_⟩) (by assumption) ?_
  rotate_left 1
  · intro w hSw; (try dsimp only at hSw); go_simp; (try with_reducible rfl)
  try simp only [Act.put, List.setIfInBounds_toArray, List.set_cons_zero, List.set_cons_succ]
  refine wpAnyH_take (i := 12) (v := ?_) (by simp only [List.getElem?_toArray, List.getElem?_cons_succ, List.getElem?_cons_zero]; rfl) (by kernel_rfl) (by kernel_rfl) (by kernel_rfl) (fun _ _ _ h => h) (Or.inl ⟨by rfl, ?_⟩) (by assumption) ?_
  rotate_left 1
  · intro w hSw; (try dsimp only at hSw); go_simp; (try with_reducible rfl)
  try simp only [Act.put, List.setIfInBounds_toArray, List.set_cons_zero, List.set_cons_succ]
  refine wpAnyH_ready (rs := [13]) (by kernel_rfl) (by simp) ?_
  refine AllReadyH.cons (by simp only [List.getElem?_toArray, List.getElem?_cons_succ, List.getElem?_cons_zero]; rfl) (fun K hK => ?_) AllReadyH.nil
  go_simp
  clear hHeld
  refine hK.out _ _ a6 (fun hHeld => ?_)
  clear hK K
  try simp only [Act.put, List.setIfInBounds_toArray, List.set_cons_zero, List.set_cons_succ]
  refine wpAnyH_done (by kernel_rfl) ?_ _
  refine NoPanic.normal ?_
  go_wp2
  all_goals
    obtain ⟨gp, cpp, curp, hvp, hrp, hBp, hnp, hmp, hsp2, htp⟩ := own_open K6.out.op (by simp)
    simp only [List.length_append, List.length_cons, List.length_nil, Nat.zero_add, Value.slice.injEq, true_and] at hvp
    obtain ⟨rfl, rfl⟩ := hvp
    have hnp2 : P.length + 1 ≤ cy := by simpa using hnp
    have hilp : i ≤ P.length := by rw [HPL.out]; exact hile
    obtain ⟨cur2, hcp2, hsz2, ht2⟩ := copy_up (W := W6.drew) (i := i) (n := P.length) (xs := nu P) (z := .int .i64 0) Tryd.underlying23 size3 hrp hsp2 hnp2 hilp (by simp [nu]) (by simpa [nu] using htp) (nu_one P) (by omega)
    obtain ⟨W7, hW7⟩ : ∃ W7, W7 = W6.drew.setRow gp cur2 := ⟨_, rfl⟩
    have hr7 : W7.heap[gp]? = some (.cells cur2 3 (0, 0)) := by rw [hW7]; exact setRow_heap _ _ curp _ 3 (0, 0) hrp
    have K7 : Hid (Kn S0 W7 kb (.slice (some ⟨gn, 0, none⟩) (N.length + 1) cx) (.slice (some ⟨gp, 0, none⟩) (P.length + 1) cy) ((N ++ [(⟨#[]⟩ : ByteArray)]).take (i + 1) ++ N.drop i) ((P ++ [0]).take (i + 1) ++ P.drop i)) := by
      refine (K6.out.on (Below.refl _ _).drew).places (by rw [hW7]; exact setRow_grown _ _ _) hr7 hsz2 hnp2 (by simpa using hmp) (by simp; omega) (by rw [ht2]; simp [nu, List.map_take, List.map_drop])
    have b0 : W6.drew.cell? ⟨kb, 1, none⟩ = some (.slice (some ⟨gp, 0, none⟩) (P.length + 1) cy) := (cell_row K6.out.row 1).trans rfl
    have b7 : W7.cell? ⟨kb, 1, none⟩ = some (.slice (some ⟨gp, 0, none⟩) (P.length + 1) cy) := (cell_row K7.out.row 1).trans rfl
    have u3 : (i : Int) + 1 ≤ (P.length : Int) + 1 := by omega
    have u5 : (i : Int) ≤ (P.length : Int) + 1 := by omega
    rw [← hW7] at hcp2
    have HW7 := hid hW7
    clear hW7 hrp hsp2 htp a6 a0 hcp1
    refine wp_region_noPanic ?_
    refine wp_region_held_drew (S := fun W => W.cell? ⟨kb, 1, none⟩ = some (.slice (some ⟨gp, 0, none⟩) (P.length + 1) cy)) (by kernel_rfl) b0 (fun hHeld => ?_)
    refine wpAnyH_take (i := 0) (v := ?_) (by simp only [List.getElem?_toArray, List.getElem?_cons_zero]; rfl) (by kernel_rfl) (by kernel_rfl) (by kernel_rfl) (fun _ _ _ h => h) (Or.inl ⟨by rfl, ?_⟩) (by assumption) ?_
    rotate_left 1
    · intro w hSw; (try dsimp only at hSw); go_simp; (try with_reducible rfl)
    try simp only [Act.put, List.setIfInBounds_toArray, List.set_cons_zero, List.set_cons_succ]
    refine wpAnyH_take (i := 1) (v := ?_) (by simp only [List.getElem?_toArray, List.getElem?_cons_succ, List.getElem?_cons_zero]; rfl) (by kernel_rfl) (by kernel_rfl) (by kernel_rfl) (fun _ _ _ h => h) (Or.inl ⟨by rfl, ?_⟩) (by assumption) ?_
    rotate_left 1
    · intro w hSw; (try dsimp only at hSw); go_simp; (try with_reducible rfl)
    try simp only [Act.put, List.setIfInBounds_toArray, List.set_cons_zero, List.set_cons_succ]
    refine wpAnyH_take (i := 2) (v := ?_) (by simp only [List.getElem?_toArray, List.getElem?_cons_succ, List.getElem?_cons_zero]; rfl) (by kernel_rfl) (by kernel_rfl) (by kernel_rfl) (fun _ _ _ h => h) (Or.inl ⟨by rfl, ?_⟩) (by assumption) ?_
    rotate_left 1
    · intro w hSw; (try dsimp only at hSw); go_simp; (try with_reducible rfl)
    try simp only [Act.put, List.setIfInBounds_toArray, List.set_cons_zero, List.set_cons_succ]
    refine wpAnyH_take (i := 3) (v := ?_) (by simp only [List.getElem?_toArray, List.getElem?_cons_succ, List.getElem?_cons_zero]; rfl) (by kernel_rfl) (by kernel_rfl) (by kernel_rfl) (fun _ _ _ h => h) (Or.inl ⟨by rfl, ?_⟩) (by assumption) ?_
    rotate_left 1
    · intro w hSw; (try dsimp only at hSw); go_simp; (try with_reducible rfl)
    try simp only [Act.put, List.setIfInBounds_toArray, List.set_cons_zero, List.set_cons_succ]
    refine wpAnyH_take (i := 4) (v := ?_) (by simp only [List.getElem?_toArray, List.getElem?_cons_succ, List.getElem?_cons_zero]; rfl) (by kernel_rfl) (by kernel_rfl) (by kernel_rfl) (fun _ _ _ h => h) (Or.inl ⟨by rfl, ?_⟩) (by assumption) ?_
    rotate_left 1
    · intro w hSw; (try dsimp only at hSw); go_simp; (try with_reducible rfl)
    try simp only [Act.put, List.setIfInBounds_toArray, List.set_cons_zero, List.set_cons_succ]
    refine wpAnyH_take (i := 5) (v := ?_) (by simp only [List.getElem?_toArray, List.getElem?_cons_succ, List.getElem?_cons_zero]; rfl) (by kernel_rfl) (by kernel_rfl) (by kernel_rfl) (fun _ _ _ h => h) (Or.inl ⟨by rfl, ?_⟩) (by assumption) ?_
    rotate_left 1
    · intro w hSw; (try dsimp only at hSw); go_simp; (try with_reducible rfl)
    try simp only [Act.put, List.setIfInBounds_toArray, List.set_cons_zero, List.set_cons_succ]
    refine wpAnyH_take (i := 6) (v := ?_) (by simp only [List.getElem?_toArray, List.getElem?_cons_succ, List.getElem?_cons_zero]; rfl) (by kernel_rfl) (by kernel_rfl) (by kernel_rfl) (fun _ _ _ h => h) (Or.inl ⟨by rfl, ?_⟩) (by assumption) ?_
    rotate_left 1
    · intro w hSw; (try dsimp only at hSw); go_simp; (try with_reducible rfl)
    try simp only [Act.put, List.setIfInBounds_toArray, List.set_cons_zero, List.set_cons_succ]
    refine wpAnyH_take (i := 7) (v := ?_) (by simp only [List.getElem?_toArray, List.getElem?_cons_succ, List.getElem?_cons_zero]; rfl) (by kernel_rfl) (by kernel_rfl) (by kernel_rfl) (fun _ _ _ h => h) (Or.inl ⟨by rfl, ?_⟩) (by assumption) ?_
    rotate_left 1
    · intro w hSw; (try dsimp only at hSw); go_simp; (try with_reducible rfl)
    try simp only [Act.put, List.setIfInBounds_toArray, List.set_cons_zero, List.set_cons_succ]
    refine wpAnyH_take (i := 8) (v := ?_) (by simp only [List.getElem?_toArray, List.getElem?_cons_succ, List.getElem?_cons_zero]; rfl) (by kernel_rfl) (by kernel_rfl) (by kernel_rfl) (fun _ _ _ h => h) (Or.inl ⟨by rfl, ?_⟩) (by assumption) ?_
    rotate_left 1
    · intro w hSw; (try dsimp only at hSw); go_simp; (try with_reducible rfl)
    try simp only [Act.put, List.setIfInBounds_toArray, List.set_cons_zero, List.set_cons_succ]
    refine wpAnyH_take (i := 9) (v := ?_) (by simp only [List.getElem?_toArray, List.getElem?_cons_succ, List.getElem?_cons_zero]; rfl) (by kernel_rfl) (by kernel_rfl) (by kernel_rfl) (fun _ _ _ h => h) (Or.inl ⟨by rfl, ?_⟩) (by assumption) ?_
    rotate_left 1
    · intro w hSw; (try dsimp only at hSw); go_simp; (try with_reducible rfl)
    try simp only [Act.put, List.setIfInBounds_toArray, List.set_cons_zero, List.set_cons_succ]
    refine wpAnyH_take (i := 10) (v := ?_) (by simp only [List.getElem?_toArray, List.getElem?_cons_succ, List.getElem?_cons_zero]; rfl) (by kernel_rfl) (by kernel_rfl) (by kernel_rfl) (fun _ _ _ h => h) (Or.inl ⟨by rfl, ?_⟩) (by assumption) ?_
    rotate_left 1
    · intro w hSw; (try dsimp only at hSw); go_simp; (try with_reducible rfl)
    try simp only [Act.put, List.setIfInBounds_toArray, List.set_cons_zero, List.set_cons_succ]
    refine wpAnyH_take (i := 11) (v := ?_) (by simp only [List.getElem?_toArray, List.getElem?_cons_succ, List.getElem?_cons_zero]; rfl) (by kernel_rfl) (by kernel_rfl) (by kernel_rfl) (fun _ _ _ h => h) (Or.inl ⟨by rfl, ?_⟩) (by assumption) ?_
    rotate_left 1
    · intro w hSw; (try dsimp only at hSw); go_simp; (try with_reducible rfl)
    try simp only [Act.put, List.setIfInBounds_toArray, List.set_cons_zero, List.set_cons_succ]
    refine wpAnyH_take (i := 12) (v := ?_) (by simp only [List.getElem?_toArray, List.getElem?_cons_succ, List.getElem?_cons_zero]; rfl) (by kernel_rfl) (by kernel_rfl) (by kernel_rfl) (fun _ _ _ h => h) (Or.inl ⟨by rfl, ?_⟩) (by assumption) ?_
    rotate_left 1
    · intro w hSw; (try dsimp only at hSw); go_simp; (try with_reducible rfl)
    try simp only [Act.put, List.setIfInBounds_toArray, List.set_cons_zero, List.set_cons_succ]
    refine wpAnyH_ready (rs := [13]) (by kernel_rfl) (by simp) ?_
    refine AllReadyH.cons (by simp only [List.getElem?_toArray, List.getElem?_cons_succ, List.getElem?_cons_zero]; rfl) (fun K hK => ?_) AllReadyH.nil
    go_simp
    clear hHeld
    refine hK.out _ _ b7 (fun hHeld => ?_)
    clear hK K
    try simp only [Act.put, List.setIfInBounds_toArray, List.set_cons_zero, List.set_cons_succ]
    refine wpAnyH_done (by kernel_rfl) ?_ _
    refine NoPanic.normal ?_
    have c7 := fun j => cell_row K7.out.row j
    have hb7 := K7.out.size
    obtain ⟨gn2, cpn2, curn2, hvn2, hrn2, hBn2, hnn3, hmn2, hsn2, htn2⟩ := own_open K7.out.on_ (by simp; omega)
    simp only [Value.slice.injEq, Option.some.injEq, Addr.mk.injEq, and_true] at hvn2
    obtain ⟨rfl, hln2, rfl⟩ := hvn2
    have fn := fun j => unfrozen_row hrn2 j
    obtain ⟨vn, en⟩ : ∃ v, W7.cell? ⟨gn, i, none⟩ = some v := ⟨_, (cell_row hrn2 i).trans (Array.getElem?_eq_getElem (by omega))⟩
    have hgn7 := (Array.getElem?_eq_some_iff.1 hrn2).1
    obtain ⟨W8, hW8⟩ : ∃ W8, W8 = W7.setCell ⟨gn, i, none⟩ (.string s) := ⟨_, rfl⟩
    have hr8 : W8.heap[gn]? = some (.cells (curn2.setIfInBounds i (.string s)) 9 (0, 0)) := by rw [hW8]; exact row_set hrn2
    have K8 : Hid (Kn S0 W8 kb (.slice (some ⟨gn, 0, none⟩) (N.length + 1) cx) (.slice (some ⟨gp, 0, none⟩) (P.length + 1) cy) (N.take i ++ s :: N.drop i) ((P ++ [0]).take (i + 1) ++ P.drop i)) := by
      refine K7.out.names (by rw [hW8]; exact grown_set (World.grownBy.refl _ _)) hr8 (by simpa using hsn2) hnn2 hmn2 (by simp; omega) ?_
      rw [Array.toList_setIfInBounds, List.take_set, hln2, htn2, ← put_in N (⟨#[]⟩ : ByteArray) s i hile]
      simp [ns, List.map_set]
    have K7p := K7.out.op
    have c8 := fun j => cell_row K8.out.row j
    have hb8 := K8.out.size
    obtain ⟨gp2, cpp2, curp2, hvp2, hrp2, hBp2, hnp3, hmp2, hsp3, htp2⟩ := own_open K8.out.op (by simp; omega)
    simp only [Value.slice.injEq, Option.some.injEq, Addr.mk.injEq, and_true] at hvp2
    obtain ⟨rfl, hlp2, rfl⟩ := hvp2
    have fp := fun j => unfrozen_row hrp2 j
    obtain ⟨vp, ep⟩ : ∃ v, W8.cell? ⟨gp, i, none⟩ = some v := ⟨_, (cell_row hrp2 i).trans (Array.getElem?_eq_getElem (by omega))⟩
    have hgp8 := (Array.getElem?_eq_some_iff.1 hrp2).1
    obtain ⟨W9, hW9⟩ : ∃ W9, W9 = W8.setCell ⟨gp, i, none⟩ (.int .i64 p) := ⟨_, rfl⟩
    have hr9 : W9.heap[gp]? = some (.cells (curp2.setIfInBounds i (.int .i64 p)) 3 (0, 0)) := by rw [hW9]; exact row_set hrp2
    have K9 : Hid (Kn S0 W9 kb (.slice (some ⟨gn, 0, none⟩) (N.length + 1) cx) (.slice (some ⟨gp, 0, none⟩) (P.length + 1) cy) (N.take i ++ s :: N.drop i) (P.take i ++ p :: P.drop i)) := by
      refine K8.out.places (by rw [hW9]; exact grown_set (World.grownBy.refl _ _)) hr9 (by simpa using hsp3) hnp2 hmp2 (by simp; omega) ?_
      rw [Array.toList_setIfInBounds, List.take_set, hlp2, htp2, ← put_in P (0 : Int) p i hilp]
      simp [nu, List.map_set]
    have HW8 := hid hW8
    have HW9 := hid hW9
    clear hW8 hW9 hln2 hlp2 htn2 htp2 hsn2 hsp3 hr8 hr9 hrn2 hrp2 hcp2 K7p hnn hnp hnn3 hnp3 ht2 hsz2 hr7 hr6 c5 f5 hb5
    go_wp2_with (first
      | (rw [← HW8.out])
      | (rw [← HW9.out]))
    all_goals first | go_end0 | refine bodyPost_end (results_none rfl _ _ _) rfl ?_
    all_goals exact ⟨⟨_, rfl⟩, _, _, i, SP.out, K9.out⟩
end Go.Proofs.YtfmmmhcpdinhgabDoor
/-
  DERIVED: THE SHELF's CONTRACTS AT THIS DUMP, IN PLAIN WORDS (tools/lay-plain.mjs out of 'YtfmmmhcpdinhgabDoorShelf.lean', which tools/lay-shelf.mjs wrote): THE SAME DECLARATIONS UNDER THE SAME NAMES: 'import', 'namespace', 'open', 'def', 'theorem' AND NOTHING ELSE: no command of the shelf's: FOR A HAND-IN. Each laying: the table of numbers ('.._ren') and one theorem, a field a fact of the dump's own or the kernel's comparison; each contract: ONE APPLICATION.
-/
namespace Go.Proofs
open Go.Shelf
def Tryd.lays161_ren : Go.Shelf.Ren := ⟨fun | 161 => 53 | 231 => 61 | 227 => 62 | 233 => 63 | 235 => 64 | 228 => 67 | 197 => 77 | 151 => 78 | 260 => 91 | 152 => 65 | 137 => 79 | 119 => 80 | 224 => 75 | 225 => 74 | 217 => 73 | 266 => 89 | n => n, fun | 9 => 9 | 4 => 4 | 3 => 3 | 5 => 5 | 117 => 113 | 116 => 112 | 0 => 0 | 124 => 116 | 105 => 123 | 21 => 21 | 119 => 136 | 46 => 122 | 139 => 139 | 138 => 138 | n => n, fun | 3 => 4 | 4 => 5 | n => n⟩
theorem Tryd.lays161 : Go.Proofs.Lays.n161 Tryd.prog Tryd.lays161_ren := {
  mixed := by kernel_rfl
  f119 := Tryd.func80.trans (congrArg some (by kernel_rfl))
  f137 := Tryd.func79.trans (congrArg some (by kernel_rfl))
  f151 := Tryd.func78.trans (congrArg some (by kernel_rfl))
  f152 := Tryd.func65.trans (congrArg some (by kernel_rfl))
  f161 := Tryd.func53.trans (congrArg some (by kernel_rfl))
  f197 := Tryd.func77.trans (congrArg some (by kernel_rfl))
  f217 := Tryd.func73.trans (congrArg some (by kernel_rfl))
  f224 := Tryd.func75.trans (congrArg some (by kernel_rfl))
  f225 := Tryd.func74.trans (congrArg some (by kernel_rfl))
  f227 := Tryd.func62.trans (congrArg some (by kernel_rfl))
  f228 := Tryd.func67.trans (congrArg some (by kernel_rfl))
  f231 := Tryd.func61.trans (congrArg some (by kernel_rfl))
  f233 := Tryd.func63.trans (congrArg some (by kernel_rfl))
  f235 := Tryd.func64.trans (congrArg some (by kernel_rfl))
  f260 := Tryd.func91.trans (congrArg some (by kernel_rfl))
  f266 := Tryd.func89.trans (congrArg some (by kernel_rfl))
  t0 := Tryd.underlying0
  a0 := Tryd.isAgg0
  z0 := Tryd.sizeOf0
  v0 := Tryd.zeroValue0
  t3 := Tryd.underlying3
  a3 := Tryd.isAgg3
  z3 := Tryd.sizeOf3
  v3 := Tryd.zeroValue3
  t4 := Tryd.underlying4
  a4 := Tryd.isAgg4
  z4 := Tryd.sizeOf4
  v4 := Tryd.zeroValue4
  t5 := Tryd.underlying5
  a5 := Tryd.isAgg5
  z5 := Tryd.sizeOf5
  v5 := Tryd.zeroValue5
  t9 := Tryd.underlying9
  a9 := Tryd.isAgg9
  z9 := Tryd.sizeOf9
  v9 := Tryd.zeroValue9
  t21 := Tryd.underlying21
  a21 := Tryd.isAgg21
  z21 := Tryd.sizeOf21
  v21 := Tryd.zeroValue21
  t46 := Tryd.underlying122
  a46 := Tryd.isAgg122
  z46 := Tryd.sizeOf122
  v46 := Tryd.zeroValue122
  t105 := Tryd.underlying123
  a105 := Tryd.isAgg123
  z105 := Tryd.sizeOf123
  v105 := Tryd.zeroValue123
  t116 := Tryd.underlying112
  a116 := Tryd.isAgg112
  z116 := Tryd.sizeOf112
  t117 := Tryd.underlying113
  a117 := Tryd.isAgg113
  z117 := Tryd.sizeOf113
  v117 := Tryd.zeroValue113
  t119 := Tryd.underlying136
  a119 := Tryd.isAgg136
  z119 := Tryd.sizeOf136
  t124 := Tryd.underlying116
  a124 := Tryd.isAgg116
  z124 := Tryd.sizeOf116
  v124 := Tryd.zeroValue116
  t138 := Tryd.underlying138
  a138 := Tryd.isAgg138
  z138 := Tryd.sizeOf138
  v138 := Tryd.zeroValue138
  t139 := Tryd.underlying139
  a139 := Tryd.isAgg139
  z139 := Tryd.sizeOf139
  v139 := Tryd.zeroValue139
  g3 := by kernel_rfl
  g4 := by kernel_rfl }
def Tryd.laysM316_ren : Go.Shelf.Ren := ⟨fun | 316 => 44 | n => n, fun | 9 => 9 | 3 => 3 | 4 => 4 | 37 => 108 | 0 => 0 | 127 => 109 | 5 => 5 | n => n, fun | n => n⟩
theorem Tryd.laysM316 : Go.Proofs.LaysM.n316 Tryd.prog Tryd.laysM316_ren := {
  mixed := by kernel_rfl
  f316 := Tryd.func44.trans (congrArg some (by kernel_rfl))
  t0 := Tryd.underlying0
  a0 := Tryd.isAgg0
  z0 := Tryd.sizeOf0
  v0 := Tryd.zeroValue0
  t3 := Tryd.underlying3
  a3 := Tryd.isAgg3
  z3 := Tryd.sizeOf3
  v3 := Tryd.zeroValue3
  t4 := Tryd.underlying4
  a4 := Tryd.isAgg4
  z4 := Tryd.sizeOf4
  v4 := Tryd.zeroValue4
  t9 := Tryd.underlying9
  a9 := Tryd.isAgg9
  z9 := Tryd.sizeOf9
  v9 := Tryd.zeroValue9
  t37 := Tryd.underlying108
  a37 := Tryd.isAgg108
  z37 := Tryd.sizeOf108
  v37 := Tryd.zeroValue108
  t127 := Tryd.underlying109
  a127 := Tryd.isAgg109
  z127 := Tryd.sizeOf109
  v127 := Tryd.zeroValue109
  t5 := Tryd.underlying5
  a5 := Tryd.isAgg5
  z5 := Tryd.sizeOf5
  v5 := Tryd.zeroValue5
  i0 := by kernel_rfl
  i3 := by kernel_rfl
  i4 := by kernel_rfl
  i5 := by kernel_rfl
  i9 := by kernel_rfl
  i37 := by kernel_rfl
  i127 := by kernel_rfl }
open Go.RowKit in
/-- internal/stringslite.Clone (what strings.Clone calls): "Clone returns a fresh copy of s.": THE SAME BYTES. Of what was there nothing has turned (a new row is laid, and frozen, where s is not empty). (LAID: no walk: one application.) -/
theorem Tryd.stringslite_Clone (s : ByteArray) (w : World) (hlim : s.size ≤ 281474976710656) :
    Calls Tryd.prog 44 #[.string s] w fun e w' => e = .returned (.string s) ∧ Below w.heap.size w w' := Any.stringslite_Clone Tryd.laysM316 s w hlim
def Tryd.lays219_ren : Go.Shelf.Ren := ⟨fun | 219 => 60 | 217 => 73 | 225 => 74 | 224 => 75 | 267 => 76 | 266 => 89 | 314 => 90 | n => n, fun | 9 => 9 | 3 => 3 | 4 => 4 | 5 => 5 | 46 => 122 | 146 => 134 | 51 => 133 | n => n, fun | 1 => 2 | n => n⟩
theorem Tryd.lays219 : Go.Proofs.Lays.n219 Tryd.prog Tryd.lays219_ren := {
  mixed := by kernel_rfl
  f217 := Tryd.func73.trans (congrArg some (by kernel_rfl))
  f219 := Tryd.func60.trans (congrArg some (by kernel_rfl))
  f224 := Tryd.func75.trans (congrArg some (by kernel_rfl))
  f225 := Tryd.func74.trans (congrArg some (by kernel_rfl))
  f266 := Tryd.func89.trans (congrArg some (by kernel_rfl))
  f267 := Tryd.func76.trans (congrArg some (by kernel_rfl))
  f314 := Tryd.func90.trans (congrArg some (by kernel_rfl))
  t3 := Tryd.underlying3
  a3 := Tryd.isAgg3
  z3 := Tryd.sizeOf3
  v3 := Tryd.zeroValue3
  t4 := Tryd.underlying4
  a4 := Tryd.isAgg4
  z4 := Tryd.sizeOf4
  v4 := Tryd.zeroValue4
  t5 := Tryd.underlying5
  a5 := Tryd.isAgg5
  z5 := Tryd.sizeOf5
  v5 := Tryd.zeroValue5
  t9 := Tryd.underlying9
  a9 := Tryd.isAgg9
  z9 := Tryd.sizeOf9
  v9 := Tryd.zeroValue9
  t46 := Tryd.underlying122
  a46 := Tryd.isAgg122
  z46 := Tryd.sizeOf122
  v46 := Tryd.zeroValue122
  t51 := Tryd.underlying133
  a51 := Tryd.isAgg133
  z51 := Tryd.sizeOf133
  v51 := Tryd.zeroValue133
  t146 := Tryd.underlying134
  a146 := Tryd.isAgg134
  z146 := Tryd.sizeOf134
  v146 := Tryd.zeroValue134
  g1 := by kernel_rfl }
open Go.RowKit Go.Lib in
/-- internal/stringslite.Index (what strings.Index calls) AT A substr OF ONE BYTE c: IT RETURNS 'Lib.indexByte s c'; the world is as it was. (LAID: no walk: one application.) -/
theorem Tryd.stringslite_Index_one (s : ByteArray) (c : UInt8) (w : World) :
    Calls Tryd.prog 60 #[.string s, .string ⟨#[c]⟩] w fun e w' => e = .returned (.int .i64 (Lib.indexByte s.data.toList c)) ∧ w' = w := Any.stringslite_Index_one Tryd.lays219 s c w
def Tryd.lays138_ren : Go.Shelf.Ren := ⟨fun | 138 => 68 | 195 => 81 | 218 => 82 | 143 => 83 | 219 => 60 | 217 => 73 | 225 => 74 | 224 => 75 | 267 => 76 | 266 => 89 | 314 => 90 | n => n, fun | 9 => 9 | 3 => 3 | 4 => 4 | 5 => 5 | 0 => 0 | 46 => 122 | 146 => 134 | 51 => 133 | n => n, fun | 1 => 2 | n => n⟩
theorem Tryd.lays138 : Go.Proofs.Lays.n138 Tryd.prog Tryd.lays138_ren := {
  mixed := by kernel_rfl
  f138 := Tryd.func68.trans (congrArg some (by kernel_rfl))
  f143 := Tryd.func83.trans (congrArg some (by kernel_rfl))
  f195 := Tryd.func81.trans (congrArg some (by kernel_rfl))
  f217 := Tryd.func73.trans (congrArg some (by kernel_rfl))
  f218 := Tryd.func82.trans (congrArg some (by kernel_rfl))
  f219 := Tryd.func60.trans (congrArg some (by kernel_rfl))
  f224 := Tryd.func75.trans (congrArg some (by kernel_rfl))
  f225 := Tryd.func74.trans (congrArg some (by kernel_rfl))
  f266 := Tryd.func89.trans (congrArg some (by kernel_rfl))
  f267 := Tryd.func76.trans (congrArg some (by kernel_rfl))
  f314 := Tryd.func90.trans (congrArg some (by kernel_rfl))
  t0 := Tryd.underlying0
  a0 := Tryd.isAgg0
  z0 := Tryd.sizeOf0
  v0 := Tryd.zeroValue0
  t3 := Tryd.underlying3
  a3 := Tryd.isAgg3
  z3 := Tryd.sizeOf3
  v3 := Tryd.zeroValue3
  t4 := Tryd.underlying4
  a4 := Tryd.isAgg4
  z4 := Tryd.sizeOf4
  v4 := Tryd.zeroValue4
  t5 := Tryd.underlying5
  a5 := Tryd.isAgg5
  z5 := Tryd.sizeOf5
  v5 := Tryd.zeroValue5
  t9 := Tryd.underlying9
  a9 := Tryd.isAgg9
  z9 := Tryd.sizeOf9
  v9 := Tryd.zeroValue9
  t46 := Tryd.underlying122
  a46 := Tryd.isAgg122
  z46 := Tryd.sizeOf122
  v46 := Tryd.zeroValue122
  t51 := Tryd.underlying133
  a51 := Tryd.isAgg133
  z51 := Tryd.sizeOf133
  v51 := Tryd.zeroValue133
  t146 := Tryd.underlying134
  a146 := Tryd.isAgg134
  z146 := Tryd.sizeOf134
  v146 := Tryd.zeroValue134
  g1 := by kernel_rfl }
open Go.RowKit Go.Lib in
/-- strings.Count AT A substr OF ONE BYTE ('hp'): "Count counts the number of non-overlapping instances of substr in s.": IT RETURNS 'Lib.countByte s (that byte)'; the world is as it was. ✋ NO CONTRACT HERE YET at an empty substr (utf8.RuneCountInString) or at a longer one (a loop over strings.Index). (LAID: no walk: one application.) -/
theorem Tryd.strings_Count_one (s : ByteArray) (c : UInt8) (w : World) :
    Calls Tryd.prog 68 #[.string s, .string ⟨#[c]⟩] w fun e w' => e = .returned (.int .i64 (Lib.countByte s.data.toList c)) ∧ w' = w := Any.strings_Count_one Tryd.lays138 s c w
def Tryd.lays148_ren : Go.Shelf.Ren := ⟨fun | 148 => 69 | 222 => 84 | 223 => 85 | 269 => 92 | n => n, fun | 9 => 9 | 3 => 3 | 4 => 4 | 5 => 5 | 146 => 134 | 51 => 133 | 46 => 122 | n => n, fun | n => n⟩
theorem Tryd.lays148 : Go.Proofs.Lays.n148 Tryd.prog Tryd.lays148_ren := {
  mixed := by kernel_rfl
  f148 := Tryd.func69.trans (congrArg some (by kernel_rfl))
  f222 := Tryd.func84.trans (congrArg some (by kernel_rfl))
  f223 := Tryd.func85.trans (congrArg some (by kernel_rfl))
  f269 := Tryd.func92.trans (congrArg some (by kernel_rfl))
  t3 := Tryd.underlying3
  a3 := Tryd.isAgg3
  z3 := Tryd.sizeOf3
  v3 := Tryd.zeroValue3
  t4 := Tryd.underlying4
  a4 := Tryd.isAgg4
  z4 := Tryd.sizeOf4
  v4 := Tryd.zeroValue4
  t5 := Tryd.underlying5
  a5 := Tryd.isAgg5
  z5 := Tryd.sizeOf5
  v5 := Tryd.zeroValue5
  t9 := Tryd.underlying9
  a9 := Tryd.isAgg9
  z9 := Tryd.sizeOf9
  v9 := Tryd.zeroValue9
  t46 := Tryd.underlying122
  a46 := Tryd.isAgg122
  z46 := Tryd.sizeOf122
  v46 := Tryd.zeroValue122
  t51 := Tryd.underlying133
  a51 := Tryd.isAgg133
  z51 := Tryd.sizeOf133
  v51 := Tryd.zeroValue133
  t146 := Tryd.underlying134
  a146 := Tryd.isAgg134
  z146 := Tryd.sizeOf134
  v146 := Tryd.zeroValue134 }
open Go.RowKit Go.Lib in
/-- strings.LastIndex AT A substr OF ONE BYTE (as in 'strings.LastIndex(path, "/")'): the last place of that byte, or -1. (LAID: no walk: one application.) -/
theorem Tryd.strings_LastIndex_one (s sub : ByteArray) (h1 : sub.size = 1) (hs : s.size < 4611686018427387904) (w : World) :
    Calls Tryd.prog 69 #[.string s, .string sub] w fun e w' => e = .returned (.int .i64 (Lib.lastIndexByte s ((sub[0]'(by omega)).toNat : Int))) ∧ w' = w := Any.strings_LastIndex_one Tryd.lays148 s sub h1 hs w
def Tryd.lays153_ren : Go.Shelf.Ren := ⟨fun | 153 => 54 | 152 => 65 | 226 => 66 | 227 => 62 | 228 => 67 | 137 => 79 | 119 => 80 | 224 => 75 | 225 => 74 | 217 => 73 | 266 => 89 | n => n, fun | 9 => 9 | 3 => 3 | 4 => 4 | 5 => 5 | 21 => 21 | 117 => 113 | 116 => 112 | 0 => 0 | 46 => 122 | 124 => 116 | n => n, fun | n => n⟩
theorem Tryd.lays153 : Go.Proofs.Lays.n153 Tryd.prog Tryd.lays153_ren := {
  mixed := by kernel_rfl
  f119 := Tryd.func80.trans (congrArg some (by kernel_rfl))
  f137 := Tryd.func79.trans (congrArg some (by kernel_rfl))
  f152 := Tryd.func65.trans (congrArg some (by kernel_rfl))
  f153 := Tryd.func54.trans (congrArg some (by kernel_rfl))
  f217 := Tryd.func73.trans (congrArg some (by kernel_rfl))
  f224 := Tryd.func75.trans (congrArg some (by kernel_rfl))
  f225 := Tryd.func74.trans (congrArg some (by kernel_rfl))
  f226 := Tryd.func66.trans (congrArg some (by kernel_rfl))
  f227 := Tryd.func62.trans (congrArg some (by kernel_rfl))
  f228 := Tryd.func67.trans (congrArg some (by kernel_rfl))
  f266 := Tryd.func89.trans (congrArg some (by kernel_rfl))
  t0 := Tryd.underlying0
  a0 := Tryd.isAgg0
  z0 := Tryd.sizeOf0
  v0 := Tryd.zeroValue0
  t3 := Tryd.underlying3
  a3 := Tryd.isAgg3
  z3 := Tryd.sizeOf3
  v3 := Tryd.zeroValue3
  t4 := Tryd.underlying4
  a4 := Tryd.isAgg4
  z4 := Tryd.sizeOf4
  v4 := Tryd.zeroValue4
  t5 := Tryd.underlying5
  a5 := Tryd.isAgg5
  z5 := Tryd.sizeOf5
  v5 := Tryd.zeroValue5
  t9 := Tryd.underlying9
  a9 := Tryd.isAgg9
  z9 := Tryd.sizeOf9
  v9 := Tryd.zeroValue9
  t21 := Tryd.underlying21
  a21 := Tryd.isAgg21
  z21 := Tryd.sizeOf21
  v21 := Tryd.zeroValue21
  t46 := Tryd.underlying122
  a46 := Tryd.isAgg122
  z46 := Tryd.sizeOf122
  v46 := Tryd.zeroValue122
  t116 := Tryd.underlying112
  a116 := Tryd.isAgg112
  z116 := Tryd.sizeOf112
  t117 := Tryd.underlying113
  a117 := Tryd.isAgg113
  z117 := Tryd.sizeOf113
  v117 := Tryd.zeroValue113
  t124 := Tryd.underlying116
  a124 := Tryd.isAgg116
  z124 := Tryd.sizeOf116
  v124 := Tryd.zeroValue116 }
open Go.RowKit in
theorem Tryd.strings_TrimLeft_set (s cutset : ByteArray) (w : World) (hcs : cutset.size < 4294967281) (hascii : ∀ (j : Nat) b, cutset.data.toList[j]? = some b → b.toNat < 128) :
    Calls Tryd.prog 53 #[.string s, .string cutset] w fun e w' => e = .returned (.string ⟨(Lib.trimLeftS s.data.toList cutset.data.toList).toArray⟩) ∧ Below w.heap.size w w' := Any.strings_TrimLeft_laid Tryd.lays161 (by kernel_rfl) s cutset w hcs hascii
end Go.Proofs
/-
  The landed reader of circuits, as it goes: its state and its steps. Pure.
-/
namespace PureRd
/-- a word, and where it begins. -/
abbrev Wd := List UInt8 × Nat
def blankB (c : UInt8) : Bool := c == 32 || c == 9 || c == 13
/-- the words of what is left of a line of n bytes that begins at p. -/
def wr (p n : Nat) : Nat → List UInt8 → List Wd
  | 0, _ => []
  | f + 1, r => if r.isEmpty then [] else
      (r.takeWhile (fun c => !blankB c), p + (n - r.length)) :: wr p n f ((r.drop (r.takeWhile (fun c => !blankB c)).length).dropWhile blankB)
/-- a line without its remark. -/
def cutHash (l : List UInt8) : List UInt8 := l.takeWhile (fun c => c != 35)
def cutLine (l : List UInt8) : List UInt8 := l.takeWhile (fun c => c != 10)
/-- the words of a line that begins at p. -/
def wordsOf (l : List UInt8) (p : Nat) : List Wd := wr p (cutHash l).length ((cutHash l).length + 1) ((cutHash l).dropWhile blankB)

theorem drop_len (r : List UInt8) (f : UInt8 → Bool) : (r.dropWhile f).length ≤ r.length := (List.dropWhile_suffix f).length_le
theorem wr_fuel (p n : Nat) : ∀ (f g : Nat) (r : List UInt8), (r.takeWhile (fun c => !blankB c)).length ≠ 0 ∨ r = [] → r.length < f → r.length < g → wr p n f r = wr p n g r := by
  intro f
  induction f with
  | zero => intro g r _ h; omega
  | succ f ih =>
    intro g r h0 hf hg
    cases g with
    | zero => omega
    | succ g =>
      simp only [wr]
      by_cases he : r = []
      · subst he; rfl
      · rcases h0 with h0 | h0
        · rw [if_neg (by simpa using he), if_neg (by simpa using he)]
          congr 1
          have h1 := drop_len (r.drop (r.takeWhile (fun c => !blankB c)).length) blankB
          have h2 : (r.drop (r.takeWhile (fun c => !blankB c)).length).length = r.length - (r.takeWhile (fun c => !blankB c)).length := List.length_drop
          have h3 : (r.takeWhile (fun c => !blankB c)).length ≤ r.length := (List.takeWhile_prefix _).length_le
          refine ih g _ ?_ (by omega) (by omega)
          generalize r.drop (r.takeWhile (fun c => !blankB c)).length = s
          cases hd : s.dropWhile blankB with
          | nil => exact .inr rfl
          | cons a t =>
            left
            have : blankB a = false := by
              have := List.head?_dropWhile_not blankB s
              rw [hd] at this
              simpa using this
            simp [this]
        · exact absurd h0 he

/-- a line that was read. -/
structure Ln where
  kind : Int
  name : List UInt8
  op : Int
  uses : List Wd
/-- what the reader knows. mode: 0 the head is to come, 1 behind it, 2 behind the end. -/
structure Rs where
  mode : Nat
  left : List Wd
  last : Wd
  lines : List Ln
  outs : Nat
  places : List (List UInt8 × Nat)
  names : List Nat
  cname : List UInt8
  fault : Option (Int × Nat)
def start : Rs := ⟨0, [], ([], 0), [], 0, [], [], [], none⟩
def placeOf (s : Rs) (k : List UInt8) : Option Nat := (s.places.find? (fun p => p.1 == k)).map Prod.snd
def refuse (s : Rs) (code : Int) (at_ : Nat) : Rs := if s.fault.isNone then { s with fault := some (code, at_) } else s
def take (s : Rs) : Wd × Rs :=
  match s.left with
  | [] => (([], 0), refuse s 140 (s.last.2 + s.last.1.length))
  | w :: t => (w, { s with last := w, left := t })
def name (isName : List UInt8 → Bool) (s : Rs) : Wd × Rs := ((take s).1, if isName (take s).1.1 then (take s).2 else refuse (take s).2 140 (take s).1.2)
def namesOf (isName : List UInt8 → Bool) : Nat → Rs → List Wd × Rs
  | 0, s => ([], s)
  | n + 1, s => ((namesOf isName n s).1 ++ [(name isName (namesOf isName n s).2).1], (name isName (namesOf isName n s).2).2)
def op (f : List UInt8 → Int) (s : Rs) : Int × Rs := (f (take s).1.1, if f (take s).1.1 = -1 then refuse (take s).2 140 (take s).1.2 else (take s).2)
def begin (isName : List UInt8 → Bool) (kind : Int) (s : Rs) : Rs :=
  let s1 := if s.names.length = 65536 then refuse s 8 s.last.2 else s
  let w := (name isName s1).1
  let s2 := (name isName s1).2
  let s3 := if (placeOf s2 w.1).isSome then refuse s2 141 w.2 else s2
  { s3 with places := (w.1, s.names.length) :: s3.places, names := s3.names ++ [w.2], lines := s3.lines ++ [⟨kind, w.1, 0, []⟩] }
end PureRd
/-
  A byte is sought, a line is cut off, a place, a copy of a text.
-/
namespace Go.Proofs.YtfmmmhcpdinhgabDoor
open Go.RowKit Go.Deep PureNet
set_option maxRecDepth 100000

theorem list_at (s : ByteArray) (k : Nat) (h : k < s.size) : s.data.toList[k]'(by simpa using h) = s[k] := rfl
theorem take_snoc {α : Type} (l : List α) (k : Nat) (h : k < l.length) : l.take (k + 1) = l.take k ++ [l[k]] := List.take_succ_eq_append_getElem h
def spotN (l : List UInt8) : Nat × Nat := l.foldl (fun p c => if c.toNat = 10 then (p.1 + 1, 1) else (p.1, p.2 + 1)) (1, 1)

theorem spotN_snoc (l : List UInt8) (c : UInt8) : spotN (l ++ [c]) = if c.toNat = 10 then ((spotN l).1 + 1, 1) else ((spotN l).1, (spotN l).2 + 1) := by simp [spotN, List.foldl_append]

theorem spotN_le (l : List UInt8) : (spotN l).1 ≤ l.length + 1 ∧ (spotN l).2 ≤ l.length + 1 := by
  have e : ∀ m : List UInt8, (spotN m.reverse).1 ≤ m.length + 1 ∧ (spotN m.reverse).2 ≤ m.length + 1 := by
    intro m
    induction m with
    | nil => simp [spotN]
    | cons c t ih =>
      rw [List.reverse_cons, spotN_snoc]
      split <;> simp <;> omega
  have := e l.reverse
  simpa using this


theorem index_line (c0 : UInt8) : ∀ (l : List UInt8), (Lib.indexByte l c0 = -1 ∧ l.takeWhile (fun c => c != c0) = l) ∨ ∃ k : Nat, Lib.indexByte l c0 = k ∧ k + 1 ≤ l.length ∧ l.takeWhile (fun c => c != c0) = l.take k
  | [] => .inl ⟨rfl, rfl⟩
  | c :: t => by
    by_cases h : c = c0
    · subst h
      refine .inr ⟨0, ?_, by simp, ?_⟩
      · simp [Lib.indexByte]
      · simp
    · have h1 : (c == c0) = false := by simpa using h
      have h2 : (c != c0) = true := by simpa using h
      rcases index_line c0 t with ⟨a, b⟩ | ⟨k, a, b, d⟩
      · refine .inl ⟨?_, ?_⟩
        · rw [Lib.indexByte, h1, a]; rfl
        · rw [List.takeWhile_cons, if_pos h2, b]
      · refine .inr ⟨k + 1, ?_, by simpa using b, ?_⟩
        · rw [Lib.indexByte, h1, a]
          have : ((k : Int) == -1) = false := by simp
          rw [this]; simp
        · rw [List.takeWhile_cons, if_pos h2, d]; rfl

set_option maxHeartbeats 1000000 in
theorem cut_in (c0 : UInt8) (s : ByteArray) (w : World) (hs : s.size ≤ 1099511627776) : Calls Tryd.prog 52 #[.string s, .string ⟨#[c0]⟩] w fun e w' => (∃ x y, e = .returned (.tuple #[str (s.data.toList.takeWhile (fun c => c != c0)), .string x, .bool y])) ∧ ∃ n, w' = w.drewN n := by
  have hlen : s.data.toList.length = s.size := by simp
  have hi := Tryd.stringslite_Index_one s c0
  rcases index_line c0 s.data.toList with ⟨h1, h2⟩ | ⟨k, h1, hk, h2⟩
  · have HI := fun W => hid (hi W)
    simp only [h1] at HI
    have HT := hid h2
    clear h1 h2 hlen hi
    go_enter Tryd.func52, Tryd.ntmps52
    go_wp2_with (go_at_call 60; refine (HI _).out.mono ?_; rintro e w' ⟨rfl, rfl⟩)
    go_ret3
    rw [HT.out]
    refine ⟨⟨⟨#[]⟩, false, ?_⟩, 0, rfl⟩
    show _ = Ending.returned (.tuple #[.string ⟨s.data.toList.toArray⟩, _, _])
    rw [Lib.mk_data]
    rfl
  · have HI := fun W => hid (hi W)
    simp only [h1] at HI
    have HT := hid h2
    rw [hlen] at hk
    have c1 : (0 : Int) ≤ ↑k := by omega
    have c2 : (↑k : Int) ≤ ↑s.size := by omega
    have c3 : (0 : Int) ≤ ↑k + 1 := by omega
    have c4 : (↑k + 1 : Int) ≤ ↑s.size := by omega
    have c5 : IntKind.i64.wrap ((k : Int) + 1) = (k : Int) + 1 := (IntWalk.i64_left _).trans <| IntWalk.wrap64_in _ ⟨by omega, by omega⟩
    have mixed := Tryd.lays161.mixed
    clear h1 h2 hlen hi
    go_enter Tryd.func52, Tryd.ntmps52
    go_wp2_with (go_at_call 60; refine (HI _).out.mono ?_; rintro e w' ⟨rfl, rfl⟩)
    go_region_o
    go_wp2
    go_ret3
    rw [HT.out]
    refine ⟨⟨s.extract (k + 1) s.size, true, ?_⟩, 1, rfl⟩
    have e1 : s.extract 0 k = ⟨(s.data.toList.take k).toArray⟩ := by rw [Lib.extract_eq]; simp
    show Ending.returned (.tuple #[.string (s.extract 0 k), .string (s.extract (k + 1) s.size), .bool true]) = _
    rw [e1]
set_option maxHeartbeats 1000000 in
theorem cut_any (c0 : UInt8) (s : ByteArray) (w : World) (hs : s.size ≤ 1099511627776) : Calls Tryd.prog 33 #[.string s, .string ⟨#[c0]⟩] w fun e w' => (∃ x y, e = .returned (.tuple #[str (s.data.toList.takeWhile (fun c => c != c0)), .string x, .bool y])) ∧ Below w.heap.size w w' := by
  have HC := hid (cut_in c0 s w hs)
  go_enter Tryd.func33, Tryd.ntmps33
  go_wp2_with (go_at_call 52; refine HC.out.mono ?_; rintro e w' ⟨⟨x, y, rfl⟩, n, rfl⟩)
  go_ret3
  exact ⟨⟨x, y, rfl⟩, below_drewN (Below.refl _ _) n⟩

theorem line_spot (l : List UInt8) : ((spotN l).1 : Int) = 1 + (l.count 10 : Nat) := by
  have e : ∀ m : List UInt8, ((spotN m.reverse).1 : Int) = 1 + (m.count 10 : Nat) := by
    intro m
    induction m with
    | nil => rfl
    | cons c t ih =>
      rw [List.reverse_cons, spotN_snoc, List.count_cons]
      by_cases h : c = 10
      · subst h
        rw [if_pos (by decide)]
        simp
        omega
      · have h1 : c.toNat ≠ 10 := fun e => h (UInt8.toNat_inj.1 e)
        rw [if_neg h1]
        simp [h]
        omega
  have := e l.reverse
  rwa [List.reverse_reverse, List.count_reverse] at this
theorem col_spot (s : ByteArray) : ∀ k, k ≤ s.size → (k : Int) - Lib.lastIdx s 10 k = ((spotN (s.data.toList.take k)).2 : Int) := by
  intro k
  induction k with
  | zero => intro _; rfl
  | succ k ih =>
    intro hk
    have hl : k < s.data.toList.length := by rw [show s.data.toList.length = s.size by simp]; omega
    have hg : s.data[k]! = s[k] := Go.Proofs.LastIndex.byteBang s k hk
    rw [take_snoc _ k hl, spotN_snoc, list_at s k hk]
    by_cases h : s[k].toNat = 10
    · rw [if_pos h, Lib.lastIdx_hit s 10 k (by rw [hg, h]; rfl)]
      simp
      omega
    · rw [if_neg h, Lib.lastIdx_miss s 10 k (by rw [hg]; omega)]
      have := ih (by omega)
      simp
      omega
theorem last28 (s : ByteArray) (w : World) (hs : s.size ≤ 1099511627776) : Calls Tryd.prog 69 #[.string s, .string ⟨#[10]⟩] w fun e w' => e = .returned (.int .i64 (s.size - ((spotN s.data.toList).2 : Int))) ∧ w' = w := by
  have h := Tryd.strings_LastIndex_one s ⟨#[10]⟩ rfl (by omega) w
  have e : Lib.lastIndexByte s 10 = (s.size - ((spotN s.data.toList).2 : Int)) := by
    have := col_spot s s.size (Nat.le_refl _)
    rw [List.take_of_length_le (by simp)] at this
    unfold Lib.lastIndexByte
    omega
  rw [← e]
  exact h
theorem count27 (s : ByteArray) (w : World) : Calls Tryd.prog 68 #[.string s, .string ⟨#[10]⟩] w fun e w' => e = .returned (.int .i64 (((spotN s.data.toList).1 : Int) - 1)) ∧ w' = w := by
  have h := Tryd.strings_Count_one s 10 w
  have e : ((Lib.countByte s.data.toList 10 : Nat) : Int) = ((spotN s.data.toList).1 : Int) - 1 := by
    have := line_spot s.data.toList
    unfold Lib.countByte
    omega
  rw [← e]
  exact h

theorem extract_take (s : ByteArray) (k : Nat) : s.extract 0 k = ⟨(s.data.toList.take k).toArray⟩ := by rw [Lib.extract_eq]; simp
set_option maxHeartbeats 1000000 in
theorem place_any (s : ByteArray) (i : Nat) (w : World) (hs : s.size ≤ 1099511627776) (hi : i ≤ s.size) :
    Calls Tryd.prog 55 #[.string s, .int .i64 (i : Int)] w fun e w' => e = .returned (.agg #[.int .i64 ((spotN (s.data.toList.take i)).1 : Int), .int .i64 ((spotN (s.data.toList.take i)).2 : Int)]) ∧ Below w.heap.size w w' := by
  have hz : (s.extract 0 i).size = i := by rw [extract_take]; show ((s.data.toList.take i).toArray).size = i; simp; omega
  have hd : (s.extract 0 i).data.toList = s.data.toList.take i := by rw [extract_take]
  have HC := fun W => hid (count27 (s.extract 0 i) W)
  have HL := fun W => hid (last28 (s.extract 0 i) W (by omega))
  simp only [hd, hz] at HC HL
  have hle := spotN_le (s.data.toList.take i)
  have hll : (s.data.toList.take i).length ≤ i := List.length_take_le _ _
  obtain ⟨a, ha⟩ : ∃ x, x = (spotN (s.data.toList.take i)).1 := ⟨_, rfl⟩
  obtain ⟨b, hb⟩ : ∃ x, x = (spotN (s.data.toList.take i)).2 := ⟨_, rfl⟩
  simp only [← ha, ← hb] at hle HC HL ⊢
  have a0 : a ≤ i + 1 := by omega
  have b0 : b ≤ i + 1 := by omega
  have HW := hid ha
  clear hle hll ha hb hz hd
  go_enter Tryd.func55, Tryd.ntmps55
  go_wp2_with (first | (go_at_call 68; refine (HC _).out.mono ?_; rintro e w' ⟨rfl, rfl⟩) | (go_at_call 69; refine (HL _).out.mono ?_; rintro e w' ⟨rfl, rfl⟩))
  rw [show (1 : Int) + ((a : Int) - 1) = a by omega, show (i : Int) - ((i : Int) - (b : Int)) = b by omega]
  have c1 := fun j => cell_row (heap_alloc_new w (Obj.cells #[.int .i64 a, .int .i64 b] 28)) j
  exact bodyPost_ret (v := .agg #[.int .i64 a, .int .i64 b]) (by simp [results, Tryd.results55, go_sem, c1]) rfl ⟨rfl, (Below.refl _ _).alloc (Nat.le_refl _) _⟩

theorem clone_any (s : ByteArray) (w : World) (hs : s.size ≤ 281474976710656) : Calls Tryd.prog 25 #[.string s] w fun e w' => e = .returned (.string s) ∧ Below w.heap.size w w' := by
  have HC := hid (Tryd.stringslite_Clone s w hs)
  go_enter Tryd.func25, Tryd.ntmps25
  go_wp2_with (go_at_call 44; refine HC.out.mono ?_; rintro e w1 ⟨rfl, b1⟩; have B1 := hid b1; clear b1)
  go_ret
  exact ⟨rfl, B1.out⟩
end Go.Proofs.YtfmmmhcpdinhgabDoor
