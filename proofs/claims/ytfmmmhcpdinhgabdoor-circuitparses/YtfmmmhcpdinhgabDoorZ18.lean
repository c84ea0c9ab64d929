import Derived.Test.YtfmmmhcpdinhgabDoorZ17
/-
  The search of the program: a line is met.
-/
namespace Go.Proofs.YtfmmmhcpdinhgabDoor
open Go.RowKit Go.Deep PureNet ShfKit
set_option maxRecDepth 100000

/-- append of one, an operation by itself. -/
theorem wp_one {o : Oper} {a : Act} {w : World} {K : Act → World → Prop} {Q : Exit → Act → World → Prop} (sl x : Operand) (t e : TypeId) (z : Value) (size bytes : Nat)
    (ho : o.op = .call { callee := .builtin .append, args := #[sl, x], argTypes := #[t, t] }) (hu : Tryd.prog.underlying t = some (.slice e)) (hinf : (Tryd.prog.info? e).map (fun i => (i.zero, i.size, i.bytes)) = some (some z, size, bytes))
    (hzs : z.cells.size = size) (hsz : 0 < size) (B n : Nat) (v : Value) (xs news : List Value) (ad : Addr) (hs : a.eval sl = v) (hown : w.ownsRow B e size v n xs) (hx : a.eval x = .slice (some ad) 1 1)
    (hl : news.length = size) (hnews : ∀ j u, news[j]? = some u → w.cell? (ad.add j) = some u) (h1 : ∀ u ∈ news, u.oneCell' = true) (hn : n ≤ 140737488351232) (hby : (n + 1) * bytes ≤ 140737488351233) (hB : B ≤ w.heap.size)
    (h : ∀ v' w', w'.ownsRow B e size v' (n + 1) (xs ++ news) → w.grownBy w' v.ownBlock → K (a.put o.dst v') w') : Oper.wp Tryd.prog o a w K Q := by
  obtain ⟨i, hi, hz0, hz1, hz2⟩ := info_parts hinf
  obtain ⟨v', w', hr, h2, h3, _⟩ := run_append_own (P := Tryd.prog) w B t o.type e i z size bytes hu hi hz0 hz1 hz2 hzs hsz v n xs hown ad 1 1 news (by rw [hl, Nat.one_mul]) hnews h1 (by unfold maxLen; omega) (by omega) hB
  unfold Oper.wp execOp
  simp only [ho, resolve, invoke, builtin, Sem.run_bind, Sem.run_pure, Result.andThen_ok, List.map_toArray, List.map_cons, List.map_nil, hs, hx, hr]
  exact h v' w' h2 h3
theorem Se.tv {w W : World} {p n : Nat} {gv mv rv pv wv tv ov : Value} {s : Ps} {rs : List (Value × Rw)} (h : Se w W p gv n s mv rv pv wv tv ov rs) : ∃ st ct, tv = .slice st s.waiting.length ct := own_shape (h.fam.own 3 (tv, s.waiting.length, placesV s.waiting) rfl)
theorem Se.ov {w W : World} {p n : Nat} {gv mv rv pv wv tv ov : Value} {s : Ps} {rs : List (Value × Rw)} (h : Se w W p gv n s mv rv pv wv tv ov rs) : ∃ st ct, ov = .slice st s.out.length ct := own_shape (h.fam.own 4 (ov, s.out.length, placesV s.out) rfl)
theorem Se.wv {w W : World} {p n : Nat} {gv mv rv pv wv tv ov : Value} {s : Ps} {rs : List (Value × Rw)} (h : Se w W p gv n s mv rv pv wv tv ov rs) : ∃ st ct, wv = .slice st s.way.length ct := own_shape h.way

set_option maxHeartbeats 2000000 in
theorem meet_any (l : List Ga) (sg : Option Addr) (cg n p x : Nat) (w W : World) (s : Ps) (mv rv pv wv tv ov : Value) (rs : List (Value × Rw)) (hc : CellsAt w sg (gas l)) (hkd : KindsAt w) (hn : n = l.length) (hfew : n ≤ 65536)
    (hlines : ∀ (i : Nat) (g : Ga), l[i]? = some g → (1 ≤ g.kind ∧ g.kind ≤ 4) ∧ ∀ a ∈ leansOn g, 0 ≤ a) (hx : x < n) (hs : Se w W p (.slice sg n cg) n s mv rv pv wv tv ov rs) (hw : s.way.length ≤ n) (ho : s.out.length + s.waiting.length ≤ n) :
    Calls Tryd.prog 86 #[.pointer (some ⟨p, 0, none⟩), .int .i64 (x : Int)] W fun e W' => (∃ v, e = .returned v) ∧ ∃ wv' tv' rs', Se w W' p (.slice sg n cg) n (s.meet l x) mv rv pv wv' tv' ov rs' := by
  obtain ⟨g, hg⟩ : ∃ g, l[x]? = some g := ⟨_, List.getElem?_eq_getElem (by omega)⟩
  have SE := hid hs
  have HC := hid hc
  have HG := hid hg
  have KD := hid hkd
  have HL := hid (hlines x g hg)
  have c0 := hs.cell
  have f0 := fun j => unfrozen_row hs.box j
  have hp0 := hs.size
  obtain ⟨st, ct, rfl⟩ := hs.tv
  obtain ⟨so, co, rfl⟩ := hs.ov
  obtain ⟨sw, cw, rfl⟩ := hs.wv
  have HN := hid hn
  clear hs hc hg hkd hlines hn
  go_enter Tryd.func86, Tryd.ntmps86
  go_wp2_with (first
    | (rw [← HW1.out])
    | (at_builtin; refine fam_app rfl _ _ rfl SE.out.fam SE.out.below 3 _ rfl (x : Int) 3 _ rfl rfl rfl (by show s.waiting.length ≤ 1099511627776; omega) ?_; intro sx cx w1 hF1 hB1 hk1; have hbx1 := hk1 p _ _ _ SE.out.box (by decide); have c1 := fun j => cell_row hbx1 j; have f1 := fun j => unfrozen_row hbx1 j; have hb1 := (Array.getElem?_eq_some_iff.1 hbx1).1; obtain ⟨W1, hW1⟩ : ∃ W1, W1 = w1.setCell ⟨p, 5, none⟩ (.slice sx (s.waiting.length + 1) cx) := ⟨_, rfl⟩; have SE1 : Hid (Se w W1 p (.slice sg n cg) n ⟨s.met, s.reached, s.part, s.way, s.waiting ++ [x], s.out⟩ mv rv pv (.slice sw s.way.length cw) (.slice sx (s.waiting.length + 1) cx) (.slice so s.out.length co) rs) := (by rw [hW1]; refine SE.out.waits (wt := s.waiting ++ [x]) ?_ hB1 hk1; rw [← places_snoc, List.length_append, List.length_singleton]; exact hF1); have HW1 := hid hW1; clear hF1 hB1 hk1 hbx1 hW1))
  clear c0 f0 hp0 c1 f1 hb1 HW1
  obtain ⟨gm, cm, rfl, hgm, hgms, _, hgmf, _, hgmr⟩ := SE1.out.row (i := 0) (by omega) rfl hx
  obtain ⟨gr, cr, rfl, hgr, hgrs, _, hgrf, _, hgrr⟩ := SE1.out.row (i := 1) (by omega) rfl hx
  have hn1 : p ≠ gm := fun e => by
    obtain ⟨cs, h1⟩ := hgmr
    rw [← e, SE1.out.box] at h1
    simp at h1
  have hn2 : p ≠ gr := fun e => by
    obtain ⟨cs, h1⟩ := hgrr
    rw [← e, SE1.out.box] at h1
    simp at h1
  have hn3 : gm ≠ gr := fun e => SE1.out.fam.apart 0 1 _ _ gm rfl rfl (by decide) rfl (by rw [e]; rfl)
  have d1 : W1.drew.cell? ⟨p, 1, none⟩ = some (.slice (some ⟨gm, 0, none⟩) n cm) := SE1.out.cell 1
  have d6 : W1.drew.cell? ⟨p, 6, none⟩ = some (.slice so s.out.length co) := SE1.out.cell 6
  have d5 : W1.drew.cell? ⟨p, 5, none⟩ = some (.slice sx (s.waiting.length + 1) cx) := SE1.out.cell 5
  have hgmf2 : W1.drew.frozen? ⟨gm, x, none⟩ = false := hgmf
  refine wp_region_noPanic ?_
  refine wp_region_held_drew (S := fun W => W.cell? ⟨p, 1, none⟩ = some (.slice (some ⟨gm, 0, none⟩) n cm) ∧ W.cell? ⟨p, 6, none⟩ = some (.slice so s.out.length co) ∧ W.cell? ⟨p, 5, none⟩ = some (.slice sx (s.waiting.length + 1) cx)) (by kernel_rfl) ⟨d1, d6, d5⟩ (fun hHeld => ?_)
  refine wpAnyH_take (i := 0) (v := ?_) (by simp only [List.getElem?_toArray, List.getElem?_cons_zero]; rfl) (by kernel_rfl) (by kernel_rfl) (by kernel_rfl) (fun _ _ _ h => h) (Or.inl ⟨by rfl, ?_⟩) (by assumption) ?_
  rotate_left 1
  · intro w hSw; (try dsimp only at hSw); go_simp; (try with_reducible rfl)
  try simp only [Act.put, List.setIfInBounds_toArray, List.set_cons_zero, List.set_cons_succ]
  refine wpAnyH_take (i := 1) (v := ?_) (by simp only [List.getElem?_toArray, List.getElem?_cons_succ, List.getElem?_cons_zero]; rfl) (by kernel_rfl) (by kernel_rfl) (by kernel_rfl) (fun _ _ _ h => h) (Or.inl ⟨by rfl, ?_⟩) (by assumption) ?_
  rotate_left 1
  · intro w hSw; (try dsimp only at hSw); go_simp; (try with_reducible rfl)
  try simp only [Act.put, List.setIfInBounds_toArray, List.set_cons_zero, List.set_cons_succ]
  refine wpAnyH_take (i := 2) (v := ?_) (by simp only [List.getElem?_toArray, List.getElem?_cons_succ, List.getElem?_cons_zero]; rfl) (by kernel_rfl) (by kernel_rfl) (by kernel_rfl) (fun _ _ _ h => h) (Or.inl ⟨by rfl, ?_⟩) (by assumption) ?_
  rotate_left 1
  · intro w hSw; (try dsimp only at hSw); go_simp; (try with_reducible rfl)
  try simp only [Act.put, List.setIfInBounds_toArray, List.set_cons_zero, List.set_cons_succ]
  refine wpAnyH_take (i := 3) (v := ?_) (by simp only [List.getElem?_toArray, List.getElem?_cons_succ, List.getElem?_cons_zero]; rfl) (by kernel_rfl) (by kernel_rfl) (by kernel_rfl) (fun _ _ _ h => h) (Or.inl ⟨by rfl, ?_⟩) (by assumption) ?_
  rotate_left 1
  · intro w hSw; (try dsimp only at hSw); go_simp; (try with_reducible rfl)
  try simp only [Act.put, List.setIfInBounds_toArray, List.set_cons_zero, List.set_cons_succ]
  refine wpAnyH_take (i := 4) (v := ?_) (by simp only [List.getElem?_toArray, List.getElem?_cons_succ, List.getElem?_cons_zero]; rfl) (by kernel_rfl) (by kernel_rfl) (by kernel_rfl) (fun _ _ _ h => h) (Or.inl ⟨by rfl, ?_⟩) (by assumption) ?_
  rotate_left 1
  · intro w hSw; (try dsimp only at hSw); go_simp; (try with_reducible rfl)
  try simp only [Act.put, List.setIfInBounds_toArray, List.set_cons_zero, List.set_cons_succ]
  refine wpAnyH_take (i := 5) (v := ?_) (by simp only [List.getElem?_toArray, List.getElem?_cons_succ, List.getElem?_cons_zero]; rfl) (by kernel_rfl) (by kernel_rfl) (by kernel_rfl) (fun _ _ _ h => h) (Or.inl ⟨by rfl, ?_⟩) (by assumption) ?_
  rotate_left 1
  · intro w hSw; (try dsimp only at hSw); go_simp; (try with_reducible rfl)
  try simp only [Act.put, List.setIfInBounds_toArray, List.set_cons_zero, List.set_cons_succ]
  refine wpAnyH_take (i := 6) (v := ?_) (by simp only [List.getElem?_toArray, List.getElem?_cons_succ, List.getElem?_cons_zero]; rfl) (by kernel_rfl) (by kernel_rfl) (by kernel_rfl) (fun _ _ _ h => h) (Or.inl ⟨by rfl, ?_⟩) (by assumption) ?_
  rotate_left 1
  · intro w hSw; (try dsimp only at hSw); go_simp; (try with_reducible rfl)
  try simp only [Act.put, List.setIfInBounds_toArray, List.set_cons_zero, List.set_cons_succ]
  refine wpAnyH_take (i := 7) (v := ?_) (by simp only [List.getElem?_toArray, List.getElem?_cons_succ, List.getElem?_cons_zero]; rfl) (by kernel_rfl) (by kernel_rfl) (by kernel_rfl) (fun _ _ _ h => h) (Or.inl ⟨by rfl, ?_⟩) (by assumption) ?_
  rotate_left 1
  · intro w hSw; (try dsimp only at hSw); go_simp; (try with_reducible rfl)
  try simp only [Act.put, List.setIfInBounds_toArray, List.set_cons_zero, List.set_cons_succ]
  refine wpAnyH_take (i := 8) (v := ?_) (by simp only [List.getElem?_toArray, List.getElem?_cons_succ, List.getElem?_cons_zero]; rfl) (by kernel_rfl) (by kernel_rfl) (by kernel_rfl) (fun _ _ _ h => h) (Or.inl ⟨by rfl, ?_⟩) (by assumption) ?_
  rotate_left 1
  · intro w hSw; (try dsimp only at hSw); go_simp; (try with_reducible rfl)
  try simp only [Act.put, List.setIfInBounds_toArray, List.set_cons_zero, List.set_cons_succ]
  refine wpAnyH_take (i := 9) (v := ?_) (by simp only [List.getElem?_toArray, List.getElem?_cons_succ, List.getElem?_cons_zero]; rfl) (by kernel_rfl) (by kernel_rfl) (by kernel_rfl) (fun _ _ _ h => h) (Or.inl ⟨by rfl, ?_⟩) (by assumption) ?_
  rotate_left 1
  · intro w hSw; (try dsimp only at hSw); go_simp; (try with_reducible rfl)
  try simp only [Act.put, List.setIfInBounds_toArray, List.set_cons_zero, List.set_cons_succ]
  refine wpAnyH_take (i := 10) (v := ?_) (by simp only [List.getElem?_toArray, List.getElem?_cons_succ, List.getElem?_cons_zero]; rfl) (by kernel_rfl) (by kernel_rfl) (by kernel_rfl) (fun _ _ _ h => h) (Or.inl ⟨by rfl, ?_⟩) (by assumption) ?_
  rotate_left 1
  · intro w hSw; (try dsimp only at hSw); go_simp; (try with_reducible rfl)
  try simp only [Act.put, List.setIfInBounds_toArray, List.set_cons_zero, List.set_cons_succ]
  refine wpAnyH_take (i := 11) (v := ?_) (by simp only [List.getElem?_toArray, List.getElem?_cons_succ, List.getElem?_cons_zero]; rfl) (by kernel_rfl) (by kernel_rfl) (by kernel_rfl) (fun _ _ _ h => h) (Or.inl ⟨by rfl, ?_⟩) (by assumption) ?_
  rotate_left 1
  · intro w hSw; (try dsimp only at hSw); go_simp; (try with_reducible rfl)
  try simp only [Act.put, List.setIfInBounds_toArray, List.set_cons_zero, List.set_cons_succ]
  refine wpAnyH_take (i := 12) (v := ?_) (by simp only [List.getElem?_toArray, List.getElem?_cons_succ, List.getElem?_cons_zero]; rfl) (by kernel_rfl) (by kernel_rfl) (by kernel_rfl) (fun _ _ _ h => h) (Or.inl ⟨by rfl, ?_⟩) (by assumption) ?_
  rotate_left 1
  · intro w hSw; (try dsimp only at hSw); go_simp; (try with_reducible rfl)
  try simp only [Act.put, List.setIfInBounds_toArray, List.set_cons_zero, List.set_cons_succ]
  refine wpAnyH_take (i := 13) (v := ?_) (by simp only [List.getElem?_toArray, List.getElem?_cons_succ, List.getElem?_cons_zero]; rfl) (by kernel_rfl) (by kernel_rfl) (by kernel_rfl) (fun _ _ _ h => h) (Or.inl ⟨by rfl, ?_⟩) (by assumption) ?_
  rotate_left 1
  · intro w hSw; (try dsimp only at hSw); go_simp; (try with_reducible rfl)
  try simp only [Act.put, List.setIfInBounds_toArray, List.set_cons_zero, List.set_cons_succ]
  refine wpAnyH_take (i := 14) (v := ?_) (by simp only [List.getElem?_toArray, List.getElem?_cons_succ, List.getElem?_cons_zero]; rfl) (by kernel_rfl) (by kernel_rfl) (by kernel_rfl) (fun _ _ _ h => h) (Or.inl ⟨by rfl, ?_⟩) (by assumption) ?_
  rotate_left 1
  · intro w hSw; (try dsimp only at hSw); go_simp; (try with_reducible rfl)
  try simp only [Act.put, List.setIfInBounds_toArray, List.set_cons_zero, List.set_cons_succ]
  refine wpAnyH_take (i := 15) (v := .int .i64 s.number) (by simp only [List.getElem?_toArray, List.getElem?_cons_succ, List.getElem?_cons_zero]; rfl) (by kernel_rfl) (by kernel_rfl) (by kernel_rfl) (fun _ _ _ h => h) (Or.inl ⟨by rfl, ?_⟩) (by assumption) ?_
  · intro w hSw; (try dsimp only at hSw); (try go_simp); (rw [IntKind.wrap_i64]; (try unfold Ps.number); (try simp); (try omega))
  try simp only [Act.put, List.setIfInBounds_toArray, List.set_cons_zero, List.set_cons_succ]
  refine wpAnyH_take (i := 16) (v := .pointer (some ⟨gm, x, none⟩)) (by simp only [List.getElem?_toArray, List.getElem?_cons_succ, List.getElem?_cons_zero]; rfl) (by kernel_rfl) (by kernel_rfl) (by kernel_rfl) (fun _ _ _ h => h) (Or.inl ⟨by rfl, ?_⟩) (by assumption) ?_
  · intro w hSw; (try dsimp only at hSw); (try go_simp); ((try rw [if_pos (by omega)]); (try simp); (try (intro h9; omega)))
  try simp only [Act.put, List.setIfInBounds_toArray, List.set_cons_zero, List.set_cons_succ]
  refine wpAnyH_ready (rs := [17]) (by kernel_rfl) (by simp) ?_
  refine AllReadyH.cons (by simp only [List.getElem?_toArray, List.getElem?_cons_succ, List.getElem?_cons_zero]; rfl) (fun K hK => ?_) AllReadyH.nil
  go_simp
  clear hHeld
  refine hK.out _ _ ⟨(World.cell?_setCell_far _ _ _ _ (Ne.symm hn1)).trans d1, (World.cell?_setCell_far _ _ _ _ (Ne.symm hn1)).trans d6, (World.cell?_setCell_far _ _ _ _ (Ne.symm hn1)).trans d5⟩ (fun hHeld => ?_)
  clear hK K
  try simp only [Act.put, List.setIfInBounds_toArray, List.set_cons_zero, List.set_cons_succ]
  refine wpAnyH_done (by kernel_rfl) ?_ _
  refine NoPanic.normal ?_
  obtain ⟨W2, hW2⟩ : ∃ W2, W2 = (W1.setCell ⟨gm, x, none⟩ (.int .i64 s.number)).drew := ⟨_, rfl⟩
  rw [← hW2]
  have SE2 : Hid (Se w W2 p (.slice sg n cg) n ⟨upd s.met x s.number, s.reached, s.part, s.way, s.waiting ++ [x], s.out⟩ (.slice (some ⟨gm, 0, none⟩) n cm) (.slice (some ⟨gr, 0, none⟩) n cr) pv (.slice sw s.way.length cw) (.slice sx (s.waiting.length + 1) cx) (.slice so s.out.length co) rs) := by
    rw [hW2]
    exact (SE1.out.setMet rfl hgm _ hgmr).on (Below.refl _ _).drew
  obtain ⟨_, _, e9, _, _, hm9, _⟩ := SE2.out.row (i := 0) (by omega) rfl hx
  simp only [Value.slice.injEq, Option.some.injEq, Addr.mk.injEq, and_true, true_and] at e9
  obtain ⟨rfl, rfl⟩ := e9
  obtain ⟨_, _, e9, _, _, _, hf9, _, hgrr2⟩ := SE2.out.row (i := 1) (by omega) rfl hx
  simp only [Value.slice.injEq, Option.some.injEq, Addr.mk.injEq, and_true, true_and] at e9
  obtain ⟨rfl, rfl⟩ := e9
  have e1 : W2.drew.cell? ⟨p, 1, none⟩ = some (.slice (some ⟨gm, 0, none⟩) n cm) := SE2.out.cell 1
  have e2 : W2.drew.cell? ⟨p, 2, none⟩ = some (.slice (some ⟨gr, 0, none⟩) n cr) := SE2.out.cell 2
  have em : W2.drew.cell? ⟨gm, x, none⟩ = some (.int .i64 s.number) := by
    rw [show s.number = upd s.met x s.number x by simp [upd]]
    exact hm9
  have hgrf2 : W2.drew.frozen? ⟨gr, x, none⟩ = false := hf9
  clear hW2 d1 d6 d5 hgmf hgmf2 hgrf hm9 hf9
  go_wp2
  refine wp_region_noPanic ?_
  refine wp_region_held_drew (S := fun W => W.cell? ⟨p, 1, none⟩ = some (.slice (some ⟨gm, 0, none⟩) n cm) ∧ W.cell? ⟨p, 2, none⟩ = some (.slice (some ⟨gr, 0, none⟩) n cr) ∧ W.cell? ⟨gm, x, none⟩ = some (.int .i64 s.number)) (by kernel_rfl) ⟨e1, e2, em⟩ (fun hHeld => ?_)
  refine wpAnyH_take (i := 0) (v := ?_) (by simp only [List.getElem?_toArray, List.getElem?_cons_zero]; rfl) (by kernel_rfl) (by kernel_rfl) (by kernel_rfl) (fun _ _ _ h => h) (Or.inl ⟨by rfl, ?_⟩) (by assumption) ?_
  rotate_left 1
  · intro w hSw; (try dsimp only at hSw); go_simp; (try with_reducible rfl)
  try simp only [Act.put, List.setIfInBounds_toArray, List.set_cons_zero, List.set_cons_succ]
  refine wpAnyH_take (i := 1) (v := ?_) (by simp only [List.getElem?_toArray, List.getElem?_cons_succ, List.getElem?_cons_zero]; rfl) (by kernel_rfl) (by kernel_rfl) (by kernel_rfl) (fun _ _ _ h => h) (Or.inl ⟨by rfl, ?_⟩) (by assumption) ?_
  rotate_left 1
  · intro w hSw; (try dsimp only at hSw); go_simp; (try with_reducible rfl)
  try simp only [Act.put, List.setIfInBounds_toArray, List.set_cons_zero, List.set_cons_succ]
  refine wpAnyH_take (i := 2) (v := ?_) (by simp only [List.getElem?_toArray, List.getElem?_cons_succ, List.getElem?_cons_zero]; rfl) (by kernel_rfl) (by kernel_rfl) (by kernel_rfl) (fun _ _ _ h => h) (Or.inl ⟨by rfl, ?_⟩) (by assumption) ?_
  rotate_left 1
  · intro w hSw; (try dsimp only at hSw); go_simp; (try with_reducible rfl)
  try simp only [Act.put, List.setIfInBounds_toArray, List.set_cons_zero, List.set_cons_succ]
  refine wpAnyH_take (i := 3) (v := ?_) (by simp only [List.getElem?_toArray, List.getElem?_cons_succ, List.getElem?_cons_zero]; rfl) (by kernel_rfl) (by kernel_rfl) (by kernel_rfl) (fun _ _ _ h => h) (Or.inl ⟨by rfl, ?_⟩) (by assumption) ?_
  rotate_left 1
  · intro w hSw; (try dsimp only at hSw); go_simp; (try with_reducible rfl)
  try simp only [Act.put, List.setIfInBounds_toArray, List.set_cons_zero, List.set_cons_succ]
  refine wpAnyH_take (i := 4) (v := ?_) (by simp only [List.getElem?_toArray, List.getElem?_cons_succ, List.getElem?_cons_zero]; rfl) (by kernel_rfl) (by kernel_rfl) (by kernel_rfl) (fun _ _ _ h => h) (Or.inl ⟨by rfl, ?_⟩) (by assumption) ?_
  rotate_left 1
  · intro w hSw; (try dsimp only at hSw); go_simp; (try with_reducible rfl)
  try simp only [Act.put, List.setIfInBounds_toArray, List.set_cons_zero, List.set_cons_succ]
  refine wpAnyH_take (i := 5) (v := ?_) (by simp only [List.getElem?_toArray, List.getElem?_cons_succ, List.getElem?_cons_zero]; rfl) (by kernel_rfl) (by kernel_rfl) (by kernel_rfl) (fun _ _ _ h => h) (Or.inl ⟨by rfl, ?_⟩) (by assumption) ?_
  rotate_left 1
  · intro w hSw; (try dsimp only at hSw); go_simp; (try with_reducible rfl)
  try simp only [Act.put, List.setIfInBounds_toArray, List.set_cons_zero, List.set_cons_succ]
  refine wpAnyH_take (i := 6) (v := ?_) (by simp only [List.getElem?_toArray, List.getElem?_cons_succ, List.getElem?_cons_zero]; rfl) (by kernel_rfl) (by kernel_rfl) (by kernel_rfl) (fun _ _ _ h => h) (Or.inl ⟨by rfl, ?_⟩) (by assumption) ?_
  rotate_left 1
  · intro w hSw; (try dsimp only at hSw); go_simp; (try with_reducible rfl)
  try simp only [Act.put, List.setIfInBounds_toArray, List.set_cons_zero, List.set_cons_succ]
  refine wpAnyH_take (i := 7) (v := ?_) (by simp only [List.getElem?_toArray, List.getElem?_cons_succ, List.getElem?_cons_zero]; rfl) (by kernel_rfl) (by kernel_rfl) (by kernel_rfl) (fun _ _ _ h => h) (Or.inl ⟨by rfl, ?_⟩) (by assumption) ?_
  rotate_left 1
  · intro w hSw; (try dsimp only at hSw); go_simp; (try with_reducible rfl)
  try simp only [Act.put, List.setIfInBounds_toArray, List.set_cons_zero, List.set_cons_succ]
  refine wpAnyH_take (i := 8) (v := ?_) (by simp only [List.getElem?_toArray, List.getElem?_cons_succ, List.getElem?_cons_zero]; rfl) (by kernel_rfl) (by kernel_rfl) (by kernel_rfl) (fun _ _ _ h => h) (Or.inl ⟨by rfl, ?_⟩) (by assumption) ?_
  rotate_left 1
  · intro w hSw; (try dsimp only at hSw); go_simp; (try with_reducible rfl)
  try simp only [Act.put, List.setIfInBounds_toArray, List.set_cons_zero, List.set_cons_succ]
  refine wpAnyH_take (i := 9) (v := ?_) (by simp only [List.getElem?_toArray, List.getElem?_cons_succ, List.getElem?_cons_zero]; rfl) (by kernel_rfl) (by kernel_rfl) (by kernel_rfl) (fun _ _ _ h => h) (Or.inl ⟨by rfl, ?_⟩) (by assumption) ?_
  rotate_left 1
  · intro w hSw; (try dsimp only at hSw); go_simp; (try with_reducible rfl)
  try simp only [Act.put, List.setIfInBounds_toArray, List.set_cons_zero, List.set_cons_succ]
  refine wpAnyH_take (i := 10) (v := .pointer (some ⟨gm, x, none⟩)) (by simp only [List.getElem?_toArray, List.getElem?_cons_succ, List.getElem?_cons_zero]; rfl) (by kernel_rfl) (by kernel_rfl) (by kernel_rfl) (fun _ _ _ h => h) (Or.inl ⟨by rfl, ?_⟩) (by assumption) ?_
  · intro w hSw; (try dsimp only at hSw); (try go_simp); ((try rw [if_pos (by omega)]); (try simp); (try (intro h9; omega)))
  try simp only [Act.put, List.setIfInBounds_toArray, List.set_cons_zero, List.set_cons_succ]
  refine wpAnyH_take (i := 11) (v := ?_) (by simp only [List.getElem?_toArray, List.getElem?_cons_succ, List.getElem?_cons_zero]; rfl) (by kernel_rfl) (by kernel_rfl) (by kernel_rfl) (fun _ _ _ h => h) (Or.inl ⟨by rfl, ?_⟩) (by assumption) ?_
  rotate_left 1
  · intro w hSw; (try dsimp only at hSw); go_simp; (try with_reducible rfl)
  try simp only [Act.put, List.setIfInBounds_toArray, List.set_cons_zero, List.set_cons_succ]
  refine wpAnyH_take (i := 12) (v := .pointer (some ⟨gr, x, none⟩)) (by simp only [List.getElem?_toArray, List.getElem?_cons_succ, List.getElem?_cons_zero]; rfl) (by kernel_rfl) (by kernel_rfl) (by kernel_rfl) (fun _ _ _ h => h) (Or.inl ⟨by rfl, ?_⟩) (by assumption) ?_
  · intro w hSw; (try dsimp only at hSw); (try go_simp); ((try rw [if_pos (by omega)]); (try simp); (try (intro h9; omega)))
  try simp only [Act.put, List.setIfInBounds_toArray, List.set_cons_zero, List.set_cons_succ]
  refine wpAnyH_ready (rs := [13]) (by kernel_rfl) (by simp) ?_
  refine AllReadyH.cons (by simp only [List.getElem?_toArray, List.getElem?_cons_succ, List.getElem?_cons_zero]; rfl) (fun K hK => ?_) AllReadyH.nil
  go_simp
  clear hHeld
  refine hK.out _ _ ⟨(World.cell?_setCell_far _ _ _ _ (Ne.symm hn2)).trans e1, (World.cell?_setCell_far _ _ _ _ (Ne.symm hn2)).trans e2, (World.cell?_setCell_far _ _ _ _ (Ne.symm hn3)).trans em⟩ (fun hHeld => ?_)
  clear hK K
  try simp only [Act.put, List.setIfInBounds_toArray, List.set_cons_zero, List.set_cons_succ]
  refine wpAnyH_done (by kernel_rfl) ?_ _
  refine NoPanic.normal ?_
  obtain ⟨W3, hW3⟩ : ∃ W3, W3 = (W2.setCell ⟨gr, x, none⟩ (.int .i64 s.number)).drew := ⟨_, rfl⟩
  rw [← hW3]
  have SE3 : Hid (Se w W3 p (.slice sg n cg) n ⟨upd s.met x s.number, upd s.reached x s.number, s.part, s.way, s.waiting ++ [x], s.out⟩ (.slice (some ⟨gm, 0, none⟩) n cm) (.slice (some ⟨gr, 0, none⟩) n cr) pv (.slice sw s.way.length cw) (.slice sx (s.waiting.length + 1) cx) (.slice so s.out.length co) rs) := by
    rw [hW3]
    exact (SE2.out.setReached rfl hgr _ hgrr2).on (Below.refl _ _).drew
  obtain ⟨gb, go, rfl, _⟩ := gate_at (HC.out.below SE3.out.below) x g HG.out
  have hgbw : gb < w.heap.size := by
    obtain ⟨gb2, go2, e2, h2, _⟩ := gate_at HC.out x g HG.out
    cases e2
    exact h2
  have KS : Hid (∀ Y, Y.cell? ⟨p, 0, none⟩ = some (.slice (some ⟨gb, go, none⟩) n cg) → Below w.heap.size w Y → Y.cell? ⟨p, 0, none⟩ = some (.slice (some ⟨gb, go, none⟩) n cg) ∧ Y.cell? ⟨gb, go + x * 6, none⟩ = some (.int .i64 g.kind) ∧ Y.cell? ⟨gb, go + x * 6 + 1, none⟩ = some (.string g.name) ∧ Y.cell? ⟨gb, go + x * 6 + 2, none⟩ = some (.int .i64 g.op) ∧ Y.cell? ⟨gb, go + x * 6 + 3, none⟩ = some (.int .i64 g.a) ∧ Y.cell? ⟨gb, go + x * 6 + 4, none⟩ = some (.int .i64 g.b) ∧ Y.cell? ⟨gb, go + x * 6 + 5, none⟩ = some (.int .i64 g.c)) := fun Y hp hY => by
    obtain ⟨gb2, go2, e2, _, a0, a1, a2, a3, a4, a5⟩ := gate_at (HC.out.below hY) x g HG.out
    cases e2
    exact ⟨hp, a0, a1, a2, a3, a4, a5⟩
  have k3 : W3.drew.cell? ⟨p, 4, none⟩ = some (.slice sw s.way.length cw) := SE3.out.cell 4
  have PL : Hid (∀ Y, Below W3.heap.size W3 Y → _) := fun Y hY => pleans_any g Y ((KD.out.on SE3.out.below).on hY) HL.out.1 HL.out.2
  clear hW3 e1 e2 em hgrf2 hgrr2 hgmr hgrr
  go_wp2
  refine wp_region_noPanic ?_
  refine wp_region_held_drew (S := fun W => W.cell? ⟨p, 0, none⟩ = some (.slice (some ⟨gb, go, none⟩) n cg) ∧ W.cell? ⟨gb, go + x * 6, none⟩ = some (.int .i64 g.kind) ∧ W.cell? ⟨gb, go + x * 6 + 1, none⟩ = some (.string g.name) ∧ W.cell? ⟨gb, go + x * 6 + 2, none⟩ = some (.int .i64 g.op) ∧ W.cell? ⟨gb, go + x * 6 + 3, none⟩ = some (.int .i64 g.a) ∧ W.cell? ⟨gb, go + x * 6 + 4, none⟩ = some (.int .i64 g.b) ∧ W.cell? ⟨gb, go + x * 6 + 5, none⟩ = some (.int .i64 g.c)) (by kernel_rfl) (KS.out _ ((SE3.out.on (Below.refl _ _).drew).cell 0) (SE3.out.on (Below.refl _ _).drew).below) (fun hHeld => ?_)
  refine wpAnyH_take (i := 0) (v := ?_) (by simp only [List.getElem?_toArray, List.getElem?_cons_zero]; rfl) (by kernel_rfl) (by kernel_rfl) (by kernel_rfl) (fun _ _ _ h => h) (Or.inl ⟨by rfl, ?_⟩) (by assumption) ?_
  rotate_left 1
  · intro w hSw; (try dsimp only at hSw); go_simp; (try with_reducible rfl)
  try simp only [Act.put, List.setIfInBounds_toArray, List.set_cons_zero, List.set_cons_succ]
  refine wpAnyH_take (i := 1) (v := ?_) (by simp only [List.getElem?_toArray, List.getElem?_cons_succ, List.getElem?_cons_zero]; rfl) (by kernel_rfl) (by kernel_rfl) (by kernel_rfl) (fun _ _ _ h => h) (Or.inl ⟨by rfl, ?_⟩) (by assumption) ?_
  rotate_left 1
  · intro w hSw; (try dsimp only at hSw); go_simp; (try with_reducible rfl)
  try simp only [Act.put, List.setIfInBounds_toArray, List.set_cons_zero, List.set_cons_succ]
  refine wpAnyH_take (i := 2) (v := ?_) (by simp only [List.getElem?_toArray, List.getElem?_cons_succ, List.getElem?_cons_zero]; rfl) (by kernel_rfl) (by kernel_rfl) (by kernel_rfl) (fun _ _ _ h => h) (Or.inl ⟨by rfl, ?_⟩) (by assumption) ?_
  rotate_left 1
  · intro w hSw; (try dsimp only at hSw); go_simp; (try with_reducible rfl)
  try simp only [Act.put, List.setIfInBounds_toArray, List.set_cons_zero, List.set_cons_succ]
  refine wpAnyH_take (i := 3) (v := ?_) (by simp only [List.getElem?_toArray, List.getElem?_cons_succ, List.getElem?_cons_zero]; rfl) (by kernel_rfl) (by kernel_rfl) (by kernel_rfl) (fun _ _ _ h => h) (Or.inl ⟨by rfl, ?_⟩) (by assumption) ?_
  rotate_left 1
  · intro w hSw; (try dsimp only at hSw); go_simp; (try with_reducible rfl)
  try simp only [Act.put, List.setIfInBounds_toArray, List.set_cons_zero, List.set_cons_succ]
  refine wpAnyH_take (i := 5) (v := ?_) (by simp only [List.getElem?_toArray, List.getElem?_cons_succ, List.getElem?_cons_zero]; rfl) (by kernel_rfl) (by kernel_rfl) (by kernel_rfl) (fun _ _ _ h => h) (Or.inl ⟨by rfl, ?_⟩) (by assumption) ?_
  rotate_left 1
  · intro w hSw; (try dsimp only at hSw); go_simp; (try with_reducible rfl)
  try simp only [Act.put, List.setIfInBounds_toArray, List.set_cons_zero, List.set_cons_succ]
  refine wpAnyH_take (i := 6) (v := ?_) (by simp only [List.getElem?_toArray, List.getElem?_cons_succ, List.getElem?_cons_zero]; rfl) (by kernel_rfl) (by kernel_rfl) (by kernel_rfl) (fun _ _ _ h => h) (Or.inl ⟨by rfl, ?_⟩) (by assumption) ?_
  rotate_left 1
  · intro w hSw; (try dsimp only at hSw); go_simp; (try with_reducible rfl)
  try simp only [Act.put, List.setIfInBounds_toArray, List.set_cons_zero, List.set_cons_succ]
  refine wpAnyH_take (i := 7) (v := ?_) (by simp only [List.getElem?_toArray, List.getElem?_cons_succ, List.getElem?_cons_zero]; rfl) (by kernel_rfl) (by kernel_rfl) (by kernel_rfl) (fun _ _ _ h => h) (Or.inl ⟨by rfl, ?_⟩) (by assumption) ?_
  rotate_left 1
  · intro w hSw; (try dsimp only at hSw); go_simp; (try with_reducible rfl)
  try simp only [Act.put, List.setIfInBounds_toArray, List.set_cons_zero, List.set_cons_succ]
  refine wpAnyH_take (i := 8) (v := ?_) (by simp only [List.getElem?_toArray, List.getElem?_cons_succ, List.getElem?_cons_zero]; rfl) (by kernel_rfl) (by kernel_rfl) (by kernel_rfl) (fun _ _ _ h => h) (Or.inl ⟨by rfl, ?_⟩) (by assumption) ?_
  rotate_left 1
  · intro w hSw; (try dsimp only at hSw); go_simp; (try with_reducible rfl)
  try simp only [Act.put, List.setIfInBounds_toArray, List.set_cons_zero, List.set_cons_succ]
  refine wpAnyH_take (i := 9) (v := ?_) (by simp only [List.getElem?_toArray, List.getElem?_cons_succ, List.getElem?_cons_zero]; rfl) (by kernel_rfl) (by kernel_rfl) (by kernel_rfl) (fun _ _ _ h => h) (Or.inl ⟨by rfl, ?_⟩) (by assumption) ?_
  rotate_left 1
  · intro w hSw; (try dsimp only at hSw); go_simp; (try with_reducible rfl)
  try simp only [Act.put, List.setIfInBounds_toArray, List.set_cons_zero, List.set_cons_succ]
  refine wpAnyH_take (i := 10) (v := ?_) (by simp only [List.getElem?_toArray, List.getElem?_cons_succ, List.getElem?_cons_zero]; rfl) (by kernel_rfl) (by kernel_rfl) (by kernel_rfl) (fun _ _ _ h => h) (Or.inl ⟨by rfl, ?_⟩) (by assumption) ?_
  rotate_left 1
  · intro w hSw; (try dsimp only at hSw); go_simp; (try with_reducible rfl)
  try simp only [Act.put, List.setIfInBounds_toArray, List.set_cons_zero, List.set_cons_succ]
  refine wpAnyH_take (i := 11) (v := .pointer (some ⟨gb, go + x * 6, none⟩)) (by simp only [List.getElem?_toArray, List.getElem?_cons_succ, List.getElem?_cons_zero]; rfl) (by kernel_rfl) (by kernel_rfl) (by kernel_rfl) (fun _ _ _ h => h) (Or.inl ⟨by rfl, ?_⟩) (by assumption) ?_
  · intro w hSw; (try dsimp only at hSw); (try go_simp); ((try rw [if_pos (by omega)]); (try simp); (try (intro h9; omega)))
  try simp only [Act.put, List.setIfInBounds_toArray, List.set_cons_zero, List.set_cons_succ]
  refine wpAnyH_take (i := 12) (v := ?_) (by simp only [List.getElem?_toArray, List.getElem?_cons_succ, List.getElem?_cons_zero]; rfl) (by kernel_rfl) (by kernel_rfl) (by kernel_rfl) (fun _ _ _ h => h) (Or.inl ⟨by rfl, ?_⟩) (by assumption) ?_
  rotate_left 1
  · intro w hSw; (try dsimp only at hSw); go_simp; (try with_reducible rfl)
  try simp only [Act.put, List.setIfInBounds_toArray, List.set_cons_zero, List.set_cons_succ]
  refine wpAnyH_ready (rs := [4, 13]) (by kernel_rfl) (by simp) ?_
  refine AllReadyH.cons (by simp only [List.getElem?_toArray, List.getElem?_cons_succ, List.getElem?_cons_zero]; rfl) (fun K hK => ?_) (AllReadyH.cons (by simp only [List.getElem?_toArray, List.getElem?_cons_succ, List.getElem?_cons_zero]; rfl) (fun K hK => ?_) AllReadyH.nil)
  · go_simp
    clear hHeld
    refine hK.out _ _ (KS.out _ ((SE3.out.on (Below.refl _ _).drew).cell 0) (SE3.out.on (Below.refl _ _).drew).below) (fun hHeld => ?_)
    clear hK K
    try simp only [Act.put, List.setIfInBounds_toArray, List.set_cons_zero, List.set_cons_succ]
    refine wpAnyH_ready (rs := [13]) (by kernel_rfl) (by simp) ?_
    refine AllReadyH.cons (by simp only [List.getElem?_toArray, List.getElem?_cons_succ, List.getElem?_cons_zero]; rfl) (fun K hK => ?_) AllReadyH.nil
    go_simp
    go_at_call 57
    refine Calls.mono (PL.out _ (by exact (Below.refl _ _).drew)) ?_
    rintro e w4 ⟨lv, lr, rfl, hlf, hlo, b4⟩
    have LF := hid hlf
    obtain ⟨lq, hlq⟩ : ∃ lq, lq = ((leansOn g).map Int.toNat).length := ⟨_, rfl⟩
    obtain ⟨sq, cq, hlv, _, _⟩ := hlf
    rw [← hlq] at hlv
    subst hlv
    have LO := hid hlo
    have b34 : Below W3.heap.size W3 w4 := (Below.refl W3.heap.size W3).drew.trans b4
    have B34 := hid b34
    have k4 : w4.cell? ⟨p, 4, none⟩ = some (.slice sw s.way.length cw) := (SE3.out.on B34.out).cell 4
    clear hlo b4 hlq b34
    clear hHeld
    refine hK.out _ _ (KS.out _ ((SE3.out.on B34.out).cell 0) (SE3.out.on B34.out).below) (fun hHeld => ?_)
    clear hK K
    try simp only [Act.put, List.setIfInBounds_toArray, List.set_cons_zero, List.set_cons_succ]
    refine wpAnyH_take (i := 14) (v := ?_) (by simp only [List.getElem?_toArray, List.getElem?_cons_succ, List.getElem?_cons_zero]; rfl) (by kernel_rfl) (by kernel_rfl) (by kernel_rfl) (fun _ _ _ h => h) (Or.inl ⟨by rfl, ?_⟩) (by assumption) ?_
    rotate_left 1
    · intro w hSw; (try dsimp only at hSw); go_simp; (try with_reducible rfl)
    try simp only [Act.put, List.setIfInBounds_toArray, List.set_cons_zero, List.set_cons_succ]
    refine wpAnyH_ready (rs := [15]) (by kernel_rfl) (by simp) ?_
    refine AllReadyH.cons (by simp only [List.getElem?_toArray, List.getElem?_cons_succ, List.getElem?_cons_zero]; rfl) (fun K hK => ?_) AllReadyH.nil
    go_simp
    obtain ⟨Y5, hY5⟩ : ∃ Y5, Y5 = w4.alloc (Obj.cells #[.int .i64 (x : Int), .slice sq lq cq] 129) := ⟨_, rfl⟩
    rw [← hY5]
    have B45 : Hid (Below w4.heap.size w4 Y5) := by rw [hY5]; exact (Below.refl _ _).alloc (Nat.le_refl _) _
    have BY5 : Hid (Below W3.heap.size W3 Y5) := B34.out.trans (B45.out.mono B34.out.size)
    have k5 : Y5.cell? ⟨p, 4, none⟩ = some (.slice sw s.way.length cw) := (SE3.out.on BY5.out).cell 4
    have HY5 := hid hY5
    clear hY5
    clear hHeld
    refine hK.out _ _ (KS.out _ ((SE3.out.on BY5.out).cell 0) (SE3.out.on BY5.out).below) (fun hHeld => ?_)
    clear hK K
    try simp only [Act.put, List.setIfInBounds_toArray, List.set_cons_zero, List.set_cons_succ]
    refine wpAnyH_ready (rs := [16]) (by kernel_rfl) (by simp) ?_
    refine AllReadyH.cons (by simp only [List.getElem?_toArray, List.getElem?_cons_succ, List.getElem?_cons_zero]; rfl) (fun K hK => ?_) AllReadyH.nil
    skip
    refine wp_one _ _ 101 129 _ 2 32 rfl Tryd.underlying101 info100 rfl (by decide) w.heap.size s.way.length (.slice sw s.way.length cw) (stopsV s.way rs) [.int .i64 (x : Int), .slice sq lq cq] ⟨w4.heap.size, 0, none⟩ rfl (SE3.out.on BY5.out).way rfl rfl (fun j u hu => by rw [add_zero_addr, HY5.out, cell_row (heap_alloc_new w4 _)]; simpa using hu) (fun u hu => by simp at hu; rcases hu with rfl | rfl <;> rfl) (by omega) (by omega) (SE3.out.on BY5.out).below.size ?_
    intro wv2 w6 ho6 hg6
    obtain ⟨sy, cy, rfl⟩ := own_shape ho6
    have hk6 : Kps 129 Y5 w6 := Kps.grown (SE3.out.on BY5.out).way hg6
    have hbx6 := hk6 p _ _ _ (SE3.out.on BY5.out).box (by decide)
    have c6 := fun j => cell_row hbx6 j
    have f6 := fun j => unfrozen_row hbx6 j
    have hb6 := (Array.getElem?_eq_some_iff.1 hbx6).1
    have SE7 := hid (SE3.out.stop (left := (leansOn g).map Int.toNat) (x := x) B34.out LO.out LF.out B45.out hg6 ho6)
    have b6 := (SE3.out.on BY5.out).below.grown hg6 (SE3.out.on BY5.out).below.size (fun j hj => ((SE3.out.on BY5.out).way.lt j hj).1)
    clear hHeld
    refine hK.out _ _ (KS.out _ (c6 0) b6) (fun hHeld => ?_)
    clear hK K
    try simp only [Act.put, List.setIfInBounds_toArray, List.set_cons_zero, List.set_cons_succ]
    refine wpAnyH_take (i := 17) (v := ?_) (by simp only [List.getElem?_toArray, List.getElem?_cons_succ, List.getElem?_cons_zero]; rfl) (by kernel_rfl) (by kernel_rfl) (by kernel_rfl) (fun _ _ _ h => h) (Or.inl ⟨by rfl, ?_⟩) (by assumption) ?_
    rotate_left 1
    · intro w hSw; (try dsimp only at hSw); go_simp; (try with_reducible rfl)
    try simp only [Act.put, List.setIfInBounds_toArray, List.set_cons_zero, List.set_cons_succ]
    refine wpAnyH_take (i := 18) (v := ?_) (by simp only [List.getElem?_toArray, List.getElem?_cons_succ, List.getElem?_cons_zero]; rfl) (by kernel_rfl) (by kernel_rfl) (by kernel_rfl) (fun _ _ _ h => h) (Or.inl ⟨by rfl, ?_⟩) (by assumption) ?_
    rotate_left 1
    · intro w hSw; (try dsimp only at hSw); go_simp; (try with_reducible rfl)
    try simp only [Act.put, List.setIfInBounds_toArray, List.set_cons_zero, List.set_cons_succ]
    refine wpAnyH_ready (rs := [19]) (by kernel_rfl) (by simp) ?_
    refine AllReadyH.cons (by simp only [List.getElem?_toArray, List.getElem?_cons_succ, List.getElem?_cons_zero]; rfl) (fun K hK => ?_) AllReadyH.nil
    go_simp
    clear hHeld
    refine hK.out _ _ (KS.out _ (SE7.out.cell 0) SE7.out.below) (fun hHeld => ?_)
    clear hK K
    try simp only [Act.put, List.setIfInBounds_toArray, List.set_cons_zero, List.set_cons_succ]
    refine wpAnyH_done (by kernel_rfl) ?_ _
    refine NoPanic.normal ?_
    go_wp2
    have h9 := SE7.out
    rw [show (leansOn g).map Int.toNat = leanN l x by unfold leanN; rw [HG.out]] at h9
    exact bodyPost_end (results_none rfl _ _ _) rfl ⟨⟨_, rfl⟩, _, _, _, h9⟩
  · go_simp
    go_at_call 57
    refine Calls.mono (PL.out _ (by exact (Below.refl _ _).drew)) ?_
    rintro e w4 ⟨lv, lr, rfl, hlf, hlo, b4⟩
    have LF := hid hlf
    obtain ⟨lq, hlq⟩ : ∃ lq, lq = ((leansOn g).map Int.toNat).length := ⟨_, rfl⟩
    obtain ⟨sq, cq, hlv, _, _⟩ := hlf
    rw [← hlq] at hlv
    subst hlv
    have LO := hid hlo
    have b34 : Below W3.heap.size W3 w4 := (Below.refl W3.heap.size W3).drew.trans b4
    have B34 := hid b34
    have k4 : w4.cell? ⟨p, 4, none⟩ = some (.slice sw s.way.length cw) := (SE3.out.on B34.out).cell 4
    clear hlo b4 hlq b34
    clear hHeld
    refine hK.out _ _ (KS.out _ ((SE3.out.on B34.out).cell 0) (SE3.out.on B34.out).below) (fun hHeld => ?_)
    clear hK K
    try simp only [Act.put, List.setIfInBounds_toArray, List.set_cons_zero, List.set_cons_succ]
    refine wpAnyH_take (i := 14) (v := ?_) (by simp only [List.getElem?_toArray, List.getElem?_cons_succ, List.getElem?_cons_zero]; rfl) (by kernel_rfl) (by kernel_rfl) (by kernel_rfl) (fun _ _ _ h => h) (Or.inl ⟨by rfl, ?_⟩) (by assumption) ?_
    rotate_left 1
    · intro w hSw; (try dsimp only at hSw); go_simp; (try with_reducible rfl)
    try simp only [Act.put, List.setIfInBounds_toArray, List.set_cons_zero, List.set_cons_succ]
    refine wpAnyH_ready (rs := [4, 15]) (by kernel_rfl) (by simp) ?_
    refine AllReadyH.cons (by simp only [List.getElem?_toArray, List.getElem?_cons_succ, List.getElem?_cons_zero]; rfl) (fun K hK => ?_) (AllReadyH.cons (by simp only [List.getElem?_toArray, List.getElem?_cons_succ, List.getElem?_cons_zero]; rfl) (fun K hK => ?_) AllReadyH.nil)
    · go_simp
      clear hHeld
      refine hK.out _ _ (KS.out _ ((SE3.out.on B34.out).cell 0) (SE3.out.on B34.out).below) (fun hHeld => ?_)
      clear hK K
      try simp only [Act.put, List.setIfInBounds_toArray, List.set_cons_zero, List.set_cons_succ]
      refine wpAnyH_ready (rs := [15]) (by kernel_rfl) (by simp) ?_
      refine AllReadyH.cons (by simp only [List.getElem?_toArray, List.getElem?_cons_succ, List.getElem?_cons_zero]; rfl) (fun K hK => ?_) AllReadyH.nil
      go_simp
      obtain ⟨Y5, hY5⟩ : ∃ Y5, Y5 = w4.alloc (Obj.cells #[.int .i64 (x : Int), .slice sq lq cq] 129) := ⟨_, rfl⟩
      rw [← hY5]
      have B45 : Hid (Below w4.heap.size w4 Y5) := by rw [hY5]; exact (Below.refl _ _).alloc (Nat.le_refl _) _
      have BY5 : Hid (Below W3.heap.size W3 Y5) := B34.out.trans (B45.out.mono B34.out.size)
      have k5 : Y5.cell? ⟨p, 4, none⟩ = some (.slice sw s.way.length cw) := (SE3.out.on BY5.out).cell 4
      have HY5 := hid hY5
      clear hY5
      clear hHeld
      refine hK.out _ _ (KS.out _ ((SE3.out.on BY5.out).cell 0) (SE3.out.on BY5.out).below) (fun hHeld => ?_)
      clear hK K
      try simp only [Act.put, List.setIfInBounds_toArray, List.set_cons_zero, List.set_cons_succ]
      refine wpAnyH_ready (rs := [16]) (by kernel_rfl) (by simp) ?_
      refine AllReadyH.cons (by simp only [List.getElem?_toArray, List.getElem?_cons_succ, List.getElem?_cons_zero]; rfl) (fun K hK => ?_) AllReadyH.nil
      skip
      refine wp_one _ _ 101 129 _ 2 32 rfl Tryd.underlying101 info100 rfl (by decide) w.heap.size s.way.length (.slice sw s.way.length cw) (stopsV s.way rs) [.int .i64 (x : Int), .slice sq lq cq] ⟨w4.heap.size, 0, none⟩ rfl (SE3.out.on BY5.out).way rfl rfl (fun j u hu => by rw [add_zero_addr, HY5.out, cell_row (heap_alloc_new w4 _)]; simpa using hu) (fun u hu => by simp at hu; rcases hu with rfl | rfl <;> rfl) (by omega) (by omega) (SE3.out.on BY5.out).below.size ?_
      intro wv2 w6 ho6 hg6
      obtain ⟨sy, cy, rfl⟩ := own_shape ho6
      have hk6 : Kps 129 Y5 w6 := Kps.grown (SE3.out.on BY5.out).way hg6
      have hbx6 := hk6 p _ _ _ (SE3.out.on BY5.out).box (by decide)
      have c6 := fun j => cell_row hbx6 j
      have f6 := fun j => unfrozen_row hbx6 j
      have hb6 := (Array.getElem?_eq_some_iff.1 hbx6).1
      have SE7 := hid (SE3.out.stop (left := (leansOn g).map Int.toNat) (x := x) B34.out LO.out LF.out B45.out hg6 ho6)
      have b6 := (SE3.out.on BY5.out).below.grown hg6 (SE3.out.on BY5.out).below.size (fun j hj => ((SE3.out.on BY5.out).way.lt j hj).1)
      clear hHeld
      refine hK.out _ _ (KS.out _ (c6 0) b6) (fun hHeld => ?_)
      clear hK K
      try simp only [Act.put, List.setIfInBounds_toArray, List.set_cons_zero, List.set_cons_succ]
      refine wpAnyH_take (i := 17) (v := ?_) (by simp only [List.getElem?_toArray, List.getElem?_cons_succ, List.getElem?_cons_zero]; rfl) (by kernel_rfl) (by kernel_rfl) (by kernel_rfl) (fun _ _ _ h => h) (Or.inl ⟨by rfl, ?_⟩) (by assumption) ?_
      rotate_left 1
      · intro w hSw; (try dsimp only at hSw); go_simp; (try with_reducible rfl)
      try simp only [Act.put, List.setIfInBounds_toArray, List.set_cons_zero, List.set_cons_succ]
      refine wpAnyH_take (i := 18) (v := ?_) (by simp only [List.getElem?_toArray, List.getElem?_cons_succ, List.getElem?_cons_zero]; rfl) (by kernel_rfl) (by kernel_rfl) (by kernel_rfl) (fun _ _ _ h => h) (Or.inl ⟨by rfl, ?_⟩) (by assumption) ?_
      rotate_left 1
      · intro w hSw; (try dsimp only at hSw); go_simp; (try with_reducible rfl)
      try simp only [Act.put, List.setIfInBounds_toArray, List.set_cons_zero, List.set_cons_succ]
      refine wpAnyH_ready (rs := [19]) (by kernel_rfl) (by simp) ?_
      refine AllReadyH.cons (by simp only [List.getElem?_toArray, List.getElem?_cons_succ, List.getElem?_cons_zero]; rfl) (fun K hK => ?_) AllReadyH.nil
      go_simp
      clear hHeld
      refine hK.out _ _ (KS.out _ (SE7.out.cell 0) SE7.out.below) (fun hHeld => ?_)
      clear hK K
      try simp only [Act.put, List.setIfInBounds_toArray, List.set_cons_zero, List.set_cons_succ]
      refine wpAnyH_done (by kernel_rfl) ?_ _
      refine NoPanic.normal ?_
      go_wp2
      have h9 := SE7.out
      rw [show (leansOn g).map Int.toNat = leanN l x by unfold leanN; rw [HG.out]] at h9
      exact bodyPost_end (results_none rfl _ _ _) rfl ⟨⟨_, rfl⟩, _, _, _, h9⟩
    · go_simp
      obtain ⟨Y5, hY5⟩ : ∃ Y5, Y5 = w4.alloc (Obj.cells #[.int .i64 (x : Int), .slice sq lq cq] 129) := ⟨_, rfl⟩
      rw [← hY5]
      have B45 : Hid (Below w4.heap.size w4 Y5) := by rw [hY5]; exact (Below.refl _ _).alloc (Nat.le_refl _) _
      have BY5 : Hid (Below W3.heap.size W3 Y5) := B34.out.trans (B45.out.mono B34.out.size)
      have k5 : Y5.cell? ⟨p, 4, none⟩ = some (.slice sw s.way.length cw) := (SE3.out.on BY5.out).cell 4
      have HY5 := hid hY5
      clear hY5
      clear hHeld
      refine hK.out _ _ (KS.out _ ((SE3.out.on BY5.out).cell 0) (SE3.out.on BY5.out).below) (fun hHeld => ?_)
      clear hK K
      try simp only [Act.put, List.setIfInBounds_toArray, List.set_cons_zero, List.set_cons_succ]
      refine wpAnyH_ready (rs := [4]) (by kernel_rfl) (by simp) ?_
      refine AllReadyH.cons (by simp only [List.getElem?_toArray, List.getElem?_cons_succ, List.getElem?_cons_zero]; rfl) (fun K hK => ?_) AllReadyH.nil
      go_simp
      clear hHeld
      refine hK.out _ _ (KS.out _ ((SE3.out.on BY5.out).cell 0) (SE3.out.on BY5.out).below) (fun hHeld => ?_)
      clear hK K
      try simp only [Act.put, List.setIfInBounds_toArray, List.set_cons_zero, List.set_cons_succ]
      refine wpAnyH_ready (rs := [16]) (by kernel_rfl) (by simp) ?_
      refine AllReadyH.cons (by simp only [List.getElem?_toArray, List.getElem?_cons_succ, List.getElem?_cons_zero]; rfl) (fun K hK => ?_) AllReadyH.nil
      skip
      refine wp_one _ _ 101 129 _ 2 32 rfl Tryd.underlying101 info100 rfl (by decide) w.heap.size s.way.length (.slice sw s.way.length cw) (stopsV s.way rs) [.int .i64 (x : Int), .slice sq lq cq] ⟨w4.heap.size, 0, none⟩ rfl (SE3.out.on BY5.out).way rfl rfl (fun j u hu => by rw [add_zero_addr, HY5.out, cell_row (heap_alloc_new w4 _)]; simpa using hu) (fun u hu => by simp at hu; rcases hu with rfl | rfl <;> rfl) (by omega) (by omega) (SE3.out.on BY5.out).below.size ?_
      intro wv2 w6 ho6 hg6
      obtain ⟨sy, cy, rfl⟩ := own_shape ho6
      have hk6 : Kps 129 Y5 w6 := Kps.grown (SE3.out.on BY5.out).way hg6
      have hbx6 := hk6 p _ _ _ (SE3.out.on BY5.out).box (by decide)
      have c6 := fun j => cell_row hbx6 j
      have f6 := fun j => unfrozen_row hbx6 j
      have hb6 := (Array.getElem?_eq_some_iff.1 hbx6).1
      have SE7 := hid (SE3.out.stop (left := (leansOn g).map Int.toNat) (x := x) B34.out LO.out LF.out B45.out hg6 ho6)
      have b6 := (SE3.out.on BY5.out).below.grown hg6 (SE3.out.on BY5.out).below.size (fun j hj => ((SE3.out.on BY5.out).way.lt j hj).1)
      clear hHeld
      refine hK.out _ _ (KS.out _ (c6 0) b6) (fun hHeld => ?_)
      clear hK K
      try simp only [Act.put, List.setIfInBounds_toArray, List.set_cons_zero, List.set_cons_succ]
      refine wpAnyH_take (i := 17) (v := ?_) (by simp only [List.getElem?_toArray, List.getElem?_cons_succ, List.getElem?_cons_zero]; rfl) (by kernel_rfl) (by kernel_rfl) (by kernel_rfl) (fun _ _ _ h => h) (Or.inl ⟨by rfl, ?_⟩) (by assumption) ?_
      rotate_left 1
      · intro w hSw; (try dsimp only at hSw); go_simp; (try with_reducible rfl)
      try simp only [Act.put, List.setIfInBounds_toArray, List.set_cons_zero, List.set_cons_succ]
      refine wpAnyH_take (i := 18) (v := ?_) (by simp only [List.getElem?_toArray, List.getElem?_cons_succ, List.getElem?_cons_zero]; rfl) (by kernel_rfl) (by kernel_rfl) (by kernel_rfl) (fun _ _ _ h => h) (Or.inl ⟨by rfl, ?_⟩) (by assumption) ?_
      rotate_left 1
      · intro w hSw; (try dsimp only at hSw); go_simp; (try with_reducible rfl)
      try simp only [Act.put, List.setIfInBounds_toArray, List.set_cons_zero, List.set_cons_succ]
      refine wpAnyH_ready (rs := [19]) (by kernel_rfl) (by simp) ?_
      refine AllReadyH.cons (by simp only [List.getElem?_toArray, List.getElem?_cons_succ, List.getElem?_cons_zero]; rfl) (fun K hK => ?_) AllReadyH.nil
      go_simp
      clear hHeld
      refine hK.out _ _ (KS.out _ (SE7.out.cell 0) SE7.out.below) (fun hHeld => ?_)
      clear hK K
      try simp only [Act.put, List.setIfInBounds_toArray, List.set_cons_zero, List.set_cons_succ]
      refine wpAnyH_done (by kernel_rfl) ?_ _
      refine NoPanic.normal ?_
      go_wp2
      have h9 := SE7.out
      rw [show (leansOn g).map Int.toNat = leanN l x by unfold leanN; rw [HG.out]] at h9
      exact bodyPost_end (results_none rfl _ _ _) rfl ⟨⟨_, rfl⟩, _, _, _, h9⟩
end Go.Proofs.YtfmmmhcpdinhgabDoor
/-
  The search of the program: a part comes out; back from a line.
-/
namespace Go.Proofs.YtfmmmhcpdinhgabDoor
open Go.RowKit Go.Deep PureNet ShfKit
set_option maxRecDepth 100000

/-- a row cut short. -/
theorem own_cut {W : World} {B e size n m c : Nat} {sa : Option Addr} {xs : List Value} (h : W.ownsRow B e size (.slice sa n c) n xs) (hm : m ≤ n) : W.ownsRow B e size (.slice sa m c) m (xs.take (m * size)) := by
  rcases h.2 with ⟨hv, h0⟩ | ⟨g, cap, cur, hv, hb, hr, hnc, hcm, hcs, htk⟩
  · simp only [Value.slice.injEq] at hv
    obtain ⟨rfl, _, rfl⟩ := hv
    obtain rfl : m = 0 := by omega
    rw [Nat.zero_mul, List.take_zero]
    exact World.ownsRow_nil _ _ _ _
  · simp only [Value.slice.injEq] at hv
    obtain ⟨rfl, _, rfl⟩ := hv
    have hl := h.1
    have hms : m * size ≤ n * size := Nat.mul_le_mul_right _ hm
    refine ⟨by rw [List.length_take, hl]; omega, .inr ⟨g, c, cur, rfl, hb, hr, by omega, hcm, hcs, ?_⟩⟩
    rw [← htk, List.take_take, Nat.min_eq_left hms]
theorem places_len (L : List Nat) : (placesV L).length = L.length := by unfold placesV; rw [rowF_len]
theorem places_cut (pre : List Nat) (x : Nat) : (placesV (pre ++ [x])).take (pre.length * 1) = placesV pre := by
  rw [← places_snoc, Nat.mul_one]
  have : pre.length = (placesV pre).length := (places_len pre).symm
  rw [this, List.take_left']
  rfl
theorem places_at (L : List Nat) (j x : Nat) (h : L[j]? = some x) : (placesV L)[j]? = some (.int .i64 (x : Int)) := by
  have hj := (List.getElem?_eq_some_iff.1 h).1
  unfold placesV
  rw [rowF_at _ _ _ hj, List.getD_eq_getElem?_getD, h]
  rfl
section
variable {w W W' : World} {p n : Nat} {gv mv rv pv wv tv ov : Value} {s : Ps} {rs : List (Value × Rw)}
/-- what waits is cut short by one, and lies in the box. -/
theorem Se.cutWait {st : Option Addr} {ct : Nat} {pre : List Nat} {x : Nat} (h : Se w W p gv n s mv rv pv wv (.slice st s.waiting.length ct) ov rs) (hw : s.waiting = pre ++ [x]) :
    Se w (W.setCell ⟨p, 5, none⟩ (.slice st pre.length ct)) p gv n ⟨s.met, s.reached, s.part, s.way, pre, s.out⟩ mv rv pv wv (.slice st pre.length ct) ov rs := by
  refine h.waits (wt := pre) ?_ h.below (fun _ _ _ _ hk _ => hk)
  have ho := h.fam.own 3 (.slice st s.waiting.length ct, s.waiting.length, placesV s.waiting) rfl
  have hc := own_cut ho (m := pre.length) (by rw [hw]; simp)
  rw [hw, places_cut] at hc
  exact h.fam.turn (i := 3) (x := (.slice st s.waiting.length ct, s.waiting.length, placesV s.waiting)) (y := (.slice st pre.length ct, pre.length, placesV pre)) rfl hc (.inl ⟨by rcases st with _ | ⟨b, o, sp⟩ <;> simp [Value.ownBlock], World.grownBy.refl _ _⟩)
theorem Se.lastWait {st : Option Addr} {ct : Nat} {pre : List Nat} {x : Nat} (h : Se w W p gv n s mv rv pv wv (.slice st s.waiting.length ct) ov rs) (hw : s.waiting = pre ++ [x]) :
    ∃ g, st = some ⟨g, 0, none⟩ ∧ g < W.heap.size ∧ W.cell? ⟨g, pre.length, none⟩ = some (.int .i64 (x : Int)) := by
  have ho := h.fam.own 3 (.slice st s.waiting.length ct, s.waiting.length, placesV s.waiting) rfl
  obtain ⟨g, c, hv, _, hg, hc, _⟩ := own_cell ho (places_at s.waiting pre.length x (by rw [hw]; simp))
  simp only [Value.slice.injEq] at hv
  exact ⟨g, hv.1, hg, hc⟩
end

end Go.Proofs.YtfmmmhcpdinhgabDoor
/-
  The search of the program: back from a line.
-/
namespace Go.Proofs.YtfmmmhcpdinhgabDoor
open Go.RowKit Go.Deep PureNet ShfKit
set_option maxRecDepth 100000

theorem list_last {α : Type} (l : List α) (m : Nat) (h : l.length = m + 1) : ∃ k r, l = k ++ [r] ∧ k.length = m := by
  have hne : l ≠ [] := fun e => by rw [e] at h; simp at h
  exact ⟨l.dropLast, l.getLast hne, (List.dropLast_concat_getLast hne).symm, by rw [List.length_dropLast]; omega⟩
section
variable {w W W' : World} {p n : Nat} {gv mv rv pv wv tv ov : Value} {s : Ps} {rs : List (Value × Rw)}
theorem Se.lastWay {sw : Option Addr} {cw : Nat} {ws : List (Nat × List Nat)} {a : Nat × List Nat} (h : Se w W p gv n s mv rv pv (.slice sw s.way.length cw) tv ov rs) (hw : s.way = ws ++ [a]) :
    ∃ gw k r, sw = some ⟨gw, 0, none⟩ ∧ rs = k ++ [r] ∧ k.length = ws.length ∧ w.heap.size ≤ gw ∧ gw < W.heap.size ∧ W.cell? ⟨gw, ws.length * 2, none⟩ = some (.int .i64 (a.1 : Int)) ∧ W.cell? ⟨gw, ws.length * 2 + 1, none⟩ = some r.1 ∧ W.frozen? ⟨gw, ws.length * 2 + 1, none⟩ = false ∧ Lf r.1 r.2 a.2 ∧ s.way.length ≤ cw ∧ ∃ cs, W.heap[gw]? = some (.cells cs 129 (0, 0)) := by
  have hl : rs.length = ws.length + 1 := by rw [h.rsn, hw]; simp
  obtain ⟨k, r, hrs, hk⟩ := list_last rs ws.length hl
  have hst : stopsV s.way rs = stopsV ws k ++ [.int .i64 (a.1 : Int), r.1] := by rw [hw, hrs]; exact stopsV_snoc ws k a r hk
  have hsl := stopsV_len ws k hk
  have e0 : (stopsV s.way rs)[ws.length * 2]? = some (.int .i64 (a.1 : Int)) := by
    rw [hst, List.getElem?_append_right (by omega), hsl, Nat.sub_self]; rfl
  have e1 : (stopsV s.way rs)[ws.length * 2 + 1]? = some r.1 := by
    rw [hst, List.getElem?_append_right (by omega), hsl, Nat.add_sub_cancel_left]; rfl
  have ho := h.way
  rcases ho.2 with ⟨hv, h0⟩ | ⟨g, cap, cur, hv, hb, hr, hnc, _⟩
  · rw [hw] at h0; simp at h0
  · obtain ⟨g1, c1, hv1, _, hg1, hc1, _⟩ := own_cell ho e0
    obtain ⟨g2, c2, hv2, _, _, hc2, hf2⟩ := own_cell ho e1
    simp only [Value.slice.injEq] at hv hv1 hv2
    obtain ⟨e1, _, e3⟩ := hv
    rw [e1] at hv1 hv2
    simp only [Option.some.injEq, Addr.mk.injEq, and_true] at hv1 hv2
    obtain ⟨rfl, _⟩ := hv1
    obtain ⟨rfl, _⟩ := hv2
    exact ⟨g, k, r, e1, hrs, hk, hb, hg1, hc1, hc2, hf2, h.lf ws.length a r (by rw [hw]; simp) (by rw [hrs, ← hk]; simp), by rw [e3]; exact hnc, _, hr⟩
theorem Se.cutWay {sw : Option Addr} {cw : Nat} {ws : List (Nat × List Nat)} {a : Nat × List Nat} {k : List (Value × Rw)} {r : Value × Rw} (h : Se w W p gv n s mv rv pv (.slice sw s.way.length cw) tv ov rs) (hw : s.way = ws ++ [a]) (hrs : rs = k ++ [r]) (hk : k.length = ws.length) :
    Se w (W.setCell ⟨p, 4, none⟩ (.slice sw ws.length cw)) p gv n (s.goes ws) mv rv pv (.slice sw ws.length cw) tv ov k := by
  have k2 : Kps 103 W (W.setCell ⟨p, 4, none⟩ (.slice sw ws.length cw)) := Kps.setCell h.box _
  have hst : stopsV s.way rs = stopsV ws k ++ [.int .i64 (a.1 : Int), r.1] := by rw [hw, hrs]; exact stopsV_snoc ws k a r hk
  have hc := own_cut h.way (m := ws.length) (by rw [hw]; simp)
  rw [hst, show (stopsV ws k ++ [.int .i64 (a.1 : Int), r.1]).take (ws.length * 2) = stopsV ws k by rw [← stopsV_len ws k hk]; exact List.take_left' rfl] at hc
  refine ⟨h.below.setCell h.pb _, h.pb, row_set h.box, ?_, k2.own hc (by decide), hk, fun j b q hb hq => ?_⟩
  · have hF := Fam.take h.fam (5 + k.length)
    have e : ([(mv, n, rowF n s.met), (rv, n, rowF n s.reached), (pv, n, rowF n s.part), (tv, s.waiting.length, placesV s.waiting), (ov, s.out.length, placesV s.out)] ++ rs.map Prod.snd).take (5 + k.length) = [(mv, n, rowF n s.met), (rv, n, rowF n s.reached), (pv, n, rowF n s.part), (tv, s.waiting.length, placesV s.waiting), (ov, s.out.length, placesV s.out)] ++ k.map Prod.snd := by
      rw [hrs, List.map_append, ← List.append_assoc]
      exact List.take_left' (by simp; omega)
    rw [e] at hF
    exact k2.fam hF (by decide)
  · have hb : ws[j]? = some b := hb
    have hj := (List.getElem?_eq_some_iff.1 hb).1
    refine h.lf j b q (by rw [hw, List.getElem?_append_left hj]; exact hb) ?_
    rw [hrs, List.getElem?_append_left (by omega)]
    exact hq
end

end Go.Proofs.YtfmmmhcpdinhgabDoor
/-
  The search of the program from a line, where none is in a circle.
-/
namespace Go.Proofs.YtfmmmhcpdinhgabDoor
open Go.RowKit Go.Deep PureNet ShfKit
set_option maxRecDepth 100000

theorem stopsV_set (ws : List (Nat × List Nat)) (k : List (Value × Rw)) (y : Nat) (lf lf' : List Nat) (r : Value × Rw) (lv : Value) (hk : k.length = ws.length) : (stopsV (ws ++ [(y, lf)]) (k ++ [r])).set (ws.length * 2 + 1) lv = stopsV (ws ++ [(y, lf')]) (k ++ [(lv, r.2)]) := by
  rw [stopsV_snoc _ _ _ _ hk, stopsV_snoc _ _ _ _ hk, List.set_append_right _ _ (by rw [stopsV_len ws k hk]; omega), stopsV_len ws k hk, Nat.add_sub_cancel_left]
  rfl
section
variable {w W W' : World} {p n : Nat} {gv mv rv pv wv tv ov : Value} {s : Ps} {rs : List (Value × Rw)}
theorem Se.setLeft {gw cw : Nat} {ws : List (Nat × List Nat)} {y : Nat} {lf lf' : List Nat} {k : List (Value × Rw)} {r : Value × Rw} (h : Se w W p gv n s mv rv pv (.slice (some ⟨gw, 0, none⟩) s.way.length cw) tv ov rs) (hw : s.way = ws ++ [(y, lf)]) (hrs : rs = k ++ [r]) (hk : k.length = ws.length) (hgw : w.heap.size ≤ gw) (hr : ∃ cs, W.heap[gw]? = some (.cells cs 129 (0, 0))) (lv : Value) (hl : Lf lv r.2 lf') :
    Se w (W.setCell ⟨gw, ws.length * 2 + 1, none⟩ lv) p gv n (s.goes (ws ++ [(y, lf')])) mv rv pv (.slice (some ⟨gw, 0, none⟩) s.way.length cw) tv ov (k ++ [(lv, r.2)]) := by
  obtain ⟨cs, hr⟩ := hr
  have k2 : Kps 129 W (W.setCell ⟨gw, ws.length * 2 + 1, none⟩ lv) := Kps.setCell hr _
  have hwl : (ws ++ [(y, lf')]).length = s.way.length := by rw [hw]; simp
  have h1 := (own_set h.way (j := ws.length * 2 + 1) rfl lv).1
  rw [hw, hrs, stopsV_set ws k y lf lf' r lv hk] at h1
  refine ⟨h.below.setCell hgw _, h.pb, k2 p _ _ _ h.box (by decide), ?_, ?_, by show (k ++ [(lv, r.2)]).length = (ws ++ [(y, lf')]).length; simp [hk], fun j a q ha hq => ?_⟩
  · have e : (k ++ [(lv, r.2)]).map Prod.snd = rs.map Prod.snd := by rw [hrs]; simp
    rw [e]
    exact k2.fam h.fam (by decide)
  · show (W.setCell ⟨gw, ws.length * 2 + 1, none⟩ lv).ownsRow w.heap.size 129 2 _ (ws ++ [(y, lf')]).length (stopsV (ws ++ [(y, lf')]) (k ++ [(lv, r.2)]))
    rw [hwl, hw]
    exact h1
  · have ha : (ws ++ [(y, lf')])[j]? = some a := ha
    by_cases hj : j < ws.length
    · rw [List.getElem?_append_left hj] at ha
      rw [List.getElem?_append_left (by omega)] at hq
      exact h.lf j a q (by rw [hw, List.getElem?_append_left hj]; exact ha) (by rw [hrs, List.getElem?_append_left (by omega)]; exact hq)
    · have hj2 := (List.getElem?_eq_some_iff.1 ha).1
      rw [List.length_append, List.length_singleton] at hj2
      obtain rfl : j = ws.length := by omega
      rw [Sr.at_last] at ha
      obtain rfl := Option.some.inj ha
      rw [← hk] at hq
      simp at hq
      subst hq
      exact hl
theorem Se.leftCell {k : List (Value × Rw)} {r : Value × Rw} {g j : Nat} {u : Value} (h : Se w W p gv n s mv rv pv wv tv ov rs) (hrs : rs = k ++ [r]) (hg : r.2.1.ownBlock = some g) (hu : r.2.2.2[j]? = some u) : W.cell? ⟨g, j, none⟩ = some u ∧ g < W.heap.size := by
  have ho := h.fam.own (5 + k.length) r.2 (by
    rw [hrs, List.map_append, List.getElem?_append_right (by simp)]
    simp)
  obtain ⟨g2, c2, hv2, _, hs2, hc2, _⟩ := own_cell ho hu
  rw [hv2] at hg
  cases hg
  exact ⟨hc2, hs2⟩
end

end Go.Proofs.YtfmmmhcpdinhgabDoor
