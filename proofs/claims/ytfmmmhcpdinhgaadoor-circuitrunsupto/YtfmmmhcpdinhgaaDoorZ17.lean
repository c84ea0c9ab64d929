import Derived.Test.YtfmmmhcpdinhgaaDoorZ16
/-
  A player is made.
-/
namespace Go.Proofs.YtfmmmhcpdinhgaaDoor
open Go.RowKit Go.Deep PureNet ShfKit
set_option maxRecDepth 100000

/-- append of one to a row of a family, an operation by itself. -/
theorem fam_wp {o : Oper} {a : Act} {K : Act → World → Prop} {Q : Exit → Act → World → Prop} {w W : World} {L : List Rw} (sl y : Operand)
    (ho : o.op = .call { callee := .builtin .append, args := #[sl, y], argTypes := #[22, 22] }) (hF : Fam W w.heap.size 3 1 L) (hB : Below w.heap.size w W) (i : Nat) (x : Rw) (hx : L[i]? = some x) (u : Int) (ad : Nat) (hcell : W.cell? ⟨ad, 0, none⟩ = some (.int .i64 u))
    (hs : a.eval sl = x.1) (hy : a.eval y = .slice (some ⟨ad, 0, none⟩) 1 1) (hn : x.2.1 ≤ 1099511627776)
    (hK : ∀ sx cx w', Fam w' w.heap.size 3 1 (L.set i (.slice sx (x.2.1 + 1) cx, x.2.1 + 1, x.2.2 ++ [.int .i64 u])) → Below w.heap.size w w' → Kp 3 W w' → K (a.put o.dst (.slice sx (x.2.1 + 1) cx)) w') : Oper.wp Tryd.prog o a W K Q := by
  obtain ⟨ii, hi, hz0, hz1, hz2⟩ := info_parts info3
  have hown := hF.own i x hx
  obtain ⟨v', w', hr, o1, hf⟩ := run_append_far (P := Tryd.prog) W w.heap.size 22 o.type 3 ii (.int .i64 0) 1 8 Tryd.underlying22 hi hz0 hz1 hz2 rfl (by decide) x.1 x.2.1 x.2.2 hown ⟨ad, 0, none⟩ 1 1 [.int .i64 u] rfl (fun j v hv => by
    match j, hv with
    | 0, hv => simp at hv; subst hv; exact hcell
    | j + 1, hv => simp at hv) (fun v hv => by simp at hv; subst hv; rfl) (by unfold maxLen; omega) (by omega) hB.size
  obtain ⟨sx, cx, rfl⟩ := own_shape o1
  have hgr : (∃ g, W.grownBy w' g ∧ ∀ k, g = some k → x.1.ownBlock = some k) := by
    rcases hf with ⟨_, hg⟩ | ⟨_, hg⟩
    · exact ⟨_, hg, fun k e => e⟩
    · exact ⟨none, hg, fun k e => by cases e⟩
  obtain ⟨g, hg, hgx⟩ := hgr
  unfold Oper.wp execOp
  simp only [ho, resolve, invoke, builtin, Sem.run_bind, Sem.run_pure, Result.andThen_ok, List.map_toArray, List.map_cons, List.map_nil, hs, hy, hr]
  refine hK sx cx w' (hF.turn (y := (.slice sx (x.2.1 + 1) cx, x.2.1 + 1, x.2.2 ++ [.int .i64 u])) hx o1 hf) (hB.grown hg hB.size (fun k e => (ShfKit.own_block hown (hgx k e)).1)) (fun k cs tt fz hk htt => ?_)
  refine (hg.block k (Array.getElem?_eq_some_iff.1 hk).1 (fun e => ?_)).trans hk
  exact own_ne hown hk htt (hgx k e.symm)
end Go.Proofs.YtfmmmhcpdinhgaaDoor
namespace PureNet
open Go.Proofs.YtfmmmhcpdinhgaaDoor
set_option maxRecDepth 100000
theorem Sr.nd_out {l : List Ga} {P : Nat → Prop} {S0 : List Nat} {E : Nat → Prop} {s : Ps} (h : Sr l P S0 E s) : s.out.Nodup := (List.nodup_append.1 h.nd).1
end PureNet
namespace Go.Proofs.YtfmmmhcpdinhgaaDoor
open Go.RowKit Go.Deep PureNet ShfKit
set_option maxRecDepth 100000
end Go.Proofs.YtfmmmhcpdinhgaaDoor
namespace PureNet
open Go.Proofs.YtfmmmhcpdinhgaaDoor
set_option maxRecDepth 100000
theorem Sr.lt_out {l : List Ga} {P : Nat → Prop} {S0 : List Nat} {E : Nat → Prop} {s : Ps} (h : Sr l P S0 E s) : ∀ x ∈ s.out, x < l.length := fun x hx => h.lt x (List.mem_append_left _ hx)
end PureNet
namespace Go.Proofs.YtfmmmhcpdinhgaaDoor
open Go.RowKit Go.Deep PureNet ShfKit
set_option maxRecDepth 100000
theorem row_read {W : World} {B n c : Nat} {s : Option Addr} {xs : List Value} (h : W.ownsRow B 3 1 (.slice s n c) n xs) : CellsAt W s xs := by
  obtain ⟨sa, k, hv, hc, _⟩ := own_cells h
  simp only [Value.slice.injEq] at hv
  rw [hv.1]
  exact hc
theorem off_row {W : World} {B n c vb : Nat} {s : Option Addr} {xs : List Value} {cs : Array Value} (h : W.ownsRow B 3 1 (.slice s n c) n xs) (hv : W.heap[vb]? = some (.cells cs 4 (0, 0))) : Off xs s vb := fun _ g o sp e e2 => by
  have h1 := own_ne h hv (by decide)
  rcases h.2 with ⟨hs, _⟩ | ⟨g2, cap, cur, hs, _⟩
  · simp only [Value.slice.injEq] at hs
    rw [hs.1] at e
    cases e
  · simp only [Value.slice.injEq] at hs
    rw [hs.1] at e
    cases e
    rw [hs.1, e2] at h1
    exact h1 rfl
theorem off_base {w : World} {vb : Nat} {s : Option Addr} {xs : List Value} (h : CellsAt w s xs) (hv : w.heap.size ≤ vb) : Off xs s vb := fun hne g o sp e e2 => by
  obtain ⟨x, r, hx⟩ := List.exists_cons_of_ne_nil hne
  obtain ⟨g2, o2, e3, hg, _⟩ := h.at_ 0 x (by rw [hx]; rfl)
  rw [e] at e3
  cases e3
  omega
theorem kpTo_le (k : Int) (l : List Ga) : ∀ i, (kpTo k l i).length ≤ i
  | 0 => by simp [kpTo]
  | i + 1 => by
    have ih := kpTo_le k l i
    rw [kpTo, List.length_append]
    cases l[i]? with
    | none => simp; omega
    | some g => dsimp only; split <;> simp <;> omega
theorem srcsTo_le (l : List Ga) : ∀ i, (srcsTo l i).length ≤ i
  | 0 => by simp [srcsTo]
  | i + 1 => by
    have ih := srcsTo_le l i
    rw [srcsTo, List.length_append]
    cases l[i]? with
    | none => simp; omega
    | some g => dsimp only; split <;> simp <;> omega
theorem zero_bits (w : World) (n : Nat) : (w.alloc (.cells (madeCells #[.bool false] n) 4)).heap[w.heap.size]? = some (.cells (bo (List.replicate n false)).toArray 4 (0, 0)) := by
  rw [heap_alloc_new]
  congr 2
  apply Array.ext'
  rw [toList_madeCells_one]
  simp [bo]
/-- a player in the making. -/
structure Np (w W : World) (p vb n : Nat) (gv ordv iv lv sv outv : Value) (ord ins las : List Nat) (srcs : List Int) : Prop where
  below : Below w.heap.size w W
  pb : w.heap.size ≤ p
  box : W.heap[p]? = some (.cells #[gv, ordv, iv, lv, sv, outv, .slice (some ⟨vb, 0, none⟩) n n] 67 (0, 0))
  fam : Fam W w.heap.size 3 1 [(ordv, ord.length, placesV ord), (iv, ins.length, placesV ins), (lv, las.length, placesV las), (sv, srcs.length, nu srcs)]
  vals : W.heap[vb]? = some (.cells (bo (List.replicate n false)).toArray 4 (0, 0))
  vbB : w.heap.size ≤ vb
theorem Np.start {w Z : World} {vb n : Nat} {gv ordv outv : Value} {ord : List Nat} (hb : Below w.heap.size w Z) (ho : Z.ownsRow w.heap.size 3 1 ordv ord.length (placesV ord)) (hv : Z.heap[vb]? = some (.cells (bo (List.replicate n false)).toArray 4 (0, 0))) (hvb : w.heap.size ≤ vb) :
    Np w (Z.alloc (.cells #[gv, ordv, .slice none 0 0, .slice none 0 0, .slice none 0 0, outv, .slice (some ⟨vb, 0, none⟩) n n] 67)) Z.heap.size vb n gv ordv (.slice none 0 0) (.slice none 0 0) (.slice none 0 0) outv ord [] [] [] := by
  have ha : Below Z.heap.size Z (Z.alloc (.cells #[gv, ordv, .slice none 0 0, .slice none 0 0, .slice none 0 0, outv, .slice (some ⟨vb, 0, none⟩) n n] 67)) := (Below.refl _ _).alloc (Nat.le_refl _) _
  have f1 : Fam Z w.heap.size 3 1 [(ordv, ord.length, placesV ord)] := ⟨fun i x hx => by
    match i, hx with
    | 0, hx => cases hx; exact ho
    | i + 1, hx => simp at hx, fun i j x y g hx hy hij => by
    have h1 := (List.getElem?_eq_some_iff.1 hx).1
    have h2 := (List.getElem?_eq_some_iff.1 hy).1
    simp at h1 h2
    omega⟩
  have f2 := fam_pushNil (fam_pushNil (fam_pushNil f1 hb.size) hb.size) hb.size
  exact ⟨hb.trans (ha.mono hb.size), hb.size, heap_alloc_new _ _, f2.below ha, (ha.block _ (Array.getElem?_eq_some_iff.1 hv).1).trans hv, hvb⟩
section
variable {w W W' : World} {p vb n : Nat} {gv ordv iv lv sv outv : Value} {ord ins las : List Nat} {srcs : List Int}
theorem Np.on (h : Np w W p vb n gv ordv iv lv sv outv ord ins las srcs) (hb : Below W.heap.size W W') : Np w W' p vb n gv ordv iv lv sv outv ord ins las srcs :=
  ⟨h.below.trans (hb.mono h.below.size), h.pb, (hb.block _ (Array.getElem?_eq_some_iff.1 h.box).1).trans h.box, h.fam.below hb, (hb.block _ (Array.getElem?_eq_some_iff.1 h.vals).1).trans h.vals, h.vbB⟩
theorem Np.put (h : Np w W p vb n gv ordv iv lv sv outv ord ins las srcs) {iv' lv' sv' : Value} {ins' las' : List Nat} {srcs' : List Int} {j : Nat} {u : Value} (hb : Below w.heap.size w W') (hk : Kp 3 W W') (hF : Fam W' w.heap.size 3 1 [(ordv, ord.length, placesV ord), (iv', ins'.length, placesV ins'), (lv', las'.length, placesV las'), (sv', srcs'.length, nu srcs')])
    (he : (#[gv, ordv, iv, lv, sv, outv, .slice (some ⟨vb, 0, none⟩) n n] : Array Value).setIfInBounds j u = #[gv, ordv, iv', lv', sv', outv, .slice (some ⟨vb, 0, none⟩) n n]) : Np w (W'.setCell ⟨p, j, none⟩ u) p vb n gv ordv iv' lv' sv' outv ord ins' las' srcs' := by
  have hbox := hk p _ _ _ h.box (by decide)
  have k2 : Kp 67 W' (W'.setCell ⟨p, j, none⟩ u) := Kp.setCell hbox u
  refine ⟨hb.setCell h.pb _, h.pb, ?_, k2.fam hF (by decide), k2 vb _ _ _ (hk vb _ _ _ h.vals (by decide)) (by decide), h.vbB⟩
  rw [row_set hbox, he]
end

set_option maxHeartbeats 8000000 in
theorem newPlayer_ok (c : Net) (sg so : Option Addr) (cg co : Nat) (w : World) (hc : CirAt w c sg so) (hkd : KindsAt w) (hf : PureNet.Formed c) :
    Calls Tryd.prog 40 #[cirV c sg cg so co] w fun e w' => ∃ d : Pn, e = .returned (.pointer (some ⟨d.p, 0, none⟩)) ∧ Pl w' d (List.replicate c.gates.length false) ∧ Good d ∧ Below w.heap.size w w' ∧ w.heap.size ≤ d.vb ∧ d.c = c ∧ d.ins = kpTo 1 c.gates c.gates.length ∧ d.las = kpTo 3 c.gates c.gates.length ∧ d.srcs = srcsTo c.gates c.gates.length ∧ d.ord.Nodup ∧ (∀ x, x < c.gates.length → x ∈ d.ord) ∧ (∀ (i x y : Nat), d.ord[i]? = some x → Leans c.gates x y → ∃ j, j < i ∧ d.ord[j]? = some y) := by
  have hfew := hf.few
  obtain ⟨x, hx⟩ : ∃ x, x = w.alloc (Obj.cells #[Value.string c.name, Value.slice sg c.gates.length cg, Value.slice so c.outs.length co] 26) := ⟨_, rfl⟩
  have RX : Hid (x.heap[w.heap.size]? = some (.cells #[Value.string c.name, Value.slice sg c.gates.length cg, Value.slice so c.outs.length co] 26 (0, 0))) := by rw [hx]; exact heap_alloc_new w _
  have BX : Hid (Below w.heap.size w x) := by rw [hx]; exact (Below.refl _ _).alloc (Nat.le_refl _) _
  have KS : Hid (∀ W, Below x.heap.size x W → W.cell? ⟨w.heap.size, 1, none⟩ = some (.slice sg c.gates.length cg) ∧ W.cell? ⟨w.heap.size, 2, none⟩ = some (.slice so c.outs.length co)) := fun W hW => by
    have h2 := (hW.block _ (Array.getElem?_eq_some_iff.1 RX.out).1).trans RX.out
    exact ⟨cell_row h2 1, cell_row h2 2⟩
  have SD : Hid (∀ W, Below x.heap.size x W → _) := fun W hW => searched_any c.gates sg cg c.gates.length W ((hc.below BX.out).below hW).gates ((hkd.on BX.out).on hW) rfl hfew (formed_lines hf) hf.free
  have hmk : ∀ W : World, (Instr.makeSlice 29 (.int .i64 (c.gates.length : Int)) (.int .i64 (c.gates.length : Int))).run Tryd.prog W = .ok (.slice (some ⟨W.heap.size, 0, none⟩) c.gates.length c.gates.length) (W.alloc (.cells (madeCells #[.bool false] c.gates.length) 4)) := fun W =>
    run_make_row' (P := Tryd.prog) 29 4 (.bool false) 1 Tryd.underlying29 info4 rfl .i64 .i64 c.gates.length (by omega) (by omega) W
  have HC := hid hc
  have HF := hid hf
  have HX := hid hx
  clear hx hc hkd hf
  go_enter Tryd.func40, Tryd.ntmps40
  go_wp2_with (rw [← HX.out])
  go_cut [3] (fun pv wx => Hid (∃ p vb ordv ord, Below x.heap.size x wx ∧ ord.Nodup ∧ (∀ x, x < c.gates.length → x ∈ ord) ∧ (∀ (i x y : Nat), ord[i]? = some x → Leans c.gates x y → ∃ j, j < i ∧ ord[j]? = some y) ∧ (∀ x ∈ ord, x < c.gates.length) ∧ pv = .pointer (some ⟨p, 0, none⟩) ∧ Np w wx p vb c.gates.length (.slice sg c.gates.length cg) ordv (.slice none 0 0) (.slice none 0 0) (.slice none 0 0) (.slice so c.outs.length co) ord [] [] []))
  case first =>
    refine wp_region_noPanic ?_
    refine wp_region_held_drew (S := fun W => W.cell? ⟨w.heap.size, 1, none⟩ = some (.slice sg c.gates.length cg) ∧ W.cell? ⟨w.heap.size, 2, none⟩ = some (.slice so c.outs.length co)) (by kernel_rfl) (KS.out _ (Below.refl _ _).drew) (fun hHeld => ?_)
    refine wpAnyH_take (i := 0) (v := ?_) (by simp only [List.getElem?_toArray, List.getElem?_cons_zero]; rfl) (by kernel_rfl) (by kernel_rfl) (by kernel_rfl) (fun _ _ _ h => h) (Or.inl ⟨by rfl, ?_⟩) (by assumption) ?_
    rotate_left 1
    · intro w hSw; (try dsimp only at hSw); go_simp; (try with_reducible rfl)
    try simp only [Act.put, List.setIfInBounds_toArray, List.set_cons_zero, List.set_cons_succ]
    refine wpAnyH_take (i := 1) (v := ?_) (by simp only [List.getElem?_toArray, List.getElem?_cons_succ, List.getElem?_cons_zero]; rfl) (by kernel_rfl) (by kernel_rfl) (by kernel_rfl) (fun _ _ _ h => h) (Or.inl ⟨by rfl, ?_⟩) (by assumption) ?_
    rotate_left 1
    · intro w hSw; (try dsimp only at hSw); go_simp; (try with_reducible rfl)
    try simp only [Act.put, List.setIfInBounds_toArray, List.set_cons_zero, List.set_cons_succ]
    refine wpAnyH_take (i := 2) (v := ?_) (by simp only [List.getElem?_toArray, List.getElem?_cons_succ, List.getElem?_cons_zero]; rfl) (by kernel_rfl) (by kernel_rfl) (by kernel_rfl) (fun _ _ _ h => h) (Or.inl ⟨by rfl, ?_⟩) (by assumption) ?_
    rotate_left 1
    · intro w hSw; (try dsimp only at hSw); go_simp; (try with_reducible rfl)
    try simp only [Act.put, List.setIfInBounds_toArray, List.set_cons_zero, List.set_cons_succ]
    refine wpAnyH_take (i := 3) (v := ?_) (by simp only [List.getElem?_toArray, List.getElem?_cons_succ, List.getElem?_cons_zero]; rfl) (by kernel_rfl) (by kernel_rfl) (by kernel_rfl) (fun _ _ _ h => h) (Or.inl ⟨by rfl, ?_⟩) (by assumption) ?_
    rotate_left 1
    · intro w hSw; (try dsimp only at hSw); go_simp; (try with_reducible rfl)
    try simp only [Act.put, List.setIfInBounds_toArray, List.set_cons_zero, List.set_cons_succ]
    refine wpAnyH_take (i := 8) (v := ?_) (by simp only [List.getElem?_toArray, List.getElem?_cons_succ, List.getElem?_cons_zero]; rfl) (by kernel_rfl) (by kernel_rfl) (by kernel_rfl) (fun _ _ _ h => h) (Or.inl ⟨by rfl, ?_⟩) (by assumption) ?_
    rotate_left 1
    · intro w hSw; (try dsimp only at hSw); go_simp; (try with_reducible rfl)
    try simp only [Act.put, List.setIfInBounds_toArray, List.set_cons_zero, List.set_cons_succ]
    refine wpAnyH_take (i := 9) (v := ?_) (by simp only [List.getElem?_toArray, List.getElem?_cons_succ, List.getElem?_cons_zero]; rfl) (by kernel_rfl) (by kernel_rfl) (by kernel_rfl) (fun _ _ _ h => h) (Or.inl ⟨by rfl, ?_⟩) (by assumption) ?_
    rotate_left 1
    · intro w hSw; (try dsimp only at hSw); go_simp; (try with_reducible rfl)
    try simp only [Act.put, List.setIfInBounds_toArray, List.set_cons_zero, List.set_cons_succ]
    refine wpAnyH_take (i := 10) (v := ?_) (by simp only [List.getElem?_toArray, List.getElem?_cons_succ, List.getElem?_cons_zero]; rfl) (by kernel_rfl) (by kernel_rfl) (by kernel_rfl) (fun _ _ _ h => h) (Or.inl ⟨by rfl, ?_⟩) (by assumption) ?_
    rotate_left 1
    · intro w hSw; (try dsimp only at hSw); go_simp; (try with_reducible rfl)
    try simp only [Act.put, List.setIfInBounds_toArray, List.set_cons_zero, List.set_cons_succ]
    refine wpAnyH_take (i := 11) (v := ?_) (by simp only [List.getElem?_toArray, List.getElem?_cons_succ, List.getElem?_cons_zero]; rfl) (by kernel_rfl) (by kernel_rfl) (by kernel_rfl) (fun _ _ _ h => h) (Or.inl ⟨by rfl, ?_⟩) (by assumption) ?_
    rotate_left 1
    · intro w hSw; (try dsimp only at hSw); go_simp; (try with_reducible rfl)
    try simp only [Act.put, List.setIfInBounds_toArray, List.set_cons_zero, List.set_cons_succ]
    refine wpAnyH_take (i := 12) (v := ?_) (by simp only [List.getElem?_toArray, List.getElem?_cons_succ, List.getElem?_cons_zero]; rfl) (by kernel_rfl) (by kernel_rfl) (by kernel_rfl) (fun _ _ _ h => h) (Or.inl ⟨by rfl, ?_⟩) (by assumption) ?_
    rotate_left 1
    · intro w hSw; (try dsimp only at hSw); go_simp; (try with_reducible rfl)
    try simp only [Act.put, List.setIfInBounds_toArray, List.set_cons_zero, List.set_cons_succ]
    refine wpAnyH_ready (rs := [4, 13]) (by kernel_rfl) (by simp) ?_
    refine AllReadyH.cons (by simp only [List.getElem?_toArray, List.getElem?_cons_succ, List.getElem?_cons_zero]; rfl) (fun K hK => ?_) (AllReadyH.cons (by simp only [List.getElem?_toArray, List.getElem?_cons_succ, List.getElem?_cons_zero]; rfl) (fun K hK => ?_) AllReadyH.nil)
    · go_simp
      go_at_call 64
      refine Calls.mono (SD.out _ (Below.refl _ _).drew) ?_
      rintro e w4 ⟨p1, s, mv, rv, pv, wv, tv, ov, rs, rfl, hse, hsr, hway, hall⟩
      obtain ⟨so1, co1, rfl⟩ := hse.ov
      have BC : Hid (Below x.heap.size x w4) := (Below.refl x.heap.size x).drew.trans hse.below
      have SC := hid hse
      have SR := hid hsr
      have HA := hid hall
      have k6 : w4.cell? ⟨p1, 6, none⟩ = some (.slice so1 s.out.length co1) := hse.cell 6
      have hp1 := hse.size
      have hB1 : w.heap.size ≤ x.drew.heap.size := BX.out.size
      clear hse hsr hway hall
      clear hHeld
      refine hK.out _ _ (KS.out _ BC.out) (fun hHeld => ?_)
      clear hK K
      try simp only [Act.put, List.setIfInBounds_toArray, List.set_cons_zero, List.set_cons_succ]
      refine wpAnyH_take (i := 5) (v := ?_) (by simp only [List.getElem?_toArray, List.getElem?_cons_succ, List.getElem?_cons_zero]; rfl) (by kernel_rfl) (by kernel_rfl) (by kernel_rfl) (fun _ _ _ h => h) (Or.inl ⟨by rfl, ?_⟩) (by assumption) ?_
      rotate_left 1
      · intro w hSw; (try dsimp only at hSw); go_simp; (try with_reducible rfl)
      try simp only [Act.put, List.setIfInBounds_toArray, List.set_cons_zero, List.set_cons_succ]
      refine wpAnyH_take (i := 6) (v := ?_) (by simp only [List.getElem?_toArray, List.getElem?_cons_succ, List.getElem?_cons_zero]; rfl) (by kernel_rfl) (by kernel_rfl) (by kernel_rfl) (fun _ _ _ h => h) (Or.inl ⟨by rfl, ?_⟩) (by assumption) ?_
      rotate_left 1
      · intro w hSw; (try dsimp only at hSw); go_simp; (try with_reducible rfl)
      try simp only [Act.put, List.setIfInBounds_toArray, List.set_cons_zero, List.set_cons_succ]
      refine wpAnyH_ready (rs := [7, 13]) (by kernel_rfl) (by simp) ?_
      refine AllReadyH.cons (by simp only [List.getElem?_toArray, List.getElem?_cons_succ, List.getElem?_cons_zero]; rfl) (fun K hK => ?_) (AllReadyH.cons (by simp only [List.getElem?_toArray, List.getElem?_cons_succ, List.getElem?_cons_zero]; rfl) (fun K hK => ?_) AllReadyH.nil)
      · go_simp
        clear hHeld
        refine hK.out _ _ (KS.out _ BC.out) (fun hHeld => ?_)
        clear hK K
        try simp only [Act.put, List.setIfInBounds_toArray, List.set_cons_zero, List.set_cons_succ]
        refine wpAnyH_ready (rs := [13]) (by kernel_rfl) (by simp) ?_
        refine AllReadyH.cons (by simp only [List.getElem?_toArray, List.getElem?_cons_succ, List.getElem?_cons_zero]; rfl) (fun K hK => ?_) AllReadyH.nil
        go_simp
        obtain ⟨Y, hY⟩ : ∃ Y, Y = (w4.alloc (.cells (madeCells #[.bool false] c.gates.length) 4)) := ⟨_, rfl⟩
        have hYa : Below w4.heap.size w4 Y := by rw [hY]; exact ((Below.refl _ _).alloc (Nat.le_refl _) _)
        have BM : Hid (Below x.heap.size x Y) := BC.out.trans (hYa.mono BC.out.size)
        obtain ⟨vb, hvb⟩ : ∃ vb, vb = w4.heap.size := ⟨_, rfl⟩
        have VR : Hid (Y.heap[vb]? = some (.cells (bo (List.replicate c.gates.length false)).toArray 4 (0, 0))) := by
          rw [hY, hvb]
          exact zero_bits w4 c.gates.length
        have hvbB : w.heap.size ≤ vb := by rw [hvb]; exact Nat.le_trans BX.out.size BC.out.size
        have SC2 := hid (SC.out.on hYa)
        have k6 : Y.cell? ⟨p1, 6, none⟩ = some (.slice so1 s.out.length co1) := SC2.out.cell 6
        have hp1 := SC2.out.size
        have HVB := hid hvb
        have HYY := hid hY
        (try rw [← hvb])
        (try rw [← hY])
        clear hY hYa hvb
        clear hHeld
        refine hK.out _ _ (KS.out _ BM.out) (fun hHeld => ?_)
        clear hK K
        try simp only [Act.put, List.setIfInBounds_toArray, List.set_cons_zero, List.set_cons_succ]
        refine wpAnyH_take (i := 14) (v := ?_) (by simp only [List.getElem?_toArray, List.getElem?_cons_succ, List.getElem?_cons_zero]; rfl) (by kernel_rfl) (by kernel_rfl) (by kernel_rfl) (fun _ _ _ h => h) (Or.inl ⟨by rfl, ?_⟩) (by assumption) ?_
        rotate_left 1
        · intro w hSw; (try dsimp only at hSw); go_simp; (try with_reducible rfl)
        try simp only [Act.put, List.setIfInBounds_toArray, List.set_cons_zero, List.set_cons_succ]
        refine wpAnyH_ready (rs := [15]) (by kernel_rfl) (by simp) ?_
        refine AllReadyH.cons (by simp only [List.getElem?_toArray, List.getElem?_cons_succ, List.getElem?_cons_zero]; rfl) (fun K hK => ?_) AllReadyH.nil
        go_simp
        have NP := hid (Np.start (ordv := .slice so1 s.out.length co1) (ord := s.out) (gv := .slice sg c.gates.length cg) (outv := .slice so c.outs.length co) (n := c.gates.length) (vb := vb) (w := w) (BX.out.trans (BM.out.mono BX.out.size)) (own_base (SC2.out.fam.own 4 (.slice so1 s.out.length co1, s.out.length, placesV s.out) rfl) hB1) VR.out hvbB)
        have BZ := hid (BM.out.trans (((Below.refl Y.heap.size Y).alloc (Nat.le_refl _) (.cells #[.slice sg c.gates.length cg, .slice so1 s.out.length co1, .slice none 0 0, .slice none 0 0, .slice none 0 0, .slice so c.outs.length co, .slice (some ⟨vb, 0, none⟩) c.gates.length c.gates.length] 67)).mono BM.out.size))
        clear hHeld
        refine hK.out _ _ (KS.out _ BZ.out) (fun hHeld => ?_)
        clear hK K
        try simp only [Act.put, List.setIfInBounds_toArray, List.set_cons_zero, List.set_cons_succ]
        refine wpAnyH_take (i := 16) (v := ?_) (by simp only [List.getElem?_toArray, List.getElem?_cons_succ, List.getElem?_cons_zero]; rfl) (by kernel_rfl) (by kernel_rfl) (by kernel_rfl) (fun _ _ _ h => h) (Or.inl ⟨by rfl, ?_⟩) (by assumption) ?_
        rotate_left 1
        · intro w hSw; (try dsimp only at hSw); go_simp; (try with_reducible rfl)
        try simp only [Act.put, List.setIfInBounds_toArray, List.set_cons_zero, List.set_cons_succ]
        refine wpAnyH_done (by kernel_rfl) ?_ _
        refine NoPanic.normal ?_
        go_wp2
        go_meet
        exact ⟨_, vb, _, s.out, BZ.out, SR.out.nd_out, HA.out, SR.out.ord, SR.out.lt_out, rfl, NP.out⟩
      · go_simp
        obtain ⟨Y, hY⟩ : ∃ Y, Y = (w4.alloc (.cells (madeCells #[.bool false] c.gates.length) 4)) := ⟨_, rfl⟩
        have hYa : Below w4.heap.size w4 Y := by rw [hY]; exact ((Below.refl _ _).alloc (Nat.le_refl _) _)
        have BM : Hid (Below x.heap.size x Y) := BC.out.trans (hYa.mono BC.out.size)
        obtain ⟨vb, hvb⟩ : ∃ vb, vb = w4.heap.size := ⟨_, rfl⟩
        have VR : Hid (Y.heap[vb]? = some (.cells (bo (List.replicate c.gates.length false)).toArray 4 (0, 0))) := by
          rw [hY, hvb]
          exact zero_bits w4 c.gates.length
        have hvbB : w.heap.size ≤ vb := by rw [hvb]; exact Nat.le_trans BX.out.size BC.out.size
        have SC2 := hid (SC.out.on hYa)
        have k6 : Y.cell? ⟨p1, 6, none⟩ = some (.slice so1 s.out.length co1) := SC2.out.cell 6
        have hp1 := SC2.out.size
        have HVB := hid hvb
        have HYY := hid hY
        (try rw [← hvb])
        (try rw [← hY])
        clear hY hYa hvb
        clear hHeld
        refine hK.out _ _ (KS.out _ BM.out) (fun hHeld => ?_)
        clear hK K
        try simp only [Act.put, List.setIfInBounds_toArray, List.set_cons_zero, List.set_cons_succ]
        refine wpAnyH_ready (rs := [7]) (by kernel_rfl) (by simp) ?_
        refine AllReadyH.cons (by simp only [List.getElem?_toArray, List.getElem?_cons_succ, List.getElem?_cons_zero]; rfl) (fun K hK => ?_) AllReadyH.nil
        go_simp
        clear hHeld
        refine hK.out _ _ (KS.out _ BM.out) (fun hHeld => ?_)
        clear hK K
        try simp only [Act.put, List.setIfInBounds_toArray, List.set_cons_zero, List.set_cons_succ]
        refine wpAnyH_take (i := 14) (v := ?_) (by simp only [List.getElem?_toArray, List.getElem?_cons_succ, List.getElem?_cons_zero]; rfl) (by kernel_rfl) (by kernel_rfl) (by kernel_rfl) (fun _ _ _ h => h) (Or.inl ⟨by rfl, ?_⟩) (by assumption) ?_
        rotate_left 1
        · intro w hSw; (try dsimp only at hSw); go_simp; (try with_reducible rfl)
        try simp only [Act.put, List.setIfInBounds_toArray, List.set_cons_zero, List.set_cons_succ]
        refine wpAnyH_ready (rs := [15]) (by kernel_rfl) (by simp) ?_
        refine AllReadyH.cons (by simp only [List.getElem?_toArray, List.getElem?_cons_succ, List.getElem?_cons_zero]; rfl) (fun K hK => ?_) AllReadyH.nil
        go_simp
        have NP := hid (Np.start (ordv := .slice so1 s.out.length co1) (ord := s.out) (gv := .slice sg c.gates.length cg) (outv := .slice so c.outs.length co) (n := c.gates.length) (vb := vb) (w := w) (BX.out.trans (BM.out.mono BX.out.size)) (own_base (SC2.out.fam.own 4 (.slice so1 s.out.length co1, s.out.length, placesV s.out) rfl) hB1) VR.out hvbB)
        have BZ := hid (BM.out.trans (((Below.refl Y.heap.size Y).alloc (Nat.le_refl _) (.cells #[.slice sg c.gates.length cg, .slice so1 s.out.length co1, .slice none 0 0, .slice none 0 0, .slice none 0 0, .slice so c.outs.length co, .slice (some ⟨vb, 0, none⟩) c.gates.length c.gates.length] 67)).mono BM.out.size))
        clear hHeld
        refine hK.out _ _ (KS.out _ BZ.out) (fun hHeld => ?_)
        clear hK K
        try simp only [Act.put, List.setIfInBounds_toArray, List.set_cons_zero, List.set_cons_succ]
        refine wpAnyH_take (i := 16) (v := ?_) (by simp only [List.getElem?_toArray, List.getElem?_cons_succ, List.getElem?_cons_zero]; rfl) (by kernel_rfl) (by kernel_rfl) (by kernel_rfl) (fun _ _ _ h => h) (Or.inl ⟨by rfl, ?_⟩) (by assumption) ?_
        rotate_left 1
        · intro w hSw; (try dsimp only at hSw); go_simp; (try with_reducible rfl)
        try simp only [Act.put, List.setIfInBounds_toArray, List.set_cons_zero, List.set_cons_succ]
        refine wpAnyH_done (by kernel_rfl) ?_ _
        refine NoPanic.normal ?_
        go_wp2
        go_meet
        exact ⟨_, vb, _, s.out, BZ.out, SR.out.nd_out, HA.out, SR.out.ord, SR.out.lt_out, rfl, NP.out⟩
    · go_simp
      obtain ⟨Y, hY⟩ : ∃ Y, Y = (x.alloc (.cells (madeCells #[.bool false] c.gates.length) 4)).drew := ⟨_, rfl⟩
      have hYa : Below x.heap.size x Y := by rw [hY]; exact ((Below.refl _ _).alloc (Nat.le_refl _) _).drew
      have BM : Hid (Below x.heap.size x Y) := hYa
      obtain ⟨vb, hvb⟩ : ∃ vb, vb = x.heap.size := ⟨_, rfl⟩
      have VR : Hid (Y.heap[vb]? = some (.cells (bo (List.replicate c.gates.length false)).toArray 4 (0, 0))) := by
        rw [hY, hvb]
        exact zero_bits x c.gates.length
      have hvbB : w.heap.size ≤ vb := by rw [hvb]; exact BX.out.size
      have HVB := hid hvb
      have HYY := hid hY
      (try rw [← hvb])
      (try rw [← hY])
      clear hY hYa hvb
      clear hHeld
      refine hK.out _ _ (KS.out _ BM.out) (fun hHeld => ?_)
      clear hK K
      try simp only [Act.put, List.setIfInBounds_toArray, List.set_cons_zero, List.set_cons_succ]
      refine wpAnyH_ready (rs := [4]) (by kernel_rfl) (by simp) ?_
      refine AllReadyH.cons (by simp only [List.getElem?_toArray, List.getElem?_cons_succ, List.getElem?_cons_zero]; rfl) (fun K hK => ?_) AllReadyH.nil
      go_simp
      go_at_call 64
      refine Calls.mono (SD.out _ BM.out) ?_
      rintro e w4 ⟨p1, s, mv, rv, pv, wv, tv, ov, rs, rfl, hse, hsr, hway, hall⟩
      obtain ⟨so1, co1, rfl⟩ := hse.ov
      have BC : Hid (Below x.heap.size x w4) := BM.out.trans (hse.below.mono BM.out.size)
      have SC := hid hse
      have SR := hid hsr
      have HA := hid hall
      have VR2 : Hid (w4.heap[vb]? = some (.cells (bo (List.replicate c.gates.length false)).toArray 4 (0, 0))) := (hse.below.block _ (Array.getElem?_eq_some_iff.1 VR.out).1).trans VR.out
      have k6 : w4.cell? ⟨p1, 6, none⟩ = some (.slice so1 s.out.length co1) := hse.cell 6
      have hp1 := hse.size
      have hB1 : w.heap.size ≤ Y.heap.size := Nat.le_trans BX.out.size BM.out.size
      clear hse hsr hway hall
      clear hHeld
      refine hK.out _ _ (KS.out _ BC.out) (fun hHeld => ?_)
      clear hK K
      try simp only [Act.put, List.setIfInBounds_toArray, List.set_cons_zero, List.set_cons_succ]
      refine wpAnyH_take (i := 5) (v := ?_) (by simp only [List.getElem?_toArray, List.getElem?_cons_succ, List.getElem?_cons_zero]; rfl) (by kernel_rfl) (by kernel_rfl) (by kernel_rfl) (fun _ _ _ h => h) (Or.inl ⟨by rfl, ?_⟩) (by assumption) ?_
      rotate_left 1
      · intro w hSw; (try dsimp only at hSw); go_simp; (try with_reducible rfl)
      try simp only [Act.put, List.setIfInBounds_toArray, List.set_cons_zero, List.set_cons_succ]
      refine wpAnyH_take (i := 6) (v := ?_) (by simp only [List.getElem?_toArray, List.getElem?_cons_succ, List.getElem?_cons_zero]; rfl) (by kernel_rfl) (by kernel_rfl) (by kernel_rfl) (fun _ _ _ h => h) (Or.inl ⟨by rfl, ?_⟩) (by assumption) ?_
      rotate_left 1
      · intro w hSw; (try dsimp only at hSw); go_simp; (try with_reducible rfl)
      try simp only [Act.put, List.setIfInBounds_toArray, List.set_cons_zero, List.set_cons_succ]
      refine wpAnyH_ready (rs := [7]) (by kernel_rfl) (by simp) ?_
      refine AllReadyH.cons (by simp only [List.getElem?_toArray, List.getElem?_cons_succ, List.getElem?_cons_zero]; rfl) (fun K hK => ?_) AllReadyH.nil
      go_simp
      clear hHeld
      refine hK.out _ _ (KS.out _ BC.out) (fun hHeld => ?_)
      clear hK K
      try simp only [Act.put, List.setIfInBounds_toArray, List.set_cons_zero, List.set_cons_succ]
      refine wpAnyH_take (i := 14) (v := ?_) (by simp only [List.getElem?_toArray, List.getElem?_cons_succ, List.getElem?_cons_zero]; rfl) (by kernel_rfl) (by kernel_rfl) (by kernel_rfl) (fun _ _ _ h => h) (Or.inl ⟨by rfl, ?_⟩) (by assumption) ?_
      rotate_left 1
      · intro w hSw; (try dsimp only at hSw); go_simp; (try with_reducible rfl)
      try simp only [Act.put, List.setIfInBounds_toArray, List.set_cons_zero, List.set_cons_succ]
      refine wpAnyH_ready (rs := [15]) (by kernel_rfl) (by simp) ?_
      refine AllReadyH.cons (by simp only [List.getElem?_toArray, List.getElem?_cons_succ, List.getElem?_cons_zero]; rfl) (fun K hK => ?_) AllReadyH.nil
      go_simp
      have NP := hid (Np.start (ordv := .slice so1 s.out.length co1) (ord := s.out) (gv := .slice sg c.gates.length cg) (outv := .slice so c.outs.length co) (n := c.gates.length) (vb := vb) (w := w) (BX.out.trans (BC.out.mono BX.out.size)) (own_base (SC.out.fam.own 4 (.slice so1 s.out.length co1, s.out.length, placesV s.out) rfl) hB1) VR2.out hvbB)
      have BZ := hid (BC.out.trans (((Below.refl w4.heap.size w4).alloc (Nat.le_refl _) (.cells #[.slice sg c.gates.length cg, .slice so1 s.out.length co1, .slice none 0 0, .slice none 0 0, .slice none 0 0, .slice so c.outs.length co, .slice (some ⟨vb, 0, none⟩) c.gates.length c.gates.length] 67)).mono BC.out.size))
      clear hHeld
      refine hK.out _ _ (KS.out _ BZ.out) (fun hHeld => ?_)
      clear hK K
      try simp only [Act.put, List.setIfInBounds_toArray, List.set_cons_zero, List.set_cons_succ]
      refine wpAnyH_take (i := 16) (v := ?_) (by simp only [List.getElem?_toArray, List.getElem?_cons_succ, List.getElem?_cons_zero]; rfl) (by kernel_rfl) (by kernel_rfl) (by kernel_rfl) (fun _ _ _ h => h) (Or.inl ⟨by rfl, ?_⟩) (by assumption) ?_
      rotate_left 1
      · intro w hSw; (try dsimp only at hSw); go_simp; (try with_reducible rfl)
      try simp only [Act.put, List.setIfInBounds_toArray, List.set_cons_zero, List.set_cons_succ]
      refine wpAnyH_done (by kernel_rfl) ?_ _
      refine NoPanic.normal ?_
      go_wp2
      go_meet
      exact ⟨_, vb, _, s.out, BZ.out, SR.out.nd_out, HA.out, SR.out.ord, SR.out.lt_out, rfl, NP.out⟩
  case rest =>
    obtain ⟨p, vb, ordv, ord, hbx, hnd, hall, hord, hlt0, rfl, hnp⟩ := hcut.out
    have hrow := (hbx.block _ (Array.getElem?_eq_some_iff.1 RX.out).1).trans RX.out
    have c0 := fun j => cell_row hrow j
    have hb0 := (Array.getElem?_eq_some_iff.1 hrow).1
    have N0 := hid hnp
    have HP := hid (And.intro hnd (And.intro hall (And.intro hord hlt0)))
    obtain ⟨so1, co1, hov⟩ : ∃ s k, ordv = .slice s ord.length k := own_shape (hnp.fam.own 0 (ordv, ord.length, placesV ord) rfl)
    clear hcut hnp hbx hnd hall hord hlt0 hrow hmk KS SD
    go_wp2
    clear c0 hb0
    go_loopg [25] c.gates.length (fun k iv W => ∃ i : Nat, i ≤ c.gates.length ∧ k = c.gates.length - i ∧ iv = .int .i64 (i : Int) ∧ Hid (∃ iv lv sv, Np w W p vb c.gates.length (.slice sg c.gates.length cg) ordv iv lv sv (.slice so c.outs.length co) ord (kpTo 1 c.gates i) (kpTo 3 c.gates i) (srcsTo c.gates i)))
    case atStart => exact ⟨0, Nat.zero_le _, rfl, rfl, _, _, _, N0.out⟩
    case round =>
      clear N0
      obtain ⟨i, hi, hgk, rfl, HR⟩ := hrel
      subst hgk
      obtain ⟨iv, lv, sv, hnp⟩ := HR.out
      clear HR
      obtain ⟨s2, c2, hiv⟩ : ∃ s k, iv = .slice s (kpTo 1 c.gates i).length k := own_shape (hnp.fam.own 1 (iv, (kpTo 1 c.gates i).length, placesV (kpTo 1 c.gates i)) rfl)
      obtain ⟨s3, c3, hlv⟩ : ∃ s k, lv = .slice s (kpTo 3 c.gates i).length k := own_shape (hnp.fam.own 2 (lv, (kpTo 3 c.gates i).length, placesV (kpTo 3 c.gates i)) rfl)
      obtain ⟨s4, c4, hsv⟩ : ∃ s k, sv = .slice s (srcsTo c.gates i).length k := own_shape (hnp.fam.own 3 (sv, (srcsTo c.gates i).length, nu (srcsTo c.gates i)) rfl)
      have hk1l : (kpTo 1 c.gates i).length ≤ i := kpTo_le 1 c.gates i
      have hk3l : (kpTo 3 c.gates i).length ≤ i := kpTo_le 3 c.gates i
      have hsl : (srcsTo c.gates i).length ≤ i := srcsTo_le c.gates i
      have NP := hid hnp
      by_cases hlt : i < c.gates.length
      · obtain ⟨g, hg⟩ : ∃ g, c.gates[i]? = some g := ⟨_, List.getElem?_eq_getElem hlt⟩
        obtain ⟨gb, go, hsg, hgb, a0, a1, a2, a3, a4, a5⟩ := gate_at (HC.out.gates.below hnp.below) i g hg
        obtain ⟨Y, hY⟩ : ∃ Y, Y = wr.alloc (Obj.cells #[Value.int .i64 g.kind, .string g.name, .int .i64 g.op, .int .i64 g.a, .int .i64 g.b, .int .i64 g.c] 38) := ⟨_, rfl⟩
        have BY : Hid (Below wr.heap.size wr Y) := by rw [hY]; exact (Below.refl _ _).alloc (Nat.le_refl _) _
        have RY : Hid (Y.heap[wr.heap.size]? = some (.cells #[Value.int .i64 g.kind, .string g.name, .int .i64 g.op, .int .i64 g.a, .int .i64 g.b, .int .i64 g.c] 38 (0, 0))) := by rw [hY]; exact heap_alloc_new wr _
        have hyy := fun j => cell_row RY.out j
        have hby := (Array.getElem?_eq_some_iff.1 RY.out).1
        have NY := hid (hnp.on BY.out)
        have cp := fun j => cell_row NY.out.box j
        have hps := (Array.getElem?_eq_some_iff.1 NY.out.box).1
        have HY := hid hY
        have hkp1 : kpTo 1 c.gates (i + 1) = kpTo 1 c.gates i ++ (if g.kind = 1 then [i] else []) := by rw [kpTo, hg]
        have hkp3 : kpTo 3 c.gates (i + 1) = kpTo 3 c.gates i ++ (if g.kind = 3 then [i] else []) := by rw [kpTo, hg]
        have hsrc : srcsTo c.gates (i + 1) = srcsTo c.gates i ++ (if g.kind = 3 then [g.a] else []) := by rw [srcsTo, hg]
        have HK1 := hid hkp1
        have HK3 := hid hkp3
        have HSR := hid hsrc
        have HSG := hid hsg
        clear hnp hg hY hkp1 hkp3 hsrc
        by_cases hk1 : g.kind = 1
        · have H1 := hid hk1
          rw [hk1] at a0 HY hyy
          clear hk1
          subst hiv
          go_wp2_with (first
            | (rw [← HW1.out])
            | (rw [← HY.out])
            | (at_builtin; refine fam_app rfl _ _ rfl NY.out.fam NY.out.below 1 _ rfl (i : Int) 3 _ rfl rfl rfl (by show (kpTo 1 c.gates i).length ≤ 1099511627776; omega) ?_; intro sx cx w1 hF1 hB1 hk1; have hbx1 := hk1 p _ _ _ NY.out.box (by decide); have c1 := fun j => cell_row hbx1 j; have f1 := fun j => unfrozen_row hbx1 j; have hb1 := (Array.getElem?_eq_some_iff.1 hbx1).1; obtain ⟨W1, hW1⟩ : ∃ W1, W1 = w1.setCell ⟨p, 2, none⟩ (.slice sx ((kpTo 1 c.gates i).length + 1) cx) := ⟨_, rfl⟩; have N1 : Hid (Np w W1 p vb c.gates.length (.slice sg c.gates.length cg) ordv (.slice sx ((kpTo 1 c.gates i).length + 1) cx) lv sv (.slice so c.outs.length co) ord (kpTo 1 c.gates i ++ [i]) (kpTo 3 c.gates i) (srcsTo c.gates i)) := (by rw [hW1]; refine NY.out.put hB1 hk1 ?_ rfl; rw [← places_snoc, List.length_append, List.length_singleton]; exact hF1); have HW1 := hid hW1; clear hF1 hB1 hk1 hbx1 hW1))
          (try rw [← HSG.out])
          go_roundg (c.gates.length - (i + 1))
          case measure => omega
          case rel =>
            refine ⟨i + 1, hlt, rfl, by go_num, ?_⟩
            have h5 := N1.out
            have e1 := HK1.out
            have e3 := HK3.out
            have e4 := HSR.out
            rw [if_pos H1.out] at e1
            rw [if_neg (by have := H1.out; omega), List.append_nil] at e3 e4
            rw [← e1, ← e3, ← e4] at h5
            exact ⟨_, _, _, h5⟩
        · have hk1b : (g.kind == 1) = false := beq_eq_false_iff_ne.2 hk1
          by_cases hk3 : g.kind = 3
          · have H3 := hid hk3
            rw [hk3] at a0 HY hyy
            clear hk1 hk3
            subst hlv
            subst hsv
            go_wp2_with (first
              | (rw [← HW1.out])
              | (rw [← HY.out])
              | (at_builtin; refine fam_app rfl _ _ rfl NY.out.fam NY.out.below 2 _ rfl (i : Int) 3 _ rfl rfl rfl (by show (kpTo 3 c.gates i).length ≤ 1099511627776; omega) ?_; intro sz cz w1 hF1 hB1 hk1; have hbx1 := hk1 p _ _ _ NY.out.box (by decide); have c1 := fun j => cell_row hbx1 j; have f1 := fun j => unfrozen_row hbx1 j; have hb1 := (Array.getElem?_eq_some_iff.1 hbx1).1; obtain ⟨W1, hW1⟩ : ∃ W1, W1 = w1.setCell ⟨p, 3, none⟩ (.slice sz ((kpTo 3 c.gates i).length + 1) cz) := ⟨_, rfl⟩; have N1 : Hid (Np w W1 p vb c.gates.length (.slice sg c.gates.length cg) ordv iv (.slice sz ((kpTo 3 c.gates i).length + 1) cz) (.slice s4 (srcsTo c.gates i).length c4) (.slice so c.outs.length co) ord (kpTo 1 c.gates i) (kpTo 3 c.gates i ++ [i]) (srcsTo c.gates i)) := (by rw [hW1]; refine NY.out.put hB1 hk1 ?_ rfl; rw [← places_snoc, show (kpTo 3 c.gates i ++ [i]).length = (kpTo 3 c.gates i).length + 1 by simp]; exact hF1); have RY1 : Hid (W1.heap[wr.heap.size]? = some (.cells #[Value.int .i64 g.kind, .string g.name, .int .i64 g.op, .int .i64 g.a, .int .i64 g.b, .int .i64 g.c] 38 (0, 0))) := (by rw [hW1]; exact (Kp.setCell hbx1 _) _ _ _ _ (hk1 _ _ _ _ RY.out (by decide)) (by decide)); have HW1 := hid hW1; clear hF1 hB1 hk1 hbx1 hW1))
            have k1 : W1.drew.cell? ⟨p, 4, none⟩ = some (.slice s4 (srcsTo c.gates i).length c4) := cell_row N1.out.box 4
            have hp1 := (Array.getElem?_eq_some_iff.1 N1.out.box).1
            clear c1 f1 hb1 cp hps hyy hby
            refine wp_region_noPanic ?_
            refine wp_region_held_drew (S := fun W => W.cell? ⟨wr.heap.size, 3, none⟩ = some (.int .i64 g.a)) (by kernel_rfl) (cell_row RY1.out 3) (fun hHeld => ?_)
            refine wpAnyH_take (i := 0) (v := ?_) (by simp only [List.getElem?_toArray, List.getElem?_cons_zero]; rfl) (by kernel_rfl) (by kernel_rfl) (by kernel_rfl) (fun _ _ _ h => h) (Or.inl ⟨by rfl, ?_⟩) (by assumption) ?_
            rotate_left 1
            · intro w hSw; (try dsimp only at hSw); go_simp; (try with_reducible rfl)
            try simp only [Act.put, List.setIfInBounds_toArray, List.set_cons_zero, List.set_cons_succ]
            refine wpAnyH_take (i := 1) (v := ?_) (by simp only [List.getElem?_toArray, List.getElem?_cons_succ, List.getElem?_cons_zero]; rfl) (by kernel_rfl) (by kernel_rfl) (by kernel_rfl) (fun _ _ _ h => h) (Or.inl ⟨by rfl, ?_⟩) (by assumption) ?_
            rotate_left 1
            · intro w hSw; (try dsimp only at hSw); go_simp; (try with_reducible rfl)
            try simp only [Act.put, List.setIfInBounds_toArray, List.set_cons_zero, List.set_cons_succ]
            refine wpAnyH_take (i := 2) (v := ?_) (by simp only [List.getElem?_toArray, List.getElem?_cons_succ, List.getElem?_cons_zero]; rfl) (by kernel_rfl) (by kernel_rfl) (by kernel_rfl) (fun _ _ _ h => h) (Or.inl ⟨by rfl, ?_⟩) (by assumption) ?_
            rotate_left 1
            · intro w hSw; (try dsimp only at hSw); go_simp; (try with_reducible rfl)
            try simp only [Act.put, List.setIfInBounds_toArray, List.set_cons_zero, List.set_cons_succ]
            refine wpAnyH_take (i := 3) (v := ?_) (by simp only [List.getElem?_toArray, List.getElem?_cons_succ, List.getElem?_cons_zero]; rfl) (by kernel_rfl) (by kernel_rfl) (by kernel_rfl) (fun _ _ _ h => h) (Or.inl ⟨by rfl, ?_⟩) (by assumption) ?_
            rotate_left 1
            · intro w hSw; (try dsimp only at hSw); go_simp; (try with_reducible rfl)
            try simp only [Act.put, List.setIfInBounds_toArray, List.set_cons_zero, List.set_cons_succ]
            refine wpAnyH_take (i := 5) (v := ?_) (by simp only [List.getElem?_toArray, List.getElem?_cons_succ, List.getElem?_cons_zero]; rfl) (by kernel_rfl) (by kernel_rfl) (by kernel_rfl) (fun _ _ _ h => h) (Or.inl ⟨by rfl, ?_⟩) (by assumption) ?_
            rotate_left 1
            · intro w hSw; (try dsimp only at hSw); go_simp; (try with_reducible rfl)
            try simp only [Act.put, List.setIfInBounds_toArray, List.set_cons_zero, List.set_cons_succ]
            refine wpAnyH_take (i := 6) (v := ?_) (by simp only [List.getElem?_toArray, List.getElem?_cons_succ, List.getElem?_cons_zero]; rfl) (by kernel_rfl) (by kernel_rfl) (by kernel_rfl) (fun _ _ _ h => h) (Or.inl ⟨by rfl, ?_⟩) (by assumption) ?_
            rotate_left 1
            · intro w hSw; (try dsimp only at hSw); go_simp; (try with_reducible rfl)
            try simp only [Act.put, List.setIfInBounds_toArray, List.set_cons_zero, List.set_cons_succ]
            refine wpAnyH_ready (rs := [4, 7]) (by kernel_rfl) (by simp) ?_
            refine AllReadyH.cons (by simp only [List.getElem?_toArray, List.getElem?_cons_succ, List.getElem?_cons_zero]; rfl) (fun K hK => ?_) (AllReadyH.cons (by simp only [List.getElem?_toArray, List.getElem?_cons_succ, List.getElem?_cons_zero]; rfl) (fun K hK => ?_) AllReadyH.nil)
            · go_simp
              clear hHeld
              refine hK.out _ _ (cell_row RY1.out 3) (fun hHeld => ?_)
              clear hK K
              try simp only [Act.put, List.setIfInBounds_toArray, List.set_cons_zero, List.set_cons_succ]
              refine wpAnyH_ready (rs := [7]) (by kernel_rfl) (by simp) ?_
              refine AllReadyH.cons (by simp only [List.getElem?_toArray, List.getElem?_cons_succ, List.getElem?_cons_zero]; rfl) (fun K hK => ?_) AllReadyH.nil
              go_simp
              obtain ⟨Y6, hY6⟩ : ∃ Y6, Y6 = (W1.alloc (.cells #[.int .i64 g.a] 3)).drew := ⟨_, rfl⟩
              have hYb : Below W1.heap.size W1 Y6 := by rw [hY6]; exact ((Below.refl _ _).alloc (Nat.le_refl _) _).drew
              have N6 := hid (N1.out.on hYb)
              have RY6 : Hid (Y6.heap[wr.heap.size]? = some (.cells #[Value.int .i64 g.kind, .string g.name, .int .i64 g.op, .int .i64 g.a, .int .i64 g.b, .int .i64 g.c] 38 (0, 0))) := (hYb.block _ (Array.getElem?_eq_some_iff.1 RY1.out).1).trans RY1.out
              have CE6 : Hid (Y6.cell? ⟨W1.heap.size, 0, none⟩ = some (.int .i64 g.a)) := by rw [hY6]; exact cell_row (heap_alloc_new W1 _) 0
              have k6 : Y6.cell? ⟨p, 4, none⟩ = some (.slice s4 (srcsTo c.gates i).length c4) := cell_row N6.out.box 4
              have hp6 := (Array.getElem?_eq_some_iff.1 N6.out.box).1
              (try rw [← hY6])
              clear hY6 hYb
              clear hHeld
              refine hK.out _ _ (cell_row RY6.out 3) (fun hHeld => ?_)
              clear hK K
              try simp only [Act.put, List.setIfInBounds_toArray, List.set_cons_zero, List.set_cons_succ]
              refine wpAnyH_ready (rs := [8]) (by kernel_rfl) (by simp) ?_
              refine AllReadyH.cons (by simp only [List.getElem?_toArray, List.getElem?_cons_succ, List.getElem?_cons_zero]; rfl) (fun K hK => ?_) AllReadyH.nil
              skip
              refine fam_wp _ _ rfl N6.out.fam N6.out.below 3 _ rfl g.a W1.heap.size CE6.out rfl rfl (by show (srcsTo c.gates i).length ≤ 1099511627776; omega) ?_
              intro sx cx w7 hF7 hB7 hk7
              have hbx7 := hk7 p _ _ _ N6.out.box (by decide)
              have c7 := fun j => cell_row hbx7 j
              have f7 := fun j => unfrozen_row hbx7 j
              have hb7 := (Array.getElem?_eq_some_iff.1 hbx7).1
              have hg7 := hk7 _ _ _ _ RY6.out (by decide)
              have N7 : Hid (Np w (w7.setCell ⟨p, 4, none⟩ (.slice sx ((srcsTo c.gates i).length + 1) cx)) p vb c.gates.length (.slice sg c.gates.length cg) ordv iv (.slice sz ((kpTo 3 c.gates i).length + 1) cz) (.slice sx ((srcsTo c.gates i).length + 1) cx) (.slice so c.outs.length co) ord (kpTo 1 c.gates i) (kpTo 3 c.gates i ++ [i]) (srcsTo c.gates i ++ [g.a])) := by
                refine N6.out.put hB7 hk7 ?_ rfl
                rw [show nu (srcsTo c.gates i ++ [g.a]) = nu (srcsTo c.gates i) ++ [.int .i64 g.a] by simp [nu], show (srcsTo c.gates i ++ [g.a]).length = (srcsTo c.gates i).length + 1 by simp]
                exact hF7
              have hg8 := (Kp.setCell (j := 4) hbx7 (.slice sx ((srcsTo c.gates i).length + 1) cx)) _ _ _ _ hg7 (by decide)
              clear hF7 hB7 hk7
              clear hHeld
              refine hK.out _ _ (cell_row hg7 3) (fun hHeld => ?_)
              clear hK K
              try simp only [Act.put, List.setIfInBounds_toArray, List.set_cons_zero, List.set_cons_succ]
              refine wpAnyH_take (i := 9) (v := ?_) (by simp only [List.getElem?_toArray, List.getElem?_cons_succ, List.getElem?_cons_zero]; rfl) (by kernel_rfl) (by kernel_rfl) (by kernel_rfl) (fun _ _ _ h => h) (Or.inl ⟨by rfl, ?_⟩) (by assumption) ?_
              rotate_left 1
              · intro w hSw; (try dsimp only at hSw); go_simp; (try with_reducible rfl)
              try simp only [Act.put, List.setIfInBounds_toArray, List.set_cons_zero, List.set_cons_succ]
              refine wpAnyH_take (i := 10) (v := ?_) (by simp only [List.getElem?_toArray, List.getElem?_cons_succ, List.getElem?_cons_zero]; rfl) (by kernel_rfl) (by kernel_rfl) (by kernel_rfl) (fun _ _ _ h => h) (Or.inl ⟨by rfl, ?_⟩) (by assumption) ?_
              rotate_left 1
              · intro w hSw; (try dsimp only at hSw); go_simp; (try with_reducible rfl)
              try simp only [Act.put, List.setIfInBounds_toArray, List.set_cons_zero, List.set_cons_succ]
              refine wpAnyH_ready (rs := [11]) (by kernel_rfl) (by simp) ?_
              refine AllReadyH.cons (by simp only [List.getElem?_toArray, List.getElem?_cons_succ, List.getElem?_cons_zero]; rfl) (fun K hK => ?_) AllReadyH.nil
              go_simp
              clear hHeld
              refine hK.out _ _ (cell_row hg8 3) (fun hHeld => ?_)
              clear hK K
              try simp only [Act.put, List.setIfInBounds_toArray, List.set_cons_zero, List.set_cons_succ]
              refine wpAnyH_done (by kernel_rfl) ?_ _
              refine NoPanic.normal ?_
              go_wp2
              (try rw [← HSG.out])
              go_roundg (c.gates.length - (i + 1))
              case measure => omega
              case rel =>
                refine ⟨i + 1, hlt, rfl, by go_num, ?_⟩
                have h5 := N7.out
                have e1 := HK1.out
                have e3 := HK3.out
                have e4 := HSR.out
                rw [if_neg (by have := H3.out; omega), List.append_nil] at e1
                rw [if_pos H3.out] at e3 e4
                rw [← e1, ← e3, ← e4] at h5
                exact ⟨_, _, _, h5⟩
            · go_simp
              obtain ⟨Y6, hY6⟩ : ∃ Y6, Y6 = (W1.alloc (.cells #[.int .i64 g.a] 3)).drew := ⟨_, rfl⟩
              have hYb : Below W1.heap.size W1 Y6 := by rw [hY6]; exact ((Below.refl _ _).alloc (Nat.le_refl _) _).drew
              have N6 := hid (N1.out.on hYb)
              have RY6 : Hid (Y6.heap[wr.heap.size]? = some (.cells #[Value.int .i64 g.kind, .string g.name, .int .i64 g.op, .int .i64 g.a, .int .i64 g.b, .int .i64 g.c] 38 (0, 0))) := (hYb.block _ (Array.getElem?_eq_some_iff.1 RY1.out).1).trans RY1.out
              have CE6 : Hid (Y6.cell? ⟨W1.heap.size, 0, none⟩ = some (.int .i64 g.a)) := by rw [hY6]; exact cell_row (heap_alloc_new W1 _) 0
              have k6 : Y6.cell? ⟨p, 4, none⟩ = some (.slice s4 (srcsTo c.gates i).length c4) := cell_row N6.out.box 4
              have hp6 := (Array.getElem?_eq_some_iff.1 N6.out.box).1
              (try rw [← hY6])
              clear hY6 hYb
              clear hHeld
              refine hK.out _ _ (cell_row RY6.out 3) (fun hHeld => ?_)
              clear hK K
              try simp only [Act.put, List.setIfInBounds_toArray, List.set_cons_zero, List.set_cons_succ]
              refine wpAnyH_ready (rs := [4]) (by kernel_rfl) (by simp) ?_
              refine AllReadyH.cons (by simp only [List.getElem?_toArray, List.getElem?_cons_succ, List.getElem?_cons_zero]; rfl) (fun K hK => ?_) AllReadyH.nil
              go_simp
              clear hHeld
              refine hK.out _ _ (cell_row RY6.out 3) (fun hHeld => ?_)
              clear hK K
              try simp only [Act.put, List.setIfInBounds_toArray, List.set_cons_zero, List.set_cons_succ]
              refine wpAnyH_ready (rs := [8]) (by kernel_rfl) (by simp) ?_
              refine AllReadyH.cons (by simp only [List.getElem?_toArray, List.getElem?_cons_succ, List.getElem?_cons_zero]; rfl) (fun K hK => ?_) AllReadyH.nil
              skip
              refine fam_wp _ _ rfl N6.out.fam N6.out.below 3 _ rfl g.a W1.heap.size CE6.out rfl rfl (by show (srcsTo c.gates i).length ≤ 1099511627776; omega) ?_
              intro sx cx w7 hF7 hB7 hk7
              have hbx7 := hk7 p _ _ _ N6.out.box (by decide)
              have c7 := fun j => cell_row hbx7 j
              have f7 := fun j => unfrozen_row hbx7 j
              have hb7 := (Array.getElem?_eq_some_iff.1 hbx7).1
              have hg7 := hk7 _ _ _ _ RY6.out (by decide)
              have N7 : Hid (Np w (w7.setCell ⟨p, 4, none⟩ (.slice sx ((srcsTo c.gates i).length + 1) cx)) p vb c.gates.length (.slice sg c.gates.length cg) ordv iv (.slice sz ((kpTo 3 c.gates i).length + 1) cz) (.slice sx ((srcsTo c.gates i).length + 1) cx) (.slice so c.outs.length co) ord (kpTo 1 c.gates i) (kpTo 3 c.gates i ++ [i]) (srcsTo c.gates i ++ [g.a])) := by
                refine N6.out.put hB7 hk7 ?_ rfl
                rw [show nu (srcsTo c.gates i ++ [g.a]) = nu (srcsTo c.gates i) ++ [.int .i64 g.a] by simp [nu], show (srcsTo c.gates i ++ [g.a]).length = (srcsTo c.gates i).length + 1 by simp]
                exact hF7
              have hg8 := (Kp.setCell (j := 4) hbx7 (.slice sx ((srcsTo c.gates i).length + 1) cx)) _ _ _ _ hg7 (by decide)
              clear hF7 hB7 hk7
              clear hHeld
              refine hK.out _ _ (cell_row hg7 3) (fun hHeld => ?_)
              clear hK K
              try simp only [Act.put, List.setIfInBounds_toArray, List.set_cons_zero, List.set_cons_succ]
              refine wpAnyH_take (i := 9) (v := ?_) (by simp only [List.getElem?_toArray, List.getElem?_cons_succ, List.getElem?_cons_zero]; rfl) (by kernel_rfl) (by kernel_rfl) (by kernel_rfl) (fun _ _ _ h => h) (Or.inl ⟨by rfl, ?_⟩) (by assumption) ?_
              rotate_left 1
              · intro w hSw; (try dsimp only at hSw); go_simp; (try with_reducible rfl)
              try simp only [Act.put, List.setIfInBounds_toArray, List.set_cons_zero, List.set_cons_succ]
              refine wpAnyH_take (i := 10) (v := ?_) (by simp only [List.getElem?_toArray, List.getElem?_cons_succ, List.getElem?_cons_zero]; rfl) (by kernel_rfl) (by kernel_rfl) (by kernel_rfl) (fun _ _ _ h => h) (Or.inl ⟨by rfl, ?_⟩) (by assumption) ?_
              rotate_left 1
              · intro w hSw; (try dsimp only at hSw); go_simp; (try with_reducible rfl)
              try simp only [Act.put, List.setIfInBounds_toArray, List.set_cons_zero, List.set_cons_succ]
              refine wpAnyH_ready (rs := [11]) (by kernel_rfl) (by simp) ?_
              refine AllReadyH.cons (by simp only [List.getElem?_toArray, List.getElem?_cons_succ, List.getElem?_cons_zero]; rfl) (fun K hK => ?_) AllReadyH.nil
              go_simp
              clear hHeld
              refine hK.out _ _ (cell_row hg8 3) (fun hHeld => ?_)
              clear hK K
              try simp only [Act.put, List.setIfInBounds_toArray, List.set_cons_zero, List.set_cons_succ]
              refine wpAnyH_done (by kernel_rfl) ?_ _
              refine NoPanic.normal ?_
              go_wp2
              (try rw [← HSG.out])
              go_roundg (c.gates.length - (i + 1))
              case measure => omega
              case rel =>
                refine ⟨i + 1, hlt, rfl, by go_num, ?_⟩
                have h5 := N7.out
                have e1 := HK1.out
                have e3 := HK3.out
                have e4 := HSR.out
                rw [if_neg (by have := H3.out; omega), List.append_nil] at e1
                rw [if_pos H3.out] at e3 e4
                rw [← e1, ← e3, ← e4] at h5
                exact ⟨_, _, _, h5⟩
          · have hk3b : (g.kind == 3) = false := beq_eq_false_iff_ne.2 hk3
            have N1 : Hid (∃ iv lv sv, Np w Y p vb c.gates.length (.slice sg c.gates.length cg) ordv iv lv sv (.slice so c.outs.length co) ord (kpTo 1 c.gates (i + 1)) (kpTo 3 c.gates (i + 1)) (srcsTo c.gates (i + 1))) := by
              have h5 := NY.out
              have e1 := HK1.out
              have e3 := HK3.out
              have e4 := HSR.out
              rw [if_neg hk1, List.append_nil] at e1
              rw [if_neg hk3, List.append_nil] at e3 e4
              rw [← e1, ← e3, ← e4] at h5
              exact ⟨_, _, _, h5⟩
            clear hk1 hk3
            go_wp2_with (rw [← HY.out])
            (try rw [← HSG.out])
            go_roundg (c.gates.length - (i + 1))
            case measure => omega
            case rel => exact ⟨i + 1, hlt, rfl, by go_num, N1.out⟩
      · obtain rfl : i = c.gates.length := by omega
        have hfl := HF.out
        subst hov
        subst hiv
        subst hlv
        subst hsv
        have PD : Hid (∃ d : Pn, d.p = p ∧ Pl wr d (List.replicate c.gates.length false) ∧ Good d ∧ Below w.heap.size w wr ∧ w.heap.size ≤ d.vb ∧ d.c = c ∧ d.ins = kpTo 1 c.gates c.gates.length ∧ d.las = kpTo 3 c.gates c.gates.length ∧ d.srcs = srcsTo c.gates c.gates.length ∧ d.ord.Nodup ∧ (∀ x, x < c.gates.length → x ∈ d.ord) ∧ (∀ (i x y : Nat), d.ord[i]? = some x → Leans c.gates x y → ∃ j, j < i ∧ d.ord[j]? = some y)) := by
          obtain ⟨hnd, hall, hord, hlt0⟩ := HP.out
          refine ⟨⟨p, vb, c, sg, so, so1, s2, s3, s4, cg, co, co1, c2, c3, c4, ord, kpTo 1 c.gates c.gates.length, kpTo 3 c.gates c.gates.length, srcsTo c.gates c.gates.length⟩, rfl, ⟨hnp.box, HC.out.below hnp.below, row_read (hnp.fam.own 0 _ rfl), row_read (hnp.fam.own 1 _ rfl), row_read (hnp.fam.own 2 _ rfl), row_read (hnp.fam.own 3 _ rfl), hnp.vals, by simp, fun e => ?_, off_base HC.out.gates hnp.vbB, off_base HC.out.outs hnp.vbB, off_row (hnp.fam.own 0 _ rfl) hnp.vals, off_row (hnp.fam.own 1 _ rfl) hnp.vals, off_row (hnp.fam.own 2 _ rfl) hnp.vals, off_row (hnp.fam.own 3 _ rfl) hnp.vals⟩, ⟨hfew, hfl.fewOuts, by dsimp only; omega, by dsimp only; omega, by dsimp only; omega, Nat.le_trans (few_of_nodup hnd hlt0) hfew, fun i g hg => (hfl.lines i g hg).2, fun x hx => ((kpTo_mem 1 c.gates _ (Nat.le_refl _) x).1 hx).1, fun x hx => ((kpTo_mem 3 c.gates _ (Nat.le_refl _) x).1 hx).1, hlt0, fun x hx => ?_, hfl.outs⟩, hnp.below, hnp.vbB, rfl, rfl, rfl, rfl, hnd, hall, hord⟩
          · have e2 : p = vb := e
            have h1 := hnp.box
            rw [e2, hnp.vals] at h1
            simp at h1
          · have hx2 : x ∈ srcsTo c.gates c.gates.length := hx
            rw [srcsTo_eq c.gates _ (Nat.le_refl _), List.take_length, List.mem_map] at hx2
            obtain ⟨g, hg, rfl⟩ := hx2
            rw [List.mem_filter] at hg
            obtain ⟨j, hj, e⟩ := List.getElem_of_mem hg.1
            have hl := (hfl.lines j g (by rw [List.getElem?_eq_getElem hj, e])).2
            obtain ⟨_, h2, _⟩ := line_parts hl (k := 3) (by simpa using hg.2) (by omega) (by omega)
            exact h2 g.a (by simp [usesN])
        clear hnp NP
        go_wp2
        refine bodyPost_ret (v := .pointer (some ⟨p, 0, none⟩)) (by simp [results, Tryd.results40, go_sem]) rfl ?_
        obtain ⟨d, hd, h1⟩ := PD.out
        exact ⟨d, by rw [hd], h1⟩
end Go.Proofs.YtfmmmhcpdinhgaaDoor
/-
  The program's Step.
-/
namespace Go.Proofs.YtfmmmhcpdinhgaaDoor
open Go.RowKit Go.Deep PureNet ShfKit
set_option maxRecDepth 100000

/-- what a step of a player comes to, told by values. -/
theorem play_step (c : Net) (d : Pn) (v0 ins las v : List Bool) (si sl : Option Addr) (ci cl : Nat) (W : World) (hf : PureNet.Formed c) (hG : Good d) (hdc : d.c = c) (hdi : d.ins = kpTo 1 c.gates c.gates.length) (hdl : d.las = kpTo 3 c.gates c.gates.length) (hds : d.srcs = srcsTo c.gates c.gates.length) (hnd : d.ord.Nodup) (hall : ∀ x, x < c.gates.length → x ∈ d.ord) (hord : ∀ (i x y : Nat), d.ord[i]? = some x → Leans c.gates x y → ∃ j, j < i ∧ d.ord[j]? = some y)
    (hP : Pl W d v0) (hI : CellsAt W si (bo ins)) (hL : CellsAt W sl (bo las)) (hil : ins.length = cnt 1 c.gates) (hll : las.length = cnt 3 c.gates) (hfI : Off (bo ins) si d.vb) (hfL : Off (bo las) sl d.vb) (hv : Vals c.gates ins las v) :
    Calls Tryd.prog 43 #[.pointer (some ⟨d.p, 0, none⟩), .slice si ins.length ci, .slice sl las.length cl] W fun e w' => ∃ b1 b2, e = .returned (.tuple #[.slice (some ⟨b1, 0, none⟩) (outsOf c v).length (outsOf c v).length, .slice (some ⟨b2, 0, none⟩) (nextOf c v).length (nextOf c v).length]) ∧ W.heap.size ≤ b1 ∧ W.heap.size ≤ b2 ∧
      w'.heap[b1]? = some (.cells (bo (outsOf c v)).toArray 4 (0, 0)) ∧ w'.heap[b2]? = some (.cells (bo (nextOf c v)).toArray 4 (0, 0)) ∧ Pl w' d v ∧ W.grownBy w' (some d.vb) ∧ b1 ≠ b2 := by
  have h1 : d.ins.length = ins.length := by rw [hdi, kpTo_len 1 c.gates _ (Nat.le_refl _), List.take_length, hil]
  have h3 : d.las.length = las.length := by rw [hdl, kpTo_len 3 c.gates _ (Nat.le_refl _), List.take_length, hll]
  have hs := step_ok d v0 ins las si sl ci cl W hP hI hL h1.symm h3.symm hfI hfL hG
  have hvl : v0.length = c.gates.length := by rw [← hdc]; exact hP.len
  have hpv := play_vals (v0 := v0) (fun i g hg => (hf.lines i g hg).2) hall hnd hord hil hll hvl
  have hu := hf.unique hpv hv
  rw [hdc, hdi, hdl, hu] at hs
  rw [← hdi, ← hdl, h1, h3] at hs
  refine hs.mono ?_
  rintro e w' ⟨b1, b2, rfl, hb1, hb2, hr1, hr2, hp, hg, hne⟩
  have e1 : c.outs.map (valAt v) = outsOf c v := rfl
  have e2 : d.srcs.map (valAt v) = nextOf c v := by
    rw [hds, srcsTo_eq c.gates _ (Nat.le_refl _), List.take_length, nextOf, List.map_map]
    rfl
  rw [e1] at hr1
  rw [e2] at hr2
  have l1 : (outsOf c v).length = c.outs.length := by simp [outsOf]
  have l2 : (nextOf c v).length = d.srcs.length := by rw [← e2, List.length_map]
  exact ⟨b1, b2, by rw [l1, l2], hb1, hb2, hr1, hr2, hp, hg, hne⟩

end Go.Proofs.YtfmmmhcpdinhgaaDoor
