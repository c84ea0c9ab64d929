import Derived.Test.YtfmmmhcpdinhgabDoorZ15
/-
  The reader connects its lines: what its steps leave.
-/
namespace Go.Proofs.YtfmmmhcpdinhgabDoor
open Go.RowKit Go.Deep PureNet PureRd ShfKit
set_option maxRecDepth 100000

theorem lnsV_at : ∀ (l : List Ln) (us : List Value) (i : Nat) (y : Ln) (u : Value), l[i]? = some y → us[i]? = some u → ∀ j, j < 7 → (lnsV l us)[i * 7 + j]? = (lnV y u)[j]?
  | [], _, _, _, _, h, _, _, _ => by simp at h
  | _ :: _, [], _, _, _, _, h, _, _ => by simp at h
  | a :: l, v :: us, 0, y, u, h, h2, j, hj => by
    have e : lnsV (a :: l) (v :: us) = lnV a v ++ lnsV l us := rfl
    have e1 : a = y := by simpa using h
    have e2 : v = u := by simpa using h2
    rw [e, e1, e2, List.getElem?_append_left (by simp [lnV]; omega)]
    simp
  | a :: l, v :: us, i + 1, y, u, h, h2, j, hj => by
    have e : lnsV (a :: l) (v :: us) = lnV a v ++ lnsV l us := rfl
    have e7 : (lnV a v).length = 7 := rfl
    rw [e, List.getElem?_append_right (by rw [e7]; omega), e7, show (i + 1) * 7 + j - 7 = i * 7 + j by omega]
    exact lnsV_at l us i y u (by simpa using h) (by simpa using h2) j hj
section
variable {w W : World} {B b : Nat} {text : List UInt8} {s : Rs} {x : Bx} {gv ov : Value} {gs : List Ga} {os : List Int}
theorem Cn.same (h : Cn w W b text s x gv ov gs os) (r : Rt w B b text s x) {k : Nat} {o : Obj} (hk : w.heap[k]? = some o) (hne : ∀ c fz, o ≠ .cells c 67 fz) : W.heap[k]? = some o := by
  refine (h.kept k (Array.getElem?_eq_some_iff.1 hk).1 (fun e => ?_)).trans hk
  rw [e, r.box] at hk
  exact hne _ _ (Option.some.inj hk).symm
theorem Cn.line (h : Cn w W b text s x gv ov gs os) (r : Rt w B b text s x) {i : Nat} {l : Ln} (hl : s.lines[i]? = some l) : ∃ g c u, x.ln = .slice (some ⟨g, 0, none⟩) s.lines.length c ∧ s.lines.length ≤ c ∧ g < w.heap.size ∧ x.us[i]? = some u ∧ ∀ W', Below W.heap.size W W' → g < W'.heap.size ∧ W'.cell? ⟨g, i * 7, none⟩ = some (.int .i64 l.kind) ∧ W'.cell? ⟨g, i * 7 + 1, none⟩ = some (str l.name) ∧ W'.cell? ⟨g, i * 7 + 2, none⟩ = some (.int .i64 l.op) ∧ W'.cell? ⟨g, i * 7 + 3, none⟩ = some (.int .i64 0) ∧ W'.cell? ⟨g, i * 7 + 4, none⟩ = some (.int .i64 0) ∧ W'.cell? ⟨g, i * 7 + 5, none⟩ = some (.int .i64 0) ∧ W'.cell? ⟨g, i * 7 + 6, none⟩ = some u := by
  have hi := (List.getElem?_eq_some_iff.1 hl).1
  have hm := r.many
  obtain ⟨u, hu⟩ : ∃ u, x.us[i]? = some u := ⟨x.us[i]'(by omega), List.getElem?_eq_getElem (by omega)⟩
  rcases r.lines.2 with ⟨_, h0⟩ | ⟨g, cap, cur, hv, hb, hr, hnc, hcm, hcs, htk⟩
  · omega
  · have hg := (Array.getElem?_eq_some_iff.1 hr).1
    have hW := h.same r hr (fun c fz e => by simp only [Obj.cells.injEq] at e; exact absurd e.2.1 (by decide))
    refine ⟨g, cap, u, hv, hnc, hg, hu, fun W' hB => ?_⟩
    have hW' := (hB.block g (Nat.lt_of_lt_of_le hg h.size)).trans hW
    have at_ : ∀ j, j < 7 → W'.cell? ⟨g, i * 7 + j, none⟩ = (lnV l u)[j]? := fun j hj => by
      rw [cell_row hW', ← lnsV_at s.lines x.us i l u hl hu j hj, ← htk, List.getElem?_take, if_pos (by omega)]
      simp
    exact ⟨Nat.lt_of_lt_of_le hg (Nat.le_trans h.size hB.size), at_ 0 (by omega), at_ 1 (by omega), at_ 2 (by omega), at_ 3 (by omega), at_ 4 (by omega), at_ 5 (by omega), at_ 6 (by omega)⟩
theorem Cn.words (h : Cn w W b text s x gv ov gs os) (r : Rt w B b text s x) {i : Nat} {l : Ln} {u : Value} (hl : s.lines[i]? = some l) (hu : x.us[i]? = some u) : ∃ sa c, u = .slice sa l.uses.length c ∧ l.uses.length ≤ c ∧ ∀ (j : Nat) (y : Wd), l.uses[j]? = some y → ∃ g o, sa = some ⟨g, o, none⟩ ∧ g < W.heap.size ∧ W.cell? ⟨g, o + j * 2, none⟩ = some (str y.1) ∧ W.cell? ⟨g, o + j * 2 + 1, none⟩ = some (.int .i64 (y.2 : Int)) := by
  obtain ⟨sa, c, hv, hc, hr⟩ := r.uses i l u hl hu
  refine ⟨sa, c, hv, hc, fun j y hy => ?_⟩
  obtain ⟨g, o, cur, fz, e, hgM, hg, hx⟩ := hr (fun e => by rw [e] at hy; simp at hy)
  have hW := h.same r hg (fun c fz e => by simp only [Obj.cells.injEq] at e; exact absurd e.2.1 (by decide))
  obtain ⟨h1, h2⟩ := hx j y hy
  exact ⟨g, o, e, (Array.getElem?_eq_some_iff.1 hW).1, (cell_row hW _).trans (by simpa using h1), (cell_row hW _).trans (by simpa using h2)⟩
theorem Cn.pm (h : Cn w W b text s x gv ov gs os) (r : Rt w B b text s x) : PM W x.pm s := by
  obtain ⟨n, D, ⟨es, cl, ho, rr⟩, hn, hD⟩ := r.places
  exact ⟨n, D, ⟨es, cl, h.same r ho (fun _ _ e => by cases e), rr⟩, hn, hD⟩
end


section
variable {w W : World} {B b : Nat} {text : List UInt8} {s : Rs} {x : Bx} {gv ov : Value} {gs : List Ga} {os : List Int}
theorem own_blk {W : World} {B e size n k t : Nat} {v : Value} {xs : List Value} {c : Array Value} {fz : Nat × Nat} (h : W.ownsRow B e size v n xs) (hk : W.heap[k]? = some (.cells c t fz)) (hne : t ≠ e) : v.ownBlock ≠ some k := own_ne h hk hne
theorem own_lt {W : World} {B e size n k : Nat} {v : Value} {xs : List Value} (h : W.ownsRow B e size v n xs) (hk : k < B) : v.ownBlock ≠ some k := fun e2 => by have := (h.lt k e2).1; omega
/-- an out more. -/
theorem Cn.pushOut {w6 : World} {v6 : Value} {p : Int} (h : Cn w W b text s x gv ov gs os) (o6 : w6.ownsRow w.heap.size 3 1 v6 (os.length + 1) (nu os ++ [.int .i64 p])) (g6 : W.grownBy w6 ov.ownBlock) :
    (∃ z, w6.cell? ⟨b, 11, none⟩ = some z) ∧ w6.frozen? ⟨b, 11, none⟩ = false ∧ b < w6.heap.size ∧ ∀ W', W' = w6.setCell ⟨b, 11, none⟩ v6 → Cn w W' b text s x gv v6 gs (os ++ [p]) := by
  have hb := h.bl
  have hs := h.size
  have hb6 : w6.heap[b]? = some (.cells (boxC text s x gv ov) 67 (0, 0)) := (g6.block b (by omega) (fun e => own_blk h.outs h.box (by decide) e.symm)).trans h.box
  refine ⟨⟨_, cell_row hb6 11⟩, unfrozen_row hb6 11, (Array.getElem?_eq_some_iff.1 hb6).1, fun W' hW => ?_⟩
  have h6 := g6.size
  refine ⟨by rw [hW]; simp; omega, fun k h1 h2 => ?_, hb, by rw [hW, row_set hb6]; rfl, ?_, ?_, ?_⟩
  · rw [hW, Below.heap_setCell _ _ _ _ (show k ≠ b from h2)]
    exact (g6.block k (by omega) (fun e => own_lt h.outs h1 e.symm)).trans (h.kept k h1 h2)
  · rw [hW]
    refine ShfKit_own_kept h.gates (fun g hg => ?_)
    have hgb : g ≠ b := fun e => own_blk h.gates h.box (by decide) (by rw [hg, e])
    rw [Below.heap_setCell _ _ _ _ (show g ≠ b from hgb)]
    refine g6.block g (h.gates.lt g hg).2 (fun e => ?_)
    obtain ⟨c1, f1, hk1⟩ := Lib.ownsRow_kind h.gates g hg
    exact own_blk h.outs hk1 (by decide) e.symm
  · rw [hW, show (os ++ [p]).length = os.length + 1 by simp, show nu (os ++ [p]) = nu os ++ [.int .i64 p] by simp [nu]]
    exact ShfKit_own_kept o6 (fun g hg => Below.heap_setCell _ _ _ _ (fun e => own_blk o6 hb6 (by decide) (by rw [hg, e])))
  · rw [hW]
    exact h.b0.trans (((Below.refl 0 W).grown g6 (Nat.zero_le _) (fun _ _ => Nat.zero_le _)).setCell (p := ⟨b, 11, none⟩) (Nat.zero_le _) _)
/-- a gate more. -/
theorem Cn.pushGate {w6 : World} {v6 : Value} {p : Ga} (h : Cn w W b text s x gv ov gs os) (o6 : w6.ownsRow w.heap.size 57 6 v6 (gs.length + 1) (gas gs ++ ga p)) (g6 : W.grownBy w6 gv.ownBlock) :
    (∃ z, w6.cell? ⟨b, 10, none⟩ = some z) ∧ w6.frozen? ⟨b, 10, none⟩ = false ∧ b < w6.heap.size ∧ ∀ W', W' = w6.setCell ⟨b, 10, none⟩ v6 → Cn w W' b text s x v6 ov (gs ++ [p]) os := by
  have hb := h.bl
  have hs := h.size
  have hb6 : w6.heap[b]? = some (.cells (boxC text s x gv ov) 67 (0, 0)) := (g6.block b (by omega) (fun e => own_blk h.gates h.box (by decide) e.symm)).trans h.box
  refine ⟨⟨_, cell_row hb6 10⟩, unfrozen_row hb6 10, (Array.getElem?_eq_some_iff.1 hb6).1, fun W' hW => ?_⟩
  have h6 := g6.size
  refine ⟨by rw [hW]; simp; omega, fun k h1 h2 => ?_, hb, by rw [hW, row_set hb6]; rfl, ?_, ?_, ?_⟩
  · rw [hW, Below.heap_setCell _ _ _ _ (show k ≠ b from h2)]
    exact (g6.block k (by omega) (fun e => own_lt h.gates h1 e.symm)).trans (h.kept k h1 h2)
  · rw [hW, show (gs ++ [p]).length = gs.length + 1 by simp, show gas (gs ++ [p]) = gas gs ++ ga p by simp [gas]]
    exact ShfKit_own_kept o6 (fun g hg => Below.heap_setCell _ _ _ _ (fun e => own_blk o6 hb6 (by decide) (by rw [hg, e])))
  · rw [hW]
    refine ShfKit_own_kept h.outs (fun g hg => ?_)
    have hgb : g ≠ b := fun e => own_blk h.outs h.box (by decide) (by rw [hg, e])
    rw [Below.heap_setCell _ _ _ _ (show g ≠ b from hgb)]
    refine g6.block g (h.outs.lt g hg).2 (fun e => ?_)
    obtain ⟨c1, f1, hk1⟩ := Lib.ownsRow_kind h.outs g hg
    exact own_blk h.gates hk1 (by decide) e.symm
  · rw [hW]
    exact h.b0.trans (((Below.refl 0 W).grown g6 (Nat.zero_le _) (fun _ _ => Nat.zero_le _)).setCell (p := ⟨b, 10, none⟩) (Nat.zero_le _) _)
/-- a fault is told. -/
theorem Cn.refused {w3 : World} {s' : Rs} (h : Cn w W b text s x gv ov gs os) (hb3 : w3.heap[b]? = some (.cells (boxC text s' x gv ov) 67 (0, 0))) (hs3 : W.heap.size ≤ w3.heap.size) (hk : ∀ k, k ≠ b → k < W.heap.size → w3.heap[k]? = W.heap[k]?) (h0 : Below 0 W w3) : Cn w w3 b text s' x gv ov gs os := by
  have hs := h.size
  refine ⟨by omega, fun k h1 h2 => (hk k h2 (by omega)).trans (h.kept k h1 h2), h.bl, hb3, ?_, ?_, h.b0.trans h0⟩
  · exact ShfKit_own_kept h.gates (fun g hg => hk g (fun e => own_blk h.gates h.box (by decide) (by rw [hg, e])) (h.gates.lt g hg).2)
  · exact ShfKit_own_kept h.outs (fun g hg => hk g (fun e => own_blk h.outs h.box (by decide) (by rw [hg, e])) (h.outs.lt g hg).2)

/-- the places of a line's first j words. -/
def plV (s : Rs) (l : Ln) (j k : Nat) : Value := .int .i64 (if k < j then plcI s l.uses k else 0)
/-- within a line: its copy at a3, its places at a3 + 1. -/
structure InC (w W : World) (b : Nat) (text : List UInt8) (s : Rs) (x : Bx) (gv ov : Value) (gs : List Ga) (os : List Int) (l : Ln) (u : Value) (a3 j : Nat) : Prop where
  cn : Cn w W b text s x gv ov gs os
  le : w.heap.size ≤ a3
  line : W.heap[a3]? = some (.cells (lnV l u).toArray 87 (0, 0))
  pl : W.heap[a3 + 1]? = some (.cells #[plV s l j 0, plV s l j 1, plV s l j 2] 88 (0, 0))
  known : unk s (l.uses.take j) = none
theorem InC.on {W' : World} {l : Ln} {u : Value} {a3 j : Nat} (h : InC w W b text s x gv ov gs os l u a3 j) (hb : Below W.heap.size W W') : InC w W' b text s x gv ov gs os l u a3 j :=
  ⟨h.cn.on hb, h.le, (hb.block _ (Array.getElem?_eq_some_iff.1 h.line).1).trans h.line, (hb.block _ (Array.getElem?_eq_some_iff.1 h.pl).1).trans h.pl, h.known⟩
theorem InC.start {l : Ln} {u : Value} (h : Cn w W b text s x gv ov gs os) (W' : World) (hW : W' = (W.alloc (.cells (lnV l u).toArray 87)).alloc (.cells #[.int .i64 0, .int .i64 0, .int .i64 0] 88)) : InC w W' b text s x gv ov gs os l u W.heap.size 0 := by
  have b1 : Below W.heap.size W (W.alloc (.cells (lnV l u).toArray 87)) := (Below.refl _ _).alloc (Nat.le_refl _) _
  have b2 : Below W.heap.size W W' := by rw [hW]; exact b1.alloc (by simp) _
  have e1 : (W.alloc (.cells (lnV l u).toArray 87)).heap.size = W.heap.size + 1 := by simp
  refine ⟨h.on b2, h.size, ?_, ?_, rfl⟩
  · rw [hW]
    exact (Lib.alloc_old _ _ _ (by simp)).trans (heap_alloc_new W _)
  · rw [hW, ← e1]
    exact heap_alloc_new _ _
theorem unk_step (s : Rs) (ws : List Wd) (j : Nat) (y : Wd) (hy : ws[j]? = some y) (h : unk s (ws.take j) = none) (hp : (placeOf s y.1).isSome = true) : unk s (ws.take (j + 1)) = none := by
  unfold unk at h ⊢
  rw [List.take_add_one, hy, List.find?_append, h]
  have : (placeOf s y.1).isNone = false := by cases hq : placeOf s y.1 with | none => rw [hq] at hp; cases hp | some z => rfl
  simp [this]
theorem unk_at (s : Rs) (ws : List Wd) (j : Nat) (y : Wd) (hy : ws[j]? = some y) (h : unk s (ws.take j) = none) (hp : (placeOf s y.1).isSome = false) : unk s ws = some y := by
  have hj := (List.getElem?_eq_some_iff.1 hy).1
  have e : ws = ws.take j ++ y :: ws.drop (j + 1) := by
    have h1 := (List.getElem?_eq_some_iff.1 hy).2
    rw [← h1, List.getElem_cons_drop, List.take_append_drop]
  rw [e]
  unfold unk at h ⊢
  rw [List.find?_append, h]
  have : (placeOf s y.1).isNone = true := by cases hq : placeOf s y.1 with | none => rfl | some z => rw [hq] at hp; cases hp
  simp [this]
/-- a place is put. -/
theorem InC.place {l : Ln} {u : Value} {a3 j : Nat} {y : Wd} {p : Nat} (h : InC w W b text s x gv ov gs os l u a3 j) (hy : l.uses[j]? = some y) (hj : j < 3) (hp : placeOf s y.1 = some p) (W' : World) (hW : W' = W.setCell ⟨a3 + 1, j, none⟩ (.int .i64 (p : Int))) : InC w W' b text s x gv ov gs os l u a3 (j + 1) := by
  have hpl : plcI s l.uses j = (p : Int) := by unfold plcI; rw [hy]; simp [hp]
  have hle := h.le
  refine ⟨h.cn.put h.pl (by omega) (by decide) (by decide) (by rw [hW]; simp) (fun k hk _ => by rw [hW, Below.heap_setCell _ _ _ _ (show k ≠ a3 + 1 from hk)]) (by rw [hW]; exact (Below.refl 0 W).setCell (p := ⟨a3 + 1, j, none⟩) (Nat.zero_le _) _), h.le, ?_, ?_, unk_step s _ j y hy h.known (by rw [hp]; rfl)⟩
  · rw [hW, Below.heap_setCell _ _ _ _ (show a3 ≠ a3 + 1 by omega)]
    exact h.line
  · rw [hW, row_set h.pl]
    match j, hj, hpl with
    | 0, _, hpl => simp [plV, hpl]
    | 1, _, hpl => simp [plV, hpl]
    | 2, _, hpl => simp [plV, hpl]
end
end Go.Proofs.YtfmmmhcpdinhgabDoor
/-
  The reader connects its lines.
-/
namespace Go.Proofs.YtfmmmhcpdinhgabDoor
open Go.RowKit Go.Deep PureNet PureRd ShfKit
set_option maxRecDepth 100000

theorem step_gate {ops : Array Oper} {o : Oper} {a : Act} {w : World} {K : Act → World → Prop} {Q : Exit → Act → World → Prop} {X : Prop} (hgd : o.guard = none) (sl y : Operand) (ho : o.op = .call { callee := .builtin .append, args := #[sl, y], argTypes := #[22, 22] })
    (B n : Nat) (v : Value) (xs : List Value) (g : Ga) (ad : Nat) (hs : a.eval sl = v) (hown : w.ownsRow B 57 6 v n xs) (hx : a.eval y = .slice (some ⟨ad, 0, none⟩) 1 1) (hc : w.heap[ad]? = some (.cells (ga g).toArray 57 (0, 0))) (hn : n ≤ 1099511627776) (hB : B ≤ w.heap.size)
    (h : ∀ v' w', w'.ownsRow B 57 6 v' (n + 1) (xs ++ ga g) → w.grownBy w' v.ownBlock → K (a.put o.dst v') w') : if Region.wanted o (yielded ops a.tmps) = true then Oper.wp Tryd.prog o a w K Q else X :=
  step_one hgd sl y 22 57 _ 6 _ ho Tryd.underlying22 info38 rfl (by decide) B n v xs (ga g) ⟨ad, 0, none⟩ hs hown hx rfl (fun j z hz => by
    rw [add_zero_addr, cell_row hc]
    simpa using hz) (fun z hz => by
    simp only [ga, List.mem_cons, List.not_mem_nil, or_false] at hz
    rcases hz with rfl | rfl | rfl | rfl | rfl | rfl <;> rfl) (by omega) (by omega) hB h
/-- what connect leaves. -/
def Conn (w W : World) (b : Nat) (text : List UInt8) (s : Rs) (x : Bx) (F : Option Wd × List Ga × List Int) : Prop := ∃ gv ov, Cn w W b text (match F.1 with | none => s | some y => refuse s 142 y.2) x gv ov F.2.1 F.2.2

set_option maxHeartbeats 4000000 in
theorem connect_any (B b : Nat) (text : List UInt8) (s : Rs) (x : Bx) (w : World) (h : Rt w B b text s x) (hf : s.fault = none) (hu3 : ∀ l ∈ s.lines, l.uses.length ≤ 3) (hn : s.lines.length ≤ 2097152) :
    Calls Tryd.prog 17 #[.pointer (some ⟨b, 0, none⟩)] w fun e w' => (∃ v, e = .returned v) ∧ Conn w w' b text s x (connF s s.lines [] []) := by
  obtain ⟨sl, cl, hln⟩ := own_shape h.lines
  have q5 : w.cell? ⟨b, 5, none⟩ = some (.slice sl s.lines.length cl) := by rw [← hln]; exact cell_row h.box 5
  have hbl := (Array.getElem?_eq_some_iff.1 h.box).1
  have hsm := h.small
  obtain ⟨FL, hFL⟩ : ∃ FL, FL = connF s s.lines [] [] := ⟨_, rfl⟩
  obtain ⟨n, hn'⟩ : ∃ n, n = s.lines.length := ⟨_, rfl⟩
  have START : Hid (∃ (i : Nat) (gv ov : Value) (gs : List Ga) (os : List Int), Value.int .i64 0 = .int .i64 (i : Int) ∧ i ≤ n ∧ Cn w w b text s x gv ov gs os ∧ connF s (s.lines.drop i) gs os = FL ∧ gs.length ≤ i ∧ os.length ≤ i) := ⟨0, _, _, [], [], rfl, Nat.zero_le _, Cn.start h, by rw [hFL]; rfl, Nat.le_refl _, Nat.le_refl _⟩
  have R0 := hid h
  have FN := hid hf
  have HU := hid hu3
  have HLN := hid hln
  have HN := hid hn'
  rw [← hFL]
  rw [← hn'] at q5 hn
  clear h hf hu3 hFL hln hn'
  go_enter Tryd.func17, Tryd.ntmps17
  go_wp2
  go_loopw [14] (fun iv W => Hid (∃ (i : Nat) (gv ov : Value) (gs : List Ga) (os : List Int), iv = .int .i64 (i : Int) ∧ i ≤ n ∧ Cn w W b text s x gv ov gs os ∧ connF s (s.lines.drop i) gs os = FL ∧ gs.length ≤ i ∧ os.length ≤ i)) (fun iv _ => match iv with | .int _ i => n - i.toNat | _ => 0)
  case atStart => exact START.out
  case round =>
    clear START
    obtain ⟨W1, hWW⟩ : ∃ W1, W1 = wr := ⟨_, rfl⟩
    rw [← hWW] at hrel ⊢
    clear hWW
    obtain ⟨i, gv, ov, gs, os, rfl, hin, hC, hL, hgl, hol⟩ := hrel.out
    by_cases hi : i < n
    · obtain ⟨l, hl⟩ : ∃ l, s.lines[i]? = some l := ⟨s.lines[i]'(by rw [← HN.out]; exact hi), List.getElem?_eq_getElem _⟩
      obtain ⟨g, c, u, hg1, hg2, hg3, hgu, hgc⟩ := hC.line R0.out hl
      obtain ⟨su, cu, rfl, hcu, hwd⟩ := hC.words R0.out hl hgu
      obtain ⟨k0, k1, k2, k3, k4, k5, k6, k7⟩ := hgc W1 (Below.refl _ _)
      rw [HLN.out] at hg1
      rw [← HN.out] at hg1 hg2
      simp only [Value.slice.injEq] at hg1
      obtain ⟨hg1, -, hg4⟩ := hg1
      subst hg1
      subst hg4
      have hlt : (i : Int) < (n : Int) := by omega
      have HC := hid hC
      have HL := hid hL
      have hu3 : l.uses.length ≤ 3 := HU.out l (List.mem_of_getElem? hl)
      have Hl := hid hl
      have HWD := hid hwd
      have HGU := hid hgu
      obtain ⟨m, hm⟩ : ∃ m, m = l.uses.length := ⟨_, rfl⟩
      have HM := hid hm
      rw [← hm] at k7 hu3 hcu
      clear hrel hC hL hl hwd hgu hgc hm
      obtain ⟨a3, ha3⟩ : ∃ a3, a3 = W1.heap.size := ⟨_, rfl⟩
      obtain ⟨WS, hWS⟩ : ∃ WS, WS = (W1.alloc (.cells (lnV l (.slice su m cu)).toArray 87)).alloc (.cells #[.int .i64 0, .int .i64 0, .int .i64 0] 88) := ⟨_, rfl⟩
      have IST : Hid (InC w WS b text s x gv ov gs os l (.slice su m cu) a3 0) := by rw [ha3]; exact InC.start HC.out WS hWS
      have HWS := hid hWS
      have HA3 := hid ha3
      clear hWS ha3
      go_wp2
      rw [← HA3.out]
      have e0 : (W1.alloc (.cells #[.int .i64 l.kind, .string ⟨l.name.toArray⟩, .int .i64 l.op, .int .i64 0, .int .i64 0, .int .i64 0, .slice su m cu] 87)).alloc (.cells #[.int .i64 0, .int .i64 0, .int .i64 0] 88) = WS := HWS.out.symm
      rw [e0]
      clear e0 k0 k1 k2 k3 k4 k5 k6 k7
      go_loopw [21] (fun jv W => Hid (∃ j : Nat, jv = .int .i64 (j : Int) ∧ j ≤ m ∧ InC w W b text s x gv ov gs os l (.slice su m cu) a3 j)) (fun jv _ => match jv with | .int _ j => m - j.toNat | _ => 0)
      case atStart => exact ⟨0, rfl, Nat.zero_le _, IST.out⟩
      case round =>
        obtain ⟨W2, hW2⟩ : ∃ W2, W2 = wr := ⟨_, rfl⟩
        rw [← hW2] at hrel ⊢
        clear hW2 IST HC
        obtain ⟨j, rfl, hjm, hI⟩ := hrel.out
        have HI := hid hI
        clear hrel hI
        by_cases hj : j < m
        · obtain ⟨y, hy⟩ : ∃ y, l.uses[j]? = some y := ⟨l.uses[j]'(by rw [← HM.out]; exact hj), List.getElem?_eq_getElem _⟩
          obtain ⟨su', cu', hsu, hcu', hwd2⟩ := HI.out.cn.words R0.out Hl.out HGU.out
          simp only [Value.slice.injEq] at hsu
          obtain ⟨hsu, -, hcc⟩ := hsu
          obtain ⟨g2, o2, hsu2, lg2, y1, y2⟩ := hwd2 j y hy
          rw [← hsu] at hsu2
          subst hsu2
          have hyt : y.2 + y.1.length ≤ text.length := R0.out.inu l (List.mem_of_getElem? Hl.out) y (List.mem_of_getElem? hy)
          obtain ⟨W3, hW3⟩ : ∃ W3, W3 = W2.alloc (.cells #[str y.1, .int .i64 (y.2 : Int)] 64) := ⟨_, rfl⟩
          have b23 : Below W2.heap.size W2 W3 := by rw [hW3]; exact (Below.refl _ _).alloc (Nat.le_refl _) _
          have i3 := HI.out.on b23.drew
          have n6 : W3.drew.heap[W2.heap.size]? = some (.cells #[str y.1, .int .i64 (y.2 : Int)] 64 (0, 0)) := by rw [hW3]; exact heap_alloc_new W2 _
          obtain ⟨cc, l2, hcp⟩ := (i3.cn.pm R0.out).look y.1 (by omega)
          have c7 : W3.drew.cell? ⟨b, 7, none⟩ = some (.map (some x.pm)) := cell_row i3.cn.box 7
          have d0 : W3.drew.cell? ⟨W2.heap.size, 0, none⟩ = some (str y.1) := cell_row n6 0
          have d1 : W3.drew.cell? ⟨W2.heap.size, 1, none⟩ = some (.int .i64 (y.2 : Int)) := cell_row n6 1
          have lb : b < W3.drew.heap.size := (Array.getElem?_eq_some_iff.1 i3.cn.box).1
          have l6 : W2.heap.size < W3.drew.heap.size := (Array.getElem?_eq_some_iff.1 n6).1
          have p3 : W3.drew.cell? ⟨a3 + 1, j, none⟩ = some (plV s l j j) := by
            rw [cell_row i3.pl]
            match j, (show j < 3 by omega) with
            | 0, _ => rfl
            | 1, _ => rfl
            | 2, _ => rfl
          have f3 : W3.drew.frozen? ⟨a3 + 1, j, none⟩ = false := unfrozen_row i3.pl j
          have l3 : a3 + 1 < W3.drew.heap.size := (Array.getElem?_eq_some_iff.1 i3.pl).1
          have I3 := hid i3
          have HW3 := hid hW3
          have HY := hid hy
          have HCP := hid hcp
          have hjl : (j : Int) < (m : Int) := by omega
          have hj3 : (j : Int) < 3 := by omega
          have mixed := Tryd.lays161.mixed
          clear hwd2 hcu' b23 i3 n6 hy hW3 hcp hsu hcc
          go_upto_region 7 with (rw [← HW3.out])
          go_cut [7, 8] (fun s7 s8 wx => s7 = .int .i64 cc ∧ s8 = .bool (placeOf s y.1).isSome ∧ wx = W3.drew)
          case first =>
            go_region
            all_goals (go_wp2_with fail; go_meet; exact ⟨rfl, rfl, rfl⟩)
          case rest =>
          obtain ⟨rfl, rfl, rfl⟩ := hcut
          clear l2 c7 d0
          cases hp : placeOf s y.1 with
          | none =>
            have eF : Hid (FL = (some y, gs, os)) := by
              show _ = _
              have e1 : s.lines.drop i = l :: s.lines.drop (i + 1) := by
                have h1 := List.getElem?_eq_some_iff.1 Hl.out
                rw [← h1.2, List.getElem_cons_drop]
              rw [← HL.out, e1, connF, unk_at s l.uses j y HY.out I3.out.known (by rw [hp]; rfl)]
            have RC := hid (refuse_box b text s x gv ov 142 y.2 W3.drew I3.out.cn.box hsm (by omega) FN.out)
            clear hp p3 f3
            go_wp2_with (go_at_call 36; refine RC.out.mono ?_; rintro e w4 ⟨⟨yy, rfl⟩, kb, ks, kk, k0⟩; have K : Hid (Cn w w4 b text (refuse s 142 y.2) x gv ov gs os) := I3.out.cn.refused kb ks kk k0; clear kb ks kk k0)
            first | go_ret | refine bodyPost_ret (results_none rfl _ _ _) rfl ?_
            exact ⟨⟨_, rfl⟩, by rw [eF.out]; exact ⟨_, _, K.out⟩⟩
          | some p =>
            have hcc : cc = (p : Int) := HCP.out p hp
            subst hcc
            have NX : Hid (∀ W', W' = W3.drew.setCell ⟨a3 + 1, j, none⟩ (.int .i64 (p : Int)) → InC w W' b text s x gv ov gs os l (.slice (some ⟨g2, o2, none⟩) m cu) a3 (j + 1)) := fun W' hW' => I3.out.place HY.out (by omega) hp W' hW'
            clear hp d1
            go_wp2
            refine ⟨⟨j + 1, by simp, by omega, NX.out _ rfl⟩, ?_⟩
            show m - ((j : Int) + 1).toNat < m - (j : Int).toNat
            omega
        · have hjm2 : j = m := by omega
          subst hjm2
          obtain ⟨so, co, hov⟩ := own_shape HI.out.cn.outs
          obtain ⟨sg, cg, hgv⟩ := own_shape HI.out.cn.gates
          subst hov
          subst hgv
          have hunk : unk s l.uses = none := by have := HI.out.known; rw [HM.out, List.take_length] at this; exact this
          have e1 : s.lines.drop i = l :: s.lines.drop (i + 1) := by
            have h1 := List.getElem?_eq_some_iff.1 Hl.out
            rw [← h1.2, List.getElem_cons_drop]
          have hLL := HL.out
          rw [e1, connF, hunk] at hLL
          have pl0 : plV s l j 0 = .int .i64 (plcI s l.uses 0) := by unfold plV plcI; split <;> rename_i h0 <;> first | rfl | (rw [List.getElem?_eq_none (by rw [← HM.out]; omega)])
          have pl1 : plV s l j 1 = .int .i64 (plcI s l.uses 1) := by unfold plV plcI; split <;> rename_i h0 <;> first | rfl | (rw [List.getElem?_eq_none (by rw [← HM.out]; omega)])
          have pl2 : plV s l j 2 = .int .i64 (plcI s l.uses 2) := by unfold plV plcI; split <;> rename_i h0 <;> first | rfl | (rw [List.getElem?_eq_none (by rw [← HM.out]; omega)])
          have PB := HI.out.pl
          rw [pl0, pl1, pl2] at PB
          have z0 : W2.cell? ⟨a3, 0, none⟩ = some (.int .i64 l.kind) := cell_row HI.out.line 0
          have la3 : a3 < W2.heap.size := (Array.getElem?_eq_some_iff.1 HI.out.line).1
          have la4 : a3 + 1 < W2.heap.size := (Array.getElem?_eq_some_iff.1 HI.out.pl).1
          have lb2 : b < W2.heap.size := (Array.getElem?_eq_some_iff.1 HI.out.cn.box).1
          have mixed := Tryd.lays161.mixed
          by_cases hk : l.kind = 0
          · have HNL : Hid (connF s (s.lines.drop (i + 1)) gs (os ++ [plcI s l.uses 0]) = FL) := by show _ = _; rw [← hLL]; simp [hk]
            have ek : (l.kind == 0) = true := by simpa using hk
            obtain ⟨p, hp⟩ : ∃ p, p = plcI s l.uses 0 := ⟨_, rfl⟩
            rw [← hp] at HNL PB
            have bWa : Below W2.heap.size W2 (W2.drew.alloc (.cells #[.int .i64 p] 3)) := ((Below.refl W2.heap.size W2).drew).alloc (Nat.le_refl _) _
            have cnA := hid (HI.out.cn.on bWa)
            have c11 : W2.drew.cell? ⟨b, 11, none⟩ = some (.slice so os.length co) := cell_row HI.out.cn.box 11
            have c11' : (W2.drew.alloc (.cells #[.int .i64 p] 3)).cell? ⟨b, 11, none⟩ = some (.slice so os.length co) := cell_row cnA.out.box 11
            have c11'' : (W2.alloc (.cells #[.int .i64 p] 3)).cell? ⟨b, 11, none⟩ = some (.slice so os.length co) := c11'
            have dp : W2.drew.cell? ⟨a3 + 1, 0, none⟩ = some (.int .i64 p) := cell_row PB 0
            have lbd : b < W2.drew.heap.size := lb2
            have lad : a3 + 1 < W2.drew.heap.size := la4
            have OWN := hid cnA.out.outs
            have CE : Hid ((W2.drew.alloc (.cells #[.int .i64 p] 3)).cell? ⟨W2.heap.size, 0, none⟩ = some (.int .i64 p)) := cell_row (heap_alloc_new W2.drew _) 0
            have HBB : Hid (w.heap.size ≤ (W2.drew.alloc (.cells #[.int .i64 p] 3)).heap.size) := cnA.out.size
            clear hk hp hLL e1 hunk PB pl0 pl1 pl2
            go_upto_region 13 with fail
            go_cut [] (fun wx => Hid (∃ ov', Cn w wx b text s x (.slice sg gs.length cg) ov' gs (os ++ [p])))
            case first =>
              go_region_law (refine step_num rfl _ _ rfl w.heap.size os.length (.slice so os.length co) (nu os) p _ rfl OWN.out rfl CE.out (by omega) HBB.out ?_; intro v6 w6 o6 g6; obtain ⟨⟨z8, e8⟩, f8, l8, nx6⟩ := cnA.out.pushOut o6 g6; obtain ⟨sv6, cv6, rfl⟩ := own_shape o6; have NX6 := hid nx6; clear nx6 o6 g6)
              all_goals (go_wp2_with fail; go_meet; exact ⟨_, NX6.out _ rfl⟩)
            case rest =>
            obtain ⟨W5, hW5⟩ : ∃ W5, W5 = wc := ⟨_, rfl⟩
            rw [← hW5] at hcut ⊢
            clear hW5 c11 c11' c11'' dp lbd lad OWN CE HBB cnA z0 la3 la4 lb2 ek
            go_wp2
            obtain ⟨ov', hC'⟩ := hcut.out
            refine ⟨⟨i + 1, _, _, gs, os ++ [p], by simp, by omega, hC', HNL.out, by omega, by simp; omega⟩, ?_⟩
            show n - ((i : Int) + 1).toNat < n - (i : Int).toNat
            omega
          · have HNL : Hid (connF s (s.lines.drop (i + 1)) (gs ++ [gaOf s l]) os = FL) := by show _ = _; rw [← hLL]; simp [hk]
            have ek : (l.kind == 0) = false := by simpa using hk
            have r0 : W2.drew.cell? ⟨a3 + 1, 0, none⟩ = some (.int .i64 (plcI s l.uses 0)) := cell_row PB 0
            have r1 : W2.drew.cell? ⟨a3 + 1, 1, none⟩ = some (.int .i64 (plcI s l.uses 1)) := cell_row PB 1
            have r2 : W2.drew.cell? ⟨a3 + 1, 2, none⟩ = some (.int .i64 (plcI s l.uses 2)) := cell_row PB 2
            have z3 : W2.cell? ⟨a3, 3, none⟩ = some (.int .i64 0) := cell_row HI.out.line 3
            have z4 : W2.cell? ⟨a3, 4, none⟩ = some (.int .i64 0) := cell_row HI.out.line 4
            have z5 : W2.cell? ⟨a3, 5, none⟩ = some (.int .i64 0) := cell_row HI.out.line 5
            have z3' : W2.drew.cell? ⟨a3, 3, none⟩ = some (.int .i64 0) := z3
            have z4' : W2.drew.cell? ⟨a3, 4, none⟩ = some (.int .i64 0) := z4
            have z5' : W2.drew.cell? ⟨a3, 5, none⟩ = some (.int .i64 0) := z5
            have y3 : W2.frozen? ⟨a3, 3, none⟩ = false := unfrozen_row HI.out.line 3
            have y4 : W2.frozen? ⟨a3, 4, none⟩ = false := unfrozen_row HI.out.line 4
            have y5 : W2.frozen? ⟨a3, 5, none⟩ = false := unfrozen_row HI.out.line 5
            have y3' : W2.drew.frozen? ⟨a3, 3, none⟩ = false := y3
            have y4' : W2.drew.frozen? ⟨a3, 4, none⟩ = false := y4
            have y5' : W2.drew.frozen? ⟨a3, 5, none⟩ = false := y5
            have lad : a3 < W2.drew.heap.size := la3
            have lad1 : a3 + 1 < W2.drew.heap.size := la4
            obtain ⟨p0, hp0⟩ : ∃ p, p = plcI s l.uses 0 := ⟨_, rfl⟩
            obtain ⟨p1, hp1⟩ : ∃ p, p = plcI s l.uses 1 := ⟨_, rfl⟩
            obtain ⟨p2, hp2⟩ : ∃ p, p = plcI s l.uses 2 := ⟨_, rfl⟩
            have HGA : Hid (gaOf s l = ⟨l.kind, ⟨l.name.toArray⟩, l.op, p0, p1, p2⟩) := by show _ = _; rw [hp0, hp1, hp2]; rfl
            rw [← hp0] at r0
            rw [← hp1] at r1
            rw [← hp2] at r2
            have r0' : W2.cell? ⟨a3 + 1, 0, none⟩ = some (.int .i64 p0) := r0
            have r1' : W2.cell? ⟨a3 + 1, 1, none⟩ = some (.int .i64 p1) := r1
            have r2' : W2.cell? ⟨a3 + 1, 2, none⟩ = some (.int .i64 p2) := r2
            have n34 : a3 + 1 ≠ a3 := by omega
            have n43 : a3 ≠ a3 + 1 := by omega
            have NXL : Hid (∀ W', W' = (((W2.setCell ⟨a3, 3, none⟩ (.int .i64 p0)).setCell ⟨a3, 4, none⟩ (.int .i64 p1)).setCell ⟨a3, 5, none⟩ (.int .i64 p2)).drew → Cn w W' b text s x (.slice sg gs.length cg) (.slice so os.length co) gs os ∧ W'.heap[a3]? = some (.cells #[.int .i64 l.kind, str l.name, .int .i64 l.op, .int .i64 p0, .int .i64 p1, .int .i64 p2, .slice su j cu] 87 (0, 0))) := fun W' hW' => by
              have e3 := row_set (i := 5) (u := .int .i64 p2) (row_set (i := 4) (u := .int .i64 p1) (row_set (i := 3) (u := .int .i64 p0) HI.out.line))
              refine ⟨HI.out.cn.put HI.out.line HI.out.le (by decide) (by decide) (by rw [hW']; simp) (fun k hk2 _ => ?_) (by rw [hW']; exact ((((Below.refl 0 W2).setCell (p := ⟨a3, 3, none⟩) (Nat.zero_le _) _).setCell (p := ⟨a3, 4, none⟩) (Nat.zero_le _) _).setCell (p := ⟨a3, 5, none⟩) (Nat.zero_le _) _).drew), ?_⟩
              · rw [hW']
                show (((W2.setCell ⟨a3, 3, none⟩ (.int .i64 p0)).setCell ⟨a3, 4, none⟩ (.int .i64 p1)).setCell ⟨a3, 5, none⟩ (.int .i64 p2)).heap[k]? = _
                rw [Below.heap_setCell _ _ _ _ (show k ≠ a3 from hk2), Below.heap_setCell _ _ _ _ (show k ≠ a3 from hk2), Below.heap_setCell _ _ _ _ (show k ≠ a3 from hk2)]
              · rw [hW']
                exact e3
            clear hk hp0 hp1 hp2 hLL e1 hunk PB pl0 pl1 pl2
            go_upto_region 14 with fail
            go_cut [] (fun wx => Hid (Cn w wx b text s x (.slice sg gs.length cg) (.slice so os.length co) gs os ∧ wx.heap[a3]? = some (.cells #[.int .i64 l.kind, str l.name, .int .i64 l.op, .int .i64 p0, .int .i64 p1, .int .i64 p2, .slice su j cu] 87 (0, 0))))
            case first =>
              go_region
              all_goals (go_wp2_with fail; go_meet; exact NXL.out _ rfl)
            case rest =>
            obtain ⟨W5, hW5⟩ : ∃ W5, W5 = wc := ⟨_, rfl⟩
            rw [← hW5] at hcut ⊢
            have cn5 := hid hcut.out.1
            have ln5 := hid hcut.out.2
            clear hW5 hcut r0 r1 r2 r0' r1' r2' z0 z3 z4 z5 z3' z4' z5' y3 y4 y5 y3' y4' y5' lad lad1 la3 la4 lb2 ek NXL HI
            obtain ⟨Wa, hWa⟩ : ∃ Wa, Wa = W5.drew.alloc (.cells #[.int .i64 l.kind, str l.name, .int .i64 l.op, .int .i64 p0, .int .i64 p1, .int .i64 p2] 57) := ⟨_, rfl⟩
            have bWa : Below W5.heap.size W5 Wa := by rw [hWa]; exact ((Below.refl W5.heap.size W5).drew).alloc (Nat.le_refl _) _
            have cnA := hid (cn5.out.on bWa)
            have v0 : W5.drew.cell? ⟨a3, 0, none⟩ = some (.int .i64 l.kind) := cell_row ln5.out 0
            have v1 : W5.drew.cell? ⟨a3, 1, none⟩ = some (str l.name) := cell_row ln5.out 1
            have v2 : W5.drew.cell? ⟨a3, 2, none⟩ = some (.int .i64 l.op) := cell_row ln5.out 2
            have v3 : W5.drew.cell? ⟨a3, 3, none⟩ = some (.int .i64 p0) := cell_row ln5.out 3
            have v4 : W5.drew.cell? ⟨a3, 4, none⟩ = some (.int .i64 p1) := cell_row ln5.out 4
            have v5 : W5.drew.cell? ⟨a3, 5, none⟩ = some (.int .i64 p2) := cell_row ln5.out 5
            have l5 : a3 < W5.drew.heap.size := (Array.getElem?_eq_some_iff.1 ln5.out).1
            have c10 : W5.drew.cell? ⟨b, 10, none⟩ = some (.slice sg gs.length cg) := cell_row cn5.out.box 10
            have lb5 : b < W5.drew.heap.size := (Array.getElem?_eq_some_iff.1 cn5.out.box).1
            have c10' : (W5.drew.alloc (.cells #[.int .i64 l.kind, .string ⟨l.name.toArray⟩, .int .i64 l.op, .int .i64 p0, .int .i64 p1, .int .i64 p2] 57)).cell? ⟨b, 10, none⟩ = some (.slice sg gs.length cg) := by have := cell_row cnA.out.box 10; rw [hWa] at this; exact this
            have c10'' : (W5.alloc (.cells #[.int .i64 l.kind, .string ⟨l.name.toArray⟩, .int .i64 l.op, .int .i64 p0, .int .i64 p1, .int .i64 p2] 57)).cell? ⟨b, 10, none⟩ = some (.slice sg gs.length cg) := c10'
            rw [hWa] at cnA
            have OWN := hid cnA.out.gates
            have CE : Hid ((W5.drew.alloc (.cells #[.int .i64 l.kind, str l.name, .int .i64 l.op, .int .i64 p0, .int .i64 p1, .int .i64 p2] 57)).heap[W5.heap.size]? = some (.cells (ga ⟨l.kind, ⟨l.name.toArray⟩, l.op, p0, p1, p2⟩).toArray 57 (0, 0))) := heap_alloc_new W5.drew _
            have HBB : Hid (w.heap.size ≤ (W5.drew.alloc (.cells #[.int .i64 l.kind, str l.name, .int .i64 l.op, .int .i64 p0, .int .i64 p1, .int .i64 p2] 57)).heap.size) := cnA.out.size
            clear hWa bWa
            go_upto_region 15 with fail
            go_region_law (refine step_gate rfl _ _ rfl w.heap.size gs.length (.slice sg gs.length cg) (gas gs) ⟨l.kind, ⟨l.name.toArray⟩, l.op, p0, p1, p2⟩ _ rfl OWN.out rfl CE.out (by omega) HBB.out ?_; intro v6 w6 o6 g6; obtain ⟨⟨z8, e8⟩, f8, l8, nx6⟩ := cnA.out.pushGate o6 g6; obtain ⟨sv6, cv6, rfl⟩ := own_shape o6; have NX6 := hid nx6; clear nx6 o6 g6)
            all_goals
              (go_wp2
               have hC' := NX6.out _ rfl
               rw [← HGA.out] at hC'
               refine ⟨⟨i + 1, _, _, gs ++ [gaOf s l], os, by simp, by omega, hC', HNL.out, by simp; omega, by omega⟩, ?_⟩
               show n - ((i : Int) + 1).toNat < n - (i : Int).toNat
               omega)
    · have hin2 : i = n := by omega
      subst hin2
      have eF : Hid (FL = (none, gs, os)) := by
        show _ = _
        rw [← hL, List.drop_of_length_le (by rw [← HN.out]; exact Nat.le_refl _)]
        rfl
      have K : Hid (Conn w W1 b text s x FL) := by show Conn _ _ _ _ _ _ _; rw [eF.out]; exact ⟨_, _, hC⟩
      clear hrel hC hL eF
      go_wp2
      first | go_end0 | refine bodyPost_end (results_none rfl _ _ _) rfl ?_
      exact ⟨⟨_, rfl⟩, K.out⟩
end Go.Proofs.YtfmmmhcpdinhgabDoor
/-
  The program's table of kinds in memory.
-/
namespace Go.Proofs.YtfmmmhcpdinhgabDoor
open Go.RowKit Go.Deep PureNet
set_option maxRecDepth 100000

def usesN (k : Nat) : Nat := if k = 2 then 2 else if k = 3 then 1 else if k = 4 then 3 else 0
def mostN (k : Nat) : Int := if k = 2 then 15 else if k = 3 then 1 else 0
/-- the table of kinds, in memory. -/
structure KindsAt (W : World) : Prop where
  pos : 3 < W.heap.size
  op : ∀ k : Nat, 1 ≤ k → k ≤ 4 → W.cell? ⟨3, k * 3 + 1, none⟩ = some (.int .i64 (mostN k))
  uses : ∀ k : Nat, 1 ≤ k → k ≤ 4 → W.cell? ⟨3, k * 3 + 2, none⟩ = some (.int .i64 (usesN k : Int))
theorem KindsAt.below {B : Nat} {w W : World} (h : KindsAt w) (hb : Below B w W) (hB : 3 < B) : KindsAt W :=
  ⟨Nat.lt_of_lt_of_le h.pos hb.size, fun k h1 h2 => (hb.cell (p := ⟨3, k * 3 + 1, none⟩) hB).trans (h.op k h1 h2), fun k h1 h2 => (hb.cell (p := ⟨3, k * 3 + 2, none⟩) hB).trans (h.uses k h1 h2)⟩
theorem KindsAt.on {w W : World} (h : KindsAt w) (hb : Below w.heap.size w W) : KindsAt W := h.below hb h.pos

end Go.Proofs.YtfmmmhcpdinhgabDoor
/-
  What a line has, and what it has not, by the program's table.
-/
namespace Go.Proofs.YtfmmmhcpdinhgabDoor
open Go.RowKit Go.Deep PureNet
set_option maxRecDepth 100000

set_option maxHeartbeats 1000000 in
theorem used_any (k : Nat) (g : Ga) (w : World) (hK : KindsAt w) (hk : g.kind = (k : Int)) (h1 : 1 ≤ k) (h4 : k ≤ 4) :
    Calls Tryd.prog 72 #[.agg #[.int .i64 g.kind, .string g.name, .int .i64 g.op, .int .i64 g.a, .int .i64 g.b, .int .i64 g.c]] w fun e w' => ∃ b, e = .returned (.slice (some ⟨b, 0, none⟩) (usesN k) 3) ∧ w.heap.size ≤ b ∧ w'.heap[b]? = some (.cells #[.int .i64 g.a, .int .i64 g.b, .int .i64 g.c] 3 (0, 0)) ∧ Below w.heap.size w w' := by
  have hu : usesN k ≤ 3 := by unfold usesN; (repeat' split) <;> omega
  obtain ⟨x, hx⟩ : ∃ x, x = w.alloc (Obj.cells #[Value.int .i64 (k : Int), .string g.name, .int .i64 g.op, .int .i64 g.a, .int .i64 g.b, .int .i64 g.c] 57) := ⟨_, rfl⟩
  have BX : Hid (Below w.heap.size w x) := by rw [hx]; exact (Below.refl _ _).alloc (Nat.le_refl _) _
  have hsz : x.heap.size = w.heap.size + 1 := by rw [hx]; simp
  have C0 : Hid (x.heap[w.heap.size]? = some (.cells #[Value.int .i64 (k : Int), .string g.name, .int .i64 g.op, .int .i64 g.a, .int .i64 g.b, .int .i64 g.c] 57 (0, 0))) := by rw [hx]; exact heap_alloc_new w _
  have KS : Hid (∀ W, Below x.heap.size x W → W.cell? ⟨w.heap.size, 0, none⟩ = some (.int .i64 (k : Int)) ∧ W.cell? ⟨w.heap.size, 3, none⟩ = some (.int .i64 g.a) ∧ W.cell? ⟨w.heap.size, 4, none⟩ = some (.int .i64 g.b) ∧ W.cell? ⟨w.heap.size, 5, none⟩ = some (.int .i64 g.c) ∧ W.cell? ⟨3, k * 3 + 2, none⟩ = some (.int .i64 (usesN k : Int))) := fun W hW => by
    have h2 := (hW.block _ (Array.getElem?_eq_some_iff.1 C0.out).1).trans C0.out
    exact ⟨cell_row h2 0, cell_row h2 3, cell_row h2 4, cell_row h2 5, ((hK.on BX.out).on hW).uses k h1 h4⟩
  have HX := hid hx
  rw [hk]
  clear hx hK hk
  go_enter Tryd.func72, Tryd.ntmps72
  go_wp2_with (rw [← HX.out])
  refine wp_region_noPanic ?_
  refine wp_region_held_drew (S := fun W => W.cell? ⟨w.heap.size, 0, none⟩ = some (.int .i64 (k : Int)) ∧ W.cell? ⟨w.heap.size, 3, none⟩ = some (.int .i64 g.a) ∧ W.cell? ⟨w.heap.size, 4, none⟩ = some (.int .i64 g.b) ∧ W.cell? ⟨w.heap.size, 5, none⟩ = some (.int .i64 g.c) ∧ W.cell? ⟨3, k * 3 + 2, none⟩ = some (.int .i64 (usesN k : Int))) (by kernel_rfl) (KS.out _ (by first | exact (Below.refl _ _).drew | exact ((Below.refl _ _).alloc (Nat.le_refl _) _).drew)) (fun hHeld => ?_)
  refine wpAnyH_take (i := 0) (v := ?_) (by simp only [List.getElem?_toArray, List.getElem?_cons_zero]; rfl) (by kernel_rfl) (by kernel_rfl) (by kernel_rfl) (fun _ _ _ h => h) (Or.inl ⟨by rfl, ?_⟩) (by assumption) ?_
  rotate_left 1
  · intro w hSw; (try dsimp only at hSw); go_simp; (try with_reducible rfl)
  try simp only [Act.put, List.setIfInBounds_toArray, List.set_cons_zero, List.set_cons_succ]
  refine wpAnyH_take (i := 1) (v := ?_) (by simp only [List.getElem?_toArray, List.getElem?_cons_succ, List.getElem?_cons_zero]; rfl) (by kernel_rfl) (by kernel_rfl) (by kernel_rfl) (fun _ _ _ h => h) (Or.inl ⟨by rfl, ?_⟩) (by assumption) ?_
  rotate_left 1
  · intro w hSw; (try dsimp only at hSw); go_simp; (try with_reducible rfl)
  try simp only [Act.put, List.setIfInBounds_toArray, List.set_cons_zero, List.set_cons_succ]
  refine wpAnyH_take (i := 2) (v := ?_) (by simp only [List.getElem?_toArray, List.getElem?_cons_succ, List.getElem?_cons_zero]; rfl) (by kernel_rfl) (by kernel_rfl) (by kernel_rfl) (fun _ _ _ h => h) (Or.inl ⟨by rfl, ?_⟩) (by assumption) ?_
  rotate_left 1
  · intro w hSw; (try dsimp only at hSw); go_simp; (try with_reducible rfl)
  try simp only [Act.put, List.setIfInBounds_toArray, List.set_cons_zero, List.set_cons_succ]
  refine wpAnyH_take (i := 3) (v := ?_) (by simp only [List.getElem?_toArray, List.getElem?_cons_succ, List.getElem?_cons_zero]; rfl) (by kernel_rfl) (by kernel_rfl) (by kernel_rfl) (fun _ _ _ h => h) (Or.inl ⟨by rfl, ?_⟩) (by assumption) ?_
  rotate_left 1
  · intro w hSw; (try dsimp only at hSw); go_simp; (try with_reducible rfl)
  try simp only [Act.put, List.setIfInBounds_toArray, List.set_cons_zero, List.set_cons_succ]
  refine wpAnyH_take (i := 4) (v := ?_) (by simp only [List.getElem?_toArray, List.getElem?_cons_succ, List.getElem?_cons_zero]; rfl) (by kernel_rfl) (by kernel_rfl) (by kernel_rfl) (fun _ _ _ h => h) (Or.inl ⟨by rfl, ?_⟩) (by assumption) ?_
  rotate_left 1
  · intro w hSw; (try dsimp only at hSw); go_simp; (try with_reducible rfl)
  try simp only [Act.put, List.setIfInBounds_toArray, List.set_cons_zero, List.set_cons_succ]
  refine wpAnyH_take (i := 5) (v := ?_) (by simp only [List.getElem?_toArray, List.getElem?_cons_succ, List.getElem?_cons_zero]; rfl) (by kernel_rfl) (by kernel_rfl) (by kernel_rfl) (fun _ _ _ h => h) (Or.inl ⟨by rfl, ?_⟩) (by assumption) ?_
  rotate_left 1
  · intro w hSw; (try dsimp only at hSw); go_simp; (try with_reducible rfl)
  try simp only [Act.put, List.setIfInBounds_toArray, List.set_cons_zero, List.set_cons_succ]
  refine wpAnyH_take (i := 7) (v := ?_) (by simp only [List.getElem?_toArray, List.getElem?_cons_succ, List.getElem?_cons_zero]; rfl) (by kernel_rfl) (by kernel_rfl) (by kernel_rfl) (fun _ _ _ h => h) (Or.inl ⟨by rfl, ?_⟩) (by assumption) ?_
  rotate_left 1
  · intro w hSw; (try dsimp only at hSw); go_simp; (try with_reducible rfl)
  try simp only [Act.put, List.setIfInBounds_toArray, List.set_cons_zero, List.set_cons_succ]
  refine wpAnyH_take (i := 8) (v := ?_) (by simp only [List.getElem?_toArray, List.getElem?_cons_succ, List.getElem?_cons_zero]; rfl) (by kernel_rfl) (by kernel_rfl) (by kernel_rfl) (fun _ _ _ h => h) (Or.inl ⟨by rfl, ?_⟩) (by assumption) ?_
  rotate_left 1
  · intro w hSw; (try dsimp only at hSw); go_simp; (try with_reducible rfl)
  try simp only [Act.put, List.setIfInBounds_toArray, List.set_cons_zero, List.set_cons_succ]
  refine wpAnyH_take (i := 9) (v := .pointer (some ⟨3, k * 3, none⟩)) (by simp only [List.getElem?_toArray, List.getElem?_cons_succ, List.getElem?_cons_zero]; rfl) (by kernel_rfl) (by kernel_rfl) (by kernel_rfl) (fun _ _ _ h => h) (Or.inl ⟨by rfl, ?_⟩) (by assumption) ?_
  · intro w hSw; (try dsimp only at hSw); (try go_simp); (intro h9; omega)
  try simp only [Act.put, List.setIfInBounds_toArray, List.set_cons_zero, List.set_cons_succ]
  refine wpAnyH_take (i := 10) (v := ?_) (by simp only [List.getElem?_toArray, List.getElem?_cons_succ, List.getElem?_cons_zero]; rfl) (by kernel_rfl) (by kernel_rfl) (by kernel_rfl) (fun _ _ _ h => h) (Or.inl ⟨by rfl, ?_⟩) (by assumption) ?_
  rotate_left 1
  · intro w hSw; (try dsimp only at hSw); go_simp; (try with_reducible rfl)
  try simp only [Act.put, List.setIfInBounds_toArray, List.set_cons_zero, List.set_cons_succ]
  refine wpAnyH_take (i := 11) (v := ?_) (by simp only [List.getElem?_toArray, List.getElem?_cons_succ, List.getElem?_cons_zero]; rfl) (by kernel_rfl) (by kernel_rfl) (by kernel_rfl) (fun _ _ _ h => h) (Or.inl ⟨by rfl, ?_⟩) (by assumption) ?_
  rotate_left 1
  · intro w hSw; (try dsimp only at hSw); go_simp; (try with_reducible rfl)
  try simp only [Act.put, List.setIfInBounds_toArray, List.set_cons_zero, List.set_cons_succ]
  refine wpAnyH_ready (rs := [6]) (by kernel_rfl) (by simp) ?_
  refine AllReadyH.cons (by simp only [List.getElem?_toArray, List.getElem?_cons_succ, List.getElem?_cons_zero]; rfl) (fun K hK => ?_) AllReadyH.nil
  go_simp
  clear hHeld
  refine hK.out _ _ (KS.out _ (by first | exact (Below.refl _ _).drew | exact ((Below.refl _ _).alloc (Nat.le_refl _) _).drew)) (fun hHeld => ?_)
  clear hK K
  try simp only [Act.put, List.setIfInBounds_toArray, List.set_cons_zero, List.set_cons_succ]
  refine wpAnyH_take (i := 12) (v := .slice (some ⟨x.heap.size, 0, none⟩) (usesN k) 3) (by simp only [List.getElem?_toArray, List.getElem?_cons_succ, List.getElem?_cons_zero]; rfl) (by kernel_rfl) (by kernel_rfl) (by kernel_rfl) (fun _ _ _ h => h) (Or.inl ⟨by rfl, ?_⟩) (by assumption) ?_
  · intro w hSw; (try dsimp only at hSw); (try go_simp); (first | done | (with_reducible rfl) | omega | (rw [if_pos (by omega), HSV.out, hsz]) | (rw [if_pos (by omega)]))
  try simp only [Act.put, List.setIfInBounds_toArray, List.set_cons_zero, List.set_cons_succ]
  refine wpAnyH_take (i := 13) (v := ?_) (by simp only [List.getElem?_toArray, List.getElem?_cons_succ, List.getElem?_cons_zero]; rfl) (by kernel_rfl) (by kernel_rfl) (by kernel_rfl) (fun _ _ _ h => h) (Or.inl ⟨by rfl, ?_⟩) (by assumption) ?_
  rotate_left 1
  · intro w hSw; (try dsimp only at hSw); go_simp; (try with_reducible rfl)
  try simp only [Act.put, List.setIfInBounds_toArray, List.set_cons_zero, List.set_cons_succ]
  refine wpAnyH_done (by kernel_rfl) ?_ _
  refine NoPanic.normal ?_
  go_wp2
  refine bodyPost_ret (v := .slice (some ⟨x.heap.size, 0, none⟩) (usesN k) 3) (by simp [results, Tryd.results72, go_sem]) rfl ⟨x.heap.size, rfl, by omega, heap_alloc_new _ _, BX.out.trans (((Below.refl x.heap.size x).alloc (Nat.le_refl _) _).drew.mono (by omega))⟩
end Go.Proofs.YtfmmmhcpdinhgabDoor
/-
  The search of the program, by lists: its state, its steps; where no line is in a circle.
-/
namespace PureNet

/-- the state of a search. -/
structure Ps where
  met : Nat → Int
  reached : Nat → Int
  part : Nat → Int
  way : List (Nat × List Nat)
  waiting : List Nat
  out : List Nat
def upd (f : Nat → Int) (x : Nat) (v : Int) : Nat → Int := fun y => if y = x then v else f y
def leanN (l : List Ga) (x : Nat) : List Nat := match l[x]? with | some g => (leansOn g).map Int.toNat | none => []
def Ps.number (s : Ps) : Int := (s.out.length : Int) + ((s.waiting.length : Int) + 1)
def Ps.meet (l : List Ga) (s : Ps) (x : Nat) : Ps := ⟨upd s.met x s.number, upd s.reached x s.number, s.part, s.way ++ [(x, leanN l x)], s.waiting ++ [x], s.out⟩
def Ps.reach (s : Ps) (x : Nat) (m : Int) : Ps := ⟨s.met, upd s.reached x (min (s.reached x) m), s.part, s.way, s.waiting, s.out⟩
def Ps.goes (s : Ps) (way : List (Nat × List Nat)) : Ps := ⟨s.met, s.reached, s.part, way, s.waiting, s.out⟩
/-- a part comes out: what waits from x on, the last first. -/
def Ps.comeOut (s : Ps) (pre post : List Nat) (x : Nat) : Ps := ⟨s.met, s.reached, fun y => if y ∈ x :: post then s.met x else s.part y, s.way, pre, s.out ++ (x :: post).reverse⟩

/-- what is in bounds. -/
structure Ps.Ok (l : List Ga) (s : Ps) : Prop where
  way : ∀ a ∈ s.way, a.1 < l.length ∧ ∀ y ∈ a.2, y < l.length
  wait : ∀ x ∈ s.waiting, x < l.length
  wayN : s.way.length ≤ l.length
  outN : s.out.length + s.waiting.length ≤ l.length
/-- what a search keeps, by a measure. -/
structure Keeps (l : List Ga) (I : Ps → Prop) (m : Ps → Nat) : Prop where
  ok : ∀ s, I s → s.Ok l
  back : ∀ s ws x, I s → s.way = ws ++ [(x, [])] → s.reached x = s.met x → ∃ pre post, s.waiting = pre ++ x :: post ∧ x ∉ post ∧ s.part x = 0 ∧ s.met x ≠ 0 ∧ I ((s.goes ws).comeOut pre post x) ∧ m ((s.goes ws).comeOut pre post x) < m s
  on : ∀ s ws x, I s → s.way = ws ++ [(x, [])] → s.reached x ≠ s.met x → ∃ vs y lf, ws = vs ++ [(y, lf)] ∧ I ((s.goes ws).reach y (s.reached x)) ∧ m ((s.goes ws).reach y (s.reached x)) < m s
  meet : ∀ s ws x y lf, I s → s.way = ws ++ [(x, y :: lf)] → s.met y = 0 → I ((s.goes (ws ++ [(x, lf)])).meet l y) ∧ m ((s.goes (ws ++ [(x, lf)])).meet l y) < m s
  again : ∀ s ws x y lf, I s → s.way = ws ++ [(x, y :: lf)] → s.met y ≠ 0 → s.part y = 0 → I ((s.goes (ws ++ [(x, lf)])).reach x (s.met y)) ∧ m ((s.goes (ws ++ [(x, lf)])).reach x (s.met y)) < m s
  past : ∀ s ws x y lf, I s → s.way = ws ++ [(x, y :: lf)] → s.met y ≠ 0 → s.part y ≠ 0 → I (s.goes (ws ++ [(x, lf)])) ∧ m (s.goes (ws ++ [(x, lf)])) < m s


theorem leanN_mem {l : List Ga} (hl : ∀ (i : Nat) (g : Ga), l[i]? = some g → ∀ a ∈ leansOn g, 0 ≤ a ∧ a < (l.length : Int)) (x y : Nat) : y ∈ leanN l x ↔ Leans l x y := by
  unfold leanN Leans
  cases h : l[x]? with
  | none => simp
  | some g =>
    simp only [List.mem_map, Option.some.injEq, exists_eq_left']
    constructor
    · rintro ⟨a, ha, rfl⟩
      rw [Int.toNat_of_nonneg (hl x g h a ha).1]
      exact ha
    · intro hy
      exact ⟨_, hy, by simp⟩
theorem leanN_len (l : List Ga) (x : Nat) : (leanN l x).length ≤ 3 := by
  unfold leanN
  cases l[x]? with
  | none => simp
  | some g =>
    simp only [List.length_map]
    unfold leansOn
    split
    · simp
    · split <;> simp
theorem few_of_nodup {n : Nat} {L : List Nat} (hn : L.Nodup) (hl : ∀ x ∈ L, x < n) : L.length ≤ n := by
  apply Classical.byContradiction
  intro hno
  have hat : ∀ k, k ≤ n → k < L.length := fun k hk => by omega
  obtain ⟨a, b, hab, hb, e⟩ := holes n (fun k => L.getD k 0) (fun k hk => by
    show L.getD k 0 < n
    rw [List.getD_eq_getElem?_getD, List.getElem?_eq_getElem (hat k hk)]
    exact hl _ (List.getElem_mem _))
  have e2 : L.getD a 0 = L.getD b 0 := e
  rw [List.getD_eq_getElem?_getD, List.getD_eq_getElem?_getD, List.getElem?_eq_getElem (hat a (by omega)), List.getElem?_eq_getElem (hat b hb)] at e2
  have := (List.getElem?_inj (hat a (by omega)) hn).1 (show L[a]? = L[b]? by rw [List.getElem?_eq_getElem (hat a (by omega)), List.getElem?_eq_getElem (hat b hb)]; exact congrArg some e2)
  omega

section
variable {l : List Ga} {P : Nat → Prop} {S0 : List Nat} {E : Nat → Prop} {s : Ps}
theorem Sr.at_last (ws : List (Nat × List Nat)) (a : Nat × List Nat) : (ws ++ [a])[ws.length]? = some a := by simp
end

end PureNet
