import Derived.Test.YtfmmmhcpdinhgabDoorZ10
/-
  Appending what another slice shows; rows of uses.
-/
namespace Go.Proofs.YtfmmmhcpdinhgabDoor
open Go.RowKit Go.Deep PureNet PureRd ShfKit
set_option maxRecDepth 100000

theorem add_addr (g o j : Nat) : Addr.add ⟨g, o, none⟩ j = ⟨g, o + j, none⟩ := by
  unfold Addr.add
  by_cases h : j = 0
  · rw [if_pos h, h]; rfl
  · rw [if_neg h]
/-- how an append leaves memory: where it stood, or in a block that is new. -/
def Far (w w' : World) (v v' : Value) : Prop := (v'.ownBlock = v.ownBlock ∧ w.grownBy w' v.ownBlock) ∨ ((∀ g, v'.ownBlock = some g → w.heap.size ≤ g) ∧ w.grownBy w' none)
theorem run_cells (w : World) (B : Nat) (t ty e : TypeId) (z : Value) (size bytes : Nat) (ht : Tryd.prog.underlying t = some (.slice e)) (hinf : (Tryd.prog.info? e).map (fun i => (i.zero, i.size, i.bytes)) = some (some z, size, bytes))
    (hzs : z.cells.size = size) (hsz : 0 < size) (v : Value) (n : Nat) (xs : List Value) (hown : w.ownsRow B e size v n xs)
    (sa : Option Addr) (m c : Nat) (news : List Value) (hl : news.length = m * size) (hc : CellsAt w sa news) (hnil : sa = none → c = 0) (h1 : ∀ u ∈ news, u.oneCell' = true) (h63 : n + m ≤ maxLen) (hbytes : (n + m) * bytes ≤ 140737488355328) (hbase : B ≤ w.heap.size) :
    ∃ v' w', (Builtin.append_ #[t, t] ty #[v, .slice sa m c]).run Tryd.prog w = .ok v' w' ∧ w'.ownsRow B e size v' (n + m) (xs ++ news) ∧ Far w w' v v' := by
  obtain ⟨i, hi, hz0, hz1, hz2⟩ := info_parts hinf
  cases sa with
  | none =>
    obtain rfl := hnil rfl
    have h0 : news = [] := by
      cases news with
      | nil => rfl
      | cons u r =>
        obtain ⟨g, o, e, _⟩ := hc.at_ 0 u rfl
        cases e
    subst h0
    have hm : m = 0 := by
      have h2 : m * size = 0 := by rw [← hl]; rfl
      rcases Nat.mul_eq_zero.1 h2 with h | h
      · exact h
      · omega
    subst hm
    refine ⟨v, w, run_append_owned_none w B t ty e i size ht hi v n xs hown, by rw [List.append_nil]; exact hown, .inl ⟨rfl, World.grownBy.refl _ _⟩⟩
  | some a =>
    refine run_append_far (P := Tryd.prog) w B t ty e i z size bytes ht hi hz0 hz1 hz2 hzs hsz v n xs hown a m c news hl (fun j u hu => ?_) h1 h63 hbytes hbase
    obtain ⟨g, o, e, _, hce⟩ := hc.at_ j u hu
    cases e
    rw [add_addr]
    exact hce
/-- in the text's order. -/
theorem wpl_cells {ops : Array Oper} {rest : List Oper} {o : Oper} {a : Act} {Q : Exit → Act → World → Prop} (w : World)
    (hg : o.guard = none) (s x : Operand) (t : TypeId) (hop : o.op = Op.call { callee := Callee.builtin Builtin.append, args := #[s, x], argTypes := #[t, t] })
    (B : Nat) (e : TypeId) (z : Value) (size bytes : Nat) (ht : Tryd.prog.underlying t = some (.slice e)) (hinf : (Tryd.prog.info? e).map (fun i => (i.zero, i.size, i.bytes)) = some (some z, size, bytes))
    (hzs : z.cells.size = size) (hsz : 0 < size) (v : Value) (n : Nat) (xs : List Value) (hs : a.eval s = v) (hown : w.ownsRow B e size v n xs)
    (sa : Option Addr) (m c : Nat) (news : List Value) (hx : a.eval x = .slice sa m c) (hl : news.length = m * size) (hc : CellsAt w sa news) (hnil : sa = none → c = 0) (h1 : ∀ u ∈ news, u.oneCell' = true) (h63 : n + m ≤ maxLen) (hbytes : (n + m) * bytes ≤ 140737488355328) (hbase : B ≤ w.heap.size)
    (hK : ∀ v' w', w'.ownsRow B e size v' (n + m) (xs ++ news) → Far w w' v v' → wpList Tryd.prog ops Q rest (a.put o.dst v') w') :
    wpList Tryd.prog ops Q (o :: rest) a w := by
  refine wpList_plain hg fun K hK' => ?_
  obtain ⟨v', w', hrun, r1, r2⟩ := run_cells w B t o.type e z size bytes ht hinf hzs hsz v n xs hown sa m c news hl hc hnil h1 h63 hbytes hbase
  unfold Oper.wp
  simp [execOp, hop, resolve, invoke, builtin, hs, hx, hrun, Result.andThen]
  exact hK' _ _ (hK v' w' r1 r2)
theorem Far.grown {w W : World} {v v' : Value} (h : Far w W v v') : w.grownBy W v.ownBlock := by
  rcases h with ⟨_, g⟩ | ⟨_, g⟩
  · exact g
  · exact ⟨g.os, g.tape, g.output, g.size, fun k hk _ => g.block k hk (by simp)⟩
theorem Far.blk {w W : World} {v v' : Value} (h : Far w W v v') : ∀ g, v'.ownBlock = some g → v.ownBlock = some g ∨ w.heap.size ≤ g := fun g hg => by
  rcases h with ⟨e, _⟩ | ⟨e, _⟩
  · exact .inl (e ▸ hg)
  · exact .inr (e g hg)
theorem usC_len (text : List UInt8) (us : List Us) : (usC text us).length = us.length * 5 := by
  induction us with
  | nil => rfl
  | cons u t ih =>
    have : usC text (u :: t) = usC1 text u ++ usC text t := by simp [usC]
    rw [this, List.length_append, ih, List.length_cons]
    simp [usC1, spI]
    omega
theorem usC_one (text : List UInt8) (us : List Us) : ∀ u ∈ usC text us, u.oneCell' = true := fun u hu => by
  obtain ⟨x, _, hx⟩ := List.mem_flatMap.1 hu
  simp only [usC1, spI, List.mem_append, List.mem_cons, List.not_mem_nil, or_false] at hx
  rcases hx with (rfl | rfl | rfl) | rfl | rfl <;> rfl
theorem usOf_len (g : Int) (us : List Wd) : (usOf g us).length = us.length := by simp [usOf]
theorem usOf_snoc (g : Int) (us : List Wd) (z : Wd) : usOf g (us ++ [z]) = usOf g us ++ [⟨z, g, (us.length : Int)⟩] := by simp [usOf, List.zipIdx_append]
end Go.Proofs.YtfmmmhcpdinhgabDoor
/-
  The document's reading: the end of an item.
-/
namespace Go.Proofs.YtfmmmhcpdinhgabDoor
open Go.RowKit Go.Deep PureNet PureRd
set_option maxRecDepth 100000

theorem chk_nm (T : Nat → List UInt8) (s : Rs) : ∀ (cs : List UInt8) (l : Wd) (t : List Wd) (it : It) (r : Option (Int × Nat)) (jt : It), (110 : UInt8) ∉ cs → chk T s cs l t it = (r, jt) → jt.nm = it.nm
  | [], l, t, it, r, jt, _, h => by
    rw [chk] at h
    simp only [Prod.mk.injEq] at h
    rw [← h.2]
  | c :: cs, l, [], it, r, jt, _, h => by
    rw [chk] at h
    simp only [Prod.mk.injEq] at h
    rw [← h.2]
  | c :: cs, l, y :: t, it, r, jt, hn, h => by
    have hc : c ≠ 110 := fun e => hn (by rw [e]; simp)
    have hn2 : (110 : UInt8) ∉ cs := fun e => hn (List.mem_cons_of_mem _ e)
    rw [chk, if_neg hc] at h
    split at h
    · split at h
      · simp only [Prod.mk.injEq] at h; rw [← h.2]
      · exact (chk_nm T s cs y t _ r jt hn2 h).trans rfl
    · split at h
      · split at h
        · simp only [Prod.mk.injEq] at h; rw [← h.2]
        · exact (chk_nm T s cs y t _ r jt hn2 h).trans rfl
      · split at h
        · exact (chk_nm T s cs y t _ r jt hn2 h).trans rfl
        · simp only [Prod.mk.injEq] at h; rw [← h.2]
theorem form_head {k : List UInt8} (hw : formW k ≠ []) (ho : k ≠ outW) : ∃ cs, formW k = 110 :: cs ∧ (110 : UInt8) ∉ cs := by
  unfold formW at hw ⊢
  by_cases a1 : k = [105, 110, 112, 117, 116]
  · rw [if_pos a1]; exact ⟨[], rfl, by simp⟩
  by_cases a2 : k = [103, 97, 116, 101]
  · rw [if_neg a1, if_pos a2]; exact ⟨_, rfl, by decide⟩
  by_cases a3 : k = [109, 117, 120]
  · rw [if_neg a1, if_neg a2, if_pos a3]; exact ⟨_, rfl, by decide⟩
  by_cases a4 : k = [108, 97, 116, 99, 104]
  · rw [if_neg a1, if_neg a2, if_neg a3, if_pos a4]; exact ⟨_, rfl, by decide⟩
  rw [if_neg a1, if_neg a2, if_neg a3, if_neg a4, if_neg ho] at hw
  exact absurd rfl hw
theorem form_u {k : List UInt8} {i : Nat} {c : UInt8} {cs : List UInt8} (h : (formW k).drop i = c :: cs) (h1 : c ≠ 110) (h2 : c ≠ 111) (h3 : c ≠ 102) : c = 117 := by
  have hm : c ∈ formW k := List.mem_of_mem_drop (by rw [h]; simp)
  have key : ∀ f ∈ [[110], [110, 111, 117, 117], [110, 117, 117, 117], [110, 102, 117], [117], ([] : List UInt8)], ∀ c ∈ f, c = 110 ∨ c = 111 ∨ c = 102 ∨ c = 117 := by decide
  rcases key _ (formW_is k) c hm with e | e | e | e
  · exact absurd e h1
  · exact absurd e h2
  · exact absurd e h3
  · exact e
theorem chk_fresh (T : Nat → List UInt8) {s : Rs} {k : List UInt8} (hw : formW k ≠ []) (ho : k ≠ outW) {y : Wd} {t : List Wd} {jt : It} (h : chk T s (formW k) y t it0 = (none, jt)) : placeOf s jt.nm = none := by
  obtain ⟨cs, e, hn⟩ := form_head hw ho
  rw [e] at h
  cases t with
  | nil => rw [chk] at h; simp at h
  | cons z u =>
    rw [chk, if_pos rfl] at h
    split at h
    · split at h
      · simp at h
      · next hp =>
        rw [chk_nm T s cs z u _ none jt hn h]
        simpa using hp
    · simp at h

/-- an item's end: the reading, the answer's block, the line's block, its name's place. -/
structure Te (w W WL : World) (r : Nat) (text : List UInt8) (d : Db) (x : Dx) (q1 q2 q3 : Value) (kd : Int) (nm : List UInt8) (op p q : Int) : Prop where
  dr : Dr w WL r text d x
  r30 : WL.heap[W.heap.size + 1]? = some (.cells #[.int .i64 0, .int .i64 0, .int .i64 0] 30 (0, 0))
  r71 : WL.heap[W.heap.size + 1 + 1]? = some (.cells #[q1, q2, q3] 71 (0, 0))
  rg : WL.heap[W.heap.size + 1 + 1 + 1]? = some (.cells #[.int .i64 kd, str nm, .int .i64 op, .int .i64 0, .int .i64 0, .int .i64 0] 57 (0, 0))
  rn : WL.heap[W.heap.size + 1 + 1 + 1 + 1]? = some (.cells #[.int .i64 p, .int .i64 q] 28 (0, 0))
  bl : Below w.heap.size W WL
  kp : Kp W WL
theorem Kp.grow {W WL w6 : World} {B e size n : Nat} {v : Value} {xs : List Value} (h : Kp W WL) (ho : WL.ownsRow B e size v n xs) (he : e ≠ 25 ∧ e ≠ 30 ∧ e ≠ 53 ∧ e ≠ 71) (g6 : WL.grownBy w6 v.ownBlock) : Kp W w6 := fun k c ty fz hk ht => by
  have h1 := h k c ty fz hk ht
  rw [← h1]
  have h2 := h1.trans hk
  refine g6.block k (Array.getElem?_eq_some_iff.1 h2).1 (fun e2 => own_ne ho h2 ?_ e2.symm)
  rcases ht with rfl | rfl | rfl | rfl
  · exact Ne.symm he.1
  · exact Ne.symm he.2.1
  · exact Ne.symm he.2.2.1
  · exact Ne.symm he.2.2.2
section
variable {w W WL w6 : World} {r : Nat} {text : List UInt8} {d d0 : Db} {x x0 : Dx} {q1 q2 q3 : Value} {kd op p q : Int} {nm : List UInt8}
theorem Te.size (h : Te w W WL r text d x q1 q2 q3 kd nm op p q) : W.heap.size + 5 ≤ WL.heap.size := (Array.getElem?_eq_some_iff.1 h.rn).1
/-- blocks of the item stay; the reading goes on. -/
theorem Te.go (h : Te w W WL r text d x q1 q2 q3 kd nm op p q) {WL' : World} {d' : Db} {x' : Dx} (hd : Dr w WL' r text d' x') (hk : ∀ k, W.heap.size ≤ k → k < W.heap.size + 5 → WL'.heap[k]? = WL.heap[k]?) (hb : Below w.heap.size WL WL') (hkp : Kp W WL') : Te w W WL' r text d' x' q1 q2 q3 kd nm op p q :=
  ⟨hd, (hk _ (by omega) (by omega)).trans h.r30, (hk _ (by omega) (by omega)).trans h.r71, (hk _ (by omega) (by omega)).trans h.rg, (hk _ (by omega) (by omega)).trans h.rn, h.bl.trans hb, hkp⟩
theorem Te.on (h : Te w W WL r text d x q1 q2 q3 kd nm op p q) (hb : Below WL.heap.size WL w6) : Te w W w6 r text d x q1 q2 q3 kd nm op p q :=
  h.go (h.dr.on hb) (fun k h1 h2 => hb.block k (by have := h.size; omega)) (hb.mono (Nat.le_trans h.dr.below.size (Nat.le_refl _))) (h.kp.trans (kp_below hb))
/-- a row of the reading grows; then a cell of the reading is written. -/
theorem Te.grow (h : Te w W WL r text d x q1 q2 q3 kd nm op p q) (h0 : Dr w W r text d0 x0) {e size n i : Nat} {v u : Value} {xs : List Value} {d' : Db} {x' : Dx} (ho : WL.ownsRow w.heap.size e size v n xs) (he : e ≠ 25 ∧ e ≠ 30 ∧ e ≠ 53 ∧ e ≠ 71) (hlt : ∀ b, v.ownBlock = some b → b < W.heap.size) (g6 : WL.grownBy w6 v.ownBlock) (hd : Dr w (w6.setCell ⟨r, i, none⟩ u) r text d' x') : Te w W (w6.setCell ⟨r, i, none⟩ u) r text d' x' q1 q2 q3 kd nm op p q := by
  have hs := h.size
  have hr := h0.size
  refine h.go hd (fun k h1 h2 => (Below.heap_setCell w6 _ _ _ (by show k ≠ r; omega)).trans (g6.block k (by omega) (fun e => by have := hlt k e.symm; omega))) (((Below.refl _ _).grown g6 h.dr.below.size (fun j hj => (ho.lt j hj).1)).setCell (p := ⟨r, i, none⟩) h0.low _) ((h.kp.grow ho he g6).at49 h0.box)
theorem Te.use (h : Te w W WL r text d x q1 q2 q3 kd nm op p q) (h0 : Dr w W r text d0 x) {v6 : Value} {us : List Us} (o6 : w6.ownsRow w.heap.size 74 5 v6 (d.us.length + us.length) (usC text d.us ++ usC text us)) (g6 : WL.grownBy w6 x.uv.ownBlock) :
    w6.heap[r]? = some (.cells (rcells d x) 49 (0, 0)) ∧ Te w W (w6.setCell ⟨r, 5, none⟩ v6) r text { d with us := d.us ++ us } { x with uv := v6 } q1 q2 q3 kd nm op p q :=
  ⟨(h.dr.use o6 g6).1, h.grow h0 h.dr.uses (by decide) (fun b hb => (h0.uses.lt b hb).2) g6 (h.dr.use o6 g6).2⟩
theorem Te.gate (h : Te w W WL r text d x q1 q2 q3 kd nm op p q) (h0 : Dr w W r text d0 x0) (hx : x.gv = x0.gv) {v6 : Value} {g : Ga} (o6 : w6.ownsRow w.heap.size 57 6 v6 (d.gs.length + 1) (gas d.gs ++ ga g)) (g6 : WL.grownBy w6 x.gv.ownBlock) :
    w6.heap[r]? = some (.cells (rcells d x) 49 (0, 0)) ∧ Te w W (w6.setCell ⟨r, 1, none⟩ v6) r text { d with gs := d.gs ++ [g] } { x with gv := v6 } q1 q2 q3 kd nm op p q :=
  ⟨(h.dr.gate o6 g6).1, h.grow h0 h.dr.gates (by decide) (fun b hb => (h0.gates.lt b (hx ▸ hb)).2) g6 (h.dr.gate o6 g6).2⟩
theorem Te.at_ (h : Te w W WL r text d x q1 q2 q3 kd nm op p q) (h0 : Dr w W r text d0 x0) (hx : x.av = x0.av) {v6 : Value} {pp : Nat} (o6 : w6.ownsRow w.heap.size 28 2 v6 (d.ats.length + 1) (atC text d.ats ++ spI text pp)) (g6 : WL.grownBy w6 x.av.ownBlock) :
    w6.heap[r]? = some (.cells (rcells d x) 49 (0, 0)) ∧ Te w W (w6.setCell ⟨r, 4, none⟩ v6) r text { d with ats := d.ats ++ [pp] } { x with av := v6 } q1 q2 q3 kd nm op p q :=
  ⟨(h.dr.at_ o6 g6).1, h.grow h0 h.dr.ats (by decide) (fun b hb => (h0.ats.lt b (hx ▸ hb)).2) g6 (h.dr.at_ o6 g6).2⟩
theorem Te.outp (h : Te w W WL r text d x q1 q2 q3 kd nm op p q) (h0 : Dr w W r text d0 x0) (hx : x.ov = x0.ov) {v6 : Value} (o6 : w6.ownsRow w.heap.size 3 1 v6 (d.outs + 1) (List.replicate d.outs (.int .i64 0) ++ [.int .i64 0])) (g6 : WL.grownBy w6 x.ov.ownBlock) (f6 : ∀ g, v6.ownBlock = some g → x.ov.ownBlock = some g ∨ WL.heap.size ≤ g) :
    w6.heap[r]? = some (.cells (rcells d x) 49 (0, 0)) ∧ Te w W (w6.setCell ⟨r, 2, none⟩ v6) r text { d with outs := d.outs + 1 } { x with ov := v6 } q1 q2 q3 kd nm op p q :=
  ⟨(h.dr.out o6 g6 f6).1, h.grow h0 h.dr.outs (by decide) (fun b hb => (h0.outs.lt b (hx ▸ hb)).2) g6 (h.dr.out o6 g6 f6).2⟩
/-- the table of names has one more. -/
theorem Te.add (h : Te w W WL r text d x q1 q2 q3 kd nm op p q) (h0 : Dr w W r text d0 x0) (hx : x.nv = x0.nv ∧ x.pv = x0.pv ∧ x.kb = x0.kb) {nv' pv' : Value} {i : Nat} {pn : Nat} {a : List UInt8} (ha : d.pl a = none) (hi : Spot x.N ⟨a.toArray⟩ i)
    (k : Kn ⟨w, WL, x.nv, x.pv⟩ w6 x.kb nv' pv' (x.N.take i ++ ⟨a.toArray⟩ :: x.N.drop i) (x.P.take i ++ (pn : Int) :: x.P.drop i)) :
    Te w W w6 r text { d with pl := fun b => if b = a then some pn else d.pl b, nn := d.nn + 1 } { x with nv := nv', pv := pv', N := x.N.take i ++ ⟨a.toArray⟩ :: x.N.drop i, P := x.P.take i ++ (pn : Int) :: x.P.drop i } q1 q2 q3 kd nm op p q := by
  have hs := h.size
  have hr := h0.size
  have hni := h.dr.fresh ha
  have hkb := h0.ksize
  have hl := hi.le
  have hPl := h.dr.hPl
  have fr : ∀ g, g < WL.heap.size → g ≠ x.kb → x.nv.ownBlock ≠ some g → x.pv.ownBlock ≠ some g → w6.heap[g]? = WL.heap[g]? := k.fr
  have hd := h.dr.added k (by simp only [List.length_append, List.length_cons, List.length_take, List.length_drop, hPl]) (h.dr.rise.insert hi hni) ⟨by simp only [List.length_append, List.length_cons, List.length_take, List.length_drop]; omega, fun z hz => by
      rcases List.mem_append.1 hz with hz | hz
      · exact h.dr.nn.2 z (List.mem_of_mem_take hz)
      · rcases List.mem_cons.1 hz with hz | hz
        · rw [hz]; omega
        · exact h.dr.nn.2 z (List.mem_of_mem_drop hz)⟩ (pl' := fun b => if b = a then some pn else d.pl b) (fun b => by
      rw [placeN_ins (pn : Int) h.dr.rise hi hni hPl]
      by_cases hb : b = a
      · rw [if_pos (by rw [hb])]
        show _ = plI (if b = a then some pn else d.pl b)
        rw [if_pos hb]
        rfl
      · rw [if_neg (fun e => hb (by simpa using congrArg (fun z : ByteArray => z.data.toList) e))]
        show _ = plI (if b = a then some pn else d.pl b)
        rw [if_neg hb]
        exact h.dr.pl b)
  have kk : Kp WL w6 := fun j c ty fz hj ht => by
    refine fr j (Array.getElem?_eq_some_iff.1 hj).1 (fun e => ?_) (fun e => ?_) (fun e => ?_)
    · have h1 := h.dr.krow
      rw [← e, hj] at h1
      simp at h1
      rw [h1.2.1] at ht
      exact absurd ht (by decide)
    · exact own_ne h.dr.kon hj (fun e => by rw [e] at ht; exact absurd ht (by decide)) e
    · exact own_ne h.dr.kop hj (fun e => by rw [e] at ht; exact absurd ht (by decide)) e
  refine h.go hd (fun j h1 h2 => fr j (by omega) (by rw [hx.2.2]; omega) (fun e => ?_) (fun e => ?_)) ?_ (h.kp.trans kk)
  · rw [hx.1] at e
    have := (h0.kon.lt j e).2
    omega
  · rw [hx.2.1] at e
    have := (h0.kop.lt j e).2
    omega
  · have hb := k.below
    have hb0 := h.dr.below
    refine ⟨hb.os.trans hb0.os.symm, hb.tape.trans hb0.tape.symm, hb.output.trans hb0.output.symm, k.sz, fun j hj => ?_⟩
    exact (hb.block j hj).trans (hb0.block j hj).symm
/-- the line's kind. -/
theorem Te.kind (h : Te w W WL r text d x q1 q2 q3 kd nm op p q) (h0 : Dr w W r text d0 x0) (hx : x.gv = x0.gv ∧ x.kb = x0.kb) (k2 : Int) : Te w W (WL.setCell ⟨W.heap.size + 1 + 1 + 1, 0, none⟩ (.int .i64 k2)) r text d x q1 q2 q3 k2 nm op p q := by
  have hr := h0.size
  have hkb := h0.ksize
  have hlo := h0.below.size
  have keep : ∀ {e size n1 : Nat} {v : Value} {xs : List Value}, WL.ownsRow w.heap.size e size v n1 xs → e ≠ 57 → (WL.setCell ⟨W.heap.size + 1 + 1 + 1, 0, none⟩ (.int .i64 k2)).ownsRow w.heap.size e size v n1 xs := fun ho h2 => ownsRow_store2 ho h.rg (Ne.symm h2)
  have ne : ∀ j, j ≠ W.heap.size + 1 + 1 + 1 → (WL.setCell ⟨W.heap.size + 1 + 1 + 1, 0, none⟩ (.int .i64 k2)).heap[j]? = WL.heap[j]? := fun j hj => Below.heap_setCell WL _ _ _ hj
  have hd : Dr w (WL.setCell ⟨W.heap.size + 1 + 1 + 1, 0, none⟩ (.int .i64 k2)) r text d x :=
    ⟨(ne r (by omega)).trans h.dr.box, h.dr.low, (ne x.kb (by rw [hx.2]; omega)).trans h.dr.krow, h.dr.klow, keep h.dr.kon (by decide), keep h.dr.kop (by decide), ShfKit.own_kept h.dr.gates (fun g hg => ne g (by have := (h0.gates.lt g (hx.1 ▸ hg)).2; omega)), keep h.dr.outs (by decide), keep h.dr.ats (by decide), keep h.dr.uses (by decide), h.dr.two, h.dr.hPl, h.dr.rise, h.dr.pl, h.dr.below.setCell (p := ⟨W.heap.size + 1 + 1 + 1, 0, none⟩) (show w.heap.size ≤ W.heap.size + 1 + 1 + 1 by omega) _, h.dr.nn⟩
  exact ⟨hd, (ne _ (by omega)).trans h.r30, (ne _ (by omega)).trans h.r71, by have := row_set (i := 0) (u := .int .i64 k2) h.rg; simpa using this, (ne _ (by omega)).trans h.rn, h.bl.setCell (p := ⟨W.heap.size + 1 + 1 + 1, 0, none⟩) (show w.heap.size ≤ W.heap.size + 1 + 1 + 1 by omega) _, h.kp.new (by omega)⟩
end
end Go.Proofs.YtfmmmhcpdinhgabDoor
/-
  The document's reading: the end of an item, walked.
-/
namespace Go.Proofs.YtfmmmhcpdinhgabDoor
open Go.RowKit Go.Deep PureNet PureRd
set_option maxRecDepth 100000

def cdHead : Code → Option Nat
  | .region n _ _ => some n
  | .seq a _ => cdHead a
  | _ => none
/-- the code from a region on. -/
def tailReg (n : Nat) : Code → Option Code
  | .seq a b => match tailReg n b with
    | some c => some c
    | none => if cdHead a = some n then some (.seq a b) else none
  | _ => none
set_option maxHeartbeats 8000000 in
theorem item_tail (T : Nat → List UInt8) (w W W8 : World) (r ng : Nat) (text : List UInt8) (s : Rs) (x : Dx) (y : Wd) (t : List Wd) (it : It) (p q kw : Int) (ll : Wd) (sv6 : Option Addr) (cv6 : Nat) (q1 q2 q3 : Value)
    (H0 : Hid (Dr w W r text (dOf s) x)) (TE8 : Hid (Te w W W8 r text { dOf s with us := (dOf s).us ++ usOf (ng : Int) it.us } { x with uv := .slice sv6 ((dOf s).us.length + it.us.length) cv6 } q1 q2 q3 kw it.nm it.op p q)) (HNP : Hid (placeOf s it.nm = none)) (HPP : Hid ([Value.int .i64 p, .int .i64 q] = spI text it.pos)) (HLL : Hid (lineF T (y :: t) s = added kw s ll it)) (HK0 : Hid (kw ≠ 0)) (HG : Hid ((gatesOf s.lines).length = s.names.length)) (HSM : Hid (s.names.length ≤ 65536)) (HNG : Hid (ng = (dOf s).gs.length)) (HF : Hid (s.fault = none)) (hN : x.N.length ≤ 65536) (HW : Hid (w.heap.size ≤ W.heap.size))
    (u1 u2 u3 u5 u6 u7 u11 u12 u13 u14 u15 u16 u17 u18 u19 u20 u21 u22 u23 u24 u25 u26 u27 u28 u29 u30 u31 u32 u33 u34 u35 u36 u37 u38 u39 u40 u41 u42 u43 u44 u45 u46 u47 u48 u49 u50 u51 u52 u53 u54 u55 u56 u57 u58 u59 u60 u61 u62 u63 u64 u65 u66 u67 u68 u69 u70 u71 u72 u73 u74 u75 u76 u77 u78 u79 u80 u81 u82 u83 u84 u85 u86 u87 u88 u89 u90 u91 u92 u93 u94 u95 u96 u97 u98 u99 u100 u101 u102 u103 u104 u105 u106 u107 u108 u109 u110 u111 u112 u113 u114 u115 u116 u117 u118 u119 u120 u121 u122 u123 u124 u125 u126 u127 u128 u129 u130 u131 u132 u133 u134 u135 u136 u137 u138 u139 u140 u141 u142 u143 u144 u145 u146 u147 u148 u149 u150 u151 u152 u153 u154 u155 u156 u157 u158 u159 u160 u161 u162 u163 u164 u165 u166 u167 u168 u169 u170 u171 u172 u173 u174 u175 u176 u177 u178 u179 u180 u181 u182 u183 u184 u185 u186 u187 u188 u189 u190 u191 u192 u193 u194 u195 u196 u197 u198 u199 u200 u201 u202 u203 u204 u205 u206 u207 u208 u209 u210 u211 u212 u213 u214 u215 u216 u217 u218 u219 u220 u221 u222 u223 u224 u225 u226 u227 u228 u229 u230 u231 : Value) :
    Code.wp Tryd.prog ((Tryd.f21.body.bind (tailReg 52)).getD .skip) (bodyPost Tryd.prog Tryd.f21 (LineIs w W r text (lineF T (y :: t) s))) { tmps := #[.pointer (some ⟨r, 0, none⟩), u1, u2, u3, .pointer (some ⟨W.heap.size + 1, 0, none⟩), u5, u6, u7, .pointer (some ⟨W.heap.size + 1 + 1 + 1, 0, none⟩), .int .i64 (ng : Int), .pointer (some ⟨W.heap.size + 1 + 1 + 1 + 1, 0, none⟩), u11, u12, u13, u14, u15, u16, u17, u18, u19, u20, u21, u22, u23, u24, u25, u26, u27, u28, u29, u30, u31, u32, u33, u34, u35, u36, u37, u38, u39, u40, u41, u42, u43, u44, u45, u46, u47, u48, u49, u50, u51, u52, u53, u54, u55, u56, u57, u58, u59, u60, u61, u62, u63, u64, u65, u66, u67, u68, u69, u70, u71, u72, u73, u74, u75, u76, u77, u78, u79, u80, u81, u82, u83, u84, u85, u86, u87, u88, u89, u90, u91, u92, u93, u94, u95, u96, u97, u98, u99, u100, u101, u102, u103, u104, u105, u106, u107, u108, u109, u110, u111, u112, u113, u114, u115, u116, u117, u118, u119, u120, u121, u122, u123, u124, u125, u126, u127, u128, u129, u130, u131, u132, u133, u134, u135, u136, u137, u138, u139, u140, u141, u142, u143, u144, u145, u146, u147, u148, u149, u150, u151, u152, u153, u154, u155, u156, u157, u158, u159, u160, u161, u162, u163, u164, u165, u166, u167, u168, u169, u170, u171, u172, u173, u174, u175, u176, u177, u178, u179, u180, u181, u182, u183, u184, u185, u186, u187, u188, u189, u190, u191, u192, u193, u194, u195, u196, u197, u198, u199, u200, u201, u202, u203, u204, u205, u206, u207, u208, u209, u210, u211, u212, u213, u214, u215, u216, u217, u218, u219, u220, u221, u222, u223, u224, u225, u226, u227, u228, u229, u230, u231], defers := [] } W8 := by
  have ADD := hid (fun W3 (h3 : Dr w W3 r text { dOf s with us := (dOf s).us ++ usOf (ng : Int) it.us } { x with uv := .slice sv6 ((dOf s).us.length + it.us.length) cv6 }) => add_any x.kb x.nv x.pv x.N x.P ⟨it.nm.toArray⟩ (ng : Int) ⟨w, W3, x.nv, x.pv⟩ W3 h3.kn h3.hPl h3.rise (by omega))
  have S8 : W8.drew.cell? ⟨r, 3, none⟩ = some (.pointer (some ⟨x.kb, 0, none⟩)) ∧ W8.drew.cell? ⟨W.heap.size + 1 + 1 + 1, 1, none⟩ = some (str it.nm) := ⟨(cell_row TE8.out.dr.box 3).trans rfl, (cell_row TE8.out.rg 1).trans rfl⟩
  have hs8 := TE8.out.size
  have hr8 := TE8.out.dr.size
  conv in (Option.getD _ _) => whnf
  try dsimp only
  go_upto_region 52 with fail
  go_cut [] (fun wx => Hid (∃ nv9 pv9 N9 P9, Te w W wx r text { { dOf s with us := (dOf s).us ++ usOf (ng : Int) it.us } with pl := fun b => if b = it.nm then some ng else placeOf s b, nn := (dOf s).nn + 1 } { { x with uv := .slice sv6 ((dOf s).us.length + it.us.length) cv6 } with nv := nv9, pv := pv9, N := N9, P := P9 } q1 q2 q3 kw it.nm it.op p q))
  case first =>
    refine wp_region_noPanic ?_
    refine wp_region_held_drew (S := fun W3 => W3.cell? ⟨r, 3, none⟩ = some (.pointer (some ⟨x.kb, 0, none⟩)) ∧ W3.cell? ⟨W.heap.size + 1 + 1 + 1, 1, none⟩ = some (str it.nm)) (by kernel_rfl) S8 (fun hHeld => ?_)
    refine wpAnyH_take (i := 0) (v := ?_) (by simp only [List.getElem?_toArray, List.getElem?_cons_zero]; rfl) (by kernel_rfl) (by kernel_rfl) (by kernel_rfl) (fun _ _ _ h => h) (Or.inl ⟨by rfl, ?_⟩) (by assumption) ?_
    rotate_left 1
    · intro w hSw; (try dsimp only at hSw); go_simp; (try with_reducible rfl)
    try simp only [Act.put, List.setIfInBounds_toArray, List.set_cons_zero, List.set_cons_succ]
    refine wpAnyH_take (i := 1) (v := ?_) (by simp only [List.getElem?_toArray, List.getElem?_cons_succ, List.getElem?_cons_zero]; rfl) (by kernel_rfl) (by kernel_rfl) (by kernel_rfl) (fun _ _ _ h => h) (Or.inl ⟨by rfl, ?_⟩) (by assumption) ?_
    rotate_left 1
    · intro w hSw; (try dsimp only at hSw); go_simp; (try with_reducible rfl)
    try simp only [Act.put, List.setIfInBounds_toArray, List.set_cons_zero, List.set_cons_succ]
    refine wpAnyH_take (i := 2) (v := ?_) (by simp only [List.getElem?_toArray, List.getElem?_cons_succ, List.getElem?_cons_zero]; rfl) (by kernel_rfl) (by kernel_rfl) (by kernel_rfl) (fun _ _ _ h => h) (Or.inl ⟨by rfl, ?_⟩) (by assumption) ?_
    rotate_left 1
    · intro w hSw; (try dsimp only at hSw); go_simp; (try with_reducible rfl)
    try simp only [Act.put, List.setIfInBounds_toArray, List.set_cons_zero, List.set_cons_succ]
    refine wpAnyH_take (i := 3) (v := ?_) (by simp only [List.getElem?_toArray, List.getElem?_cons_succ, List.getElem?_cons_zero]; rfl) (by kernel_rfl) (by kernel_rfl) (by kernel_rfl) (fun _ _ _ h => h) (Or.inl ⟨by rfl, ?_⟩) (by assumption) ?_
    rotate_left 1
    · intro w hSw; (try dsimp only at hSw); go_simp; (try with_reducible rfl)
    try simp only [Act.put, List.setIfInBounds_toArray, List.set_cons_zero, List.set_cons_succ]
    refine wpAnyH_take (i := 4) (v := ?_) (by simp only [List.getElem?_toArray, List.getElem?_cons_succ, List.getElem?_cons_zero]; rfl) (by kernel_rfl) (by kernel_rfl) (by kernel_rfl) (fun _ _ _ h => h) (Or.inl ⟨by rfl, ?_⟩) (by assumption) ?_
    rotate_left 1
    · intro w hSw; (try dsimp only at hSw); go_simp; (try with_reducible rfl)
    try simp only [Act.put, List.setIfInBounds_toArray, List.set_cons_zero, List.set_cons_succ]
    refine wpAnyH_take (i := 5) (v := ?_) (by simp only [List.getElem?_toArray, List.getElem?_cons_succ, List.getElem?_cons_zero]; rfl) (by kernel_rfl) (by kernel_rfl) (by kernel_rfl) (fun _ _ _ h => h) (Or.inl ⟨by rfl, ?_⟩) (by assumption) ?_
    rotate_left 1
    · intro w hSw; (try dsimp only at hSw); go_simp; (try with_reducible rfl)
    try simp only [Act.put, List.setIfInBounds_toArray, List.set_cons_zero, List.set_cons_succ]
    refine wpAnyH_take (i := 6) (v := ?_) (by simp only [List.getElem?_toArray, List.getElem?_cons_succ, List.getElem?_cons_zero]; rfl) (by kernel_rfl) (by kernel_rfl) (by kernel_rfl) (fun _ _ _ h => h) (Or.inl ⟨by rfl, ?_⟩) (by assumption) ?_
    rotate_left 1
    · intro w hSw; (try dsimp only at hSw); go_simp; (try with_reducible rfl)
    try simp only [Act.put, List.setIfInBounds_toArray, List.set_cons_zero, List.set_cons_succ]
    refine wpAnyH_ready (rs := [7]) (by kernel_rfl) (by simp) ?_
    refine AllReadyH.cons (by simp only [List.getElem?_toArray, List.getElem?_cons_succ, List.getElem?_cons_zero]; rfl) (fun K hK => ?_) AllReadyH.nil
    go_simp
    go_at_call 41
    refine (ADD.out _ (TE8.out.on (Below.refl _ _).drew).dr).mono ?_
    rintro e w9 ⟨⟨v9, rfl⟩, nv9, pv9, i9, sp9, k9⟩
    have TE9 := hid ((TE8.out.on (Below.refl _ _).drew).add H0.out ⟨rfl, rfl, rfl⟩ HNP.out sp9 k9)
    have hs9 := TE9.out.size
    clear sp9 k9
    have S9 : w9.cell? ⟨r, 3, none⟩ = some (.pointer (some ⟨x.kb, 0, none⟩)) ∧ w9.cell? ⟨W.heap.size + 1 + 1 + 1, 1, none⟩ = some (str it.nm) := ⟨(cell_row TE9.out.dr.box 3).trans rfl, (cell_row TE9.out.rg 1).trans rfl⟩
    clear hHeld
    refine hK.out _ _ S9 (fun hHeld => ?_)
    clear hK K
    try simp only [Act.put, List.setIfInBounds_toArray, List.set_cons_zero, List.set_cons_succ]
    refine wpAnyH_done (by kernel_rfl) ?_ _
    refine NoPanic.normal ?_
    all_goals (go_wp2_with fail; go_meet; exact ⟨_, _, _, _, TE9.out⟩)
  case rest =>
  obtain ⟨w9, hw9⟩ : ∃ w9, w9 = wc := ⟨_, rfl⟩
  rw [← hw9] at hcut ⊢
  obtain ⟨nv9, pv9, N9, P9, te9⟩ := hcut.out
  have TE9 := hid te9
  have TEA := hid (te9.on (((Below.refl w9.heap.size w9).drew).alloc (Nat.le_refl _) (Obj.cells [Value.int .i64 kw, str it.nm, .int .i64 it.op, .int .i64 0, .int .i64 0, .int .i64 0].toArray 57)))
  have c1a : w9.drew.cell? ⟨r, 1, none⟩ = some x.gv := (cell_row te9.dr.box 1).trans rfl
  have c1b : (w9.drew.alloc (Obj.cells [Value.int .i64 kw, str it.nm, .int .i64 it.op, .int .i64 0, .int .i64 0, .int .i64 0].toArray 57)).cell? ⟨r, 1, none⟩ = some x.gv := (cell_row TEA.out.dr.box 1).trans rfl
  have c1c : (w9.alloc (Obj.cells [Value.int .i64 kw, str it.nm, .int .i64 it.op, .int .i64 0, .int .i64 0, .int .i64 0].toArray 57)).cell? ⟨r, 1, none⟩ = some x.gv := c1b
  have cga : ∀ j, w9.drew.cell? ⟨W.heap.size + 1 + 1 + 1, j, none⟩ = #[Value.int .i64 kw, str it.nm, .int .i64 it.op, .int .i64 0, .int .i64 0, .int .i64 0][j]? := fun j => cell_row te9.rg j
  have lr9 : r < w9.drew.heap.size := te9.dr.size
  have lg9 : W.heap.size + 1 + 1 + 1 < w9.drew.heap.size := (Array.getElem?_eq_some_iff.1 te9.rg).1
  have lr9' : r < w9.heap.size := te9.dr.size
  have lg9' : W.heap.size + 1 + 1 + 1 < w9.heap.size := (Array.getElem?_eq_some_iff.1 te9.rg).1
  have CE : Hid (∀ j u, ([Value.int .i64 kw, str it.nm, .int .i64 it.op, .int .i64 0, .int .i64 0, .int .i64 0])[j]? = some u → (w9.drew.alloc (Obj.cells [Value.int .i64 kw, str it.nm, .int .i64 it.op, .int .i64 0, .int .i64 0, .int .i64 0].toArray 57)).cell? (Addr.add ⟨w9.heap.size, 0, none⟩ j) = some u) := fun j u hu => by
    rw [add_zero_addr]
    exact (cell_row (heap_alloc_new w9.drew _) j).trans (by simpa using hu)
  have ON : Hid (∀ u ∈ [Value.int .i64 kw, str it.nm, .int .i64 it.op, .int .i64 0, .int .i64 0, .int .i64 0], u.oneCell' = true) := fun u hu => by
    simp only [List.mem_cons, List.not_mem_nil, or_false] at hu
    rcases hu with rfl | rfl | rfl | rfl | rfl | rfl <;> rfl
  have HGL : Hid ((dOf s).gs.length ≤ 65536) := by
    show (gatesOf s.lines).length ≤ 65536
    rw [HG.out]
    exact HSM.out
  clear hcut hw9 te9 S8 hs8 hr8 TE8 ADD
  go_upto_region 53 with fail
  go_cut [] (fun wx => Hid (∃ gv9, Te w W wx r text { { { dOf s with us := (dOf s).us ++ usOf (ng : Int) it.us } with pl := fun b => if b = it.nm then some ng else placeOf s b, nn := (dOf s).nn + 1 } with gs := (dOf s).gs ++ [⟨kw, ⟨it.nm.toArray⟩, it.op, 0, 0, 0⟩] } { { { x with uv := .slice sv6 ((dOf s).us.length + it.us.length) cv6 } with nv := nv9, pv := pv9, N := N9, P := P9 } with gv := gv9 } q1 q2 q3 kw it.nm it.op p q))
  case first =>
    go_region_law (refine step_one rfl _ _ 22 57 _ 6 56 rfl Tryd.underlying22 info38 rfl (by decide) w.heap.size (dOf s).gs.length x.gv (gas (dOf s).gs) [Value.int .i64 kw, str it.nm, .int .i64 it.op, .int .i64 0, .int .i64 0, .int .i64 0] ⟨w9.heap.size, 0, none⟩ rfl TEA.out.dr.gates rfl rfl CE.out ON.out (by have := HGL.out; omega) (by have := HGL.out; omega) TEA.out.dr.below.size ?_; intro v6 w6 o6 g6; obtain ⟨sv8, cv8, rfl⟩ := own_shape o6; obtain ⟨bx6, t7⟩ := TEA.out.gate (g := ⟨kw, ⟨it.nm.toArray⟩, it.op, 0, 0, 0⟩) H0.out rfl o6 g6; have c6 : w6.cell? ⟨r, 1, none⟩ = some x.gv := (cell_row bx6 1).trans rfl; have u6 : w6.frozen? ⟨r, 1, none⟩ = false := unfrozen_row bx6 1; have hb6 := (Array.getElem?_eq_some_iff.1 bx6).1; have T7 := hid t7; clear o6 g6 bx6 t7)
    all_goals (go_wp2_with fail; go_meet; exact ⟨_, T7.out⟩)
  case rest =>
  obtain ⟨w11, hw11⟩ : ∃ w11, w11 = wc := ⟨_, rfl⟩
  rw [← hw11] at hcut ⊢
  obtain ⟨gv9, te11⟩ := hcut.out
  have TEB := hid (te11.on (((Below.refl w11.heap.size w11).drew).alloc (Nat.le_refl _) (Obj.cells [Value.int .i64 p, .int .i64 q].toArray 28)))
  have d1a : w11.drew.cell? ⟨r, 4, none⟩ = some x.av := (cell_row te11.dr.box 4).trans rfl
  have d1b : (w11.drew.alloc (Obj.cells [Value.int .i64 p, .int .i64 q].toArray 28)).cell? ⟨r, 4, none⟩ = some x.av := (cell_row TEB.out.dr.box 4).trans rfl
  have d1c : (w11.alloc (Obj.cells [Value.int .i64 p, .int .i64 q].toArray 28)).cell? ⟨r, 4, none⟩ = some x.av := d1b
  have dga : ∀ j, w11.drew.cell? ⟨W.heap.size + 1 + 1 + 1 + 1, j, none⟩ = #[Value.int .i64 p, .int .i64 q][j]? := fun j => cell_row te11.rn j
  have lr11 : r < w11.drew.heap.size := te11.dr.size
  have lg11 : W.heap.size + 1 + 1 + 1 + 1 < w11.drew.heap.size := (Array.getElem?_eq_some_iff.1 te11.rn).1
  have lr11' : r < w11.heap.size := te11.dr.size
  have lg11' : W.heap.size + 1 + 1 + 1 + 1 < w11.heap.size := (Array.getElem?_eq_some_iff.1 te11.rn).1
  have CF : Hid (∀ j u, ([Value.int .i64 p, .int .i64 q])[j]? = some u → (w11.drew.alloc (Obj.cells [Value.int .i64 p, .int .i64 q].toArray 28)).cell? (Addr.add ⟨w11.heap.size, 0, none⟩ j) = some u) := fun j u hu => by
    rw [add_zero_addr]
    exact (cell_row (heap_alloc_new w11.drew _) j).trans (by simpa using hu)
  have ON2 : Hid (∀ u ∈ [Value.int .i64 p, .int .i64 q], u.oneCell' = true) := fun u hu => by
    simp only [List.mem_cons, List.not_mem_nil, or_false] at hu
    rcases hu with rfl | rfl <;> rfl
  have HAL : Hid ((dOf s).ats.length ≤ 65536) := HSM.out
  clear hcut hw11 te11 c1a c1b c1c cga lr9 lg9 lr9' lg9' TEA TE9 CE ON
  go_upto_region 54 with fail
  go_cut [] (fun wx => Hid (∃ av9, Te w W wx r text (dOf (added kw s ll it)) { { { { x with uv := .slice sv6 ((dOf s).us.length + it.us.length) cv6 } with nv := nv9, pv := pv9, N := N9, P := P9 } with gv := gv9 } with av := av9 } q1 q2 q3 kw it.nm it.op p q))
  case first =>
    have DEQ : Hid (dOf (added kw s ll it) = ({ { { { dOf s with us := (dOf s).us ++ usOf (ng : Int) it.us } with pl := fun b => if b = it.nm then some ng else placeOf s b, nn := (dOf s).nn + 1 } with gs := (dOf s).gs ++ [(⟨kw, ⟨it.nm.toArray⟩, it.op, 0, 0, 0⟩ : Ga)] } with ats := (dOf s).ats ++ [it.pos] } : Db)) := by
      show _ = _
      rw [dOf_added kw HK0.out, HNG.out]
      show _ = _
      have e1 : (dOf s).gs.length = s.names.length := HG.out
      rw [e1]
      rw [show (gatesOf s.lines).length = s.names.length from HG.out]
      rfl
    go_region_law (refine step_one rfl _ _ 46 28 _ 2 16 rfl underPos infoPos rfl (by decide) w.heap.size (dOf s).ats.length x.av (atC text (dOf s).ats) [Value.int .i64 p, .int .i64 q] ⟨w11.heap.size, 0, none⟩ rfl TEB.out.dr.ats rfl rfl CF.out ON2.out (by have := HAL.out; omega) (by have := HAL.out; omega) TEB.out.dr.below.size ?_; intro v6 w6 o6 g6; obtain ⟨sv8, cv8, rfl⟩ := own_shape o6; rw [HPP.out] at o6; obtain ⟨bx6, t7⟩ := TEB.out.at_ (pp := it.pos) H0.out rfl o6 g6; have c6 : w6.cell? ⟨r, 4, none⟩ = some x.av := (cell_row bx6 4).trans rfl; have u6 : w6.frozen? ⟨r, 4, none⟩ = false := unfrozen_row bx6 4; have hb6 := (Array.getElem?_eq_some_iff.1 bx6).1; have T7 := hid t7; clear o6 g6 bx6 t7)
    all_goals (go_wp2_with fail; go_meet; rw [DEQ.out]; exact ⟨_, T7.out⟩)
  case rest =>
  obtain ⟨w13, hw13⟩ : ∃ w13, w13 = wc := ⟨_, rfl⟩
  rw [← hw13] at hcut ⊢
  obtain ⟨av9, te13⟩ := hcut.out
  have TE13 := hid te13
  have c4 := fun j => cell_row te13.r30 j
  have f4 := fun j => unfrozen_row te13.r30 j
  have hs4 : W.heap.size + 1 < w13.heap.size := (Array.getElem?_eq_some_iff.1 te13.r30).1
  clear hcut hw13 te13 d1a d1b d1c dga lr11 lg11 lr11' lg11' TEB CF ON2
  go_wp2_with fail
  exact bodyPost_ret (v := .agg #[.int .i64 0, .int .i64 0, .int .i64 0]) (by simp [results, Tryd.results21, go_sem, c4]) rfl ⟨ans_below (by have := HW.out; omega) TE13.out.bl _ _ _, TE13.out.kp.ans (by omega), .inr ⟨by rw [HLL.out]; exact HF.out, rfl, _, by rw [HLL.out]; exact TE13.out.dr.ans TE13.out.r30 (by have := HW.out; omega) _ _ _⟩⟩
end Go.Proofs.YtfmmmhcpdinhgabDoor
