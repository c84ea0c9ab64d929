import Derived.Test.YtfmmmhcpdinhgabDoorZ16
/-
  The search of the program in memory.
-/
namespace Go.Proofs.YtfmmmhcpdinhgabDoor
open Go.RowKit Go.Deep PureNet ShfKit
set_option maxRecDepth 100000

/-- only rows of that type have turned. -/
def Kps (t : Nat) (W W' : World) : Prop := ∀ (k : Nat) (cs : Array Value) (tt : Nat) (fz : Nat × Nat), W.heap[k]? = some (.cells cs tt fz) → tt ≠ t → W'.heap[k]? = some (.cells cs tt fz)
theorem Kps.below {t : Nat} {W W' : World} (h : Below W.heap.size W W') : Kps t W W' := fun k _ _ _ hk _ => (h.block k (Array.getElem?_eq_some_iff.1 hk).1).trans hk
theorem Kps.own {t B e size n : Nat} {W W' : World} {v : Value} {xs : List Value} (h : Kps t W W') (ho : W.ownsRow B e size v n xs) (hne : e ≠ t) : W'.ownsRow B e size v n xs :=
  ShfKit.own_kept ho fun g hg => by
    obtain ⟨c, f, hk⟩ := Lib.ownsRow_kind ho g hg
    rw [hk]
    exact h g c e f hk hne
theorem Kps.fam {t B e size : Nat} {W W' : World} {L : List Rw} (h : Kps t W W') (hF : Fam W B e size L) (hne : e ≠ t) : Fam W' B e size L := ⟨fun i x hx => h.own (hF.own i x hx) hne, hF.apart⟩
theorem Kps.setCell {t p j : Nat} {W : World} {cs : Array Value} {fz : Nat × Nat} (hp : W.heap[p]? = some (.cells cs t fz)) (u : Value) : Kps t W (W.setCell ⟨p, j, none⟩ u) := fun k c tt f hk ht => by
  refine (Below.heap_setCell W _ _ _ (fun e => ?_)).trans hk
  subst e
  rw [hp] at hk
  simp only [Option.some.injEq, Obj.cells.injEq] at hk
  exact ht hk.2.1.symm
theorem Kps.grown {t B size n : Nat} {W W' : World} {v : Value} {xs : List Value} (ho : W.ownsRow B t size v n xs) (hg : W.grownBy W' v.ownBlock) : Kps t W W' := fun k c tt f hk ht => by
  refine (hg.block k (Array.getElem?_eq_some_iff.1 hk).1 (fun e => ?_)).trans hk
  exact own_ne ho hk ht e.symm
theorem Fam.take {B e size : Nat} {W : World} {L : List Rw} (h : Fam W B e size L) (k : Nat) : Fam W B e size (L.take k) := by
  refine ⟨fun i x hx => ?_, fun i j x y g hx hy => ?_⟩
  · rw [List.getElem?_take] at hx
    split at hx
    · exact h.own i x hx
    · cases hx
  · rw [List.getElem?_take] at hx hy
    split at hx
    · split at hy
      · exact h.apart i j x y g hx hy
      · cases hy
    · cases hx

/-- what is left to look at: a slice of a row. -/
def Lf (lv : Value) (r : Rw) (left : List Nat) : Prop := ∃ s c, lv = .slice s left.length c ∧ left.length ≤ c ∧ (left ≠ [] → ∃ g k, s = some ⟨g, k, none⟩ ∧ r.1.ownBlock = some g ∧ ∀ (j y : Nat), left[j]? = some y → r.2.2[k + j]? = some (.int .i64 (y : Int)))

set_option maxHeartbeats 1000000 in
theorem pleans_any (g : Ga) (w : World) (hK : KindsAt w) (h1 : 1 ≤ g.kind ∧ g.kind ≤ 4) (hn : ∀ a ∈ leansOn g, 0 ≤ a) :
    Calls Tryd.prog 57 #[.agg #[.int .i64 g.kind, .string g.name, .int .i64 g.op, .int .i64 g.a, .int .i64 g.b, .int .i64 g.c]] w fun e w' => ∃ lv r, e = .returned lv ∧ Lf lv r ((leansOn g).map Int.toNat) ∧ w'.ownsRow w.heap.size 3 1 r.1 r.2.1 r.2.2 ∧ Below w.heap.size w w' := by
  obtain ⟨x, hx⟩ : ∃ x, x = w.alloc (Obj.cells #[Value.int .i64 g.kind, .string g.name, .int .i64 g.op, .int .i64 g.a, .int .i64 g.b, .int .i64 g.c] 57) := ⟨_, rfl⟩
  have BX : Hid (Below w.heap.size w x) := by rw [hx]; exact (Below.refl _ _).alloc (Nat.le_refl _) _
  have C0 : Hid (x.heap[w.heap.size]? = some (.cells #[Value.int .i64 g.kind, .string g.name, .int .i64 g.op, .int .i64 g.a, .int .i64 g.b, .int .i64 g.c] 57 (0, 0))) := by rw [hx]; exact heap_alloc_new w _
  have c0 := fun j => cell_row C0.out j
  have hb0 := (Array.getElem?_eq_some_iff.1 C0.out).1
  have US := hid (fun k hk h1 h4 => used_any k g x (hK.on BX.out) hk h1 h4)
  have HN := hid hn
  have HX := hid hx
  clear hx hK hn
  by_cases h3 : g.kind = 3
  · have H3 := hid h3
    have h3b : (g.kind == 3) = true := by rw [h3]; rfl
    clear h3
    go_enter Tryd.func57, Tryd.ntmps57
    go_wp2_with (rw [← HX.out])
    refine bodyPost_ret (v := .slice none 0 0) (by simp [results, Tryd.results57, go_sem]) rfl ⟨.slice none 0 0, (.slice none 0 0, 0, []), rfl, ⟨none, 0, ?_, by simp [leansOn, H3.out], fun h => absurd (by simp [leansOn, H3.out]) h⟩, World.ownsRow_nil _ _ _ _, BX.out⟩
    simp [leansOn, H3.out]
  · have hk : ∃ k : Nat, g.kind = (k : Int) ∧ 1 ≤ k ∧ k ≤ 4 ∧ k ≠ 3 := ⟨g.kind.toNat, by omega, by omega, by omega, by omega⟩
    obtain ⟨k, hk, hk1, hk4, hk3⟩ := hk
    have h3b : (g.kind == 3) = false := beq_eq_false_iff_ne.2 h3
    have HK := hid hk
    have UA := hid (US.out k hk hk1 hk4)
    clear hk h3 US
    go_enter Tryd.func57, Tryd.ntmps57
    go_wp2_with (first | (rw [← HX.out]) | (go_at_call 72; refine Calls.mono UA.out ?_; rintro e w1 ⟨b, rfl, hb, hrow, b1⟩; have HB := hid hb; have HR := hid hrow; have B1 := hid b1; clear hb hrow b1))
    refine bodyPost_ret (v := .slice (some ⟨b, 0, none⟩) (usesN k) 3) (by simp [results, Tryd.results57, go_sem]) rfl ⟨.slice (some ⟨b, 0, none⟩) (usesN k) 3, (.slice (some ⟨b, 0, none⟩) 3 3, 3, [.int .i64 g.a, .int .i64 g.b, .int .i64 g.c]), rfl, ⟨some ⟨b, 0, none⟩, 3, ?_, ?_, fun _ => ⟨b, 0, rfl, rfl, fun j y hy => ?_⟩⟩, ⟨rfl, .inr ⟨b, 3, _, rfl, Nat.le_trans BX.out.size HB.out, HR.out, Nat.le_refl _, by unfold maxLen; omega, rfl, rfl⟩⟩, BX.out.trans (B1.out.mono BX.out.size)⟩
    · have e : ((leansOn g).map Int.toNat).length = usesN k := by
        rw [List.length_map]
        unfold leansOn usesN
        rw [HK.out]
        have : k = 1 ∨ k = 2 ∨ k = 4 := by omega
        rcases this with rfl | rfl | rfl <;> rfl
      rw [e]
    · rw [List.length_map]
      unfold leansOn
      split
      · simp
      · split <;> simp
    · rw [List.getElem?_map, Option.map_eq_some_iff] at hy
      obtain ⟨a, ha, rfl⟩ := hy
      have h0 := HN.out a (List.mem_of_getElem? ha)
      rw [Int.toNat_of_nonneg h0, Nat.zero_add]
      unfold leansOn at ha
      split at ha
      · match j, ha with
        | 0, ha => simp at ha; simp [ha]
        | 1, ha => simp at ha; simp [ha]
        | j + 2, ha => simp at ha
      · split at ha
        · match j, ha with
          | 0, ha => simp at ha; simp [ha]
          | 1, ha => simp at ha; simp [ha]
          | 2, ha => simp at ha; simp [ha]
          | j + 3, ha => simp at ha
        · simp at ha

def stopsV : List (Nat × List Nat) → List (Value × Rw) → List Value
  | a :: way, r :: rs => .int .i64 (a.1 : Int) :: r.1 :: stopsV way rs
  | _, _ => []
theorem stopsV_len : ∀ (way : List (Nat × List Nat)) (rs : List (Value × Rw)), rs.length = way.length → (stopsV way rs).length = way.length * 2
  | [], [], _ => rfl
  | a :: way, r :: rs, h => by simp only [stopsV, List.length_cons, stopsV_len way rs (by simpa using h)]; omega
theorem stopsV_snoc : ∀ (way : List (Nat × List Nat)) (rs : List (Value × Rw)) (a : Nat × List Nat) (r : Value × Rw), rs.length = way.length → stopsV (way ++ [a]) (rs ++ [r]) = stopsV way rs ++ [.int .i64 (a.1 : Int), r.1]
  | [], [], _, _, _ => rfl
  | b :: way, q :: rs, a, r, h => by simp only [stopsV, List.cons_append, stopsV_snoc way rs a r (by simpa using h)]

/-- a search in memory, made since w, at p. -/
structure Se (w W : World) (p : Nat) (gv : Value) (n : Nat) (s : Ps) (mv rv pv wv tv ov : Value) (rs : List (Value × Rw)) : Prop where
  below : Below w.heap.size w W
  pb : w.heap.size ≤ p
  box : W.heap[p]? = some (.cells #[gv, mv, rv, pv, wv, tv, ov] 103 (0, 0))
  fam : Fam W w.heap.size 3 1 ([(mv, n, rowF n s.met), (rv, n, rowF n s.reached), (pv, n, rowF n s.part), (tv, s.waiting.length, placesV s.waiting), (ov, s.out.length, placesV s.out)] ++ rs.map Prod.snd)
  way : W.ownsRow w.heap.size 129 2 wv s.way.length (stopsV s.way rs)
  rsn : rs.length = s.way.length
  lf : ∀ (k : Nat) (a : Nat × List Nat) (r : Value × Rw), s.way[k]? = some a → rs[k]? = some r → Lf r.1 r.2 a.2

section
variable {w W W' : World} {p n : Nat} {gv mv rv pv wv tv ov : Value} {s : Ps} {rs : List (Value × Rw)}
theorem Se.on (h : Se w W p gv n s mv rv pv wv tv ov rs) (hb : Below W.heap.size W W') : Se w W' p gv n s mv rv pv wv tv ov rs :=
  ⟨h.below.trans (hb.mono h.below.size), h.pb, (hb.block _ (Array.getElem?_eq_some_iff.1 h.box).1).trans h.box, h.fam.below hb, (Kps.below (t := 0) hb).own h.way (by decide), h.rsn, h.lf⟩
theorem Se.cell (h : Se w W p gv n s mv rv pv wv tv ov rs) (j : Nat) : W.cell? ⟨p, j, none⟩ = (#[gv, mv, rv, pv, wv, tv, ov] : Array Value)[j]? := cell_row h.box j
theorem Se.size (h : Se w W p gv n s mv rv pv wv tv ov rs) : p < W.heap.size := (Array.getElem?_eq_some_iff.1 h.box).1
/-- what waits has grown, and lies in the box. -/
theorem Se.waits (h : Se w W p gv n s mv rv pv wv tv ov rs) {tv' : Value} {wt : List Nat} (hF : Fam W' w.heap.size 3 1 ([(mv, n, rowF n s.met), (rv, n, rowF n s.reached), (pv, n, rowF n s.part), (tv', wt.length, placesV wt), (ov, s.out.length, placesV s.out)] ++ rs.map Prod.snd)) (hb : Below w.heap.size w W') (hk : Kps 3 W W') :
    Se w (W'.setCell ⟨p, 5, none⟩ tv') p gv n ⟨s.met, s.reached, s.part, s.way, wt, s.out⟩ mv rv pv wv tv' ov rs := by
  have hbox := hk p _ _ _ h.box (by decide)
  have k2 : Kps 103 W' (W'.setCell ⟨p, 5, none⟩ tv') := Kps.setCell hbox tv'
  exact ⟨hb.setCell h.pb _, h.pb, row_set hbox, k2.fam hF (by decide), k2.own (hk.own h.way (by decide)) (by decide), h.rsn, h.lf⟩
/-- what is out has grown. -/
theorem Se.outs (h : Se w W p gv n s mv rv pv wv tv ov rs) {ov' : Value} {ot : List Nat} (hF : Fam W' w.heap.size 3 1 ([(mv, n, rowF n s.met), (rv, n, rowF n s.reached), (pv, n, rowF n s.part), (tv, s.waiting.length, placesV s.waiting), (ov', ot.length, placesV ot)] ++ rs.map Prod.snd)) (hb : Below w.heap.size w W') (hk : Kps 3 W W') :
    Se w (W'.setCell ⟨p, 6, none⟩ ov') p gv n ⟨s.met, s.reached, s.part, s.way, s.waiting, ot⟩ mv rv pv wv tv ov' rs := by
  have hbox := hk p _ _ _ h.box (by decide)
  have k2 : Kps 103 W' (W'.setCell ⟨p, 6, none⟩ ov') := Kps.setCell hbox ov'
  exact ⟨hb.setCell h.pb _, h.pb, row_set hbox, k2.fam hF (by decide), k2.own (hk.own h.way (by decide)) (by decide), h.rsn, h.lf⟩
/-- a number is written into one of the rows. -/
theorem Se.row (h : Se w W p gv n s mv rv pv wv tv ov rs) {i : Nat} {v : Value} {f : Nat → Int} (hi : i < 3) (hx : ([(mv, n, rowF n s.met), (rv, n, rowF n s.reached), (pv, n, rowF n s.part)] : List Rw)[i]? = some (v, n, rowF n f)) {x : Nat} (hxn : x < n) :
    ∃ g c, v = .slice (some ⟨g, 0, none⟩) n c ∧ w.heap.size ≤ g ∧ g < W.heap.size ∧ W.cell? ⟨g, x, none⟩ = some (.int .i64 (f x)) ∧ W.frozen? ⟨g, x, none⟩ = false ∧ W.heap[g]? ≠ none ∧ (∃ cs, W.heap[g]? = some (.cells cs 3 (0, 0))) := by
  have hx2 : ([(mv, n, rowF n s.met), (rv, n, rowF n s.reached), (pv, n, rowF n s.part), (tv, s.waiting.length, placesV s.waiting), (ov, s.out.length, placesV s.out)] ++ rs.map Prod.snd)[i]? = some (v, n, rowF n f) := by
    match i, hi, hx with
    | 0, _, hx => exact hx
    | 1, _, hx => exact hx
    | 2, _, hx => exact hx
  have ho := h.fam.own i _ hx2
  obtain ⟨g, c, hv, hB, hg, hc, hf⟩ := own_cell ho (rowF_at n f x hxn)
  have hr : ∃ cs, W.heap[g]? = some (.cells cs 3 (0, 0)) := by
    rcases ho.2 with ⟨hv2, h0⟩ | ⟨g2, cap, cur, hv2, _, hr, _⟩
    · exact absurd h0 (by show n ≠ 0; omega)
    · rw [hv] at hv2
      cases hv2
      exact ⟨_, hr⟩
  refine ⟨g, c, hv, hB, hg, hc, hf, ?_, hr⟩
  obtain ⟨cs, e⟩ := hr
  rw [e]
  simp
theorem Se.setMet (h : Se w W p gv n s mv rv pv wv tv ov rs) {g c x : Nat} (hv : mv = .slice (some ⟨g, 0, none⟩) n c) (hB : w.heap.size ≤ g) (u : Int) (hr : ∃ cs, W.heap[g]? = some (.cells cs 3 (0, 0))) :
    Se w (W.setCell ⟨g, x, none⟩ (.int .i64 u)) p gv n ⟨upd s.met x u, s.reached, s.part, s.way, s.waiting, s.out⟩ mv rv pv wv tv ov rs := by
  obtain ⟨cs, hr⟩ := hr
  have k2 : Kps 3 W (W.setCell ⟨g, x, none⟩ (.int .i64 u)) := Kps.setCell hr _
  have h1 := h.fam.write (i := 0) rfl hv (j := x) (.int .i64 u)
  rw [show (mv, n, rowF n s.met).2.2.set x (.int .i64 u) = rowF n (upd s.met x u) from rowF_set _ _ _ _] at h1
  exact ⟨h.below.setCell hB _, h.pb, k2 p _ _ _ h.box (by decide), h1, k2.own h.way (by decide), h.rsn, h.lf⟩
theorem Se.setReached (h : Se w W p gv n s mv rv pv wv tv ov rs) {g c x : Nat} (hv : rv = .slice (some ⟨g, 0, none⟩) n c) (hB : w.heap.size ≤ g) (u : Int) (hr : ∃ cs, W.heap[g]? = some (.cells cs 3 (0, 0))) :
    Se w (W.setCell ⟨g, x, none⟩ (.int .i64 u)) p gv n ⟨s.met, upd s.reached x u, s.part, s.way, s.waiting, s.out⟩ mv rv pv wv tv ov rs := by
  obtain ⟨cs, hr⟩ := hr
  have k2 : Kps 3 W (W.setCell ⟨g, x, none⟩ (.int .i64 u)) := Kps.setCell hr _
  have h1 := h.fam.write (i := 1) rfl hv (j := x) (.int .i64 u)
  rw [show (rv, n, rowF n s.reached).2.2.set x (.int .i64 u) = rowF n (upd s.reached x u) from rowF_set _ _ _ _] at h1
  exact ⟨h.below.setCell hB _, h.pb, k2 p _ _ _ h.box (by decide), h1, k2.own h.way (by decide), h.rsn, h.lf⟩
theorem Se.setPart (h : Se w W p gv n s mv rv pv wv tv ov rs) {g c x : Nat} (hv : pv = .slice (some ⟨g, 0, none⟩) n c) (hB : w.heap.size ≤ g) (u : Int) (hr : ∃ cs, W.heap[g]? = some (.cells cs 3 (0, 0))) :
    Se w (W.setCell ⟨g, x, none⟩ (.int .i64 u)) p gv n ⟨s.met, s.reached, upd s.part x u, s.way, s.waiting, s.out⟩ mv rv pv wv tv ov rs := by
  obtain ⟨cs, hr⟩ := hr
  have k2 : Kps 3 W (W.setCell ⟨g, x, none⟩ (.int .i64 u)) := Kps.setCell hr _
  have h1 := h.fam.write (i := 2) rfl hv (j := x) (.int .i64 u)
  rw [show (pv, n, rowF n s.part).2.2.set x (.int .i64 u) = rowF n (upd s.part x u) from rowF_set _ _ _ _] at h1
  exact ⟨h.below.setCell hB _, h.pb, k2 p _ _ _ h.box (by decide), h1, k2.own h.way (by decide), h.rsn, h.lf⟩
/-- one more stop on the way. -/
theorem Se.stop (h : Se w W p gv n s mv rv pv wv tv ov rs) {W1 W2 : World} {lv : Value} {r : Rw} {x : Nat} {left : List Nat} {wv' : Value} (hb : Below W.heap.size W W1) (ho : W1.ownsRow W.heap.size 3 1 r.1 r.2.1 r.2.2) (hl : Lf lv r left)
    (hb2 : Below W1.heap.size W1 W2) (hg : W2.grownBy W' wv.ownBlock) (ho2 : W'.ownsRow w.heap.size 129 2 wv' (s.way.length + 1) (stopsV s.way rs ++ [.int .i64 (x : Int), lv])) :
    Se w (W'.setCell ⟨p, 4, none⟩ wv') p gv n ⟨s.met, s.reached, s.part, s.way ++ [(x, left)], s.waiting, s.out⟩ mv rv pv wv' tv ov (rs ++ [(lv, r)]) := by
  have hb3 := hb.trans (hb2.mono hb.size)
  have h2 := h.on hb3
  have k1 : Kps 129 W2 W' := Kps.grown h2.way hg
  have hbox := k1 p _ _ _ h2.box (by decide)
  have k2 : Kps 103 W' (W'.setCell ⟨p, 4, none⟩ wv') := Kps.setCell hbox wv'
  have hF1 := (h.fam.push (y := r) hb ho h.below.size).below hb2
  refine ⟨(h2.below.grown hg h2.below.size (fun j hj => (h2.way.lt j hj).1)).setCell h.pb _, h.pb, row_set hbox, ?_, ?_, by simp [h.rsn], fun k a q ha hq => ?_⟩
  · have := k2.fam (k1.fam hF1 (by decide)) (by decide)
    rw [List.map_append]
    rw [List.append_assoc] at this
    exact this
  · show (W'.setCell ⟨p, 4, none⟩ wv').ownsRow w.heap.size 129 2 wv' (s.way ++ [(x, left)]).length (stopsV (s.way ++ [(x, left)]) (rs ++ [(lv, r)]))
    rw [stopsV_snoc _ _ _ _ h.rsn, List.length_append, List.length_singleton]
    exact k2.own ho2 (by decide)
  · have ha : (s.way ++ [(x, left)])[k]? = some a := ha
    by_cases hk : k < s.way.length
    · rw [List.getElem?_append_left hk] at ha
      rw [List.getElem?_append_left (by rw [h.rsn]; exact hk)] at hq
      exact h.lf k a q ha hq
    · have hk2 := (List.getElem?_eq_some_iff.1 ha).1
      rw [List.length_append, List.length_singleton] at hk2
      obtain rfl : k = s.way.length := by omega
      rw [Sr.at_last] at ha
      obtain rfl := Option.some.inj ha
      rw [← h.rsn] at hq
      simp at hq
      subst hq
      exact hl
end
theorem info100 : (Tryd.prog.info? 129).map (fun i => (i.zero, i.size, i.bytes)) = some (some (.agg #[.int .i64 0, .slice none 0 0]), 2, 32) := by kernel_rfl
end Go.Proofs.YtfmmmhcpdinhgabDoor
