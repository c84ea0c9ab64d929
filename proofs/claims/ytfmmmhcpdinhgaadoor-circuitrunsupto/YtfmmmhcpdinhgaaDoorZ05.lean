import Derived.Test.YtfmmmhcpdinhgaaDoorZ04
/-
  The document's own table of names: add.
-/
namespace Go.Proofs.YtfmmmhcpdinhgaaDoor
open Go.RowKit Go.Deep PureNet
set_option maxRecDepth 100000

theorem info9 : (Tryd.prog.info? 9).map (fun i => (i.zero, i.size, i.bytes)) = some (some (.string ⟨#[]⟩), 1, 16) := by kernel_rfl
theorem ownsRow_store2 {W : World} {b B e size n t i : Nat} {v u : Value} {xs : List Value} {cs : Array Value} {fz : Nat × Nat} (h : W.ownsRow B e size v n xs) (hr : W.heap[b]? = some (.cells cs t fz)) (hte : t ≠ e) : (W.setCell ⟨b, i, none⟩ u).ownsRow B e size v n xs := by
  have hne := own_ne h hr hte
  refine ⟨h.1, ?_⟩
  rcases h.2 with hn | ⟨g, cap, cur, hv, hB, hg, rest⟩
  · exact .inl hn
  · refine .inr ⟨g, cap, cur, hv, hB, (Below.heap_setCell W _ _ _ ?_).trans hg, rest⟩
    intro e
    exact hne (by rw [hv]; simp [Value.ownBlock]; exact e)
/-- the table of names: its box, its two lists, rising. -/
structure Kn (w W : World) (kb : Nat) (nv pv : Value) (N : List ByteArray) (P : List Int) : Prop where
  row : W.heap[kb]? = some (.cells #[nv, pv] 88 (0, 0))
  hB : w.heap.size ≤ kb
  on_ : W.ownsRow w.heap.size 9 1 nv N.length (ns N)
  op : W.ownsRow w.heap.size 3 1 pv P.length (nu P)
  below : Below w.heap.size w W
section
variable {w W W' : World} {kb : Nat} {nv pv nv' pv' : Value} {N : List ByteArray} {P : List Int}
theorem Kn.size (h : Kn w W kb nv pv N P) : kb < W.heap.size := (Array.getElem?_eq_some_iff.1 h.row).1
theorem Kn.on (h : Kn w W kb nv pv N P) (hb : Below W.heap.size W W') : Kn w W' kb nv pv N P :=
  ⟨(hb.block _ h.size).trans h.row, h.hB, ownsRow_below h.on_ hb, ownsRow_below h.op hb, h.below.trans (hb.mono h.below.size)⟩
theorem Kn.name (h : Kn w W kb nv pv N P) {x : ByteArray} (ho : W'.ownsRow w.heap.size 9 1 nv' (N.length + 1) (ns N ++ [.string x])) (hg : W.grownBy W' nv.ownBlock) :
    W'.heap[kb]? = some (.cells #[nv, pv] 88 (0, 0)) ∧ Kn w (W'.setCell ⟨kb, 0, none⟩ nv') kb nv' pv (N ++ [x]) P := by
  have hrow : W'.heap[kb]? = some (.cells #[nv, pv] 88 (0, 0)) := (hg.block kb h.size (Ne.symm (own_ne h.on_ h.row (by decide)))).trans h.row
  refine ⟨hrow, ⟨by have := row_set (i := 0) (u := nv') hrow; simpa using this, h.hB, ?_, ownsRow_store2 (own_kept h.op h.on_ hg (by decide)) hrow (by decide), (h.below.grown hg h.below.size (fun j hj => (h.on_.lt j hj).1)).setCell h.hB _⟩⟩
  have := ownsRow_store2 (i := 0) (u := nv') ho hrow (by decide)
  rw [List.length_append, ns, List.map_append]
  exact this
theorem Kn.place (h : Kn w W kb nv pv N P) {x : Int} (ho : W'.ownsRow w.heap.size 3 1 pv' (P.length + 1) (nu P ++ [.int .i64 x])) (hg : W.grownBy W' pv.ownBlock) :
    W'.heap[kb]? = some (.cells #[nv, pv] 88 (0, 0)) ∧ Kn w (W'.setCell ⟨kb, 1, none⟩ pv') kb nv pv' N (P ++ [x]) := by
  have hrow : W'.heap[kb]? = some (.cells #[nv, pv] 88 (0, 0)) := (hg.block kb h.size (Ne.symm (own_ne h.op h.row (by decide)))).trans h.row
  refine ⟨hrow, ⟨by have := row_set (i := 1) (u := pv') hrow; simpa using this, h.hB, ownsRow_store2 (own_kept h.on_ h.op hg (by decide)) hrow (by decide), ?_, (h.below.grown hg h.below.size (fun j hj => (h.op.lt j hj).1)).setCell h.hB _⟩⟩
  have := ownsRow_store2 (i := 1) (u := pv') ho hrow (by decide)
  rw [List.length_append, nu, List.map_append]
  exact this
end

/-- an owned row of cells of one, opened. -/
theorem own_open {W : World} {B e n : Nat} {v : Value} {xs : List Value} (h : W.ownsRow B e 1 v n xs) (hn : 0 < n) : ∃ g cap cur, v = .slice (some ⟨g, 0, none⟩) n cap ∧ W.heap[g]? = some (.cells cur e (0, 0)) ∧ B ≤ g ∧ n ≤ cap ∧ cap ≤ maxLen ∧ cur.size = cap ∧ cur.toList.take n = xs := by
  rcases h.2 with ⟨_, h0⟩ | ⟨g, cap, cur, hv, hB, hg, hk, hm, hs, ht⟩
  · omega
  · exact ⟨g, cap, cur, hv, hg, hB, hk, hm, by simpa using hs, by simpa using ht⟩

theorem setRow_grown (W : World) (g : Nat) (cs : Array Value) : W.grownBy (W.setRow g cs) (some g) := ⟨rfl, rfl, rfl, by simp [World.setRow], fun k hk hne => setRow_other _ _ _ _ (fun e => hne (by rw [e]))⟩
/-- the copy of all from i on by one place. -/
theorem copy_up {W : World} {g cap n i : Nat} {cur : Array Value} {t e : TypeId} {xs : List Value} {z : Value} (hu : Tryd.prog.underlying t = some (.slice e)) (hs : (Tryd.prog.info? e).map (·.size) = some 1) (hg : W.heap[g]? = some (.cells cur e (0, 0))) (hsz : cur.size = cap) (hc : n + 1 ≤ cap) (hi : i ≤ n) (hx : xs.length = n) (ht : cur.toList.take (n + 1) = xs ++ [z]) (h1 : ∀ v ∈ xs, v.oneCell' = true) (q1 : ¬ cap = i) :
    ∃ cur', (Builtin.copy_ #[t, t] 3 #[.slice (if cap = i + 1 then some ⟨g, 0, none⟩ else some ⟨g, i + 1, none⟩) (n - i) (cap - (i + 1)), .slice (if cap = i then some ⟨g, 0, none⟩ else some ⟨g, i, none⟩) (n + 1 - i) (cap - i)]).run Tryd.prog W = .ok (.int .i64 ((n - i : Nat) : Int)) (W.setRow g cur') ∧ cur'.size = cap ∧ cur'.toList.take (n + 1) = (xs ++ [z]).take (i + 1) ++ xs.drop i := by
  have hcl : (xs.drop i).length = n - i := by simp [hx]
  have hlen : cur.toList.length = cap := by simpa using hsz
  have hget : ∀ k, k < n → cur.toList[k]? = xs[k]? := fun k hk => by
    have : (cur.toList.take (n + 1))[k]? = (xs ++ [z])[k]? := by rw [ht]
    rw [List.getElem?_take_of_lt (by omega), List.getElem?_append_left (by omega)] at this
    exact this
  by_cases q2 : cap = i + 1
  · have hin : i = n := by omega
    subst hin
    refine ⟨cur, ?_, hsz, ?_⟩
    · have := run_copy_row (P := Tryd.prog) W t t 3 e g 0 0 0 ⟨g, i, none⟩ 1 1 cur e [] hu hs hg (by simp) (fun j v hj => by simp at hj) (by simp) (fun v hv => by cases hv)
      rw [if_pos q2, if_neg q1, show i - i = 0 by omega, show cap - (i + 1) = 0 by omega, show i + 1 - i = 1 by omega, show cap - i = 1 by omega]
      simpa [goInt] using this
    · rw [ht, List.take_of_length_le (by simp [hx]), List.drop_of_length_le (by omega), List.append_nil]
  · refine ⟨(cur.toList.take (i + 1) ++ xs.drop i ++ cur.toList.drop (i + 1 + (xs.drop i).length)).toArray, ?_, ?_, ?_⟩
    · have := run_copy_row (P := Tryd.prog) W t t 3 e g (i + 1) (n - i) (cap - (i + 1)) ⟨g, i, none⟩ (n + 1 - i) (cap - i) cur e (xs.drop i) hu hs hg (by rw [hcl]; exact (Nat.min_eq_right (by omega)).symm) (fun j v hj => by
        have hjl := (List.getElem?_eq_some_iff.1 hj).1
        rw [hcl] at hjl
        rw [List.getElem?_drop] at hj
        rw [add_plain, cell_row hg]
        have := hget (i + j) (by omega)
        rw [hj] at this
        simpa using this) (by rw [hcl]; omega) (fun v hv => h1 v (List.mem_of_mem_drop hv))
      rw [if_neg q2, if_neg q1, this, hcl]
      rfl
    · simp [hcl, hlen]; omega
    · have e1 : (cur.toList.take (i + 1) ++ xs.drop i).length = n + 1 := by simp [hlen, hx]; omega
      rw [List.take_append_of_le_length (by omega), List.take_of_length_le (by omega)]
      congr 1
      rw [← ht, List.take_take, Nat.min_eq_left (by omega)]

theorem size9 : (Tryd.prog.info? 9).map (·.size) = some 1 := by kernel_rfl
theorem size3 : (Tryd.prog.info? 3).map (·.size) = some 1 := by kernel_rfl
section
variable {w W W' : World} {kb g m cap : Nat} {nv pv : Value} {N N' : List ByteArray} {P P' : List Int} {cur : Array Value}
/-- the names written over. -/
theorem Kn.names (h : Kn w W kb (.slice (some ⟨g, 0, none⟩) m cap) pv N P) (hg : W.grownBy W' (some g)) (hr : W'.heap[g]? = some (.cells cur 9 (0, 0))) (hsz : cur.size = cap) (hcap : m ≤ cap) (hm : cap ≤ maxLen) (hN : N'.length = m) (ht : cur.toList.take m = ns N') : Kn w W' kb (.slice (some ⟨g, 0, none⟩) m cap) pv N' P := by
  have hgr : W.grownBy W' (Value.slice (some ⟨g, 0, none⟩) m cap).ownBlock := by simpa [Value.ownBlock] using hg
  have hB : w.heap.size ≤ g := (h.on_.lt g (by simp [Value.ownBlock])).1
  refine ⟨(hgr.block kb h.size (Ne.symm (own_ne h.on_ h.row (by decide)))).trans h.row, h.hB, ⟨by simp [ns], .inr ⟨g, cap, cur, by rw [hN], hB, hr, by omega, hm, by simpa using hsz, by rw [hN, Nat.mul_one]; exact ht⟩⟩, own_kept h.op h.on_ hgr (by decide), h.below.grown hg h.below.size (fun j hj => by cases hj; exact hB)⟩
/-- the places written over. -/
theorem Kn.places (h : Kn w W kb nv (.slice (some ⟨g, 0, none⟩) m cap) N P) (hg : W.grownBy W' (some g)) (hr : W'.heap[g]? = some (.cells cur 3 (0, 0))) (hsz : cur.size = cap) (hcap : m ≤ cap) (hm : cap ≤ maxLen) (hP : P'.length = m) (ht : cur.toList.take m = nu P') : Kn w W' kb nv (.slice (some ⟨g, 0, none⟩) m cap) N P' := by
  have hgr : W.grownBy W' (Value.slice (some ⟨g, 0, none⟩) m cap).ownBlock := by simpa [Value.ownBlock] using hg
  have hB : w.heap.size ≤ g := (h.op.lt g (by simp [Value.ownBlock])).1
  refine ⟨(hgr.block kb h.size (Ne.symm (own_ne h.op h.row (by decide)))).trans h.row, h.hB, own_kept h.on_ h.op hgr (by decide), ⟨by simp [nu], .inr ⟨g, cap, cur, by rw [hP], hB, hr, by omega, hm, by simpa using hsz, by rw [hP, Nat.mul_one]; exact ht⟩⟩, h.below.grown hg h.below.size (fun j hj => by cases hj; exact hB)⟩
end
end Go.Proofs.YtfmmmhcpdinhgaaDoor
/-
  The law's lists and mark.
-/
namespace Go.Proofs.YtfmmmhcpdinhgaaDoor
open Go.RowKit Go.Deep PureNet
set_option maxRecDepth 100000

set_option maxHeartbeats 1000000 in
set_option maxRecDepth 100000 in
theorem lists_true (L : List (List Bool)) (sa sb : Option Addr) (ca cb : Nat) (w : World) (ha : ListsAt w sa L) (hb : ListsAt w sb L) (hl : L.length ≤ 5864062014634) (hll : ∀ l ∈ L, l.length ≤ 140737488351232) :
    Calls Tryd.prog 18 #[.slice sa L.length ca, .slice sb L.length cb] w fun e w' => e = .returned (.bool true) ∧ Below w.heap.size w w' := by
  have HA := hid ha
  have HB := hid hb
  have HL := hid hll
  clear ha hb hll
  go_enter Tryd.func18, Tryd.ntmps18
  go_wp2
  go_loopw [5] (fun iv W => ∃ k : Nat, k ≤ L.length ∧ iv = .int .i64 (k : Int) ∧ Hid (Below w.heap.size w W)) (fun iv _ => L.length - (intOf iv).toNat)
  case atStart => exact ⟨0, Nat.zero_le _, rfl, Below.refl _ _⟩
  case round =>
    obtain ⟨k, hk, rfl, HW⟩ := hrel
    by_cases hlt : k < L.length
    · obtain ⟨x, hx⟩ : ∃ x, L[k]? = some x := ⟨_, List.getElem?_eq_getElem hlt⟩
      obtain ⟨ga, oa, s1, k1, rfl, hga, p0, hc1, _⟩ := (HA.out.below HW.out).at_ k x hx
      obtain ⟨gb, ob, s2, k2, rfl, hgb, q0, hc2, _⟩ := (HB.out.below HW.out).at_ k x hx
      have hxl := HL.out x (List.mem_of_getElem? hx)
      have TR := hid (fun W (hW : Below wr.heap.size wr W) => truths_true x s1 s2 k1 k2 W (hc1.below hW) (hc2.below hW) hxl)
      have TD := hid ((Below.refl wr.heap.size wr).drew)
      have KP : Hid (∀ W, Below wr.drew.heap.size wr.drew W → W.cell? ⟨ga, oa + k, none⟩ = some (.slice s1 x.length k1) ∧ W.cell? ⟨gb, ob + k, none⟩ = some (.slice s2 x.length k2)) := fun W hW => ⟨below_cell hW hga p0, below_cell hW hgb q0⟩
      clear hx hc1 hc2
      go_wp2
      go_region_held3 (fun W => W.cell? ⟨ga, oa + k, none⟩ = some (.slice s1 x.length k1) ∧ W.cell? ⟨gb, ob + k, none⟩ = some (.slice s2 x.length k2)) (go_keep)
        (first
          | (go_at_call 16; with_reducible refine Calls.mono (TR.out _ TD.out) ?_; rintro e w3 ⟨rfl, b3⟩; obtain ⟨d0, d1⟩ := KP.out _ b3; have B3 := hid (TD.out.trans (b3.mono TD.out.size)); clear b3))
      go_wp2
      exact ⟨⟨k + 1, hlt, by go_num, HW.out.trans (B3.out.mono HW.out.size)⟩, by simp [intOf]; omega⟩
    · go_wp2
      go_ret
      exact ⟨rfl, HW.out⟩

theorem grown_below {w w1 w2 : World} {r : Option Nat} (h : w.grownBy w1 r) (hb : Below w1.heap.size w1 w2) : w.grownBy w2 r :=
  ⟨hb.os.trans h.os, hb.tape.trans h.tape, hb.output.trans h.output, Nat.le_trans h.size hb.size, fun k hk hne => (hb.block k (Nat.lt_of_lt_of_le hk h.size)).trans (h.block k hk hne)⟩
theorem grown_set {w w1 : World} {g i : Nat} {u : Value} (h : w.grownBy w1 (some g)) : w.grownBy (w1.setCell ⟨g, i, none⟩ u) (some g) :=
  ⟨h.os, h.tape, h.output, by simpa using h.size, fun k hk hne => (Below.heap_setCell w1 _ _ _ (fun e => hne (by rw [e]))).trans (h.block k hk hne)⟩
theorem below_grown {w w1 : World} {r : Option Nat} (hb : Below w.heap.size w w1) : w.grownBy w1 r := ⟨hb.os, hb.tape, hb.output, hb.size, fun k hk _ => hb.block k hk⟩

theorem grown_trans {w w1 w2 : World} {r : Option Nat} (h : w.grownBy w1 r) (h2 : w1.grownBy w2 r) : w.grownBy w2 r :=
  ⟨h2.os.trans h.os, h2.tape.trans h.tape, h2.output.trans h.output, Nat.le_trans h.size h2.size, fun k hk hne => (h2.block k (Nat.lt_of_lt_of_le hk h.size) hne).trans (h.block k hk hne)⟩
theorem bo_set (l : List Bool) (i : Nat) (v : Bool) : (bo l).toArray.setIfInBounds i (.bool v) = (bo (l.set i v)).toArray := by simp [bo]

end Go.Proofs.YtfmmmhcpdinhgaaDoor
/-
  The document's own table of names: add.
-/
namespace Go.Proofs.YtfmmmhcpdinhgaaDoor
open Go.RowKit Go.Deep PureNet
set_option maxRecDepth 100000

theorem put_in {α : Type} (N : List α) (z s : α) (i : Nat) (h : i ≤ N.length) : ((N ++ [z]).take (i + 1) ++ N.drop i).set i s = N.take i ++ s :: N.drop i := by
  have h1 : (N ++ [z]).take (i + 1) = N.take i ++ [(N ++ [z])[i]'(by simp; omega)] := by
    rw [List.take_succ_eq_append_getElem (by simp; omega), List.take_append_of_le_length h]
  rw [h1, List.append_assoc, List.set_append_right _ _ (by simp; omega)]
  have h2 : i - (N.take i).length = 0 := by simp; omega
  rw [h2]
  rfl
theorem ns_one (N : List ByteArray) : ∀ v ∈ ns N, v.oneCell' = true := fun v hv => by simp only [ns, List.mem_map] at hv; obtain ⟨x, _, rfl⟩ := hv; rfl
theorem nu_one (P : List Int) : ∀ v ∈ nu P, v.oneCell' = true := fun v hv => by simp only [nu, List.mem_map] at hv; obtain ⟨x, _, rfl⟩ := hv; rfl

set_option maxHeartbeats 2000000 in
set_option maxRecDepth 100000 in
theorem add_any (kb : Nat) (nv pv : Value) (N : List ByteArray) (P : List Int) (s : ByteArray) (p : Int) (w0 w : World) (h : Kn w0 w kb nv pv N P) (hPl : P.length = N.length) (hr : Rising N) (hl : N.length ≤ 1048575) :
    Calls Tryd.prog 58 #[.pointer (some ⟨kb, 0, none⟩), .string s, .int .i64 p] w fun e w' => (∃ v, e = .returned v) ∧ ∃ nv' pv' i, Spot N s i ∧ Kn w0 w' kb nv' pv' (N.take i ++ s :: N.drop i) (P.take i ++ p :: P.drop i) := by
  obtain ⟨sn, cn, rfl⟩ := own_shape h.on_
  obtain ⟨sp, cp, rfl⟩ := own_shape h.op
  obtain ⟨sn2, cn2, he, hcn, _⟩ := own_cells h.on_
  cases he
  have FD := hid (find_any kb sn cn (.slice sp P.length cp) N s w h.row hcn hr (by omega))
  have K0 := hid h
  have HPL := hid hPl
  have HR := hid hr
  clear h hcn hPl hr
  go_enter Tryd.func58, Tryd.ntmps58
  go_wp2_with (fail)
  with_reducible refine FD.out.mono ?_
  rintro e w1 ⟨i, hsp, rfl, b1⟩
  have hile := hsp.le
  have k1 := K0.out.on b1
  have K1 := hid k1
  have SP := hid hsp
  have c1 := fun j => cell_row k1.row j
  have f1 := fun j => unfrozen_row k1.row j
  have hb1 := k1.size
  clear hsp b1 k1
  go_wp2_with (first
    | (rw [← HW5.out])
    | (rw [← HW3.out])
    | (have q := K3; clear q; at_builtin; refine mk_app rfl _ _ 22 _ 8 rfl Tryd.underlying22 info3 rfl (by decide) (⟨K3.out.op, K3.out.below⟩ : Mk w0 W3 3 1 (.slice sp P.length cp) P.length (nu P)) [.int .i64 0] 3 _ rfl rfl rfl rfl (fun u hu => by simp at hu; subst hu; rfl) (by have := HPL.out; omega) (by have := HPL.out; omega) ?_; intro sy cy w4 g4 m4; obtain ⟨hr4, hk5⟩ := (K3.out.on ((Below.refl _ _).alloc (Nat.le_refl _) _)).place m4.own g4; have c4 := fun j => cell_row hr4 j; have f4 := fun j => unfrozen_row hr4 j; have hb4 := (Array.getElem?_eq_some_iff.1 hr4).1; obtain ⟨W5, hW5⟩ : ∃ W5, W5 = w4.setCell ⟨kb, 1, none⟩ (.slice sy (P.length + 1) cy) := ⟨_, rfl⟩; rw [← hW5] at hk5; have HW5 := hid hW5; have K5 := hid hk5; have c5 := fun j => cell_row hk5.row j; have f5 := fun j => unfrozen_row hk5.row j; have hb5 := hk5.size; clear g4 m4 hr4 hk5 hW5)
    | (at_builtin; refine mk_app rfl _ _ 86 _ 16 rfl Tryd.underlying86 info9 rfl (by decide) (⟨K1.out.on_, K1.out.below⟩ : Mk w0 w1 9 1 (.slice sn N.length cn) N.length (ns N)) [.string ⟨#[]⟩] 9 _ rfl rfl rfl rfl (fun u hu => by simp at hu; subst hu; rfl) (by omega) (by omega) ?_; intro sx cx w2 g2 m2; obtain ⟨hr2, hk3⟩ := (K1.out.on ((Below.refl _ _).alloc (Nat.le_refl _) _)).name m2.own g2; have c2 := fun j => cell_row hr2 j; have f2 := fun j => unfrozen_row hr2 j; have hb2 := (Array.getElem?_eq_some_iff.1 hr2).1; obtain ⟨W3, hW3⟩ : ∃ W3, W3 = w2.setCell ⟨kb, 0, none⟩ (.slice sx (N.length + 1) cx) := ⟨_, rfl⟩; rw [← hW3] at hk3; have HW3 := hid hW3; have K3 := hid hk3; have c3 := fun j => cell_row hk3.row j; have f3 := fun j => unfrozen_row hk3.row j; have hb3 := hk3.size; clear g2 m2 hr2 hk3 hW3))
  obtain ⟨gn, cpn, curn, hvn, hrn, hBn, hnn, hmn, hsn, htn⟩ := own_open K5.out.on_ (by simp)
  simp only [List.length_append, List.length_cons, List.length_nil, Nat.zero_add, Value.slice.injEq, true_and] at hvn
  obtain ⟨rfl, rfl⟩ := hvn
  have hnn2 : N.length + 1 ≤ cx := by simpa using hnn
  obtain ⟨cur1, hcp1, hsz1, ht1⟩ := copy_up (W := W5.drew) (i := i) (n := N.length) (xs := ns N) (z := .string ⟨#[]⟩) Tryd.underlying86 size9 hrn hsn hnn2 hile (by simp [ns]) (by simpa [ns] using htn) (ns_one N) (by omega)
  obtain ⟨W6, hW6⟩ : ∃ W6, W6 = W5.drew.setRow gn cur1 := ⟨_, rfl⟩
  have hr6 : W6.heap[gn]? = some (.cells cur1 9 (0, 0)) := by rw [hW6]; exact setRow_heap _ _ curn _ 9 (0, 0) hrn
  have K6 : Hid (Kn w0 W6 kb (.slice (some ⟨gn, 0, none⟩) (N.length + 1) cx) (.slice sy (P.length + 1) cy) ((N ++ [(⟨#[]⟩ : ByteArray)]).take (i + 1) ++ N.drop i) (P ++ [0])) := by
    refine (K5.out.on (Below.refl _ _).drew).names (by rw [hW6]; exact setRow_grown _ _ _) hr6 hsz1 hnn2 (by simpa using hmn) (by simp; omega) (by rw [ht1]; simp [ns, List.map_take, List.map_drop])
  have a0 : W5.drew.cell? ⟨kb, 0, none⟩ = some (.slice (some ⟨gn, 0, none⟩) (N.length + 1) cx) := (c5 0).trans rfl
  have a6 : W6.cell? ⟨kb, 0, none⟩ = some (.slice (some ⟨gn, 0, none⟩) (N.length + 1) cx) := (cell_row K6.out.row 0).trans rfl
  have v1 : IntKind.i64.wrap ((i : Int) + 1) = (i : Int) + 1 := by rw [IntKind.wrap_i64]; omega
  have v2 : (0 : Int) ≤ (i : Int) + 1 := by omega
  have v3 : (i : Int) + 1 ≤ (N.length : Int) + 1 := by omega
  have v4 : ((i : Int) + 1).toNat = i + 1 := by omega
  have v5 : (i : Int) ≤ (N.length : Int) + 1 := by omega
  rw [← hW6] at hcp1
  have HW6 := hid hW6
  clear hW6 c1 f1 hb1 c2 f2 hb2 c3 f3 hb3 c4 f4 hb4 HW3 HW5 hrn hsn htn hsz1 ht1
  refine wp_region_noPanic ?_
  refine wp_region_held_drew (S := fun W => W.cell? ⟨kb, 0, none⟩ = some (.slice (some ⟨gn, 0, none⟩) (N.length + 1) cx)) (by kernel_rfl) a0 (fun hHeld => ?_)
  refine wpAnyH_take (i := 0) (v := ?_) (by simp only [List.getElem?_toArray, List.getElem?_cons_zero]; rfl) (by kernel_rfl) (by kernel_rfl) (by kernel_rfl) (fun _ _ _ h => h) (Or.inl ⟨by rfl, ?_⟩) (by assumption) ?_
  rotate_left 1
  · intro w hSw; (try dsimp only at hSw); go_simp; (try with_reducible rfl)
  try simp only [Act.put, List.setIfInBounds_toArray, List.set_cons_zero, List.set_cons_succ]
  refine wpAnyH_take (i := 1) (v := ?_) (by simp only [List.getElem?_toArray, List.getElem?_cons_succ, List.getElem?_cons_zero]; rfl) (by kernel_rfl) (by kernel_rfl) (by kernel_rfl) (fun _ _ _ h => h) (Or.inl ⟨by rfl, ?_⟩) (by assumption) ?_
  rotate_left 1
  · intro w hSw; (try dsimp only at hSw); go_simp; (try with_reducible rfl)
  try simp only [Act.put, List.setIfInBounds_toArray, List.set_cons_zero, List.set_cons_succ]
  refine wpAnyH_take (i := 2) (v := ?_) (by simp only [List.getElem?_toArray, List.getElem?_cons_succ, List.getElem?_cons_zero]; rfl) (by kernel_rfl) (by kernel_rfl) (by kernel_rfl) (fun _ _ _ h => h) (Or.inl ⟨by rfl, ?_⟩) (by assumption) ?_
  rotate_left 1
  · intro w hSw; (try dsimp only at hSw); go_simp; (try with_reducible rfl)
  try simp only [Act.put, List.setIfInBounds_toArray, List.set_cons_zero, List.set_cons_succ]
  refine wpAnyH_take (i := 3) (v := ?_) (by simp only [List.getElem?_toArray, List.getElem?_cons_succ, List.getElem?_cons_zero]; rfl) (by kernel_rfl) (by kernel_rfl) (by kernel_rfl) (fun _ _ _ h => h) (Or.inl ⟨by rfl, ?_⟩) (by assumption) ?_
  rotate_left 1
  · intro w hSw; (try dsimp only at hSw); go_simp; (try with_reducible rfl)
  try simp only [Act.put, List.setIfInBounds_toArray, List.set_cons_zero, List.set_cons_succ]
  refine wpAnyH_take (i := 4) (v := ?_) (by simp only [List.getElem?_toArray, List.getElem?_cons_succ, List.getElem?_cons_zero]; rfl) (by kernel_rfl) (by kernel_rfl) (by kernel_rfl) (fun _ _ _ h => h) (Or.inl ⟨by rfl, ?_⟩) (by assumption) ?_
  rotate_left 1
  · intro w hSw; (try dsimp only at hSw); go_simp; (try with_reducible rfl)
  try simp only [Act.put, List.setIfInBounds_toArray, List.set_cons_zero, List.set_cons_succ]
  refine wpAnyH_take (i := 5) (v := ?_) (by simp only [List.getElem?_toArray, List.getElem?_cons_succ, List.getElem?_cons_zero]; rfl) (by kernel_rfl) (by kernel_rfl) (by kernel_rfl) (fun _ _ _ h => h) (Or.inl ⟨by rfl, ?_⟩) (by assumption) ?_
  rotate_left 1
  · intro w hSw; (try dsimp only at hSw); go_simp; (try with_reducible rfl)
  try simp only [Act.put, List.setIfInBounds_toArray, List.set_cons_zero, List.set_cons_succ]
  refine wpAnyH_take (i := 6) (v := ?_) (by simp only [List.getElem?_toArray, List.getElem?_cons_succ, List.getElem?_cons_zero]; rfl) (by kernel_rfl) (by kernel_rfl) (by kernel_rfl) (fun _ _ _ h => h) (Or.inl ⟨by rfl, ?_⟩) (by assumption) ?_
  rotate_left 1
  · intro w hSw; (try dsimp only at hSw); go_simp; (try with_reducible rfl)
  try simp only [Act.put, List.setIfInBounds_toArray, List.set_cons_zero, List.set_cons_succ]
  refine wpAnyH_take (i := 7) (v := ?_) (by simp only [List.getElem?_toArray, List.getElem?_cons_succ, List.getElem?_cons_zero]; rfl) (by kernel_rfl) (by kernel_rfl) (by kernel_rfl) (fun _ _ _ h => h) (Or.inl ⟨by rfl, ?_⟩) (by assumption) ?_
  rotate_left 1
  · intro w hSw; (try dsimp only at hSw); go_simp; (try with_reducible rfl)
  try simp only [Act.put, List.setIfInBounds_toArray, List.set_cons_zero, List.set_cons_succ]
  refine wpAnyH_take (i := 8) (v := ?_) (by simp only [List.getElem?_toArray, List.getElem?_cons_succ, List.getElem?_cons_zero]; rfl) (by kernel_rfl) (by kernel_rfl) (by kernel_rfl) (fun _ _ _ h => h) (Or.inl ⟨by rfl, ?_⟩) (by assumption) ?_
  rotate_left 1
  · intro w hSw; (try dsimp only at hSw); go_simp; (try with_reducible rfl)
  try simp only [Act.put, List.setIfInBounds_toArray, List.set_cons_zero, List.set_cons_succ]
  refine wpAnyH_take (i := 9) (v := ?_) (by simp only [List.getElem?_toArray, List.getElem?_cons_succ, List.getElem?_cons_zero]; rfl) (by kernel_rfl) (by kernel_rfl) (by kernel_rfl) (fun _ _ _ h => h) (Or.inl ⟨by rfl, ?_⟩) (by assumption) ?_
  rotate_left 1
  · intro w hSw; (try dsimp only at hSw); go_simp; (try with_reducible rfl)
  try simp only [Act.put, List.setIfInBounds_toArray, List.set_cons_zero, List.set_cons_succ]
  refine wpAnyH_take (i := 10) (v := ?_) (by simp only [List.getElem?_toArray, List.getElem?_cons_succ, List.getElem?_cons_zero]; rfl) (by kernel_rfl) (by kernel_rfl) (by kernel_rfl) (fun _ _ _ h => h) (Or.inl ⟨by rfl, ?_⟩) (by assumption) ?_
  rotate_left 1
  · intro w hSw; (try dsimp only at hSw); go_simp; (try with_reducible rfl)
  try simp only [Act.put, List.setIfInBounds_toArray, List.set_cons_zero, List.set_cons_succ]
  refine wpAnyH_take (i := 11) (v := ?_) (by simp only [List.getElem?_toArray, List.getElem?_cons_succ, List.getElem?_cons_zero]; rfl) (by kernel_rfl) (by kernel_rfl) (by kernel_rfl) (fun _ _ _ h => h) (Or.inl ⟨by rfl, ?_⟩) (by assumption) ?_
  rotate_left 1
  · intro w hSw; (try dsimp only at hSw); go_simp; (try with_reducible rfl)
  try simp only [Act.put, List.setIfInBounds_toArray, List.set_cons_zero, List.set_cons_succ]
  refine wpAnyH_take (i := 12) (v := ?_) (by simp only [List.getElem?_toArray, List.getElem?_cons_succ, List.getElem?_cons_zero]; rfl) (by kernel_rfl) (by kernel_rfl) (by kernel_rfl) (fun _ _ _ h => h) (Or.inl ⟨by rfl, ?_⟩) (by assumption) ?_
  rotate_left 1
  · intro w hSw; (try dsimp only at hSw); go_simp; (try with_reducible rfl)
  try simp only [Act.put, List.setIfInBounds_toArray, List.set_cons_zero, List.set_cons_succ]
  refine wpAnyH_ready (rs := [13]) (by kernel_rfl) (by simp) ?_
  refine AllReadyH.cons (by simp only [List.getElem?_toArray, List.getElem?_cons_succ, List.getElem?_cons_zero]; rfl) (fun K hK => ?_) AllReadyH.nil
  go_simp
  clear hHeld
  refine hK.out _ _ a6 (fun hHeld => ?_)
  clear hK K
  try simp only [Act.put, List.setIfInBounds_toArray, List.set_cons_zero, List.set_cons_succ]
  refine wpAnyH_done (by kernel_rfl) ?_ _
  refine NoPanic.normal ?_
  go_wp2
  all_goals
    obtain ⟨gp, cpp, curp, hvp, hrp, hBp, hnp, hmp, hsp2, htp⟩ := own_open K6.out.op (by simp)
    simp only [List.length_append, List.length_cons, List.length_nil, Nat.zero_add, Value.slice.injEq, true_and] at hvp
    obtain ⟨rfl, rfl⟩ := hvp
    have hnp2 : P.length + 1 ≤ cy := by simpa using hnp
    have hilp : i ≤ P.length := by rw [HPL.out]; exact hile
    obtain ⟨cur2, hcp2, hsz2, ht2⟩ := copy_up (W := W6.drew) (i := i) (n := P.length) (xs := nu P) (z := .int .i64 0) Tryd.underlying22 size3 hrp hsp2 hnp2 hilp (by simp [nu]) (by simpa [nu] using htp) (nu_one P) (by omega)
    obtain ⟨W7, hW7⟩ : ∃ W7, W7 = W6.drew.setRow gp cur2 := ⟨_, rfl⟩
    have hr7 : W7.heap[gp]? = some (.cells cur2 3 (0, 0)) := by rw [hW7]; exact setRow_heap _ _ curp _ 3 (0, 0) hrp
    have K7 : Hid (Kn w0 W7 kb (.slice (some ⟨gn, 0, none⟩) (N.length + 1) cx) (.slice (some ⟨gp, 0, none⟩) (P.length + 1) cy) ((N ++ [(⟨#[]⟩ : ByteArray)]).take (i + 1) ++ N.drop i) ((P ++ [0]).take (i + 1) ++ P.drop i)) := by
      refine (K6.out.on (Below.refl _ _).drew).places (by rw [hW7]; exact setRow_grown _ _ _) hr7 hsz2 hnp2 (by simpa using hmp) (by simp; omega) (by rw [ht2]; simp [nu, List.map_take, List.map_drop])
    have b0 : W6.drew.cell? ⟨kb, 1, none⟩ = some (.slice (some ⟨gp, 0, none⟩) (P.length + 1) cy) := (cell_row K6.out.row 1).trans rfl
    have b7 : W7.cell? ⟨kb, 1, none⟩ = some (.slice (some ⟨gp, 0, none⟩) (P.length + 1) cy) := (cell_row K7.out.row 1).trans rfl
    have u3 : (i : Int) + 1 ≤ (P.length : Int) + 1 := by omega
    have u5 : (i : Int) ≤ (P.length : Int) + 1 := by omega
    rw [← hW7] at hcp2
    have HW7 := hid hW7
    clear hW7 hrp hsp2 htp a6 a0 hcp1
    refine wp_region_noPanic ?_
    refine wp_region_held_drew (S := fun W => W.cell? ⟨kb, 1, none⟩ = some (.slice (some ⟨gp, 0, none⟩) (P.length + 1) cy)) (by kernel_rfl) b0 (fun hHeld => ?_)
    refine wpAnyH_take (i := 0) (v := ?_) (by simp only [List.getElem?_toArray, List.getElem?_cons_zero]; rfl) (by kernel_rfl) (by kernel_rfl) (by kernel_rfl) (fun _ _ _ h => h) (Or.inl ⟨by rfl, ?_⟩) (by assumption) ?_
    rotate_left 1
    · intro w hSw; (try dsimp only at hSw); go_simp; (try with_reducible rfl)
    try simp only [Act.put, List.setIfInBounds_toArray, List.set_cons_zero, List.set_cons_succ]
    refine wpAnyH_take (i := 1) (v := ?_) (by simp only [List.getElem?_toArray, List.getElem?_cons_succ, List.getElem?_cons_zero]; rfl) (by kernel_rfl) (by kernel_rfl) (by kernel_rfl) (fun _ _ _ h => h) (Or.inl ⟨by rfl, ?_⟩) (by assumption) ?_
    rotate_left 1
    · intro w hSw; (try dsimp only at hSw); go_simp; (try with_reducible rfl)
    try simp only [Act.put, List.setIfInBounds_toArray, List.set_cons_zero, List.set_cons_succ]
    refine wpAnyH_take (i := 2) (v := ?_) (by simp only [List.getElem?_toArray, List.getElem?_cons_succ, List.getElem?_cons_zero]; rfl) (by kernel_rfl) (by kernel_rfl) (by kernel_rfl) (fun _ _ _ h => h) (Or.inl ⟨by rfl, ?_⟩) (by assumption) ?_
    rotate_left 1
    · intro w hSw; (try dsimp only at hSw); go_simp; (try with_reducible rfl)
    try simp only [Act.put, List.setIfInBounds_toArray, List.set_cons_zero, List.set_cons_succ]
    refine wpAnyH_take (i := 3) (v := ?_) (by simp only [List.getElem?_toArray, List.getElem?_cons_succ, List.getElem?_cons_zero]; rfl) (by kernel_rfl) (by kernel_rfl) (by kernel_rfl) (fun _ _ _ h => h) (Or.inl ⟨by rfl, ?_⟩) (by assumption) ?_
    rotate_left 1
    · intro w hSw; (try dsimp only at hSw); go_simp; (try with_reducible rfl)
    try simp only [Act.put, List.setIfInBounds_toArray, List.set_cons_zero, List.set_cons_succ]
    refine wpAnyH_take (i := 4) (v := ?_) (by simp only [List.getElem?_toArray, List.getElem?_cons_succ, List.getElem?_cons_zero]; rfl) (by kernel_rfl) (by kernel_rfl) (by kernel_rfl) (fun _ _ _ h => h) (Or.inl ⟨by rfl, ?_⟩) (by assumption) ?_
    rotate_left 1
    · intro w hSw; (try dsimp only at hSw); go_simp; (try with_reducible rfl)
    try simp only [Act.put, List.setIfInBounds_toArray, List.set_cons_zero, List.set_cons_succ]
    refine wpAnyH_take (i := 5) (v := ?_) (by simp only [List.getElem?_toArray, List.getElem?_cons_succ, List.getElem?_cons_zero]; rfl) (by kernel_rfl) (by kernel_rfl) (by kernel_rfl) (fun _ _ _ h => h) (Or.inl ⟨by rfl, ?_⟩) (by assumption) ?_
    rotate_left 1
    · intro w hSw; (try dsimp only at hSw); go_simp; (try with_reducible rfl)
    try simp only [Act.put, List.setIfInBounds_toArray, List.set_cons_zero, List.set_cons_succ]
    refine wpAnyH_take (i := 6) (v := ?_) (by simp only [List.getElem?_toArray, List.getElem?_cons_succ, List.getElem?_cons_zero]; rfl) (by kernel_rfl) (by kernel_rfl) (by kernel_rfl) (fun _ _ _ h => h) (Or.inl ⟨by rfl, ?_⟩) (by assumption) ?_
    rotate_left 1
    · intro w hSw; (try dsimp only at hSw); go_simp; (try with_reducible rfl)
    try simp only [Act.put, List.setIfInBounds_toArray, List.set_cons_zero, List.set_cons_succ]
    refine wpAnyH_take (i := 7) (v := ?_) (by simp only [List.getElem?_toArray, List.getElem?_cons_succ, List.getElem?_cons_zero]; rfl) (by kernel_rfl) (by kernel_rfl) (by kernel_rfl) (fun _ _ _ h => h) (Or.inl ⟨by rfl, ?_⟩) (by assumption) ?_
    rotate_left 1
    · intro w hSw; (try dsimp only at hSw); go_simp; (try with_reducible rfl)
    try simp only [Act.put, List.setIfInBounds_toArray, List.set_cons_zero, List.set_cons_succ]
    refine wpAnyH_take (i := 8) (v := ?_) (by simp only [List.getElem?_toArray, List.getElem?_cons_succ, List.getElem?_cons_zero]; rfl) (by kernel_rfl) (by kernel_rfl) (by kernel_rfl) (fun _ _ _ h => h) (Or.inl ⟨by rfl, ?_⟩) (by assumption) ?_
    rotate_left 1
    · intro w hSw; (try dsimp only at hSw); go_simp; (try with_reducible rfl)
    try simp only [Act.put, List.setIfInBounds_toArray, List.set_cons_zero, List.set_cons_succ]
    refine wpAnyH_take (i := 9) (v := ?_) (by simp only [List.getElem?_toArray, List.getElem?_cons_succ, List.getElem?_cons_zero]; rfl) (by kernel_rfl) (by kernel_rfl) (by kernel_rfl) (fun _ _ _ h => h) (Or.inl ⟨by rfl, ?_⟩) (by assumption) ?_
    rotate_left 1
    · intro w hSw; (try dsimp only at hSw); go_simp; (try with_reducible rfl)
    try simp only [Act.put, List.setIfInBounds_toArray, List.set_cons_zero, List.set_cons_succ]
    refine wpAnyH_take (i := 10) (v := ?_) (by simp only [List.getElem?_toArray, List.getElem?_cons_succ, List.getElem?_cons_zero]; rfl) (by kernel_rfl) (by kernel_rfl) (by kernel_rfl) (fun _ _ _ h => h) (Or.inl ⟨by rfl, ?_⟩) (by assumption) ?_
    rotate_left 1
    · intro w hSw; (try dsimp only at hSw); go_simp; (try with_reducible rfl)
    try simp only [Act.put, List.setIfInBounds_toArray, List.set_cons_zero, List.set_cons_succ]
    refine wpAnyH_take (i := 11) (v := ?_) (by simp only [List.getElem?_toArray, List.getElem?_cons_succ, List.getElem?_cons_zero]; rfl) (by kernel_rfl) (by kernel_rfl) (by kernel_rfl) (fun _ _ _ h => h) (Or.inl ⟨by rfl, ?_⟩) (by assumption) ?_
    rotate_left 1
    · intro w hSw; (try dsimp only at hSw); go_simp; (try with_reducible rfl)
    try simp only [Act.put, List.setIfInBounds_toArray, List.set_cons_zero, List.set_cons_succ]
    refine wpAnyH_take (i := 12) (v := ?_) (by simp only [List.getElem?_toArray, List.getElem?_cons_succ, List.getElem?_cons_zero]; rfl) (by kernel_rfl) (by kernel_rfl) (by kernel_rfl) (fun _ _ _ h => h) (Or.inl ⟨by rfl, ?_⟩) (by assumption) ?_
    rotate_left 1
    · intro w hSw; (try dsimp only at hSw); go_simp; (try with_reducible rfl)
    try simp only [Act.put, List.setIfInBounds_toArray, List.set_cons_zero, List.set_cons_succ]
    refine wpAnyH_ready (rs := [13]) (by kernel_rfl) (by simp) ?_
    refine AllReadyH.cons (by simp only [List.getElem?_toArray, List.getElem?_cons_succ, List.getElem?_cons_zero]; rfl) (fun K hK => ?_) AllReadyH.nil
    go_simp
    clear hHeld
    refine hK.out _ _ b7 (fun hHeld => ?_)
    clear hK K
    try simp only [Act.put, List.setIfInBounds_toArray, List.set_cons_zero, List.set_cons_succ]
    refine wpAnyH_done (by kernel_rfl) ?_ _
    refine NoPanic.normal ?_
    have c7 := fun j => cell_row K7.out.row j
    have hb7 := K7.out.size
    obtain ⟨gn2, cpn2, curn2, hvn2, hrn2, hBn2, hnn3, hmn2, hsn2, htn2⟩ := own_open K7.out.on_ (by simp; omega)
    simp only [Value.slice.injEq, Option.some.injEq, Addr.mk.injEq, and_true] at hvn2
    obtain ⟨rfl, hln2, rfl⟩ := hvn2
    have fn := fun j => unfrozen_row hrn2 j
    obtain ⟨vn, en⟩ : ∃ v, W7.cell? ⟨gn, i, none⟩ = some v := ⟨_, (cell_row hrn2 i).trans (Array.getElem?_eq_getElem (by omega))⟩
    have hgn7 := (Array.getElem?_eq_some_iff.1 hrn2).1
    obtain ⟨W8, hW8⟩ : ∃ W8, W8 = W7.setCell ⟨gn, i, none⟩ (.string s) := ⟨_, rfl⟩
    have hr8 : W8.heap[gn]? = some (.cells (curn2.setIfInBounds i (.string s)) 9 (0, 0)) := by rw [hW8]; exact row_set hrn2
    have K8 : Hid (Kn w0 W8 kb (.slice (some ⟨gn, 0, none⟩) (N.length + 1) cx) (.slice (some ⟨gp, 0, none⟩) (P.length + 1) cy) (N.take i ++ s :: N.drop i) ((P ++ [0]).take (i + 1) ++ P.drop i)) := by
      refine K7.out.names (by rw [hW8]; exact grown_set (World.grownBy.refl _ _)) hr8 (by simpa using hsn2) hnn2 hmn2 (by simp; omega) ?_
      rw [Array.toList_setIfInBounds, List.take_set, hln2, htn2, ← put_in N (⟨#[]⟩ : ByteArray) s i hile]
      simp [ns, List.map_set]
    have K7p := K7.out.op
    have c8 := fun j => cell_row K8.out.row j
    have hb8 := K8.out.size
    obtain ⟨gp2, cpp2, curp2, hvp2, hrp2, hBp2, hnp3, hmp2, hsp3, htp2⟩ := own_open K8.out.op (by simp; omega)
    simp only [Value.slice.injEq, Option.some.injEq, Addr.mk.injEq, and_true] at hvp2
    obtain ⟨rfl, hlp2, rfl⟩ := hvp2
    have fp := fun j => unfrozen_row hrp2 j
    obtain ⟨vp, ep⟩ : ∃ v, W8.cell? ⟨gp, i, none⟩ = some v := ⟨_, (cell_row hrp2 i).trans (Array.getElem?_eq_getElem (by omega))⟩
    have hgp8 := (Array.getElem?_eq_some_iff.1 hrp2).1
    obtain ⟨W9, hW9⟩ : ∃ W9, W9 = W8.setCell ⟨gp, i, none⟩ (.int .i64 p) := ⟨_, rfl⟩
    have hr9 : W9.heap[gp]? = some (.cells (curp2.setIfInBounds i (.int .i64 p)) 3 (0, 0)) := by rw [hW9]; exact row_set hrp2
    have K9 : Hid (Kn w0 W9 kb (.slice (some ⟨gn, 0, none⟩) (N.length + 1) cx) (.slice (some ⟨gp, 0, none⟩) (P.length + 1) cy) (N.take i ++ s :: N.drop i) (P.take i ++ p :: P.drop i)) := by
      refine K8.out.places (by rw [hW9]; exact grown_set (World.grownBy.refl _ _)) hr9 (by simpa using hsp3) hnp2 hmp2 (by simp; omega) ?_
      rw [Array.toList_setIfInBounds, List.take_set, hlp2, htp2, ← put_in P (0 : Int) p i hilp]
      simp [nu, List.map_set]
    have HW8 := hid hW8
    have HW9 := hid hW9
    clear hW8 hW9 hln2 hlp2 htn2 htp2 hsn2 hsp3 hr8 hr9 hrn2 hrp2 hcp2 K7p hnn hnp hnn3 hnp3 ht2 hsz2 hr7 hr6 c5 f5 hb5
    go_wp2_with (first
      | (rw [← HW8.out])
      | (rw [← HW9.out]))
    all_goals first | go_end0 | refine bodyPost_end (results_none rfl _ _ _) rfl ?_
    all_goals exact ⟨⟨_, rfl⟩, _, _, i, SP.out, K9.out⟩
end Go.Proofs.YtfmmmhcpdinhgaaDoor
/-
  The document's own Formed.
-/
namespace Go.Proofs.YtfmmmhcpdinhgaaDoor
open Go.RowKit Go.Deep PureNet
set_option maxRecDepth 100000

/-- what Formed says. -/
def FormedSays (c : Net) (e : Ending) : Prop := ∃ b : Bool, e = .returned (.bool b) ∧ (b = true ↔ PureNet.Formed c)
theorem FormedSays.no {c : Net} (h : ¬ PureNet.Formed c) : FormedSays c (.returned (.bool false)) := ⟨false, rfl, ⟨fun e => (by cases e), fun e => absurd e h⟩⟩

set_option maxHeartbeats 2000000 in
set_option maxRecDepth 100000 in
theorem formed_any (c : Net) (sg so : Option Addr) (cg co : Nat) (w : World) (hc : CirAt w c sg so) (hn : c.name.size ≤ 140737488351232) (hns : ∀ g ∈ c.gates, g.name.size ≤ 140737488351232) (hl : c.gates.length ≤ 1099511627776) (hlo : c.outs.length ≤ 1099511627776) :
    Calls Tryd.prog 28 #[cirV c sg cg so co] w fun e w' => FormedSays c e ∧ Below w.heap.size w w' := by
  have HC := hid hc
  have HNS := hid hns
  clear hc hns
  obtain ⟨n, hnn⟩ : ∃ n, n = c.gates.length := ⟨_, rfl⟩
  obtain ⟨no, hno⟩ : ∃ no, no = c.outs.length := ⟨_, rfl⟩
  obtain ⟨nb, hnb⟩ : ∃ nb, nb = nameB c.name := ⟨_, rfl⟩
  obtain ⟨x, hx⟩ : ∃ x, x = w.alloc (Obj.cells #[Value.string c.name, Value.slice sg c.gates.length cg, Value.slice so c.outs.length co] 26) := ⟨_, rfl⟩
  have c0 : x.heap[w.heap.size]? = some (.cells #[Value.string c.name, Value.slice sg n cg, Value.slice so no co] 26 (0, 0)) := by rw [hx, hnn, hno]; exact heap_alloc_new w _
  have C0 := hid c0
  have BX : Hid (Below w.heap.size w x) := by rw [hx]; exact (Below.refl _ _).alloc (Nat.le_refl _) _
  have NM := hid (name_any c.name x hn)
  have HN := hid hnn
  have HNO := hid hno
  have HNB := hid hnb
  rw [← hnb] at NM
  have hbx := (Array.getElem?_eq_some_iff.1 c0).1
  have d0 := fun j => cell_row c0 j
  rw [← hnn] at hx hl
  rw [← hno] at hx hlo
  have HX := hid hx
  have RD : Hid (∀ W, Below x.heap.size x W → (∀ j, W.cell? ⟨w.heap.size, j, none⟩ = (#[Value.string c.name, Value.slice sg n cg, Value.slice so no co] : Array Value)[j]?) ∧ w.heap.size < W.heap.size) := fun W hW => by
    have h2 := (hW.block _ (Array.getElem?_eq_some_iff.1 C0.out).1).trans C0.out
    exact ⟨fun j => cell_row h2 j, (Array.getElem?_eq_some_iff.1 h2).1⟩
  show Calls Tryd.prog 28 #[.agg #[Value.string c.name, Value.slice sg c.gates.length cg, Value.slice so c.outs.length co]] w _
  rw [← hnn, ← hno]
  clear c0 hnn hno hnb hx
  go_enter Tryd.func28, Tryd.ntmps28
  cases nb with
  | false =>
    have NF : Hid (¬ PureNet.Formed c) := fun h => by have h2 := HNB.out; rw [h.name] at h2; cases h2
    go_wp2_with (first | (rw [← HX.out]) | (go_at_call 55; refine Calls.mono NM.out ?_; rintro e w1 ⟨rfl, b1⟩; obtain ⟨d1, hb1⟩ := RD.out w1 b1; have B1 := hid b1; clear b1))
    go_ret
    exact ⟨FormedSays.no NF.out, BX.out.trans (B1.out.mono BX.out.size)⟩
  | true =>
  by_cases h1 : 65536 < n
  · have NF : Hid (¬ PureNet.Formed c) := fun h => by have h2 := h.few; rw [← HN.out] at h2; omega
    go_wp2_with (first | (rw [← HX.out]) | (go_at_call 55; refine Calls.mono NM.out ?_; rintro e w1 ⟨rfl, b1⟩; obtain ⟨d1, hb1⟩ := RD.out w1 b1; have B1 := hid b1; clear b1))
    go_ret
    exact ⟨FormedSays.no NF.out, BX.out.trans (B1.out.mono BX.out.size)⟩
  by_cases h2 : 65536 < no
  · have NF : Hid (¬ PureNet.Formed c) := fun h => by have h3 := h.fewOuts; rw [← HNO.out] at h3; omega
    go_wp2_with (first | (rw [← HX.out]) | (go_at_call 55; refine Calls.mono NM.out ?_; rintro e w1 ⟨rfl, b1⟩; obtain ⟨d1, hb1⟩ := RD.out w1 b1; have B1 := hid b1; clear b1))
    go_ret
    exact ⟨FormedSays.no NF.out, BX.out.trans (B1.out.mono BX.out.size)⟩
  go_wp2_with (first | (rw [← HX.out]) | (go_at_call 55; refine Calls.mono NM.out ?_; rintro e w1 ⟨rfl, b1⟩; obtain ⟨d1, hb1⟩ := RD.out w1 b1; have B1 := hid b1; clear b1))
  have K0 : Hid (Kn x (w1.alloc (.cells #[.slice none 0 0, .slice none 0 0] 88)) w1.heap.size (.slice none 0 0) (.slice none 0 0) [] []) := ⟨heap_alloc_new w1 _, B1.out.size, World.ownsRow_nil _ _ _ _, World.ownsRow_nil _ _ _ _, B1.out.alloc B1.out.size _⟩
  go_loopw [6] (fun iv W => ∃ (i : Nat) (N : List ByteArray) (P : List Int) (nv pv : Value), i ≤ n ∧ iv = .int .i64 (i : Int) ∧ Hid (Kn x W w1.heap.size nv pv N P ∧ FT c.gates i N P)) (fun iv _ => n - (intOf iv).toNat)
  case atStart => exact ⟨0, [], [], _, _, Nat.zero_le _, rfl, K0.out, FT.start _⟩
  case round =>
    obtain ⟨i, N, P, nv, pv, hi, rfl, HK⟩ := hrel
    clear K0 NM
    obtain ⟨e0, he0⟩ := RD.out wr HK.out.1.below
    have BW : Hid (Below w.heap.size w wr) := BX.out.trans (HK.out.1.below.mono BX.out.size)
    by_cases hlt : i < n
    · obtain ⟨g, hg⟩ : ∃ g, c.gates[i]? = some g := ⟨_, List.getElem?_eq_getElem (by rw [← HN.out]; exact hlt)⟩
      obtain ⟨b, o, rfl, hb, a0, a1, a2, a3, a4, a5⟩ := gate_at (HC.out.gates.below BW.out) i g hg
      have hgn := HNS.out g (List.mem_of_getElem? hg)
      obtain ⟨X2, hX2⟩ : ∃ X2, X2 = wr.alloc (.cells #[Value.int .i64 g.kind, Value.string g.name, Value.int .i64 g.op, Value.int .i64 g.a, Value.int .i64 g.b, Value.int .i64 g.c] 38) := ⟨_, rfl⟩
      have BX2 : Hid (wr.heap.size ≤ X2.heap.size ∧ Below wr.heap.size wr X2) := by rw [hX2]; exact ⟨by simp, (Below.refl _ _).alloc (Nat.le_refl _) _⟩
      have K2 := hid (HK.out.1.on BX2.out.2)
      have RG : Hid (∀ W, Below X2.heap.size X2 W → (∀ j, W.cell? ⟨wr.heap.size, j, none⟩ = (#[Value.int .i64 g.kind, Value.string g.name, Value.int .i64 g.op, Value.int .i64 g.a, Value.int .i64 g.b, Value.int .i64 g.c] : Array Value)[j]?) ∧ wr.heap.size < W.heap.size) := fun W hW => by
        have h3 : X2.heap[wr.heap.size]? = some (.cells #[Value.int .i64 g.kind, Value.string g.name, Value.int .i64 g.op, Value.int .i64 g.a, Value.int .i64 g.b, Value.int .i64 g.c] 38 (0, 0)) := by rw [hX2]; exact heap_alloc_new wr _
        have h4 := (hW.block _ (Array.getElem?_eq_some_iff.1 h3).1).trans h3
        exact ⟨fun j => cell_row h4 j, (Array.getElem?_eq_some_iff.1 h4).1⟩
      obtain ⟨f2, hf2⟩ := RG.out X2 (Below.refl _ _)
      obtain ⟨sn, cn, rfl⟩ := own_shape K2.out.on_
      obtain ⟨sp, cp, rfl⟩ := own_shape K2.out.op
      have FTI := hid HK.out.2
      have hNl : N.length = i := FTI.out.len
      have PL : Hid (∀ W, Below X2.heap.size X2 W → Calls Tryd.prog 57 #[.pointer (some ⟨w1.heap.size, 0, none⟩), .string g.name] W fun e w' => e = .returned (.int .i64 (placeN N P g.name)) ∧ Below W.heap.size W w') := fun W hW => by
        have k := K2.out.on hW
        obtain ⟨sn2, cn2, en, kn, _⟩ := own_cells k.on_
        obtain ⟨sp2, cp2, ep, kp, _⟩ := own_cells k.op
        cases en
        cases ep
        have hr := k.row
        rw [FTI.out.lenP] at hr
        exact place_any w1.heap.size sn sp cn cp N P g.name W hr kn kp FTI.out.lenP FTI.out.rise (by omega)
      have AD : Hid (∀ W, Below X2.heap.size X2 W → Calls Tryd.prog 58 #[.pointer (some ⟨w1.heap.size, 0, none⟩), .string g.name, .int .i64 (i : Int)] W fun e w' => (∃ v, e = .returned v) ∧ ∃ nv' pv' q, Spot N g.name q ∧ Kn x w' w1.heap.size nv' pv' (N.take q ++ g.name :: N.drop q) (P.take q ++ (i : Int) :: P.drop q)) := fun W hW =>
        add_any w1.heap.size _ _ N P g.name i x W (K2.out.on hW) FTI.out.lenP FTI.out.rise (by omega)
      have NG := hid (name_any g.name X2 hgn)
      have FL := hid (fun W => formedLine_any g n W)
      have HX2 := hid hX2
      have HG := hid hg
      have HNM := hid (rfl : nameB g.name = nameB g.name)
      clear hX2 hg hgn HK
      cases hnm : nameB g.name with
      | false =>
        have NF := hid (not_formed_line FTI.out HG.out (.inl hnm))
        rw [hnm] at NG
        clear hnm
        cases hln : lineB g n with
        | false =>
          simp only [hln] at FL
          clear hln
          go_wp2_with (first | (rw [← HX2.out]) | (go_at_call 55; refine Calls.mono NG.out ?_; rintro e w2 ⟨rfl, b2⟩; obtain ⟨g2, hg2⟩ := RG.out w2 b2; have B2 := hid b2; clear b2) | (go_at_call 56; refine Calls.mono (FL.out w2) ?_; rintro e w3 ⟨rfl, b3⟩; have B3 : Hid (Below X2.heap.size X2 w3) := B2.out.trans (b3.mono B2.out.size); obtain ⟨g3, hg3⟩ := RG.out w3 B3.out; clear b3))
          go_ret
          exact ⟨FormedSays.no NF.out, BW.out.trans ((BX2.out.2.trans (B3.out.mono BX2.out.1)).mono BW.out.size)⟩
        | true =>
          simp only [hln] at FL
          clear hln
          go_wp2_with (first | (rw [← HX2.out]) | (go_at_call 55; refine Calls.mono NG.out ?_; rintro e w2 ⟨rfl, b2⟩; obtain ⟨g2, hg2⟩ := RG.out w2 b2; have B2 := hid b2; clear b2) | (go_at_call 56; refine Calls.mono (FL.out w2) ?_; rintro e w3 ⟨rfl, b3⟩; have B3 : Hid (Below X2.heap.size X2 w3) := B2.out.trans (b3.mono B2.out.size); obtain ⟨g3, hg3⟩ := RG.out w3 B3.out; clear b3))
          go_ret
          exact ⟨FormedSays.no NF.out, BW.out.trans ((BX2.out.2.trans (B3.out.mono BX2.out.1)).mono BW.out.size)⟩
      | true =>
        have HN1 := hid hnm
        rw [hnm] at NG
        clear hnm HNM
        cases hln : lineB g n with
        | false =>
          have NF := hid (not_formed_line FTI.out HG.out (.inr (.inl (by rw [← HN.out]; exact hln))))
          simp only [hln] at FL
          clear hln
          go_wp2_with (first | (rw [← HX2.out]) | (go_at_call 55; refine Calls.mono NG.out ?_; rintro e w2 ⟨rfl, b2⟩; obtain ⟨g2, hg2⟩ := RG.out w2 b2; have B2 := hid b2; clear b2) | (go_at_call 56; refine Calls.mono (FL.out w2) ?_; rintro e w3 ⟨rfl, b3⟩; have B3 : Hid (Below X2.heap.size X2 w3) := B2.out.trans (b3.mono B2.out.size); obtain ⟨g3, hg3⟩ := RG.out w3 B3.out; clear b3))
          go_ret
          exact ⟨FormedSays.no NF.out, BW.out.trans ((BX2.out.2.trans (B3.out.mono BX2.out.1)).mono BW.out.size)⟩
        | true =>
          have HL1 := hid hln
          simp only [hln] at FL
          clear hln
          by_cases hmem : g.name ∈ N
          · have NF := hid (not_formed_line FTI.out HG.out (.inr (.inr hmem)))
            have hpl : 0 ≤ placeN N P g.name := (FTI.out.place _).2 hmem
            obtain ⟨pl, hpe⟩ : ∃ pl, pl = placeN N P g.name := ⟨_, rfl⟩
            rw [← hpe] at hpl
            simp only [← hpe] at PL
            clear hpe hmem
            go_wp2_with (first | (rw [← HX2.out]) | (go_at_call 55; refine Calls.mono NG.out ?_; rintro e w2 ⟨rfl, b2⟩; obtain ⟨g2, hg2⟩ := RG.out w2 b2; have B2 := hid b2; clear b2) | (go_at_call 56; refine Calls.mono (FL.out w2) ?_; rintro e w3 ⟨rfl, b3⟩; have B3 : Hid (Below X2.heap.size X2 w3) := B2.out.trans (b3.mono B2.out.size); obtain ⟨g3, hg3⟩ := RG.out w3 B3.out; clear b3) | (go_at_call 57; refine Calls.mono (PL.out w3 B3.out) ?_; rintro e w4 ⟨rfl, b4⟩; have B4 : Hid (Below X2.heap.size X2 w4) := B3.out.trans (b4.mono B3.out.size); obtain ⟨g4, hg4⟩ := RG.out w4 B4.out; clear b4))
            go_ret
            exact ⟨FormedSays.no NF.out, BW.out.trans ((BX2.out.2.trans (B4.out.mono BX2.out.1)).mono BW.out.size)⟩
          · have HNW := hid hmem
            simp only [placeN_none hmem] at PL
            clear hmem
            go_wp2_with (first | (rw [← HX2.out]) | (go_at_call 55; refine Calls.mono NG.out ?_; rintro e w2 ⟨rfl, b2⟩; obtain ⟨g2, hg2⟩ := RG.out w2 b2; have B2 := hid b2; clear b2) | (go_at_call 56; refine Calls.mono (FL.out w2) ?_; rintro e w3 ⟨rfl, b3⟩; have B3 : Hid (Below X2.heap.size X2 w3) := B2.out.trans (b3.mono B2.out.size); obtain ⟨g3, hg3⟩ := RG.out w3 B3.out; clear b3) | (go_at_call 57; refine Calls.mono (PL.out w3 B3.out) ?_; rintro e w4 ⟨rfl, b4⟩; have B4 : Hid (Below X2.heap.size X2 w4) := B3.out.trans (b4.mono B3.out.size); obtain ⟨g4, hg4⟩ := RG.out w4 B4.out; clear b4) | (go_at_call 58; refine Calls.mono (AD.out w4 B4.out) ?_; rintro e w5 ⟨⟨av, rfl⟩, nv', pv', q, hsp, hk5⟩; have SP := hid hsp; have K5 := hid hk5; clear hsp hk5))
            exact ⟨⟨i + 1, _, _, _, _, hlt, by go_num, K5.out, FTI.out.next HG.out HN1.out (by rw [← HN.out]; exact HL1.out) HNW.out SP.out⟩, by simp [intOf]; omega⟩
    · obtain rfl : i = n := by omega
      have FTI := hid HK.out.2
      have HLN : Hid (∀ (k : Nat) (g : Ga), c.gates[k]? = some g → nameB g.name = true ∧ lineB g c.gates.length = true) := fun k g hg => FTI.out.lines k g (by rw [HN.out]; exact (List.getElem?_eq_some_iff.1 hg).1) hg
      have HAP : Hid (∀ (k j : Nat) (g h : Ga), c.gates[k]? = some g → c.gates[j]? = some h → g.name = h.name → k = j) := fun k j g h hg hh => FTI.out.apart k j g h (by rw [HN.out]; exact (List.getElem?_eq_some_iff.1 hg).1) (by rw [HN.out]; exact (List.getElem?_eq_some_iff.1 hh).1) hg hh
      have CR := hid (circles_any c.gates sg cg wr (HC.out.gates.below BW.out) (by rw [← HN.out]; omega) fun k g hg a ha => lineB_leans (HLN.out k g hg).2 ha)
      rw [← HN.out] at CR
      clear HK FTI
      go_wp2
      go_loopw [10] (fun jv W => ∃ j : Nat, j ≤ no ∧ jv = .int .i64 (j : Int) ∧ W = wr ∧ Hid (∀ (k : Nat) (o : Int), k < j → c.outs[k]? = some o → 0 ≤ o ∧ o < (i : Int))) (fun jv _ => no - (intOf jv).toNat)
      case atStart => exact ⟨0, Nat.zero_le _, rfl, rfl, fun k o hk => by omega⟩
      case round =>
        obtain ⟨j, hj, rfl, rfl, HO⟩ := hrel
        by_cases hlt2 : j < no
        · obtain ⟨y, hy⟩ : ∃ y, c.outs[j]? = some y := ⟨_, List.getElem?_eq_getElem (by rw [← HNO.out]; exact hlt2)⟩
          obtain ⟨b, o, rfl, hb, a0⟩ := num_at (HC.out.outs.below BW.out) j y hy
          have HY := hid hy
          clear hy
          by_cases hy0 : y < 0
          · have NF : Hid (¬ PureNet.Formed c) := fun h => by have := h.outs y (List.mem_of_getElem? HY.out); omega
            go_wp2
            go_ret
            exact ⟨FormedSays.no NF.out, BW.out⟩
          · by_cases hyn : (i : Int) ≤ y
            · have NF : Hid (¬ PureNet.Formed c) := fun h => by have := h.outs y (List.mem_of_getElem? HY.out); rw [← HN.out] at this; omega
              go_wp2
              go_ret
              exact ⟨FormedSays.no NF.out, BW.out⟩
            · have HO2 : Hid (∀ (k : Nat) (o : Int), k < j + 1 → c.outs[k]? = some o → 0 ≤ o ∧ o < (i : Int)) := fun k o hk ho => by
                by_cases hkj : k = j
                · rw [hkj, HY.out] at ho
                  cases ho
                  omega
                · exact HO.out k o (by omega) ho
              go_wp2
              exact ⟨⟨j + 1, hlt2, by go_num, trivial, HO2.out⟩, by simp [intOf]; omega⟩
        · obtain rfl : j = no := by omega
          have HOA : Hid (∀ o ∈ c.outs, 0 ≤ o ∧ o < (c.gates.length : Int)) := fun o ho => by
            obtain ⟨k, hk, e⟩ := List.getElem_of_mem ho
            rw [← HN.out]
            exact HO.out k o (by rw [HNO.out]; exact hk) (by rw [List.getElem?_eq_getElem hk, e])
          clear HO
          have hfew : i ≤ 65536 := by omega
          have hfewo : j ≤ 65536 := by omega
          go_wp2_with (go_at_call 59; refine Calls.mono CR.out ?_; rintro e w6 ⟨⟨r, rfl, hr⟩, b6⟩; have HR := hid hr; have B6 := hid b6; clear hr b6)
          go_ret
          refine ⟨⟨decide (r < 0), rfl, ?_⟩, BW.out.trans (B6.out.mono BW.out.size)⟩
          rw [decide_eq_true_iff]
          rcases HR.out with ⟨hr, hf⟩ | ⟨k, hr, _, hw, _⟩
          · exact ⟨fun _ => ⟨HNB.out.symm, by rw [← HN.out]; exact hfew, by rw [← HNO.out]; exact hfewo, HLN.out, HAP.out, HOA.out, hf⟩, fun _ => by omega⟩
          · exact ⟨fun h => by omega, fun h => absurd hw (h.free k)⟩
end Go.Proofs.YtfmmmhcpdinhgaaDoor
/-
  The values of a circuit's lines: that there are some, and what is known while they are reckoned.
-/
namespace PureNet
set_option maxRecDepth 100000

/-- so many rounds of reckoning all lines. -/
def roundV (l : List Ga) (ins las : List Bool) : Nat → List Bool
  | 0 => List.replicate l.length false
  | n + 1 => l.zipIdx.map fun p => worth l ins las (roundV l ins las n) p.2 p.1
theorem roundV_len (l : List Ga) (ins las : List Bool) (n : Nat) : (roundV l ins las n).length = l.length := by
  cases n <;> simp [roundV]
theorem roundV_at (l : List Ga) (ins las : List Bool) (n i : Nat) (g : Ga) (h : l[i]? = some g) : (roundV l ins las (n + 1))[i]? = some (worth l ins las (roundV l ins las n) i g) := by
  simp [roundV, h]
theorem valAt_congr {v v' : List Bool} {a : Int} (h : v[a.toNat]? = v'[a.toNat]?) : valAt v a = valAt v' a := by
  unfold valAt
  rw [List.getD_eq_getElem?_getD, List.getD_eq_getElem?_getD, h]
section
variable {l : List Ga} {r : Nat → Nat}
theorem lean_of (hl : ∀ (i : Nat) (g : Ga), l[i]? = some g → lineB g l.length = true) {i : Nat} {g : Ga} (hg : l[i]? = some g) {a : Int} (ha : a ∈ leansOn g) : Leans l i a.toNat ∧ ∃ h, l[a.toNat]? = some h := by
  obtain ⟨h0, h1⟩ := lineB_leans (hl i g hg) ha
  exact ⟨⟨g, hg, by rw [Int.toNat_of_nonneg h0]; exact ha⟩, _, List.getElem?_eq_getElem (by omega)⟩
theorem roundV_same (hr : Ranked l r) (hl : ∀ (i : Nat) (g : Ga), l[i]? = some g → lineB g l.length = true) (ins las : List Bool) : ∀ (n i : Nat) (g : Ga), l[i]? = some g → r i < n → (roundV l ins las (n + 1))[i]? = (roundV l ins las n)[i]? := by
  intro n
  induction n with
  | zero => intro i g _ h; omega
  | succ n ih =>
    intro i g hg h
    rw [roundV_at _ _ _ _ _ _ hg, roundV_at _ _ _ _ _ _ hg]
    refine congrArg some (worth_congr (lineB_kind (hl i g hg)) fun a ha => valAt_congr ?_)
    obtain ⟨h1, g', h2⟩ := lean_of hl hg ha
    have := hr i _ h1
    exact ih _ g' h2 (by omega)
theorem vals_exists (hr : Ranked l r) (hl : ∀ (i : Nat) (g : Ga), l[i]? = some g → lineB g l.length = true) (ins las : List Bool) : ∃ v, Vals l ins las v := by
  have hb : ∀ n, ∃ N, ∀ i, i < n → r i < N := by
    intro n
    induction n with
    | zero => exact ⟨0, fun i h => by omega⟩
    | succ n ih =>
      obtain ⟨N, hN⟩ := ih
      refine ⟨N + r n + 1, fun i h => ?_⟩
      by_cases e : i = n
      · rw [e]; omega
      · have := hN i (by omega); omega
  obtain ⟨N, hN⟩ := hb l.length
  refine ⟨roundV l ins las (N + 1), roundV_len _ _ _ _, fun i g hg => ?_⟩
  rw [roundV_at _ _ _ _ _ _ hg]
  refine congrArg some (worth_congr (lineB_kind (hl i g hg)) fun a ha => valAt_congr ?_)
  obtain ⟨_, g', h2⟩ := lean_of hl hg ha
  exact (roundV_same hr hl ins las N _ g' h2 (hN _ (List.getElem?_eq_some_iff.1 h2).1)).symm
end
theorem Formed.vals {c : Net} (h : Formed c) (ins las : List Bool) : ∃ v, Vals c.gates ins las v := by
  obtain ⟨r, hr⟩ := ranked_of_free (fun i g hg => (h.lines i g hg).2) h.free
  exact vals_exists hr (fun i g hg => (h.lines i g hg).2) ins las
/-- where no line is in a circle, all are laid. -/
theorem LayS.all {l : List Ga} {out : List Nat} (h : LayS l out out.length (fun j => decide (((entsOf l).getD j (0, 0)).1 ∈ out.take out.length))) (hf : ∀ i, ¬ Way l i i) (hl : ∀ (i : Nat) (g : Ga), l[i]? = some g → lineB g l.length = true) : ∀ x, x < l.length → x ∈ out := by
  intro x hx
  apply Classical.byContradiction
  intro hn
  obtain ⟨k, _, hk⟩ := circle_of (l := l) (fun i => i < l.length ∧ i ∉ out) (fun i hi => by
    obtain ⟨y, hy, hyo⟩ := h.fin hi.1 hi.2
    obtain ⟨g, a, hg, ha, e⟩ := (ents_mem l y i).1 hy
    obtain ⟨h1, g', h2⟩ := lean_of hl hg ha
    rw [e] at h1 h2
    exact ⟨hi.1, y, h1, (List.getElem?_eq_some_iff.1 h2).1, hyo⟩) ⟨hx, hn⟩
  exact hf k hk
/-- whether a line is an input or a latch. -/
def srcB (l : List Ga) (x : Nat) : Bool := match l[x]? with
  | some g => decide (g.kind = 1 ∨ g.kind = 3)
  | none => false
theorem srcB_of {l : List Ga} {x : Nat} {g : Ga} (h : l[x]? = some g) : srcB l x = decide (g.kind = 1 ∨ g.kind = 3) := by unfold srcB; rw [h]
/-- a row of truths by what it says. -/
def bitF (n : Nat) (f : Nat → Bool) : List Bool := (List.range n).map f
theorem bitF_len (n : Nat) (f : Nat → Bool) : (bitF n f).length = n := by simp [bitF]
theorem bitF_at (n : Nat) (f : Nat → Bool) (x : Nat) (h : x < n) : (bitF n f)[x]? = some (f x) := by simp [bitF, h]
theorem bitF_congr {n : Nat} {f g : Nat → Bool} (h : ∀ x, x < n → f x = g x) : bitF n f = bitF n g := by
  unfold bitF
  exact List.map_congr_left fun x hx => h x (by simpa using hx)
theorem bitF_set {n : Nat} {f g : Nat → Bool} {y : Nat} {b : Bool} (hy : g y = b) (h : ∀ x, x < n → x ≠ y → f x = g x) : (bitF n f).set y b = bitF n g := by
  apply List.ext_getElem?
  intro k
  rw [List.getElem?_set]
  by_cases hk : k < n
  · rw [bitF_at n g k hk]
    by_cases e : y = k
    · rw [if_pos e, if_pos (by rw [bitF_len]; omega), ← hy, e]
    · rw [if_neg e, bitF_at n f k hk, h k hk (fun h => e h.symm)]
  · rw [List.getElem?_eq_none (by rw [bitF_len]; omega : (bitF n g).length ≤ k)]
    split
    · rw [if_neg (by rw [bitF_len]; omega)]
    · exact List.getElem?_eq_none (by rw [bitF_len]; omega)
theorem bitF_no (n : Nat) : bitF n (fun _ => false) = List.replicate n false := by
  apply List.ext_getElem?
  intro k
  by_cases hk : k < n
  · rw [bitF_at n _ k hk]; simp [hk]
  · rw [List.getElem?_eq_none (by rw [bitF_len]; omega), List.getElem?_eq_none (by simp; omega)]
theorem bitF_all {v : List Bool} {n : Nat} (h : v.length = n) (f : Nat → Bool) (hf : ∀ x, x < n → f x = v.getD x false) : bitF n f = v := by
  apply List.ext_getElem?
  intro k
  by_cases hk : k < n
  · rw [bitF_at n _ k hk, hf k hk, List.getD_eq_getElem?_getD, List.getElem?_eq_getElem (by omega)]; rfl
  · rw [List.getElem?_eq_none (by rw [bitF_len]; omega), List.getElem?_eq_none (by omega)]
/-- the row behind i lines: inputs and latches. -/
def up1 (l : List Ga) (v : List Bool) (i x : Nat) : Bool := decide (x < i) && (srcB l x && v.getD x false)
/-- the row behind the first k of the order. -/
def up2 (l : List Ga) (v : List Bool) (out : List Nat) (k x : Nat) : Bool := (srcB l x || decide (x ∈ out.take k)) && v.getD x false
theorem up1_zero (l : List Ga) (v : List Bool) (x : Nat) : up1 l v 0 x = false := by simp [up1]
theorem up1_next_src (l : List Ga) (v : List Bool) (i : Nat) (h : srcB l i = true) : up1 l v (i + 1) i = v.getD i false := by simp [up1, h]
theorem up1_next (l : List Ga) (v : List Bool) (i x : Nat) (h : x ≠ i ∨ srcB l i = false) : up1 l v i x = up1 l v (i + 1) x := by
  unfold up1
  by_cases e : x = i
  · rcases h with h | h
    · exact absurd e h
    · subst e; simp [h]
  · have : (x < i) ↔ (x < i + 1) := by omega
    rw [decide_eq_decide.2 this]
theorem up12 (l : List Ga) (v : List Bool) (out : List Nat) (x n : Nat) (h : x < n) : up1 l v n x = up2 l v out 0 x := by simp [up1, up2, h]
theorem up2_at {l : List Ga} {v : List Bool} {out : List Nat} {k y : Nat} (hy : out[k]? = some y) : up2 l v out (k + 1) y = v.getD y false := by
  have : y ∈ out.take (k + 1) := by rw [List.take_add_one, hy]; simp
  simp [up2, this]
theorem up2_next {l : List Ga} {v : List Bool} {out : List Nat} {k y : Nat} (hy : out[k]? = some y) (x : Nat) (h : x ≠ y ∨ srcB l y = true) : up2 l v out k x = up2 l v out (k + 1) x := by
  unfold up2
  by_cases e : x = y
  · rcases h with h | h
    · exact absurd e h
    · subst e; simp [h]
  · have : (x ∈ out.take (k + 1)) ↔ (x ∈ out.take k) := by
      rw [List.take_add_one, hy]
      simp [e]
    rw [decide_eq_decide.2 this]
theorem up2_lean {l : List Ga} {v : List Bool} {out : List Nat} {D : Nat → Bool} {q k y : Nat} (h : LayS l out q D) (hy : out[k]? = some y) {g : Ga} (hg : l[y]? = some g) {a : Int} (ha : a ∈ leansOn g) : up2 l v out k a.toNat = valAt v a := by
  obtain ⟨m, hm, e⟩ := h.ord k y hy a.toNat ((ents_mem l a.toNat y).2 ⟨g, a, hg, ha, rfl⟩)
  have hin : a.toNat ∈ out.take k := List.mem_of_getElem? (i := m) (by rw [List.getElem?_take_of_lt hm]; exact e)
  simp [up2, hin, valAt]
end PureNet
