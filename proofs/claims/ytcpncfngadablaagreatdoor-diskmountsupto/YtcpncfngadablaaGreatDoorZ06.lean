import Derived.LaidLaws
import Derived.MakeChecks
import Derived.Laws.AppendOwn
import Derived.Deep.DeepAppendRoom
import Derived.ArgAppend
import Derived.Below
import Derived.Lib.OwnKind
import Derived.Laws.IdiomStrings
import Derived.Deep.DeepCutAuto
import Derived.OwnWalk
import Derived.Deep.MidRow
import Derived.Deep.RegionHeld3
import Derived.Test.YtcpncfngadablaaGreatDoorZ05
namespace Go.Proofs.YtcpncfngadablaaGreatDoor
open Go.ChangeShapes Go.WideShapes Go.ChangeAt Go.RowKit Go.Deep

theorem cells182 : Tryz.prog.cellsOf 206 = 1 := by kernel_rfl
theorem star : "*" ++ "errors.errorString" = "*errors.errorString" := by decide
theorem row158 (u : TypeId) (h : Tryz.prog.typeName? 3 u = some "*errors.errorString") : u = 183 :=
  typeName_ptr_named (nm := "errors.errorString") (by rw [star]; kernel_rfl) (by kernel_rfl) (by decide) u (by rw [star]; exact h)


set_option maxRecDepth 100000 in
theorem laid_step {W : World} {n : String} {i : Nat} {text : List UInt8} {r : List (String × DataW Unit)} {ps all : List MemPlace} (hg : Tryz.prog.globalNamed n = some i) (ht : (Tryz.prog.globals[i]?).map (·.type) = some 75)
    (h : DataW.LaidVars Tryz.prog W ((n, .iface "*errors.errorString" (.ptr (.agg [.lit (.string text)]))) :: r) ps) (hsub : ∀ x ∈ ps, x ∈ all)
    (hrows : ∀ b off, MemPlace.cell b off ∈ all → (∃ c t, W.heap[b]? = some (.cells c t (0, 0))) ∧ ∀ u v, W.cell? ⟨b, off, none⟩ = some (.iface u v) → Value.okWide Tryz.prog W .any 0 u v) :
    ∃ (a : Addr) (q : List MemPlace), W.cell? ⟨i, 0, none⟩ = some (.iface 183 (.pointer (some a))) ∧ (∃ c t, W.heap[a.block]? = some (.cells c t (0, 0))) ∧ a.spot = none ∧ DataW.LaidVars Tryz.prog W r q ∧ ps = .cell i 0 :: .cell a.block a.off :: q := by
  obtain ⟨g, t, cs, f, p, q, hg0, ht0, hv0, hd0, hr, e⟩ := h
  obtain rfl := Option.some.inj (hg.symm.trans hg0)
  obtain rfl := Option.some.inj (ht.symm.trans ht0)
  obtain ⟨l0⟩ := cs
  have ok0 : ∀ u v, l0 = [.iface u v] → Value.okWide Tryz.prog W .any 0 u v := fun u v el => by
    subst el
    exact (hrows i 0 (hsub _ (by rw [e]; simp [MemPlace.row]))).2 u v (by simpa using World.var?_cell hg0 hv0 0)
  obtain ⟨a, s, rfl, hc, _, _, rfl⟩ := errorString_of_trod Tryz.underlying75 row158 Tryz.underlying183 Tryz.underlying206 rfl rfl Tryz.underlying9 cells182 cells9 hd0 ok0
  have hsp := World.cell?_spot hc
  have hps : ps = .cell i 0 :: .cell a.block a.off :: q := by rw [e]; simp [MemPlace.row]
  exact ⟨a, q, by simpa using World.var?_cell hg0 hv0 0, (hrows a.block a.off (hsub _ (by rw [hps]; simp))).1, hsp, hr, hps⟩

set_option maxRecDepth 100000 in
/-- the eleven errors of the package, as the row's list gives them. -/
theorem sents_of_laid {W : World} (h0 : laidMetH Tryz.prog Rows.diskFreshUptoRow.laid W) : ∃ E, Env W W.heap.size E := by
  have h : laidMet Tryz.prog Rows.diskFreshUptoRow.laid W := h0
  obtain ⟨ps, hl0, hnd, hrows⟩ := h
  obtain ⟨a0, q0, v0, o0, s0, hl1, e0⟩ := laid_step (W := W) (i := 0) (by kernel_rfl) (by kernel_rfl) hl0 (fun x hx => hx) hrows
  obtain ⟨a1, q1, v1, o1, s1, hl2, e1⟩ := laid_step (W := W) (i := 1) (by kernel_rfl) (by kernel_rfl) hl1 (fun x hx => by rw [e0]; simp [hx]) hrows
  obtain ⟨a2, q2, v2, o2, s2, hl3, e2⟩ := laid_step (W := W) (i := 2) (by kernel_rfl) (by kernel_rfl) hl2 (fun x hx => by rw [e0, e1]; simp [hx]) hrows
  obtain ⟨a3, q3, v3, o3, s3, hl4, e3⟩ := laid_step (W := W) (i := 3) (by kernel_rfl) (by kernel_rfl) hl3 (fun x hx => by rw [e0, e1, e2]; simp [hx]) hrows
  obtain ⟨a4, q4, v4, o4, s4, hl5, e4⟩ := laid_step (W := W) (i := 4) (by kernel_rfl) (by kernel_rfl) hl4 (fun x hx => by rw [e0, e1, e2, e3]; simp [hx]) hrows
  obtain ⟨a5, q5, v5, o5, s5, hl6, e5⟩ := laid_step (W := W) (i := 5) (by kernel_rfl) (by kernel_rfl) hl5 (fun x hx => by rw [e0, e1, e2, e3, e4]; simp [hx]) hrows
  obtain ⟨a6, q6, v6, o6, s6, hl7, e6⟩ := laid_step (W := W) (i := 6) (by kernel_rfl) (by kernel_rfl) hl6 (fun x hx => by rw [e0, e1, e2, e3, e4, e5]; simp [hx]) hrows
  obtain ⟨a7, q7, v7, o7, s7, hl8, e7⟩ := laid_step (W := W) (i := 7) (by kernel_rfl) (by kernel_rfl) hl7 (fun x hx => by rw [e0, e1, e2, e3, e4, e5, e6]; simp [hx]) hrows
  obtain ⟨a8, q8, v8, o8, s8, hl9, e8⟩ := laid_step (W := W) (i := 8) (by kernel_rfl) (by kernel_rfl) hl8 (fun x hx => by rw [e0, e1, e2, e3, e4, e5, e6, e7]; simp [hx]) hrows
  obtain ⟨a9, q9, v9, o9, s9, hl10, e9⟩ := laid_step (W := W) (i := 9) (by kernel_rfl) (by kernel_rfl) hl9 (fun x hx => by rw [e0, e1, e2, e3, e4, e5, e6, e7, e8]; simp [hx]) hrows
  obtain ⟨a10, q10, v10, o10, s10, hl11, e10⟩ := laid_step (W := W) (i := 10) (by kernel_rfl) (by kernel_rfl) hl10 (fun x hx => by rw [e0, e1, e2, e3, e4, e5, e6, e7, e8, e9]; simp [hx]) hrows
  rw [e0, e1, e2, e3, e4, e5, e6, e7, e8, e9, e10] at hnd
  have hsub : ([a0, a1, a2, a3, a4, a5, a6, a7, a8, a9, a10].map fun a => MemPlace.cell a.block a.off).Nodup := List.Nodup.sublist (.cons _ (.cons_cons _ (.cons _ (.cons_cons _ (.cons _ (.cons_cons _ (.cons _ (.cons_cons _ (.cons _ (.cons_cons _ (.cons _ (.cons_cons _ (.cons _ (.cons_cons _ (.cons _ (.cons_cons _ (.cons _ (.cons_cons _ (.cons _ (.cons_cons _ (.cons _ (.cons_cons _ (List.nil_sublist _))))))))))))))))))))))) hnd
  have hL : [a0, a1, a2, a3, a4, a5, a6, a7, a8, a9, a10].Nodup := (List.pairwise_map.1 hsub).imp (fun {a b} hab e => hab (by rw [e]))
  have hne : ∀ i j : Nat, i < 11 → j < 11 → (fun k => #[a0, a1, a2, a3, a4, a5, a6, a7, a8, a9, a10].getD k a0) i = (fun k => #[a0, a1, a2, a3, a4, a5, a6, a7, a8, a9, a10].getD k a0) j → i = j := fun i j hi hj e => by
    have e1 : ∀ k (hk : k < 11), #[a0, a1, a2, a3, a4, a5, a6, a7, a8, a9, a10].getD k a0 = [a0, a1, a2, a3, a4, a5, a6, a7, a8, a9, a10][k]'(by simpa using hk) := fun k hk => by simp [Array.getD, hk]
    simp only [e1 i hi, e1 j hj] at e
    have hp := List.pairwise_iff_getElem.1 hL
    rcases Nat.lt_trichotomy i j with h | h | h
    · exact absurd e (hp i j _ _ h)
    · exact h
    · exact absurd e.symm (hp j i _ _ h)
  refine ⟨fun k => #[a0, a1, a2, a3, a4, a5, a6, a7, a8, a9, a10].getD k a0, ⟨⟨fun i hi => ?_, fun i hi => ?_, hne⟩, ?_, fun i hi => ?_, Nat.le_refl _⟩⟩
  · match i, hi with
    | 0, _ => exact v0
    | 1, _ => exact v1
    | 2, _ => exact v2
    | 3, _ => exact v3
    | 4, _ => exact v4
    | 5, _ => exact v5
    | 6, _ => exact v6
    | 7, _ => exact v7
    | 8, _ => exact v8
    | 9, _ => exact v9
    | 10, _ => exact v10
  · match i, hi with
    | 0, _ => exact o0
    | 1, _ => exact o1
    | 2, _ => exact o2
    | 3, _ => exact o3
    | 4, _ => exact o4
    | 5, _ => exact o5
    | 6, _ => exact o6
    | 7, _ => exact o7
    | 8, _ => exact o8
    | 9, _ => exact o9
    | 10, _ => exact o10
  · have := World.block_lt_of_cell? W _ v10
    exact this
  · match i, hi with
    | 0, _ => exact (by obtain ⟨c, t, ho⟩ := o0; exact lt_of_block ho)
    | 1, _ => exact (by obtain ⟨c, t, ho⟩ := o1; exact lt_of_block ho)
    | 2, _ => exact (by obtain ⟨c, t, ho⟩ := o2; exact lt_of_block ho)
    | 3, _ => exact (by obtain ⟨c, t, ho⟩ := o3; exact lt_of_block ho)
    | 4, _ => exact (by obtain ⟨c, t, ho⟩ := o4; exact lt_of_block ho)
    | 5, _ => exact (by obtain ⟨c, t, ho⟩ := o5; exact lt_of_block ho)
    | 6, _ => exact (by obtain ⟨c, t, ho⟩ := o6; exact lt_of_block ho)
    | 7, _ => exact (by obtain ⟨c, t, ho⟩ := o7; exact lt_of_block ho)
    | 8, _ => exact (by obtain ⟨c, t, ho⟩ := o8; exact lt_of_block ho)
    | 9, _ => exact (by obtain ⟨c, t, ho⟩ := o9; exact lt_of_block ho)
    | 10, _ => exact (by obtain ⟨c, t, ho⟩ := o10; exact lt_of_block ho)
end Go.Proofs.YtcpncfngadablaaGreatDoor
/-
  Lists that were handed out, and what is grown out of them: which blocks turn, which stay. For any program.
-/
namespace ShfKit
open Go Go.RowKit
set_option maxRecDepth 100000

section
variable {P : Program} {w w' W W' : World} {B B' e size n m : Nat} {v u : Value} {xs news A M : List Value}

theorem own_base (h : w.ownsRow B' e size v n xs) (hB : B ≤ B') : w.ownsRow B e size v n xs := by
  refine ⟨h.1, ?_⟩
  rcases h.2 with hn | ⟨g, cap, cur, hv, hb, rest⟩
  · exact .inl hn
  · exact .inr ⟨g, cap, cur, hv, Nat.le_trans hB hb, rest⟩
theorem own_block (h : w.ownsRow B e size v n xs) {g : Nat} (hg : v.ownBlock = some g) : B ≤ g ∧ g < w.heap.size := by
  rcases h.2 with ⟨hv, _⟩ | ⟨g', cap, cur, hv, hb, hr, _⟩
  · rw [hv] at hg; cases hg
  · rw [hv] at hg
    simp only [Value.ownBlock, Option.some.injEq] at hg
    subst hg
    exact ⟨hb, (Array.getElem?_eq_some_iff.1 hr).1⟩
theorem own_kept (h : w.ownsRow B e size v n xs) (hk : ∀ g, v.ownBlock = some g → w'.heap[g]? = w.heap[g]?) : w'.ownsRow B e size v n xs := by
  refine ⟨h.1, ?_⟩
  rcases h.2 with hn | ⟨g, cap, cur, hv, hb, hr, rest⟩
  · exact .inl hn
  · exact .inr ⟨g, cap, cur, hv, hb, (hk g (by rw [hv]; rfl)).trans hr, rest⟩

/-- append: where it stood, or in a block that is new. -/
theorem run_append_far (w : World) (B : Nat) (t ty e : TypeId) (i : TypeInfo) (z : Value) (size bytes : Nat) (ht : P.underlying t = some (.slice e)) (hi : P.info? e = some i) (hz : i.zero = some z)
    (hsize : i.size = size) (hby : i.bytes = bytes) (hzs : z.cells.size = size) (hsz : 0 < size)
    (v : Value) (n : Nat) (xs : List Value) (hown : w.ownsRow B e size v n xs)
    (a : Addr) (m c : Nat) (news : List Value) (hl : news.length = m * size) (hnews : ∀ j u, news[j]? = some u → w.cell? (a.add j) = some u) (h1 : ∀ u ∈ news, u.oneCell' = true)
    (h63 : n + m ≤ maxLen) (hbytes : (n + m) * bytes ≤ 140737488355328) (hbase : B ≤ w.heap.size) :
    ∃ v' w', (Builtin.append_ #[t, t] ty #[v, .slice (some a) m c]).run P w = .ok v' w' ∧ w'.ownsRow B e size v' (n + m) (xs ++ news) ∧
      ((v'.ownBlock = v.ownBlock ∧ w.grownBy w' v.ownBlock) ∨ ((∀ g, v'.ownBlock = some g → w.heap.size ≤ g) ∧ w.grownBy w' none)) := by
  rcases hown.2 with ⟨rfl, rfl⟩ | ⟨g, cap, cur, rfl, hb, hr, hnc, hcm, hcs, htk⟩
  · obtain rfl : xs = [] := List.eq_nil_of_length_eq_zero (by simpa using hown.1)
    obtain ⟨v', w', hrun, r1, r2, _⟩ := run_append_own (P := P) w w.heap.size t ty e i z size bytes ht hi hz hsize hby hzs hsz (.slice none 0 0) 0 [] (World.ownsRow_nil w _ e size) a m c news hl hnews h1 h63 hbytes (Nat.le_refl _)
    exact ⟨v', w', hrun, own_base r1 hbase, .inr ⟨fun g hg => (own_block r1 hg).1, r2⟩⟩
  · by_cases hroom : n + m ≤ cap
    · obtain ⟨w', hrun, r1, r2⟩ := run_append_own_spare (P := P) w B t ty e i size ht hi hsize g n cap xs hown a m c news hl hnews h1 hroom
      exact ⟨_, w', hrun, r1, .inl ⟨rfl, r2⟩⟩
    · have hold : ∀ j u, xs[j]? = some u → w.cell? ((⟨g, 0, none⟩ : Addr).add j) = some u := fun j u hj => by
        rw [Addr.add_lit, Nat.zero_add]
        have h1 : cur.toList[j]? = some u := by
          rw [← htk] at hj
          rw [List.getElem?_take] at hj
          split at hj
          · exact hj
          · cases hj
        simp [World.cell?, hr]
        simpa using h1
      obtain ⟨v', w', hrun, r1, r2⟩ := run_append_arg_grows (P := P) w t ty e i z size bytes ht hi hz hsize hby hzs hsz ⟨g, 0, none⟩ n cap xs hown.1 hold a m c news hl hnews (by omega) h63 hbytes
      exact ⟨v', w', hrun, own_base r1 hbase, .inr ⟨fun g hg => (own_block r1 hg).1, r2⟩⟩

/-- the same, for the walk. -/
theorem wpList_append_far {ops : Array Oper} {rest : List Oper} {o : Oper} {a : Act} {Q : Exit → Act → World → Prop} (w : World)
    (hg : o.guard = none) (s x : Operand) (t : TypeId) (hop : o.op = Op.call { callee := Callee.builtin Builtin.append, args := #[s, x], argTypes := #[t, t] })
    (B : Nat) (e : TypeId) (i : TypeInfo) (z : Value) (size bytes : Nat) (ht : P.underlying t = some (.slice e)) (hi : P.info? e = some i) (hz : i.zero = some z)
    (hsize : i.size = size) (hby : i.bytes = bytes) (hzs : z.cells.size = size) (hsz : 0 < size)
    (v : Value) (n : Nat) (xs : List Value) (hs : a.eval s = v) (hown : w.ownsRow B e size v n xs)
    (ad : Addr) (m c : Nat) (news : List Value) (hx : a.eval x = .slice (some ad) m c) (hl : news.length = m * size) (hnews : ∀ j u, news[j]? = some u → w.cell? (ad.add j) = some u) (h1 : ∀ u ∈ news, u.oneCell' = true)
    (h63 : n + m ≤ maxLen) (hbytes : (n + m) * bytes ≤ 140737488355328) (hbase : B ≤ w.heap.size)
    (hK : ∀ v' w', w'.ownsRow B e size v' (n + m) (xs ++ news) → ((v'.ownBlock = v.ownBlock ∧ w.grownBy w' v.ownBlock) ∨ ((∀ g, v'.ownBlock = some g → w.heap.size ≤ g) ∧ w.grownBy w' none)) → wpList P ops Q rest (a.put o.dst v') w') :
    wpList P ops Q (o :: rest) a w := by
  refine wpList_plain hg fun K hK' => ?_
  obtain ⟨v', w', hrun, r1, r2⟩ := run_append_far (P := P) w B t o.type e i z size bytes ht hi hz hsize hby hzs hsz v n xs hown ad m c news hl hnews h1 h63 hbytes hbase
  unfold Oper.wp
  simp [execOp, hop, resolve, invoke, builtin, hs, hx, hrun, Result.andThen]
  exact hK' _ _ (hK v' w' r1 r2)

/-- v: a list as it was handed out, with the cells A; u: what has been grown out of it, with the cells M. -/
structure Pair (W : World) (B e size : Nat) (v : Value) (n : Nat) (A : List Value) (u : Value) (m : Nat) (M : List Value) : Prop where
  shape : ∃ sa c, v = .slice sa n c
  len : A.length = n * size
  rd : ∀ j (hj : j < A.length), ∃ g c, v = .slice (some ⟨g, 0, none⟩) n c ∧ B ≤ g ∧ g < W.heap.size ∧ W.cell? ⟨g, j, none⟩ = some A[j]
  lo : ∀ g, v.ownBlock = some g → B ≤ g ∧ g < W.heap.size
  own : W.ownsRow B e size u m M
  fr : M.take A.length = A
/-- a block of one of the two. -/
def InB (v u : Value) (k : Nat) : Prop := v.ownBlock = some k ∨ u.ownBlock = some k

theorem Pair.start (h : W.ownsRow B e size v n A) : Pair W B e size v n A v n A := by
  refine ⟨?_, h.1, fun j hj => ?_, fun g hg => own_block h hg, h, by rw [List.take_length]⟩
  · rcases h.2 with ⟨hv, h0⟩ | ⟨g, cap, cur, hv, _⟩
    · exact ⟨none, 0, by rw [hv, h0]⟩
    · exact ⟨_, _, hv⟩
  · rcases h.2 with ⟨hv, h0⟩ | ⟨g, cap, cur, hv, hb, hr, hnc, hcm, hcs, htk⟩
    · have := h.1
      rw [h0] at this
      omega
    · refine ⟨g, cap, hv, hb, (Array.getElem?_eq_some_iff.1 hr).1, ?_⟩
      have h1 : cur.toList[j]? = some A[j] := by
        have h2 : (cur.toList.take (n * size))[j]? = some A[j] := by rw [htk, List.getElem?_eq_getElem hj]
        rw [List.getElem?_take] at h2
        split at h2
        · exact h2
        · cases h2
      simp [World.cell?, hr]
      simpa using h1
theorem Pair.kept (h : Pair W B e size v n A u m M) (hs : W.heap.size ≤ W'.heap.size) (hk : ∀ k, InB v u k → W'.heap[k]? = W.heap[k]?) : Pair W' B e size v n A u m M := by
  refine ⟨h.shape, h.len, fun j hj => ?_, fun g hg => ⟨(h.lo g hg).1, Nat.lt_of_lt_of_le (h.lo g hg).2 hs⟩, own_kept h.own fun g hg => hk g (.inr hg), h.fr⟩
  obtain ⟨g, c, hv, hb, hl, hc⟩ := h.rd j hj
  refine ⟨g, c, hv, hb, Nat.lt_of_lt_of_le hl hs, ?_⟩
  rw [World.cell?_of_block (w := W) (hk g (.inl (by rw [hv]; rfl)))]
  exact hc
theorem Pair.blk (h : Pair W B e size v n A u m M) {k : Nat} (hk : InB v u k) : B ≤ k ∧ k < W.heap.size := by
  rcases hk with hk | hk
  · exact h.lo k hk
  · exact own_block h.own hk
/-- one more. -/
theorem Pair.grow (h : Pair W B e size v n A u m M) {u' : Value} {m' : Nat} {x : List Value} (ho : W'.ownsRow B e size u' m' (M ++ x))
    (hf : (u'.ownBlock = u.ownBlock ∧ W.grownBy W' u.ownBlock) ∨ ((∀ g, u'.ownBlock = some g → W.heap.size ≤ g) ∧ W.grownBy W' none)) :
    Pair W' B e size v n A u' m' (M ++ x) ∧ ∀ k, InB v u' k → InB v u k ∨ W.heap.size ≤ k := by
  have hfr : (M ++ x).take A.length = A := by
    have hl : A.length ≤ M.length := by
      have := congrArg List.length h.fr
      simp at this
      omega
    rw [List.take_append_of_le_length hl, h.fr]
  have hsz : W.heap.size ≤ W'.heap.size := by rcases hf with ⟨_, hg⟩ | ⟨_, hg⟩ <;> exact hg.size
  refine ⟨⟨h.shape, h.len, fun j hj => ?_, fun g hg => ⟨(h.lo g hg).1, Nat.lt_of_lt_of_le (h.lo g hg).2 hsz⟩, ho, hfr⟩, fun k hk => ?_⟩
  · obtain ⟨g, c, hv, hb, hl, hc⟩ := h.rd j hj
    refine ⟨g, c, hv, hb, Nat.lt_of_lt_of_le hl hsz, ?_⟩
    rcases hf with ⟨he, hg⟩ | ⟨_, hg⟩
    · by_cases hgu : u.ownBlock = some g
      · rw [← he] at hgu
        rcases ho.2 with ⟨hv', _⟩ | ⟨g', cap, cur, hv', _, hr, hnc, _, hcs, htk⟩
        · rw [hv'] at hgu
          exact absurd hgu (by simp [Value.ownBlock])
        · rw [hv'] at hgu
          simp only [Value.ownBlock, Option.some.injEq] at hgu
          subst hgu
          have h2 : (cur.toList.take (m' * size))[j]? = some A[j] := by
            rw [htk]
            have h3 : ((M ++ x).take A.length)[j]? = some A[j] := by rw [hfr, List.getElem?_eq_getElem hj]
            rw [List.getElem?_take_of_lt hj] at h3
            exact h3
          rw [List.getElem?_take] at h2
          split at h2
          · simp [World.cell?, hr]
            simpa using h2
          · cases h2
      · rw [World.cell?_of_block (w := W) (hg.block g hl (fun e => hgu e.symm))]
        exact hc
    · rw [World.cell?_of_block (w := W) (hg.block g hl (fun e => by cases e))]
      exact hc
  · rcases hk with hk | hk
    · exact .inl (.inl hk)
    · rcases hf with ⟨he, _⟩ | ⟨hn, _⟩
      · exact .inl (.inr (by rw [← he]; exact hk))
      · exact .inr (hn k hk)
end
end ShfKit
/-
  Several rows of one type, each in a block of its own. For any program.
-/
namespace ShfKit
open Go Go.RowKit
set_option maxRecDepth 100000

abbrev Rw := Value × Nat × List Value
/-- rows, each in a block of its own. -/
structure Fam (W : World) (B e size : Nat) (L : List Rw) : Prop where
  own : ∀ (i : Nat) (x : Rw), L[i]? = some x → W.ownsRow B e size x.1 x.2.1 x.2.2
  apart : ∀ (i j : Nat) (x y : Rw) (g : Nat), L[i]? = some x → L[j]? = some y → i ≠ j → x.1.ownBlock = some g → y.1.ownBlock ≠ some g

section
variable {P : Program} {W W' : World} {B e size : Nat} {L : List Rw}
theorem Fam.nil (W : World) (B e size : Nat) : Fam W B e size [] := ⟨fun i x h => by simp at h, fun i j x y g h => by simp at h⟩
theorem Fam.kept (h : Fam W B e size L) (hk : ∀ g, B ≤ g → g < W.heap.size → W'.heap[g]? = W.heap[g]?) : Fam W' B e size L :=
  ⟨fun i x hx => own_kept (h.own i x hx) fun g hg => hk g (own_block (h.own i x hx) hg).1 (own_block (h.own i x hx) hg).2, h.apart⟩
theorem Fam.below (h : Fam W B e size L) (hb : Below W.heap.size W W') : Fam W' B e size L := h.kept fun g _ hg => hb.block g hg
/-- one of them has become another, and only its own block has turned, or new ones have come. -/
theorem Fam.turn (h : Fam W B e size L) {i : Nat} {x y : Rw} (hx : L[i]? = some x) (ho : W'.ownsRow B e size y.1 y.2.1 y.2.2)
    (hf : (y.1.ownBlock = x.1.ownBlock ∧ W.grownBy W' x.1.ownBlock) ∨ ((∀ g, y.1.ownBlock = some g → W.heap.size ≤ g) ∧ W.grownBy W' none)) : Fam W' B e size (L.set i y) := by
  have hi := (List.getElem?_eq_some_iff.1 hx).1
  have old : ∀ (j : Nat) (z : Rw), j ≠ i → L[j]? = some z → W'.ownsRow B e size z.1 z.2.1 z.2.2 := fun j z hj hz => by
    refine own_kept (h.own j z hz) fun g hg => ?_
    have hlt := (own_block (h.own j z hz) hg).2
    rcases hf with ⟨_, hgr⟩ | ⟨_, hgr⟩
    · exact hgr.block g hlt (fun e => h.apart j i z x g hz hx hj hg e.symm)
    · exact hgr.block g hlt (fun e => by cases e)
  have new : ∀ (j : Nat) (z : Rw) (g : Nat), j ≠ i → L[j]? = some z → z.1.ownBlock = some g → y.1.ownBlock ≠ some g := fun j z g hj hz hg hy => by
    rcases hf with ⟨he, _⟩ | ⟨hn, _⟩
    · rw [he] at hy
      exact h.apart j i z x g hz hx hj hg hy
    · have := hn g hy
      have := (own_block (h.own j z hz) hg).2
      omega
  refine ⟨fun j z hz => ?_, fun j k z u g hz hu hjk hg => ?_⟩
  · rw [List.getElem?_set] at hz
    by_cases hji : i = j
    · rw [if_pos hji, if_pos (by omega)] at hz
      cases hz
      exact ho
    · rw [if_neg hji] at hz
      exact old j z (fun e => hji e.symm) hz
  · rw [List.getElem?_set] at hz hu
    by_cases hji : i = j
    · rw [if_pos hji, if_pos (by omega)] at hz
      cases hz
      rw [if_neg (by omega)] at hu
      intro hue
      exact new k u g (by omega) hu hue hg
    · rw [if_neg hji] at hz
      by_cases hki : i = k
      · rw [if_pos hki, if_pos (by omega)] at hu
        cases hu
        exact new j z g (fun e => hji e.symm) hz hg
      · rw [if_neg hki] at hu
        exact h.apart j k z u g hz hu hjk hg
/-- one more row, in a block that is new. -/
theorem Fam.push (h : Fam W B e size L) {y : Rw} (hb : Below W.heap.size W W') (ho : W'.ownsRow W.heap.size e size y.1 y.2.1 y.2.2) (hB : B ≤ W.heap.size) : Fam W' B e size (L ++ [y]) := by
  have h2 := h.below hb
  refine ⟨fun j z hz => ?_, fun j k z u g hz hu hjk hg => ?_⟩
  · by_cases hj : j < L.length
    · rw [List.getElem?_append_left hj] at hz
      exact h2.own j z hz
    · rw [List.getElem?_append_right (by omega)] at hz
      have : j - L.length = 0 := by have := (List.getElem?_eq_some_iff.1 hz).1; simp at this; omega
      rw [this] at hz
      cases hz
      exact own_base ho hB
  · by_cases hj : j < L.length
    · rw [List.getElem?_append_left hj] at hz
      by_cases hk : k < L.length
      · rw [List.getElem?_append_left hk] at hu
        exact h.apart j k z u g hz hu hjk hg
      · rw [List.getElem?_append_right (by omega)] at hu
        have : k - L.length = 0 := by have := (List.getElem?_eq_some_iff.1 hu).1; simp at this; omega
        rw [this] at hu
        cases hu
        intro e
        have := (own_block ho e).1
        have := (own_block (h.own j z hz) hg).2
        omega
    · rw [List.getElem?_append_right (by omega)] at hz
      have : j - L.length = 0 := by have := (List.getElem?_eq_some_iff.1 hz).1; simp at this; omega
      rw [this] at hz
      cases hz
      by_cases hk : k < L.length
      · rw [List.getElem?_append_left hk] at hu
        intro e
        have := (own_block ho hg).1
        have := (own_block (h.own k u hu) e).2
        omega
      · have := (List.getElem?_eq_some_iff.1 hu).1
        simp at this
        have hk2 : k = L.length := by omega
        have : j - L.length = 0 := by omega
        omega
/-- a cell of a row. -/
theorem own_cell {v : Value} {n : Nat} {xs : List Value} (h : W.ownsRow B e size v n xs) {j : Nat} {x : Value} (hj : xs[j]? = some x) : ∃ g c, v = .slice (some ⟨g, 0, none⟩) n c ∧ B ≤ g ∧ g < W.heap.size ∧ W.cell? ⟨g, j, none⟩ = some x ∧ W.frozen? ⟨g, j, none⟩ = false := by
  have hlt := (List.getElem?_eq_some_iff.1 hj).1
  rcases h.2 with ⟨hv, h0⟩ | ⟨g, cap, cur, hv, hb, hr, hnc, hcm, hcs, htk⟩
  · have := h.1
    rw [h0] at this
    omega
  · refine ⟨g, cap, hv, hb, (Array.getElem?_eq_some_iff.1 hr).1, ?_, by simp [World.frozen?, hr]⟩
    rw [← htk] at hj
    rw [List.getElem?_take] at hj
    split at hj
    · simp [World.cell?, hr]
      simpa using hj
    · cases hj
/-- a cell of a row is written. -/
theorem own_set {v : Value} {n : Nat} {xs : List Value} (h : W.ownsRow B e size v n xs) {g c j : Nat} (hv : v = .slice (some ⟨g, 0, none⟩) n c) (u : Value) : (W.setCell ⟨g, j, none⟩ u).ownsRow B e size v n (xs.set j u) ∧ W.grownBy (W.setCell ⟨g, j, none⟩ u) v.ownBlock := by
  have hob : v.ownBlock = some g := by rw [hv]; rfl
  refine ⟨⟨by rw [List.length_set]; exact h.1, ?_⟩, ⟨rfl, rfl, rfl, by simp [World.setCell], fun k hk hne => Below.heap_setCell W _ _ _ (fun e => hne (by rw [hob, e]))⟩⟩
  rcases h.2 with ⟨hv', h0⟩ | ⟨g', cap, cur, hv', hb, hr, hnc, hcm, hcs, htk⟩
  · rw [hv] at hv'; cases hv'
  · rw [hv] at hv'
    cases hv'
    refine .inr ⟨g, c, cur.setIfInBounds j u, hv, hb, ?_, hnc, hcm, by simpa using hcs, ?_⟩
    · simp [World.setCell, Array.getElem?_modify, hr]
    · rw [← htk, Array.toList_setIfInBounds, List.take_set]
theorem Fam.write (h : Fam W B e size L) {i : Nat} {x : Rw} (hx : L[i]? = some x) {g c j : Nat} (hv : x.1 = .slice (some ⟨g, 0, none⟩) x.2.1 c) (u : Value) : Fam (W.setCell ⟨g, j, none⟩ u) B e size (L.set i (x.1, x.2.1, x.2.2.set j u)) := by
  obtain ⟨h1, h2⟩ := own_set (h.own i x hx) (j := j) hv u
  exact h.turn (y := (x.1, x.2.1, x.2.2.set j u)) hx h1 (.inl ⟨rfl, h2⟩)
end
end ShfKit
/-
  The shelf: lists of lists that were told, each in a block of its own, kept and written over.
-/
namespace Go.Proofs.YtcpncfngadablaaGreatDoor
open Go Go.RowKit ShfKit
set_option maxRecDepth 100000


def blks (L : List Rw) : List Nat := L.flatMap fun x => x.1.ownBlock.toList

theorem mem_blks {L : List Rw} {b : Nat} : b ∈ blks L ↔ ∃ (i : Nat) (x : Rw), L[i]? = some x ∧ x.1.ownBlock = some b := by
  unfold blks
  rw [List.mem_flatMap]
  constructor
  · rintro ⟨x, hx, hb⟩
    obtain ⟨i, hi, rfl⟩ := List.getElem_of_mem hx
    exact ⟨i, _, List.getElem?_eq_getElem hi, by simpa using hb⟩
  · rintro ⟨i, x, hx, hb⟩
    exact ⟨x, List.mem_of_getElem? hx, by simp [hb]⟩


/-- only blocks of one type have turned. -/
def But (t : Nat) (w w' : World) : Prop := ∀ (k : Nat) (c : Array Value) (e : Nat) (fz : Nat × Nat), w.heap[k]? = some (Obj.cells c e fz) → e ≠ t → w'.heap[k]? = w.heap[k]?

section
variable {w w' w1 w2 : World} {t e size n : Nat} {B : Nat} {v : Value} {xs : List Value} {L M : List Rw}
theorem But.own (h : But t w w') (ho : w.ownsRow B e size v n xs) (hne : e ≠ t) : w'.ownsRow B e size v n xs := own_kept ho fun g hg => by
  obtain ⟨c, fz, hk⟩ := Lib.ownsRow_kind ho g hg
  exact h g c e fz hk hne
theorem But.fam (h : But t w w') (hf : Fam w B e size L) (hne : e ≠ t) : Fam w' B e size L := ⟨fun i x hx => h.own (hf.own i x hx) hne, hf.apart⟩
theorem But.of_grown {b : Option Nat} (h : w.grownBy w' b) (hb : ∀ k, b = some k → ∃ c fz, w.heap[k]? = some (.cells c t fz)) : But t w w' := fun k c e fz hk hne => h.block k (Array.getElem?_eq_some_iff.1 hk).1 (fun e2 => by
  obtain ⟨c2, fz2, h2⟩ := hb k e2.symm
  rw [hk] at h2
  simp at h2
  exact hne h2.2.1)
theorem But.of_own {v' : Value} (ho : w.ownsRow B t size v n xs) (h : (v'.ownBlock = v.ownBlock ∧ w.grownBy w' v.ownBlock) ∨ ((∀ g, v'.ownBlock = some g → w.heap.size ≤ g) ∧ w.grownBy w' none)) : But t w w' := by
  rcases h with ⟨_, h⟩ | ⟨_, h⟩
  · exact But.of_grown h (Lib.ownsRow_kind ho)
  · exact But.of_grown h (fun k hk => by cases hk)
theorem But.setCell {k i : Nat} {c : Array Value} {fz : Nat × Nat} (hk : w.heap[k]? = some (.cells c t fz)) (u : Value) : But t w (w.setCell ⟨k, i, none⟩ u) := fun j c2 e fz2 hj hne => Below.heap_setCell w _ _ _ (fun e2 => by
  have e3 : j = k := e2
  subst e3
  rw [hk] at hj
  simp at hj
  exact hne hj.2.1.symm)


theorem blks_lt (h : Fam w B e size L) : ∀ b ∈ blks L, b < w.heap.size := fun b hb => by
  obtain ⟨i, x, hx, hb⟩ := mem_blks.1 hb
  exact (own_block (h.own i x hx) hb).2


theorem blks_append : blks (L ++ M) = blks L ++ blks M := by simp [blks]

theorem grown_all {b : Option Nat} (h : (v.ownBlock = b ∧ w.grownBy w' b) ∨ ((∀ g, v.ownBlock = some g → w.heap.size ≤ g) ∧ w.grownBy w' none)) : w.grownBy w' b ∧ ∀ g, v.ownBlock = some g → b = some g ∨ w.heap.size ≤ g := by
  rcases h with ⟨e, h⟩ | ⟨e, h⟩
  · exact ⟨h, fun g hg => .inl (e ▸ hg)⟩
  · exact ⟨⟨h.os, h.tape, h.output, h.size, fun k hk _ => h.block k hk (by simp)⟩, fun g hg => .inr (e g hg)⟩

end
end Go.Proofs.YtcpncfngadablaaGreatDoor
/-
  The shelf: a list is written over; a list is grown and put back.
-/
namespace Go.Proofs.YtcpncfngadablaaGreatDoor
open Go Go.RowKit ShfKit
set_option maxRecDepth 100000
section
variable {w w' w1 w2 : World} {i : Nat} {x y : Rw}
theorem map_same {α β : Type} {f : α → β} {L : List α} {a b : α} (h : L[i]? = some a) (e : f b = f a) : (L.set i b).map f = L.map f := by
  rw [List.map_set]
  have : (L.map f)[i]? = some (f a) := by rw [List.getElem?_map, h]; rfl
  rw [e]
  exact (List.getElem?_eq_some_iff.1 this).2 ▸ List.set_getElem_self _
theorem grown_of_touch {g : Nat} (h : Touch [g] w w') : w.grownBy w' (some g) := ⟨h.os, h.tape, h.output, h.size, fun k hk hne => h.block k hk (by simp; intro e; exact hne (by rw [e]))⟩







end
end Go.Proofs.YtcpncfngadablaaGreatDoor
namespace Go.Proofs.YtcpncfngadablaaGreatDoor
open Go.RowKit Go.Deep

/-- the mark of a number, at a place. -/
def mk (n : Int) (k : Nat) : Int := n / 2 ^ (8 * (k % 3)) % 256

section
variable {w : World}

set_option maxRecDepth 100000 in
set_option maxHeartbeats 400000 in
theorem fill_row {g m c : Nat} {cs : Array Value} (n : Int) (h : w.heap[g]? = some (.cells cs 5 (0, 0))) (hm : m ≤ cs.size) (hb : ∀ j, j < m → ∃ x : Int, cs[j]? = some (.int .u8 x)) (hm2 : m ≤ 1099511627776) :
    Calls Tryz.prog 43 #[.slice (some ⟨g, 0, none⟩) m c, .int .i64 n] w fun e w' => e = .returned (.tuple #[]) ∧ (∃ cs' : Array Value, w'.heap[g]? = some (.cells cs' 5 (0, 0)) ∧ cs'.size = cs.size ∧ ∀ j, j < m → cs'[j]? = some (.int .u8 (mk n j))) ∧ Touch [g] w w' := by
  have H := hid h
  have HB := hid hb
  clear h hb
  go_enter Tryz.func43, Tryz.ntmps43
  go_wp2
  go_loopw [4] (fun i wr => ∃ k : Nat, k ≤ m ∧ i = .int .i64 k ∧ (∃ cs' : Array Value, wr.heap[g]? = some (.cells cs' 5 (0, 0)) ∧ cs'.size = cs.size ∧ (∀ j, j < m → ∃ x : Int, cs'[j]? = some (.int .u8 x)) ∧ (∀ j, j < k → cs'[j]? = some (.int .u8 (mk n j)))) ∧ Touch [g] w wr) (fun i _ => m - (intOf i).toNat)
  case atStart => exact ⟨0, Nat.zero_le _, rfl, ⟨cs, H.out, rfl, HB.out, fun j hj => by omega⟩, Touch.refl _ _⟩
  case round =>
    obtain ⟨k, hk, rfl, ⟨cs', hrow, hsz, hb, hd⟩, ht⟩ := hrel
    by_cases hlt : k < m
    · obtain ⟨x, hx⟩ := hb k hlt
      have c0 := cell_row hrow k
      rw [hx] at c0
      have f0 := unfrozen_row hrow k
      have HROW := hid hrow
      have HBB := hid hb
      have HD := hid hd
      have HT := hid ht
      clear hrow hb ht hx hd
      go_wp2
      have hrow2 := heap_setCell_row HROW.out k (.int .u8 (n / 2 ^ (8 * (k % 3)) % 256))
      refine ⟨⟨k + 1, by omega, by go_num, ⟨_, hrow2, by simpa using hsz, ?_, ?_⟩, HT.out.setCell (by simp) _⟩, by simp [intOf]; omega⟩
      · intro j hj
        by_cases e : j = k
        · subst e
          exact ⟨_, by rw [Array.getElem?_setIfInBounds_self_of_lt (by omega)]⟩
        · rw [Array.getElem?_setIfInBounds_ne (by omega)]
          exact HBB.out j hj
      · intro j hj
        by_cases e : j = k
        · subst e
          rw [Array.getElem?_setIfInBounds_self_of_lt (by omega)]
          rfl
        · rw [Array.getElem?_setIfInBounds_ne (by omega)]
          exact HD.out j (by omega)
    · have e : k = m := by omega
      subst e
      go_wp2
      go_end0
      exact ⟨rfl, ⟨cs', hrow, hsz, hd⟩, ht⟩

set_option maxRecDepth 100000 in
set_option maxHeartbeats 400000 in
theorem filled_row {g m c : Nat} {cs : Array Value} (n : Int) (h : w.heap[g]? = some (.cells cs 5 (0, 0))) (hm : m ≤ cs.size) (h64 : 64 < m) (hb : ∀ j, j < m → cs[j]? = some (.int .u8 (mk n (if m - 64 ≤ j then j - (m - 64) else j)))) (hm2 : m ≤ 1099511627776) :
    Calls Tryz.prog 77 #[.slice (some ⟨g, 0, none⟩) m c, .int .i64 n] w fun e w' => e = .returned (.bool true) ∧ Touch [] w w' := by
  have H := hid h
  have HB := hid hb
  clear h hb
  go_enter Tryz.func77, Tryz.ntmps77
  go_wp2
  go_loopw [6] (fun i wr => ∃ k : Nat, k ≤ m ∧ i = .int .i64 k ∧ wr.heap[g]? = some (.cells cs 5 (0, 0)) ∧ Touch [] w wr) (fun i _ => m - (intOf i).toNat)
  case atStart => exact ⟨0, Nat.zero_le _, rfl, H.out, Touch.refl _ _⟩
  case round =>
    obtain ⟨k, hk, rfl, hrow, ht⟩ := hrel
    by_cases hlt : k < m
    · have c0 := cell_row hrow k
      rw [HB.out k hlt] at c0
      have HROW := hid hrow
      have HT := hid ht
      clear hrow ht
      by_cases hd : m - 64 ≤ k
      · rw [if_pos hd] at c0
        obtain ⟨d, rfl⟩ : ∃ d, k = (m - 64) + d := ⟨k - (m - 64), by omega⟩
        have e1 : m - 64 + d - (m - 64) = d := by omega
        rw [e1] at c0
        clear e1
        have hdd : ((m - 64 : Nat) : Int) + (d : Int) - ((m : Int) - 64) = (d : Int) := by omega
        go_wp2
        simp only [mk] at c0
        go_quiet (fail)
        go_wp2
        exact ⟨⟨m - 64 + d + 1, by omega, by go_num, HROW.out, HT.out.drewN _⟩, by simp [intOf]; omega⟩
      · rw [if_neg hd] at c0
        simp only [mk] at c0
        go_wp2
        go_quiet (fail)
        go_wp2
        exact ⟨⟨k + 1, by omega, by go_num, HROW.out, HT.out.drewN _⟩, by simp [intOf]; omega⟩
    · have e : k = m := by omega
      subst e
      go_wp2
      go_ret
      exact ⟨rfl, ht⟩



end
end Go.Proofs.YtcpncfngadablaaGreatDoor
/-
  The shelf: its cells; a list is filled, a name is written.
-/
namespace Go.Proofs.YtcpncfngadablaaGreatDoor
open Go.RowKit Go.Deep ShfKit
set_option maxRecDepth 100000

section
variable {w W W' : World} {i k : Nat} {x y : Rw}
theorem sh_slice {B e size n : Nat} {v : Value} {xs : List Value} (h : W.ownsRow B e size v n xs) : ∃ sa c, v = .slice sa n c := by
  rcases h.2 with ⟨hv, h0⟩ | ⟨g, cap, cur, hv, _⟩
  · exact ⟨none, 0, by rw [hv, h0]⟩
  · exact ⟨_, _, hv⟩


end
end Go.Proofs.YtcpncfngadablaaGreatDoor
/-
  append, as a step of a drawn region: where it stood, or in a block that is new.
-/
namespace Go.Proofs.YtcpncfngadablaaGreatDoor
open Go.RowKit Go.Deep ShfKit
set_option maxRecDepth 100000
theorem wp_far {o : Oper} {a : Act} {w : World} {K : Act → World → Prop} {Q : Exit → Act → World → Prop} (sl x : Operand) (t e : TypeId) (z : Value) (size bytes : Nat)
    (ho : o.op = .call { callee := .builtin .append, args := #[sl, x], argTypes := #[t, t] }) (hu : Tryz.prog.underlying t = some (.slice e)) (hinf : (Tryz.prog.info? e).map (fun i => (i.zero, i.size, i.bytes)) = some (some z, size, bytes))
    (hzs : z.cells.size = size) (hsz : 0 < size) (B n m c : Nat) (v : Value) (xs news : List Value) (ad : Addr) (hs : a.eval sl = v) (hown : w.ownsRow B e size v n xs) (hx : a.eval x = .slice (some ad) m c)
    (hl : news.length = m * size) (hnews : ∀ j u, news[j]? = some u → w.cell? (ad.add j) = some u) (h1 : ∀ u ∈ news, u.oneCell' = true) (hn : n + m ≤ 1099511627776) (hby : (n + m) * bytes ≤ 140737488355328) (hB : B ≤ w.heap.size)
    (h : ∀ v' w', w'.ownsRow B e size v' (n + m) (xs ++ news) → ((v'.ownBlock = v.ownBlock ∧ w.grownBy w' v.ownBlock) ∨ ((∀ g, v'.ownBlock = some g → w.heap.size ≤ g) ∧ w.grownBy w' none)) → K (a.put o.dst v') w') : Oper.wp Tryz.prog o a w K Q := by
  obtain ⟨i, hi, hz0, hz1, hz2⟩ := info_parts hinf
  obtain ⟨v', w', hr, h2, h3⟩ := run_append_far (P := Tryz.prog) w B t o.type e i z size bytes hu hi hz0 hz1 hz2 hzs hsz v n xs hown ad m c news hl hnews h1 (by unfold maxLen; omega) hby hB
  unfold Oper.wp execOp
  simp only [ho, resolve, invoke, builtin, Sem.run_bind, Sem.run_pure, Result.andThen_ok, List.map_toArray, List.map_cons, List.map_nil, hs, hx, hr]
  exact h v' w' h2 h3
theorem add_zero_addr (b j : Nat) : (⟨b, 0, none⟩ : Addr).add j = ⟨b, j, none⟩ := by unfold Addr.add; split <;> simp_all
theorem info5 : (Tryz.prog.info? 5).map (fun i => (i.zero, i.size, i.bytes)) = some (some (.int .u8 0), 1, 1) := by kernel_rfl
theorem info9 : (Tryz.prog.info? 9).map (fun i => (i.zero, i.size, i.bytes)) = some (some (.string ⟨#[]⟩), 1, 16) := by kernel_rfl
theorem info31 : (Tryz.prog.info? 31).map (fun i => (i.zero, i.size, i.bytes)) = some (some (.slice none 0 0), 1, 24) := by kernel_rfl
theorem inf71 : (Tryz.prog.info? 71).map (fun i => (i.zero, i.size, i.bytes)) = some (some (.agg #[.string ⟨#[]⟩, .bool false, .slice none 0 0]), 3, 48) := by kernel_rfl
end Go.Proofs.YtcpncfngadablaaGreatDoor
/-
  The document's disk: is it a name?
-/
namespace Go.Proofs.YtcpncfngadablaaGreatDoor
open Go.RowKit Go.Deep
set_option maxRecDepth 100000
theorem nb_of {c : Int} : nbB c = true ↔ ((97 ≤ c ∧ c ≤ 122) ∨ (48 ≤ c ∧ c ≤ 57) ∨ c = 45 ∨ c = 46) := by unfold nbB; simp
theorem nb_no {c : Int} (h : ¬ ((97 ≤ c ∧ c ≤ 122) ∨ (48 ≤ c ∧ c ≤ 57) ∨ c = 45 ∨ c = 46)) : nbB c = false := by
  cases hb : nbB c with
  | true => exact absurd (nb_of.1 hb) h
  | false => rfl
set_option maxHeartbeats 2000000 in
theorem named_any (s : ByteArray) (hs : s.size ≤ 1099511627776) (w : World) :
    Calls Tryz.prog 60 #[.string s] w fun e w' => e = .returned (.bool (nameB s)) ∧ w' = w := by
  go_enter Tryz.func60, Tryz.ntmps60
  go_wp2
  go_loopw [3, 4] (fun i _ wr => wr = w ∧ ∃ k : Nat, k ≤ s.size ∧ i = .int .i64 k ∧ Hid (∀ j (hj : j < s.size), j < k → nbB (s[j].toNat : Int) = true)) (fun i _ _ => s.size - (intOf i).toNat)
  case atStart => exact ⟨rfl, 0, Nat.zero_le _, rfl, fun j _ hj => absurd hj (by omega)⟩
  case round =>
    obtain ⟨rfl, k, hk, rfl, HA⟩ := hrel
    by_cases hlt : k < s.size
    · have nxt : Hid (nbB (s[k].toNat : Int) = true → ∀ j (hj : j < s.size), j < k + 1 → nbB (s[j].toNat : Int) = true) := fun hb j hj hjk => by
        by_cases hjk' : j < k
        · exact HA.out j hj hjk'
        · obtain rfl : j = k := by omega
          exact hb
      have bad : Hid (nbB (s[k].toNat : Int) = false → nameB s = false) := fun hb => name_bad hlt hb
      have hways : (97 ≤ ((s[k].toNat : Nat) : Int) ∧ ((s[k].toNat : Nat) : Int) ≤ 122) ∨ (((s[k].toNat : Nat) : Int) < 97 ∧ 48 ≤ ((s[k].toNat : Nat) : Int) ∧ ((s[k].toNat : Nat) : Int) ≤ 57) ∨ ((s[k].toNat : Nat) : Int) = 45 ∨ ((s[k].toNat : Nat) : Int) = 46 ∨ 122 < ((s[k].toNat : Nat) : Int) ∨ (57 < ((s[k].toNat : Nat) : Int) ∧ ((s[k].toNat : Nat) : Int) < 97) ∨ (((s[k].toNat : Nat) : Int) < 48 ∧ ((s[k].toNat : Nat) : Int) ≠ 45 ∧ ((s[k].toNat : Nat) : Int) ≠ 46) := by omega
      rcases hways with h | h | h | h | h | h | h
      · have NB := hid (nxt.out (nb_of.2 (by omega)))
        have f0 : 97 ≤ ((s[k].toNat : Nat) : Int) := by omega
        have f1 : ((s[k].toNat : Nat) : Int) ≤ 122 := by omega
        clear nxt bad
        go_wp2_with fail
        exact ⟨⟨trivial, k + 1, by omega, by go_num, NB.out⟩, by simp [intOf]; omega⟩
      · have NB := hid (nxt.out (nb_of.2 (by omega)))
        have f0 : ¬ 97 ≤ ((s[k].toNat : Nat) : Int) := by omega
        have f1 : 48 ≤ ((s[k].toNat : Nat) : Int) := by omega
        have f2 : ((s[k].toNat : Nat) : Int) ≤ 57 := by omega
        clear nxt bad
        go_wp2_with fail
        exact ⟨⟨trivial, k + 1, by omega, by go_num, NB.out⟩, by simp [intOf]; omega⟩
      · have NB := hid (nxt.out (nb_of.2 (by omega)))
        have f0 : ¬ 97 ≤ ((s[k].toNat : Nat) : Int) := by omega
        have f1 : ¬ 48 ≤ ((s[k].toNat : Nat) : Int) := by omega
        have f2 : ((s[k].toNat : Nat) : Int) = 45 := by omega
        clear nxt bad
        go_wp2_with fail
        exact ⟨⟨trivial, k + 1, by omega, by go_num, NB.out⟩, by simp [intOf]; omega⟩
      · have NB := hid (nxt.out (nb_of.2 (by omega)))
        have f0 : ¬ 97 ≤ ((s[k].toNat : Nat) : Int) := by omega
        have f1 : ¬ 48 ≤ ((s[k].toNat : Nat) : Int) := by omega
        have f2 : ¬ ((s[k].toNat : Nat) : Int) = 45 := by omega
        have f3 : ((s[k].toNat : Nat) : Int) = 46 := by omega
        clear nxt bad
        go_wp2_with fail
        exact ⟨⟨trivial, k + 1, by omega, by go_num, NB.out⟩, by simp [intOf]; omega⟩
      · have NB := hid (bad.out (nb_no (by omega)))
        have f0 : 97 ≤ ((s[k].toNat : Nat) : Int) := by omega
        have f1 : ¬ ((s[k].toNat : Nat) : Int) ≤ 122 := by omega
        have f2 : 48 ≤ ((s[k].toNat : Nat) : Int) := by omega
        have f3 : ¬ ((s[k].toNat : Nat) : Int) ≤ 57 := by omega
        have f4 : ¬ ((s[k].toNat : Nat) : Int) = 45 := by omega
        have f5 : ¬ ((s[k].toNat : Nat) : Int) = 46 := by omega
        have n45 : ¬ s[k].toNat = 45 := by omega
        have n46 : ¬ s[k].toNat = 46 := by omega
        have b46 : (((s[k].toNat : Nat) : Int) == 46) = false := by simp; omega
        have b45 : (((s[k].toNat : Nat) : Int) == 45) = false := by simp; omega
        have d46 : decide (((s[k].toNat : Nat) : Int) = 46) = false := by simp; omega
        clear nxt bad
        go_wp2_with fail
        go_ret
        exact ⟨ret_bool NB.out.symm, rfl⟩
      · have NB := hid (bad.out (nb_no (by omega)))
        have f0 : ¬ 97 ≤ ((s[k].toNat : Nat) : Int) := by omega
        have f1 : 48 ≤ ((s[k].toNat : Nat) : Int) := by omega
        have f2 : ¬ ((s[k].toNat : Nat) : Int) ≤ 57 := by omega
        have f3 : ¬ ((s[k].toNat : Nat) : Int) = 45 := by omega
        have f4 : ¬ ((s[k].toNat : Nat) : Int) = 46 := by omega
        have n45 : ¬ s[k].toNat = 45 := by omega
        have n46 : ¬ s[k].toNat = 46 := by omega
        have b46 : (((s[k].toNat : Nat) : Int) == 46) = false := by simp; omega
        have b45 : (((s[k].toNat : Nat) : Int) == 45) = false := by simp; omega
        have d46 : decide (((s[k].toNat : Nat) : Int) = 46) = false := by simp; omega
        clear nxt bad
        go_wp2_with fail
        go_ret
        exact ⟨ret_bool NB.out.symm, rfl⟩
      · have NB := hid (bad.out (nb_no (by omega)))
        have f0 : ¬ 97 ≤ ((s[k].toNat : Nat) : Int) := by omega
        have f1 : ¬ 48 ≤ ((s[k].toNat : Nat) : Int) := by omega
        have f2 : ¬ ((s[k].toNat : Nat) : Int) = 45 := by omega
        have f3 : ¬ ((s[k].toNat : Nat) : Int) = 46 := by omega
        have n45 : ¬ s[k].toNat = 45 := by omega
        have n46 : ¬ s[k].toNat = 46 := by omega
        have b46 : (((s[k].toNat : Nat) : Int) == 46) = false := by simp; omega
        have b45 : (((s[k].toNat : Nat) : Int) == 45) = false := by simp; omega
        have d46 : decide (((s[k].toNat : Nat) : Int) = 46) = false := by simp; omega
        clear nxt bad
        go_wp2_with fail
        go_ret
        exact ⟨ret_bool NB.out.symm, rfl⟩
    · have hke : k = s.size := by omega
      have OK : Hid (1 ≤ s.size → s.size ≤ 32 → nameB s = true) := fun h1 h2 => name_ok h1 h2 fun j hj => HA.out j hj (by omega)
      have NO : Hid (s.size < 1 ∨ 32 < s.size → nameB s = false) := fun h => name_long h
      clear hke
      by_cases h1 : 1 ≤ s.size
      · by_cases h2 : s.size ≤ 32
        · have NB := hid (OK.out h1 h2)
          have g1 : (1 : Int) ≤ (s.size : Int) := by omega
          have g2 : (s.size : Int) ≤ 32 := by omega
          go_wp2_with fail
          go_ret
          exact ⟨ret_bool NB.out.symm, rfl⟩
        · have NB := hid (NO.out (.inr (by omega)))
          have g1 : (1 : Int) ≤ (s.size : Int) := by omega
          have g2 : ¬ (s.size : Int) ≤ 32 := by omega
          go_wp2_with fail
          go_ret
          exact ⟨ret_bool NB.out.symm, rfl⟩
      · have NB := hid (NO.out (.inl (by omega)))
        have g1 : ¬ (1 : Int) ≤ (s.size : Int) := by omega
        go_wp2_with fail
        go_ret
        exact ⟨ret_bool NB.out.symm, rfl⟩
end Go.Proofs.YtcpncfngadablaaGreatDoor
namespace Go.Proofs.YtcpncfngadablaaGreatDoor
open Go.RowKit Go.Deep
section
variable {w w' : World} {E : Nat → Addr} {lo p mf mt : Nat} {D : DiskC} {fv : Value} {l : List SFile}
theorem BlocksAt.sliceL {B : Nat} {sv : Value} {bs : List Nat} {blocks : List (List UInt8)} (h : BlocksAt w B sv bs blocks) : ∃ a c, sv = .slice a blocks.length c := by
  by_cases h0 : blocks.length = 0
  · rw [h0]; exact h.slice0 h0
  · obtain ⟨g, c, e⟩ := h.slice1 h0
    exact ⟨_, c, e⟩
theorem row_form {n : Nat} (h : w.ownsRow n 71 3 fv l.length (l.flatMap SFile.cells)) (hl : 0 < l.length) : ∃ G gc, fv = .slice (some ⟨G, 0, none⟩) l.length gc ∧ n ≤ G ∧ G < w.heap.size := by
  rcases h.2 with ⟨_, h0⟩ | ⟨g, cap, cur, hv, hb, hg, _⟩
  · omega
  · exact ⟨g, cap, hv, hb, lt_of_block hg⟩
theorem row_slice {n : Nat} (h : w.ownsRow n 71 3 fv l.length (l.flatMap SFile.cells)) : ∃ a c, fv = .slice a l.length c := by
  rcases h.2 with ⟨h1, h0⟩ | ⟨g, cap, cur, hv, hb, hg, _⟩
  · exact ⟨none, 0, by rw [h0]; exact h1⟩
  · exact ⟨_, cap, hv⟩
theorem row_cells {n G gc k : Nat} (h : w.ownsRow n 71 3 fv l.length (l.flatMap SFile.cells)) (hv : fv = .slice (some ⟨G, 0, none⟩) l.length gc) (hk : k < l.length) : w.cell? ⟨G, k * 3, none⟩ = some (encStr l[k].name) ∧ w.cell? ⟨G, k * 3 + 1, none⟩ = some (.bool l[k].file.shut) ∧ w.cell? ⟨G, k * 3 + 2, none⟩ = some l[k].sv := by
  have hadd : ∀ i, (⟨G, 0, none⟩ : Addr).add i = ⟨G, i, none⟩ := fun i => by unfold Addr.add; split <;> simp_all
  have he : l[k]? = some l[k] := List.getElem?_eq_getElem hk
  have hc := h.cells (g := G) (by rw [hv]; rfl)
  have c0 := hc (3 * k) (encStr l[k].name) (by have := flat3 k 0 _ he (by omega); simpa [SFile.cells] using this)
  have c1 := hc (3 * k + 1) (.bool l[k].file.shut) (by have := flat3 k 1 _ he (by omega); simpa [SFile.cells] using this)
  have c2 := hc (3 * k + 2) l[k].sv (by have := flat3 k 2 _ he (by omega); simpa [SFile.cells] using this)
  rw [hadd, Nat.mul_comm] at c0 c1 c2
  exact ⟨c0, c1, c2⟩
theorem row_below {n : Nat} {cs : List Value} {k : Nat} (h : w.ownsRow n 71 3 fv k cs) (hb : Below w.heap.size w w') : w'.ownsRow n 71 3 fv k cs := by
  refine ⟨h.1, ?_⟩
  rcases h.2 with hn | ⟨g, cap, cur, hv, hb', hg, rest⟩
  · exact .inl hn
  · exact .inr ⟨g, cap, cur, hv, hb', (hb.block g (lt_of_block hg)).trans hg, rest⟩

end
end Go.Proofs.YtcpncfngadablaaGreatDoor
namespace Go.Proofs.YtcpncfngadablaaGreatDoor
open Go.RowKit Go.Deep

section
variable {w w' : World} {E : Nat → Addr} {lo p mf mt : Nat} {D : DiskC}

/-- A list of blocks that can be read, whatever room each has behind it. -/
structure BlocksSh (w : World) (sv : Value) (blocks : List (List UInt8)) : Prop where
  sl : ∃ a c, sv = .slice a blocks.length c
  at_ : ∀ i (hi : i < blocks.length), ∃ G gc xa xn xc, sv = .slice (some ⟨G, 0, none⟩) blocks.length gc ∧ w.cell? ⟨G, i, none⟩ = some (.slice xa xn xc) ∧ Shows w xa xn xc blocks[i]

theorem bytes_shows {b B : Nat} {bl : List UInt8} (h : BytesAt w b bl) (hl : bl.length = B) : Shows w (some ⟨b, 0, none⟩) B B bl := by
  subst hl
  refine ⟨rfl, Nat.le_refl _, fun _ => ⟨_, rfl, lt_of_block h, fun j v hv => ?_⟩, fun e => by simp at e⟩
  exact bytes_src h j v hv

theorem BlocksAt.sh {B : Nat} {sv : Value} {bs : List Nat} {blocks : List (List UInt8)} (h : BlocksAt w B sv bs blocks) : BlocksSh w sv blocks := by
  refine ⟨h.sliceL, fun i hi => ?_⟩
  obtain ⟨g, cap, b, e, c, hl, hby, _⟩ := h.at hi
  exact ⟨g, cap, _, _, _, e, c, bytes_shows hby hl⟩

theorem BlocksSh.below {sv : Value} {blocks : List (List UInt8)} (h : BlocksSh w sv blocks) (hb : Below w.heap.size w w') : BlocksSh w' sv blocks :=
  ⟨h.sl, fun i hi => by
    obtain ⟨G, gc, xa, xn, xc, e, c, hs⟩ := h.at_ i hi
    exact ⟨G, gc, xa, xn, xc, e, (hb.cell (p := ⟨G, i, none⟩) (World.block_lt_of_cell? w _ c)).trans c, hs.touch (F := []) (Touch.of_below hb (Nat.le_refl _)) (by simp)⟩⟩
theorem BlocksSh.round {sv : Value} {blocks : List (List UInt8)} {W wr : World} {k G gc : Nat} (h : BlocksSh w sv blocks) (hk : k < blocks.length) (hb : Below w.heap.size w W) (hq : Quiet W wr) (e : sv = .slice (some ⟨G, 0, none⟩) blocks.length gc) :
    ∃ xa xn xc, wr.cell? ⟨G, k, none⟩ = some (.slice xa xn xc) ∧ ∀ n, (convert 31 9 (.slice xa xn xc)).run Tryz.prog (wr.drewN n) = .ok (encStr blocks[k]) (wr.drewN n) := by
  have hbr : Below w.heap.size w wr := hb.trans ((Quiet.touch hq []).below hb.size (by simp))
  obtain ⟨g, cap, xa, xn, xc, e1, c, hs⟩ := (h.below hbr).at_ k hk
  rw [e] at e1
  simp only [Value.slice.injEq, Option.some.injEq, Addr.mk.injEq] at e1
  obtain ⟨⟨rfl, _⟩, _⟩ := e1
  exact ⟨xa, xn, xc, c, fun n => conv_shows (hs.touch (F := []) ((Touch.refl _ _).drewN n) (by simp))⟩
theorem BlocksSh.slice1 {sv : Value} {blocks : List (List UInt8)} (h : BlocksSh w sv blocks) (h0 : ¬ blocks.length = 0) : ∃ g c, sv = .slice (some ⟨g, 0, none⟩) blocks.length c := by
  obtain ⟨G, gc, _, _, _, e, _⟩ := h.at_ 0 (by omega)
  exact ⟨G, gc, e⟩

set_option maxRecDepth 100000 in
set_option maxHeartbeats 400000 in
theorem SameFile_sh {s : ByteArray} {x : Bool} {sv1 sv2 : Value} {blocks : List (List UInt8)} (h1 : BlocksSh w sv1 blocks) (h2 : BlocksSh w sv2 blocks) (hn : blocks.length ≤ 1099511627776) :
    Calls Tryz.prog 41 #[.agg #[.string s, .bool x, sv1], .agg #[.string s, .bool x, sv2]] w fun e w' => e = .returned (.bool true) ∧ Below w.heap.size w w' := by
  by_cases h0 : blocks.length = 0
  · obtain ⟨a1, c1, e1⟩ := h1.sl
    obtain ⟨a2, c2, e2⟩ := h2.sl
    rw [e1, e2, h0]
    clear h1 h2 e1 e2 h0
    cases x
    all_goals
      go_enter Tryz.func41, Tryz.ntmps41
      go_wp2
      refine wp_loop_rounds 1 ?_
      rw [rounds_succ]
      go_wp2
      go_ret
      exact ⟨rfl, ((Below.refl _ w).alloc (Nat.le_refl _) _).alloc (by simp) _⟩
  · obtain ⟨G1, gc1, e1⟩ := h1.slice1 h0
    obtain ⟨G2, gc2, e2⟩ := h2.slice1 h0
    have H1 := hid h1
    have H2 := hid h2
    have E1 := hid e1
    have E2 := hid e2
    rw [e1, e2]
    clear h1 h2 e1 e2
    obtain ⟨W, hW⟩ : ∃ W, W = (w.alloc (.cells #[.string s, .bool x, .slice (some ⟨G1, 0, none⟩) blocks.length gc1] 71)).alloc (.cells #[.string s, .bool x, .slice (some ⟨G2, 0, none⟩) blocks.length gc2] 71) := ⟨_, rfl⟩
    have hW1 := heap_two w (.cells #[.string s, .bool x, .slice (some ⟨G1, 0, none⟩) blocks.length gc1] 71) (.cells #[.string s, .bool x, .slice (some ⟨G2, 0, none⟩) blocks.length gc2] 71)
    rw [← hW] at hW1
    have hTW : Below w.heap.size w W := by rw [hW]; exact ((Below.refl _ w).alloc (Nat.le_refl _) _).alloc (by simp) _
    have b1 := cell_row hW1.1 2
    have b2 := cell_row hW1.2 2
    simp at b1 b2
    have HE := hid hW
    have HTW := hid hTW
    clear hW hW1 hTW
    cases x
    all_goals
      go_enter Tryz.func41, Tryz.ntmps41
      go_wp2
      rw [← HE.out]
      go_loopw [5] (fun i wr => ∃ k : Nat, k ≤ blocks.length ∧ i = .int .i64 k ∧ Quiet W wr) (fun i _ => blocks.length - (intOf i).toNat)
      case atStart => exact ⟨0, Nat.zero_le _, rfl, 0, rfl⟩
      case round =>
        obtain ⟨k, hk, rfl, hq⟩ := hrel
        have d1 := (Quiet.cell hq _).trans b1
        have d2 := (Quiet.cell hq _).trans b2
        by_cases hlt : k < blocks.length
        · obtain ⟨xa, xn, xc, g1, cv1⟩ := H1.out.round hlt HTW.out hq E1.out
          obtain ⟨ya, yn, yc, g2, cv2⟩ := H2.out.round hlt HTW.out hq E2.out
          have HQ := hid hq
          clear hq b1 b2
          go_wp2
          go_quiet (fail)
          go_wp2
          go_roundw
          case rel => exact ⟨k + 1, by omega, by go_num, quiet_more HQ.out _⟩
          case measure => simp [intOf]; omega
        · have HQ := hid hq
          clear hq b1 b2
          go_wp2
          go_ret
          exact ⟨rfl, HTW.out.trans ((Quiet.touch HQ.out []).below HTW.out.size (by simp))⟩

/-- A state that can be read. -/
structure StateSh (w : World) (n : Nat) (fv : Value) (l : List SFile) : Prop where
  own : w.ownsRow n 71 3 fv l.length (l.flatMap SFile.cells)
  each : ∀ e ∈ l, BlocksSh w e.sv e.file.blocks

theorem StateAt.sh {n B : Nat} {fv : Value} {l : List SFile} (h : StateAt w n B fv l) : StateSh w n fv l := ⟨h.own, fun e he => (h.each e he).sh⟩
theorem StateSh.below {n : Nat} {fv : Value} {l : List SFile} (h : StateSh w n fv l) (hb : Below w.heap.size w w') : StateSh w' n fv l := ⟨row_below h.own hb, fun e he => (h.each e he).below hb⟩

set_option maxRecDepth 100000 in
set_option maxHeartbeats 400000 in
theorem SameState_sh {n1 n2 : Nat} {x : Int} {fv1 fv2 : Value} {l1 l2 : List SFile} (h1 : StateSh w n1 fv1 l1) (h2 : StateSh w n2 fv2 l2) (hp : l1.map SFile.pub = l2.map SFile.pub) (hn : l1.length ≤ 1099511627776) (hnb : ∀ e ∈ l1, e.file.blocks.length ≤ 1099511627776) :
    Calls Tryz.prog 17 #[.agg #[.int .i64 x, fv1], .agg #[.int .i64 x, fv2]] w fun e w' => e = .returned (.bool true) ∧ Below w.heap.size w w' := by
  have hll : l1.length = l2.length := by simpa using congrArg List.length hp
  obtain ⟨a1, c1, e1⟩ := row_slice h1.own
  obtain ⟨a2, c2, e2⟩ := row_slice h2.own
  by_cases h0 : l1.length = 0
  · rw [e1, e2, ← hll, h0]
    clear h1 h2 e1 e2 h0 hll hp
    go_enter Tryz.func17, Tryz.ntmps17
    go_wp2
    refine wp_loop_rounds 1 ?_
    rw [rounds_succ]
    go_wp2
    go_ret
    exact ⟨rfl, ((Below.refl _ w).alloc (Nat.le_refl _) _).alloc (by simp) _⟩
  · clear e1 e2
    obtain ⟨G1, gc1, e1, _⟩ := row_form h1.own (by omega)
    obtain ⟨G2, gc2, e2, _⟩ := row_form h2.own (by omega)
    have H1 := hid h1
    have H2 := hid h2
    have E1 := hid e1
    have E2 := hid e2
    have HP := hid hp
    have HNB := hid hnb
    have HL := hid hll
    rw [e1, e2, ← hll]
    clear h1 h2 e1 e2 hll hp hnb
    obtain ⟨W, hW⟩ : ∃ W, W = (w.alloc (.cells #[.int .i64 x, .slice (some ⟨G1, 0, none⟩) l1.length gc1] 47)).alloc (.cells #[.int .i64 x, .slice (some ⟨G2, 0, none⟩) l1.length gc2] 47) := ⟨_, rfl⟩
    have hW1 := heap_two w (.cells #[.int .i64 x, .slice (some ⟨G1, 0, none⟩) l1.length gc1] 47) (.cells #[.int .i64 x, .slice (some ⟨G2, 0, none⟩) l1.length gc2] 47)
    rw [← hW] at hW1
    have hTW : Below w.heap.size w W := by rw [hW]; exact ((Below.refl _ w).alloc (Nat.le_refl _) _).alloc (by simp) _
    have HW := hid hW1
    have HE := hid hW
    have HTW := hid hTW
    clear hW hW1 hTW
    go_enter Tryz.func17, Tryz.ntmps17
    go_wp2
    rw [← HE.out]
    go_loopw [5] (fun i wr => ∃ k : Nat, k ≤ l1.length ∧ i = .int .i64 k ∧ Below W.heap.size W wr) (fun i _ => l1.length - (intOf i).toNat)
    case atStart => exact ⟨0, Nat.zero_le _, rfl, Below.refl _ _⟩
    case round =>
      obtain ⟨k, hk, rfl, hq⟩ := hrel
      have r1 : wr.heap[w.heap.size]? = some (.cells #[.int .i64 x, .slice (some ⟨G1, 0, none⟩) l1.length gc1] 47) := (hq.block _ (lt_of_block HW.out.1)).trans HW.out.1
      have r2 : wr.heap[w.heap.size + 1]? = some (.cells #[.int .i64 x, .slice (some ⟨G2, 0, none⟩) l1.length gc2] 47) := (hq.block _ (lt_of_block HW.out.2)).trans HW.out.2
      have d1 := cell_row r1 1
      have d2 := cell_row r2 1
      simp at d1 d2
      have hbw : Below w.heap.size w wr := HTW.out.trans (hq.mono HTW.out.size)
      by_cases hlt : k < l1.length
      · have hlt2 : k < l2.length := by have := HL.out; omega
        have hpk : l1[k].pub = l2[k].pub := by
          have := congrArg (fun l => l[k]?) HP.out
          simpa [List.getElem?_eq_getElem hlt, List.getElem?_eq_getElem hlt2] using this
        have hnm : l1[k].name = l2[k].name := congrArg Prod.fst hpk
        have hfl : l1[k].file = l2[k].file := congrArg Prod.snd hpk
        have S1 := H1.out.below hbw
        have S2 := H2.out.below hbw
        obtain ⟨c10, c11, c12⟩ := row_cells S1.own E1.out hlt
        obtain ⟨c20, c21, c22⟩ := row_cells S2.own E2.out hlt2
        have hb1 := S1.each _ (List.getElem_mem hlt)
        have hb2 := S2.each _ (List.getElem_mem hlt2)
        rw [← hnm] at c20
        rw [← hfl] at c21 hb2
        have hnk := HNB.out _ (List.getElem_mem hlt)
        obtain ⟨s, hs⟩ : ∃ s, Value.string s = encStr l1[k].name := ⟨_, rfl⟩
        obtain ⟨y, hy⟩ : ∃ y, y = l1[k].file.shut := ⟨_, rfl⟩
        have HC := hid (fun n : Nat => SameFile_sh (w := wr.drewN n) (s := s) (x := y) (hb1.below (w := wr) ⟨rfl, rfl, rfl, Nat.le_refl _, fun _ _ => rfl⟩) (hb2.below (w := wr) ⟨rfl, rfl, rfl, Nat.le_refl _, fun _ _ => rfl⟩) hnk)
        obtain ⟨ga1, gk1, hs1⟩ := hb1.sl
        obtain ⟨ga2, gk2, hs2⟩ := hb2.sl
        have HQ := hid hq
        have l1' := lt_of_block r1
        have l2' := lt_of_block r2
        obtain ⟨m, hm⟩ : ∃ m, m = l1[k].file.blocks.length := ⟨_, rfl⟩
        rw [← hm] at hs1 hs2
        rw [hs1] at HC c12
        rw [hs2] at HC c22
        rw [← hs] at c10 c20
        rw [← hy] at c11 c21
        clear hq r1 r2 hb1 hb2 hbw hs1 hs2 hs hy hnk hpk hnm hfl S1 S2 hm
        go_wp2
        go_region_held3 (fun V => (V.cell? ⟨w.heap.size, 1, none⟩ = some (.slice (some ⟨G1, 0, none⟩) l1.length gc1) ∧ V.cell? ⟨w.heap.size + 1, 1, none⟩ = some (.slice (some ⟨G2, 0, none⟩) l1.length gc2)) ∧ (V.cell? ⟨G1, k * 3, none⟩ = some (.string s) ∧ V.cell? ⟨G1, k * 3 + 1, none⟩ = some (.bool y) ∧ V.cell? ⟨G1, k * 3 + 2, none⟩ = some (.slice ga1 m gk1)) ∧ V.cell? ⟨G2, k * 3, none⟩ = some (.string s) ∧ V.cell? ⟨G2, k * 3 + 1, none⟩ = some (.bool y) ∧ V.cell? ⟨G2, k * 3 + 2, none⟩ = some (.slice ga2 m gk2)) (go_keep)
          (first | (go_at_call 41; refine (HC.out 1).mono ?_; rintro e w2 ⟨rfl, ht2⟩; have up := below_up ht2; have z1 := up _ _ _ d1; have z2 := up _ _ _ d2; have z3 := up _ _ _ c10; have z4 := up _ _ _ c11; have z5 := up _ _ _ c12; have z6 := up _ _ _ c20; have z7 := up _ _ _ c21; have z8 := up _ _ _ c22; have HT2 := hid ht2; clear up ht2))
        go_wp2
        go_roundw
        case rel => exact ⟨k + 1, by omega, by go_num, HQ.out.trans (below_quiet HT2.out HQ.out.size)⟩
        case measure => simp [intOf]; omega
      · have HQ := hid hbw
        clear hq r1 r2 hbw
        go_wp2
        go_ret
        exact ⟨rfl, HQ.out⟩
end
end Go.Proofs.YtcpncfngadablaaGreatDoor
