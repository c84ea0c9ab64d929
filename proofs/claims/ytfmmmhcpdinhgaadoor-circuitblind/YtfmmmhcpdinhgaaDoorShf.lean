/-
  Lists that were handed out, and what is grown out of them: which blocks turn, which stay. For any program.
-/
import Derived.Laws.AppendOwn
import Derived.Deep.DeepAppendRoom
import Derived.ArgAppend
import Derived.Below
namespace ShfKit
open Go Go.RowKit
set_option maxRecDepth 100000

section
variable {P : Program} {w w' W W' : World} {B B' e size n m : Nat} {v u : Value} {xs news A M : List Value}

theorem own_base (h : w.ownsRow B' e size v n xs) (hB : B ≤ B') : w.ownsRow B e size v n xs := by
  refine ⟨h.1, ?_⟩
  rcases h.2 with hn | ⟨g, cap, cur, hv, hb, rest⟩
  · exact .inl hn
  · exact .inr ⟨g, cap, cur, hv, Nat.le_trans hB hb, rest⟩
theorem own_block (h : w.ownsRow B e size v n xs) {g : Nat} (hg : v.ownBlock = some g) : B ≤ g ∧ g < w.heap.size := by
  rcases h.2 with ⟨hv, _⟩ | ⟨g', cap, cur, hv, hb, hr, _⟩
  · rw [hv] at hg; cases hg
  · rw [hv] at hg
    simp only [Value.ownBlock, Option.some.injEq] at hg
    subst hg
    exact ⟨hb, (Array.getElem?_eq_some_iff.1 hr).1⟩
theorem own_kept (h : w.ownsRow B e size v n xs) (hk : ∀ g, v.ownBlock = some g → w'.heap[g]? = w.heap[g]?) : w'.ownsRow B e size v n xs := by
  refine ⟨h.1, ?_⟩
  rcases h.2 with hn | ⟨g, cap, cur, hv, hb, hr, rest⟩
  · exact .inl hn
  · exact .inr ⟨g, cap, cur, hv, hb, (hk g (by rw [hv]; rfl)).trans hr, rest⟩

/-- append: where it stood, or in a block that is new. -/
theorem run_append_far (w : World) (B : Nat) (t ty e : TypeId) (i : TypeInfo) (z : Value) (size bytes : Nat) (ht : P.underlying t = some (.slice e)) (hi : P.info? e = some i) (hz : i.zero = some z)
    (hsize : i.size = size) (hby : i.bytes = bytes) (hzs : z.cells.size = size) (hsz : 0 < size)
    (v : Value) (n : Nat) (xs : List Value) (hown : w.ownsRow B e size v n xs)
    (a : Addr) (m c : Nat) (news : List Value) (hl : news.length = m * size) (hnews : ∀ j u, news[j]? = some u → w.cell? (a.add j) = some u) (h1 : ∀ u ∈ news, u.oneCell' = true)
    (h63 : n + m ≤ maxLen) (hbytes : (n + m) * bytes ≤ 140737488355328) (hbase : B ≤ w.heap.size) :
    ∃ v' w', (Builtin.append_ #[t, t] ty #[v, .slice (some a) m c]).run P w = .ok v' w' ∧ w'.ownsRow B e size v' (n + m) (xs ++ news) ∧
      ((v'.ownBlock = v.ownBlock ∧ w.grownBy w' v.ownBlock) ∨ ((∀ g, v'.ownBlock = some g → w.heap.size ≤ g) ∧ w.grownBy w' none)) := by
  rcases hown.2 with ⟨rfl, rfl⟩ | ⟨g, cap, cur, rfl, hb, hr, hnc, hcm, hcs, htk⟩
  · obtain rfl : xs = [] := List.eq_nil_of_length_eq_zero (by simpa using hown.1)
    obtain ⟨v', w', hrun, r1, r2, _⟩ := run_append_own (P := P) w w.heap.size t ty e i z size bytes ht hi hz hsize hby hzs hsz (.slice none 0 0) 0 [] (World.ownsRow_nil w _ e size) a m c news hl hnews h1 h63 hbytes (Nat.le_refl _)
    exact ⟨v', w', hrun, own_base r1 hbase, .inr ⟨fun g hg => (own_block r1 hg).1, r2⟩⟩
  · by_cases hroom : n + m ≤ cap
    · obtain ⟨w', hrun, r1, r2⟩ := run_append_own_spare (P := P) w B t ty e i size ht hi hsize g n cap xs hown a m c news hl hnews h1 hroom
      exact ⟨_, w', hrun, r1, .inl ⟨rfl, r2⟩⟩
    · have hold : ∀ j u, xs[j]? = some u → w.cell? ((⟨g, 0, none⟩ : Addr).add j) = some u := fun j u hj => by
        rw [Addr.add_lit, Nat.zero_add]
        have h1 : cur.toList[j]? = some u := by
          rw [← htk] at hj
          rw [List.getElem?_take] at hj
          split at hj
          · exact hj
          · cases hj
        simp [World.cell?, hr]
        simpa using h1
      obtain ⟨v', w', hrun, r1, r2⟩ := run_append_arg_grows (P := P) w t ty e i z size bytes ht hi hz hsize hby hzs hsz ⟨g, 0, none⟩ n cap xs hown.1 hold a m c news hl hnews (by omega) h63 hbytes
      exact ⟨v', w', hrun, own_base r1 hbase, .inr ⟨fun g hg => (own_block r1 hg).1, r2⟩⟩

/-- the same, for the walk. -/
theorem wpList_append_far {ops : Array Oper} {rest : List Oper} {o : Oper} {a : Act} {Q : Exit → Act → World → Prop} (w : World)
    (hg : o.guard = none) (s x : Operand) (t : TypeId) (hop : o.op = Op.call { callee := Callee.builtin Builtin.append, args := #[s, x], argTypes := #[t, t] })
    (B : Nat) (e : TypeId) (i : TypeInfo) (z : Value) (size bytes : Nat) (ht : P.underlying t = some (.slice e)) (hi : P.info? e = some i) (hz : i.zero = some z)
    (hsize : i.size = size) (hby : i.bytes = bytes) (hzs : z.cells.size = size) (hsz : 0 < size)
    (v : Value) (n : Nat) (xs : List Value) (hs : a.eval s = v) (hown : w.ownsRow B e size v n xs)
    (ad : Addr) (m c : Nat) (news : List Value) (hx : a.eval x = .slice (some ad) m c) (hl : news.length = m * size) (hnews : ∀ j u, news[j]? = some u → w.cell? (ad.add j) = some u) (h1 : ∀ u ∈ news, u.oneCell' = true)
    (h63 : n + m ≤ maxLen) (hbytes : (n + m) * bytes ≤ 140737488355328) (hbase : B ≤ w.heap.size)
    (hK : ∀ v' w', w'.ownsRow B e size v' (n + m) (xs ++ news) → ((v'.ownBlock = v.ownBlock ∧ w.grownBy w' v.ownBlock) ∨ ((∀ g, v'.ownBlock = some g → w.heap.size ≤ g) ∧ w.grownBy w' none)) → wpList P ops Q rest (a.put o.dst v') w') :
    wpList P ops Q (o :: rest) a w := by
  refine wpList_plain hg fun K hK' => ?_
  obtain ⟨v', w', hrun, r1, r2⟩ := run_append_far (P := P) w B t o.type e i z size bytes ht hi hz hsize hby hzs hsz v n xs hown ad m c news hl hnews h1 h63 hbytes hbase
  unfold Oper.wp
  simp [execOp, hop, resolve, invoke, builtin, hs, hx, hrun, Result.andThen]
  exact hK' _ _ (hK v' w' r1 r2)

/-- v: a list as it was handed out, with the cells A; u: what has been grown out of it, with the cells M. -/
structure Pair (W : World) (B e size : Nat) (v : Value) (n : Nat) (A : List Value) (u : Value) (m : Nat) (M : List Value) : Prop where
  shape : ∃ sa c, v = .slice sa n c
  len : A.length = n * size
  rd : ∀ j (hj : j < A.length), ∃ g c, v = .slice (some ⟨g, 0, none⟩) n c ∧ B ≤ g ∧ g < W.heap.size ∧ W.cell? ⟨g, j, none⟩ = some A[j]
  lo : ∀ g, v.ownBlock = some g → B ≤ g ∧ g < W.heap.size
  own : W.ownsRow B e size u m M
  fr : M.take A.length = A
/-- a block of one of the two. -/
def InB (v u : Value) (k : Nat) : Prop := v.ownBlock = some k ∨ u.ownBlock = some k

theorem Pair.start (h : W.ownsRow B e size v n A) : Pair W B e size v n A v n A := by
  refine ⟨?_, h.1, fun j hj => ?_, fun g hg => own_block h hg, h, by rw [List.take_length]⟩
  · rcases h.2 with ⟨hv, h0⟩ | ⟨g, cap, cur, hv, _⟩
    · exact ⟨none, 0, by rw [hv, h0]⟩
    · exact ⟨_, _, hv⟩
  · rcases h.2 with ⟨hv, h0⟩ | ⟨g, cap, cur, hv, hb, hr, hnc, hcm, hcs, htk⟩
    · have := h.1
      rw [h0] at this
      omega
    · refine ⟨g, cap, hv, hb, (Array.getElem?_eq_some_iff.1 hr).1, ?_⟩
      have h1 : cur.toList[j]? = some A[j] := by
        have h2 : (cur.toList.take (n * size))[j]? = some A[j] := by rw [htk, List.getElem?_eq_getElem hj]
        rw [List.getElem?_take] at h2
        split at h2
        · exact h2
        · cases h2
      simp [World.cell?, hr]
      simpa using h1
theorem Pair.kept (h : Pair W B e size v n A u m M) (hs : W.heap.size ≤ W'.heap.size) (hk : ∀ k, InB v u k → W'.heap[k]? = W.heap[k]?) : Pair W' B e size v n A u m M := by
  refine ⟨h.shape, h.len, fun j hj => ?_, fun g hg => ⟨(h.lo g hg).1, Nat.lt_of_lt_of_le (h.lo g hg).2 hs⟩, own_kept h.own fun g hg => hk g (.inr hg), h.fr⟩
  obtain ⟨g, c, hv, hb, hl, hc⟩ := h.rd j hj
  refine ⟨g, c, hv, hb, Nat.lt_of_lt_of_le hl hs, ?_⟩
  rw [World.cell?_of_block (w := W) (hk g (.inl (by rw [hv]; rfl)))]
  exact hc
theorem Pair.blk (h : Pair W B e size v n A u m M) {k : Nat} (hk : InB v u k) : B ≤ k ∧ k < W.heap.size := by
  rcases hk with hk | hk
  · exact h.lo k hk
  · exact own_block h.own hk
/-- one more. -/
theorem Pair.grow (h : Pair W B e size v n A u m M) {u' : Value} {m' : Nat} {x : List Value} (ho : W'.ownsRow B e size u' m' (M ++ x))
    (hf : (u'.ownBlock = u.ownBlock ∧ W.grownBy W' u.ownBlock) ∨ ((∀ g, u'.ownBlock = some g → W.heap.size ≤ g) ∧ W.grownBy W' none)) :
    Pair W' B e size v n A u' m' (M ++ x) ∧ ∀ k, InB v u' k → InB v u k ∨ W.heap.size ≤ k := by
  have hfr : (M ++ x).take A.length = A := by
    have hl : A.length ≤ M.length := by
      have := congrArg List.length h.fr
      simp at this
      omega
    rw [List.take_append_of_le_length hl, h.fr]
  have hsz : W.heap.size ≤ W'.heap.size := by rcases hf with ⟨_, hg⟩ | ⟨_, hg⟩ <;> exact hg.size
  refine ⟨⟨h.shape, h.len, fun j hj => ?_, fun g hg => ⟨(h.lo g hg).1, Nat.lt_of_lt_of_le (h.lo g hg).2 hsz⟩, ho, hfr⟩, fun k hk => ?_⟩
  · obtain ⟨g, c, hv, hb, hl, hc⟩ := h.rd j hj
    refine ⟨g, c, hv, hb, Nat.lt_of_lt_of_le hl hsz, ?_⟩
    rcases hf with ⟨he, hg⟩ | ⟨_, hg⟩
    · by_cases hgu : u.ownBlock = some g
      · rw [← he] at hgu
        rcases ho.2 with ⟨hv', _⟩ | ⟨g', cap, cur, hv', _, hr, hnc, _, hcs, htk⟩
        · rw [hv'] at hgu
          exact absurd hgu (by simp [Value.ownBlock])
        · rw [hv'] at hgu
          simp only [Value.ownBlock, Option.some.injEq] at hgu
          subst hgu
          have h2 : (cur.toList.take (m' * size))[j]? = some A[j] := by
            rw [htk]
            have h3 : ((M ++ x).take A.length)[j]? = some A[j] := by rw [hfr, List.getElem?_eq_getElem hj]
            rw [List.getElem?_take_of_lt hj] at h3
            exact h3
          rw [List.getElem?_take] at h2
          split at h2
          · simp [World.cell?, hr]
            simpa using h2
          · cases h2
      · rw [World.cell?_of_block (w := W) (hg.block g hl (fun e => hgu e.symm))]
        exact hc
    · rw [World.cell?_of_block (w := W) (hg.block g hl (fun e => by cases e))]
      exact hc
  · rcases hk with hk | hk
    · exact .inl (.inl hk)
    · rcases hf with ⟨he, _⟩ | ⟨hn, _⟩
      · exact .inl (.inr (by rw [← he]; exact hk))
      · exact .inr (hn k hk)
end
end ShfKit
