import Derived.Laws.AppendOwn
import Derived.Deep.DeepAppendRoom
import Derived.ArgAppend
import Derived.Below
import Derived.Lib.OwnKind
import Derived.Test.YtcpncfngadablaaGreatDoorZ18
/-
  Lists that were handed out, and what is grown out of them: which blocks turn, which stay. For any program.
-/
namespace ShfKit
open Go Go.RowKit
set_option maxRecDepth 100000

section
variable {P : Program} {w w' W W' : World} {B B' e size n m : Nat} {v u : Value} {xs news A M : List Value}

theorem own_base (h : w.ownsRow B' e size v n xs) (hB : B ≤ B') : w.ownsRow B e size v n xs := by
  refine ⟨h.1, ?_⟩
  rcases h.2 with hn | ⟨g, cap, cur, hv, hb, rest⟩
  · exact .inl hn
  · exact .inr ⟨g, cap, cur, hv, Nat.le_trans hB hb, rest⟩
theorem own_block (h : w.ownsRow B e size v n xs) {g : Nat} (hg : v.ownBlock = some g) : B ≤ g ∧ g < w.heap.size := by
  rcases h.2 with ⟨hv, _⟩ | ⟨g', cap, cur, hv, hb, hr, _⟩
  · rw [hv] at hg; cases hg
  · rw [hv] at hg
    simp only [Value.ownBlock, Option.some.injEq] at hg
    subst hg
    exact ⟨hb, (Array.getElem?_eq_some_iff.1 hr).1⟩
theorem own_kept (h : w.ownsRow B e size v n xs) (hk : ∀ g, v.ownBlock = some g → w'.heap[g]? = w.heap[g]?) : w'.ownsRow B e size v n xs := by
  refine ⟨h.1, ?_⟩
  rcases h.2 with hn | ⟨g, cap, cur, hv, hb, hr, rest⟩
  · exact .inl hn
  · exact .inr ⟨g, cap, cur, hv, hb, (hk g (by rw [hv]; rfl)).trans hr, rest⟩

/-- append: where it stood, or in a block that is new. -/
theorem run_append_far (w : World) (B : Nat) (t ty e : TypeId) (i : TypeInfo) (z : Value) (size bytes : Nat) (ht : P.underlying t = some (.slice e)) (hi : P.info? e = some i) (hz : i.zero = some z)
    (hsize : i.size = size) (hby : i.bytes = bytes) (hzs : z.cells.size = size) (hsz : 0 < size)
    (v : Value) (n : Nat) (xs : List Value) (hown : w.ownsRow B e size v n xs)
    (a : Addr) (m c : Nat) (news : List Value) (hl : news.length = m * size) (hnews : ∀ j u, news[j]? = some u → w.cell? (a.add j) = some u) (h1 : ∀ u ∈ news, u.oneCell' = true)
    (h63 : n + m ≤ maxLen) (hbytes : (n + m) * bytes ≤ 140737488355328) (hbase : B ≤ w.heap.size) :
    ∃ v' w', (Builtin.append_ #[t, t] ty #[v, .slice (some a) m c]).run P w = .ok v' w' ∧ w'.ownsRow B e size v' (n + m) (xs ++ news) ∧
      ((v'.ownBlock = v.ownBlock ∧ w.grownBy w' v.ownBlock) ∨ ((∀ g, v'.ownBlock = some g → w.heap.size ≤ g) ∧ w.grownBy w' none)) := by
  rcases hown.2 with ⟨rfl, rfl⟩ | ⟨g, cap, cur, rfl, hb, hr, hnc, hcm, hcs, htk⟩
  · obtain rfl : xs = [] := List.eq_nil_of_length_eq_zero (by simpa using hown.1)
    obtain ⟨v', w', hrun, r1, r2, _⟩ := run_append_own (P := P) w w.heap.size t ty e i z size bytes ht hi hz hsize hby hzs hsz (.slice none 0 0) 0 [] (World.ownsRow_nil w _ e size) a m c news hl hnews h1 h63 hbytes (Nat.le_refl _)
    exact ⟨v', w', hrun, own_base r1 hbase, .inr ⟨fun g hg => (own_block r1 hg).1, r2⟩⟩
  · by_cases hroom : n + m ≤ cap
    · obtain ⟨w', hrun, r1, r2⟩ := run_append_own_spare (P := P) w B t ty e i size ht hi hsize g n cap xs hown a m c news hl hnews h1 hroom
      exact ⟨_, w', hrun, r1, .inl ⟨rfl, r2⟩⟩
    · have hold : ∀ j u, xs[j]? = some u → w.cell? ((⟨g, 0, none⟩ : Addr).add j) = some u := fun j u hj => by
        rw [Addr.add_lit, Nat.zero_add]
        have h1 : cur.toList[j]? = some u := by
          rw [← htk] at hj
          rw [List.getElem?_take] at hj
          split at hj
          · exact hj
          · cases hj
        simp [World.cell?, hr]
        simpa using h1
      obtain ⟨v', w', hrun, r1, r2⟩ := run_append_arg_grows (P := P) w t ty e i z size bytes ht hi hz hsize hby hzs hsz ⟨g, 0, none⟩ n cap xs hown.1 hold a m c news hl hnews (by omega) h63 hbytes
      exact ⟨v', w', hrun, own_base r1 hbase, .inr ⟨fun g hg => (own_block r1 hg).1, r2⟩⟩

/-- the same, for the walk. -/
theorem wpList_append_far {ops : Array Oper} {rest : List Oper} {o : Oper} {a : Act} {Q : Exit → Act → World → Prop} (w : World)
    (hg : o.guard = none) (s x : Operand) (t : TypeId) (hop : o.op = Op.call { callee := Callee.builtin Builtin.append, args := #[s, x], argTypes := #[t, t] })
    (B : Nat) (e : TypeId) (i : TypeInfo) (z : Value) (size bytes : Nat) (ht : P.underlying t = some (.slice e)) (hi : P.info? e = some i) (hz : i.zero = some z)
    (hsize : i.size = size) (hby : i.bytes = bytes) (hzs : z.cells.size = size) (hsz : 0 < size)
    (v : Value) (n : Nat) (xs : List Value) (hs : a.eval s = v) (hown : w.ownsRow B e size v n xs)
    (ad : Addr) (m c : Nat) (news : List Value) (hx : a.eval x = .slice (some ad) m c) (hl : news.length = m * size) (hnews : ∀ j u, news[j]? = some u → w.cell? (ad.add j) = some u) (h1 : ∀ u ∈ news, u.oneCell' = true)
    (h63 : n + m ≤ maxLen) (hbytes : (n + m) * bytes ≤ 140737488355328) (hbase : B ≤ w.heap.size)
    (hK : ∀ v' w', w'.ownsRow B e size v' (n + m) (xs ++ news) → ((v'.ownBlock = v.ownBlock ∧ w.grownBy w' v.ownBlock) ∨ ((∀ g, v'.ownBlock = some g → w.heap.size ≤ g) ∧ w.grownBy w' none)) → wpList P ops Q rest (a.put o.dst v') w') :
    wpList P ops Q (o :: rest) a w := by
  refine wpList_plain hg fun K hK' => ?_
  obtain ⟨v', w', hrun, r1, r2⟩ := run_append_far (P := P) w B t o.type e i z size bytes ht hi hz hsize hby hzs hsz v n xs hown ad m c news hl hnews h1 h63 hbytes hbase
  unfold Oper.wp
  simp [execOp, hop, resolve, invoke, builtin, hs, hx, hrun, Result.andThen]
  exact hK' _ _ (hK v' w' r1 r2)


end
end ShfKit
/-
  Several rows of one type, each in a block of its own. For any program.
-/
namespace ShfKit
open Go Go.RowKit
set_option maxRecDepth 100000

abbrev Rw := Value × Nat × List Value
/-- rows, each in a block of its own. -/
structure Fam (W : World) (B e size : Nat) (L : List Rw) : Prop where
  own : ∀ (i : Nat) (x : Rw), L[i]? = some x → W.ownsRow B e size x.1 x.2.1 x.2.2
  apart : ∀ (i j : Nat) (x y : Rw) (g : Nat), L[i]? = some x → L[j]? = some y → i ≠ j → x.1.ownBlock = some g → y.1.ownBlock ≠ some g

section
variable {P : Program} {W W' : World} {B e size : Nat} {L : List Rw}
theorem Fam.nil (W : World) (B e size : Nat) : Fam W B e size [] := ⟨fun i x h => by simp at h, fun i j x y g h => by simp at h⟩
/-- one of them has become another, and only its own block has turned, or new ones have come. -/
theorem Fam.turn (h : Fam W B e size L) {i : Nat} {x y : Rw} (hx : L[i]? = some x) (ho : W'.ownsRow B e size y.1 y.2.1 y.2.2)
    (hf : (y.1.ownBlock = x.1.ownBlock ∧ W.grownBy W' x.1.ownBlock) ∨ ((∀ g, y.1.ownBlock = some g → W.heap.size ≤ g) ∧ W.grownBy W' none)) : Fam W' B e size (L.set i y) := by
  have hi := (List.getElem?_eq_some_iff.1 hx).1
  have old : ∀ (j : Nat) (z : Rw), j ≠ i → L[j]? = some z → W'.ownsRow B e size z.1 z.2.1 z.2.2 := fun j z hj hz => by
    refine own_kept (h.own j z hz) fun g hg => ?_
    have hlt := (own_block (h.own j z hz) hg).2
    rcases hf with ⟨_, hgr⟩ | ⟨_, hgr⟩
    · exact hgr.block g hlt (fun e => h.apart j i z x g hz hx hj hg e.symm)
    · exact hgr.block g hlt (fun e => by cases e)
  have new : ∀ (j : Nat) (z : Rw) (g : Nat), j ≠ i → L[j]? = some z → z.1.ownBlock = some g → y.1.ownBlock ≠ some g := fun j z g hj hz hg hy => by
    rcases hf with ⟨he, _⟩ | ⟨hn, _⟩
    · rw [he] at hy
      exact h.apart j i z x g hz hx hj hg hy
    · have := hn g hy
      have := (own_block (h.own j z hz) hg).2
      omega
  refine ⟨fun j z hz => ?_, fun j k z u g hz hu hjk hg => ?_⟩
  · rw [List.getElem?_set] at hz
    by_cases hji : i = j
    · rw [if_pos hji, if_pos (by omega)] at hz
      cases hz
      exact ho
    · rw [if_neg hji] at hz
      exact old j z (fun e => hji e.symm) hz
  · rw [List.getElem?_set] at hz hu
    by_cases hji : i = j
    · rw [if_pos hji, if_pos (by omega)] at hz
      cases hz
      rw [if_neg (by omega)] at hu
      intro hue
      exact new k u g (by omega) hu hue hg
    · rw [if_neg hji] at hz
      by_cases hki : i = k
      · rw [if_pos hki, if_pos (by omega)] at hu
        cases hu
        exact new j z g (fun e => hji e.symm) hz hg
      · rw [if_neg hki] at hu
        exact h.apart j k z u g hz hu hjk hg
/-- a cell of a row. -/
theorem own_cell {v : Value} {n : Nat} {xs : List Value} (h : W.ownsRow B e size v n xs) {j : Nat} {x : Value} (hj : xs[j]? = some x) : ∃ g c, v = .slice (some ⟨g, 0, none⟩) n c ∧ B ≤ g ∧ g < W.heap.size ∧ W.cell? ⟨g, j, none⟩ = some x ∧ W.frozen? ⟨g, j, none⟩ = false := by
  have hlt := (List.getElem?_eq_some_iff.1 hj).1
  rcases h.2 with ⟨hv, h0⟩ | ⟨g, cap, cur, hv, hb, hr, hnc, hcm, hcs, htk⟩
  · have := h.1
    rw [h0] at this
    omega
  · refine ⟨g, cap, hv, hb, (Array.getElem?_eq_some_iff.1 hr).1, ?_, by simp [World.frozen?, hr]⟩
    rw [← htk] at hj
    rw [List.getElem?_take] at hj
    split at hj
    · simp [World.cell?, hr]
      simpa using hj
    · cases hj
/-- a cell of a row is written. -/
theorem own_set {v : Value} {n : Nat} {xs : List Value} (h : W.ownsRow B e size v n xs) {g c j : Nat} (hv : v = .slice (some ⟨g, 0, none⟩) n c) (u : Value) : (W.setCell ⟨g, j, none⟩ u).ownsRow B e size v n (xs.set j u) ∧ W.grownBy (W.setCell ⟨g, j, none⟩ u) v.ownBlock := by
  have hob : v.ownBlock = some g := by rw [hv]; rfl
  refine ⟨⟨by rw [List.length_set]; exact h.1, ?_⟩, ⟨rfl, rfl, rfl, by simp [World.setCell], fun k hk hne => Below.heap_setCell W _ _ _ (fun e => hne (by rw [hob, e]))⟩⟩
  rcases h.2 with ⟨hv', h0⟩ | ⟨g', cap, cur, hv', hb, hr, hnc, hcm, hcs, htk⟩
  · rw [hv] at hv'; cases hv'
  · rw [hv] at hv'
    cases hv'
    refine .inr ⟨g, c, cur.setIfInBounds j u, hv, hb, ?_, hnc, hcm, by simpa using hcs, ?_⟩
    · simp [World.setCell, Array.getElem?_modify, hr]
    · rw [← htk, Array.toList_setIfInBounds, List.take_set]
end
end ShfKit
/-
  The shelf: lists of lists that were told, each in a block of its own, kept and written over.
-/
namespace Go.Proofs.YtcpncfngadablaaGreatDoor
open Go Go.RowKit ShfKit
set_option maxRecDepth 100000

/-- what lies on the shelf. -/
structure Sg where
  p : Nat
  bv : Value
  tv : Value
  sv : Value
  Lb : List Rw
  Lt : List Rw
  Ls : List (Int × Rw)

def Sg.cells (S : Sg) : List Value := S.Ls.flatMap fun x => [.int .i64 x.1, x.2.1]
def blks (L : List Rw) : List Nat := L.flatMap fun x => x.1.ownBlock.toList
def Sg.hdr (S : Sg) : List Nat := S.p :: (S.bv.ownBlock.toList ++ (S.tv.ownBlock.toList ++ S.sv.ownBlock.toList))
def Sg.foot (S : Sg) : List Nat := S.hdr ++ (blks S.Lb ++ (blks S.Lt ++ blks (S.Ls.map (·.2))))

theorem mem_blks {L : List Rw} {b : Nat} : b ∈ blks L ↔ ∃ (i : Nat) (x : Rw), L[i]? = some x ∧ x.1.ownBlock = some b := by
  unfold blks
  rw [List.mem_flatMap]
  constructor
  · rintro ⟨x, hx, hb⟩
    obtain ⟨i, hi, rfl⟩ := List.getElem_of_mem hx
    exact ⟨i, _, List.getElem?_eq_getElem hi, by simpa using hb⟩
  · rintro ⟨i, x, hx, hb⟩
    exact ⟨x, List.mem_of_getElem? hx, by simp [hb]⟩

structure ShelfAt (w : World) (S : Sg) : Prop where
  row : w.heap[S.p]? = some (.cells #[S.bv, S.tv, S.sv] 55 (0, 0))
  rb : w.ownsRow 0 31 1 S.bv S.Lb.length (S.Lb.map (·.1))
  rt : w.ownsRow 0 32 1 S.tv S.Lt.length (S.Lt.map (·.1))
  rs : w.ownsRow 0 47 2 S.sv S.Ls.length S.cells
  fb : Fam w 0 5 1 S.Lb
  ft : Fam w 0 9 1 S.Lt
  fs : Fam w 0 71 3 (S.Ls.map (·.2))

/-- only blocks of one type have turned. -/
def But (t : Nat) (w w' : World) : Prop := ∀ (k : Nat) (c : Array Value) (e : Nat) (fz : Nat × Nat), w.heap[k]? = some (Obj.cells c e fz) → e ≠ t → w'.heap[k]? = w.heap[k]?

section
variable {w w' w1 w2 : World} {S S' S'' : Sg} {t e size n : Nat} {B : Nat} {v : Value} {xs : List Value} {L M : List Rw}
theorem But.own (h : But t w w') (ho : w.ownsRow B e size v n xs) (hne : e ≠ t) : w'.ownsRow B e size v n xs := own_kept ho fun g hg => by
  obtain ⟨c, fz, hk⟩ := Lib.ownsRow_kind ho g hg
  exact h g c e fz hk hne
theorem But.fam (h : But t w w') (hf : Fam w B e size L) (hne : e ≠ t) : Fam w' B e size L := ⟨fun i x hx => h.own (hf.own i x hx) hne, hf.apart⟩
theorem But.of_grown {b : Option Nat} (h : w.grownBy w' b) (hb : ∀ k, b = some k → ∃ c fz, w.heap[k]? = some (.cells c t fz)) : But t w w' := fun k c e fz hk hne => h.block k (Array.getElem?_eq_some_iff.1 hk).1 (fun e2 => by
  obtain ⟨c2, fz2, h2⟩ := hb k e2.symm
  rw [hk] at h2
  simp at h2
  exact hne h2.2.1)
theorem But.of_own {v' : Value} (ho : w.ownsRow B t size v n xs) (h : (v'.ownBlock = v.ownBlock ∧ w.grownBy w' v.ownBlock) ∨ ((∀ g, v'.ownBlock = some g → w.heap.size ≤ g) ∧ w.grownBy w' none)) : But t w w' := by
  rcases h with ⟨_, h⟩ | ⟨_, h⟩
  · exact But.of_grown h (Lib.ownsRow_kind ho)
  · exact But.of_grown h (fun k hk => by cases hk)
theorem But.setCell {k i : Nat} {c : Array Value} {fz : Nat × Nat} (hk : w.heap[k]? = some (.cells c t fz)) (u : Value) : But t w (w.setCell ⟨k, i, none⟩ u) := fun j c2 e fz2 hj hne => Below.heap_setCell w _ _ _ (fun e2 => by
  have e3 : j = k := e2
  subst e3
  rw [hk] at hj
  simp at hj
  exact hne hj.2.1.symm)

theorem ShelfAt.kept (h : ShelfAt w S) (hk : ∀ b ∈ S.foot, w'.heap[b]? = w.heap[b]?) : ShelfAt w' S := by
  have hh : ∀ b ∈ S.hdr, w'.heap[b]? = w.heap[b]? := fun b hb => hk b (List.mem_append.2 (.inl hb))
  have f1 : ∀ b ∈ blks S.Lb, w'.heap[b]? = w.heap[b]? := fun b hb => hk b (by simp [Sg.foot, hb])
  have f2 : ∀ b ∈ blks S.Lt, w'.heap[b]? = w.heap[b]? := fun b hb => hk b (by simp [Sg.foot, hb])
  have f3 : ∀ b ∈ blks (S.Ls.map (·.2)), w'.heap[b]? = w.heap[b]? := fun b hb => hk b (by unfold Sg.foot; simp only [List.mem_append]; exact .inr (.inr (.inr hb)))
  refine ⟨(hh _ (by simp [Sg.hdr])).trans h.row, own_kept h.rb fun g hg => hh g (by simp [Sg.hdr, hg]), own_kept h.rt fun g hg => hh g (by simp [Sg.hdr, hg]), own_kept h.rs fun g hg => hh g (by simp [Sg.hdr, hg]), ⟨fun i x hx => own_kept (h.fb.own i x hx) fun g hg => f1 g (mem_blks.2 ⟨i, x, hx, hg⟩), h.fb.apart⟩, ⟨fun i x hx => own_kept (h.ft.own i x hx) fun g hg => f2 g (mem_blks.2 ⟨i, x, hx, hg⟩), h.ft.apart⟩, ⟨fun i x hx => own_kept (h.fs.own i x hx) fun g hg => f3 g (mem_blks.2 ⟨i, x, hx, hg⟩), h.fs.apart⟩⟩

theorem blks_lt (h : Fam w B e size L) : ∀ b ∈ blks L, b < w.heap.size := fun b hb => by
  obtain ⟨i, x, hx, hb⟩ := mem_blks.1 hb
  exact (own_block (h.own i x hx) hb).2
theorem ShelfAt.lt (h : ShelfAt w S) : ∀ b ∈ S.foot, b < w.heap.size := by
  intro b hb
  simp only [Sg.foot, Sg.hdr, List.mem_append, List.mem_cons, Option.mem_toList] at hb
  rcases hb with (rfl | hb | hb | hb) | hb | hb | hb
  · exact lt_of_block h.row
  · exact (own_block h.rb hb).2
  · exact (own_block h.rt hb).2
  · exact (own_block h.rs hb).2
  · exact blks_lt h.fb b hb
  · exact blks_lt h.ft b hb
  · exact blks_lt h.fs b hb
theorem ShelfAt.touch {F : List Nat} (h : ShelfAt w S) (ht : Touch F w w') (hF : ∀ b ∈ S.foot, b ∉ F) : ShelfAt w' S := h.kept fun b hb => ht.block b (h.lt b hb) (hF b hb)
theorem hdr_foot {b : Nat} (h : b ∈ S.hdr) : b ∈ S.foot := List.mem_append.2 (.inl h)

/-- the shelf has turned, nothing else. -/
structure Moved (w w' : World) (S S' : Sg) : Prop where
  touch : Touch S.foot w w'
  foot : ∀ b ∈ S'.foot, b ∈ S.foot ∨ w.heap.size ≤ b
/-- only its own rows have turned, none of the lists. -/
structure Grew (w w' : World) (S S' : Sg) : Prop where
  touch : Touch S.hdr w w'
  hdr : ∀ b ∈ S'.hdr, b ∈ S.hdr ∨ w.heap.size ≤ b
theorem Moved.refl (w : World) (S : Sg) : Moved w w S S := ⟨Touch.refl _ _, fun _ hb => .inl hb⟩
theorem Grew.refl (w : World) (S : Sg) : Grew w w S S := ⟨Touch.refl _ _, fun _ hb => .inl hb⟩
theorem Moved.trans (h : Moved w w1 S S') (k : Moved w1 w2 S' S'') : Moved w w2 S S'' := ⟨h.touch.trans k.touch h.foot, fun b hb => by
  rcases k.foot b hb with h1 | h1
  · exact h.foot b h1
  · exact .inr (Nat.le_trans h.touch.size h1)⟩
theorem Grew.trans (h : Grew w w1 S S') (k : Grew w1 w2 S' S'') : Grew w w2 S S'' := ⟨h.touch.trans k.touch h.hdr, fun b hb => by
  rcases k.hdr b hb with h1 | h1
  · exact h.hdr b h1
  · exact .inr (Nat.le_trans h.touch.size h1)⟩
theorem Moved.below (h : Moved w w1 S S') (k : Below w1.heap.size w1 w2) : Moved w w2 S S' := h.trans ⟨Touch.of_below k (Nat.le_refl _), fun _ hb => .inl hb⟩
theorem Grew.below (h : Grew w w1 S S') (k : Below w1.heap.size w1 w2) : Grew w w2 S S' := h.trans ⟨Touch.of_below k (Nat.le_refl _), fun _ hb => .inl hb⟩

/-- two families in one. -/
theorem Fam.join (h : Fam w B e size L) (k : Fam w B e size M) (hd : ∀ b ∈ blks L, b ∉ blks M) : Fam w B e size (L ++ M) := by
  have get : ∀ (i : Nat) (x : Rw), (L ++ M)[i]? = some x → (i < L.length ∧ L[i]? = some x) ∨ (L.length ≤ i ∧ M[i - L.length]? = some x) := fun i x hx => by
    by_cases hi : i < L.length
    · rw [List.getElem?_append_left hi] at hx
      exact .inl ⟨hi, hx⟩
    · rw [List.getElem?_append_right (by omega)] at hx
      exact .inr ⟨by omega, hx⟩
  refine ⟨fun i x hx => ?_, fun i j x y g hx hy hij hg hg2 => ?_⟩
  · rcases get i x hx with ⟨_, h1⟩ | ⟨_, h1⟩
    · exact h.own i x h1
    · exact k.own _ x h1
  · rcases get i x hx with ⟨_, h1⟩ | ⟨_, h1⟩ <;> rcases get j y hy with ⟨_, h2⟩ | ⟨_, h2⟩
    · exact h.apart i j x y g h1 h2 hij hg hg2
    · exact hd g (mem_blks.2 ⟨_, _, h1, hg⟩) (mem_blks.2 ⟨_, _, h2, hg2⟩)
    · exact hd g (mem_blks.2 ⟨_, _, h2, hg2⟩) (mem_blks.2 ⟨_, _, h1, hg⟩)
    · exact k.apart _ _ x y g h1 h2 (by omega) hg hg2
theorem blks_append : blks (L ++ M) = blks L ++ blks M := by simp [blks]

/-- the row of the shelf: one of its three slices is set. -/
theorem shelf_row (h : ShelfAt w S) (hb : But t w w1) (ht : 55 ≠ t) : w1.heap[S.p]? = some (.cells #[S.bv, S.tv, S.sv] 55 (0, 0)) := (hb _ _ _ _ h.row ht).trans h.row
theorem grown_all {b : Option Nat} (h : (v.ownBlock = b ∧ w.grownBy w' b) ∨ ((∀ g, v.ownBlock = some g → w.heap.size ≤ g) ∧ w.grownBy w' none)) : w.grownBy w' b ∧ ∀ g, v.ownBlock = some g → b = some g ∨ w.heap.size ≤ g := by
  rcases h with ⟨e, h⟩ | ⟨e, h⟩
  · exact ⟨h, fun g hg => .inl (e ▸ hg)⟩
  · exact ⟨⟨h.os, h.tape, h.output, h.size, fun k hk _ => h.block k hk (by simp)⟩, fun g hg => .inr (e g hg)⟩

theorem ShelfAt.pushB {bv' : Value} (h : ShelfAt w S) {ys : List Rw} (ho : w1.ownsRow 0 31 1 bv' (S.Lb.length + ys.length) (S.Lb.map (·.1) ++ ys.map (·.1)))
    (hf : (bv'.ownBlock = S.bv.ownBlock ∧ w.grownBy w1 S.bv.ownBlock) ∨ ((∀ g, bv'.ownBlock = some g → w.heap.size ≤ g) ∧ w.grownBy w1 none)) (hfam : Fam w 0 5 1 (S.Lb ++ ys)) :
    ShelfAt (w1.setCell ⟨S.p, 0, none⟩ bv') { S with bv := bv', Lb := S.Lb ++ ys } ∧ Grew w (w1.setCell ⟨S.p, 0, none⟩ bv') S { S with bv := bv', Lb := S.Lb ++ ys } ∧ w1.cell? ⟨S.p, 0, none⟩ = some S.bv ∧ w1.frozen? ⟨S.p, 0, none⟩ = false := by
  have b1 : But 31 w w1 := But.of_own h.rb hf
  have r1 := shelf_row h b1 (by decide)
  have b2 : But 55 w1 (w1.setCell ⟨S.p, 0, none⟩ bv') := But.setCell r1 _
  obtain ⟨g1, g2⟩ := grown_all hf
  refine ⟨⟨?_, ?_, b2.own (b1.own h.rt (by decide)) (by decide), b2.own (b1.own h.rs (by decide)) (by decide), b2.fam (b1.fam hfam (by decide)) (by decide), b2.fam (b1.fam h.ft (by decide)) (by decide), b2.fam (b1.fam h.fs (by decide)) (by decide)⟩, ⟨?_, ?_⟩, ?_, unfrozen_row r1 0⟩
  · exact heap_setCell_row r1 0 bv'
  · show World.ownsRow _ 0 31 1 bv' (S.Lb ++ ys).length ((S.Lb ++ ys).map (·.1))
    rw [List.map_append, List.length_append]
    exact b2.own ho (by decide)
  · refine ((Touch.refl S.hdr w).grown g1 (fun k hk => .inl ?_)).setCell (.inl ?_) _
    · simp [Sg.hdr, hk]
    · simp [Sg.hdr]
  · intro b hb
    simp only [Sg.hdr, List.mem_cons, List.mem_append, Option.mem_toList] at hb ⊢
    rcases hb with rfl | hb | hb | hb
    · exact .inl (.inl rfl)
    · rcases g2 b hb with h1 | h1
      · exact .inl (.inr (.inl h1))
      · exact .inr h1
    · exact .inl (.inr (.inr (.inl hb)))
    · exact .inl (.inr (.inr (.inr hb)))
  · rw [cell_row r1]
    rfl
theorem ShelfAt.pushT {tv' : Value} (h : ShelfAt w S) {ys : List Rw} (ho : w1.ownsRow 0 32 1 tv' (S.Lt.length + ys.length) (S.Lt.map (·.1) ++ ys.map (·.1)))
    (hf : (tv'.ownBlock = S.tv.ownBlock ∧ w.grownBy w1 S.tv.ownBlock) ∨ ((∀ g, tv'.ownBlock = some g → w.heap.size ≤ g) ∧ w.grownBy w1 none)) (hfam : Fam w 0 9 1 (S.Lt ++ ys)) :
    ShelfAt (w1.setCell ⟨S.p, 1, none⟩ tv') { S with tv := tv', Lt := S.Lt ++ ys } ∧ Grew w (w1.setCell ⟨S.p, 1, none⟩ tv') S { S with tv := tv', Lt := S.Lt ++ ys } ∧ w1.cell? ⟨S.p, 1, none⟩ = some S.tv ∧ w1.frozen? ⟨S.p, 1, none⟩ = false := by
  have b1 : But 32 w w1 := But.of_own h.rt hf
  have r1 := shelf_row h b1 (by decide)
  have b2 : But 55 w1 (w1.setCell ⟨S.p, 1, none⟩ tv') := But.setCell r1 _
  obtain ⟨g1, g2⟩ := grown_all hf
  refine ⟨⟨?_, b2.own (b1.own h.rb (by decide)) (by decide), ?_, b2.own (b1.own h.rs (by decide)) (by decide), b2.fam (b1.fam h.fb (by decide)) (by decide), b2.fam (b1.fam hfam (by decide)) (by decide), b2.fam (b1.fam h.fs (by decide)) (by decide)⟩, ⟨?_, ?_⟩, ?_, unfrozen_row r1 1⟩
  · exact heap_setCell_row r1 1 tv'
  · show World.ownsRow _ 0 32 1 tv' (S.Lt ++ ys).length ((S.Lt ++ ys).map (·.1))
    rw [List.map_append, List.length_append]
    exact b2.own ho (by decide)
  · refine ((Touch.refl S.hdr w).grown g1 (fun k hk => .inl ?_)).setCell (.inl ?_) _
    · simp [Sg.hdr, hk]
    · simp [Sg.hdr]
  · intro b hb
    simp only [Sg.hdr, List.mem_cons, List.mem_append, Option.mem_toList] at hb ⊢
    rcases hb with rfl | hb | hb | hb
    · exact .inl (.inl rfl)
    · exact .inl (.inr (.inl hb))
    · rcases g2 b hb with h1 | h1
      · exact .inl (.inr (.inr (.inl h1)))
      · exact .inr h1
    · exact .inl (.inr (.inr (.inr hb)))
  · rw [cell_row r1]
    rfl
theorem ShelfAt.pushS {sv' : Value} (h : ShelfAt w S) {ys : List (Int × Rw)} (ho : w1.ownsRow 0 47 2 sv' (S.Ls.length + ys.length) (S.cells ++ ys.flatMap fun x => [.int .i64 x.1, x.2.1]))
    (hf : (sv'.ownBlock = S.sv.ownBlock ∧ w.grownBy w1 S.sv.ownBlock) ∨ ((∀ g, sv'.ownBlock = some g → w.heap.size ≤ g) ∧ w.grownBy w1 none)) (hfam : Fam w 0 71 3 ((S.Ls ++ ys).map (·.2))) :
    ShelfAt (w1.setCell ⟨S.p, 2, none⟩ sv') { S with sv := sv', Ls := S.Ls ++ ys } ∧ Grew w (w1.setCell ⟨S.p, 2, none⟩ sv') S { S with sv := sv', Ls := S.Ls ++ ys } ∧ w1.cell? ⟨S.p, 2, none⟩ = some S.sv ∧ w1.frozen? ⟨S.p, 2, none⟩ = false := by
  have b1 : But 47 w w1 := But.of_own h.rs hf
  have r1 := shelf_row h b1 (by decide)
  have b2 : But 55 w1 (w1.setCell ⟨S.p, 2, none⟩ sv') := But.setCell r1 _
  obtain ⟨g1, g2⟩ := grown_all hf
  refine ⟨⟨?_, b2.own (b1.own h.rb (by decide)) (by decide), b2.own (b1.own h.rt (by decide)) (by decide), ?_, b2.fam (b1.fam h.fb (by decide)) (by decide), b2.fam (b1.fam h.ft (by decide)) (by decide), b2.fam (b1.fam hfam (by decide)) (by decide)⟩, ⟨?_, ?_⟩, ?_, unfrozen_row r1 2⟩
  · exact heap_setCell_row r1 2 sv'
  · show World.ownsRow _ 0 47 2 sv' (S.Ls ++ ys).length (Sg.cells { S with sv := sv', Ls := S.Ls ++ ys })
    unfold Sg.cells
    rw [List.flatMap_append, List.length_append]
    exact b2.own ho (by decide)
  · refine ((Touch.refl S.hdr w).grown g1 (fun k hk => .inl ?_)).setCell (.inl ?_) _
    · simp [Sg.hdr, hk]
    · simp [Sg.hdr]
  · intro b hb
    simp only [Sg.hdr, List.mem_cons, List.mem_append, Option.mem_toList] at hb ⊢
    rcases hb with rfl | hb | hb | hb
    · exact .inl (.inl rfl)
    · exact .inl (.inr (.inl hb))
    · exact .inl (.inr (.inr (.inl hb)))
    · rcases g2 b hb with h1 | h1
      · exact .inl (.inr (.inr (.inr h1)))
      · exact .inr h1
  · rw [cell_row r1]
    rfl
end
end Go.Proofs.YtcpncfngadablaaGreatDoor
