import Derived.Lib.BufSteps
import Derived.Lib.ItoaLen
import Derived.Lib.Strings
import Derived.WalkKit
import Derived.WalkSpells
import Derived.WalkLawsBesides
import Derived.Deep.QuietTactic
import Derived.Deep.RegionHeld3
import Derived.Deep.RegionWith
import Derived.Deep.OwnRows
import Derived.Laws.LoneSync
import Derived.Below
import Derived.Laws.IdiomStrings
import Derived.BigQuiet
import Derived.Deep.RegionLaw
import Derived.Deep.DeepCutAuto
import Derived.Lib.SmallJoins
import Derived.Lib.ItoaMem
import Derived.Laws.AppendOwn
import Derived.Deep.DeepAppendRoom
import Derived.ArgAppend
import Derived.Lib.OwnKind
import Derived.OwnWalk
import Derived.Deep.MidRow
import Derived.Deep.RegionHeldLaw
import Derived.Lib.Builder
import Derived.Lib.FrozenHead
import Derived.Lib.OthersKept
import Derived.Lib.UnsafeStr
import Derived.Laws.Externs
import Derived.Shelf.RegionOpenPlain
import Derived.Shelf.Small.Wraps
import Derived.Shelf.Strconv.Itoa0
import Derived.Shelf.Strconv.Itoa1
import Derived.Shelf.LaysM
import Derived.Shelf.Strconv.Itoa2
import Derived.Shelf.Strconv.Itoa3
import Derived.Shelf.Strings.Search1
import Derived.Shelf.Strings.Search2
import Derived.Shelf.Strings.Search3
import Derived.Shelf.Strings.Cut
import Derived.Shelf.Strings.Count
import Derived.Shelf.Strings.Shaped
import Derived.Shelf.Strings.LastIndex
import Derived.Shelf.Strings.Prefix
import Derived.Shelf.Unicode.DecodeSlow
import Derived.Shelf.Unicode.DecodeAny
import Derived.Lib.AppendIntMem
import Derived.Lib.IndexLaws
import Derived.Deep.LoopGhost
import Derived.Deep.CutBlock
import Derived.Deep.Strs
import Derived.LaidLaws
import Derived.DataElems
import Derived.OpenShut
import Derived.SizedLaws
import Derived.ProofKit
import Derived.Deep.Slices
import Derived.ChangeArms
import Derived.Lib.LaidU8
import Derived.Deep.DeepHandedRow
import Derived.Deep.DeepWitnessRowRef
import Derived.SevenTiedAt
import Derived.Test.YtdkboifpdodonacGreatDoorRows
import Derived.Test.YtdkboifpdodonacGreatDoorTie
import Derived.Test.YtdkboifpdodonacGreatDoorCards
set_option linter.unusedSimpArgs false
/-
 The document's own decimal.
-/
namespace Go.Proofs.YtdkboifpdodonacGreatDoor
open Go.RowKit Go.Deep
set_option maxRecDepth 100000

theorem hid {q : Prop} (h : q) : Hid q := h
/-- a string of these bytes. -/
abbrev str (l : List UInt8) : Value := .string ⟨l.toArray⟩

theorem dec_small {n : Nat} (h : n < 10) : Lib.decDigits n = [UInt8.ofNat (48 + n)] := by rw [Lib.decDigits, dif_pos h]

theorem str_add (a b : List UInt8) : (⟨a.toArray⟩ : ByteArray) ++ ⟨b.toArray⟩ = ⟨(a ++ b).toArray⟩ := by
 apply ByteArray.ext
 simp

end Go.Proofs.YtdkboifpdodonacGreatDoor
/-
 Clauses: when they are formed, and their text: plain mathematics.
-/
namespace PureCnf
open Go.Lib




theorem take_snoc {α : Type} (l : List α) (k : Nat) (h : k < l.length) : l.take (k + 1) = l.take k ++ [l[k]] := List.take_succ_eq_append_getElem h


/-! ### the text -/


end PureCnf
/-
 Bytes that a call owns: appends, and their text.
-/
namespace Go.Proofs.YtdkboifpdodonacGreatDoor
open Go.RowKit Go.Deep PureCnf
set_option maxRecDepth 100000

theorem info5 : (Tryz.prog.info? 5).map (fun i => (i.zero, i.size, i.bytes)) = some (some (.int .u8 0), 1, 1) := by kernel_rfl

theorem add_zero_addr (g j : Nat) : (⟨g, 0, none⟩ : Addr).add j = ⟨g, j, none⟩ := by
 unfold Addr.add
 split <;> simp_all
theorem cell_row {w : World} {b : Nat} {c : Array Value} {t : TypeId} {fz : Nat × Nat} (h : w.heap[b]? = some (.cells c t fz)) (i : Nat) : w.cell? ⟨b, i, none⟩ = c[i]? := by simp [World.cell?, h]


theorem sum_text {A D : List UInt8} {W : World} (h : A.length + D.length ≤ 9223372036854775807) : (Op.stringOp .add ⟨A.toArray⟩ ⟨D.toArray⟩).run Tryz.prog W = .ok (str (A ++ D)) W := by
 rw [run_string_add_sum _ ⟨A.toArray⟩ ⟨D.toArray⟩ h, str_add]

end Go.Proofs.YtdkboifpdodonacGreatDoor
/-
 The document's own PrintCnf.
-/
namespace Go.Proofs.YtdkboifpdodonacGreatDoor
open Go.RowKit Go.Deep PureCnf
set_option maxRecDepth 100000

theorem below_cell {B b o : Nat} {w w' : World} {x : Value} (hb : Below B w w') (hlt : b < B) (h : w.cell? ⟨b, o, none⟩ = some x) : w'.cell? ⟨b, o, none⟩ = some x := (hb.cell (p := ⟨b, o, none⟩) hlt).trans h

end Go.Proofs.YtdkboifpdodonacGreatDoor
/-
 sameInts, sameCnf, of lists that are the same.
-/
namespace Go.Proofs.YtdkboifpdodonacGreatDoor
open Go.RowKit Go.Deep PureCnf
set_option maxRecDepth 100000

theorem Below.drewN' {B : Nat} {w w' : World} (h : Below B w w') (n : Nat) : Below B w (w'.drewN n) := ⟨h.os, h.tape, h.output, h.size, h.block⟩

end Go.Proofs.YtdkboifpdodonacGreatDoor
/-
 FormulaWrites: the law, over contracts of the program's own PrintCnf and FormedCnf.
-/
namespace Go.Proofs.YtdkboifpdodonacGreatDoor
open Go.RowKit Go.Deep PureCnf
set_option maxRecDepth 100000

theorem info3 : (Tryz.prog.info? 3).map (fun i => (i.zero, i.size, i.bytes)) = some (some (.int .i64 0), 1, 8) := by kernel_rfl

/-- the library's table of powers of ten lies there. -/
def Tab (w : World) : Prop := Lib.TabIs Tryz.prog w "internal/strconv.uint64pow10" .u64 Lib.pow10Tab
theorem Tab.below {w W : World} (h : Tab w) (hb : Below w.heap.size w W) : Tab W := Joins.tab_stays (g := 4) (by kernel_rfl) h hb (Nat.le_refl _)
theorem unfrozen_row {w : World} {b : Nat} {c : Array Value} {t : TypeId} (h : w.heap[b]? = some (.cells c t (0, 0))) (i : Nat) : w.frozen? ⟨b, i, none⟩ = false := by simp [World.frozen?, h]

end Go.Proofs.YtdkboifpdodonacGreatDoor
/-
 Lists that were handed out, and what is grown out of them: which blocks turn, which stay. For any program.
-/
namespace ShfKit
open Go Go.RowKit
set_option maxRecDepth 100000

section
variable {P : Program} {w w' W W' : World} {B B' e size n m : Nat} {v u : Value} {xs news A M : List Value}

theorem own_base (h : w.ownsRow B' e size v n xs) (hB : B ≤ B') : w.ownsRow B e size v n xs := by
 refine ⟨h.1, ?_⟩
 rcases h.2 with hn | ⟨g, cap, cur, hv, hb, rest⟩
 ·exact .inl hn
 ·exact .inr ⟨g, cap, cur, hv, Nat.le_trans hB hb, rest⟩
theorem own_block (h : w.ownsRow B e size v n xs) {g : Nat} (hg : v.ownBlock = some g) : B ≤ g ∧ g < w.heap.size := by
 rcases h.2 with ⟨hv, _⟩ | ⟨g', cap, cur, hv, hb, hr, _⟩
 ·rw [hv] at hg; cases hg
 ·rw [hv] at hg
  simp only [Value.ownBlock, Option.some.injEq] at hg
  subst hg
  exact ⟨hb, (Array.getElem?_eq_some_iff.1 hr).1⟩
theorem own_kept (h : w.ownsRow B e size v n xs) (hk : ∀ g, v.ownBlock = some g → w'.heap[g]? = w.heap[g]?) : w'.ownsRow B e size v n xs := by
 refine ⟨h.1, ?_⟩
 rcases h.2 with hn | ⟨g, cap, cur, hv, hb, hr, rest⟩
 ·exact .inl hn
 ·exact .inr ⟨g, cap, cur, hv, hb, (hk g (by rw [hv]; rfl)).trans hr, rest⟩

/-- append: where it stood, or in a block that is new. -/
theorem run_append_far (w : World) (B : Nat) (t ty e : TypeId) (i : TypeInfo) (z : Value) (size bytes : Nat) (ht : P.underlying t = some (.slice e)) (hi : P.info? e = some i) (hz : i.zero = some z)
  (hsize : i.size = size) (hby : i.bytes = bytes) (hzs : z.cells.size = size) (hsz : 0 < size)
  (v : Value) (n : Nat) (xs : List Value) (hown : w.ownsRow B e size v n xs)
  (a : Addr) (m c : Nat) (news : List Value) (hl : news.length = m * size) (hnews : ∀ j u, news[j]? = some u → w.cell? (a.add j) = some u) (h1 : ∀ u ∈ news, u.oneCell' = true)
  (h63 : n + m ≤ maxLen) (hbytes : (n + m) * bytes ≤ 140737488355328) (hbase : B ≤ w.heap.size) :
  ∃ v' w', (Builtin.append_ #[t, t] ty #[v, .slice (some a) m c]).run P w = .ok v' w' ∧ w'.ownsRow B e size v' (n + m) (xs ++ news) ∧
   ((v'.ownBlock = v.ownBlock ∧ w.grownBy w' v.ownBlock) ∨ ((∀ g, v'.ownBlock = some g → w.heap.size ≤ g) ∧ w.grownBy w' none)) := by
 rcases hown.2 with ⟨rfl, rfl⟩ | ⟨g, cap, cur, rfl, hb, hr, hnc, hcm, hcs, htk⟩
 ·obtain rfl : xs = [] := List.eq_nil_of_length_eq_zero (by simpa using hown.1)
  obtain ⟨v', w', hrun, r1, r2, _⟩ := run_append_own (P := P) w w.heap.size t ty e i z size bytes ht hi hz hsize hby hzs hsz (.slice none 0 0) 0 [] (World.ownsRow_nil w _ e size) a m c news hl hnews h1 h63 hbytes (Nat.le_refl _)
  exact ⟨v', w', hrun, own_base r1 hbase, .inr ⟨fun g hg => (own_block r1 hg).1, r2⟩⟩
 ·by_cases hroom : n + m ≤ cap
  ·obtain ⟨w', hrun, r1, r2⟩ := run_append_own_spare (P := P) w B t ty e i size ht hi hsize g n cap xs hown a m c news hl hnews h1 hroom
   exact ⟨_, w', hrun, r1, .inl ⟨rfl, r2⟩⟩
  ·have hold : ∀ j u, xs[j]? = some u → w.cell? ((⟨g, 0, none⟩ : Addr).add j) = some u := fun j u hj => by
    rw [Addr.add_lit, Nat.zero_add]
    have h1 : cur.toList[j]? = some u := by
     rw [← htk] at hj
     rw [List.getElem?_take] at hj
     split at hj
     ·exact hj
     ·cases hj
    simp [World.cell?, hr]
    simpa using h1
   obtain ⟨v', w', hrun, r1, r2⟩ := run_append_arg_grows (P := P) w t ty e i z size bytes ht hi hz hsize hby hzs hsz ⟨g, 0, none⟩ n cap xs hown.1 hold a m c news hl hnews (by omega) h63 hbytes
   exact ⟨v', w', hrun, own_base r1 hbase, .inr ⟨fun g hg => (own_block r1 hg).1, r2⟩⟩

/-- the same, for the walk. -/
theorem wpList_append_far {ops : Array Oper} {rest : List Oper} {o : Oper} {a : Act} {Q : Exit → Act → World → Prop} (w : World)
  (hg : o.guard = none) (s x : Operand) (t : TypeId) (hop : o.op = Op.call { callee := Callee.builtin Builtin.append, args := #[s, x], argTypes := #[t, t] })
  (B : Nat) (e : TypeId) (i : TypeInfo) (z : Value) (size bytes : Nat) (ht : P.underlying t = some (.slice e)) (hi : P.info? e = some i) (hz : i.zero = some z)
  (hsize : i.size = size) (hby : i.bytes = bytes) (hzs : z.cells.size = size) (hsz : 0 < size)
  (v : Value) (n : Nat) (xs : List Value) (hs : a.eval s = v) (hown : w.ownsRow B e size v n xs)
  (ad : Addr) (m c : Nat) (news : List Value) (hx : a.eval x = .slice (some ad) m c) (hl : news.length = m * size) (hnews : ∀ j u, news[j]? = some u → w.cell? (ad.add j) = some u) (h1 : ∀ u ∈ news, u.oneCell' = true)
  (h63 : n + m ≤ maxLen) (hbytes : (n + m) * bytes ≤ 140737488355328) (hbase : B ≤ w.heap.size)
  (hK : ∀ v' w', w'.ownsRow B e size v' (n + m) (xs ++ news) → ((v'.ownBlock = v.ownBlock ∧ w.grownBy w' v.ownBlock) ∨ ((∀ g, v'.ownBlock = some g → w.heap.size ≤ g) ∧ w.grownBy w' none)) → wpList P ops Q rest (a.put o.dst v') w') :
  wpList P ops Q (o :: rest) a w := by
 refine wpList_plain hg fun K hK' => ?_
 obtain ⟨v', w', hrun, r1, r2⟩ := run_append_far (P := P) w B t o.type e i z size bytes ht hi hz hsize hby hzs hsz v n xs hown ad m c news hl hnews h1 h63 hbytes hbase
 unfold Oper.wp
 simp [execOp, hop, resolve, invoke, builtin, hs, hx, hrun, Result.andThen]
 exact hK' _ _ (hK v' w' r1 r2)

/-- v: a list as it was handed out, with the cells A; u: what has been grown out of it, with the cells M. -/
structure Pair (W : World) (B e size : Nat) (v : Value) (n : Nat) (A : List Value) (u : Value) (m : Nat) (M : List Value) : Prop where
 shape : ∃ sa c, v = .slice sa n c
 len : A.length = n * size
 rd : ∀ j (hj : j < A.length), ∃ g c, v = .slice (some ⟨g, 0, none⟩) n c ∧ B ≤ g ∧ g < W.heap.size ∧ W.cell? ⟨g, j, none⟩ = some A[j]
 lo : ∀ g, v.ownBlock = some g → B ≤ g ∧ g < W.heap.size
 own : W.ownsRow B e size u m M
 fr : M.take A.length = A
/-- a block of one of the two. -/
def InB (v u : Value) (k : Nat) : Prop := v.ownBlock = some k ∨ u.ownBlock = some k

theorem Pair.start (h : W.ownsRow B e size v n A) : Pair W B e size v n A v n A := by
 refine ⟨?_, h.1, fun j hj => ?_, fun g hg => own_block h hg, h, by rw [List.take_length]⟩
 ·rcases h.2 with ⟨hv, h0⟩ | ⟨g, cap, cur, hv, _⟩
  ·exact ⟨none, 0, by rw [hv, h0]⟩
  ·exact ⟨_, _, hv⟩
 ·rcases h.2 with ⟨hv, h0⟩ | ⟨g, cap, cur, hv, hb, hr, hnc, hcm, hcs, htk⟩
  ·have := h.1
   rw [h0] at this
   omega
  ·refine ⟨g, cap, hv, hb, (Array.getElem?_eq_some_iff.1 hr).1, ?_⟩
   have h1 : cur.toList[j]? = some A[j] := by
    have h2 : (cur.toList.take (n * size))[j]? = some A[j] := by rw [htk, List.getElem?_eq_getElem hj]
    rw [List.getElem?_take] at h2
    split at h2
    ·exact h2
    ·cases h2
   simp [World.cell?, hr]
   simpa using h1
theorem Pair.kept (h : Pair W B e size v n A u m M) (hs : W.heap.size ≤ W'.heap.size) (hk : ∀ k, InB v u k → W'.heap[k]? = W.heap[k]?) : Pair W' B e size v n A u m M := by
 refine ⟨h.shape, h.len, fun j hj => ?_, fun g hg => ⟨(h.lo g hg).1, Nat.lt_of_lt_of_le (h.lo g hg).2 hs⟩, own_kept h.own fun g hg => hk g (.inr hg), h.fr⟩
 obtain ⟨g, c, hv, hb, hl, hc⟩ := h.rd j hj
 refine ⟨g, c, hv, hb, Nat.lt_of_lt_of_le hl hs, ?_⟩
 rw [World.cell?_of_block (w := W) (hk g (.inl (by rw [hv]; rfl)))]
 exact hc
theorem Pair.blk (h : Pair W B e size v n A u m M) {k : Nat} (hk : InB v u k) : B ≤ k ∧ k < W.heap.size := by
 rcases hk with hk | hk
 ·exact h.lo k hk
 ·exact own_block h.own hk
/-- one more. -/
theorem Pair.grow (h : Pair W B e size v n A u m M) {u' : Value} {m' : Nat} {x : List Value} (ho : W'.ownsRow B e size u' m' (M ++ x))
  (hf : (u'.ownBlock = u.ownBlock ∧ W.grownBy W' u.ownBlock) ∨ ((∀ g, u'.ownBlock = some g → W.heap.size ≤ g) ∧ W.grownBy W' none)) :
  Pair W' B e size v n A u' m' (M ++ x) ∧ ∀ k, InB v u' k → InB v u k ∨ W.heap.size ≤ k := by
 have hfr : (M ++ x).take A.length = A := by
  have hl : A.length ≤ M.length := by
   have := congrArg List.length h.fr
   simp at this
   omega
  rw [List.take_append_of_le_length hl, h.fr]
 have hsz : W.heap.size ≤ W'.heap.size := by rcases hf with ⟨_, hg⟩ | ⟨_, hg⟩ <;> exact hg.size
 refine ⟨⟨h.shape, h.len, fun j hj => ?_, fun g hg => ⟨(h.lo g hg).1, Nat.lt_of_lt_of_le (h.lo g hg).2 hsz⟩, ho, hfr⟩, fun k hk => ?_⟩
 ·obtain ⟨g, c, hv, hb, hl, hc⟩ := h.rd j hj
  refine ⟨g, c, hv, hb, Nat.lt_of_lt_of_le hl hsz, ?_⟩
  rcases hf with ⟨he, hg⟩ | ⟨_, hg⟩
  ·by_cases hgu : u.ownBlock = some g
   ·rw [← he] at hgu
    rcases ho.2 with ⟨hv', _⟩ | ⟨g', cap, cur, hv', _, hr, hnc, _, hcs, htk⟩
    ·rw [hv'] at hgu
     exact absurd hgu (by simp [Value.ownBlock])
    ·rw [hv'] at hgu
     simp only [Value.ownBlock, Option.some.injEq] at hgu
     subst hgu
     have h2 : (cur.toList.take (m' * size))[j]? = some A[j] := by
      rw [htk]
      have h3 : ((M ++ x).take A.length)[j]? = some A[j] := by rw [hfr, List.getElem?_eq_getElem hj]
      rw [List.getElem?_take_of_lt hj] at h3
      exact h3
     rw [List.getElem?_take] at h2
     split at h2
     ·simp [World.cell?, hr]
      simpa using h2
     ·cases h2
   ·rw [World.cell?_of_block (w := W) (hg.block g hl (fun e => hgu e.symm))]
    exact hc
  ·rw [World.cell?_of_block (w := W) (hg.block g hl (fun e => by cases e))]
   exact hc
 ·rcases hk with hk | hk
  ·exact .inl (.inl hk)
  ·rcases hf with ⟨he, _⟩ | ⟨hn, _⟩
   ·exact .inl (.inr (by rw [← he]; exact hk))
   ·exact .inr (hn k hk)
end
end ShfKit
/-
 Several rows of one type, each in a block of its own. For any program.
-/
namespace ShfKit
open Go Go.RowKit
set_option maxRecDepth 100000

abbrev Rw := Value × Nat × List Value

section
variable {P : Program} {W W' : World} {B e size : Nat} {L : List Rw}
/-- a cell of a row. -/
theorem own_cell {v : Value} {n : Nat} {xs : List Value} (h : W.ownsRow B e size v n xs) {j : Nat} {x : Value} (hj : xs[j]? = some x) : ∃ g c, v = .slice (some ⟨g, 0, none⟩) n c ∧ B ≤ g ∧ g < W.heap.size ∧ W.cell? ⟨g, j, none⟩ = some x ∧ W.frozen? ⟨g, j, none⟩ = false := by
 have hlt := (List.getElem?_eq_some_iff.1 hj).1
 rcases h.2 with ⟨hv, h0⟩ | ⟨g, cap, cur, hv, hb, hr, hnc, hcm, hcs, htk⟩
 ·have := h.1
  rw [h0] at this
  omega
 ·refine ⟨g, cap, hv, hb, (Array.getElem?_eq_some_iff.1 hr).1, ?_, by simp [World.frozen?, hr]⟩
  rw [← htk] at hj
  rw [List.getElem?_take] at hj
  split at hj
  ·simp [World.cell?, hr]
   simpa using hj
  ·cases hj
/-- a cell of a row is written. -/
theorem own_set {v : Value} {n : Nat} {xs : List Value} (h : W.ownsRow B e size v n xs) {g c j : Nat} (hv : v = .slice (some ⟨g, 0, none⟩) n c) (u : Value) : (W.setCell ⟨g, j, none⟩ u).ownsRow B e size v n (xs.set j u) ∧ W.grownBy (W.setCell ⟨g, j, none⟩ u) v.ownBlock := by
 have hob : v.ownBlock = some g := by rw [hv]; rfl
 refine ⟨⟨by rw [List.length_set]; exact h.1, ?_⟩, ⟨rfl, rfl, rfl, by simp [World.setCell], fun k hk hne => Below.heap_setCell W _ _ _ (fun e => hne (by rw [hob, e]))⟩⟩
 rcases h.2 with ⟨hv', h0⟩ | ⟨g', cap, cur, hv', hb, hr, hnc, hcm, hcs, htk⟩
 ·rw [hv] at hv'; cases hv'
 ·rw [hv] at hv'
  cases hv'
  refine .inr ⟨g, c, cur.setIfInBounds j u, hv, hb, ?_, hnc, hcm, by simpa using hcs, ?_⟩
  ·simp [World.setCell, Array.getElem?_modify, hr]
  ·rw [← htk, Array.toList_setIfInBounds, List.take_set]
end
end ShfKit
/-
 Lists of lists that were handed out, each with what is grown out of it: written over and grown, no two in one block. For any program.
-/
namespace ShfKit
open Go Go.RowKit
set_option maxRecDepth 100000

/-- a list and what was grown out of it. -/
structure Pr where
 v : Value
 n : Nat
 A : List Value
 u : Value
 m : Nat
 M : List Value
/-- such lists, no two in one block. -/
structure PF (W : World) (B e size : Nat) (L : List Pr) : Prop where
 pair : ∀ (i : Nat) (x : Pr), L[i]? = some x → Pair W B e size x.v x.n x.A x.u x.m x.M
 kind : ∀ (i : Nat) (x : Pr) (k : Nat), L[i]? = some x → InB x.v x.u k → ∃ (c : Array Value) (fz : Nat × Nat), W.heap[k]? = some (Obj.cells c e fz)
 apart : ∀ (i j : Nat) (x y : Pr) (k : Nat), L[i]? = some x → L[j]? = some y → i ≠ j → InB x.v x.u k → InB y.v y.u k → False
section
variable {W W' : World} {B e size et ga k : Nat} {mv : Value} {L : List Pr}
theorem PF.kept (h : PF W B e size L) (hs : W.heap.size ≤ W'.heap.size) (hk : ∀ k : Nat, (∃ (c : Array Value) (fz : Nat × Nat), W.heap[k]? = some (Obj.cells c e fz)) → W'.heap[k]? = W.heap[k]?) : PF W' B e size L :=
 ⟨fun i x hx => (h.pair i x hx).kept hs fun k hb => hk k (h.kind i x k hx hb), fun i x k hx hb => by rw [hk k (h.kind i x k hx hb)]; exact h.kind i x k hx hb, h.apart⟩
theorem PF.below (h : PF W B e size L) (hb : Below W.heap.size W W') : PF W' B e size L := h.kept hb.size fun k ⟨_, _, hk⟩ => hb.block k (Array.getElem?_eq_some_iff.1 hk).1
/-- another kind of block turns. -/
theorem PF.other (h : PF W B e size L) {b : Option Nat} (hg : W.grownBy W' b) (hne : et ≠ e) (hb : ∀ k, b = some k → ∃ (c : Array Value) (fz : Nat × Nat), W.heap[k]? = some (Obj.cells c et fz)) : PF W' B e size L := h.kept hg.size fun k ⟨_, _, hk⟩ => hg.block k (Array.getElem?_eq_some_iff.1 hk).1 (fun e2 => by
 obtain ⟨c2, fz2, h2⟩ := hb k e2.symm
 rw [hk] at h2
 simp at h2
 exact hne h2.2.1.symm)
/-- one of them turns, in a block of its own or a new one. -/
theorem PF.turn {i : Nat} {x y : Pr} {b : Option Nat} (h : PF W B e size L) (hx : L[i]? = some x) (hp : Pair W' B e size y.v y.n y.A y.u y.m y.M) (hkd : ∀ k, InB y.v y.u k → ∃ (c : Array Value) (fz : Nat × Nat), W'.heap[k]? = some (Obj.cells c e fz)) (hg : W.grownBy W' b) (hb : ∀ k, b = some k → InB x.v x.u k) (hy : ∀ k, InB y.v y.u k → InB x.v x.u k ∨ W.heap.size ≤ k) : PF W' B e size (L.set i y) := by
 have hi := (List.getElem?_eq_some_iff.1 hx).1
 have keep : ∀ (j : Nat) (z : Pr) (k : Nat), j ≠ i → L[j]? = some z → InB z.v z.u k → W'.heap[k]? = W.heap[k]? := fun j z k hj hz hk => hg.block k ((h.pair j z hz).blk hk).2 (fun e => h.apart j i z x k hz hx hj hk (hb k e.symm))
 have old : ∀ (j : Nat) (z : Pr), j ≠ i → L[j]? = some z → Pair W' B e size z.v z.n z.A z.u z.m z.M := fun j z hj hz => (h.pair j z hz).kept hg.size fun k hk => keep j z k hj hz hk
 have get : ∀ (j : Nat) (z : Pr), (L.set i y)[j]? = some z → (j = i ∧ z = y) ∨ (j ≠ i ∧ L[j]? = some z) := fun j z hz => by
  rw [List.getElem?_set] at hz
  by_cases e : i = j
  ·rw [if_pos e, if_pos (by omega)] at hz
   exact .inl ⟨e.symm, (Option.some.inj hz).symm⟩
  ·rw [if_neg e] at hz
   exact .inr ⟨fun e2 => e e2.symm, hz⟩
 have cross : ∀ (j : Nat) (z : Pr) (k : Nat), j ≠ i → L[j]? = some z → InB z.v z.u k → InB y.v y.u k → False := fun j z k hj hz hk hk2 => by
  rcases hy k hk2 with h1 | h1
  ·exact h.apart j i z x k hz hx hj hk h1
  ·have := ((h.pair j z hz).blk hk).2
   omega
 refine ⟨fun j z hz => ?_, fun j z k hz hk => ?_, fun j m z u k hz hu hjm hk hk2 => ?_⟩
 ·rcases get j z hz with ⟨rfl, rfl⟩ | ⟨hj, hz⟩
  ·exact hp
  ·exact old j z hj hz
 ·rcases get j z hz with ⟨rfl, rfl⟩ | ⟨hj, hz⟩
  ·exact hkd k hk
  ·rw [keep j z k hj hz hk]
   exact h.kind j z k hz hk
 ·rcases get j z hz with ⟨rfl, rfl⟩ | ⟨hj, hz9⟩
  ·rcases get m u hu with ⟨e1, e2⟩ | ⟨hm, hu⟩
   ·exact hjm e1.symm
   ·exact cross m u k hm hu hk2 hk
  ·rcases get m u hu with ⟨e1, e2⟩ | ⟨hm, hu⟩
   ·exact cross j z k hj hz9 hk (e2 ▸ hk2)
   ·exact h.apart j m z u k hz9 hu hjm hk hk2
def prOf (v : Value) (n : Nat) (A : List Value) : Pr := ⟨v, n, A, v, n, A⟩
/-- what is handed in, written anew: its own row as a whole. -/
theorem PF.write {i : Nat} {v : Value} {n : Nat} {A A' : List Value} (h : PF W B e size L) (hx : L[i]? = some (prOf v n A)) (ho : W'.ownsRow B e size v n A') (hg : W.grownBy W' v.ownBlock) : PF W' B e size (L.set i (prOf v n A')) := by
 refine h.turn hx (Pair.start ho) (fun k hk => ?_) hg (fun k hk => .inl hk) (fun k hk => .inl hk)
 have : v.ownBlock = some k := hk.elim id id
 exact Lib.ownsRow_kind ho k this
/-- one more is appended. -/
theorem PF.grow {i : Nat} {x : Pr} {u' : Value} {m' : Nat} {z : List Value} (h : PF W B e size L) (hx : L[i]? = some x) (ho : W'.ownsRow B e size u' m' (x.M ++ z))
  (hf : (u'.ownBlock = x.u.ownBlock ∧ W.grownBy W' x.u.ownBlock) ∨ ((∀ g, u'.ownBlock = some g → W.heap.size ≤ g) ∧ W.grownBy W' none)) : PF W' B e size (L.set i ⟨x.v, x.n, x.A, u', m', x.M ++ z⟩) := by
 obtain ⟨p1, p2⟩ := (h.pair i x hx).grow ho hf
 have hg : W.grownBy W' x.u.ownBlock := by
  rcases hf with ⟨_, g⟩ | ⟨_, g⟩
  ·exact g
  ·exact ⟨g.os, g.tape, g.output, g.size, fun k hk _ => g.block k hk (by simp)⟩
 refine h.turn hx p1 (fun k hk => ?_) hg (fun k hk => .inr hk) p2
 rcases hk with hk | hk
 ·by_cases hu : x.u.ownBlock = some k
  ·rcases hf with ⟨e1, _⟩ | ⟨_, g⟩
   ·exact Lib.ownsRow_kind ho k (by rw [e1]; exact hu)
   ·rw [g.block k ((h.pair i x hx).lo k hk).2 (by simp)]
    exact h.kind i x k hx (.inl hk)
  ·rw [hg.block k ((h.pair i x hx).lo k hk).2 (fun e2 => hu e2.symm)]
   exact h.kind i x k hx (.inl hk)
 ·exact Lib.ownsRow_kind ho k hk
/-- all the lists in a row, and those that were grown in another. -/
structure Ap (W : World) (B e size et : Nat) (ga : Nat) (mv : Value) (L : List Pr) (k : Nat) : Prop where
 fam : PF W B e size L
 all : W.heap[ga]? = some (.cells (L.map Pr.v).toArray et (0, 0))
 more : W.ownsRow B et 1 mv k ((L.take k).map Pr.u)
 off : mv.ownBlock ≠ some ga
 ne : et ≠ e
theorem Ap.lt (h : Ap W B e size et ga mv L k) : ga < W.heap.size := (Array.getElem?_eq_some_iff.1 h.all).1
theorem Ap.below (h : Ap W B e size et ga mv L k) (hb : Below W.heap.size W W') : Ap W' B e size et ga mv L k := by
 refine ⟨h.fam.below hb, (hb.block ga h.lt).trans h.all, own_kept h.more fun g hg => hb.block g (own_block h.more hg).2, h.off, h.ne⟩
theorem take_set_of {α : Type} (L : List α) (i k : Nat) (y : α) (h : k ≤ i) : (L.set i y).take k = L.take k := by
 rw [List.take_set, List.set_eq_of_length_le (by simp; omega)]
/-- a list that is not yet among the grown ones is written anew. -/
theorem Ap.write {i : Nat} {v : Value} {n : Nat} {A A' : List Value} (h : Ap W B e size et ga mv L i) (hx : L[i]? = some (prOf v n A)) (ho : W'.ownsRow B e size v n A') (hg : W.grownBy W' v.ownBlock) : Ap W' B e size et ga mv (L.set i (prOf v n A')) i := by
 have kd := fun k hk => h.fam.kind i _ k hx (.inl hk)
 have hi := (List.getElem?_eq_some_iff.1 hx).1
 have e1 : (L.set i (prOf v n A')).map Pr.v = L.map Pr.v := by
  rw [List.map_set]
  have : (L.map Pr.v)[i]? = some v := by rw [List.getElem?_map, hx]; rfl
  show (L.map Pr.v).set i v = L.map Pr.v
  exact (List.getElem?_eq_some_iff.1 this).2 ▸ List.set_getElem_self _
 refine ⟨h.fam.write hx ho hg, ?_, ?_, h.off, h.ne⟩
 ·rw [e1, hg.block ga h.lt (fun e2 => ?_)]
  ·exact h.all
  ·obtain ⟨c, fz, h2⟩ := kd ga e2.symm
   rw [h.all] at h2
   simp at h2
   exact h.ne h2.2.1
 ·rw [take_set_of _ _ _ _ (Nat.le_refl _)]
  refine own_kept h.more fun g hgm => hg.block g (own_block h.more hgm).2 (fun e2 => ?_)
  obtain ⟨c, fz, h2⟩ := kd g e2.symm
  obtain ⟨c3, fz3, h3⟩ := Lib.ownsRow_kind h.more g hgm
  rw [h3] at h2
  simp at h2
  exact h.ne h2.2.1
/-- a list is put among the grown ones. -/
theorem Ap.push {i : Nat} {x : Pr} {mv' : Value} (h : Ap W B e size et ga mv L i) (hx : L[i]? = some x) (ho : W'.ownsRow B et 1 mv' (i + 1) ((L.take i).map Pr.u ++ [x.u]))
  (hf : (mv'.ownBlock = mv.ownBlock ∧ W.grownBy W' mv.ownBlock) ∨ ((∀ g, mv'.ownBlock = some g → W.heap.size ≤ g) ∧ W.grownBy W' none)) : Ap W' B e size et ga mv' L (i + 1) := by
 have hg : W.grownBy W' mv.ownBlock := by
  rcases hf with ⟨_, g⟩ | ⟨_, g⟩
  ·exact g
  ·exact ⟨g.os, g.tape, g.output, g.size, fun k hk _ => g.block k hk (by simp)⟩
 refine ⟨h.fam.other hg h.ne (fun k hk => Lib.ownsRow_kind h.more k hk), ?_, ?_, ?_, h.ne⟩
 ·rw [hg.block ga h.lt (fun e2 => h.off e2.symm)]
  exact h.all
 ·rw [List.take_add_one, hx, List.map_append]
  exact ho
 ·intro e2
  rcases hf with ⟨e1, _⟩ | ⟨e1, _⟩
  ·rw [e1] at e2
   exact h.off e2
  ·have := e1 ga e2
   have := h.lt
   omega
/-- one of the grown ones is grown by one, and put back into its place. -/
theorem Ap.grow {i n : Nat} {x : Pr} {gm cm : Nat} {u' : Value} {m' : Nat} {z : List Value} {W'' : World} (hn : n = L.length) (h : Ap W B e size et ga (.slice (some ⟨gm, 0, none⟩) n cm) L n) (hx : L[i]? = some x) (ho : W'.ownsRow B e size u' m' (x.M ++ z))
  (hf : (u'.ownBlock = x.u.ownBlock ∧ W.grownBy W' x.u.ownBlock) ∨ ((∀ g, u'.ownBlock = some g → W.heap.size ≤ g) ∧ W.grownBy W' none)) (hW : W'' = W'.setCell ⟨gm, i, none⟩ u') :
  W'.ownsRow B et 1 (.slice (some ⟨gm, 0, none⟩) n cm) n (L.map Pr.u) ∧ Ap W'' B e size et ga (.slice (some ⟨gm, 0, none⟩) n cm) (L.set i ⟨x.v, x.n, x.A, u', m', x.M ++ z⟩) n := by
 have hi := (List.getElem?_eq_some_iff.1 hx).1
 have hg : W.grownBy W' x.u.ownBlock := by
  rcases hf with ⟨_, g⟩ | ⟨_, g⟩
  ·exact g
  ·exact ⟨g.os, g.tape, g.output, g.size, fun k hk _ => g.block k hk (by simp)⟩
 have kd := fun k hk => h.fam.kind i x k hx (.inr hk)
 have f1 := h.fam.grow hx ho hf
 have m1 : W'.ownsRow B et 1 (.slice (some ⟨gm, 0, none⟩) n cm) n (L.map Pr.u) := by
  have hm := h.more
  rw [List.take_of_length_le (by omega)] at hm
  refine own_kept hm fun g hgm => hg.block g (own_block hm hgm).2 (fun e2 => ?_)
  obtain ⟨c, fz, h2⟩ := kd g e2.symm
  obtain ⟨c3, fz3, h3⟩ := Lib.ownsRow_kind hm g hgm
  rw [h3] at h2
  simp at h2
  exact h.ne h2.2.1
 obtain ⟨s1, s2⟩ := own_set m1 (j := i) rfl u'
 have e1 : (L.set i ⟨x.v, x.n, x.A, u', m', x.M ++ z⟩).map Pr.v = L.map Pr.v := by
  rw [List.map_set]
  have : (L.map Pr.v)[i]? = some x.v := by rw [List.getElem?_map, hx]; rfl
  show (L.map Pr.v).set i x.v = L.map Pr.v
  exact (List.getElem?_eq_some_iff.1 this).2 ▸ List.set_getElem_self _
 refine ⟨m1, ?_, ?_, ?_, h.off, h.ne⟩
 ·rw [hW]
  exact f1.other s2 h.ne (fun k hk => Lib.ownsRow_kind m1 k hk)
 ·rw [hW, e1, s2.block ga (Nat.lt_of_lt_of_le h.lt hg.size) (fun e2 => h.off e2.symm), hg.block ga h.lt (fun e2 => ?_)]
  ·exact h.all
  ·obtain ⟨c, fz, h2⟩ := kd ga e2.symm
   rw [h.all] at h2
   simp at h2
   exact h.ne h2.2.1
 ·rw [hW, List.take_of_length_le (by simp; omega), List.map_set]
  exact s1
end
end ShfKit
/-
 Lists of lists: what each holds as it is written over and grown; which blocks may have turned. For any program.
-/
namespace ShfKit
open Go Go.RowKit
set_option maxRecDepth 100000

/-- list by list. -/
structure Sh (D : List Rw) (L : List Pr) (P : Nat → Rw → Pr → Prop) : Prop where
 len : L.length = D.length
 each : ∀ (j : Nat) (d : Rw) (x : Pr), D[j]? = some d → L[j]? = some x → P j d x
theorem Sh.mono {D : List Rw} {L : List Pr} {P Q : Nat → Rw → Pr → Prop} (h : Sh D L P) (hm : ∀ (j : Nat) (d : Rw) (x : Pr), D[j]? = some d → P j d x → Q j d x) : Sh D L Q := ⟨h.len, fun j d x hd hx => hm j d x hd (h.each j d x hd hx)⟩
theorem Sh.set {D : List Rw} {L : List Pr} {P Q : Nat → Rw → Pr → Prop} {i : Nat} {d : Rw} {y : Pr} (h : Sh D L P) (hd : D[i]? = some d) (hy : Q i d y) (hm : ∀ (j : Nat) (d : Rw) (x : Pr), j ≠ i → P j d x → Q j d x) : Sh D (L.set i y) Q := by
 refine ⟨by rw [List.length_set]; exact h.len, fun j d' x hd' hx => ?_⟩
 rw [List.getElem?_set] at hx
 by_cases e : i = j
 ·subst e
  rw [hd] at hd'
  cases hd'
  rw [if_pos rfl] at hx
  split at hx
  ·cases hx
   exact hy
  ·cases hx
 ·rw [if_neg e] at hx
  exact hm j d' x (fun e2 => e e2.symm) (h.each j d' x hd' hx)
theorem Sh.get {D : List Rw} {L : List Pr} {P : Nat → Rw → Pr → Prop} (h : Sh D L P) {i : Nat} {d : Rw} (hd : D[i]? = some d) : ∃ x, L[i]? = some x ∧ P i d x := by
 have hi := (List.getElem?_eq_some_iff.1 hd).1
 have hx : L[i]? = some (L[i]'(by rw [h.len]; exact hi)) := List.getElem?_eq_getElem _
 exact ⟨_, hx, h.each i d _ hd hx⟩
/-- the first i lists are marked, of the next one the first k. -/
def P1 (mk : Nat → Nat → List Value) (size i k : Nat) (j : Nat) (d : Rw) (x : Pr) : Prop := x = prOf d.1 d.2.1 (if j < i then mk j d.2.1 else if j = i then (mk j d.2.1).take (k * size) ++ d.2.2.drop (k * size) else d.2.2)
/-- all lists are marked; out of each so many have been grown. -/
structure P2 (mk gr : Nat → Nat → List Value) (cnt : Nat → Nat) (j : Nat) (d : Rw) (x : Pr) : Prop where
 v : x.v = d.1
 n : x.n = d.2.1
 A : x.A = mk j d.2.1
 m : x.m = d.2.1 + cnt j
 M : x.M = mk j d.2.1 ++ gr j (cnt j)
def raws (D : List Rw) : List Pr := D.map fun d => prOf d.1 d.2.1 d.2.2
theorem P1.start {mk : Nat → Nat → List Value} {size : Nat} (D : List Rw) : Sh D (raws D) (P1 mk size 0 0) := by
 refine ⟨by simp [raws], fun j d x hd hx => ?_⟩
 unfold raws at hx
 rw [List.getElem?_map, hd] at hx
 cases hx
 show _ = _
 rw [if_neg (Nat.not_lt_zero _)]
 by_cases h : j = 0
 ·rw [if_pos h, Nat.zero_mul, List.take_zero, List.drop_zero, List.nil_append]
 ·rw [if_neg h]
theorem P1.at_ {mk : Nat → Nat → List Value} {size i k : Nat} {d : Rw} {x : Pr} (h : P1 mk size i k i d x) : x = prOf d.1 d.2.1 ((mk i d.2.1).take (k * size) ++ d.2.2.drop (k * size)) := by
 have := h
 unfold P1 at this
 rw [if_neg (Nat.lt_irrefl _), if_pos rfl] at this
 exact this
theorem P1.mk_ {mk : Nat → Nat → List Value} {size i k : Nat} {d : Rw} : P1 mk size i k i d (prOf d.1 d.2.1 ((mk i d.2.1).take (k * size) ++ d.2.2.drop (k * size))) := by
 unfold P1
 rw [if_neg (Nat.lt_irrefl _), if_pos rfl]
theorem P1.other {mk : Nat → Nat → List Value} {size i k k' j : Nat} {d : Rw} {x : Pr} (hj : j ≠ i) (h : P1 mk size i k j d x) : P1 mk size i k' j d x := by
 unfold P1 at h ⊢
 rw [if_neg hj] at h ⊢
 exact h
/-- a list is marked whole: the next one. -/
theorem P1.next {mk : Nat → Nat → List Value} {size i k : Nat} {D : List Rw} {L : List Pr} (h : Sh D L (P1 mk size i k)) {d : Rw} (hd : D[i]? = some d) (hk : k = d.2.1) (hl : ∀ j n, (mk j n).length = n * size) (hA : d.2.2.length = d.2.1 * size) : Sh D L (P1 mk size (i + 1) 0) :=
 h.mono fun j d' x hd' hp => by
  unfold P1 at hp ⊢
  rw [hp]
  congr 1
  rcases Nat.lt_trichotomy j i with h1 | h1 | h1
  ·rw [if_pos h1, if_pos (by omega)]
  ·subst h1
   rw [hd] at hd'
   cases hd'
   rw [if_neg (Nat.lt_irrefl _), if_pos rfl, if_pos (by omega), hk, List.take_of_length_le (by rw [hl]; omega), List.drop_of_length_le (by omega), List.append_nil]
  ·rw [if_neg (by omega), if_neg (by omega), if_neg (by omega)]
   by_cases h2 : j = i + 1
   ·rw [if_pos h2, Nat.zero_mul, List.take_zero, List.drop_zero, List.nil_append]
   ·rw [if_neg h2]
/-- all are marked: none is grown. -/
theorem P1.done {mk gr : Nat → Nat → List Value} {size : Nat} {D : List Rw} {L : List Pr} (h : Sh D L (P1 mk size D.length 0)) (hg : ∀ j, gr j 0 = []) : Sh D L (P2 mk gr fun _ => 0) :=
 h.mono fun j d x hd hp => by
  have hj := (List.getElem?_eq_some_iff.1 hd).1
  unfold P1 at hp
  rw [if_pos hj] at hp
  subst hp
  exact ⟨rfl, rfl, rfl, rfl, by show mk j d.2.1 = _; rw [hg, List.append_nil]⟩
theorem P2.again {mk gr : Nat → Nat → List Value} {cnt cnt' : Nat → Nat} {D : List Rw} {L : List Pr} (h : Sh D L (P2 mk gr cnt)) (he : ∀ j, j < D.length → cnt j = cnt' j) : Sh D L (P2 mk gr cnt') :=
 h.mono fun j d x hd hp => by
  have hj := (List.getElem?_eq_some_iff.1 hd).1
  have e := he j hj
  exact ⟨hp.v, hp.n, hp.A, by rw [← e]; exact hp.m, by rw [← e]; exact hp.M⟩
/-- one is grown by one. -/
theorem P2.one {mk gr : Nat → Nat → List Value} {k i : Nat} {D : List Rw} {L : List Pr} {x : Pr} {d : Rw} {u' : Value} {z : List Value} (h : Sh D L (P2 mk gr fun j => if j < i then k + 1 else k)) (hd : D[i]? = some d) (hp : P2 mk gr (fun j => if j < i then k + 1 else k) i d x) (hg : gr i (k + 1) = gr i k ++ z) :
  Sh D (L.set i ⟨x.v, x.n, x.A, u', x.m + 1, x.M ++ z⟩) (P2 mk gr fun j => if j < i + 1 then k + 1 else k) := by
 refine h.set hd ⟨hp.v, hp.n, hp.A, ?_, ?_⟩ (fun j d' x' hj hq => ?_)
 ·show x.m + 1 = _
  rw [hp.m]
  simp only [Nat.lt_irrefl, if_false, if_pos (Nat.lt_succ_self i)]
  omega
 ·show x.M ++ z = _
  rw [hp.M]
  simp only [Nat.lt_irrefl, if_false, if_pos (Nat.lt_succ_self i), hg, List.append_assoc]
 ·have e : (if j < i then k + 1 else k) = (if j < i + 1 then k + 1 else k) := by
   by_cases h1 : j < i
   ·rw [if_pos h1, if_pos (by omega)]
   ·rw [if_neg h1, if_neg (by omega)]
  refine ⟨hq.v, hq.n, hq.A, by rw [hq.m]; show _ + _ = _ + _; rw [e], by rw [hq.M]; show _ ++ gr j _ = _ ++ gr j _; rw [e]⟩
/-- which blocks may have turned. -/
structure Fr (w W : World) (D : List Rw) (mv : Value) (L : List Pr) : Prop where
 b0 : Below 0 w W
 kept : ∀ k, k < w.heap.size → (∀ d ∈ D, d.1.ownBlock ≠ some k) → W.heap[k]? = w.heap[k]?
 us : ∀ x ∈ L, ∀ k, InB x.v x.u k → (∃ d ∈ D, d.1.ownBlock = some k) ∨ w.heap.size ≤ k
 mvb : ∀ k, mv.ownBlock = some k → w.heap.size ≤ k
section
variable {w W W' : World} {D : List Rw} {mv : Value} {L : List Pr}
theorem Fr.start (w : World) (D : List Rw) : Fr w w D (.slice none 0 0) (raws D) := by
 refine ⟨Below.refl _ _, fun _ _ _ => rfl, fun x hx k hk => ?_, fun k hk => by simp [Value.ownBlock] at hk⟩
 unfold raws at hx
 obtain ⟨d, hd, rfl⟩ := List.mem_map.1 hx
 exact .inl ⟨d, hd, hk.elim id id⟩
theorem Fr.below (h : Fr w W D mv L) (hb : Below W.heap.size W W') : Fr w W' D mv L :=
 ⟨h.b0.trans (hb.mono (Nat.zero_le _)), fun k hk hn => (hb.block k (Nat.lt_of_lt_of_le hk h.b0.size)).trans (h.kept k hk hn), h.us, h.mvb⟩
/-- a block turns that may. -/
theorem Fr.turn (h : Fr w W D mv L) {b : Option Nat} {mv' : Value} {L' : List Pr} (hg : W.grownBy W' b) (hb : ∀ k, b = some k → (∃ d ∈ D, d.1.ownBlock = some k) ∨ w.heap.size ≤ k) (hu : ∀ x ∈ L', ∀ k, InB x.v x.u k → (∃ d ∈ D, d.1.ownBlock = some k) ∨ w.heap.size ≤ k) (hm : ∀ k, mv'.ownBlock = some k → w.heap.size ≤ k) : Fr w W' D mv' L' := by
 refine ⟨⟨hg.os.trans h.b0.os, hg.tape.trans h.b0.tape, hg.output.trans h.b0.output, Nat.le_trans h.b0.size hg.size, fun k hk => by omega⟩, fun k hk hn => ?_, hu, hm⟩
 rw [hg.block k (Nat.lt_of_lt_of_le hk h.b0.size) (fun e => ?_)]
 ·exact h.kept k hk hn
 ·rcases hb k e.symm with ⟨d, hd, h2⟩ | h2
  ·exact hn d hd h2
  ·omega
theorem Fr.write (h : Fr w W D mv L) {i : Nat} {v : Value} {n : Nat} {A A' : List Value} (hx : L[i]? = some (prOf v n A)) (hg : W.grownBy W' v.ownBlock) : Fr w W' D mv (L.set i (prOf v n A')) := by
 have hm := h.us _ (List.mem_of_getElem? hx)
 refine h.turn hg (fun k hk => hm k (.inl hk)) (fun x hx2 k hk => ?_) h.mvb
 rcases List.mem_or_eq_of_mem_set hx2 with h2 | rfl
 ·exact h.us x h2 k hk
 ·exact hm k hk
theorem Fr.push (h : Fr w W D mv L) {mv' : Value} (hf : (mv'.ownBlock = mv.ownBlock ∧ W.grownBy W' mv.ownBlock) ∨ ((∀ g, mv'.ownBlock = some g → W.heap.size ≤ g) ∧ W.grownBy W' none)) : Fr w W' D mv' L := by
 have hg : W.grownBy W' mv.ownBlock := by
  rcases hf with ⟨_, g⟩ | ⟨_, g⟩
  ·exact g
  ·exact ⟨g.os, g.tape, g.output, g.size, fun k hk _ => g.block k hk (by simp)⟩
 refine h.turn hg (fun k hk => .inr (h.mvb k hk)) h.us (fun k hk => ?_)
 rcases hf with ⟨e, _⟩ | ⟨e, _⟩
 ·rw [e] at hk
  exact h.mvb k hk
 ·exact Nat.le_trans h.b0.size (e k hk)
theorem Fr.grow (h : Fr w W D mv L) {i gm : Nat} {x : Pr} {u' : Value} {m' : Nat} {z : List Value} {W'' : World} (hx : L[i]? = some x) (hmv : mv.ownBlock = some gm)
  (hf : (u'.ownBlock = x.u.ownBlock ∧ W.grownBy W' x.u.ownBlock) ∨ ((∀ g, u'.ownBlock = some g → W.heap.size ≤ g) ∧ W.grownBy W' none)) (hW : W'' = W'.setCell ⟨gm, i, none⟩ u') : Fr w W'' D mv (L.set i ⟨x.v, x.n, x.A, u', m', x.M ++ z⟩) := by
 have hm := h.us _ (List.mem_of_getElem? hx)
 have hg : W.grownBy W' x.u.ownBlock := by
  rcases hf with ⟨_, g⟩ | ⟨_, g⟩
  ·exact g
  ·exact ⟨g.os, g.tape, g.output, g.size, fun k hk _ => g.block k hk (by simp)⟩
 have f1 : Fr w W' D mv (L.set i ⟨x.v, x.n, x.A, u', m', x.M ++ z⟩) := by
  refine h.turn hg (fun k hk => hm k (.inr hk)) (fun y hy k hk => ?_) h.mvb
  rcases List.mem_or_eq_of_mem_set hy with h2 | rfl
  ·exact h.us y h2 k hk
  ·rcases hk with hk | hk
   ·exact hm k (.inl hk)
   ·rcases hf with ⟨e, _⟩ | ⟨e, _⟩
    ·have hk' : u'.ownBlock = some k := hk
     rw [e] at hk'
     exact hm k (.inr hk')
    ·exact .inr (Nat.le_trans h.b0.size (e k hk))
 refine f1.turn (b := some gm) (by rw [hW]; exact ⟨rfl, rfl, rfl, by simp [World.setCell], fun k _ hne => Below.heap_setCell W' _ _ _ (fun e => hne (by rw [e]))⟩) (fun k hk => ?_) f1.us f1.mvb
 cases hk
 exact .inr (h.mvb gm hmv)
end
end ShfKit
