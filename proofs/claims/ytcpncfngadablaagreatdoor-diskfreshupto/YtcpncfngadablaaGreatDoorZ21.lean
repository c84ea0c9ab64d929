import Derived.Sort.EncStr
import Derived.Deep.DeepCutAuto
import Derived.OwnWalk
import Derived.Deep.MidRow
import Derived.Deep.RegionHeld3
import Derived.Laws.Append
import Derived.Test.YtcpncfngadablaaGreatDoorZ20
/-
  The shelf: what each list holds as it is written over and grown.
-/
namespace Go.Proofs.YtcpncfngadablaaGreatDoor
open Go.RowKit Go.Deep ShfKit
set_option maxRecDepth 100000

/-- list by list. -/
def All (L : List Rw) (Q : Nat → Rw → Prop) : Prop := ∀ (j : Nat) (x : Rw), L[j]? = some x → Q j x
section
variable {L : List Rw} {Q Q' : Nat → Rw → Prop} {i k n m M : Nat} {x y : Rw}
theorem All.mono (h : All L Q) (hm : ∀ j x, j < L.length → Q j x → Q' j x) : All L Q' := fun j x hx => hm j x (List.getElem?_eq_some_iff.1 hx).1 (h j x hx)
theorem All.set (h : All L Q) (hy : Q' i y) (hm : ∀ j x, j ≠ i → Q j x → Q' j x) : All (L.set i y) Q' := fun j x hx => by
  rw [List.getElem?_set] at hx
  by_cases e : i = j
  · subst e
    rw [if_pos rfl] at hx
    split at hx
    · cases hx
      exact hy
    · cases hx
  · rw [if_neg e] at hx
    exact hm j x (fun e2 => e e2.symm) (h j x hx)

def ByteOk (x : Rw) : Prop := 64 ≤ x.2.1 ∧ x.2.1 ≤ 65536 ∧ ∀ u ∈ x.2.2, ∃ z : Int, u = .int .u8 z
/-- a list of bytes bears its mark. -/
def Mk1 (j : Nat) (x : Rw) : Prop := ∀ l, l < x.2.1 → x.2.2[l]? = some (.int .u8 (mk ((j : Int) + 1) l))
/-- the same, grown by 64. -/
def MkG (j : Nat) (x : Rw) : Prop := 64 < x.2.1 ∧ x.2.1 ≤ 65600 ∧ ∀ l, l < x.2.1 → x.2.2[l]? = some (.int .u8 (mk ((j : Int) + 1) (if x.2.1 - 64 ≤ l then l - (x.2.1 - 64) else l)))
/-- k elements of s cells each bear the mark of j. -/
def Nm (s j k : Nat) (x : Rw) : Prop := ∀ l, l < k → x.2.2[l * s]? = some (encStr (th j))

def QB (i : Nat) (j : Nat) (x : Rw) : Prop := ByteOk x ∧ (j < i → Mk1 j x)
def QG (i : Nat) (j : Nat) (x : Rw) : Prop := (j < i → MkG j x) ∧ (i ≤ j → ByteOk x ∧ Mk1 j x)
def QT (s M i k : Nat) (j : Nat) (x : Rw) : Prop := x.2.1 ≤ M ∧ (j < i → Nm s j x.2.1 x) ∧ (j = i → Nm s j k x)
def QH (s M i k : Nat) (j : Nat) (x : Rw) : Prop := Nm s j x.2.1 x ∧ x.2.1 ≤ M + 64 ∧ (j = i → x.2.1 ≤ M + k) ∧ (i < j → x.2.1 ≤ M)

theorem QB.next (h : All L (QB i)) (hy : ByteOk y ∧ Mk1 i y) : All (L.set i y) (QB (i + 1)) := h.set ⟨hy.1, fun _ => hy.2⟩ fun j x hj hq => ⟨hq.1, fun hl => hq.2 (by omega)⟩
theorem QB.done (h : All L (QB i)) (hi : L.length ≤ i) : All L (QG 0) := h.mono fun j x hj hq => ⟨fun h0 => by omega, fun _ => ⟨hq.1, hq.2 (by omega)⟩⟩
theorem QG.next (h : All L (QG i)) (hy : MkG i y) : All (L.set i y) (QG (i + 1)) := h.set ⟨fun _ => hy, fun hl => by omega⟩ fun j x hj hq => ⟨fun hl => hq.1 (by omega), fun hl => hq.2 (by omega)⟩
theorem QG.done (h : All L (QG i)) (hi : L.length ≤ i) : All L MkG := h.mono fun j x hj hq => hq.1 (by omega)

theorem QT.one {s : Nat} (hs : 0 < s) (h : All L (QT s M i k)) (hx : L[i]? = some x) (hk : k < x.2.1) (hl : x.2.2.length = x.2.1 * s) : All (L.set i (x.1, x.2.1, x.2.2.set (k * s) (encStr (th i)))) (QT s M i (k + 1)) := by
  have hq := h i x hx
  refine h.set ⟨hq.1, fun hl => by omega, fun _ l hl2 => ?_⟩ fun j x hj hq => ⟨hq.1, hq.2.1, fun e => absurd e hj⟩
  show (x.2.2.set (k * s) (encStr (th i)))[l * s]? = _
  rw [List.getElem?_set]
  by_cases e : k = l
  · subst e
    have h2 : k * s < x.2.2.length := by rw [hl]; exact Nat.mul_lt_mul_of_pos_right hk hs
    rw [if_pos rfl, if_pos h2]
  · rw [if_neg (fun e2 => e (Nat.eq_of_mul_eq_mul_right hs e2))]
    exact hq.2.2 rfl l (by omega)
theorem QT.next {s : Nat} (h : All L (QT s M i k)) (hx : L[i]? = some x) (hk : x.2.1 ≤ k) : All L (QT s M (i + 1) 0) := fun j y hy => by
  have hq := h j y hy
  refine ⟨hq.1, fun hl => ?_, fun _ l hl => by omega⟩
  by_cases e : j = i
  · subst e
    rw [hx] at hy
    cases hy
    exact fun l hl2 => hq.2.2 rfl l (by omega)
  · exact hq.2.1 (by omega)
theorem QT.done {s : Nat} (h : All L (QT s M i k)) (hi : L.length ≤ i) : All L (QH s M 0 0) := h.mono fun j x hj hq => ⟨hq.2.1 (by omega), by have := hq.1; omega, fun _ => by have := hq.1; omega, fun _ => hq.1⟩
theorem QH.one {s : Nat} {u' : Value} {z : List Value} (hs : 0 < s) (h : All L (QH s M i k)) (hx : L[i]? = some x) (hk : k < 64) (hl : x.2.2.length = x.2.1 * s) (hz : z[0]? = some (encStr (th i))) : All (L.set i (u', x.2.1 + 1, x.2.2 ++ z)) (QH s M i (k + 1)) := by
  have hq := h i x hx
  have h3 := hq.2.2.1 rfl
  refine h.set ⟨fun l hl2 => ?_, ?_, fun _ => ?_, fun hl => by omega⟩ fun j x hj hq => ⟨hq.1, hq.2.1, fun e => absurd e hj, hq.2.2.2⟩
  · show (x.2.2 ++ z)[l * s]? = _
    have hl3 : l < x.2.1 + 1 := hl2
    by_cases e : l = x.2.1
    · subst e
      rw [List.getElem?_append_right (by omega), hl, Nat.sub_self]
      exact hz
    · have h4 : l < x.2.1 := by omega
      rw [List.getElem?_append_left (by rw [hl]; exact Nat.mul_lt_mul_of_pos_right h4 hs)]
      exact hq.1 l h4
  · show x.2.1 + 1 ≤ _
    omega
  · show x.2.1 + 1 ≤ _
    omega
theorem QH.next {s : Nat} (h : All L (QH s M i k)) : All L (QH s M (i + 1) 0) := h.mono fun j x hj hq => ⟨hq.1, hq.2.1, fun e => by have := hq.2.2.2 (by omega); omega, fun hl => hq.2.2.2 (by omega)⟩
end
/-- the shelf on its way. -/
structure Sp (w W : World) (S0 S : Sg) : Prop where
  at_ : ShelfAt W S
  mv : Moved w W S0 S
  p : S.p = S0.p
  lb : S.Lb.length = S0.Lb.length
  lt : S.Lt.length = S0.Lt.length
  ls : S.Ls.length = S0.Ls.length
section
variable {w W W' : World} {S0 S S' : Sg}
theorem Sp.below (h : Sp w W S0 S) (hb : Below W.heap.size W W') : Sp w W' S0 S := ⟨h.at_.kept fun b hm => hb.block b (h.at_.lt b hm), h.mv.below hb, h.p, h.lb, h.lt, h.ls⟩
theorem Sp.cell (h : Sp w W S0 S) : W.cell? ⟨S0.p, 0, none⟩ = some S.bv ∧ W.cell? ⟨S0.p, 1, none⟩ = some S.tv ∧ W.cell? ⟨S0.p, 2, none⟩ = some S.sv := by
  rw [← h.p]
  exact ⟨by rw [cell_row h.at_.row]; rfl, by rw [cell_row h.at_.row]; rfl, by rw [cell_row h.at_.row]; rfl⟩
end
end Go.Proofs.YtcpncfngadablaaGreatDoor
/-
  The shelf: its cells; a list is filled, a name is written.
-/
namespace Go.Proofs.YtcpncfngadablaaGreatDoor
open Go.RowKit Go.Deep ShfKit
set_option maxRecDepth 100000

section
variable {w W W' : World} {S0 S S' : Sg} {i k : Nat} {x y : Rw}
theorem Sp.bcell (h : Sp w W S0 S) (hx : S.Lb[i]? = some x) : ∃ gb cb, S.bv = .slice (some ⟨gb, 0, none⟩) S.Lb.length cb ∧ gb < W.heap.size ∧ W.cell? ⟨gb, i, none⟩ = some x.1 ∧ W.frozen? ⟨gb, i, none⟩ = false := by
  obtain ⟨g, c, e, _, h1, h2, h3⟩ := own_cell h.at_.rb (j := i) (x := x.1) (by rw [List.getElem?_map, hx]; rfl)
  exact ⟨g, c, e, h1, h2, h3⟩
theorem Sp.tcell (h : Sp w W S0 S) (hx : S.Lt[i]? = some x) : ∃ gb cb, S.tv = .slice (some ⟨gb, 0, none⟩) S.Lt.length cb ∧ gb < W.heap.size ∧ W.cell? ⟨gb, i, none⟩ = some x.1 ∧ W.frozen? ⟨gb, i, none⟩ = false := by
  obtain ⟨g, c, e, _, h1, h2, h3⟩ := own_cell h.at_.rt (j := i) (x := x.1) (by rw [List.getElem?_map, hx]; rfl)
  exact ⟨g, c, e, h1, h2, h3⟩
theorem Sp.scell {q : Int} (h : Sp w W S0 S) (hx : S.Ls[i]? = some (q, x)) : ∃ gb cb, S.sv = .slice (some ⟨gb, 0, none⟩) S.Ls.length cb ∧ gb < W.heap.size ∧ W.cell? ⟨gb, i * 2 + 1, none⟩ = some x.1 ∧ W.frozen? ⟨gb, i * 2 + 1, none⟩ = false ∧ W.cell? ⟨gb, i * 2, none⟩ = some (.int .i64 q) := by
  obtain ⟨g, c, e, _, h1, h2, h3⟩ := own_cell h.at_.rs (S.get hx).2
  obtain ⟨g', c', e', _, _, h2', _⟩ := own_cell h.at_.rs (S.get hx).1
  rw [e] at e'
  simp only [Value.slice.injEq, Option.some.injEq, Addr.mk.injEq] at e'
  obtain ⟨⟨rfl, _⟩, _⟩ := e'
  exact ⟨g, c, e, h1, h2, h3, h2'⟩
theorem sh_slice {B e size n : Nat} {v : Value} {xs : List Value} (h : W.ownsRow B e size v n xs) : ∃ sa c, v = .slice sa n c := by
  rcases h.2 with ⟨hv, h0⟩ | ⟨g, cap, cur, hv, _⟩
  · exact ⟨none, 0, by rw [hv, h0]⟩
  · exact ⟨_, _, hv⟩

/-- a list of bytes is filled with its mark. -/
theorem Sp.fill (h : Sp w W S0 S) (hx : S.Lb[i]? = some x) (hok : ByteOk x) :
    Calls Tryz.prog 43 #[x.1, .int .i64 ((i : Int) + 1)] W fun e W' => e = .returned (.tuple #[]) ∧ ∃ y, ByteOk y ∧ Mk1 i y ∧ Sp w W' S0 { S with Lb := S.Lb.set i y } := by
  have ho := h.at_.fb.own i x hx
  rcases ho.2 with ⟨_, h0⟩ | ⟨g, cap, cur, hv, _, hr, hnc, hcm, hcs, htk⟩
  · have := hok.1
    omega
  have hob : x.1.ownBlock = some g := by rw [hv]; rfl
  rw [Nat.mul_one] at hcs htk
  have hbytes : ∀ j, j < x.2.1 → ∃ z : Int, cur[j]? = some (.int .u8 z) := fun j hj => by
    have h1 : cur.toList[j]? = some (cur.toList[j]'(by simp; omega)) := List.getElem?_eq_getElem _
    have h2 : x.2.2[j]? = some (cur.toList[j]'(by simp; omega)) := by rw [← htk, List.getElem?_take_of_lt hj, h1]
    obtain ⟨z, hz⟩ := hok.2.2 _ (List.mem_of_getElem? h2)
    refine ⟨z, ?_⟩
    rw [hz] at h1
    simpa using h1
  have hc := fill_row (w := W) (g := g) (m := x.2.1) (c := cap) ((i : Int) + 1) hr (by omega) hbytes (by have := hok.2.1; omega)
  rw [hv]
  refine hc.mono ?_
  rintro e W' ⟨rfl, ⟨cs', hr', hs', hm'⟩, ht⟩
  have ho' : W'.ownsRow 0 5 1 x.1 x.2.1 (cs'.toList.take x.2.1) := by
    refine ⟨by simp; omega, .inr ⟨g, cap, cs', hv, Nat.zero_le _, hr', hnc, hcm, by omega, by rw [Nat.mul_one]⟩⟩
  have hg : W.grownBy W' x.1.ownBlock := by rw [hob]; exact grown_of_touch ht
  obtain ⟨s1, s2⟩ := h.at_.inB hx ho' hg
  have hmk : ∀ l, l < x.2.1 → (cs'.toList.take x.2.1)[l]? = some (.int .u8 (YtcpncfngadablaaGreatDoor.mk ((i : Int) + 1) l)) := fun l hl => by
    rw [List.getElem?_take_of_lt hl]
    simpa using hm' l hl
  refine ⟨rfl, (x.1, x.2.1, cs'.toList.take x.2.1), ⟨hok.1, hok.2.1, fun u hu => ?_⟩, hmk, s1, h.mv.trans s2, h.p, by rw [List.length_set]; exact h.lb, h.lt, h.ls⟩
  obtain ⟨l, hl, rfl⟩ := List.getElem_of_mem hu
  have hl2 : l < x.2.1 := by simp at hl; omega
  have := hmk l hl2
  rw [List.getElem?_eq_getElem hl] at this
  exact ⟨_, Option.some.inj this⟩

/-- a name in a list is written. -/
theorem Sp.name (h : Sp w W S0 S) (hx : S.Lt[i]? = some x) (hk : k < x.2.1) (u : Value) : ∃ g c z, x.1 = .slice (some ⟨g, 0, none⟩) x.2.1 c ∧ g < W.heap.size ∧ W.cell? ⟨g, k, none⟩ = some z ∧ W.frozen? ⟨g, k, none⟩ = false ∧ ∀ W', Below W.heap.size W W' → Sp w (W'.setCell ⟨g, k, none⟩ u) S0 { S with Lt := S.Lt.set i (x.1, x.2.1, x.2.2.set k u) } := by
  have ho := h.at_.ft.own i x hx
  obtain ⟨z, hz⟩ : ∃ z, x.2.2[k]? = some z := ⟨_, List.getElem?_eq_getElem (by rw [ho.1]; omega)⟩
  obtain ⟨g, c, hv, _, hg, h1, h2⟩ := own_cell ho hz
  refine ⟨g, c, z, hv, hg, h1, h2, fun W' hb => ?_⟩
  have h' := h.below hb
  obtain ⟨o1, o2⟩ := own_set (h'.at_.ft.own i x hx) (j := k) hv u
  obtain ⟨s1, s2⟩ := h'.at_.inT hx o1 o2
  exact ⟨s1, h'.mv.trans s2, h.p, h.lb, by rw [List.length_set]; exact h.lt, h.ls⟩
theorem Sp.file {q : Int} (h : Sp w W S0 S) (hx : S.Ls[i]? = some (q, x)) (hk : k < x.2.1) (u : Value) : ∃ g c z, x.1 = .slice (some ⟨g, 0, none⟩) x.2.1 c ∧ g < W.heap.size ∧ W.cell? ⟨g, k * 3, none⟩ = some z ∧ W.frozen? ⟨g, k * 3, none⟩ = false ∧ ∀ W', Below W.heap.size W W' → Sp w (W'.setCell ⟨g, k * 3, none⟩ u) S0 { S with Ls := S.Ls.set i (q, x.1, x.2.1, x.2.2.set (k * 3) u) } := by
  have ho := h.at_.fs.own i x (ls_get hx)
  obtain ⟨z, hz⟩ : ∃ z, x.2.2[k * 3]? = some z := ⟨_, List.getElem?_eq_getElem (by rw [ho.1]; omega)⟩
  obtain ⟨g, c, hv, _, hg, h1, h2⟩ := own_cell ho hz
  refine ⟨g, c, z, hv, hg, h1, h2, fun W' hb => ?_⟩
  have h' := h.below hb
  obtain ⟨o1, o2⟩ := own_set (h'.at_.fs.own i x (ls_get hx)) (j := k * 3) hv u
  obtain ⟨s1, s2⟩ := h'.at_.inS hx o1 o2
  exact ⟨s1, h'.mv.trans s2, h.p, h.lb, h.lt, by rw [List.length_set]; exact h.ls⟩
end
/-- what holds of the three kinds of lists. -/
structure Ph (a b c : Nat → Rw → Prop) (S : Sg) : Prop where
  lb : All S.Lb a
  lt : All S.Lt b
  ls : All (S.Ls.map (·.2)) c
end Go.Proofs.YtcpncfngadablaaGreatDoor
/-
  append, as a step of a drawn region: where it stood, or in a block that is new.
-/
namespace Go.Proofs.YtcpncfngadablaaGreatDoor
open Go.RowKit Go.Deep ShfKit
set_option maxRecDepth 100000
theorem wp_far {o : Oper} {a : Act} {w : World} {K : Act → World → Prop} {Q : Exit → Act → World → Prop} (sl x : Operand) (t e : TypeId) (z : Value) (size bytes : Nat)
    (ho : o.op = .call { callee := .builtin .append, args := #[sl, x], argTypes := #[t, t] }) (hu : Tryz.prog.underlying t = some (.slice e)) (hinf : (Tryz.prog.info? e).map (fun i => (i.zero, i.size, i.bytes)) = some (some z, size, bytes))
    (hzs : z.cells.size = size) (hsz : 0 < size) (B n m c : Nat) (v : Value) (xs news : List Value) (ad : Addr) (hs : a.eval sl = v) (hown : w.ownsRow B e size v n xs) (hx : a.eval x = .slice (some ad) m c)
    (hl : news.length = m * size) (hnews : ∀ j u, news[j]? = some u → w.cell? (ad.add j) = some u) (h1 : ∀ u ∈ news, u.oneCell' = true) (hn : n + m ≤ 1099511627776) (hby : (n + m) * bytes ≤ 140737488355328) (hB : B ≤ w.heap.size)
    (h : ∀ v' w', w'.ownsRow B e size v' (n + m) (xs ++ news) → ((v'.ownBlock = v.ownBlock ∧ w.grownBy w' v.ownBlock) ∨ ((∀ g, v'.ownBlock = some g → w.heap.size ≤ g) ∧ w.grownBy w' none)) → K (a.put o.dst v') w') : Oper.wp Tryz.prog o a w K Q := by
  obtain ⟨i, hi, hz0, hz1, hz2⟩ := info_parts hinf
  obtain ⟨v', w', hr, h2, h3⟩ := run_append_far (P := Tryz.prog) w B t o.type e i z size bytes hu hi hz0 hz1 hz2 hzs hsz v n xs hown ad m c news hl hnews h1 (by unfold maxLen; omega) hby hB
  unfold Oper.wp execOp
  simp only [ho, resolve, invoke, builtin, Sem.run_bind, Sem.run_pure, Result.andThen_ok, List.map_toArray, List.map_cons, List.map_nil, hs, hx, hr]
  exact h v' w' h2 h3
theorem add_zero_addr (b j : Nat) : (⟨b, 0, none⟩ : Addr).add j = ⟨b, j, none⟩ := by unfold Addr.add; split <;> simp_all
theorem info5 : (Tryz.prog.info? 5).map (fun i => (i.zero, i.size, i.bytes)) = some (some (.int .u8 0), 1, 1) := by kernel_rfl
theorem info9 : (Tryz.prog.info? 9).map (fun i => (i.zero, i.size, i.bytes)) = some (some (.string ⟨#[]⟩), 1, 16) := by kernel_rfl
theorem info31 : (Tryz.prog.info? 31).map (fun i => (i.zero, i.size, i.bytes)) = some (some (.slice none 0 0), 1, 24) := by kernel_rfl
theorem info32 : (Tryz.prog.info? 32).map (fun i => (i.zero, i.size, i.bytes)) = some (some (.slice none 0 0), 1, 24) := by kernel_rfl
theorem info47 : (Tryz.prog.info? 47).map (fun i => (i.zero, i.size, i.bytes)) = some (some (.agg #[.int .i64 0, .slice none 0 0]), 2, 32) := by kernel_rfl
theorem inf71 : (Tryz.prog.info? 71).map (fun i => (i.zero, i.size, i.bytes)) = some (some (.agg #[.string ⟨#[]⟩, .bool false, .slice none 0 0]), 3, 48) := by kernel_rfl
end Go.Proofs.YtcpncfngadablaaGreatDoor
/-
  A state is put on the shelf: what lies there then.
-/
namespace Go.Proofs.YtcpncfngadablaaGreatDoor
open Go.RowKit Go.Deep ShfKit
set_option maxRecDepth 100000
/-- the lists of bytes of a file that was told. -/
def ysOf (B : Nat) (e : SFile) : List Rw := (e.bs.zip e.file.blocks).map fun x => (sliceV x.1 B, B, Lib.byteCells x.2)
section
variable {w W w' : World} {B n : Nat} {e : SFile} {l : List SFile} {fv : Value}
theorem ys_get (B : Nat) (e : SFile) {i : Nat} {x : Rw} (h : (ysOf B e)[i]? = some x) : ∃ b bl, e.bs[i]? = some b ∧ e.file.blocks[i]? = some bl ∧ x = (sliceV b B, B, Lib.byteCells bl) := by
  unfold ysOf at h
  rw [List.getElem?_map, Option.map_eq_some_iff] at h
  obtain ⟨⟨b, bl⟩, hz, rfl⟩ := h
  obtain ⟨h1, h2⟩ := List.getElem?_zip_eq_some.1 hz
  exact ⟨b, bl, h1, h2, rfl⟩
theorem ys_blks {b : Nat} (h : b ∈ blks (ysOf B e)) : b ∈ e.bs := by
  obtain ⟨i, x, hx, hb⟩ := mem_blks.1 h
  obtain ⟨b', bl, h1, _, rfl⟩ := ys_get B e hx
  have : b' = b := by simpa [Value.ownBlock] using hb
  subst this
  exact List.mem_of_getElem? h1
theorem ys_vals (h : BlocksAt w B e.sv e.bs e.file.blocks) : (ysOf B e).map (·.1) = e.bs.map (fun b => sliceV b B) ∧ (ysOf B e).length = e.file.blocks.length := by
  have hl := h.len
  unfold ysOf
  refine ⟨?_, by simp; omega⟩
  rw [List.map_map]
  have : ((fun x : Rw => x.1) ∘ fun x : Nat × List UInt8 => (sliceV x.1 B, B, Lib.byteCells x.2)) = (fun b => sliceV b B) ∘ Prod.fst := rfl
  rw [this, ← List.map_map, List.map_fst_zip (by omega)]
theorem ys_fam (h : BlocksAt w B e.sv e.bs e.file.blocks) (hn : e.bs.Nodup) (hB : B ≤ 65536) : Fam w 0 5 1 (ysOf B e) := by
  refine ⟨fun i x hx => ?_, fun i j x y g hx hy hij hg hg2 => ?_⟩
  · obtain ⟨b, bl, h1, h2, rfl⟩ := ys_get B e hx
    obtain ⟨hl, hby⟩ := h.bytes i b bl h1 h2
    refine ⟨by simp [Lib.byteCells_length, hl], .inr ⟨b, B, _, rfl, Nat.zero_le _, hby, Nat.le_refl _, by show B ≤ maxLen; unfold maxLen; omega, by simp [Lib.byteCells_length, hl], ?_⟩⟩
    rw [List.toList_toArray, List.take_of_length_le (by rw [Lib.byteCells_length, hl]; show B ≤ B * 1; omega)]
  · obtain ⟨b, bl, h1, _, rfl⟩ := ys_get B e hx
    obtain ⟨b', bl', h1', _, rfl⟩ := ys_get B e hy
    have e1 : b = g := by simpa [Value.ownBlock] using hg
    have e2 : b' = g := by simpa [Value.ownBlock] using hg2
    subst e1
    subst e2
    exact hij ((List.getElem?_inj (List.getElem?_eq_some_iff.1 h1).1 hn).1 (h1.trans h1'.symm))
theorem ys_ok (hB1 : 64 ≤ B) (hB2 : B ≤ 65536) : ∀ x ∈ ysOf B e, ByteOk x := by
  intro x hx
  obtain ⟨i, hi⟩ := List.getElem?_of_mem hx
  obtain ⟨b, bl, h1, h2, rfl⟩ := ys_get B e hi
  refine ⟨hB1, hB2, fun u hu => ?_⟩
  simp only [Lib.byteCells, List.mem_map] at hu
  obtain ⟨c, _, rfl⟩ := hu
  exact ⟨_, rfl⟩
/-- all the lists of the first files. -/
def ysAll (B : Nat) (l : List SFile) : List Rw := l.flatMap (ysOf B)
theorem ysAll_blks {b : Nat} (h : b ∈ blks (ysAll B l)) : ∃ e ∈ l, b ∈ e.bs := by
  unfold blks ysAll at h
  rw [List.flatMap_assoc, List.mem_flatMap] at h
  obtain ⟨e, he, hb⟩ := h
  exact ⟨e, he, ys_blks hb⟩
theorem ysAll_len (h : ∀ e ∈ l, e.bs.length = e.file.blocks.length) : (ysAll B l).length = total (l.map SFile.pub) := by
  unfold ysAll total
  induction l with
  | nil => rfl
  | cons a l ih =>
    rw [List.flatMap_cons, List.length_append, ih (fun e he => h e (List.mem_cons_of_mem _ he))]
    have h1 := h a (List.mem_cons_self ..)
    simp [ysOf, SFile.pub, h1]
theorem ysAll_take {i : Nat} (h : l[i]? = some e) : ysAll B (l.take (i + 1)) = ysAll B (l.take i) ++ ysOf B e := by
  unfold ysAll
  rw [List.take_add_one, h, List.flatMap_append]
  simp
theorem ysAll_le {i : Nat} : (ysAll B (l.take i)).length ≤ (ysAll B l).length := by
  have h : ysAll B l = ysAll B (l.take i) ++ ysAll B (l.drop i) := by
    unfold ysAll
    rw [← List.flatMap_append, List.take_append_drop]
  rw [h, List.length_append]
  omega
theorem push_touch {S : Sg} {v' : Value} (hf : (v'.ownBlock = S.bv.ownBlock ∧ w.grownBy W S.bv.ownBlock) ∨ ((∀ g, v'.ownBlock = some g → w.heap.size ≤ g) ∧ w.grownBy W none)) : Touch S.hdr w W :=
  (Touch.refl S.hdr w).grown (grown_all hf).1 (fun k hk => .inl (by simp [Sg.hdr, hk]))
/-- appended: nothing. -/
theorem run_append_none {P : Program} (w : World) (t ty e : TypeId) (size : Nat) (ht : P.underlying t = some (.slice e)) (hs : ∃ i, P.info? e = some i ∧ i.size = size) (sa : Option Addr) (n c : Nat) (h : n ≤ c) :
    (Builtin.append_ #[t, t] ty #[.slice sa n c, .slice none 0 0]).run P w = .ok (.slice sa n c) w := by
  obtain ⟨i, hi, rfl⟩ := hs
  cases sa with
  | none => simp [Builtin.append_, run_underlying ht, sizeOf, typeInfo, hi, Builtin.lenOf, h, run_firstCells_none]
  | some a => simp [Builtin.append_, run_underlying ht, sizeOf, typeInfo, hi, Builtin.lenOf, h, run_firstCells_none, storeCells]
/-- append of a whole list, as a step of a drawn region. -/
theorem wp_rows {o : Oper} {a : Act} {w : World} {K : Act → World → Prop} {Q : Exit → Act → World → Prop} (sl x : Operand) (t e : TypeId) (z : Value) (size bytes : Nat)
    (ho : o.op = .call { callee := .builtin .append, args := #[sl, x], argTypes := #[t, t] }) (hu : Tryz.prog.underlying t = some (.slice e)) (hinf : (Tryz.prog.info? e).map (fun i => (i.zero, i.size, i.bytes)) = some (some z, size, bytes))
    (hzs : z.cells.size = size) (hsz : 0 < size) (n m : Nat) (v xv : Value) (xs news : List Value) (hs : a.eval sl = v) (hown : w.ownsRow 0 e size v n xs) (hx : a.eval x = xv) (hxr : w.ownsRow 0 e size xv m news)
    (h1 : ∀ u ∈ news, u.oneCell' = true) (hn : n + m ≤ 1099511627776) (hby : (n + m) * bytes ≤ 140737488355328)
    (h : ∀ v' w', w'.ownsRow 0 e size v' (n + m) (xs ++ news) → ((v'.ownBlock = v.ownBlock ∧ w.grownBy w' v.ownBlock) ∨ ((∀ g, v'.ownBlock = some g → w.heap.size ≤ g) ∧ w.grownBy w' none)) → K (a.put o.dst v') w') : Oper.wp Tryz.prog o a w K Q := by
  rcases hxr.2 with ⟨hv, h0⟩ | ⟨g, cap, cur, hv, hb, hr, hnc, hcm, hcs, htk⟩
  · subst h0
    have hnil : news = [] := List.eq_nil_of_length_eq_zero (by simpa using hxr.1)
    subst hnil
    obtain ⟨i, hi, hz0, hz1, hz2⟩ := info_parts hinf
    have hvs : ∃ sa c, v = .slice sa n c ∧ n ≤ c := by
      rcases hown.2 with ⟨hv, h0⟩ | ⟨g, cap, cur, hv, _, _, hc, _⟩
      · exact ⟨none, 0, by rw [hv, h0], by omega⟩
      · exact ⟨_, cap, hv, hc⟩
    obtain ⟨sa, c, hvv, hc⟩ := hvs
    have hr := run_append_none (P := Tryz.prog) w t o.type e size hu ⟨i, hi, hz1⟩ sa n c hc
    rw [← hvv] at hr
    unfold Oper.wp execOp
    simp only [ho, resolve, invoke, builtin, Sem.run_bind, Sem.run_pure, Result.andThen_ok, List.map_toArray, List.map_cons, List.map_nil, hs, hx, hv, hr]
    exact h v w (by rw [List.append_nil]; exact hown) (.inl ⟨rfl, ⟨rfl, rfl, rfl, Nat.le_refl _, fun _ _ _ => rfl⟩⟩)
  · refine wp_far sl x t e z size bytes ho hu hinf hzs hsz 0 n m cap v xs news ⟨g, 0, none⟩ hs hown (by rw [hx]; exact hv) hxr.1 (fun j u hj => ?_) h1 hn hby (Nat.zero_le _) h
    obtain ⟨g', c', e', _, _, c1, _⟩ := own_cell hxr hj
    rw [hv] at e'
    simp only [Value.slice.injEq, Option.some.injEq, Addr.mk.injEq] at e'
    obtain ⟨⟨rfl, _⟩, _⟩ := e'
    rw [add_zero_addr]
    exact c1
end
end Go.Proofs.YtcpncfngadablaaGreatDoor
