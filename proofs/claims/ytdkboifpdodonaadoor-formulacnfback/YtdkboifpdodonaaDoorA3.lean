/-
  Bytes that a call owns: appends, and their text.
-/
import Derived.Test.YtdkboifpdodonaaDoorA2
import Derived.Deep.RegionLaw
namespace Go.Proofs.YtdkboifpdodonaaDoor
open Go.RowKit Go.Deep PureCnf
set_option maxRecDepth 100000

theorem info5 : (Tryd.prog.info? 5).map (fun i => (i.zero, i.size, i.bytes)) = some (some (.int .u8 0), 1, 1) := by kernel_rfl

theorem add_zero_addr (g j : Nat) : (⟨g, 0, none⟩ : Addr).add j = ⟨g, j, none⟩ := by
  unfold Addr.add
  split <;> simp_all
theorem cell_row {w : World} {b : Nat} {c : Array Value} {t : TypeId} {fz : Nat × Nat} (h : w.heap[b]? = some (.cells c t fz)) (i : Nat) : w.cell? ⟨b, i, none⟩ = c[i]? := by simp [World.cell?, h]

/-- bytes as cells. -/
def cb (l : List UInt8) : List Value := l.map fun b => Value.int .u8 b.toNat
theorem cb_length (l : List UInt8) : (cb l).length = l.length := by simp [cb]
theorem cb_append (l m : List UInt8) : cb (l ++ m) = cb l ++ cb m := by simp [cb]

/-- the text T is owned there: since W0 nothing below B has turned. -/
def Buf (B : Nat) (T : List UInt8) (W0 : World) (v : Value) (w : World) : Prop := Lib.OwnBuf B 5 v T.length (cb T) W0 w

theorem Buf.below {B : Nat} {T : List UInt8} {W0 : World} {v : Value} {w w' : World} (h : Buf B T W0 v w) (hb : Below w.heap.size w w') : Buf B T W0 v w' := by
  refine ⟨⟨h.1.1, ?_⟩, h.2.1.trans (hb.mono h.2.2), Nat.le_trans h.2.2 hb.size⟩
  rcases h.1.2 with hn | ⟨g, cap, cur, fz, hv, hB, hg, rest⟩
  · exact .inl hn
  · exact .inr ⟨g, cap, cur, fz, hv, hB, (hb.block g (Array.getElem?_eq_some_iff.1 hg).1).trans hg, rest⟩

theorem Buf.empty {B : Nat} {W0 w : World} (hb : Below B W0 w) (hB : B ≤ w.heap.size) : Buf B [] W0 (.slice none 0 0) w :=
  ⟨⟨rfl, .inl ⟨rfl, rfl⟩⟩, hb, hB⟩
theorem Buf.shape {B : Nat} {T : List UInt8} {W0 : World} {v : Value} {w : World} (h : Buf B T W0 v w) : ∃ sa c, v = .slice sa T.length c := by
  rcases h.1.2 with ⟨hn, h0⟩ | ⟨g, cap, cur, fz, hv, _⟩
  · exact ⟨_, _, by rw [hn, h0]⟩
  · exact ⟨_, _, hv⟩
theorem Buf.text {B : Nat} {T : List UInt8} {W0 : World} {v : Value} {w : World} (h : Buf B T W0 v w) : (convert 50 9 v).run Tryd.prog w = .ok (str T) w := by
  rcases h.1.2 with ⟨hn, h0⟩ | ⟨g, cap, cur, fz, hv, hB, hg, hf, hc, hm, hs, ht⟩
  · have : T = [] := List.eq_nil_of_length_eq_zero h0
    subst this
    rw [hn, run_convert_bytes_string w 50 9 5 none 0 0 Tryd.underlying50 Tryd.underlying5 Tryd.underlying9]
    simp [Conv.bytesToString]
    rfl
  · rw [hv]
    refine run_convert_bytes_back (P := Tryd.prog) w 50 9 5 ⟨g, 0, none⟩ cap T Tryd.underlying50 Tryd.underlying5 Tryd.underlying9 (fun j hj => ?_)
    rw [Nat.mul_one] at ht
    have h1 : cur.toList[j]? = (cb T)[j]? := by rw [← ht, List.getElem?_take_of_lt hj]
    simp [cb, List.getElem?_eq_getElem hj] at h1
    rw [add_zero_addr, cell_row hg]
    exact h1

theorem Buf.keeps {B b o : Nat} {T : List UInt8} {W0 : World} {v x : Value} {w : World} (h : Buf B T W0 v w) (hb : b < B) (hc : W0.cell? ⟨b, o, none⟩ = some x) : w.cell? ⟨b, o, none⟩ = some x := (h.2.1.cell (p := ⟨b, o, none⟩) hb).trans hc

theorem app_text {ops : Array Oper} {rest : List Oper} {o : Oper} {a : Act} {Q : Exit → Act → World → Prop} {w : World} (hgd : o.guard = none) (sl x : Operand)
    (ho : o.op = .call { callee := .builtin .append, args := #[sl, x], argTypes := #[50, 9] })
    (B : Nat) (v : Value) (T D : List UInt8) (hs : a.eval sl = v) (W0 : World) (hb : Buf B T W0 v w) (hx : a.eval x = str D) (hlen : T.length + D.length ≤ 140737488355328)
    (h : ∀ v' w', Buf B (T ++ D) W0 v' w' → wpList Tryd.prog ops Q rest (a.put o.dst v') w') : wpList Tryd.prog ops Q (o :: rest) a w := by
  obtain ⟨i, hi, hz0, hz1, hz2⟩ := info_parts info5
  refine Lib.wpList_append_text hgd sl x 50 9 ho B 5 i Tryd.underlying50 Tryd.underlying9 hi hz0 hz1 hz2 v T.length (cb T) hs W0 hb ⟨D.toArray⟩ hx hlen ?_
  intro v' w' h'
  refine h v' w' ?_
  unfold Buf
  rw [List.length_append, cb_append]
  exact h'

theorem app_bytes {ops : Array Oper} {rest : List Oper} {o : Oper} {a : Act} {Q : Exit → Act → World → Prop} {w0 : World} {cs : Array Value} (hgd : o.guard = none) (s x : Operand)
    (ho : o.op = .call { callee := .builtin .append, args := #[s, x], argTypes := #[50, 50] })
    (B : Nat) (v : Value) (T D : List UInt8) (hcs : cs = (cb D).toArray) (m : Nat) (hm : m = D.length) (hs : a.eval s = v) (W0 : World) (hb : Buf B T W0 v w0) (hx : a.eval x = .slice (some ⟨w0.heap.size, 0, none⟩) m m) (hlen : T.length + D.length ≤ 140737488355328)
    (h : ∀ v' w', Buf B (T ++ D) W0 v' w' → wpList Tryd.prog ops Q rest (a.put o.dst v') w') : wpList Tryd.prog ops Q (o :: rest) a (w0.alloc (.cells cs 5)) := by
  obtain ⟨i, hi, hz0, hz1, hz2⟩ := info_parts info5
  subst hcs hm
  have hb' := Lib.OwnBuf.alloc hb (.cells (cb D).toArray 5)
  refine wpList_append_ownF _ hgd s x 50 ho B 5 i (.int .u8 0) 1 1 Tryd.underlying50 hi hz0 hz1 hz2 rfl (by decide) v T.length (cb T) hs hb'.1 ⟨w0.heap.size, 0, none⟩ D.length D.length (cb D) hx (by rw [cb_length, Nat.mul_one]) ?_ ?_ (by unfold maxLen; omega) (by omega) hb'.2.2 ?_
  · intro j u hj
    rw [add_zero_addr, cell_row (heap_alloc_new w0 _)]
    simpa using hj
  · intro u hu
    simp only [cb, List.mem_map] at hu
    obtain ⟨b, _, rfl⟩ := hu
    rfl
  · intro v' w' ho' hg _
    refine h v' w' ?_
    unfold Buf
    rw [List.length_append, cb_append]
    exact hb'.grown ho' hg

theorem step_text {ops : Array Oper} {o : Oper} {a : Act} {w : World} {K : Act → World → Prop} {Q : Exit → Act → World → Prop} {X : Prop} (hgd : o.guard = none) (sl x : Operand)
    (ho : o.op = .call { callee := .builtin .append, args := #[sl, x], argTypes := #[50, 9] })
    (B : Nat) (v : Value) (T D : List UInt8) (hs : a.eval sl = v) (W0 : World) (hb : Buf B T W0 v w) (hx : a.eval x = str D) (hlen : T.length + D.length ≤ 140737488355328)
    (h : ∀ v' w', Buf B (T ++ D) W0 v' w' → K (a.put o.dst v') w') : if Region.wanted o (yielded ops a.tmps) = true then Oper.wp Tryd.prog o a w K Q else X := by
  have hw : Region.wanted o (yielded ops a.tmps) = true := by simp [Region.wanted, hgd]
  rw [if_pos hw]
  obtain ⟨i, hi, hz0, hz1, hz2⟩ := info_parts info5
  obtain ⟨v', w', hr, h2, h3, _⟩ := Lib.run_append_own_stringF (P := Tryd.prog) w B 50 9 o.type 5 i Tryd.underlying50 Tryd.underlying9 hi hz0 hz1 hz2 v T.length (cb T) hb.1 ⟨D.toArray⟩ (by show T.length + D.length ≤ maxLen; unfold maxLen; omega) hlen hb.2.2
  unfold Oper.wp execOp
  simp only [ho, resolve, invoke, builtin, Sem.run_bind, Sem.run_pure, Result.andThen_ok, List.map_toArray, List.map_cons, List.map_nil, hs, hx, hr]
  refine h v' w' ?_
  have := Lib.OwnBuf.grown hb h2 h3
  unfold Buf
  rw [List.length_append, cb_append]
  exact this

theorem sum_text {A D : List UInt8} {W : World} (h : A.length + D.length ≤ 9223372036854775807) : (Op.stringOp .add ⟨A.toArray⟩ ⟨D.toArray⟩).run Tryd.prog W = .ok (str (A ++ D)) W := by
  rw [run_string_add_sum _ ⟨A.toArray⟩ ⟨D.toArray⟩ h, str_add]

theorem decimal_int (x : Int) (h0 : 0 ≤ x) (h1 : x ≤ 9223372036854775807) (w : World) :
    Calls Tryd.prog 28 #[.int .i64 x] w fun e w' => e = .returned (str (Lib.decDigits x.toNat)) ∧ Below w.heap.size w w' := by
  have := decimal_any x.toNat w (by omega)
  rwa [Int.toNat_of_nonneg h0] at this
end Go.Proofs.YtdkboifpdodonaaDoor
