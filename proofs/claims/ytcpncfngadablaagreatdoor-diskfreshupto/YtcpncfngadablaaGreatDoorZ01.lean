import Derived.WalkKit
import Derived.WalkSpells
import Derived.WalkLawsBesides
import Derived.LaidEql
import Derived.Stop.Asserts
import Derived.RowKitTokens
import Derived.Maps.Own
import Derived.Maps.OwnSet
import Derived.Lib.UnsafeStr
import Derived.Lib.BufferWrite
import Derived.Lib.Strings
import Derived.Lib.Walk
import Derived.Laws.MakeOwn
import Derived.Laws.CopyRow
import Derived.Deep.OwnRows
import Derived.Test.YtcpncfngadablaaGreatDoorRows
namespace Go.Proofs.YtcpncfngadablaaGreatDoor
open Go.RowKit Go.Extern.Stop Go.Stop Go.Extern

/-- may a byte stand in a name? -/
def nbB (c : Int) : Bool := decide ((97 ≤ c ∧ c ≤ 122) ∨ (48 ≤ c ∧ c ≤ 57) ∨ c = 45 ∨ c = 46)
/-- is a text a name? -/
def nameB (s : ByteArray) : Bool := decide (1 ≤ s.size ∧ s.size ≤ 32) && s.data.toList.all fun c => nbB c.toNat

theorem ret_bool {a b : Bool} (h : a = b) : Ending.returned (.bool a) = .returned (.bool b) := by rw [h]

set_option maxHeartbeats 400000 in
theorem isNameByte_any (c : Int) (w : World) :
    Calls Tryz.prog 106 #[.int .u8 c] w fun e w' => e = .returned (.bool (nbB c)) ∧ w' = w := by
  go_enter Tryz.func106, Tryz.ntmps106
  go_wp2
  all_goals
    go_ret
    refine ⟨ret_bool ?_, rfl⟩
    unfold nbB
    rw [Bool.eq_iff_iff]
    simp
    try omega

theorem name_long {s : ByteArray} (h : s.size < 1 ∨ 32 < s.size) : nameB s = false := by
  unfold nameB
  rw [decide_eq_false (by omega)]
  rfl
theorem name_bad {s : ByteArray} {k : Nat} (hk : k < s.size) (h : nbB (s[k].toNat : Int) = false) : nameB s = false := by
  unfold nameB
  rw [Bool.and_eq_false_iff]
  right
  rw [List.all_eq_false]
  exact ⟨s[k], by rw [Array.mem_toList_iff]; exact Array.getElem_mem (xs := s.data) hk, by simpa using h⟩
theorem name_ok {s : ByteArray} (h1 : 1 ≤ s.size) (h2 : s.size ≤ 32) (h : ∀ k (hk : k < s.size), nbB (s[k].toNat : Int) = true) : nameB s = true := by
  unfold nameB
  rw [Bool.and_eq_true]
  refine ⟨by simp; omega, ?_⟩
  rw [List.all_eq_true]
  intro c hc
  obtain ⟨k, hk, rfl⟩ := List.getElem_of_mem hc
  exact h k (by simpa using hk)

set_option maxHeartbeats 400000 in
theorem isName_any (s : ByteArray) (w : World) :
    Calls Tryz.prog 101 #[.string s] w fun e w' => e = .returned (.bool (nameB s)) ∧ w' = w := by
  by_cases hl : s.size < 1 ∨ 32 < s.size
  · have hN : Hid (nameB s = false) := name_long hl
    rcases hl with hl | hl
    · go_enter Tryz.func101, Tryz.ntmps101
      go_wp2
      go_ret
      exact ⟨ret_bool hN.out.symm, rfl⟩
    · have h1 : ¬ s.size < 1 := by omega
      go_enter Tryz.func101, Tryz.ntmps101
      go_wp2
      go_ret
      exact ⟨ret_bool hN.out.symm, rfl⟩
  · have h1 : 1 ≤ s.size := by omega
    have h2 : s.size ≤ 32 := by omega
    clear hl
    go_enter Tryz.func101, Tryz.ntmps101
    go_wp2
    go_loop [14] (fun i => ∃ k : Nat, k ≤ s.size ∧ i = .int .i64 k ∧ ∀ j (hj : j < s.size), j < k → nbB (s[j].toNat : Int) = true) (fun i => s.size - (intOf i).toNat)
    case atStart => exact ⟨0, Nat.zero_le _, rfl, fun j _ hj => absurd hj (by omega)⟩
    case round =>
      obtain ⟨k, hk, rfl, hall⟩ := hrel
      have HA : Hid (∀ j (hj : j < s.size), j < k → nbB (s[j].toNat : Int) = true) := hall
      clear hall
      by_cases hlt : k < s.size
      · go_wp2_with (go_at_call 106; refine (isNameByte_any _ _).mono ?_; rintro e w' ⟨rfl, rfl⟩)
        · go_ret
          refine ⟨ret_bool (name_bad hlt ?_).symm, rfl⟩
          have hb : (!nbB (s[k].toNat : Int)) = true := by assumption
          simpa using hb
        · have hb : (!nbB (s[k].toNat : Int)) = false := by assumption
          refine ⟨⟨k + 1, by omega, by go_num, fun j hj hjk => ?_⟩, by simp [intOf]; omega⟩
          by_cases hjk' : j < k
          · exact HA.out j hj hjk'
          · obtain rfl : j = k := by omega
            simpa using hb
      · go_wp2
        go_ret
        exact ⟨ret_bool (name_ok h1 h2 fun j hj => HA.out j hj (by omega)).symm, rfl⟩

/-! ### errors.Is over the package's sentinels -/
theorem Tryz.isTypeOf (v : Value) (w : World) : (Extern.ReflectliteType.typeOf #[.iface 183 v]).run Tryz.prog w = .ok (.iface 146 (.agg #[.pointer (some ⟨11, 183, none⟩)])) w := by kernel_rfl
theorem Tryz.callComparable (w : World) : (callFunc 143 #[.agg #[.pointer (some ⟨11, 183, none⟩)]]).run Tryz.prog w = .ok (Next.value (.bool true)) w := by kernel_rfl
theorem Tryz.isMethodComparable (v : Value) (w : World) : (Go.method 317 146 v "Comparable").run Tryz.prog w = .ok (143, v) w := by kernel_rfl
theorem Tryz.isComp : (Tryz.prog.info? 183).map (·.comparable) = some true := by kernel_rfl
theorem Tryz.isSize : (Tryz.prog.info? 206).map (·.size) = some 1 := by kernel_rfl
theorem Tryz.noIsE (v : Value) (xT : TypeId) (w : World) : (Instr.typeAssert (.iface 183 v) xT 148 true).run Tryz.prog w = .ok (.tuple #[.nilIface, .bool false]) w := run_typeAssert_lacksB Tryz.underlying148 (by kernel_rfl) (by kernel_rfl) v xT w
theorem Tryz.noUnwrapE (v : Value) (xT : TypeId) (w : World) : (Instr.typeAssert (.iface 183 v) xT 151 true).run Tryz.prog w = .ok (.tuple #[.nilIface, .bool false]) w := run_typeAssert_lacksB Tryz.underlying151 (by kernel_rfl) (by kernel_rfl) v xT w
theorem Tryz.noUnwrapsE (v : Value) (xT : TypeId) (w : World) : (Instr.typeAssert (.iface 183 v) xT 153 true).run Tryz.prog w = .ok (.tuple #[.nilIface, .bool false]) w := run_typeAssert_lacksB Tryz.underlying153 (by kernel_rfl) (by kernel_rfl) v xT w

set_option maxRecDepth 100000 in
set_option maxHeartbeats 400000 in
theorem is_same (a : Addr) (w : World) :
    Calls Tryz.prog 62 #[.iface 183 (.pointer (some a)), .iface 183 (.pointer (some a))] w fun e w' => e = .returned (.bool true) ∧ w' = w := by
  obtain ⟨i, hi, hcmp⟩ := Option.map_eq_some_iff.1 Tryz.isComp
  obtain ⟨j, hj, hjs⟩ := Option.map_eq_some_iff.1 Tryz.isSize
  have h8 := @run_callFunc_extern Tryz.prog 88 _ Extern.ReflectliteType.typeOf Tryz.func88 (by kernel_rfl) (by kernel_rfl) (by kernel_rfl) (by kernel_rfl)
  have tT := Tryz.isTypeOf
  have h32 := Tryz.callComparable
  have mR := Tryz.isMethodComparable
  have heq := run_eql_iface_ptr_same (P := Tryz.prog) w a Tryz.underlying75 Tryz.underlying183 hi hcmp hj
  go_enter Tryz.func62, Tryz.ntmps62
  go_wp2
  refine wp_loop_rounds 1 ?_
  rw [rounds_succ]
  go_wp2
  go_ret
  exact ⟨rfl, rfl⟩

set_option maxRecDepth 100000 in
set_option maxHeartbeats 400000 in
theorem is_other (a b : Addr) (ca cb : Array Value) (ta tb : TypeId) (w : World) (hne : a ≠ b) (ha : w.heap[a.block]? = some (.cells ca ta (0, 0))) (hb : w.heap[b.block]? = some (.cells cb tb (0, 0))) :
    Calls Tryz.prog 62 #[.iface 183 (.pointer (some a)), .iface 183 (.pointer (some b))] w fun e w' => e = .returned (.bool false) ∧ w' = w := by
  obtain ⟨i, hi, hcmp⟩ := Option.map_eq_some_iff.1 Tryz.isComp
  obtain ⟨j, hj, hjs⟩ := Option.map_eq_some_iff.1 Tryz.isSize
  have h8 := @run_callFunc_extern Tryz.prog 88 _ Extern.ReflectliteType.typeOf Tryz.func88 (by kernel_rfl) (by kernel_rfl) (by kernel_rfl) (by kernel_rfl)
  have tT := Tryz.isTypeOf
  have h32 := Tryz.callComparable
  have mR := Tryz.isMethodComparable
  have nE := Tryz.noIsE
  have uE := Tryz.noUnwrapE
  have vE := Tryz.noUnwrapsE
  have heq := run_eql_iface_ptr_other (P := Tryz.prog) w Tryz.underlying75 Tryz.underlying183 hi hcmp hj (by rw [hjs]; decide) hne ha hb
  clear ha hb
  go_enter Tryz.func62, Tryz.ntmps62
  go_wp2
  refine wp_loop_rounds 1 ?_
  rw [rounds_succ]
  go_wp2
  go_ret
  exact ⟨rfl, rfl⟩

/-- The package's eleven errors lie in this world: variable i holds a pointer to 'E i', and no two are one. -/
structure Sents (w : World) (E : Nat → Addr) : Prop where
  var : ∀ i, i < 11 → w.cell? ⟨i, 0, none⟩ = some (.iface 183 (.pointer (some (E i))))
  obj : ∀ i, i < 11 → ∃ c t, w.heap[(E i).block]? = some (.cells c t (0, 0))
  inj : ∀ i j, i < 11 → j < 11 → E i = E j → i = j

/-- error number i of the package. -/
abbrev errV (E : Nat → Addr) (i : Nat) : Value := .iface 183 (.pointer (some (E i)))

theorem is_at {w : World} {E : Nat → Addr} (S : Sents w E) (i j : Nat) (hi : i < 11) (hj : j < 11) :
    Calls Tryz.prog 62 #[errV E i, errV E j] w fun e w' => e = .returned (.bool (decide (i = j))) ∧ w' = w := by
  by_cases h : i = j
  · subst h
    simpa using is_same (E i) w
  · obtain ⟨c, t, hc⟩ := S.obj i hi
    obtain ⟨c', t', hc'⟩ := S.obj j hj
    simpa [h] using is_other (E i) (E j) c c' t t' w (fun e => h (S.inj i j hi hj e)) hc hc'

/-- what 'tell' answers of error i. -/
def code : Nat → Int
  | 0 => 1 | 1 => 9 | 2 => 10 | 3 => 11 | 4 => 12 | 5 => 13 | 6 => 14 | 7 => 15 | 8 => 16 | 9 => 17 | _ => 18

theorem code_at {i k : Nat} {n : Int} (h : i = k) (hc : code k = n) : Ending.returned (.int .i64 n) = .returned (.int .i64 (code i)) := by rw [h, hc]
set_option maxHeartbeats 400000 in
theorem tell_nil (w : World) : Calls Tryz.prog 26 #[.nilIface] w fun e w' => e = .returned (.int .i64 0) ∧ w' = w := by
  go_enter Tryz.func26, Tryz.ntmps26
  go_wp2
  go_ret
  exact ⟨rfl, rfl⟩
set_option maxRecDepth 100000 in
set_option maxHeartbeats 1000000 in
theorem tell_err {w : World} {E : Nat → Addr} (S : Sents w E) (i : Nat) (hi : i < 11) :
    Calls Tryz.prog 26 #[errV E i] w fun e w' => e = .returned (.int .i64 (code i)) ∧ w' = w := by
  have c1 := S.var 1 (by omega)
  have c2 := S.var 2 (by omega)
  have c3 := S.var 3 (by omega)
  have c4 := S.var 4 (by omega)
  have c5 := S.var 5 (by omega)
  have c6 := S.var 6 (by omega)
  have c7 := S.var 7 (by omega)
  have c8 := S.var 8 (by omega)
  have c9 := S.var 9 (by omega)
  have c10 := S.var 10 (by omega)
  go_enter Tryz.func26, Tryz.ntmps26
  have HI : Hid (i < 11) := hi
  clear hi
  go_wp2_with (go_at_call 62; refine (is_at S i _ HI.out (by omega)).mono ?_; rintro e w' ⟨rfl, rfl⟩)
  all_goals
    go_ret
    have HI' := HI.out
    first | (refine ⟨code_at (k := 0) (by omega) rfl, rfl⟩) | (refine ⟨code_at (k := 1) (by omega) rfl, rfl⟩) | (refine ⟨code_at (k := 2) (by omega) rfl, rfl⟩) | (refine ⟨code_at (k := 3) (by omega) rfl, rfl⟩) | (refine ⟨code_at (k := 4) (by omega) rfl, rfl⟩) | (refine ⟨code_at (k := 5) (by omega) rfl, rfl⟩) | (refine ⟨code_at (k := 6) (by omega) rfl, rfl⟩) | (refine ⟨code_at (k := 7) (by omega) rfl, rfl⟩) | (refine ⟨code_at (k := 8) (by omega) rfl, rfl⟩) | (refine ⟨code_at (k := 9) (by omega) rfl, rfl⟩) | (refine ⟨code_at (k := 10) (by omega) rfl, rfl⟩)
end Go.Proofs.YtcpncfngadablaaGreatDoor
namespace Go.Proofs.YtcpncfngadablaaGreatDoor
open Go.RowKit

/-! ### what a run may have touched -/
/-- Since the world a, nothing below its heap's size has turned but blocks of F. -/
structure Touch (F : List Nat) (a w : World) : Prop where
  os : w.os = a.os
  tape : w.tape = a.tape
  output : w.output = a.output
  size : a.heap.size ≤ w.heap.size
  block : ∀ k, k < a.heap.size → k ∉ F → w.heap[k]? = a.heap[k]?

section
variable {F G : List Nat} {a w w' : World}
theorem Touch.refl (F : List Nat) (w : World) : Touch F w w := ⟨rfl, rfl, rfl, Nat.le_refl _, fun _ _ _ => rfl⟩
theorem Touch.trans (h : Touch F a w) (k : Touch G w w') (hG : ∀ b ∈ G, b ∈ F ∨ a.heap.size ≤ b) : Touch F a w' :=
  ⟨k.os.trans h.os, k.tape.trans h.tape, k.output.trans h.output, Nat.le_trans h.size k.size, fun b hb hF =>
    (k.block b (Nat.lt_of_lt_of_le hb h.size) (fun hg => by rcases hG b hg with h1 | h1; exact hF h1; omega)).trans (h.block b hb hF)⟩
theorem Touch.mono (h : Touch F a w) (hG : ∀ b ∈ F, b ∈ G) : Touch G a w := ⟨h.os, h.tape, h.output, h.size, fun b hb hg => h.block b hb (fun hf => hg (hG b hf))⟩
theorem Touch.drew (h : Touch F a w) : Touch F a w.drew := ⟨h.os, h.tape, h.output, h.size, h.block⟩
theorem Touch.alloc (h : Touch F a w) (o : Obj) : Touch F a (w.alloc o) :=
  ⟨h.os, h.tape, h.output, Nat.le_trans h.size (by simp), fun b hb hF => (Below.heap_alloc w o b (Nat.lt_of_lt_of_le hb h.size)).trans (h.block b hb hF)⟩
theorem Touch.setCell (h : Touch F a w) {p : Addr} (hp : p.block ∈ F ∨ a.heap.size ≤ p.block) (u : Value) : Touch F a (w.setCell p u) :=
  ⟨h.os, h.tape, h.output, Nat.le_trans h.size (by simp [World.setCell]), fun b hb hF => (Below.heap_setCell w p u b (fun e => by subst e; rcases hp with h1 | h1; exact hF h1; omega)).trans (h.block b hb hF)⟩
theorem Touch.grown {row : Option Nat} (h : Touch F a w) (hg : w.grownBy w' row) (hr : ∀ k, row = some k → k ∈ F ∨ a.heap.size ≤ k) : Touch F a w' :=
  ⟨hg.os.trans h.os, hg.tape.trans h.tape, hg.output.trans h.output, Nat.le_trans h.size hg.size, fun b hb hF =>
    (hg.block b (Nat.lt_of_lt_of_le hb h.size) (fun e => by rcases hr b e.symm with h1 | h1; exact hF h1; omega)).trans (h.block b hb hF)⟩
theorem Touch.of_below {B : Nat} (h : Below B w w') (hB : w.heap.size ≤ B) : Touch F w w' := ⟨h.os, h.tape, h.output, h.size, fun b hb _ => h.block b (by omega)⟩
theorem Touch.below (h : Touch F a w) {B : Nat} (hB : B ≤ a.heap.size) (hF : ∀ b ∈ F, B ≤ b) : Below B a w := ⟨h.os, h.tape, h.output, h.size, fun b hb => h.block b (by omega) (fun hf => by have := hF b hf; omega)⟩
theorem Touch.cell (h : Touch F a w) {p : Addr} (hp : p.block < a.heap.size) (hF : p.block ∉ F) : w.cell? p = a.cell? p := World.cell?_of_block (h.block _ hp hF)
end

theorem Sents.below {w w' : World} {E : Nat → Addr} {B : Nat} (S : Sents w E) (h : Below B w w') (h0 : 11 ≤ B) (hE : ∀ i, i < 11 → (E i).block < B) : Sents w' E :=
  ⟨fun i hi => (h.cell (p := ⟨i, 0, none⟩) (by show i < B; omega)).trans (S.var i hi), fun i hi => by obtain ⟨c, t, hc⟩ := S.obj i hi; exact ⟨c, t, (h.block _ (hE i hi)).trans hc⟩, S.inj⟩

/-! ### rows -/
theorem cell_row {w : World} {b : Nat} {c : Array Value} {t : TypeId} {fz : Nat × Nat} (h : w.heap[b]? = some (.cells c t fz)) (i : Nat) : w.cell? ⟨b, i, none⟩ = c[i]? := by simp [World.cell?, h]
theorem unfrozen_row {w : World} {b : Nat} {c : Array Value} {t : TypeId} (h : w.heap[b]? = some (.cells c t (0, 0))) (i : Nat) : w.frozen? ⟨b, i, none⟩ = false := by simp [World.frozen?, h]
theorem heap_setCell_row {w : World} {b : Nat} {c : Array Value} {t : TypeId} {fz : Nat × Nat} (h : w.heap[b]? = some (.cells c t fz)) (i : Nat) (v : Value) :
    (w.setCell ⟨b, i, none⟩ v).heap[b]? = some (.cells (c.setIfInBounds i v) t fz) := by
  have hb := (Array.getElem?_eq_some_iff.1 h).1
  simp [World.setCell, Array.getElem?_modify, h]
theorem lt_of_block {w : World} {b : Nat} {o : Obj} (h : w.heap[b]? = some o) : b < w.heap.size := (Array.getElem?_eq_some_iff.1 h).1

/-! ### the parts of a disk -/
/-- a block's slice. -/
abbrev sliceV (b n : Nat) : Value := .slice (some ⟨b, 0, none⟩) n n

structure FileA where
  shut : Bool
  blocks : List (List UInt8)

/-- where a file's parts lie. -/
structure Lay where
  fb : Nat
  sv : Value
  bs : List Nat

def Lay.foot (L : Lay) : List Nat := L.fb :: (L.sv.ownBlock.toList ++ L.bs)

/-- bytes of a block lie there. -/
def BytesAt (w : World) (b : Nat) (bl : List UInt8) : Prop := w.heap[b]? = some (.cells (Lib.byteCells bl).toArray 5 (0, 0))

structure FileAt (w : World) (B : Nat) (L : Lay) (f : FileA) : Prop where
  row : w.heap[L.fb]? = some (.cells #[.int .i64 (if f.shut then 1 else 0), L.sv] 118 (0, 0))
  own : w.ownsRow 0 31 1 L.sv f.blocks.length (L.bs.map fun b => sliceV b B)
  bytes : ∀ (i b : Nat) (bl : List UInt8), L.bs[i]? = some b → f.blocks[i]? = some bl → bl.length = B ∧ BytesAt w b bl

theorem FileAt.len {w : World} {B : Nat} {L : Lay} {f : FileA} (h : FileAt w B L f) : L.bs.length = f.blocks.length := by simpa using h.own.1

theorem FileAt.kept {w w' : World} {B : Nat} {L : Lay} {f : FileA} (h : FileAt w B L f) (hk : ∀ b ∈ L.foot, w'.heap[b]? = w.heap[b]?) : FileAt w' B L f := by
  refine ⟨(hk _ (by simp [Lay.foot])).trans h.row, ⟨h.own.1, ?_⟩, fun i b bl hb hbl => ?_⟩
  · rcases h.own.2 with hn | ⟨g, cap, cur, hv, hb, hg, rest⟩
    · exact .inl hn
    · exact .inr ⟨g, cap, cur, hv, hb, (hk g (by simp [Lay.foot, hv, Value.ownBlock])).trans hg, rest⟩
  · have := h.bytes i b bl hb hbl
    refine ⟨this.1, ?_⟩
    have hm : b ∈ L.foot := by simp [Lay.foot, List.mem_of_getElem? hb]
    exact (hk b hm).trans this.2

theorem FileAt.lt {w : World} {B : Nat} {L : Lay} {f : FileA} (h : FileAt w B L f) : ∀ b ∈ L.foot, b < w.heap.size := by
  intro b hb
  simp only [Lay.foot, List.mem_cons, List.mem_append, Option.mem_toList] at hb
  rcases hb with rfl | hb | hb
  · exact lt_of_block h.row
  · exact (h.own.lt b hb).2
  · obtain ⟨i, hi, rfl⟩ := List.getElem_of_mem hb
    have := h.bytes i _ (f.blocks[i]'(by rw [← h.len]; exact hi)) (List.getElem?_eq_getElem hi) (List.getElem?_eq_getElem _)
    exact lt_of_block this.2

structure Ent where
  name : List UInt8
  file : FileA
  lay : Lay

structure Cnt where
  calls : Int
  reads : Int
  appends : Int
  faults : Int
  full : Int
  used : Int
  most : Int

structure DiskC where
  B : Nat
  Bs : Int
  on : Bool
  ents : List Ent
  T : DataW Unit
  c : Cnt

def dRow (D : DiskC) (mf mt : Nat) : Array Value :=
  #[.int .i64 D.B, .int .i64 D.Bs, .bool D.on, .map (some mf), .map (some mt), .int .i64 D.c.calls, .int .i64 D.c.reads, .int .i64 D.c.appends, .int .i64 D.c.faults, .int .i64 D.c.full, .int .i64 D.c.used, .int .i64 D.c.most]

/-- how an element of the map of files reads. -/
def ptrElem (v : Value) : Option (DataW Unit × List MemPlace) :=
  match v with
  | .pointer (some ⟨b, 0, none⟩) => some (.lit (.int .i64 b), [])
  | .pointer none => some (.nil, [])
  | _ => none
/-- how an element of the map of troubles reads. -/
def trElem (v : Value) : Option (DataW Unit × List MemPlace) :=
  match v with
  | .agg cs => match cs.toList with
    | [.int .i64 a, .int .i64 k, .int .i64 b] => some (.agg [.lit (.int .i64 a), .lit (.int .i64 k), .lit (.int .i64 b)], [])
    | _ => none
  | _ => none

def Ent.key (e : Ent) : Lit × DataW Unit := (.string e.name, .lit (.int .i64 e.lay.fb))
def mapOf (l : List Ent) : DataW Unit := .map (l.map Ent.key)

def DiskC.foot (D : DiskC) (p mf mt : Nat) : List Nat := p :: mf :: mt :: D.ents.flatMap fun e => e.lay.foot

/-- At block p of w lies a disk: its maps at mf, mt; all its memory from lo on. -/
structure Rep (w : World) (lo p mf mt : Nat) (D : DiskC) : Prop where
  row : w.heap[p]? = some (.cells (dRow D mf mt) 91 (0, 0))
  files : w.ownsMap Tryz.prog 9 ptrElem mf D.ents.length (mapOf D.ents)
  troubles : ∃ n, w.ownsMap Tryz.prog 3 trElem mt n D.T
  each : ∀ e ∈ D.ents, FileAt w D.B e.lay e.file
  apart : (D.foot p mf mt).Nodup
  base : ∀ b ∈ D.foot p mf mt, lo ≤ b
  names : ∀ e ∈ D.ents, e.name.length ≤ 32

theorem Rep.lt {w : World} {lo p mf mt : Nat} {D : DiskC} (h : Rep w lo p mf mt D) : ∀ b ∈ D.foot p mf mt, b < w.heap.size := by
  intro b hb
  obtain ⟨n, ht⟩ := h.troubles
  simp only [DiskC.foot, List.mem_cons, List.mem_flatMap] at hb
  rcases hb with rfl | rfl | rfl | ⟨e, he, hb⟩
  · exact lt_of_block h.row
  · exact h.files.lt
  · exact ht.lt
  · exact (h.each e he).lt b hb

theorem ownsMap_kept {w w' : World} {k : TypeId} {R : Value → Option (DataW Unit × List MemPlace)} {b n : Nat} {D : DataW Unit} (h : w.ownsMap Tryz.prog k R b n D) (hk : w'.heap[b]? = w.heap[b]?) : w'.ownsMap Tryz.prog k R b n D := by
  obtain ⟨es, clock, hb, r⟩ := h
  exact ⟨es, clock, hk.trans hb, r⟩

/-- A disk stands where none of its blocks has turned. -/
theorem Rep.kept {w w' : World} {lo p mf mt : Nat} {D : DiskC} (h : Rep w lo p mf mt D) (hk : ∀ b ∈ D.foot p mf mt, w'.heap[b]? = w.heap[b]?) : Rep w' lo p mf mt D := by
  obtain ⟨n, ht⟩ := h.troubles
  refine ⟨(hk p (by simp [DiskC.foot])).trans h.row, ownsMap_kept h.files (hk mf (by simp [DiskC.foot])), ⟨n, ownsMap_kept ht (hk mt (by simp [DiskC.foot]))⟩, fun e he => (h.each e he).kept fun b hb => hk b ?_, h.apart, h.base, h.names⟩
  simp only [DiskC.foot, List.mem_cons, List.mem_flatMap]
  exact .inr (.inr (.inr ⟨e, he, hb⟩))

theorem Rep.touch {w w' : World} {lo p mf mt : Nat} {D : DiskC} {F : List Nat} (h : Rep w lo p mf mt D) (ht : Touch F w w') (hF : ∀ b ∈ D.foot p mf mt, b ∉ F) : Rep w' lo p mf mt D :=
  h.kept fun b hb => ht.block b (h.lt b hb) (hF b hb)

/-- The numbers of a disk, or its troubles, have been set anew; nothing else of it has turned. -/
theorem Rep.reset {w w' : World} {lo p mf mt : Nat} {D D' : DiskC} (h : Rep w lo p mf mt D) (hB : D'.B = D.B) (he : D'.ents = D.ents) (hrow : w'.heap[p]? = some (.cells (dRow D' mf mt) 91 (0, 0)))
    (hT : ∃ n, w'.ownsMap Tryz.prog 3 trElem mt n D'.T) (ht : Touch [p, mt] w w') : Rep w' lo p mf mt D' := by
  have hne : p ≠ mt ∧ p ≠ mf ∧ mf ≠ mt := by
    have := h.apart
    simp [DiskC.foot] at this
    exact ⟨this.1.2.1, this.1.1, this.2.1.1⟩
  have hf : D'.foot p mf mt = D.foot p mf mt := by simp [DiskC.foot, he]
  have hk : ∀ b ∈ D.foot p mf mt, b ≠ p → b ≠ mt → w'.heap[b]? = w.heap[b]? := fun b hb h1 h2 => ht.block b (h.lt b hb) (by simp [h1, h2])
  refine ⟨hrow, by rw [he]; exact ownsMap_kept h.files (hk mf (by simp [DiskC.foot]) hne.2.1.symm hne.2.2), hT, fun e hm => ?_, by rw [hf]; exact h.apart, by rw [hf]; exact h.base, by rw [he]; exact h.names⟩
  rw [he] at hm
  rw [hB]
  refine (h.each e hm).kept fun b hb => ?_
  have hm' : b ∈ D.ents.flatMap fun e => e.lay.foot := List.mem_flatMap.2 ⟨e, hm, hb⟩
  have ha := h.apart
  simp only [DiskC.foot, List.nodup_cons, List.mem_cons, not_or] at ha
  refine hk b ?_ (fun e1 => ?_) (fun e1 => ?_)
  · simp only [DiskC.foot, List.mem_cons]
    exact .inr (.inr (.inr hm'))
  · subst e1
    exact ha.1.2.2 hm'
  · subst e1
    exact ha.2.2.1 hm'
end Go.Proofs.YtcpncfngadablaaGreatDoor
