import Derived.Test.YtcpncfngadablaaDoorRows
import Derived.WalkKit
import Derived.WalkSpells
import Derived.WalkLawsBesides
import Derived.LaidEql
import Derived.Stop.Asserts
import Derived.RowKitTokens
namespace Go.Proofs.YtcpncfngadablaaDoor
open Go.RowKit Go.Extern.Stop Go.Stop Go.Extern

/-- may a byte stand in a name? -/
def nbB (c : Int) : Bool := decide ((97 ≤ c ∧ c ≤ 122) ∨ (48 ≤ c ∧ c ≤ 57) ∨ c = 45 ∨ c = 46)
/-- is a text a name? -/
def nameB (s : ByteArray) : Bool := decide (1 ≤ s.size ∧ s.size ≤ 32) && s.data.toList.all fun c => nbB c.toNat

theorem ret_bool {a b : Bool} (h : a = b) : Ending.returned (.bool a) = .returned (.bool b) := by rw [h]

set_option maxHeartbeats 400000 in
theorem isNameByte_any (c : Int) (w : World) :
    Calls Tryd.prog 74 #[.int .u8 c] w fun e w' => e = .returned (.bool (nbB c)) ∧ w' = w := by
  go_enter Tryd.func74, Tryd.ntmps74
  go_wp2
  all_goals
    go_ret
    refine ⟨ret_bool ?_, rfl⟩
    unfold nbB
    rw [Bool.eq_iff_iff]
    simp
    try omega

theorem name_long {s : ByteArray} (h : s.size < 1 ∨ 32 < s.size) : nameB s = false := by
  unfold nameB
  rw [decide_eq_false (by omega)]
  rfl
theorem name_bad {s : ByteArray} {k : Nat} (hk : k < s.size) (h : nbB (s[k].toNat : Int) = false) : nameB s = false := by
  unfold nameB
  rw [Bool.and_eq_false_iff]
  right
  rw [List.all_eq_false]
  exact ⟨s[k], by rw [Array.mem_toList_iff]; exact Array.getElem_mem (xs := s.data) hk, by simpa using h⟩
theorem name_ok {s : ByteArray} (h1 : 1 ≤ s.size) (h2 : s.size ≤ 32) (h : ∀ k (hk : k < s.size), nbB (s[k].toNat : Int) = true) : nameB s = true := by
  unfold nameB
  rw [Bool.and_eq_true]
  refine ⟨by simp; omega, ?_⟩
  rw [List.all_eq_true]
  intro c hc
  obtain ⟨k, hk, rfl⟩ := List.getElem_of_mem hc
  exact h k (by simpa using hk)

set_option maxHeartbeats 400000 in
theorem isName_any (s : ByteArray) (w : World) :
    Calls Tryd.prog 69 #[.string s] w fun e w' => e = .returned (.bool (nameB s)) ∧ w' = w := by
  by_cases hl : s.size < 1 ∨ 32 < s.size
  · have hN : Hid (nameB s = false) := name_long hl
    rcases hl with hl | hl
    · go_enter Tryd.func69, Tryd.ntmps69
      go_wp2
      go_ret
      exact ⟨ret_bool hN.out.symm, rfl⟩
    · have h1 : ¬ s.size < 1 := by omega
      go_enter Tryd.func69, Tryd.ntmps69
      go_wp2
      go_ret
      exact ⟨ret_bool hN.out.symm, rfl⟩
  · have h1 : 1 ≤ s.size := by omega
    have h2 : s.size ≤ 32 := by omega
    clear hl
    go_enter Tryd.func69, Tryd.ntmps69
    go_wp2
    go_loop [14] (fun i => ∃ k : Nat, k ≤ s.size ∧ i = .int .i64 k ∧ ∀ j (hj : j < s.size), j < k → nbB (s[j].toNat : Int) = true) (fun i => s.size - (intOf i).toNat)
    case atStart => exact ⟨0, Nat.zero_le _, rfl, fun j _ hj => absurd hj (by omega)⟩
    case round =>
      obtain ⟨k, hk, rfl, hall⟩ := hrel
      have HA : Hid (∀ j (hj : j < s.size), j < k → nbB (s[j].toNat : Int) = true) := hall
      clear hall
      by_cases hlt : k < s.size
      · go_wp2_with (go_at_call 74; refine (isNameByte_any _ _).mono ?_; rintro e w' ⟨rfl, rfl⟩)
        · go_ret
          refine ⟨ret_bool (name_bad hlt ?_).symm, rfl⟩
          have hb : (!nbB (s[k].toNat : Int)) = true := by assumption
          simpa using hb
        · have hb : (!nbB (s[k].toNat : Int)) = false := by assumption
          refine ⟨⟨k + 1, by omega, by go_num, fun j hj hjk => ?_⟩, by simp [intOf]; omega⟩
          by_cases hjk' : j < k
          · exact HA.out j hj hjk'
          · obtain rfl : j = k := by omega
            simpa using hb
      · go_wp2
        go_ret
        exact ⟨ret_bool (name_ok h1 h2 fun j hj => HA.out j hj (by omega)).symm, rfl⟩

/-! ### errors.Is over the package's sentinels -/
theorem Tryd.isTypeOf (v : Value) (w : World) : (Extern.ReflectliteType.typeOf #[.iface 158 v]).run Tryd.prog w = .ok (.iface 119 (.agg #[.pointer (some ⟨11, 158, none⟩)])) w := by kernel_rfl
theorem Tryd.callComparable (w : World) : (callFunc 112 #[.agg #[.pointer (some ⟨11, 158, none⟩)]]).run Tryd.prog w = .ok (Next.value (.bool true)) w := by kernel_rfl
theorem Tryd.isMethodComparable (v : Value) (w : World) : (Go.method 293 119 v "Comparable").run Tryd.prog w = .ok (112, v) w := by kernel_rfl
theorem Tryd.isComp : (Tryd.prog.info? 158).map (·.comparable) = some true := by kernel_rfl
theorem Tryd.isSize : (Tryd.prog.info? 182).map (·.size) = some 1 := by kernel_rfl
theorem Tryd.noIsE (v : Value) (xT : TypeId) (w : World) : (Instr.typeAssert (.iface 158 v) xT 121 true).run Tryd.prog w = .ok (.tuple #[.nilIface, .bool false]) w := run_typeAssert_lacksB Tryd.underlying121 (by kernel_rfl) (by kernel_rfl) v xT w
theorem Tryd.noUnwrapE (v : Value) (xT : TypeId) (w : World) : (Instr.typeAssert (.iface 158 v) xT 124 true).run Tryd.prog w = .ok (.tuple #[.nilIface, .bool false]) w := run_typeAssert_lacksB Tryd.underlying124 (by kernel_rfl) (by kernel_rfl) v xT w
theorem Tryd.noUnwrapsE (v : Value) (xT : TypeId) (w : World) : (Instr.typeAssert (.iface 158 v) xT 126 true).run Tryd.prog w = .ok (.tuple #[.nilIface, .bool false]) w := run_typeAssert_lacksB Tryd.underlying126 (by kernel_rfl) (by kernel_rfl) v xT w

set_option maxRecDepth 100000 in
set_option maxHeartbeats 400000 in
theorem is_same (a : Addr) (w : World) :
    Calls Tryd.prog 39 #[.iface 158 (.pointer (some a)), .iface 158 (.pointer (some a))] w fun e w' => e = .returned (.bool true) ∧ w' = w := by
  obtain ⟨i, hi, hcmp⟩ := Option.map_eq_some_iff.1 Tryd.isComp
  obtain ⟨j, hj, hjs⟩ := Option.map_eq_some_iff.1 Tryd.isSize
  have h8 := @run_callFunc_extern Tryd.prog 54 _ Extern.ReflectliteType.typeOf Tryd.func54 (by kernel_rfl) (by kernel_rfl) (by kernel_rfl) (by kernel_rfl)
  have tT := Tryd.isTypeOf
  have h32 := Tryd.callComparable
  have mR := Tryd.isMethodComparable
  have heq := run_eql_iface_ptr_same (P := Tryd.prog) w a Tryd.underlying55 Tryd.underlying158 hi hcmp hj
  go_enter Tryd.func39, Tryd.ntmps39
  go_wp2
  refine wp_loop_rounds 1 ?_
  rw [rounds_succ]
  go_wp2
  go_ret
  exact ⟨rfl, rfl⟩

set_option maxRecDepth 100000 in
set_option maxHeartbeats 400000 in
theorem is_other (a b : Addr) (ca cb : Array Value) (ta tb : TypeId) (w : World) (hne : a ≠ b) (ha : w.heap[a.block]? = some (.cells ca ta (0, 0))) (hb : w.heap[b.block]? = some (.cells cb tb (0, 0))) :
    Calls Tryd.prog 39 #[.iface 158 (.pointer (some a)), .iface 158 (.pointer (some b))] w fun e w' => e = .returned (.bool false) ∧ w' = w := by
  obtain ⟨i, hi, hcmp⟩ := Option.map_eq_some_iff.1 Tryd.isComp
  obtain ⟨j, hj, hjs⟩ := Option.map_eq_some_iff.1 Tryd.isSize
  have h8 := @run_callFunc_extern Tryd.prog 54 _ Extern.ReflectliteType.typeOf Tryd.func54 (by kernel_rfl) (by kernel_rfl) (by kernel_rfl) (by kernel_rfl)
  have tT := Tryd.isTypeOf
  have h32 := Tryd.callComparable
  have mR := Tryd.isMethodComparable
  have nE := Tryd.noIsE
  have uE := Tryd.noUnwrapE
  have vE := Tryd.noUnwrapsE
  have heq := run_eql_iface_ptr_other (P := Tryd.prog) w Tryd.underlying55 Tryd.underlying158 hi hcmp hj (by rw [hjs]; decide) hne ha hb
  clear ha hb
  go_enter Tryd.func39, Tryd.ntmps39
  go_wp2
  refine wp_loop_rounds 1 ?_
  rw [rounds_succ]
  go_wp2
  go_ret
  exact ⟨rfl, rfl⟩

/-- The package's eleven errors lie in this world: variable i holds a pointer to 'E i', and no two are one. -/
structure Sents (w : World) (E : Nat → Addr) : Prop where
  var : ∀ i, i < 11 → w.cell? ⟨i, 0, none⟩ = some (.iface 158 (.pointer (some (E i))))
  obj : ∀ i, i < 11 → ∃ c t, w.heap[(E i).block]? = some (.cells c t (0, 0))
  inj : ∀ i j, i < 11 → j < 11 → E i = E j → i = j

/-- error number i of the package. -/
abbrev errV (E : Nat → Addr) (i : Nat) : Value := .iface 158 (.pointer (some (E i)))

theorem is_at {w : World} {E : Nat → Addr} (S : Sents w E) (i j : Nat) (hi : i < 11) (hj : j < 11) :
    Calls Tryd.prog 39 #[errV E i, errV E j] w fun e w' => e = .returned (.bool (decide (i = j))) ∧ w' = w := by
  by_cases h : i = j
  · subst h
    simpa using is_same (E i) w
  · obtain ⟨c, t, hc⟩ := S.obj i hi
    obtain ⟨c', t', hc'⟩ := S.obj j hj
    simpa [h] using is_other (E i) (E j) c c' t t' w (fun e => h (S.inj i j hi hj e)) hc hc'

/-- what 'tell' answers of error i. -/
def code : Nat → Int
  | 0 => 1 | 1 => 9 | 2 => 10 | 3 => 11 | 4 => 12 | 5 => 13 | 6 => 14 | 7 => 15 | 8 => 16 | 9 => 17 | _ => 18

theorem code_at {i k : Nat} {n : Int} (h : i = k) (hc : code k = n) : Ending.returned (.int .i64 n) = .returned (.int .i64 (code i)) := by rw [h, hc]
set_option maxHeartbeats 400000 in
theorem tell_nil (w : World) : Calls Tryd.prog 17 #[.nilIface] w fun e w' => e = .returned (.int .i64 0) ∧ w' = w := by
  go_enter Tryd.func17, Tryd.ntmps17
  go_wp2
  go_ret
  exact ⟨rfl, rfl⟩
set_option maxRecDepth 100000 in
set_option maxHeartbeats 1000000 in
theorem tell_err {w : World} {E : Nat → Addr} (S : Sents w E) (i : Nat) (hi : i < 11) :
    Calls Tryd.prog 17 #[errV E i] w fun e w' => e = .returned (.int .i64 (code i)) ∧ w' = w := by
  have c1 := S.var 1 (by omega)
  have c2 := S.var 2 (by omega)
  have c3 := S.var 3 (by omega)
  have c4 := S.var 4 (by omega)
  have c5 := S.var 5 (by omega)
  have c6 := S.var 6 (by omega)
  have c7 := S.var 7 (by omega)
  have c8 := S.var 8 (by omega)
  have c9 := S.var 9 (by omega)
  have c10 := S.var 10 (by omega)
  go_enter Tryd.func17, Tryd.ntmps17
  have HI : Hid (i < 11) := hi
  clear hi
  go_wp2_with (go_at_call 39; refine (is_at S i _ HI.out (by omega)).mono ?_; rintro e w' ⟨rfl, rfl⟩)
  all_goals
    go_ret
    have HI' := HI.out
    first | (refine ⟨code_at (k := 0) (by omega) rfl, rfl⟩) | (refine ⟨code_at (k := 1) (by omega) rfl, rfl⟩) | (refine ⟨code_at (k := 2) (by omega) rfl, rfl⟩) | (refine ⟨code_at (k := 3) (by omega) rfl, rfl⟩) | (refine ⟨code_at (k := 4) (by omega) rfl, rfl⟩) | (refine ⟨code_at (k := 5) (by omega) rfl, rfl⟩) | (refine ⟨code_at (k := 6) (by omega) rfl, rfl⟩) | (refine ⟨code_at (k := 7) (by omega) rfl, rfl⟩) | (refine ⟨code_at (k := 8) (by omega) rfl, rfl⟩) | (refine ⟨code_at (k := 9) (by omega) rfl, rfl⟩) | (refine ⟨code_at (k := 10) (by omega) rfl, rfl⟩)
end Go.Proofs.YtcpncfngadablaaDoor
