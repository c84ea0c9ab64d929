import Derived.BigQuiet
import Derived.Laws.OwnMore
import Derived.Deep.QuietTactic
import Derived.Deep.RegionWith
import Derived.Test.YtcpncfngadablaaGreatDoorZ01
namespace Go.Proofs.YtcpncfngadablaaGreatDoor
open Go.RowKit Go.Deep

theorem Tryz.info5 : (Tryz.prog.info? 5).map (fun i => (i.zero, i.size, i.bytes)) = some (some (.int .u8 0), 1, 1) := by kernel_rfl
theorem Tryz.size5 : (Tryz.prog.info? 5).map (·.size) = some 1 := by kernel_rfl
theorem Tryz.cells5 : Tryz.prog.cellsOf 5 = 1 := by kernel_rfl

set_option maxHeartbeats 1000000 in
set_option maxRecDepth 100000 in
theorem clone_any (s : ByteArray) (w : World) (hlim : s.size ≤ 281474976710656) :
    Calls Tryz.prog 102 #[.string s] w fun e w' => e = .returned (.string s) ∧ Below w.heap.size w w' := by
  by_cases h0 : s.size = 0
  · have hs : s = ⟨#[]⟩ := by
      apply ByteArray.ext
      exact Array.eq_empty_of_size_eq_zero h0
    subst hs
    go_enter Tryz.func102, Tryz.ntmps102
    go_wp2
    go_ret
    exact ⟨rfl, Below.refl _ _⟩
  · obtain ⟨M, hM⟩ : ∃ M, M = madeCells #[(Value.int .u8 0)] s.size := ⟨_, rfl⟩
    have hMs : M.size = s.size := by rw [hM, size_madeCells]
    have hmk : ∀ W : World, (Instr.makeSlice 31 (.int .i64 (s.size : Int)) (.int .i64 (s.size : Int))).run Tryz.prog W = .ok (.slice (some ⟨W.heap.size, 0, none⟩) s.size s.size) (W.alloc (.cells M 5)) := fun W => by
      have h := run_make_row' (P := Tryz.prog) 31 5 (.int .u8 0) 1 Tryz.underlying31 Tryz.info5 rfl .i64 .i64 s.size (by omega) (by omega) W
      rw [← hM] at h
      exact h
    clear hM
    have hcp := Lib.run_copy_row_string (P := Tryz.prog) (w.alloc (.cells M 5)) 31 9 3 5 w.heap.size 0 s.size s.size s M 5 Tryz.underlying31 Tryz.size5 (heap_alloc_new w _) (Nat.le_refl _) (by omega)
    obtain ⟨Y, hY⟩ : ∃ Y, Y = (M.toList.take 0 ++ Lib.byteCells s.data.toList ++ M.toList.drop (0 + s.size)).toArray := ⟨_, rfl⟩
    rw [← hY] at hcp
    have hYl : Y.toList = Lib.byteCells s.data.toList := by
      rw [hY, List.toList_toArray, List.take_zero, List.nil_append, List.drop_of_length_le (by rw [Array.length_toList]; omega), List.append_nil]
    have hYs : Y.size = s.size := by rw [← Array.length_toList, hYl, Lib.byteCells_length, ← Lib.size_eq]
    have hgY : ((w.alloc (.cells M 5)).setRow w.heap.size Y).heap[w.heap.size]? = some (.cells Y 5 (0, 0)) := setRow_heap _ _ M _ 5 (0, 0) (heap_alloc_new w _)
    have hne : s.data.toList ≠ [] := fun e => h0 (by rw [Lib.size_eq, e]; rfl)
    have hUS := Lib.run_unsafeString_row (P := Tryz.prog) ((w.alloc (.cells M 5)).setRow w.heap.size Y) 161 3 9 5 Tryz.underlying161 Tryz.cells5 w.heap.size Y.size (by unfold World.shape?; rw [hgY]) s.data.toList hne (by rw [← Lib.size_eq]; omega) (by rw [← Lib.size_eq]; omega)
      (fun j x hx => Lib.cells_of_row hgY Y.size j _ (by rw [List.take_of_length_le (by rw [Array.length_toList]; exact Nat.le_refl _), hYl]; simp [Lib.byteCells, hx]))
    rw [← Lib.size_eq] at hUS
    clear hY
    go_enter Tryz.func102, Tryz.ntmps102
    go_wp2
    go_ret
    have hb1 : Below w.heap.size w (w.alloc (.cells M 5)) := (Below.refl _ w).alloc (Nat.le_refl _) _
    have hb2 : Below w.heap.size (w.alloc (.cells M 5)) ((w.alloc (.cells M 5)).setRow w.heap.size Y) := ⟨rfl, rfl, rfl, by simp, fun k hk => setRow_other _ _ _ _ (by omega)⟩
    exact ⟨rfl, Lib.below_freeze (hb1.trans hb2) (p := ⟨w.heap.size, 0, none⟩) (Nat.le_refl _) _⟩

set_option maxHeartbeats 400000 in
theorem ownName_any (s : ByteArray) (w : World) (hlim : s.size ≤ 281474976710656) :
    Calls Tryz.prog 58 #[.string s] w fun e w' => e = .returned (.string s) ∧ Below w.heap.size w w' := by
  go_enter Tryz.func58, Tryz.ntmps58
  go_wp2_with (first | (go_at_call 102; refine (clone_any _ _ hlim).mono ?_; rintro e w' ⟨rfl, hb⟩) | (go_at_call 87; go_in))
  go_ret
  exact ⟨rfl, hb⟩

/-- the first k bytes, then zeros. -/
def cutB (k : Nat) (bl : List UInt8) : List UInt8 := bl.take k ++ List.replicate (bl.length - k) 0
theorem cutB_length (k : Nat) (bl : List UInt8) : (cutB k bl).length = bl.length := by simp [cutB]; omega
theorem cutB_whole {k : Nat} {bl : List UInt8} (h : bl.length ≤ k) : cutB k bl = bl := by
  unfold cutB
  rw [List.take_of_length_le h, Nat.sub_eq_zero_of_le h]
  simp

theorem made_zeros (n m : Nat) : (madeCells #[(Value.int .u8 0)] n).toList.drop m = Lib.byteCells (List.replicate (n - m) 0) := by
  rw [toList_madeCells_one]
  simp [Lib.byteCells]

theorem byteCells_one' (bl : List UInt8) : ∀ v ∈ Lib.byteCells bl, v.oneCell' = true := Lib.byteCells_one bl

/-- what a copied row holds. -/
theorem copied (m : Nat) (bl : List UInt8) (hm : m ≤ bl.length) :
    ((madeCells #[(Value.int .u8 0)] bl.length).toList.take 0 ++ Lib.byteCells (bl.take m) ++ (madeCells #[(Value.int .u8 0)] bl.length).toList.drop (0 + (Lib.byteCells (bl.take m)).length)).toArray = (Lib.byteCells (cutB m bl)).toArray := by
  have h : (Lib.byteCells (bl.take m)).length = m := by simp [Lib.byteCells_length]; omega
  rw [h, made_zeros, List.take_zero, List.nil_append, Nat.zero_add, ← Lib.byteCells_append]
  rfl

set_option maxRecDepth 100000 in
set_option maxHeartbeats 400000 in
theorem copyBlock_any (bl : List UInt8) (a : Addr) (c : Nat) (k : Int) (w : World) (hn : 0 < bl.length) (hc : bl.length ≤ c) (hbig : bl.length ≤ 1099511627776) (hk : 0 ≤ k)
    (hsrc : ∀ j v, (Lib.byteCells bl)[j]? = some v → w.cell? (a.add j) = some v) (ha : a.block < w.heap.size) :
    Calls Tryz.prog 71 #[.slice (some a) bl.length c, .int .i64 k] w fun e w' => e = .returned (sliceV w.heap.size bl.length) ∧ BytesAt w' w.heap.size (cutB k.toNat bl) ∧ Touch [] w w' ∧ w'.heap.size = w.heap.size + 1 := by
  obtain ⟨m, hm⟩ : ∃ m, m = min k.toNat bl.length := ⟨_, rfl⟩
  have hml : m ≤ bl.length := by omega
  have hcut : Hid (cutB k.toNat bl = cutB m bl) := by
    show _ = _
    by_cases h : k.toNat ≤ bl.length
    · rw [show m = k.toNat by omega]
    · rw [cutB_whole (by omega), cutB_whole (by omega)]
  have hmk : ∀ W : World, (Instr.makeSlice 31 (.int .i64 (bl.length : Int)) (.int .i64 (bl.length : Int))).run Tryz.prog W = .ok (.slice (some ⟨W.heap.size, 0, none⟩) bl.length bl.length) (W.alloc (.cells (madeCells #[.int .u8 0] bl.length) 5)) := fun W =>
    run_make_row' (P := Tryz.prog) 31 5 (.int .u8 0) 1 Tryz.underlying31 Tryz.info5 rfl .i64 .i64 bl.length (by omega) (by omega) W
  have hcl : (Lib.byteCells (bl.take m)).length = m := by simp [Lib.byteCells_length]; omega
  have hcp := run_copy_row (P := Tryz.prog) (w.alloc (.cells (madeCells #[.int .u8 0] bl.length) 5)) 31 31 3 5 w.heap.size 0 bl.length bl.length a m c (madeCells #[.int .u8 0] bl.length) 5 (Lib.byteCells (bl.take m)) Tryz.underlying31 Tryz.size5 (heap_alloc_new w _) (by rw [hcl]; exact (Nat.min_eq_left hml).symm)
    (fun j v hj => by
      have h1 : (Lib.byteCells bl)[j]? = some v := by
        simp only [Lib.byteCells, List.getElem?_map, List.getElem?_take] at hj ⊢
        split at hj
        · exact hj
        · simp at hj
      have h2 := hsrc j v h1
      have hadd : (a.add j).block = a.block := by unfold Addr.add; split <;> rfl
      rw [← h2]
      exact World.cell?_of_block (by rw [hadd]; exact Below.heap_alloc w _ _ ha))
    (by rw [hcl, size_madeCells]; omega) (byteCells_one' _)
  rw [copied m bl hml, hcl] at hcp
  have HM : Hid (m = min k.toNat bl.length) := hm
  clear hm hsrc hcl
  generalize hR : madeCells #[Value.int .u8 0] bl.length = R at *
  clear hR
  clear hbig
  by_cases hle : k ≤ (bl.length : Int)
  · have hmm : k = (m : Int) := by have := HM.out; omega
    subst hmm
    clear HM hk hle
    have hmin : min (m : Int) (bl.length : Int) = (m : Int) := by omega
    go_enter Tryz.func71, Tryz.ntmps71
    go_wp2
    go_ret
    refine ⟨rfl, ?_, ?_, by simp⟩
    · rw [hcut.out]
      exact setRow_heap _ _ R _ 5 (0, 0) (heap_alloc_new w _)
    · exact ⟨rfl, rfl, rfl, by simp, fun b hb _ => (setRow_other _ _ _ _ (by omega)).trans (Below.heap_alloc w _ b hb)⟩
  · have hmm : m = bl.length := by have := HM.out; omega
    subst hmm
    clear HM hk hml
    have hmin : min k (bl.length : Int) = (bl.length : Int) := by omega
    go_enter Tryz.func71, Tryz.ntmps71
    go_wp2
    go_ret
    refine ⟨rfl, ?_, ?_, by simp⟩
    · rw [hcut.out]
      exact setRow_heap _ _ R _ 5 (0, 0) (heap_alloc_new w _)
    · exact ⟨rfl, rfl, rfl, by simp, fun b hb _ => (setRow_other _ _ _ _ (by omega)).trans (Below.heap_alloc w _ b hb)⟩

/-! ### the files by name -/
/-- the bytes of a name. -/
abbrev nm (s : ByteArray) : List UInt8 := s.data.toList
/-- the file of a name. -/
def findE (l : List Ent) (k : List UInt8) : Option Ent := l.find? fun e => decide (e.name = k)

theorem find_map (l : List Ent) (k : List UInt8) : (l.map Ent.key).find? (fun p => p.1.sameKey (.string k)) = (findE l k).map Ent.key := by
  rw [List.find?_map]
  unfold findE
  congr 1
  congr 1
  funext e
  simp only [Function.comp, Ent.key, Lit.sameKey]
  by_cases h : e.name = k
  · simp [h]
  · simp [h]

theorem at_map (l : List Ent) (k : List UInt8) (z : DataW Unit) : (mapOf l).atKey (.string k) z = match findE l k with | some e => .lit (.int .i64 e.lay.fb) | none => z := by
  unfold mapOf DataW.atKey
  simp only [find_map]
  cases findE l k <;> rfl
theorem has_map (l : List Ent) (k : List UInt8) : Maps.has (mapOf l) (.string k) = (findE l k).isSome := by
  unfold mapOf
  rw [Maps.has_eq]
  have h := find_map l k
  cases hf : findE l k with
  | none =>
    rw [hf, Option.map_none, List.find?_eq_none] at h
    simpa using h
  | some e =>
    rw [hf, Option.map_some] at h
    have h1 := List.find?_some h
    have h2 := List.mem_of_find?_eq_some h
    simp only [Option.isSome_some, List.any_eq_true]
    exact ⟨_, h2, h1⟩

theorem ptrElem_inv {v : Value} {b : Nat} {ps : List MemPlace} (h : ptrElem v = some (.lit (.int .i64 b), ps)) : v = .pointer (some ⟨b, 0, none⟩) := by
  unfold ptrElem at h
  split at h
  · simp at h
    rw [Int.ofNat_inj.1 h.1]
  · simp at h
  · simp at h
theorem ptrElem_nil {v : Value} {ps : List MemPlace} (h : ptrElem v = some (.nil, ps)) : v = .pointer none := by
  unfold ptrElem at h
  split at h
  · simp at h
  · rfl
  · simp at h

theorem Tryz.zero92 (w : World) : (zeroValue 92).run Tryz.prog w = .ok (.pointer none) w := by kernel_rfl

theorem Rep.look {w : World} {lo p mf mt : Nat} {D : DiskC} (h : Rep w lo p mf mt D) (s : ByteArray) (hs : s.size ≤ 32) :
    (Instr.lookup 88 (.map (some mf)) (.string s) true).run Tryz.prog w = .ok (.tuple #[.pointer ((findE D.ents (nm s)).map fun e => ⟨e.lay.fb, 0, none⟩), .bool (findE D.ents (nm s)).isSome]) w := by
  obtain ⟨v, ps, hrun, hv⟩ := h.files.look_ok (t := 88) (e := 92) (Maps.string_keyed Tryz.underlying9) Tryz.underlying88 (Tryz.zero92 w) (zd := .nil) (zp := []) rfl (WideMaps.keyOf_string_mk Tryz.underlying9 (s := s) (by unfold maxLen; omega))
  rw [has_map] at hrun
  rw [at_map] at hv
  rw [hrun]
  cases hf : findE D.ents (nm s) with
  | none => rw [hf] at hv; rw [ptrElem_nil hv]; rfl
  | some e => rw [hf] at hv; rw [ptrElem_inv hv]; rfl
end Go.Proofs.YtcpncfngadablaaGreatDoor
namespace Go.Proofs.YtcpncfngadablaaGreatDoor
open Go.RowKit Go.Deep

/-- the pointer to a disk. -/
abbrev ptr (p : Nat) : Value := .pointer (some ⟨p, 0, none⟩)

theorem hid {q : Prop} (h : q) : Hid q := h
theorem name_size {s : ByteArray} (h : nameB s = true) : s.size ≤ 32 := by
  unfold nameB at h
  simp at h
  omega

section
variable {w : World} {E : Nat → Addr} {lo p mf mt : Nat} {D : DiskC}

theorem Rep.cell (h : Rep w lo p mf mt D) (i : Nat) : w.cell? ⟨p, i, none⟩ = (dRow D mf mt)[i]? := cell_row h.row i
theorem Rep.unfrozen (h : Rep w lo p mf mt D) (i : Nat) : w.frozen? ⟨p, i, none⟩ = false := unfrozen_row h.row i

set_option maxHeartbeats 400000 in
theorem look_bad (S : Sents w E) (s : ByteArray) (hn : nameB s = false) :
    Calls Tryz.prog 92 #[ptr p, .string s] w fun e w' => e = .returned (.tuple #[.pointer none, errV E 3]) ∧ ∃ n, w' = w.drewN n := by
  have c3 := S.var 3 (by omega)
  go_enter Tryz.func92, Tryz.ntmps92
  go_wp2_with (go_at_call 101; refine (isName_any _ _).mono ?_; rintro e w' ⟨rfl, rfl⟩)
  go_quiet (fail)
  go_wp2
  go_ret2
  exact ⟨rfl, _, rfl⟩

set_option maxHeartbeats 400000 in
theorem look_none (S : Sents w E) (R : Rep w lo p mf mt D) (s : ByteArray) (hn : nameB s = true) (hf : findE D.ents (nm s) = none) :
    Calls Tryz.prog 92 #[ptr p, .string s] w fun e w' => e = .returned (.tuple #[.pointer none, errV E 4]) ∧ ∃ n, w' = w.drewN n := by
  have c4 := S.var 4 (by omega)
  have k3 := R.cell 3
  have hl := R.look s (name_size hn)
  rw [hf] at hl
  simp only [dRow, Option.map_none, Option.isSome_none] at k3 hl
  clear hf
  go_enter Tryz.func92, Tryz.ntmps92
  go_wp2_with (go_at_call 101; refine (isName_any _ _).mono ?_; rintro e w' ⟨rfl, rfl⟩)
  go_quiet (fail)
  go_wp2
  go_ret2
  exact ⟨rfl, _, rfl⟩

set_option maxHeartbeats 400000 in
theorem look_some (R : Rep w lo p mf mt D) (s : ByteArray) (hn : nameB s = true) {e0 : Ent} (hf : findE D.ents (nm s) = some e0) :
    Calls Tryz.prog 92 #[ptr p, .string s] w fun e w' => e = .returned (.tuple #[ptr e0.lay.fb, .nilIface]) ∧ ∃ n, w' = w.drewN n := by
  have k3 := R.cell 3
  have hl := R.look s (name_size hn)
  rw [hf] at hl
  simp only [dRow, Option.map_some, Option.isSome_some] at k3 hl
  clear hf
  go_enter Tryz.func92, Tryz.ntmps92
  go_wp2_with (go_at_call 101; refine (isName_any _ _).mono ?_; rintro e w' ⟨rfl, rfl⟩)
  go_ret2
  exact ⟨rfl, 0, rfl⟩


set_option maxHeartbeats 400000 in
theorem find_bad (S : Sents w E) (R : Rep w lo p mf mt D) (s : ByteArray) (ho : D.on = true) (hn : nameB s = false) :
    Calls Tryz.prog 65 #[ptr p, .string s] w fun e w' => e = .returned (.tuple #[.pointer none, errV E 3]) ∧ ∃ n, w' = w.drewN n := by
  have k2 := R.cell 2
  simp only [dRow, ho] at k2
  go_enter Tryz.func65, Tryz.ntmps65
  go_wp2_with (go_at_call 92; refine (look_bad S s hn).mono ?_; rintro e w' ⟨rfl, n, rfl⟩)
  go_ret2
  exact ⟨rfl, _, rfl⟩

set_option maxHeartbeats 400000 in
theorem find_none (S : Sents w E) (R : Rep w lo p mf mt D) (s : ByteArray) (ho : D.on = true) (hn : nameB s = true) (hf : findE D.ents (nm s) = none) :
    Calls Tryz.prog 65 #[ptr p, .string s] w fun e w' => e = .returned (.tuple #[.pointer none, errV E 4]) ∧ ∃ n, w' = w.drewN n := by
  have k2 := R.cell 2
  simp only [dRow, ho] at k2
  have H := hid (look_none S R s hn hf)
  clear hf
  go_enter Tryz.func65, Tryz.ntmps65
  go_wp2_with (go_at_call 92; refine H.out.mono ?_; rintro e w' ⟨rfl, n, rfl⟩)
  go_ret2
  exact ⟨rfl, _, rfl⟩

set_option maxHeartbeats 400000 in
theorem find_some (R : Rep w lo p mf mt D) (s : ByteArray) (ho : D.on = true) (hn : nameB s = true) {e0 : Ent} (hf : findE D.ents (nm s) = some e0) :
    Calls Tryz.prog 65 #[ptr p, .string s] w fun e w' => e = .returned (.tuple #[ptr e0.lay.fb, .nilIface]) ∧ ∃ n, w' = w.drewN n := by
  have k2 := R.cell 2
  simp only [dRow, ho] at k2
  have H := hid (look_some R s hn hf)
  clear hf
  go_enter Tryz.func65, Tryz.ntmps65
  go_wp2_with (go_at_call 92; refine H.out.mono ?_; rintro e w' ⟨rfl, n, rfl⟩)
  go_ret2
  exact ⟨rfl, _, rfl⟩
end
end Go.Proofs.YtcpncfngadablaaGreatDoor
namespace Go.Proofs.YtcpncfngadablaaGreatDoor
open Go.RowKit Go.Deep

section
variable {w : World} {E : Nat → Addr} {lo p mf mt : Nat} {D : DiskC}

/-- What befalls call n, by the map of troubles. -/
def TroubleIs (T : DataW Unit) (n a k b : Int) : Prop := T.atKey (.int .i64 n) (.agg [.lit (.int .i64 0), .lit (.int .i64 0), .lit (.int .i64 0)]) = .agg [.lit (.int .i64 a), .lit (.int .i64 k), .lit (.int .i64 b)]

theorem trElem_inv {v : Value} {a k b : Int} {ps : List MemPlace} (h : trElem v = some (.agg [.lit (.int .i64 a), .lit (.int .i64 k), .lit (.int .i64 b)], ps)) : v = .agg #[.int .i64 a, .int .i64 k, .int .i64 b] := by
  unfold trElem at h
  split at h
  · rename_i cs
    split at h
    · rename_i a' k' b' hl
      simp at h
      obtain ⟨⟨rfl, rfl, rfl⟩, _⟩ := h
      have : cs = #[.int .i64 a', .int .i64 k', .int .i64 b'] := Array.toList_inj.1 hl
      rw [this]
    · simp at h
  · simp at h
theorem Tryz.zero65 (w : World) : (zeroValue 65).run Tryz.prog w = .ok (.agg #[.int .i64 0, .int .i64 0, .int .i64 0]) w := by kernel_rfl

theorem i64_wf {n : Int} (h : 0 ≤ n) (h2 : n ≤ 4611686018427387904) : (Lit.int .i64 n).wf = true := by
  have e1 : IntKind.min .i64 = -9223372036854775808 := by decide
  have e2 : IntKind.max .i64 = 9223372036854775807 := by decide
  simp only [Lit.wf, e1, e2, Bool.and_eq_true, decide_eq_true_eq]
  omega

theorem trouble_look {n : Nat} {T : DataW Unit} {at_ a k b : Int} (hT : w.ownsMap Tryz.prog 3 trElem mt n T) (h : TroubleIs T at_ a k b) (h0 : 0 ≤ at_) (h1 : at_ ≤ 4611686018427387904) :
    (Instr.lookup 89 (.map (some mt)) (.int .i64 at_) false).run Tryz.prog w = .ok (.agg #[.int .i64 a, .int .i64 k, .int .i64 b]) w := by
  obtain ⟨v, ps, hrun, hv⟩ := hT.lookup (t := 89) (e := 65) (Maps.int_keyed Tryz.underlying3) Tryz.underlying89 (Tryz.zero65 w) (zd := .agg [.lit (.int .i64 0), .lit (.int .i64 0), .lit (.int .i64 0)]) (zp := []) rfl (Maps.keyOf_int_mk Tryz.underlying3 (i64_wf h0 h1))
  unfold TroubleIs at h
  rw [h] at hv
  rw [hrun, trElem_inv hv]


/-- one more alloc: the new block holds it. -/
theorem heap_two (w : World) (o1 o2 : Obj) : ((w.alloc o1).alloc o2).heap[w.heap.size]? = some o1 ∧ ((w.alloc o1).alloc o2).heap[w.heap.size + 1]? = some o2 := by
  refine ⟨?_, ?_⟩
  · rw [Below.heap_alloc _ _ _ (by simp)]; exact heap_alloc_new w o1
  · have := heap_alloc_new (w.alloc o1) o2
    simpa using this

set_option maxRecDepth 100000 in
set_option maxHeartbeats 400000 in
theorem number_any (R : Rep w lo p mf mt D) {a k b : Int} (h : TroubleIs D.T D.c.calls a k b) (h0 : 0 ≤ D.c.calls) (h1 : D.c.calls ≤ 1099511627776) :
    Calls Tryz.prog 68 #[ptr p] w fun e w' => e = .returned (.agg #[.int .i64 a, .int .i64 k, .int .i64 b]) ∧ Rep w' lo p mf mt { D with T := D.T.del (.int .i64 D.c.calls), c := { D.c with calls := D.c.calls + 1 } } ∧ Touch [p, mt] w w' := by
  have k4 := R.cell 4
  have k5 := R.cell 5
  simp only [dRow] at k4 k5
  have f5 := R.unfrozen 5
  have hp := lt_of_block R.row
  obtain ⟨n, hT⟩ := R.troubles
  have hmt := hT.lt
  have hne : p ≠ mt ∧ p ≠ mf ∧ mf ≠ mt := by
    have := R.apart
    simp [DiskC.foot] at this
    exact ⟨this.1.2.1, this.1.1, this.2.1.1⟩
  obtain ⟨W0, hW0⟩ : ∃ W0, W0 = w.setCell ⟨p, 5, none⟩ (.int .i64 (D.c.calls + 1)) := ⟨_, rfl⟩
  have hT0 : W0.ownsMap Tryz.prog 3 trElem mt n D.T := by rw [hW0]; exact hT.setCell (by simpa using hne.1.symm) _
  have hz0 : W0.heap.size = w.heap.size := by rw [hW0]; simp [World.setCell]
  have hl := trouble_look (hT0.alloc (.cells #[.int .i64 0, .int .i64 0, .int .i64 0] 65)) h h0 (by omega)
  obtain ⟨w3, hdel, hT3, hturn⟩ := ((hT0.alloc (.cells #[.int .i64 0, .int .i64 0, .int .i64 0] 65)).alloc (.cells #[.int .i64 a, .int .i64 k, .int .i64 b] 65)).drop (t := 89) (e := 65) (Maps.int_keyed Tryz.underlying3) Tryz.underlying89 (Maps.keyOf_int_mk Tryz.underlying3 (i64_wf h0 (by omega))) 0
  have hg := hturn.grown
  have hb := heap_two W0 (.cells #[.int .i64 0, .int .i64 0, .int .i64 0] 65) (.cells #[.int .i64 a, .int .i64 k, .int .i64 b] 65)
  have q2 : w3.heap[w.heap.size]? = some (.cells #[.int .i64 0, .int .i64 0, .int .i64 0] 65) := by
    rw [hg.block _ (by simp; omega) (by simp; omega), ← hz0]
    exact hb.1
  have q4 : w3.heap[w.heap.size + 1]? = some (.cells #[.int .i64 a, .int .i64 k, .int .i64 b] 65) := by
    rw [hg.block _ (by simp; omega) (by simp; omega), ← hz0]
    exact hb.2
  have d0 := cell_row q4 0
  have d1 := cell_row q4 1
  have d2 := cell_row q4 2
  have e0 := unfrozen_row q2 0
  have e1 := unfrozen_row q2 1
  have e2 := unfrozen_row q2 2
  have q20 := cell_row q2 0
  have q21 := cell_row q2 1
  have q22 := cell_row q2 2
  simp at d0 d1 d2 q20 q21 q22
  have HQ2 := hid q2
  have HQ4 := hid q4
  have HZ := hid hz0
  clear hb q2 q4 hz0 h
  subst hW0
  go_enter Tryz.func68, Tryz.ntmps68
  go_wp2
  refine bodyPost_ret (v := .agg #[.int .i64 a, .int .i64 k, .int .i64 b]) (by simp [results, Tryz.results68, go_sem, q20, q21, q22]) rfl ⟨rfl, ?_⟩
  have ht : Touch [p, mt] w (((w3.setCell ⟨w.heap.size, 0, none⟩ (.int .i64 a)).setCell ⟨w.heap.size, 1, none⟩ (.int .i64 k)).setCell ⟨w.heap.size, 2, none⟩ (.int .i64 b)) :=
    ((((((Touch.refl [p, mt] w).setCell (p := ⟨p, 5, none⟩) (by simp) _).alloc _).alloc _).grown hg (by simp)).setCell (by simp) _).setCell (by simp) _ |>.setCell (by simp) _
  have hpz : p ≠ w.heap.size := by omega
  refine ⟨R.reset rfl rfl ?_ ⟨n, ?_⟩ ht, ht⟩
  · rw [Below.heap_setCell _ _ _ _ hpz, Below.heap_setCell _ _ _ _ hpz, Below.heap_setCell _ _ _ _ hpz, hg.block p (by simp; omega) (by simp [hne.1]), Below.heap_alloc _ _ _ (by simp; omega), Below.heap_alloc _ _ _ (by simp [World.setCell]; omega), heap_setCell_row R.row 5]
    rfl
  · have hmz : mt ≠ w.heap.size := by omega
    exact ((hT3.setCell (by simpa using hmz) _).setCell (by simpa using hmz) _).setCell (by simpa using hmz) _
end
end Go.Proofs.YtcpncfngadablaaGreatDoor
namespace Go.Proofs.YtcpncfngadablaaGreatDoor
open Go.RowKit Go.Deep

section
variable {w : World} {E : Nat → Addr} {lo p mf mt : Nat} {D : DiskC}

theorem Rep.p_ne (R : Rep w lo p mf mt D) : p ≠ mt ∧ p ≠ mf ∧ mf ≠ mt := by
  have := R.apart
  simp [DiskC.foot] at this
  exact ⟨this.1.2.1, this.1.1, this.2.1.1⟩

/-- a number of the row has been set. -/
theorem Rep.setRow (R : Rep w lo p mf mt D) {w' : World} {D' : DiskC} (hB : D'.B = D.B) (he : D'.ents = D.ents) (hT : D'.T = D.T) (ht : Touch [p] w w') (hrow : w'.heap[p]? = some (.cells (dRow D' mf mt) 91 (0, 0))) : Rep w' lo p mf mt D' := by
  obtain ⟨n, h⟩ := R.troubles
  refine R.reset hB he hrow ⟨n, ?_⟩ (ht.mono (by simp))
  rw [hT]
  exact ownsMap_kept h (ht.block mt h.lt (by simp [R.p_ne.1.symm]))

set_option maxRecDepth 100000 in
set_option maxHeartbeats 400000 in
theorem use_any (R : Rep w lo p mf mt D) (n : Int) (h0 : 0 ≤ D.c.used) (h1 : D.c.used ≤ 1099511627776) (h2 : -1099511627776 ≤ n) (h3 : n ≤ 1099511627776) :
    Calls Tryz.prog 59 #[ptr p, .int .i64 n] w fun e w' => e = .returned (.tuple #[]) ∧ Rep w' lo p mf mt { D with c := { D.c with used := D.c.used + n, most := max D.c.most (D.c.used + n) } } ∧ Touch [p] w w' := by
  have k10 := R.cell 10
  have k11 := R.cell 11
  simp only [dRow] at k10 k11
  have f10 := R.unfrozen 10
  have f11 := R.unfrozen 11
  have hp := lt_of_block R.row
  go_enter Tryz.func59, Tryz.ntmps59
  go_wp2
  go_region
  go_wp2
  go_end0
  have ht : Touch [p] w ((w.setCell ⟨p, 10, none⟩ (.int .i64 (D.c.used + n))).setCell ⟨p, 11, none⟩ (.int .i64 (max D.c.most (D.c.used + n)))).drew :=
    (((Touch.refl [p] w).setCell (by simp) _).setCell (by simp) _).drew
  refine ⟨rfl, R.setRow rfl rfl rfl ht ?_, ht⟩
  show ((w.setCell _ _).setCell _ _).heap[p]? = _
  rw [heap_setCell_row (heap_setCell_row R.row 10 _) 11]
  rfl
end
end Go.Proofs.YtcpncfngadablaaGreatDoor
