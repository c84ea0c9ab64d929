import Derived.Test.YtcpncfngadablaaDoorA2
import Derived.BigQuiet
import Derived.Laws.OwnMore
import Derived.Deep.QuietTactic
namespace Go.Proofs.YtcpncfngadablaaDoor
open Go.RowKit Go.Deep

theorem Tryd.info5 : (Tryd.prog.info? 5).map (fun i => (i.zero, i.size, i.bytes)) = some (some (.int .u8 0), 1, 1) := by kernel_rfl
theorem Tryd.size5 : (Tryd.prog.info? 5).map (·.size) = some 1 := by kernel_rfl
theorem Tryd.cells5 : Tryd.prog.cellsOf 5 = 1 := by kernel_rfl

set_option maxHeartbeats 1000000 in
set_option maxRecDepth 100000 in
theorem clone_any (s : ByteArray) (w : World) (hlim : s.size ≤ 281474976710656) :
    Calls Tryd.prog 70 #[.string s] w fun e w' => e = .returned (.string s) ∧ Below w.heap.size w w' := by
  by_cases h0 : s.size = 0
  · have hs : s = ⟨#[]⟩ := by
      apply ByteArray.ext
      exact Array.eq_empty_of_size_eq_zero h0
    subst hs
    go_enter Tryd.func70, Tryd.ntmps70
    go_wp2
    go_ret
    exact ⟨rfl, Below.refl _ _⟩
  · obtain ⟨M, hM⟩ : ∃ M, M = madeCells #[(Value.int .u8 0)] s.size := ⟨_, rfl⟩
    have hMs : M.size = s.size := by rw [hM, size_madeCells]
    have hmk : ∀ W : World, (Instr.makeSlice 31 (.int .i64 (s.size : Int)) (.int .i64 (s.size : Int))).run Tryd.prog W = .ok (.slice (some ⟨W.heap.size, 0, none⟩) s.size s.size) (W.alloc (.cells M 5)) := fun W => by
      have h := run_make_row' (P := Tryd.prog) 31 5 (.int .u8 0) 1 Tryd.underlying31 Tryd.info5 rfl .i64 .i64 s.size (by omega) (by omega) W
      rw [← hM] at h
      exact h
    clear hM
    have hcp := Lib.run_copy_row_string (P := Tryd.prog) (w.alloc (.cells M 5)) 31 9 3 5 w.heap.size 0 s.size s.size s M 5 Tryd.underlying31 Tryd.size5 (heap_alloc_new w _) (Nat.le_refl _) (by omega)
    obtain ⟨Y, hY⟩ : ∃ Y, Y = (M.toList.take 0 ++ Lib.byteCells s.data.toList ++ M.toList.drop (0 + s.size)).toArray := ⟨_, rfl⟩
    rw [← hY] at hcp
    have hYl : Y.toList = Lib.byteCells s.data.toList := by
      rw [hY, List.toList_toArray, List.take_zero, List.nil_append, List.drop_of_length_le (by rw [Array.length_toList]; omega), List.append_nil]
    have hYs : Y.size = s.size := by rw [← Array.length_toList, hYl, Lib.byteCells_length, ← Lib.size_eq]
    have hgY : ((w.alloc (.cells M 5)).setRow w.heap.size Y).heap[w.heap.size]? = some (.cells Y 5 (0, 0)) := setRow_heap _ _ M _ 5 (0, 0) (heap_alloc_new w _)
    have hne : s.data.toList ≠ [] := fun e => h0 (by rw [Lib.size_eq, e]; rfl)
    have hUS := Lib.run_unsafeString_row (P := Tryd.prog) ((w.alloc (.cells M 5)).setRow w.heap.size Y) 135 3 9 5 Tryd.underlying135 Tryd.cells5 w.heap.size Y.size (by unfold World.shape?; rw [hgY]) s.data.toList hne (by rw [← Lib.size_eq]; omega) (by rw [← Lib.size_eq]; omega)
      (fun j x hx => Lib.cells_of_row hgY Y.size j _ (by rw [List.take_of_length_le (by rw [Array.length_toList]; exact Nat.le_refl _), hYl]; simp [Lib.byteCells, hx]))
    rw [← Lib.size_eq] at hUS
    clear hY
    go_enter Tryd.func70, Tryd.ntmps70
    go_wp2
    go_ret
    have hb1 : Below w.heap.size w (w.alloc (.cells M 5)) := (Below.refl _ w).alloc (Nat.le_refl _) _
    have hb2 : Below w.heap.size (w.alloc (.cells M 5)) ((w.alloc (.cells M 5)).setRow w.heap.size Y) := ⟨rfl, rfl, rfl, by simp, fun k hk => setRow_other _ _ _ _ (by omega)⟩
    exact ⟨rfl, Lib.below_freeze (hb1.trans hb2) (p := ⟨w.heap.size, 0, none⟩) (Nat.le_refl _) _⟩

set_option maxHeartbeats 400000 in
theorem ownName_any (s : ByteArray) (w : World) (hlim : s.size ≤ 281474976710656) :
    Calls Tryd.prog 33 #[.string s] w fun e w' => e = .returned (.string s) ∧ Below w.heap.size w w' := by
  go_enter Tryd.func33, Tryd.ntmps33
  go_wp2_with (first | (go_at_call 70; refine (clone_any _ _ hlim).mono ?_; rintro e w' ⟨rfl, hb⟩) | (go_at_call 53; go_in))
  go_ret
  exact ⟨rfl, hb⟩

/-- the first k bytes, then zeros. -/
def cutB (k : Nat) (bl : List UInt8) : List UInt8 := bl.take k ++ List.replicate (bl.length - k) 0
theorem cutB_length (k : Nat) (bl : List UInt8) : (cutB k bl).length = bl.length := by simp [cutB]; omega
theorem cutB_whole {k : Nat} {bl : List UInt8} (h : bl.length ≤ k) : cutB k bl = bl := by
  unfold cutB
  rw [List.take_of_length_le h, Nat.sub_eq_zero_of_le h]
  simp

theorem made_zeros (n m : Nat) : (madeCells #[(Value.int .u8 0)] n).toList.drop m = Lib.byteCells (List.replicate (n - m) 0) := by
  rw [toList_madeCells_one]
  simp [Lib.byteCells]

theorem byteCells_one' (bl : List UInt8) : ∀ v ∈ Lib.byteCells bl, v.oneCell' = true := Lib.byteCells_one bl

/-- what a copied row holds. -/
theorem copied (m : Nat) (bl : List UInt8) (hm : m ≤ bl.length) :
    ((madeCells #[(Value.int .u8 0)] bl.length).toList.take 0 ++ Lib.byteCells (bl.take m) ++ (madeCells #[(Value.int .u8 0)] bl.length).toList.drop (0 + (Lib.byteCells (bl.take m)).length)).toArray = (Lib.byteCells (cutB m bl)).toArray := by
  have h : (Lib.byteCells (bl.take m)).length = m := by simp [Lib.byteCells_length]; omega
  rw [h, made_zeros, List.take_zero, List.nil_append, Nat.zero_add, ← Lib.byteCells_append]
  rfl

set_option maxRecDepth 100000 in
set_option maxHeartbeats 400000 in
theorem copyBlock_any (bl : List UInt8) (a : Addr) (c : Nat) (k : Int) (w : World) (hn : 0 < bl.length) (hc : bl.length ≤ c) (hbig : bl.length ≤ 1099511627776) (hk : 0 ≤ k)
    (hsrc : ∀ j v, (Lib.byteCells bl)[j]? = some v → w.cell? (a.add j) = some v) (ha : a.block < w.heap.size) :
    Calls Tryd.prog 60 #[.slice (some a) bl.length c, .int .i64 k] w fun e w' => e = .returned (sliceV w.heap.size bl.length) ∧ BytesAt w' w.heap.size (cutB k.toNat bl) ∧ Touch [] w w' ∧ w'.heap.size = w.heap.size + 1 := by
  obtain ⟨m, hm⟩ : ∃ m, m = min k.toNat bl.length := ⟨_, rfl⟩
  have hml : m ≤ bl.length := by omega
  have hcut : Hid (cutB k.toNat bl = cutB m bl) := by
    show _ = _
    by_cases h : k.toNat ≤ bl.length
    · rw [show m = k.toNat by omega]
    · rw [cutB_whole (by omega), cutB_whole (by omega)]
  have hmk : ∀ W : World, (Instr.makeSlice 31 (.int .i64 (bl.length : Int)) (.int .i64 (bl.length : Int))).run Tryd.prog W = .ok (.slice (some ⟨W.heap.size, 0, none⟩) bl.length bl.length) (W.alloc (.cells (madeCells #[.int .u8 0] bl.length) 5)) := fun W =>
    run_make_row' (P := Tryd.prog) 31 5 (.int .u8 0) 1 Tryd.underlying31 Tryd.info5 rfl .i64 .i64 bl.length (by omega) (by omega) W
  have hcl : (Lib.byteCells (bl.take m)).length = m := by simp [Lib.byteCells_length]; omega
  have hcp := run_copy_row (P := Tryd.prog) (w.alloc (.cells (madeCells #[.int .u8 0] bl.length) 5)) 31 31 3 5 w.heap.size 0 bl.length bl.length a m c (madeCells #[.int .u8 0] bl.length) 5 (Lib.byteCells (bl.take m)) Tryd.underlying31 Tryd.size5 (heap_alloc_new w _) (by rw [hcl]; exact (Nat.min_eq_left hml).symm)
    (fun j v hj => by
      have h1 : (Lib.byteCells bl)[j]? = some v := by
        simp only [Lib.byteCells, List.getElem?_map, List.getElem?_take] at hj ⊢
        split at hj
        · exact hj
        · simp at hj
      have h2 := hsrc j v h1
      have hadd : (a.add j).block = a.block := by unfold Addr.add; split <;> rfl
      rw [← h2]
      exact World.cell?_of_block (by rw [hadd]; exact Below.heap_alloc w _ _ ha))
    (by rw [hcl, size_madeCells]; omega) (byteCells_one' _)
  rw [copied m bl hml, hcl] at hcp
  have HM : Hid (m = min k.toNat bl.length) := hm
  clear hm hsrc hcl
  generalize hR : madeCells #[Value.int .u8 0] bl.length = R at *
  clear hR
  clear hbig
  by_cases hle : k ≤ (bl.length : Int)
  · have hmm : k = (m : Int) := by have := HM.out; omega
    subst hmm
    clear HM hk hle
    have hmin : min (m : Int) (bl.length : Int) = (m : Int) := by omega
    go_enter Tryd.func60, Tryd.ntmps60
    go_wp2
    go_ret
    refine ⟨rfl, ?_, ?_, by simp⟩
    · rw [hcut.out]
      exact setRow_heap _ _ R _ 5 (0, 0) (heap_alloc_new w _)
    · exact ⟨rfl, rfl, rfl, by simp, fun b hb _ => (setRow_other _ _ _ _ (by omega)).trans (Below.heap_alloc w _ b hb)⟩
  · have hmm : m = bl.length := by have := HM.out; omega
    subst hmm
    clear HM hk hml
    have hmin : min k (bl.length : Int) = (bl.length : Int) := by omega
    go_enter Tryd.func60, Tryd.ntmps60
    go_wp2
    go_ret
    refine ⟨rfl, ?_, ?_, by simp⟩
    · rw [hcut.out]
      exact setRow_heap _ _ R _ 5 (0, 0) (heap_alloc_new w _)
    · exact ⟨rfl, rfl, rfl, by simp, fun b hb _ => (setRow_other _ _ _ _ (by omega)).trans (Below.heap_alloc w _ b hb)⟩

/-! ### the files by name -/
/-- the bytes of a name. -/
abbrev nm (s : ByteArray) : List UInt8 := s.data.toList
/-- the file of a name. -/
def findE (l : List Ent) (k : List UInt8) : Option Ent := l.find? fun e => decide (e.name = k)

theorem find_map (l : List Ent) (k : List UInt8) : (l.map Ent.key).find? (fun p => p.1.sameKey (.string k)) = (findE l k).map Ent.key := by
  rw [List.find?_map]
  unfold findE
  congr 1
  congr 1
  funext e
  simp only [Function.comp, Ent.key, Lit.sameKey]
  by_cases h : e.name = k
  · simp [h]
  · simp [h]

theorem at_map (l : List Ent) (k : List UInt8) (z : DataW Unit) : (mapOf l).atKey (.string k) z = match findE l k with | some e => .lit (.int .i64 e.lay.fb) | none => z := by
  unfold mapOf DataW.atKey
  simp only [find_map]
  cases findE l k <;> rfl
theorem has_map (l : List Ent) (k : List UInt8) : Maps.has (mapOf l) (.string k) = (findE l k).isSome := by
  unfold mapOf
  rw [Maps.has_eq]
  have h := find_map l k
  cases hf : findE l k with
  | none =>
    rw [hf, Option.map_none, List.find?_eq_none] at h
    simpa using h
  | some e =>
    rw [hf, Option.map_some] at h
    have h1 := List.find?_some h
    have h2 := List.mem_of_find?_eq_some h
    simp only [Option.isSome_some, List.any_eq_true]
    exact ⟨_, h2, h1⟩

theorem ptrElem_inv {v : Value} {b : Nat} {ps : List MemPlace} (h : ptrElem v = some (.lit (.int .i64 b), ps)) : v = .pointer (some ⟨b, 0, none⟩) := by
  unfold ptrElem at h
  split at h
  · simp at h
    rw [Int.ofNat_inj.1 h.1]
  · simp at h
  · simp at h
theorem ptrElem_nil {v : Value} {ps : List MemPlace} (h : ptrElem v = some (.nil, ps)) : v = .pointer none := by
  unfold ptrElem at h
  split at h
  · simp at h
  · rfl
  · simp at h

theorem Tryd.zero76 (w : World) : (zeroValue 76).run Tryd.prog w = .ok (.pointer none) w := by kernel_rfl

theorem Rep.look {w : World} {lo p mf mt : Nat} {D : DiskC} (h : Rep w lo p mf mt D) (s : ByteArray) (hs : s.size ≤ 32) :
    (Instr.lookup 69 (.map (some mf)) (.string s) true).run Tryd.prog w = .ok (.tuple #[.pointer ((findE D.ents (nm s)).map fun e => ⟨e.lay.fb, 0, none⟩), .bool (findE D.ents (nm s)).isSome]) w := by
  obtain ⟨v, ps, hrun, hv⟩ := h.files.look_ok (t := 69) (e := 76) (Maps.string_keyed Tryd.underlying9) Tryd.underlying69 (Tryd.zero76 w) (zd := .nil) (zp := []) rfl (WideMaps.keyOf_string_mk Tryd.underlying9 (s := s) (by unfold maxLen; omega))
  rw [has_map] at hrun
  rw [at_map] at hv
  rw [hrun]
  cases hf : findE D.ents (nm s) with
  | none => rw [hf] at hv; rw [ptrElem_nil hv]; rfl
  | some e => rw [hf] at hv; rw [ptrElem_inv hv]; rfl
end Go.Proofs.YtcpncfngadablaaDoor
