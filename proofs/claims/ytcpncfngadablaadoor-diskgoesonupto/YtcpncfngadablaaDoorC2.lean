import Derived.Test.YtcpncfngadablaaDoorIter
import Derived.Test.YtcpncfngadablaaDoorB5
namespace Go.Proofs.YtcpncfngadablaaDoor
open Go.RowKit Go.Deep

theorem before_lt : ∀ a b : List UInt8, bytesBefore a b = true → a < b
  | [], [], h => by simp [bytesBefore] at h
  | [], _ :: _, _ => by simp
  | _ :: _, [], h => by simp [bytesBefore] at h
  | a :: r, b :: s, h => by
    simp only [bytesBefore, Bool.or_eq_true, decide_eq_true_eq, Bool.and_eq_true, beq_iff_eq] at h
    rw [List.cons_lt_cons_iff]
    rcases h with h | ⟨rfl, h⟩
    · exact .inl h
    · exact .inr ⟨rfl, before_lt r s h⟩

section
variable {w w' : World} {E : Nat → Addr} {lo p mf mt : Nat} {D : DiskC}

theorem Rep.rising (R : Rep w lo p mf mt D) : D.ents.Pairwise fun a b => bytesBefore a.name b.name = true := by
  obtain ⟨es, clock, hb, F, hs, hD⟩ := R.files
  simp only [mapOf, DataW.map.injEq] at hD
  have hu := R.uniq
  have hk : ChangeMaps.StrKeys (D.ents.map Ent.key) := fun x hx => by
    obtain ⟨e, _, rfl⟩ := List.mem_map.1 hx
    exact ⟨_, rfl⟩
  have hpw : (D.ents.map Ent.key).Pairwise fun p q => p.1 ≠ q.1 := by
    rw [List.pairwise_map]
    exact hu.imp fun h e => h (by simpa [Ent.key] using e)
  have hperm := WideShapes.sorted_perm (es.toList.map (WideElems.rg Tryd.prog 9 ptrElem))
  rw [← hD] at hperm
  have hk' := ChangeMaps.strKeys_perm hperm hk
  have hpw' := (hperm.pairwise_iff (fun h => Ne.symm h)).1 hpw
  have h := ChangeMaps.sorted_sorted _ hk' hpw'
  rw [← hD, List.pairwise_map] at h
  exact h

theorem Rep.names_sorted (R : Rep w lo p mf mt D) {ss : List (List UInt8)} (h : ss.Perm (strKeys (mapOf D.ents))) : ss.mergeSort (fun x y => decide (x ≤ y)) = D.ents.map Ent.name := by
  have hk : strKeys (mapOf D.ents) = D.ents.map Ent.name := by
    simp only [strKeys, mapOf, List.map_map]
    rfl
  rw [hk] at h
  have e1 := mergeSort_of_perm h
  have e2 : (D.ents.map Ent.name).mergeSort (fun x y => decide (x ≤ y)) = D.ents.map Ent.name := by
    apply List.mergeSort_of_pairwise
    rw [List.pairwise_map]
    refine R.rising.imp fun h => ?_
    simp only [decide_eq_true_eq]
    exact List.le_of_lt (before_lt _ _ h)
  exact e1.trans e2

/-! ### rising, Names -/
set_option maxHeartbeats 1000000 in
theorem rising_any (R : Rep w lo p mf mt D) (hS : D.ents.length ≤ 1099511627776) :
    Calls Tryd.prog 29 #[ptr p] w fun e w' => ∃ v, e = .returned v ∧ w'.ownsRow w.heap.size 9 1 v D.ents.length ((D.ents.map Ent.name).map encStr) ∧ (v = .slice none 0 0 ↔ D.ents = []) ∧ Below w.heap.size w w' := by
  have k3 := R.cell 3
  simp only [dRow] at k3
  have hsz : Maps.size (mapOf D.ents) = D.ents.length := by simp [mapOf, Maps.size]
  have HK := hid (fun W => callsIn_wide.1 (Tryd.maps_Keys_50 (some mf) W))
  have HS := hid (callsIn_wide.1 (Tryd.slices_Sorted_keys_49_50 mf D.ents.length (mapOf D.ents) ptrElem w R.files (by rw [hsz]; unfold maxLen; omega) (by rw [hsz]; omega)))
  have HR := hid R
  clear hsz R
  go_enter Tryd.func29, Tryd.ntmps29
  go_wp2_with (first
    | (go_at_call 50; refine (HK.out _).mono ?_; rintro e w' ⟨rfl, rfl⟩)
    | (go_at_call 49; refine HS.out.mono ?_; rintro e w' ⟨v, ss, rfl, hP, hrow, hnil, hb⟩))
  go_ret
  have hn := HR.out.names_sorted hP
  have hl : ss.length = D.ents.length := by
    rw [hP.length_eq]
    simp [strKeys, mapOf]
  rw [hn, hl] at hrow
  refine ⟨v, rfl, ⟨hrow.1, ?_⟩, ?_, ((Below.refl _ w).alloc (Nat.le_refl _) _).trans (hb.mono (by simp))⟩
  · rcases hrow.2 with h | ⟨g, cap, cur, h, hbg, r⟩
    · exact .inl h
    · exact .inr ⟨g, cap, cur, h, by simp at hbg; omega, r⟩
  · rw [hnil]
    constructor
    · intro h; subst h; exact List.eq_nil_of_length_eq_zero (by simpa using hl.symm)
    · intro h; rw [h] at hl; exact List.eq_nil_of_length_eq_zero (by simpa using hl)
end
end Go.Proofs.YtcpncfngadablaaDoor
