/-
  The document's own FormedCnf.
-/
import Derived.Test.YtdkboifpdodonaaDoorA1
import Derived.Test.YtdkboifpdodonaaDoorCnf
import Derived.BigQuiet
namespace Go.Proofs.YtdkboifpdodonaaDoor
open Go.RowKit Go.Deep PureCnf
set_option maxRecDepth 100000

/-- numbers that can be read there. -/
structure IntsAt (w : World) (sa : Option Addr) (l : List Int) : Prop where
  at_ : ∀ k (hk : k < l.length), ∃ a, sa = some a ∧ a.block < w.heap.size ∧ w.cell? (a.add k) = some (.int .i64 l[k])
  wf : ∀ k (hk : k < l.length), -9223372036854775808 ≤ l[k] ∧ l[k] ≤ 9223372036854775807

theorem add_block (a : Addr) (j : Nat) : (a.add j).block = a.block := by unfold Addr.add; split <;> rfl
theorem IntsAt.read {w : World} {sa : Option Addr} {l : List Int} (h : IntsAt w sa l) {k : Nat} (hk : k < l.length) : ∃ a, sa = some a ∧ a.block < w.heap.size ∧ ∀ W, Below w.heap.size w W → W.cell? (a.add k) = some (.int .i64 l[k]) := by
  obtain ⟨a, e, hb, c⟩ := h.at_ k hk
  exact ⟨a, e, hb, fun W hW => (hW.cell (by rw [add_block]; exact hb)).trans c⟩
theorem IntsAt.below {w W : World} {sa : Option Addr} {l : List Int} (h : IntsAt w sa l) (hW : Below w.heap.size w W) : IntsAt W sa l :=
  ⟨fun k hk => by
    obtain ⟨a, e, hb, c⟩ := h.at_ k hk
    exact ⟨a, e, Nat.lt_of_lt_of_le hb hW.size, (hW.cell (by rw [add_block]; exact hb)).trans c⟩, h.wf⟩

/-- clauses, as a value. -/
abbrev cnfV (V : Int) (se : Option Addr) (ne ce : Nat) (sl : Option Addr) (nl cl : Nat) : Value := .agg #[.int .i64 V, .slice se ne ce, .slice sl nl cl]

set_option maxHeartbeats 1000000 in
theorem formed_no (V : Int) (E L : List Int) (se sl : Option Addr) (ce cl : Nat) (w : World) (hV : -9223372036854775808 ≤ V ∧ V ≤ 9223372036854775807) (hE : E.length ≤ 9223372036854775807) (hL : L.length ≤ 9223372036854775807) (h : sizesB V E L = false) :
    Calls Tryd.prog 10 #[cnfV V se E.length ce sl L.length cl] w fun e w' => e = .returned (.bool false) ∧ Below w.heap.size w w' := by
  have h' : ¬ (0 ≤ V ∧ V ≤ 65536 ∧ E.length ≤ 65536 ∧ L.length ≤ 1048576) := by simpa [sizesB] using h
  clear h
  by_cases h1 : V < 0
  · go_enter Tryd.func10, Tryd.ntmps10
    go_wp2
    go_ret
    exact ⟨rfl, (Below.refl _ _).alloc (Nat.le_refl _) _⟩
  · by_cases h2 : 65536 < V
    · go_enter Tryd.func10, Tryd.ntmps10
      go_wp2
      go_ret
      exact ⟨rfl, (Below.refl _ _).alloc (Nat.le_refl _) _⟩
    · by_cases h3 : 65536 < (E.length : Int)
      · go_enter Tryd.func10, Tryd.ntmps10
        go_wp2
        go_ret
        exact ⟨rfl, (Below.refl _ _).alloc (Nat.le_refl _) _⟩
      · have h4 : 1048576 < (L.length : Int) := by omega
        clear h'
        go_enter Tryd.func10, Tryd.ntmps10
        go_wp2
        go_ret
        exact ⟨rfl, (Below.refl _ _).alloc (Nat.le_refl _) _⟩

set_option maxHeartbeats 1000000 in
theorem formed_yes (V : Int) (E L : List Int) (se sl : Option Addr) (ce cl : Nat) (w : World) (h : sizesB V E L = true) (hE : IntsAt w se E) (hL : IntsAt w sl L) :
    Calls Tryd.prog 10 #[cnfV V se E.length ce sl L.length cl] w fun e w' => e = .returned (.bool (formedB V E L)) ∧ Below w.heap.size w w' := by
  have h' : 0 ≤ V ∧ V ≤ 65536 ∧ E.length ≤ 65536 ∧ L.length ≤ 1048576 := by simpa [sizesB] using h
  have HS := hid h
  clear h
  obtain ⟨v0, v1, n1, n2⟩ := h'
  have m1 : (E.length : Int) ≤ 65536 := by omega
  have m2 : (L.length : Int) ≤ 1048576 := by omega
  have HB : Hid (Below w.heap.size w (w.alloc (Obj.cells #[Value.int IntKind.i64 V, Value.slice se E.length ce, Value.slice sl L.length cl] 24 (0, 0)))) := (Below.refl _ _).alloc (Nat.le_refl _) _
  have HE := hid hE
  have HL := hid hL
  clear hE hL
  go_enter Tryd.func10, Tryd.ntmps10
  go_wp2
  go_loop [3, 4] (fun t i => ∃ k : Nat, k ≤ E.length ∧ i = .int .i64 k ∧ t = .int .i64 (lastOr 0 (E.take k)) ∧ Hid (mono 0 (E.take k) = true)) (fun _ i => E.length - (intOf i).toNat)
  case atStart => exact ⟨0, Nat.zero_le _, rfl, rfl, rfl⟩
  case round =>
    obtain ⟨k, hk, rfl, rfl, HM⟩ := hrel
    by_cases hlt : k < E.length
    · obtain ⟨a, rfl, ha, hc⟩ := HE.out.read hlt
      have hc1 := hc _ HB.out
      clear hc
      by_cases hf : E[k] < lastOr 0 (E.take k)
      · have HF := hid (mono_fall hlt hf)
        go_wp2
        go_ret
        have e : formedB V E L = false := by unfold formedB; rw [HF.out]; simp
        rw [e]
        exact ⟨rfl, HB.out⟩
      · have HO := hid (mono_on hlt HM.out hf)
        go_wp2
        go_round
        case rel => exact ⟨k + 1, hlt, by go_num, by rw [HO.out.2], HO.out.1⟩
        case measure => simp [intOf]; omega
    · have ek : E.take k = E := List.take_of_length_le (by omega)
      rw [ek] at HM ⊢
      clear ek
      by_cases hq : lastOr 0 E = L.length
      · have HQ := hid hq
        rw [hq]
        clear hq
        go_wp2
        go_loop [5] (fun i => ∃ q : Nat, q ≤ L.length ∧ i = .int .i64 q ∧ Hid ((L.take q).all (litB V) = true)) (fun i => L.length - (intOf i).toNat)
        case atStart => exact ⟨0, Nat.zero_le _, rfl, rfl⟩
        case round =>
          obtain ⟨q, hql, rfl, HA⟩ := hrel
          by_cases hlq : q < L.length
          · obtain ⟨b, rfl, hb, hd⟩ := HL.out.read hlq
            have hd1 := hd _ HB.out
            clear hd
            by_cases hx : L[q] ≠ 0 ∧ L[q] ≤ V ∧ -V ≤ L[q]
            · have HN := hid (all_on hlq HA.out (by simpa [litB] using hx))
              obtain ⟨x1, x2, x3⟩ := hx
              have x4 : ¬ L[q] = 0 := x1
              have x5 : ¬ V < L[q] := by omega
              have x6 : ¬ L[q] < -V := by omega
              clear x1 x2 x3
              go_wp2
              exact ⟨⟨q + 1, hlq, by go_num, HN.out⟩, by simp [intOf]; omega⟩
            · have HN := hid (all_off (V := V) hlq (by simpa [litB] using hx))
              have e : Hid (formedB V E L = false) := by show formedB V E L = false; unfold formedB; rw [HN.out]; simp
              by_cases x1 : L[q] = 0
              · rw [x1] at hd1
                clear hx
                go_wp2
                go_ret
                rw [e.out]
                exact ⟨rfl, HB.out⟩
              · by_cases x2 : V < L[q]
                · clear hx
                  go_wp2
                  go_ret
                  rw [e.out]
                  exact ⟨rfl, HB.out⟩
                · have x3 : L[q] < -V := by omega
                  clear hx
                  go_wp2
                  go_ret
                  rw [e.out]
                  exact ⟨rfl, HB.out⟩
          · go_wp2
            go_ret
            have e : formedB V E L = true := by
              unfold formedB
              rw [HS.out, HM.out, HQ.out, ← List.take_of_length_le (show L.length ≤ q by omega), HA.out]
              simp
            rw [e]
            exact ⟨rfl, HB.out⟩
      · go_wp2
        go_ret
        have e : formedB V E L = false := by unfold formedB; simp [hq]
        rw [e]
        exact ⟨rfl, HB.out⟩

theorem formed_any (V : Int) (E L : List Int) (se sl : Option Addr) (ce cl : Nat) (w : World) (hV : -9223372036854775808 ≤ V ∧ V ≤ 9223372036854775807) (hnE : E.length ≤ 9223372036854775807) (hnL : L.length ≤ 9223372036854775807) (hE : IntsAt w se E) (hL : IntsAt w sl L) :
    Calls Tryd.prog 10 #[cnfV V se E.length ce sl L.length cl] w fun e w' => e = .returned (.bool (formedB V E L)) ∧ Below w.heap.size w w' := by
  cases h : sizesB V E L with
  | true => exact formed_yes V E L se sl ce cl w h hE hL
  | false =>
    have e : formedB V E L = false := by unfold formedB; rw [h]; rfl
    rw [e]
    exact formed_no V E L se sl ce cl w hV hnE hnL h
end Go.Proofs.YtdkboifpdodonaaDoor
