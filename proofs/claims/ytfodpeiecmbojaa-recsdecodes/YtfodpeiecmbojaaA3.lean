/-
  word, putWord, allZero.
-/
import Derived.Test.YtfodpeiecmbojaaA2
namespace Go.Proofs.Ytfodpeiecmbojaa
open Go.RowKit Go.Deep PureCrc

set_option maxHeartbeats 1000000 in
set_option maxRecDepth 100000 in
theorem putWord_any (l : List Nat) (b o c v : Nat) (w : World) (hr : Row w b l) (ho : o + 8 ≤ l.length) :
    Calls Try.prog 27 #[.slice (some ⟨b, o, none⟩) 8 c, .int .u64 (v : Int)] w fun e w' => e = .returned (.tuple #[]) ∧ Row w' b (lay l o (le 8 v)) ∧ Touch [b] w w' ∧ w'.heap.size = w.heap.size := by
  have HR := hid hr
  have hcell : ∀ j, j < 8 → ∃ x, w.cell? ⟨b, o + j, none⟩ = some x := fun j hj => by
    have h := cell_row hr (o + j)
    rw [bc_get, List.getElem?_eq_getElem (by omega)] at h
    exact ⟨_, h⟩
  have hf := fun j => unfrozen_row hr j
  obtain ⟨x0, c0⟩ := hcell 0 (by omega)
  obtain ⟨x1, c1⟩ := hcell 1 (by omega)
  obtain ⟨x2, c2⟩ := hcell 2 (by omega)
  obtain ⟨x3, c3⟩ := hcell 3 (by omega)
  obtain ⟨x4, c4⟩ := hcell 4 (by omega)
  obtain ⟨x5, c5⟩ := hcell 5 (by omega)
  obtain ⟨x6, c6⟩ := hcell 6 (by omega)
  obtain ⟨x7, c7⟩ := hcell 7 (by omega)
  rw [Nat.add_zero] at c0
  clear hr hcell
  go_enter Try.func27, Try.ntmps27
  go_wp2
  go_end0
  have r0 : Row w b (lay l o (le 0 v)) := by simpa [le, lay_nil] using HR.out
  have r1 := r0.set_le (k := 0) (by omega) (x := (v : Int) % 256) (by simp)
  rw [Nat.add_zero] at r1
  have r2 := r1.set_le (k := 1) (by omega) (x := (v : Int) / 256 % 256) (by simp)
  have r3 := r2.set_le (k := 2) (by omega) (x := (v : Int) / 65536 % 256) (by simp)
  have r4 := r3.set_le (k := 3) (by omega) (x := (v : Int) / 16777216 % 256) (by simp)
  have r5 := r4.set_le (k := 4) (by omega) (x := (v : Int) / 4294967296 % 256) (by simp)
  have r6 := r5.set_le (k := 5) (by omega) (x := (v : Int) / 1099511627776 % 256) (by simp)
  have r7 := r6.set_le (k := 6) (by omega) (x := (v : Int) / 281474976710656 % 256) (by simp)
  have r8 := r7.set_le (k := 7) (by omega) (x := (v : Int) / 72057594037927936 % 256) (by simp)
  refine ⟨rfl, r8, ?_, by simp [World.setCell]⟩
  exact ((((((((Touch.refl [b] w).setCell (.inl (by simp)) _).setCell (.inl (by simp)) _).setCell (.inl (by simp)) _).setCell (.inl (by simp)) _).setCell (.inl (by simp)) _).setCell (.inl (by simp)) _).setCell (.inl (by simp)) _).setCell (.inl (by simp)) _

theorem wrap_small {x : Nat} (hx : x < 256) : IntKind.u64.wrap (x : Int) = (x : Int) := by rw [IntKind.wrap_u64]; omega

theorem word_num {x0 x1 x2 x3 x4 x5 x6 x7 : Nat} (hb : ∀ x ∈ [x0, x1, x2, x3, x4, x5, x6, x7], x < 256) :
    bits BinOp.or IntKind.u64
              (bits BinOp.or IntKind.u64
                (bits BinOp.or IntKind.u64
                  (bits BinOp.or IntKind.u64
                    (bits BinOp.or IntKind.u64
                      (bits BinOp.or IntKind.u64
                        (bits BinOp.or IntKind.u64 (IntKind.u64.wrap ↑x0)
                          (IntKind.u64.wrap (IntKind.u64.wrap ↑x1 * 256)))
                        (IntKind.u64.wrap (IntKind.u64.wrap ↑x2 * 65536)))
                      (IntKind.u64.wrap (IntKind.u64.wrap ↑x3 * 16777216)))
                    (IntKind.u64.wrap (IntKind.u64.wrap ↑x4 * 4294967296)))
                  (IntKind.u64.wrap (IntKind.u64.wrap ↑x5 * 1099511627776)))
                (IntKind.u64.wrap (IntKind.u64.wrap ↑x6 * 281474976710656)))
              (IntKind.u64.wrap (IntKind.u64.wrap ↑x7 * 72057594037927936)) = (num [x0, x1, x2, x3, x4, x5, x6, x7] : Int) := by
  have o1 := or_byte hb (k := 1) (by simp) (by omega)
  have o2 := or_byte hb (k := 2) (by simp) (by omega)
  have o3 := or_byte hb (k := 3) (by simp) (by omega)
  have o4 := or_byte hb (k := 4) (by simp) (by omega)
  have o5 := or_byte hb (k := 5) (by simp) (by omega)
  have o6 := or_byte hb (k := 6) (by simp) (by omega)
  have o7 := or_byte hb (k := 7) (by simp) (by omega)
  have g0 : x0 < 256 := hb _ (by simp)
  have g1 : x1 < 256 := hb _ (by simp)
  have g2 : x2 < 256 := hb _ (by simp)
  have g3 : x3 < 256 := hb _ (by simp)
  have g4 : x4 < 256 := hb _ (by simp)
  have g5 : x5 < 256 := hb _ (by simp)
  have g6 : x6 < 256 := hb _ (by simp)
  have g7 : x7 < 256 := hb _ (by simp)
  have w1 : IntKind.u64.wrap ((x1 : Int) * 256) = _ := wrap_byte g1 (k := 1) (by omega)
  have w2 : IntKind.u64.wrap ((x2 : Int) * 65536) = _ := wrap_byte g2 (k := 2) (by omega)
  have w3 : IntKind.u64.wrap ((x3 : Int) * 16777216) = _ := wrap_byte g3 (k := 3) (by omega)
  have w4 : IntKind.u64.wrap ((x4 : Int) * 4294967296) = _ := wrap_byte g4 (k := 4) (by omega)
  have w5 : IntKind.u64.wrap ((x5 : Int) * 1099511627776) = _ := wrap_byte g5 (k := 5) (by omega)
  have w6 : IntKind.u64.wrap ((x6 : Int) * 281474976710656) = _ := wrap_byte g6 (k := 6) (by omega)
  have w7 : IntKind.u64.wrap ((x7 : Int) * 72057594037927936) = _ := wrap_byte g7 (k := 7) (by omega)
  have z0 : (num (List.take 1 [x0, x1, x2, x3, x4, x5, x6, x7]) : Int) = (x0 : Int) := by simp [num]
  rw [wrap_small g0, wrap_small g1, wrap_small g2, wrap_small g3, wrap_small g4, wrap_small g5, wrap_small g6, wrap_small g7, w1, w2, w3, w4, w5, w6, w7, ← z0]
  simp only [List.getElem_cons_zero, List.getElem_cons_succ] at o1 o2 o3 o4 o5 o6 o7
  rw [o1, o2, o3, o4, o5, o6, o7]
  rfl

set_option maxHeartbeats 1000000 in
set_option maxRecDepth 100000 in
theorem word_any (l : List Nat) (b o c : Nat) (w : World) (hr : Rd w b o l) (hl : l.length = 8) (hb : ∀ x ∈ l, x < 256) :
    Calls Try.prog 35 #[.slice (some ⟨b, o, none⟩) 8 c] w fun e w' => e = .returned (.int .u64 (num l : Int)) ∧ ∃ n, w' = w.drewN n := by
  obtain ⟨x0, x1, x2, x3, x4, x5, x6, x7, rfl⟩ : ∃ x0 x1 x2 x3 x4 x5 x6 x7, l = [x0, x1, x2, x3, x4, x5, x6, x7] := by
    match l, hl with
    | [x0, x1, x2, x3, x4, x5, x6, x7], _ => exact ⟨_, _, _, _, _, _, _, _, rfl⟩
  have c0 := hr 0 (by simp)
  have c1 := hr 1 (by simp)
  have c2 := hr 2 (by simp)
  have c3 := hr 3 (by simp)
  have c4 := hr 4 (by simp)
  have c5 := hr 5 (by simp)
  have c6 := hr 6 (by simp)
  have c7 := hr 7 (by simp)
  simp only [List.getElem_cons_zero, List.getElem_cons_succ, Nat.add_zero] at c0 c1 c2 c3 c4 c5 c6 c7
  have HB := hid (word_num hb)
  clear hb hr hl
  go_enter Try.func35, Try.ntmps35
  go_wp2
  go_quiet (fail)
  go_wp2
  go_ret
  exact ⟨congrArg (fun x => Ending.returned (Value.int .u64 x)) HB.out, _, rfl⟩

set_option maxHeartbeats 400000 in
theorem allZero_any (l : List Nat) (b o c : Nat) (w : World) (hr : Rd w b o l) (hn : l.length ≤ 65536) :
    Calls Try.prog 44 #[.slice (some ⟨b, o, none⟩) l.length c] w fun e w' => e = .returned (.bool (decide (∀ x ∈ l, x = 0))) ∧ w' = w := by
  have HR := hid hr
  clear hr
  go_enter Try.func44, Try.ntmps44
  go_wp2
  go_loopw [7] (fun i W => ∃ k : Nat, k ≤ l.length ∧ i = .int .i64 k ∧ Hid (∀ j (h : j < l.length), j < k → l[j] = 0) ∧ W = w) (fun i _ => l.length - (intOf i).toNat)
  case atStart => exact ⟨0, Nat.zero_le _, rfl, fun _ _ h => by omega, rfl⟩
  case round =>
    obtain ⟨k, hk, rfl, HZ, rfl⟩ := hrel
    by_cases hlt : k < l.length
    · have hc := HR.out k hlt
      by_cases hz : l[k] = 0
      · have HE := hid hz
        rw [hz] at hc
        clear hz
        go_wp2
        refine ⟨⟨k + 1, hlt, rfl, fun j h hj => ?_, trivial⟩, by simp [intOf]; omega⟩
        by_cases e : j = k
        · subst e; exact HE.out
        · exact HZ.out j h (by omega)
      · have hne : ¬ ((l[k] : Nat) : Int) = 0 := by omega
        go_wp2
        go_ret
        have hd : decide (∀ x ∈ l, x = 0) = false := by
          apply decide_eq_false
          intro h
          exact hz (h _ (List.getElem_mem hlt))
        rw [hd]
        exact ⟨rfl, rfl⟩
    · go_wp2
      go_ret
      have hd : decide (∀ x ∈ l, x = 0) = true := by
        apply decide_eq_true
        intro x hx
        obtain ⟨j, hj, rfl⟩ := List.getElem_of_mem hx
        exact HZ.out j hj (by omega)
      rw [hd]
      exact ⟨rfl, rfl⟩
end Go.Proofs.Ytfodpeiecmbojaa
