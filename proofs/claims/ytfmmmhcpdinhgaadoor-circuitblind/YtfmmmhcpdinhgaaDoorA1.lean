/-
  The law's small calls: within, number, count, truths, fit.
-/
import Derived.Test.YtfmmmhcpdinhgaaDoorG0
import Derived.Test.YtfmmmhcpdinhgaaDoorShuf
namespace Go.Proofs.YtfmmmhcpdinhgaaDoor
open Go.RowKit Go.Deep PureNet
set_option maxRecDepth 100000

/-- a string of these bytes. -/
abbrev str (l : List UInt8) : Value := .string ⟨l.toArray⟩
theorem str_add (a b : List UInt8) : (⟨a.toArray⟩ : ByteArray) ++ ⟨b.toArray⟩ = ⟨(a ++ b).toArray⟩ := by
  apply ByteArray.ext
  simp

/-- a number brought into 0 to n - 1. -/
def wi (v : Int) (n : Nat) : Nat := ((if v < 0 then -(v + 1) else v) % (n : Int)).toNat
theorem wi_lt (v : Int) {n : Nat} (hn : 0 < n) : wi v n < n := by
  unfold wi
  have h1 := Int.emod_nonneg (if v < 0 then -(v + 1) else v) (show (n : Int) ≠ 0 by omega)
  have h2 := Int.emod_lt_of_pos (if v < 0 then -(v + 1) else v) (show 0 < (n : Int) by omega)
  omega
set_option maxHeartbeats 1000000 in
theorem within_any (v : Int) (n : Nat) (w : World) (hv : -9223372036854775808 ≤ v ∧ v ≤ 9223372036854775807) (hn : 0 < n) (hn2 : n ≤ 1048576) : Calls Tryd.prog 38 #[.int .i64 v, .int .i64 (n : Int)] w fun e w' => e = .returned (.int .i64 (wi v n : Int)) ∧ w' = w := by
  by_cases h : v < 0
  · have e : (-(v + 1)).tmod (n : Int) = (wi v n : Int) := by
      unfold wi
      rw [if_pos h, Int.tmod_eq_emod_of_nonneg (by omega), Int.toNat_of_nonneg (Int.emod_nonneg _ (by omega))]
    obtain ⟨k, hk⟩ : ∃ k, k = wi v n := ⟨_, rfl⟩
    rw [← hk] at e ⊢
    clear hk
    go_enter Tryd.func38, Tryd.ntmps38
    go_wp2
    go_ret
    exact ⟨rfl, rfl⟩
  · have e : v % (n : Int) = (wi v n : Int) := by
      unfold wi
      rw [if_neg h, Int.toNat_of_nonneg (Int.emod_nonneg _ (by omega))]
    have E := hid e
    clear e
    go_enter Tryd.func38, Tryd.ntmps38
    go_wp2
    go_ret
    exact ⟨by rw [← E.out]; rfl, rfl⟩

theorem dec_small {n : Nat} (h : n < 10) : decN n = [UInt8.ofNat (48 + n)] := by rw [decN, if_pos h]
theorem dec_big {n : Nat} (h : ¬ n < 10) : decN n = decN (n / 10) ++ [UInt8.ofNat (48 + n % 10)] := by rw [decN, if_neg h]
theorem dec_len {n : Nat} (h : n < 1000) : (decN n).length ≤ 3 := by
  by_cases h1 : n < 10
  · rw [dec_small h1]; simp
  rw [dec_big h1]
  by_cases h2 : n / 10 < 10
  · rw [dec_small h2]; simp
  rw [dec_big h2, dec_small (by omega)]
  simp
theorem conv_at (n : Nat) (hn : n < 10) {W : World} {g : Nat} (h : W.cell? ⟨g, 0, none⟩ = some (.int .u8 (48 + (n : Int)))) : (convert 92 9 (.slice (some ⟨g, 0, none⟩) 1 1)).run Tryd.prog W = .ok (str [UInt8.ofNat (48 + n)]) W := by
  refine run_convert_bytes_back (P := Tryd.prog) _ 92 9 5 ⟨g, 0, none⟩ 1 [UInt8.ofNat (48 + n)] Tryd.underlying92 Tryd.underlying5 Tryd.underlying9 (fun j hj => ?_)
  have h0 : j = 0 := by simpa using hj
  subst h0
  rw [add_zero_addr, h]
  simp
  omega
theorem conv_byte (n : Nat) (hn : n < 10) (w : World) : (convert 92 9 (.slice (some ⟨w.heap.size, 0, none⟩) 1 1)).run Tryd.prog (w.alloc (.cells #[.int .u8 (48 + (n : Int))] 5)) = .ok (str [UInt8.ofNat (48 + n)]) (w.alloc (.cells #[.int .u8 (48 + (n : Int))] 5)) := by
  refine run_convert_bytes_back (P := Tryd.prog) _ 92 9 5 ⟨w.heap.size, 0, none⟩ 1 [UInt8.ofNat (48 + n)] Tryd.underlying92 Tryd.underlying5 Tryd.underlying9 (fun j hj => ?_)
  have h0 : j = 0 := by simpa using hj
  subst h0
  simp [Addr.add]
  omega
set_option maxHeartbeats 400000 in
theorem number_small (n : Nat) (hn : n < 10) (w : World) :
    Calls Tryd.prog 37 #[.int .i64 n] w fun e w' => e = .returned (str (decN n)) ∧ Below w.heap.size w w' := by
  have hc := conv_byte n hn w
  rw [← dec_small hn] at hc
  go_enter Tryd.func37, Tryd.ntmps37
  go_wp2
  go_ret
  exact ⟨rfl, (Below.refl _ _).alloc (Nat.le_refl _) _⟩
set_option maxHeartbeats 400000 in
theorem number_any (n : Nat) : ∀ (w : World), n < 1000 →
    Calls Tryd.prog 37 #[.int .i64 n] w fun e w' => e = .returned (str (decN n)) ∧ Below w.heap.size w w' := by
  induction n using Nat.strongRecOn with
  | _ n ih =>
    intro w hn
    by_cases h : n < 10
    · exact number_small n h w
    · have h10 : ¬ (n : Int) < 10 := by omega
      obtain ⟨d, hd⟩ : ∃ d, d = n % 10 := ⟨_, rfl⟩
      obtain ⟨q, hq⟩ : ∃ q, q = n / 10 := ⟨_, rfl⟩
      have H1 : Hid (∀ w : World, Calls Tryd.prog 37 #[.int .i64 (q : Int)] w fun e w' => e = .returned (str (decN q)) ∧ Below w.heap.size w w') := fun w => ih q (by omega) w (by omega)
      have HD : Hid (decN q ++ [UInt8.ofNat (48 + d)] = decN n) := by rw [dec_big h, hd, hq]; exact rfl
      have HD2 : Hid ((⟨(decN q).toArray⟩ : ByteArray) ++ ⟨[UInt8.ofNat (48 + d)].toArray⟩ = ⟨(decN n).toArray⟩) := by show _ = _; rw [str_add, HD.out]
      have HD10 : Hid (d < 10) := by show _ < _; omega
      have hl1 := dec_len (n := q) (by omega)
      have hl2 : ¬ 9223372036854775807 < (decN q).length + 1 := by omega
      have hc := fun w => conv_byte d HD10.out w
      have F1 : Hid ((n : Int).tmod 10 = (n : Int) % 10) := Int.tmod_eq_emod_of_nonneg (by omega)
      have F2 : Hid (IntKind.i64.wrap ((n : Int) / 10) = (n : Int) / 10) := by show _ = _; rw [IntKind.wrap_i64]; omega
      have F3 : Hid (IntKind.i64.wrap (48 + (n : Int) % 10) = 48 + (n : Int) % 10) := by show _ = _; rw [IntKind.wrap_i64]; omega
      have F4 : Hid (IntKind.u8.wrap (48 + (n : Int) % 10) = 48 + (n : Int) % 10) := by show _ = _; rw [IntKind.wrap_u8]; omega
      have E1 : (q : Int) = (n : Int) / 10 := by omega
      have E2 : (d : Int) = (n : Int) % 10 := by omega
      rw [E1] at H1
      simp only [E2] at hc
      have hca := fun (W : World) (g : Nat) (h : W.cell? ⟨g, 0, none⟩ = some (.int .u8 (48 + (n : Int) % 10))) => conv_at d HD10.out (W := W) (g := g) (by rw [h, E2])
      obtain ⟨y, hy⟩ : ∃ y, y = UInt8.ofNat (48 + d) := ⟨_, rfl⟩
      simp only [← hy] at hc hca HD2
      have HCA := hid hca
      have HC := hid hc
      clear hd hq E1 E2 hc hca hy
      clear ih h
      go_enter Tryd.func37, Tryd.ntmps37
      go_wp2_with (fail)
      refine wp_region_noPanic ?_
      refine wp_region_held_drew (S := fun _ => True) (by kernel_rfl) trivial (fun hHeld => ?_)
      refine wpAnyH_take (i := 0) (v := ?_) (by simp only [List.getElem?_toArray, List.getElem?_cons_zero]; rfl) (by kernel_rfl) (by kernel_rfl) (by kernel_rfl) (fun _ _ _ h => h) (Or.inl ⟨by rfl, ?_⟩) (by assumption) ?_
      rotate_left 1
      · intro w hSw; (try dsimp only at hSw); go_simp; (try with_reducible rfl)
      try simp only [Act.put, List.setIfInBounds_toArray, List.set_cons_zero, List.set_cons_succ]
      refine wpAnyH_take (i := 1) (v := ?_) (by simp only [List.getElem?_toArray, List.getElem?_cons_succ, List.getElem?_cons_zero]; rfl) (by kernel_rfl) (by kernel_rfl) (by kernel_rfl) (fun _ _ _ h => h) (Or.inl ⟨by rfl, ?_⟩) (by assumption) ?_
      rotate_left 1
      · intro w hSw; (try dsimp only at hSw); go_simp; (try with_reducible rfl)
      try simp only [Act.put, List.setIfInBounds_toArray, List.set_cons_zero, List.set_cons_succ]
      refine wpAnyH_take (i := 3) (v := ?_) (by simp only [List.getElem?_toArray, List.getElem?_cons_succ, List.getElem?_cons_zero]; rfl) (by kernel_rfl) (by kernel_rfl) (by kernel_rfl) (fun _ _ _ h => h) (Or.inl ⟨by rfl, ?_⟩) (by assumption) ?_
      rotate_left 1
      · intro w hSw; (try dsimp only at hSw); go_simp; (try with_reducible rfl)
      try simp only [Act.put, List.setIfInBounds_toArray, List.set_cons_zero, List.set_cons_succ]
      refine wpAnyH_take (i := 4) (v := ?_) (by simp only [List.getElem?_toArray, List.getElem?_cons_succ, List.getElem?_cons_zero]; rfl) (by kernel_rfl) (by kernel_rfl) (by kernel_rfl) (fun _ _ _ h => h) (Or.inl ⟨by rfl, ?_⟩) (by assumption) ?_
      rotate_left 1
      · intro w hSw; (try dsimp only at hSw); go_simp; (try with_reducible rfl)
      try simp only [Act.put, List.setIfInBounds_toArray, List.set_cons_zero, List.set_cons_succ]
      refine wpAnyH_take (i := 5) (v := ?_) (by simp only [List.getElem?_toArray, List.getElem?_cons_succ, List.getElem?_cons_zero]; rfl) (by kernel_rfl) (by kernel_rfl) (by kernel_rfl) (fun _ _ _ h => h) (Or.inl ⟨by rfl, ?_⟩) (by assumption) ?_
      rotate_left 1
      · intro w hSw; (try dsimp only at hSw); go_simp; (try with_reducible rfl)
      try simp only [Act.put, List.setIfInBounds_toArray, List.set_cons_zero, List.set_cons_succ]
      refine wpAnyH_take (i := 6) (v := ?_) (by simp only [List.getElem?_toArray, List.getElem?_cons_succ, List.getElem?_cons_zero]; rfl) (by kernel_rfl) (by kernel_rfl) (by kernel_rfl) (fun _ _ _ h => h) (Or.inl ⟨by rfl, ?_⟩) (by assumption) ?_
      rotate_left 1
      · intro w hSw; (try dsimp only at hSw); go_simp; (try with_reducible rfl)
      try simp only [Act.put, List.setIfInBounds_toArray, List.set_cons_zero, List.set_cons_succ]
      simp only [F1.out, F2.out, F3.out, F4.out]
      refine wpAnyH_ready (rs := [2, 7]) (by kernel_rfl) (by simp) ?_
      refine AllReadyH.cons (by simp only [List.getElem?_toArray, List.getElem?_cons_succ, List.getElem?_cons_zero]; rfl) (fun K hK => ?_) (AllReadyH.cons (by simp only [List.getElem?_toArray, List.getElem?_cons_succ, List.getElem?_cons_zero]; rfl) (fun K hK => ?_) AllReadyH.nil)
      · go_simp
        go_at_call 37
        with_reducible refine (H1.out _).mono ?_
        rintro e w1 ⟨rfl, b1⟩
        have B1 := hid b1
        clear b1
        go_wp2_with fail
        clear hHeld
        refine hK.out _ _ trivial (fun hHeld => ?_)
        clear hK K
        try simp only [Act.put, List.setIfInBounds_toArray, List.set_cons_zero, List.set_cons_succ]
        refine wpAnyH_ready (rs := [7]) (by kernel_rfl) (by simp) ?_
        refine AllReadyH.cons (by simp only [List.getElem?_toArray, List.getElem?_cons_succ, List.getElem?_cons_zero]; rfl) (fun K hK => ?_) AllReadyH.nil
        go_simp
        clear hHeld
        refine hK.out _ _ trivial (fun hHeld => ?_)
        clear hK K
        try simp only [Act.put, List.setIfInBounds_toArray, List.set_cons_zero, List.set_cons_succ]
        have hc1 := HC.out w1
        refine wpAnyH_ready (rs := [8]) (by kernel_rfl) (by simp) ?_
        refine AllReadyH.cons (by simp only [List.getElem?_toArray, List.getElem?_cons_succ, List.getElem?_cons_zero]; rfl) (fun K hK => ?_) AllReadyH.nil
        go_simp
        clear hHeld
        refine hK.out _ _ trivial (fun hHeld => ?_)
        clear hK K
        try simp only [Act.put, List.setIfInBounds_toArray, List.set_cons_zero, List.set_cons_succ]
        refine wpAnyH_take (i := 9) (v := ?_) (by simp only [List.getElem?_toArray, List.getElem?_cons_succ, List.getElem?_cons_zero]; rfl) (by kernel_rfl) (by kernel_rfl) (by kernel_rfl) (fun _ _ _ h => h) (Or.inl ⟨by rfl, ?_⟩) (by assumption) ?_
        rotate_left 1
        · intro w hSw; (try dsimp only at hSw); go_simp; (try with_reducible rfl)
        try simp only [Act.put, List.setIfInBounds_toArray, List.set_cons_zero, List.set_cons_succ]
        refine wpAnyH_take (i := 10) (v := ?_) (by simp only [List.getElem?_toArray, List.getElem?_cons_succ, List.getElem?_cons_zero]; rfl) (by kernel_rfl) (by kernel_rfl) (by kernel_rfl) (fun _ _ _ h => h) (Or.inl ⟨by rfl, ?_⟩) (by assumption) ?_
        rotate_left 1
        · intro w hSw; (try dsimp only at hSw); go_simp; (try with_reducible rfl)
        try simp only [Act.put, List.setIfInBounds_toArray, List.set_cons_zero, List.set_cons_succ]
        refine wpAnyH_done (by kernel_rfl) ?_ _
        refine NoPanic.normal ?_
        go_wp2
        go_ret
        exact ⟨congrArg (fun s => Ending.returned (.string s)) HD2.out, ((below_drewN (Below.refl _ _) 1).trans (B1.out.mono (Nat.le_refl _))).alloc (by have := B1.out.size; exact this) _⟩
      · go_simp
        clear hHeld
        refine hK.out _ _ trivial (fun hHeld => ?_)
        clear hK K
        try simp only [Act.put, List.setIfInBounds_toArray, List.set_cons_zero, List.set_cons_succ]
        have hc1 := HCA.out (w.alloc (Obj.cells #[.int .u8 (48 + (n : Int) % 10)] 5)).drew w.heap.size ((cell_row (heap_alloc_new w _) 0).trans rfl)
        refine wpAnyH_ready (rs := [2, 8]) (by kernel_rfl) (by simp) ?_
        refine AllReadyH.cons (by simp only [List.getElem?_toArray, List.getElem?_cons_succ, List.getElem?_cons_zero]; rfl) (fun K hK => ?_) (AllReadyH.cons (by simp only [List.getElem?_toArray, List.getElem?_cons_succ, List.getElem?_cons_zero]; rfl) (fun K hK => ?_) AllReadyH.nil)
        · go_simp
          go_at_call 37
          with_reducible refine (H1.out _).mono ?_
          rintro e w1 ⟨rfl, b1⟩
          have B1 := hid b1
          clear b1
          go_wp2_with fail
          clear hHeld
          refine hK.out _ _ trivial (fun hHeld => ?_)
          clear hK K
          try simp only [Act.put, List.setIfInBounds_toArray, List.set_cons_zero, List.set_cons_succ]
          have hc2 := HCA.out w1 w.heap.size (by have := B1.out.block w.heap.size (by simp); rw [cell_row (this.trans (heap_alloc_new w.drew _))]; rfl)
          refine wpAnyH_ready (rs := [8]) (by kernel_rfl) (by simp) ?_
          refine AllReadyH.cons (by simp only [List.getElem?_toArray, List.getElem?_cons_succ, List.getElem?_cons_zero]; rfl) (fun K hK => ?_) AllReadyH.nil
          go_simp
          clear hHeld
          refine hK.out _ _ trivial (fun hHeld => ?_)
          clear hK K
          try simp only [Act.put, List.setIfInBounds_toArray, List.set_cons_zero, List.set_cons_succ]
          refine wpAnyH_take (i := 9) (v := ?_) (by simp only [List.getElem?_toArray, List.getElem?_cons_succ, List.getElem?_cons_zero]; rfl) (by kernel_rfl) (by kernel_rfl) (by kernel_rfl) (fun _ _ _ h => h) (Or.inl ⟨by rfl, ?_⟩) (by assumption) ?_
          rotate_left 1
          · intro w hSw; (try dsimp only at hSw); go_simp; (try with_reducible rfl)
          try simp only [Act.put, List.setIfInBounds_toArray, List.set_cons_zero, List.set_cons_succ]
          refine wpAnyH_take (i := 10) (v := ?_) (by simp only [List.getElem?_toArray, List.getElem?_cons_succ, List.getElem?_cons_zero]; rfl) (by kernel_rfl) (by kernel_rfl) (by kernel_rfl) (fun _ _ _ h => h) (Or.inl ⟨by rfl, ?_⟩) (by assumption) ?_
          rotate_left 1
          · intro w hSw; (try dsimp only at hSw); go_simp; (try with_reducible rfl)
          try simp only [Act.put, List.setIfInBounds_toArray, List.set_cons_zero, List.set_cons_succ]
          refine wpAnyH_done (by kernel_rfl) ?_ _
          refine NoPanic.normal ?_
          go_wp2
          go_ret
          exact ⟨congrArg (fun s => Ending.returned (.string s)) HD2.out, ((below_drewN (Below.refl _ _) 1).alloc (Nat.le_refl _) _).trans (B1.out.mono (by simp))⟩
        · go_simp
          clear hHeld
          refine hK.out _ _ trivial (fun hHeld => ?_)
          clear hK K
          try simp only [Act.put, List.setIfInBounds_toArray, List.set_cons_zero, List.set_cons_succ]
          refine wpAnyH_ready (rs := [2]) (by kernel_rfl) (by simp) ?_
          refine AllReadyH.cons (by simp only [List.getElem?_toArray, List.getElem?_cons_succ, List.getElem?_cons_zero]; rfl) (fun K hK => ?_) AllReadyH.nil
          go_simp
          go_at_call 37
          with_reducible refine (H1.out _).mono ?_
          rintro e w1 ⟨rfl, b1⟩
          have B1 := hid b1
          clear b1
          go_wp2_with fail
          clear hHeld
          refine hK.out _ _ trivial (fun hHeld => ?_)
          clear hK K
          try simp only [Act.put, List.setIfInBounds_toArray, List.set_cons_zero, List.set_cons_succ]
          refine wpAnyH_take (i := 9) (v := ?_) (by simp only [List.getElem?_toArray, List.getElem?_cons_succ, List.getElem?_cons_zero]; rfl) (by kernel_rfl) (by kernel_rfl) (by kernel_rfl) (fun _ _ _ h => h) (Or.inl ⟨by rfl, ?_⟩) (by assumption) ?_
          rotate_left 1
          · intro w hSw; (try dsimp only at hSw); go_simp; (try with_reducible rfl)
          try simp only [Act.put, List.setIfInBounds_toArray, List.set_cons_zero, List.set_cons_succ]
          refine wpAnyH_take (i := 10) (v := ?_) (by simp only [List.getElem?_toArray, List.getElem?_cons_succ, List.getElem?_cons_zero]; rfl) (by kernel_rfl) (by kernel_rfl) (by kernel_rfl) (fun _ _ _ h => h) (Or.inl ⟨by rfl, ?_⟩) (by assumption) ?_
          rotate_left 1
          · intro w hSw; (try dsimp only at hSw); go_simp; (try with_reducible rfl)
          try simp only [Act.put, List.setIfInBounds_toArray, List.set_cons_zero, List.set_cons_succ]
          refine wpAnyH_done (by kernel_rfl) ?_ _
          refine NoPanic.normal ?_
          go_wp2
          go_ret
          exact ⟨congrArg (fun s => Ending.returned (.string s)) HD2.out, ((below_drewN (Below.refl _ _) 1).alloc (Nat.le_refl _) _).trans (B1.out.mono (by simp))⟩

set_option maxHeartbeats 1000000 in
set_option maxRecDepth 100000 in
theorem count_any (c : Net) (sg so : Option Addr) (cg co : Nat) (k : Int) (w : World) (hc : CellsAt w sg (gas c.gates)) (hl : c.gates.length ≤ 1099511627776) :
    Calls Tryd.prog 10 #[cirV c sg cg so co, .int .i64 k] w fun e w' => e = .returned (.int .i64 (cnt k c.gates : Int)) ∧ Below w.heap.size w w' := by
  have HC := hid hc
  clear hc
  go_enter Tryd.func10, Tryd.ntmps10
  go_wp2
  obtain ⟨x, hx⟩ : ∃ x, x = w.alloc (Obj.cells #[Value.string c.name, Value.slice sg c.gates.length cg, Value.slice so c.outs.length co] 26) := ⟨_, rfl⟩
  have c0 : ∀ i, x.cell? ⟨w.heap.size, i, none⟩ = (#[Value.string c.name, Value.slice sg c.gates.length cg, Value.slice so c.outs.length co] : Array Value)[i]? := fun i => by rw [hx]; exact cell_row (heap_alloc_new w _) i
  have hb0 : w.heap.size < x.heap.size := by rw [hx]; simp
  have BX : Hid (Below w.heap.size w x) := by rw [hx]; exact (Below.refl _ _).alloc (Nat.le_refl _) _
  rw [← hx]
  clear hx
  go_loopw [5, 6] (fun nv iv W => ∃ i : Nat, i ≤ c.gates.length ∧ iv = .int .i64 (i : Int) ∧ nv = .int .i64 (cnt k (c.gates.take i) : Int) ∧ W = x) (fun nv iv _ => c.gates.length - (intOf iv).toNat)
  case atStart => exact ⟨0, Nat.zero_le _, rfl, rfl, rfl⟩
  case round =>
    obtain ⟨i, hi, rfl, rfl, rfl⟩ := hrel
    have hcl : cnt k (c.gates.take i) ≤ i := by
      have h1 := List.length_filter_le (fun g : Ga => decide (g.kind = k)) (c.gates.take i)
      simp only [List.length_take] at h1
      unfold cnt
      omega
    by_cases hlt : i < c.gates.length
    · obtain ⟨g, hg⟩ : ∃ g, c.gates[i]? = some g := ⟨_, List.getElem?_eq_getElem hlt⟩
      obtain ⟨b, o, rfl, hb, d0, _⟩ := gate_at (HC.out.below BX.out) i g hg
      have HN := hid (cnt_take_succ k c.gates i hg)
      by_cases hk : g.kind = k
      · rw [if_pos hk] at HN
        clear hg
        go_wp2
        exact ⟨⟨i + 1, hlt, by go_num, by rw [HN.out]; go_num, trivial⟩, by simp [intOf]; omega⟩
      · rw [if_neg hk] at HN
        clear hg
        go_wp2
        exact ⟨⟨i + 1, hlt, by go_num, by rw [HN.out]; rfl, trivial⟩, by simp [intOf]; omega⟩
    · have hin : i = c.gates.length := by omega
      have HT : Hid (cnt k (c.gates.take i) = cnt k c.gates) := by show _ = _; rw [hin, List.take_length]
      clear hin
      go_wp2
      go_ret
      exact ⟨by rw [← HT.out]; rfl, BX.out⟩

set_option maxHeartbeats 1000000 in
set_option maxRecDepth 100000 in
theorem truths_true (l : List Bool) (sa sb : Option Addr) (ca cb : Nat) (w : World) (ha : CellsAt w sa (bo l)) (hb : CellsAt w sb (bo l)) (hl : l.length ≤ 140737488351232) :
    Calls Tryd.prog 16 #[.slice sa l.length ca, .slice sb l.length cb] w fun e w' => e = .returned (.bool true) ∧ Below w.heap.size w w' := by
  have HA := hid ha
  have HB := hid hb
  clear ha hb
  go_enter Tryd.func16, Tryd.ntmps16
  go_wp2
  go_loopw [5] (fun iv W => ∃ k : Nat, k ≤ l.length ∧ iv = .int .i64 (k : Int) ∧ Hid (Below w.heap.size w W)) (fun iv _ => l.length - (intOf iv).toNat)
  case atStart => exact ⟨0, Nat.zero_le _, rfl, Below.refl _ _⟩
  case round =>
    obtain ⟨k, hk, rfl, HW⟩ := hrel
    by_cases hlt : k < l.length
    · obtain ⟨x, hx⟩ : ∃ x, l[k]? = some x := ⟨_, List.getElem?_eq_getElem hlt⟩
      obtain ⟨ga, oa, rfl, hga, p0⟩ := bit_at (HA.out.below HW.out) k x hx
      obtain ⟨gb, ob, rfl, hgb, q0⟩ := bit_at (HB.out.below HW.out) k x hx
      clear hx
      go_wp2
      go_quiet (fail)
      go_wp2
      exact ⟨⟨k + 1, hlt, by go_num, below_drewN HW.out _⟩, by simp [intOf]; omega⟩
    · go_wp2
      go_ret
      exact ⟨rfl, HW.out⟩
end Go.Proofs.YtfmmmhcpdinhgaaDoor
