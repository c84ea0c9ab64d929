/-
  The sums of great slices: sum_any and rsum_any under a greater bound.
-/
import Derived.Test.YtfodpeiecmbojaaH8
namespace Go.Proofs.Ytfodpeiecmbojaa
open Go.RowKit Go.Deep PureCrc

set_option maxRecDepth 100000 in
set_option maxHeartbeats 1000000 in
theorem sum_big (l : List Nat) (b o c : Nat) (w : World) (hr : Rd w b o l) (hb : b < w.heap.size) (hl : ∀ x ∈ l, x < 256) (hn : l.length ≤ 140737488355328) :
    Calls Try.prog 21 #[.slice (some ⟨b, o, none⟩) l.length c] w fun e w' => e = .returned (.int .u32 (crc l : Int)) ∧ Touch [] w w' := by
  have HR := hid hr
  have HL := hid hl
  clear hr hl
  obtain ⟨w0, hw0⟩ : ∃ w0, w0 = (w.alloc (.cells #[.int .u32 0, .int .i32 0, .int .u32 0] 69)).alloc (.cells Try.zeroCells71 71) := ⟨_, rfl⟩
  have hsz : w0.heap.size = w.heap.size + 2 := by rw [hw0]; simp
  have hO0 : Once w0 w.heap.size 0 0 := by
    rw [hw0]
    exact (Below.heap_alloc _ _ _ (by simp)).trans (heap_alloc_new w _)
  have hT0 : Tab w0 (w.heap.size + 1) (fun _ => 0) Try.zeroCells71 := by
    refine ⟨?_, by rw [zero71]; simp, fun j hj => by rw [zero71]; simp [hj]⟩
    rw [hw0]
    have := heap_alloc_new (w.alloc (.cells #[.int .u32 0, .int .i32 0, .int .u32 0] 69)) (.cells Try.zeroCells71 71)
    simpa using this
  have hTT : Touch [] w w0 := by rw [hw0]; exact ((Touch.refl [] w).alloc _).alloc _
  have HW := hid hw0
  have HS := hid hsz
  have HO0 := hid hO0
  have HT0 := hid hT0
  have HTT := hid hTT
  have hsg : IntKind.u32.signed = false := rfl
  clear hw0 hsz hO0 hT0 hTT
  go_enter Try.func21, Try.ntmps21
  go_wp2_with fail
  rw [← HW.out]
  go_loopw [5, 10] (fun s i W => ∃ k : Nat, k ≤ l.length ∧ i = .int .i64 k ∧ s = .int .u32 (reg 4294967295 (l.take k) : Int) ∧ (∃ C, Once W w.heap.size (if k = 0 then 0 else 1) 0 ∧ Tab W (w.heap.size + 1) (if k = 0 then fun _ => 0 else fun j => iter 8 j) C) ∧ Touch [w.heap.size, w.heap.size + 1] w0 W) (fun _ i _ => l.length - (intOf i).toNat)
  case atStart => exact ⟨0, Nat.zero_le _, rfl, rfl, ⟨_, by simpa using HO0.out, by simpa using HT0.out⟩, Touch.refl _ _⟩
  case round =>
    obtain ⟨k, hk, rfl, rfl, ⟨C, h1, h2⟩, h3⟩ := hrel
    have hbz : b < w0.heap.size := by rw [HS.out]; omega
    have hrd : Rd wr b o l := (HR.out.touch HTT.out hb (by simp)).touch h3 hbz (by simp; omega)
    have hbr : b < wr.heap.size := Nat.lt_of_lt_of_le hbz h3.size
    have HT := hid h3
    have HRD := hid hrd
    by_cases hlt : k < l.length
    · have hx := HL.out _ (List.getElem_mem hlt)
      have hs := reg_lt (l := l.take k) (fun x hx => HL.out x (List.mem_of_mem_take hx)) (r := 4294967295) (by decide)
      have hs' : reg 4294967295 (l.take k) < 4294967296 := hs
      have hreg : reg 4294967295 (l.take (k + 1)) = iter 8 (reg 4294967295 (l.take k) ^^^ l[k]) := by
        rw [List.take_succ_eq_append_getElem hlt, reg_append]; rfl
      have HDO : Hid (Calls Try.prog 41 #[.pointer (some ⟨w.heap.size, 0, none⟩), fillV (w.heap.size + 1)] wr fun e w' => e = .returned (.tuple #[]) ∧ Once w' w.heap.size 1 0 ∧ (∃ C, Tab w' (w.heap.size + 1) (fun j => iter 8 j) C) ∧ Touch [w.heap.size, w.heap.size + 1] wr w') := by
        by_cases h0 : k = 0
        · subst h0
          exact (do_first _ _ wr C (by simpa using h1) (by simpa using h2) (by omega)).mono fun e w' h => ⟨h.1, h.2.1, h.2.2.1, h.2.2.2.1⟩
        · rw [if_neg h0] at h1
          rw [if_neg h0] at h2
          exact (do_done _ _ wr h1).mono fun e w' h => by
            obtain ⟨rfl, rfl⟩ := h
            exact ⟨rfl, h1, ⟨C, h2⟩, Touch.refl _ _⟩
      obtain ⟨s, hsd⟩ : ∃ s, s = reg 4294967295 (l.take k) := ⟨_, rfl⟩
      rw [← hsd] at hs' hreg ⊢
      have HSD := hid hsd
      have HREG := hid hreg
      obtain ⟨x, hxd⟩ : ∃ x, x = l[k] := ⟨_, rfl⟩
      have hc := HRD.out k hlt
      rw [← hxd] at hx hc
      have HXD := hid hxd
      have HST := hid (sum_step hs' hx)
      obtain ⟨q, hqd⟩ : ∃ q, q = (s % 256) ^^^ x := ⟨_, rfl⟩
      have hq : q < 256 := by rw [hqd]; exact Nat.xor_lt_two_pow (n := 8) (Nat.mod_lt _ (by decide)) hx
      have hxx : bits .xor .u8 ((s : Int) % 256) (x : Int) = (q : Int) := by
        have := u8_xor_nat (s % 256) x (Nat.mod_lt _ (by decide)) hx
        rw [← hqd] at this
        simpa using this
      rw [← hqd] at HST
      clear hqd
      clear h1 h2 h3 hrd hsd hreg hs hxd
      go_wp2_with (first
        | (go_at_call 41; refine HDO.out.mono ?_; rintro e w2 ⟨rfl, hO2, hC2, hT2⟩; have HO2 := hid hO2; obtain ⟨C2, hC2⟩ := hC2; have hcq := cell_row hC2.row q; rw [hC2.at_ q hq] at hcq; have HC2 := hid hC2; have HT2 := hid hT2; clear hO2 hC2 hT2))
      refine ⟨⟨k + 1, hlt, rfl, ?_, ⟨C2, by simpa using HO2.out, by simpa using HC2.out⟩, HT.out.trans HT2.out (fun b hb => .inl hb)⟩, by simp [intOf]; omega⟩
      rw [HREG.out, ← HXD.out]
      exact congrArg (Value.int .u32) HST.out
    · clear h1 h2 h3
      go_wp2
      go_ret
      have e : k = l.length := by omega
      have ec : bits .xor .u32 IntKind.u32.max (reg 4294967295 (l.take k) : Int) = (crc l : Int) := by
        rw [e, List.take_length]
        have := u32_xor_nat 4294967295 (reg 4294967295 l) (by decide) (reg_lt (l := l) HL.out (by decide))
        rw [Nat.xor_comm] at this
        exact this
      refine ⟨congrArg (fun x => Ending.returned (Value.int .u32 x)) ec, HTT.out.trans HT.out ?_⟩
      intro d hd
      simp at hd
      omega

set_option maxRecDepth 100000 in
set_option maxHeartbeats 1000000 in
theorem rsum_big (l : List Nat) (b o c : Nat) (w : World) (hr : Rd w b o l) (hl : ∀ x ∈ l, x < 256) (hn : l.length ≤ 140737488355328) :
    Calls Try.prog 22 #[.slice (some ⟨b, o, none⟩) l.length c] w fun e w' => e = .returned (.int .u32 (crc l : Int)) ∧ w' = w := by
  have HR := hid hr
  have HL := hid hl
  clear hr hl
  go_enter Try.func22, Try.ntmps22
  go_wp2
  go_loopw [3, 4] (fun s i W => ∃ k : Nat, k ≤ l.length ∧ i = .int .i64 k ∧ s = .int .u32 (reg 4294967295 (l.take k) : Int) ∧ W = w) (fun _ i _ => l.length - (intOf i).toNat)
  case atStart => exact ⟨0, Nat.zero_le _, rfl, rfl, rfl⟩
  case round =>
    obtain ⟨k, hk, rfl, rfl, rfl⟩ := hrel
    by_cases hlt : k < l.length
    · have hx := HL.out _ (List.getElem_mem hlt)
      have hs := reg_lt (l := l.take k) (fun x hx => HL.out x (List.mem_of_mem_take hx)) (r := 4294967295) (by decide)
      have hs' : reg 4294967295 (l.take k) < 4294967296 := hs
      have hreg : reg 4294967295 (l.take (k + 1)) = iter 8 (reg 4294967295 (l.take k) ^^^ l[k]) := by
        rw [List.take_succ_eq_append_getElem hlt, reg_append]; rfl
      obtain ⟨s, hsd⟩ : ∃ s, s = reg 4294967295 (l.take k) := ⟨_, rfl⟩
      rw [← hsd] at hs' hreg ⊢
      have HREG := hid hreg
      obtain ⟨x, hxd⟩ : ∃ x, x = l[k] := ⟨_, rfl⟩
      have hc := HR.out k hlt
      rw [← hxd] at hx hc HREG
      have hxx := u32_xor_nat s x hs' (by omega)
      have hy : s ^^^ x < 2 ^ 32 := Nat.xor_lt_two_pow hs' (by omega)
      obtain ⟨y, hyd⟩ : ∃ y, y = s ^^^ x := ⟨_, rfl⟩
      rw [← hyd] at hxx hy HREG
      clear hs hsd hreg hxd hyd hs'
      go_wp2
      go_loopw [3, 5] (fun s i W => ∃ j : Nat, j ≤ 8 ∧ i = .int .i64 j ∧ s = .int .u32 (iter j y : Int) ∧ W = wr) (fun _ i _ => 8 - (intOf i).toNat)
      case atStart => exact ⟨0, by omega, rfl, rfl, rfl⟩
      case round =>
        obtain ⟨j, hj, rfl, rfl, hW⟩ := hrel
        subst hW
        by_cases hlt2 : j < 8
        · have hi := iter_lt j (r := y) hy
          have hi' : iter j y < 4294967296 := hi
          have HIS := hid (iter_end j y)
          obtain ⟨z, hz⟩ : ∃ z, z = iter j y := ⟨_, rfl⟩
          rw [← hz] at hi' HIS ⊢
          have hpl : poly < 4294967296 := by decide
          have HX := hid (u32_xor_nat (z / 2) poly (by omega) hpl)
          clear hz hi hpl
          by_cases ho : z % 2 = 1
          · have HT : Hid (T z = z / 2 ^^^ poly) := by show _ = _; unfold T; rw [if_pos ho]
            have ho1 : (z : Int) % 2 = 1 := by omega
            go_wp2
            refine ⟨⟨j + 1, hlt2, rfl, ?_, trivial⟩, by simp [intOf]; omega⟩
            rw [HIS.out, HT.out]
            exact congrArg (Value.int .u32) HX.out
          · have HT : Hid (T z = z / 2) := by show _ = _; unfold T; rw [if_neg ho, Nat.xor_zero]
            have ho1 : (z : Int) % 2 = 0 := by omega
            go_wp2
            refine ⟨⟨j + 1, hlt2, rfl, ?_, trivial⟩, by simp [intOf]; omega⟩
            rw [HIS.out, HT.out]
            simp
        · have e8 : j = 8 := by omega
          subst e8
          go_wp2
          exact ⟨⟨k + 1, hlt, rfl, by rw [HREG.out], trivial⟩, by simp [intOf]; omega⟩
    · go_wp2
      go_ret
      have e : k = l.length := by omega
      have hs := reg_lt (l := l) HL.out (r := 4294967295) (by decide)
      have ec : (4294967295 - (reg 4294967295 (l.take k) : Int)) % 4294967296 = (crc l : Int) := by
        rw [e, List.take_length]
        unfold crc
        rw [not_sum hs]
        omega
      exact ⟨congrArg (fun x => Ending.returned (Value.int .u32 x)) ec, rfl⟩


theorem rsum_came_big {w : World} {sa : Option Addr} {n c : Nat} {l : List Nat} (h : Came w sa n c l) (hn : n ≤ 140737488355328) : Calls Try.prog 22 #[.slice sa n c] w fun e w' => e = .returned (.int .u32 (crc l : Int)) ∧ w' = w := by
  have hl := h.len
  subst hl
  by_cases h0 : l.length = 0
  · have hd : l = [] := List.eq_nil_of_length_eq_zero h0
    subst hd
    exact rsum_zero sa c w
  · obtain ⟨b, o, rfl, _, hr⟩ := h.at_ (by omega)
    exact rsum_big l b o c w hr h.lt hn

end Go.Proofs.Ytfodpeiecmbojaa
