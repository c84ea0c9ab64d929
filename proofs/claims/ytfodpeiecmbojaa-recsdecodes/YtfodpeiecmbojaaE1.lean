/-
  within, some, same.
-/
import Derived.Test.YtfodpeiecmbojaaD1
namespace Go.Proofs.Ytfodpeiecmbojaa
open Go.RowKit Go.Deep PureCrc

def withinN (v n : Int) : Int := (if v < 0 then -(v + 1) else v) % n
theorem within_in (v : Int) {n : Int} (hn : 0 < n) : 0 ≤ withinN v n ∧ withinN v n < n := ⟨Int.emod_nonneg _ (by omega), Int.emod_lt_of_pos _ hn⟩

set_option maxHeartbeats 400000 in
theorem within_any (v n : Int) (hn : 0 < n) (h0 : -9223372036854775808 ≤ v) (h1 : v ≤ 9223372036854775807) (hn2 : n ≤ 9223372036854775807) (w : World) :
    Calls Try.prog 10 #[.int .i64 v, .int .i64 n] w fun e w' => e = .returned (.int .i64 (withinN v n)) ∧ w' = w := by
  have hn0 : ¬ n = 0 := by omega
  by_cases hv : v < 0
  · have HB := hid (show withinN v n = (-(v + 1)) % n by unfold withinN; rw [if_pos hv])
    have ht : (-(v + 1)).tmod n = (-(v + 1)) % n := Int.tmod_eq_emod_of_nonneg (by omega)
    have hr := Int.emod_nonneg (-(v + 1)) hn0
    have hr2 := Int.emod_lt_of_pos (-(v + 1)) hn
    go_enter Try.func10, Try.ntmps10
    go_wp2
    go_ret
    rw [HB.out]
    exact ⟨rfl, rfl⟩
  · have HB := hid (show withinN v n = v % n by unfold withinN; rw [if_neg hv])
    have ht : v.tmod n = v % n := Int.tmod_eq_emod_of_nonneg (by omega)
    have hr := Int.emod_nonneg v hn0
    have hr2 := Int.emod_lt_of_pos v hn
    go_enter Try.func10, Try.ntmps10
    go_wp2
    go_ret
    rw [HB.out]
    exact ⟨rfl, rfl⟩

/-- records that can be read. -/
structure Rs (w : World) (sa : Option Addr) (n : Nat) (ws : List Nat) : Prop where
  len : ws.length = 4 * n
  at_ : 0 < n → ∃ b o, sa = some ⟨b, o, none⟩ ∧ b < w.heap.size ∧ Wd w b o ws

theorem Rs.touch {w w' : World} {sa : Option Addr} {n : Nat} {ws : List Nat} {F : List Nat} (h : Rs w sa n ws) (ht : Touch F w w') (hF : ∀ a, sa = some a → a.block ∉ F) : Rs w' sa n ws :=
  ⟨h.len, fun h0 => by
    obtain ⟨b, o, e, hb, hw⟩ := h.at_ h0
    exact ⟨b, o, e, Nat.lt_of_lt_of_le hb ht.size, hw.touch ht hb (hF _ e)⟩⟩
theorem WRow.rs {w : World} {b n : Nat} {ws : List Nat} (h : WRow w b ws) (hl : ws.length = 4 * n) : Rs w (some ⟨b, 0, none⟩) n ws := ⟨hl, fun _ => ⟨b, 0, rfl, lt_of_block h, h.wd⟩⟩

theorem Wd.rec {w : World} {b o n : Nat} {ws : List Nat} (h : Wd w b o ws) (hl : ws.length = 4 * n) {k : Nat} (hk : k < n) :
    ∃ x0 x1 x2 x3 : Nat, w.cell? ⟨b, o + k * 4, none⟩ = some (.int .u64 (x0 : Int)) ∧ w.cell? ⟨b, o + k * 4 + 1, none⟩ = some (.int .u64 (x1 : Int)) ∧ w.cell? ⟨b, o + k * 4 + 2, none⟩ = some (.int .u64 (x2 : Int)) ∧ w.cell? ⟨b, o + k * 4 + 3, none⟩ = some (.int .u64 (x3 : Int)) ∧
      ws[4 * k]? = some x0 ∧ ws[4 * k + 1]? = some x1 ∧ ws[4 * k + 2]? = some x2 ∧ ws[4 * k + 3]? = some x3 := by
  have q0 := h (4 * k) (by omega)
  have q1 := h (4 * k + 1) (by omega)
  have q2 := h (4 * k + 2) (by omega)
  have q3 := h (4 * k + 3) (by omega)
  rw [show o + 4 * k = o + k * 4 by omega] at q0
  rw [show o + (4 * k + 1) = o + k * 4 + 1 by omega] at q1
  rw [show o + (4 * k + 2) = o + k * 4 + 2 by omega] at q2
  rw [show o + (4 * k + 3) = o + k * 4 + 3 by omega] at q3
  exact ⟨_, _, _, _, q0, q1, q2, q3, List.getElem?_eq_getElem _, List.getElem?_eq_getElem _, List.getElem?_eq_getElem _, List.getElem?_eq_getElem _⟩

set_option maxRecDepth 100000 in
set_option maxHeartbeats 1000000 in
theorem same_true {w : World} {sa sb : Option Addr} {n : Nat} {ws : List Nat} (ca cb : Nat) (ha : Rs w sa n ws) (hb : Rs w sb n ws) (hn : n ≤ 4398046511104) :
    Calls Try.prog 13 #[.slice sa n ca, .slice sb n cb] w fun e w' => e = .returned (.bool true) ∧ ∃ k, w' = w.drewN k := by
  have HA := hid ha
  have HB := hid hb
  clear ha hb
  go_enter Try.func13, Try.ntmps13
  go_wp2
  go_loopw [5] (fun i W => ∃ k m : Nat, k ≤ n ∧ i = .int .i64 k ∧ W = w.drewN m) (fun i _ => n - (intOf i).toNat)
  case atStart => exact ⟨0, 0, Nat.zero_le _, rfl, rfl⟩
  case round =>
    obtain ⟨k, m, hk, rfl, hW⟩ := hrel
    by_cases hlt : k < n
    · obtain ⟨b1, o1, rfl, hb1, hw1⟩ := HA.out.at_ (by omega)
      obtain ⟨b2, o2, rfl, hb2, hw2⟩ := HB.out.at_ (by omega)
      obtain ⟨x0, x1, x2, x3, c0, c1, c2, c3, e0, e1, e2, e3⟩ := Wd.rec (w := w) hw1 HA.out.len hlt
      obtain ⟨y0, y1, y2, y3, d0, d1, d2, d3, f0, f1, f2, f3⟩ := Wd.rec (w := w) hw2 HA.out.len hlt
      obtain rfl : x0 = y0 := Option.some.inj (e0.symm.trans f0)
      obtain rfl : x1 = y1 := Option.some.inj (e1.symm.trans f1)
      obtain rfl : x2 = y2 := Option.some.inj (e2.symm.trans f2)
      obtain rfl : x3 = y3 := Option.some.inj (e3.symm.trans f3)
      subst hW
      have c0' : (w.drewN m).cell? ⟨b1, o1 + k * 4, none⟩ = some (.int .u64 (x0 : Int)) := c0
      have c1' : (w.drewN m).cell? ⟨b1, o1 + k * 4 + 1, none⟩ = some (.int .u64 (x1 : Int)) := c1
      have c2' : (w.drewN m).cell? ⟨b1, o1 + k * 4 + 2, none⟩ = some (.int .u64 (x2 : Int)) := c2
      have c3' : (w.drewN m).cell? ⟨b1, o1 + k * 4 + 3, none⟩ = some (.int .u64 (x3 : Int)) := c3
      have d0' : (w.drewN m).cell? ⟨b2, o2 + k * 4, none⟩ = some (.int .u64 (x0 : Int)) := d0
      have d1' : (w.drewN m).cell? ⟨b2, o2 + k * 4 + 1, none⟩ = some (.int .u64 (x1 : Int)) := d1
      have d2' : (w.drewN m).cell? ⟨b2, o2 + k * 4 + 2, none⟩ = some (.int .u64 (x2 : Int)) := d2
      have d3' : (w.drewN m).cell? ⟨b2, o2 + k * 4 + 3, none⟩ = some (.int .u64 (x3 : Int)) := d3
      have HWD : Hid (∀ j, (w.drewN m).drewN j = w.drewN (m + j)) := fun j => by simp [World.drewN, Nat.add_assoc]
      obtain ⟨V, hV⟩ : ∃ V, V = w.drewN m := ⟨_, rfl⟩
      rw [← hV] at c0' c1' c2' c3' d0' d1' d2' d3' HWD ⊢
      have heq := fun W => eq28 (x0 : Int) (x1 : Int) (x2 : Int) (x3 : Int) (x0 : Int) (x1 : Int) (x2 : Int) (x3 : Int) W
      have hdt : decide ((x0 : Int) = x0 ∧ (x1 : Int) = x1 ∧ (x2 : Int) = x2 ∧ (x3 : Int) = x3) = true := by simp
      rw [hdt] at heq
      clear c0 c1 c2 c3 d0 d1 d2 d3 e0 e1 e2 e3 f0 f1 f2 f3 hw1 hw2 hV hdt HA HB
      go_wp2
      go_quiet (fail)
      go_wp2
      exact ⟨⟨k + 1, m + nq, hlt, rfl, HWD.out nq⟩, by simp [intOf]; omega⟩
    · subst hW
      go_wp2
      go_ret
      exact ⟨rfl, _, rfl⟩

/-- what some answers. -/
structure Some (w w' : World) (e : Ending) (k : Nat) (sb so m c : Nat) (ws : List Nat) : Prop where
  ret : e = .returned (.slice (some ⟨sb, so, none⟩) m c)
  one : 1 ≤ m
  most : m ≤ k
  cap : m ≤ c
  len : ws.length = 4 * m
  wd : Wd w' sb so ws
  lt : sb < w'.heap.size
  small : ∀ x ∈ ws, x < 18446744073709551616
  touch : Touch [] w w'

set_option maxRecDepth 100000 in
set_option maxHeartbeats 1000000 in
theorem some_any {w : World} {sa : Option Addr} {n c : Nat} {ws : List Nat} (k : Nat) (h : Rs w sa n ws) (hc : n ≤ c) (hlt : ∀ x ∈ ws, x < 18446744073709551616) (hk : 1 ≤ k) (hk2 : k ≤ 65536) :
    Calls Try.prog 11 #[.slice sa n c, .int .i64 (k : Int)] w fun e w' => ∃ sb so m c' ws', Some w w' e k sb so m c' ws' := by
  by_cases h0 : n = 0
  · subst h0
    have HR := hid (show WRow (w.alloc (.cells #[.int .u64 0, .int .u64 0, .int .u64 0, .int .u64 0] 28)) w.heap.size [0, 0, 0, 0] from heap_alloc_new w _)
    have HT := hid ((Touch.refl [] w).alloc (.cells #[.int .u64 0, .int .u64 0, .int .u64 0, .int .u64 0] 28))
    clear h
    go_enter Try.func11, Try.ntmps11
    go_wp2
    go_ret
    exact ⟨w.heap.size, 0, 1, 1, [0, 0, 0, 0], rfl, Nat.le_refl _, hk, Nat.le_refl _, rfl, HR.out.wd, lt_of_block HR.out, by decide, HT.out⟩
  · obtain ⟨b, o, rfl, hb, hw⟩ := h.at_ (by omega)
    have hl := h.len
    have HW := hid hw
    have h0' : ¬ (n : Int) = 0 := by omega
    have h0'' : ((n : Int) == 0) = false := by simpa using h0'
    by_cases hgt : k < n
    · have HWK : Hid (Wd w b o (ws.take (4 * k))) := fun i hi => by
        have hi2 : i < ws.length := by rw [List.length_take] at hi; omega
        rw [hw i hi2, List.getElem_take]
      have HLT : Hid (∀ x ∈ ws.take (4 * k), x < 18446744073709551616) := fun x hx => hlt x (List.mem_of_mem_take hx)
      clear h hw
      go_enter Try.func11, Try.ntmps11
      go_wp2
      go_ret
      exact ⟨b, o, k, c, ws.take (4 * k), rfl, hk, Nat.le_refl _, by omega, by rw [List.length_take]; omega, HWK.out, hb, HLT.out, Touch.refl _ _⟩
    · clear h hw
      go_enter Try.func11, Try.ntmps11
      go_wp2
      go_ret
      exact ⟨b, o, n, c, ws, rfl, by omega, by omega, hc, hl, HW.out, hb, hlt, Touch.refl _ _⟩
end Go.Proofs.Ytfodpeiecmbojaa
