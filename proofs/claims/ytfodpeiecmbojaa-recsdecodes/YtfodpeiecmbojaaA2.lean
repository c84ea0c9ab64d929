/-
  get, put, word, putWord, allZero.
-/
import Derived.Test.YtfodpeiecmbojaaA1
namespace Go.Proofs.Ytfodpeiecmbojaa
open Go.RowKit Go.Deep PureCrc

theorem num_take_succ {l : List Nat} {k : Nat} (hk : k < l.length) : num (l.take (k + 1)) = num (l.take k) + 256 ^ k * l[k] := by
  rw [List.take_succ_eq_append_getElem hk, num_append, List.length_take, Nat.min_eq_left (by omega)]
  simp [num]
theorem pow8 (k : Nat) : (256 : Nat) ^ k = 2 ^ (8 * k) := by rw [show (256 : Nat) = 2 ^ 8 by decide, ← Nat.pow_mul]
theorem num_take_lt {l : List Nat} (hb : ∀ x ∈ l, x < 256) {k : Nat} (hk : k ≤ l.length) : num (l.take k) < 2 ^ (8 * k) := by
  have := num_lt (l := l.take k) fun x hx => hb x (List.mem_of_mem_take hx)
  rwa [List.length_take, Nat.min_eq_left hk, pow8] at this
/-- a byte put above what is there. -/
theorem or_byte {l : List Nat} (hb : ∀ x ∈ l, x < 256) {k : Nat} (hk : k < l.length) (h8 : k < 8) :
    bits .or .u64 (num (l.take k) : Int) ((l[k] * 2 ^ (8 * k) : Nat) : Int) = (num (l.take (k + 1)) : Int) := by
  have h1 := num_take_lt hb (Nat.le_of_lt hk)
  have h2 := hb _ (List.getElem_mem hk)
  have h3 := num_take_lt hb (k := k + 1) hk
  have h5 : 2 ^ (8 * (k + 1)) ≤ 18446744073709551616 := by
    have : 2 ^ (8 * (k + 1)) ≤ 2 ^ 64 := Nat.pow_le_pow_right (by decide) (by omega)
    simpa using this
  have h4 : 2 ^ (8 * k) ≤ 2 ^ (8 * (k + 1)) := Nat.pow_le_pow_right (by decide) (by omega)
  rw [num_take_succ hk] at h3 ⊢
  rw [pow8, Nat.mul_comm (2 ^ (8 * k))] at h3 ⊢
  rw [u64_or_nat _ _ (by omega) (by omega), Nat.or_comm, nat_join (8 * k) _ _ (Nat.mul_mod_left ..) h1, Nat.add_comm]

theorem wrap_byte {x k : Nat} (hx : x < 256) (hk : k < 8) : IntKind.u64.wrap ((x : Int) * 2 ^ (8 * k)) = ((x * 2 ^ (8 * k) : Nat) : Int) := by
  have h : x * 2 ^ (8 * k) < 18446744073709551616 := by
    have h1 : 2 ^ (8 * (k + 1)) ≤ 2 ^ 64 := Nat.pow_le_pow_right (by decide) (by omega)
    have h2 : 2 ^ (8 * (k + 1)) = 256 * 2 ^ (8 * k) := by rw [Nat.mul_succ, Nat.pow_add, Nat.mul_comm]
    have h3 : x * 2 ^ (8 * k) < 256 * 2 ^ (8 * k) := Nat.mul_lt_mul_of_pos_right hx (Nat.two_pow_pos _)
    have h4 : (2 : Nat) ^ 64 = 18446744073709551616 := by decide
    omega
  rw [IntKind.wrap_u64]
  have e : (x : Int) * 2 ^ (8 * k) = ((x * 2 ^ (8 * k) : Nat) : Int) := by simp
  rw [e]
  omega

set_option maxHeartbeats 400000 in
theorem get_any (l : List Nat) (hl : l.length ≤ 8) (hb : ∀ x ∈ l, x < 256) (b o c : Nat) (w : World) (hr : Rd w b o l) :
    Calls Try.prog 31 #[.slice (some ⟨b, o, none⟩) l.length c] w fun e w' => e = .returned (.int .u64 (num l : Int)) ∧ w' = w := by
  have HR := hid hr
  have HB := hid hb
  clear hr hb
  go_enter Try.func31, Try.ntmps31
  go_wp2
  go_loopw [3, 8] (fun n i W => ∃ k : Nat, k ≤ l.length ∧ i = .int .i64 k ∧ n = .int .u64 (num (l.take k) : Int) ∧ W = w) (fun _ i _ => l.length - (intOf i).toNat)
  case atStart => exact ⟨0, Nat.zero_le _, rfl, rfl, rfl⟩
  case round =>
    obtain ⟨k, hk, rfl, rfl, rfl⟩ := hrel
    by_cases hlt : k < l.length
    · have hc := HR.out k hlt
      have HO := hid (or_byte HB.out hlt (by omega))
      have hx := HB.out _ (List.getElem_mem hlt)
      have HW := hid (wrap_byte hx (show k < 8 by omega))
      go_wp2
      refine ⟨⟨k + 1, hlt, rfl, ?_, trivial⟩, by simp [intOf]; omega⟩
      rw [HW.out]
      exact congrArg (Value.int .u64) HO.out
    · go_wp2
      go_ret
      rw [show k = l.length by omega, List.take_length]
      exact ⟨rfl, rfl⟩

/-! ### put -/
theorem le_succ : ∀ (k v : Nat), le (k + 1) v = le k v ++ [v / 256 ^ k % 256]
  | 0, v => by simp [le]
  | k + 1, v => by
    rw [le, le_succ k, le, List.cons_append, Nat.div_div_eq_div_mul, Nat.pow_succ, Nat.mul_comm 256]
/-- l with other bytes from o on. -/
def lay (l : List Nat) (o : Nat) (bs : List Nat) : List Nat := l.take o ++ bs ++ l.drop (o + bs.length)
theorem lay_nil (l : List Nat) (o : Nat) : lay l o [] = l := by simp [lay]
theorem lay_length {l bs : List Nat} {o : Nat} (h : o + bs.length ≤ l.length) : (lay l o bs).length = l.length := by simp [lay]; omega
theorem lay_set {l bs : List Nat} {o : Nat} (h : o + bs.length < l.length) (x : Nat) : (lay l o bs).set (o + bs.length) x = lay l o (bs ++ [x]) := by
  have hl : (l.take o ++ bs).length = o + bs.length := by simp; omega
  unfold lay
  rw [List.set_append_right _ _ (by omega), hl, Nat.sub_self, List.drop_eq_getElem_cons (by omega), List.set_cons_zero]
  simp [Nat.add_assoc]
theorem lay_le {l : List Nat} {o k : Nat} (v : Nat) (h : o + k < l.length) : (lay l o (le k v)).set (o + k) (v / 2 ^ (8 * k) % 256) = lay l o (le (k + 1) v) := by
  have := lay_set (l := l) (bs := le k v) (o := o) (by rw [le_length]; exact h) (v / 2 ^ (8 * k) % 256)
  rw [le_length] at this
  rw [this, le_succ, pow8]
theorem Row.set_le {w : World} {b : Nat} {l : List Nat} {o k v : Nat} (h : Row w b (lay l o (le k v))) (hk : o + k < l.length) {x : Int} (hx : x = ((v / 2 ^ (8 * k) % 256 : Nat) : Int)) :
    Row (w.setCell ⟨b, o + k, none⟩ (.int .u8 x)) b (lay l o (le (k + 1) v)) := by
  have := h.set (o + k) (v / 2 ^ (8 * k) % 256)
  rw [lay_le v hk] at this
  rw [hx]
  exact this

set_option maxHeartbeats 400000 in
theorem put_any (l : List Nat) (b o n c v : Nat) (w : World) (hr : Row w b l) (hn : n ≤ 8) (ho : o + n ≤ l.length) :
    Calls Try.prog 28 #[.slice (some ⟨b, o, none⟩) n c, .int .u64 (v : Int)] w fun e w' => e = .returned (.tuple #[]) ∧ Row w' b (lay l o (le n v)) ∧ Touch [b] w w' ∧ w'.heap.size = w.heap.size := by
  have HR := hid hr
  clear hr
  go_enter Try.func28, Try.ntmps28
  go_wp2
  go_loopw [7] (fun i W => ∃ k : Nat, k ≤ n ∧ i = .int .i64 k ∧ Row W b (lay l o (le k v)) ∧ Touch [b] w W ∧ W.heap.size = w.heap.size) (fun i _ => n - (intOf i).toNat)
  case atStart => exact ⟨0, Nat.zero_le _, rfl, by simpa [le, lay_nil] using HR.out, Touch.refl _ _, rfl⟩
  case round =>
    obtain ⟨k, hk, rfl, h1, h2, h3⟩ := hrel
    by_cases hlt : k < n
    · have hc := cell_row h1 (o + k)
      rw [bc_get, List.getElem?_eq_getElem (by rw [lay_length (by rw [le_length]; omega)]; omega)] at hc
      have hf := unfrozen_row h1 (o + k)
      have H1 := hid h1
      have H2 := hid h2
      have H3 := hid h3
      clear h1 h2 h3
      go_wp2
      exact ⟨⟨k + 1, hlt, rfl, H1.out.set_le (by omega) (by simp), H2.out.setCell (.inl (by simp)) _, by rw [← H3.out]; simp [World.setCell]⟩, by simp [intOf]; omega⟩
    · have HH := hid (And.intro h1 (And.intro h2 h3))
      clear h1 h2 h3
      go_wp2
      go_end0
      have e : k = n := by omega
      rw [e] at HH
      exact ⟨rfl, HH.out⟩
end Go.Proofs.Ytfodpeiecmbojaa
