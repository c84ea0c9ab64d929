/-
  Numbers by sixteen digits. Pure.
-/
namespace PureHex
def hexC (k : Nat) : UInt8 := ([48, 49, 50, 51, 52, 53, 54, 55, 56, 57, 97, 98, 99, 100, 101, 102] : List UInt8).getD k 0
/-- the digits that it takes. -/
def hexN (u : Nat) : List UInt8 := if u < 16 then [hexC u] else hexN (u / 16) ++ [hexC (u % 16)]
/-- so many digits. -/
def hexW : Nat → Nat → List UInt8
  | 0, _ => []
  | n + 1, u => hexW n (u / 16) ++ [hexC (u % 16)]
theorem hex_small {u : Nat} (h : u < 16) : hexN u = [hexC u] := by rw [hexN, if_pos h]
theorem hex_big {u : Nat} (h : ¬ u < 16) : hexN u = hexN (u / 16) ++ [hexC (u % 16)] := by rw [hexN, if_neg h]
theorem hexW_zero : ∀ n, hexW n 0 = List.replicate n 48
  | 0 => rfl
  | n + 1 => by
    rw [hexW, show 0 / 16 = 0 from rfl, hexW_zero n, List.replicate_succ']
    rfl
theorem hexN_len : ∀ (n u : Nat), u < 16 ^ (n + 1) → 1 ≤ (hexN u).length ∧ (hexN u).length ≤ n + 1
  | 0, u, h => by rw [hex_small (by simpa using h)]; simp
  | n + 1, u, h => by
    by_cases hs : u < 16
    · rw [hex_small hs]; simp
    · have := hexN_len n (u / 16) (Nat.div_lt_of_lt_mul (by rw [Nat.pow_succ, Nat.mul_comm] at h; exact h))
      rw [hex_big hs, List.length_append]
      simp only [List.length_cons, List.length_nil]
      omega
theorem hex_pad : ∀ (n u : Nat), u < 16 ^ (n + 1) → List.replicate (n + 1 - (hexN u).length) 48 ++ hexN u = hexW (n + 1) u
  | 0, u, h => by
    have hs : u < 16 := by simpa using h
    rw [hex_small hs, hexW, hexW, Nat.mod_eq_of_lt hs]
    rfl
  | n + 1, u, h => by
    by_cases hs : u < 16
    · rw [hex_small hs, hexW, Nat.div_eq_of_lt hs, hexW_zero, Nat.mod_eq_of_lt hs]
      rfl
    · have hl : u / 16 < 16 ^ (n + 1) := Nat.div_lt_of_lt_mul (by rw [Nat.pow_succ, Nat.mul_comm] at h; exact h)
      have h1 := hex_pad n (u / 16) hl
      rw [hex_big hs, hexW, ← h1, List.length_append, List.append_assoc]
      simp
theorem hexW_len : ∀ (n u : Nat), (hexW n u).length = n
  | 0, _ => rfl
  | n + 1, u => by rw [hexW, List.length_append, hexW_len n]; rfl
/-- the first k of sixteen digits. -/
def hexT (u k : Nat) : List UInt8 := hexW k (u / 16 ^ (16 - k))
theorem hexT_zero (u : Nat) : hexT u 0 = [] := rfl
theorem hexT_full (u : Nat) : hexT u 16 = hexW 16 u := by unfold hexT; simp
theorem hexT_step (u k : Nat) (hk : k < 16) : hexT u (k + 1) = hexT u k ++ [hexC (u / 16 ^ (15 - k) % 16)] := by
  unfold hexT
  rw [hexW, show 16 - (k + 1) = 15 - k by omega, Nat.div_div_eq_div_mul, ← Nat.pow_succ, show (15 - k).succ = 16 - k by omega]
end PureHex
