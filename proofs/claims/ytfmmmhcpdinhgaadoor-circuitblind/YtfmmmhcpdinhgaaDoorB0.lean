/-
  Rows of lines: made, and written line by line.
-/
import Derived.Test.YtfmmmhcpdinhgaaDoorA5
namespace Go.Proofs.YtfmmmhcpdinhgaaDoor
open Go.RowKit Go.Deep PureNet
set_option maxRecDepth 100000

def gz : Ga := ⟨0, ⟨#[]⟩, 0, 0, 0, 0⟩
theorem made_gates (n : Nat) : madeCells (ga gz).toArray (n * 6) = (gas (List.replicate n gz)).toArray := by
  apply Array.ext
  · simp [madeCells, gas_length]
  · intro i h1 h2
    have hi : i < n * 6 := by simpa [madeCells] using h1
    have h := gas_at (List.replicate n gz) (i / 6) (i % 6) (by simp; omega) (by omega)
    rw [show i / 6 * 6 + i % 6 = i by omega] at h
    simp only [List.getElem_replicate] at h
    have e1 : (gas (List.replicate n gz)).toArray[i]? = (ga gz)[i % 6]? := by simpa using h
    rw [Array.getElem?_eq_getElem h2] at e1
    have e2 : (madeCells (ga gz).toArray (n * 6))[i]? = (ga gz)[i % 6]? := by
      have h6 : i % 6 < (ga gz).length := by show i % 6 < 6; omega
      have e : (ga gz)[i % 6]? = some ((ga gz)[i % 6]) := List.getElem?_eq_getElem h6
      rw [e]
      have : (ga gz).toArray.size = 6 := rfl
      simp [madeCells, hi]
      rw [show (ga gz).length = 6 from rfl, e]
      rfl
    rw [Array.getElem?_eq_getElem h1] at e2
    exact Option.some.inj (e2.trans e1.symm)
theorem make_gates (n : Nat) (hn : n ≤ 1048576) (W : World) : (Instr.makeSlice 24 (.int .i64 (n : Int)) (.int .i64 (n : Int))).run Tryd.prog W = .ok (.slice (some ⟨W.heap.size, 0, none⟩) n n) (W.alloc (.cells (gas (List.replicate n gz)).toArray 38)) := by
  obtain ⟨i, hi, hz0, hz1, hz2⟩ := info_parts info38
  have := run_make (P := Tryd.prog) W 24 38 i _ Tryd.underlying24 hi hz0 .i64 .i64 (n : Int) (n : Int) (by omega) (Int.le_refl _) (by rw [hz2]; omega) (by omega)
  rw [hz1, Int.toNat_natCast] at this
  rw [← made_gates]
  exact this
/-- a line written over six cells. -/
theorem gas_set (D : List Ga) (a : Nat) (g : Ga) (ha : a < D.length) : ((((((gas D).toArray.setIfInBounds (a * 6) (.int .i64 g.kind)).setIfInBounds (a * 6 + 1) (.string g.name)).setIfInBounds (a * 6 + 2) (.int .i64 g.op)).setIfInBounds (a * 6 + 3) (.int .i64 g.a)).setIfInBounds (a * 6 + 4) (.int .i64 g.b)).setIfInBounds (a * 6 + 5) (.int .i64 g.c) = (gas (D.set a g)).toArray := by
  apply Array.ext
  · simp [gas_length]
  · intro i h1 h2
    have hi : i < D.length * 6 := by simpa [gas_length] using h1
    have h := gas_at (D.set a g) (i / 6) (i % 6) (by simp; omega) (by omega)
    have h0 := gas_at D (i / 6) (i % 6) (by omega) (by omega)
    rw [show i / 6 * 6 + i % 6 = i by omega] at h h0
    have e1 : (gas (D.set a g)).toArray[i]? = (ga ((D.set a g)[i / 6]'(by simp; omega)))[i % 6]? := by simpa using h
    rw [Array.getElem?_eq_getElem h2] at e1
    apply Option.some.inj
    rw [e1, ← Array.getElem?_eq_getElem h1]
    by_cases e : i / 6 = a
    · have e3 : (D.set a g)[i / 6]'(by simp; omega) = g := by simp [e]
      rw [e3]
      have h6 : i % 6 = 0 ∨ i % 6 = 1 ∨ i % 6 = 2 ∨ i % 6 = 3 ∨ i % 6 = 4 ∨ i % 6 = 5 := by omega
      rcases h6 with h6 | h6 | h6 | h6 | h6 | h6 <;> (rw [h6]; simp only [Array.getElem?_setIfInBounds])
      · have : i = a * 6 := by omega
        simp [this, ga, gas_length]; omega
      · have : i = a * 6 + 1 := by omega
        simp [this, ga, gas_length]; omega
      · have : i = a * 6 + 2 := by omega
        simp [this, ga, gas_length]; omega
      · have : i = a * 6 + 3 := by omega
        simp [this, ga, gas_length]; omega
      · have : i = a * 6 + 4 := by omega
        simp [this, ga, gas_length]; omega
      · have : i = a * 6 + 5 := by omega
        simp [this, ga, gas_length]; omega
    · have e3 : (D.set a g)[i / 6]'(by simp; omega) = D[i / 6]'(by omega) := by
        rw [List.getElem_set_ne (fun x => e x.symm)]
      rw [e3, ← h0]
      simp only [Array.getElem?_setIfInBounds]
      rw [if_neg (by omega), if_neg (by omega), if_neg (by omega), if_neg (by omega), if_neg (by omega), if_neg (by omega)]
      simp
end Go.Proofs.YtfmmmhcpdinhgaaDoor
