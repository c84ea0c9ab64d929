/-
  Numbers in bytes: Fit, mayAsk, get, put.
-/
import Derived.Test.YtfodpeiecmbojaaRows
import Derived.Test.YtfodpeiecmbojaaBurst
import Derived.WalkKit
import Derived.WalkSpells
import Derived.WalkLawsBesides
import Derived.Laws.BitsLemmas
import Derived.Laws.BitsAllLaws
import Derived.Laws.ShiftsVarLaws
import Derived.Deep.QuietTactic
import Derived.Deep.RegionWith
import Derived.Deep.OwnRows
import Derived.Laws.LoneSync
import Derived.Below
import Derived.Defers
namespace Go.Proofs.Ytfodpeiecmbojaa
open Go.RowKit Go.Deep PureCrc

theorem hid {q : Prop} (h : q) : Hid q := h
theorem Hid.out {q : Prop} (h : Hid q) : q := h

/-! ### what a run may have touched -/
/-- Since the world a, nothing below its heap's size has turned but blocks of F. -/
structure Touch (F : List Nat) (a w : World) : Prop where
  os : w.os = a.os
  tape : w.tape = a.tape
  output : w.output = a.output
  size : a.heap.size ≤ w.heap.size
  block : ∀ k, k < a.heap.size → k ∉ F → w.heap[k]? = a.heap[k]?

section
variable {F G : List Nat} {a w w' : World}
theorem Touch.refl (F : List Nat) (w : World) : Touch F w w := ⟨rfl, rfl, rfl, Nat.le_refl _, fun _ _ _ => rfl⟩
theorem Touch.trans (h : Touch F a w) (k : Touch G w w') (hG : ∀ b ∈ G, b ∈ F ∨ a.heap.size ≤ b) : Touch F a w' :=
  ⟨k.os.trans h.os, k.tape.trans h.tape, k.output.trans h.output, Nat.le_trans h.size k.size, fun b hb hF =>
    (k.block b (Nat.lt_of_lt_of_le hb h.size) (fun hg => by rcases hG b hg with h1 | h1; exact hF h1; omega)).trans (h.block b hb hF)⟩
theorem Touch.mono (h : Touch F a w) (hG : ∀ b ∈ F, b ∈ G) : Touch G a w := ⟨h.os, h.tape, h.output, h.size, fun b hb hg => h.block b hb (fun hf => hg (hG b hf))⟩
theorem Touch.drew (h : Touch F a w) : Touch F a w.drew := ⟨h.os, h.tape, h.output, h.size, h.block⟩
theorem Touch.drewN (h : Touch F a w) (n : Nat) : Touch F a (w.drewN n) := ⟨h.os, h.tape, h.output, h.size, h.block⟩
theorem Touch.alloc (h : Touch F a w) (o : Obj) : Touch F a (w.alloc o) :=
  ⟨h.os, h.tape, h.output, Nat.le_trans h.size (by simp), fun b hb hF => (Below.heap_alloc w o b (Nat.lt_of_lt_of_le hb h.size)).trans (h.block b hb hF)⟩
theorem Touch.setCell (h : Touch F a w) {p : Addr} (hp : p.block ∈ F ∨ a.heap.size ≤ p.block) (u : Value) : Touch F a (w.setCell p u) :=
  ⟨h.os, h.tape, h.output, Nat.le_trans h.size (by simp [World.setCell]), fun b hb hF => (Below.heap_setCell w p u b (fun e => by subst e; rcases hp with h1 | h1; exact hF h1; omega)).trans (h.block b hb hF)⟩
theorem Touch.below (h : Touch F a w) {B : Nat} (hB : B ≤ a.heap.size) (hF : ∀ b ∈ F, B ≤ b) : Below B a w := ⟨h.os, h.tape, h.output, h.size, fun b hb => h.block b (by omega) (fun hf => by have := hF b hf; omega)⟩
theorem Touch.of_below {B : Nat} (h : Below B w w') (hB : w.heap.size ≤ B) : Touch F w w' := ⟨h.os, h.tape, h.output, h.size, fun b hb _ => h.block b (by omega)⟩
theorem Touch.cell (h : Touch F a w) {p : Addr} (hp : p.block < a.heap.size) (hF : p.block ∉ F) : w.cell? p = a.cell? p := World.cell?_of_block (h.block _ hp hF)
end

/-! ### rows -/
theorem cell_row {w : World} {b : Nat} {c : Array Value} {t : TypeId} {fz : Nat × Nat} (h : w.heap[b]? = some (.cells c t fz)) (i : Nat) : w.cell? ⟨b, i, none⟩ = c[i]? := by simp [World.cell?, h]
theorem unfrozen_row {w : World} {b : Nat} {c : Array Value} {t : TypeId} (h : w.heap[b]? = some (.cells c t (0, 0))) (i : Nat) : w.frozen? ⟨b, i, none⟩ = false := by simp [World.frozen?, h]
theorem heap_setCell_row {w : World} {b : Nat} {c : Array Value} {t : TypeId} {fz : Nat × Nat} (h : w.heap[b]? = some (.cells c t fz)) (i : Nat) (v : Value) :
    (w.setCell ⟨b, i, none⟩ v).heap[b]? = some (.cells (c.setIfInBounds i v) t fz) := by
  have hb := (Array.getElem?_eq_some_iff.1 h).1
  simp [World.setCell, Array.getElem?_modify, h]
theorem lt_of_block {w : World} {b : Nat} {o : Obj} (h : w.heap[b]? = some o) : b < w.heap.size := (Array.getElem?_eq_some_iff.1 h).1

/-- bytes as cells. -/
def bc (l : List Nat) : Array Value := (l.map fun x : Nat => Value.int .u8 (x : Int)).toArray
/-- a row of bytes. -/
abbrev Row (w : World) (b : Nat) (l : List Nat) : Prop := w.heap[b]? = some (.cells (bc l) 5 (0, 0))
/-- bytes that can be read there. -/
def Rd (w : World) (b o : Nat) (l : List Nat) : Prop := ∀ i (h : i < l.length), w.cell? ⟨b, o + i, none⟩ = some (.int .u8 (l[i] : Int))

theorem bc_set (l : List Nat) (i v : Nat) : (bc l).setIfInBounds i (.int .u8 (v : Int)) = bc (l.set i v) := by
  unfold bc
  rw [List.setIfInBounds_toArray, List.map_set]
theorem bc_get (l : List Nat) (i : Nat) : (bc l)[i]? = l[i]?.map fun x : Nat => Value.int .u8 (x : Int) := by simp [bc]
theorem bc_size (l : List Nat) : (bc l).size = l.length := by simp [bc]
theorem Row.rd {w : World} {b : Nat} {l : List Nat} (h : Row w b l) : Rd w b 0 l := fun i hi => by
  rw [cell_row h, bc_get, Nat.zero_add, List.getElem?_eq_getElem hi]; rfl
theorem Row.set {w : World} {b : Nat} {l : List Nat} (h : Row w b l) (i v : Nat) : Row (w.setCell ⟨b, i, none⟩ (.int .u8 (v : Int))) b (l.set i v) := by
  have := heap_setCell_row h i (.int .u8 (v : Int))
  rw [bc_set] at this
  exact this
theorem Rd.cut {w : World} {b o : Nat} {l : List Nat} (h : Rd w b o l) {a n : Nat} (ha : a + n ≤ l.length) : Rd w b (o + a) (cut l a n) := fun i hi => by
  have hl := cut_length ha
  rw [hl] at hi
  have := h (a + i) (by omega)
  rw [show o + a + i = o + (a + i) by omega, this]
  simp [PureCrc.cut, List.getElem_take, List.getElem_drop]
theorem Rd.touch {w w' : World} {b o : Nat} {l : List Nat} {F : List Nat} (h : Rd w b o l) (ht : Touch F w w') (hb : b < w.heap.size) (hF : b ∉ F) : Rd w' b o l := fun i hi => (ht.cell (p := ⟨b, o + i, none⟩) hb hF).trans (h i hi)

/-! ### Fit, mayAsk -/
def fitN (b : Int) : Int := if 64 ≤ b ∧ b ≤ 65536 ∧ b % 32 = 0 then b / 32 - 1 else 0

set_option maxHeartbeats 400000 in
theorem fit_any (b : Int) (w : World) : Calls Try.prog 12 #[.int .i64 b] w fun e w' => e = .returned (.int .i64 (fitN b)) ∧ w' = w := by
  by_cases h1 : b < 64
  · have HB := hid (show fitN b = 0 by unfold fitN; rw [if_neg (by omega)])
    go_enter Try.func12, Try.ntmps12
    go_wp2
    go_ret
    rw [HB.out]
    exact ⟨rfl, rfl⟩
  · by_cases h2 : b > 65536
    · have HB := hid (show fitN b = 0 by unfold fitN; rw [if_neg (by omega)])
      go_enter Try.func12, Try.ntmps12
      go_wp2
      go_ret
      rw [HB.out]
      exact ⟨rfl, rfl⟩
    · have hm : b.tmod 32 = b % 32 := Int.tmod_eq_emod_of_nonneg (by omega)
      have hq : b.tdiv 32 = b / 32 := Int.tdiv_eq_ediv_of_nonneg (by omega)
      by_cases h3 : b % 32 = 0
      · have HB := hid (show fitN b = b / 32 - 1 by unfold fitN; rw [if_pos (by omega)])
        go_enter Try.func12, Try.ntmps12
        go_wp2
        go_ret
        rw [HB.out]
        exact ⟨rfl, rfl⟩
      · have HB := hid (show fitN b = 0 by unfold fitN; rw [if_neg (by omega)])
        have hne : ¬ b % 32 = 0 := h3
        go_enter Try.func12, Try.ntmps12
        go_wp2
        go_ret
        rw [HB.out]
        exact ⟨rfl, rfl⟩

abbrev mayN (kind place block : Int) : Prop := 1 ≤ kind ∧ kind ≤ 255 ∧ 0 ≤ place ∧ 0 < fitN block

set_option maxHeartbeats 400000 in
theorem may_any (kind place block : Int) (w : World) : Calls Try.prog 25 #[.int .i64 kind, .int .i64 place, .int .i64 block] w fun e w' => e = .returned (.bool (decide (mayN kind place block))) ∧ w' = w := by
  have HF := hid (fun W => fit_any block W)
  by_cases h1 : kind ≥ 1
  · by_cases h2 : kind ≤ 255
    · by_cases h3 : place ≥ 0
      · have HD := hid (show decide (mayN kind place block) = decide (fitN block > 0) by apply decide_eq_decide.2; unfold mayN; omega)
        rw [HD.out]
        go_enter Try.func25, Try.ntmps25
        go_wp2_with (go_at_call 12; refine (HF.out _).mono ?_; rintro e w' ⟨rfl, rfl⟩)
        go_ret
        exact ⟨rfl, rfl⟩
      · have HD := hid (show decide (mayN kind place block) = false by apply decide_eq_false; unfold mayN; omega)
        rw [HD.out]
        go_enter Try.func25, Try.ntmps25
        go_wp2
        go_ret
        exact ⟨rfl, rfl⟩
    · have HD := hid (show decide (mayN kind place block) = false by apply decide_eq_false; unfold mayN; omega)
      rw [HD.out]
      go_enter Try.func25, Try.ntmps25
      go_wp2
      go_ret
      exact ⟨rfl, rfl⟩
  · have HD := hid (show decide (mayN kind place block) = false by apply decide_eq_false; unfold mayN; omega)
    rw [HD.out]
    go_enter Try.func25, Try.ntmps25
    go_wp2
    go_ret
    exact ⟨rfl, rfl⟩
end Go.Proofs.Ytfodpeiecmbojaa
