import Derived.Test.YtbanhpohnhjciaaLocks
import Derived.WalkKit
import Derived.WalkSpells
import Derived.WalkLawsBesides
import Derived.Defers
import Derived.Laws.LoneSync
import Derived.Below
import Derived.Deep.QuietTactic
import Derived.Deep.RegionWith
namespace Go.Proofs.Ytbanhpohnhjciaa
open Go.RowKit Go.MuLone

/-! ### what a run may have touched -/
/-- Since the world a, nothing below its heap's size has turned but blocks of F. -/
structure Touch (F : List Nat) (a w : World) : Prop where
  os : w.os = a.os
  tape : w.tape = a.tape
  output : w.output = a.output
  size : a.heap.size ≤ w.heap.size
  block : ∀ k, k < a.heap.size → k ∉ F → w.heap[k]? = a.heap[k]?

section
variable {F G : List Nat} {a w w' : World}
theorem Touch.refl (F : List Nat) (w : World) : Touch F w w := ⟨rfl, rfl, rfl, Nat.le_refl _, fun _ _ _ => rfl⟩
theorem Touch.trans (h : Touch F a w) (k : Touch G w w') (hG : ∀ b ∈ G, b ∈ F ∨ a.heap.size ≤ b) : Touch F a w' :=
  ⟨k.os.trans h.os, k.tape.trans h.tape, k.output.trans h.output, Nat.le_trans h.size k.size, fun b hb hF =>
    (k.block b (Nat.lt_of_lt_of_le hb h.size) (fun hg => by rcases hG b hg with h1 | h1; exact hF h1; omega)).trans (h.block b hb hF)⟩
theorem Touch.mono (h : Touch F a w) (hG : ∀ b ∈ F, b ∈ G) : Touch G a w := ⟨h.os, h.tape, h.output, h.size, fun b hb hg => h.block b hb (fun hf => hg (hG b hf))⟩
theorem Touch.drew (h : Touch F a w) : Touch F a w.drew := ⟨h.os, h.tape, h.output, h.size, h.block⟩
theorem Touch.drewN (h : Touch F a w) (n : Nat) : Touch F a (w.drewN n) := ⟨h.os, h.tape, h.output, h.size, h.block⟩
theorem Touch.alloc (h : Touch F a w) (o : Obj) : Touch F a (w.alloc o) :=
  ⟨h.os, h.tape, h.output, Nat.le_trans h.size (by simp), fun b hb hF => (Below.heap_alloc w o b (Nat.lt_of_lt_of_le hb h.size)).trans (h.block b hb hF)⟩
theorem Touch.setCell (h : Touch F a w) {p : Addr} (hp : p.block ∈ F ∨ a.heap.size ≤ p.block) (u : Value) : Touch F a (w.setCell p u) :=
  ⟨h.os, h.tape, h.output, Nat.le_trans h.size (by simp [World.setCell]), fun b hb hF => (Below.heap_setCell w p u b (fun e => by subst e; rcases hp with h1 | h1; exact hF h1; omega)).trans (h.block b hb hF)⟩
theorem Touch.grown {row : Option Nat} (h : Touch F a w) (hg : w.grownBy w' row) (hr : ∀ k, row = some k → k ∈ F ∨ a.heap.size ≤ k) : Touch F a w' :=
  ⟨hg.os.trans h.os, hg.tape.trans h.tape, hg.output.trans h.output, Nat.le_trans h.size hg.size, fun b hb hF =>
    (hg.block b (Nat.lt_of_lt_of_le hb h.size) (fun e => by rcases hr b e.symm with h1 | h1; exact hF h1; omega)).trans (h.block b hb hF)⟩
theorem Touch.below (h : Touch F a w) {B : Nat} (hB : B ≤ a.heap.size) (hF : ∀ b ∈ F, B ≤ b) : Below B a w := ⟨h.os, h.tape, h.output, h.size, fun b hb => h.block b (by omega) (fun hf => by have := hF b hf; omega)⟩
end

theorem hid {q : Prop} (h : q) : Hid q := h

/-! ### rows -/
theorem cell_row {w : World} {b : Nat} {c : Array Value} {t : TypeId} {fz : Nat × Nat} (h : w.heap[b]? = some (.cells c t fz)) (i : Nat) : w.cell? ⟨b, i, none⟩ = c[i]? := by simp [World.cell?, h]
theorem unfrozen_row {w : World} {b : Nat} {c : Array Value} {t : TypeId} (h : w.heap[b]? = some (.cells c t (0, 0))) (i : Nat) : w.frozen? ⟨b, i, none⟩ = false := by simp [World.frozen?, h]
theorem heap_setCell_row {w : World} {b : Nat} {c : Array Value} {t : TypeId} {fz : Nat × Nat} (h : w.heap[b]? = some (.cells c t fz)) (i : Nat) (v : Value) :
    (w.setCell ⟨b, i, none⟩ v).heap[b]? = some (.cells (c.setIfInBounds i v) t fz) := by
  have hb := (Array.getElem?_eq_some_iff.1 h).1
  simp [World.setCell, Array.getElem?_modify, h]
theorem lt_of_block {w : World} {b : Nat} {o : Obj} (h : w.heap[b]? = some o) : b < w.heap.size := (Array.getElem?_eq_some_iff.1 h).1

abbrev ptr (b : Nat) : Value := .pointer (some ⟨b, 0, none⟩)

/-- What a purse keeps. -/
structure St where
  limit : Int
  lb : Nat
  whole : Value
  hand : Int
  lent : Int
  parts : Int
  closed : Bool
  peak : Int

abbrev St.row (s : St) : Array Value := #[.int .i64 s.limit, ptr s.lb, s.whole, .int .i64 s.hand, .int .i64 s.lent, .int .i64 s.parts, .bool s.closed, .int .i64 s.peak]

/-- its numbers are right. -/
structure St.Good (s : St) : Prop where
  hand : 0 ≤ s.hand
  lent : 0 ≤ s.lent
  out : s.hand + s.lent ≤ s.limit
  limit : s.limit ≤ 9223372036854775807
  parts : 0 ≤ s.parts
  partsLe : s.parts ≤ 4611686018427387904
  peak : s.hand + s.lent ≤ s.peak
  peakLe : s.peak ≤ s.limit

abbrev PurseAt (w : World) (b : Nat) (s : St) : Prop := w.heap[b]? = some (.cells s.row 60 (0, 0))
abbrev LockAt (w : World) (lb : Nat) (k : Int) : Prop := w.heap[lb]? = some (.cells #[.int .i32 k, .int .u32 0] 54 (0, 0))

def moveE (s : St) (n : Int) : Int := if s.closed then 6 else if n < 0 then 1 else 0
def leaveE (s : St) (n : Int) : Int := if s.closed then 6 else if n < 0 then 1 else if n > s.limit - (s.hand + s.lent) then 2 else 0
def giveE (s : St) (n : Int) : Int := if s.closed then 6 else if n < 0 then 1 else if n > s.hand then 20 else 0

section
variable {w : World} {b : Nat} {s : St}

set_option maxRecDepth 100000 in
set_option maxHeartbeats 400000 in
theorem mayMove_any (h : PurseAt w b s) (n : Int) : Calls Try.prog 23 #[ptr b, .int .i64 n] w fun e w' => e = .returned (.int .i64 (moveE s n)) ∧ w' = w := by
  have c := fun i => cell_row h i
  clear h
  cases hc : s.closed with
  | true =>
    have HB := hid (show moveE s n = 6 by simp [moveE, hc])
    go_enter Try.func23, Try.ntmps23
    go_wp2
    go_ret
    rw [HB.out]
    exact ⟨rfl, rfl⟩
  | false =>
    by_cases hn : n < 0
    · have HB := hid (show moveE s n = 1 by simp [moveE, hc, hn])
      go_enter Try.func23, Try.ntmps23
      go_wp2
      go_ret
      rw [HB.out]
      exact ⟨rfl, rfl⟩
    · have HB := hid (show moveE s n = 0 by simp [moveE, hc, hn])
      go_enter Try.func23, Try.ntmps23
      go_wp2
      go_ret
      rw [HB.out]
      exact ⟨rfl, rfl⟩
end
end Go.Proofs.Ytbanhpohnhjciaa
