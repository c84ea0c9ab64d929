import Derived.Test.YtcpncfngadablaaGreatDoorZ26
/-
  The shelf: a list is grown.
-/
namespace Go.Proofs.YtcpncfngadablaaGreatDoor
open Go.RowKit Go.Deep ShfKit
set_option maxRecDepth 100000
section
variable {w W W' : World} {S0 S S' : Sg} {i k n : Nat} {x y : Rw}
theorem Sp.growB (h : Sp w W S0 S) (hx : S.Lb[i]? = some x) {gb cb : Nat} (hv : S.bv = .slice (some ⟨gb, 0, none⟩) n cb) (hn : n = S.Lb.length) (ho : W'.ownsRow 0 5 1 y.1 y.2.1 y.2.2)
    (hf : (y.1.ownBlock = x.1.ownBlock ∧ W.grownBy W' x.1.ownBlock) ∨ ((∀ g, y.1.ownBlock = some g → W.heap.size ≤ g) ∧ W.grownBy W' none)) :
    Sp w (W'.setCell ⟨gb, i, none⟩ y.1) S0 { S with Lb := S.Lb.set i y } ∧ W'.frozen? ⟨gb, i, none⟩ = false ∧ W'.cell? ⟨gb, i, none⟩ = some x.1 ∧ W'.cell? ⟨S0.p, 0, none⟩ = some S.bv ∧ (W'.setCell ⟨gb, i, none⟩ y.1).cell? ⟨S0.p, 0, none⟩ = some S.bv := by
  subst hn
  obtain ⟨s1, s2, s3, s4, s5⟩ := h.at_.turnB hx hv ho hf
  have hs : Sp w (W'.setCell ⟨gb, i, none⟩ y.1) S0 { S with Lb := S.Lb.set i y } := ⟨s1, h.mv.trans s2, h.p, by rw [List.length_set]; exact h.lb, h.lt, h.ls⟩
  exact ⟨hs, s3, s4, by rw [← h.p]; exact s5, hs.cell.1⟩
theorem Sp.growT (h : Sp w W S0 S) (hx : S.Lt[i]? = some x) {gb cb : Nat} (hv : S.tv = .slice (some ⟨gb, 0, none⟩) n cb) (hn : n = S.Lt.length) (ho : W'.ownsRow 0 9 1 y.1 y.2.1 y.2.2)
    (hf : (y.1.ownBlock = x.1.ownBlock ∧ W.grownBy W' x.1.ownBlock) ∨ ((∀ g, y.1.ownBlock = some g → W.heap.size ≤ g) ∧ W.grownBy W' none)) :
    Sp w (W'.setCell ⟨gb, i, none⟩ y.1) S0 { S with Lt := S.Lt.set i y } ∧ W'.frozen? ⟨gb, i, none⟩ = false ∧ W'.cell? ⟨gb, i, none⟩ = some x.1 ∧ W'.cell? ⟨S0.p, 1, none⟩ = some S.tv ∧ (W'.setCell ⟨gb, i, none⟩ y.1).cell? ⟨S0.p, 1, none⟩ = some S.tv := by
  subst hn
  obtain ⟨s1, s2, s3, s4, s5⟩ := h.at_.turnT hx hv ho hf
  have hs : Sp w (W'.setCell ⟨gb, i, none⟩ y.1) S0 { S with Lt := S.Lt.set i y } := ⟨s1, h.mv.trans s2, h.p, h.lb, by rw [List.length_set]; exact h.lt, h.ls⟩
  exact ⟨hs, s3, s4, by rw [← h.p]; exact s5, hs.cell.2.1⟩
theorem Sp.growS {q : Int} (h : Sp w W S0 S) (hx : S.Ls[i]? = some (q, x)) {gb cb : Nat} (hv : S.sv = .slice (some ⟨gb, 0, none⟩) n cb) (hn : n = S.Ls.length) (ho : W'.ownsRow 0 71 3 y.1 y.2.1 y.2.2)
    (hf : (y.1.ownBlock = x.1.ownBlock ∧ W.grownBy W' x.1.ownBlock) ∨ ((∀ g, y.1.ownBlock = some g → W.heap.size ≤ g) ∧ W.grownBy W' none)) :
    Sp w (W'.setCell ⟨gb, i * 2 + 1, none⟩ y.1) S0 { S with Ls := S.Ls.set i (q, y) } ∧ W'.frozen? ⟨gb, i * 2 + 1, none⟩ = false ∧ W'.cell? ⟨gb, i * 2 + 1, none⟩ = some x.1 ∧ W'.cell? ⟨S0.p, 2, none⟩ = some S.sv ∧ (W'.setCell ⟨gb, i * 2 + 1, none⟩ y.1).cell? ⟨S0.p, 2, none⟩ = some S.sv := by
  subst hn
  obtain ⟨s1, s2, s3, s4, s5⟩ := h.at_.turnS hx hv ho hf
  have hs : Sp w (W'.setCell ⟨gb, i * 2 + 1, none⟩ y.1) S0 { S with Ls := S.Ls.set i (q, y) } := ⟨s1, h.mv.trans s2, h.p, h.lb, h.lt, by rw [List.length_set]; exact h.ls⟩
  exact ⟨hs, s3, s4, by rw [← h.p]; exact s5, hs.cell.2.2⟩
theorem MkG.of {v : Value} {news : List Value} (hok : ByteOk x) (hm : Mk1 i x) (hl : x.2.2.length = x.2.1 * 1) (hn : ∀ l, l < 64 → news[l]? = some (.int .u8 (YtcpncfngadablaaGreatDoor.mk ((i : Int) + 1) l))) : MkG i (v, x.2.1 + 64, x.2.2 ++ news) := by
  refine ⟨by show 64 < x.2.1 + 64; have := hok.1; omega, by show x.2.1 + 64 ≤ _; have := hok.2.1; omega, fun l hl2 => ?_⟩
  show (x.2.2 ++ news)[l]? = some (.int .u8 (YtcpncfngadablaaGreatDoor.mk _ (if x.2.1 + 64 - 64 ≤ l then l - (x.2.1 + 64 - 64) else l)))
  have hl3 : l < x.2.1 + 64 := hl2
  rw [Nat.add_sub_cancel]
  by_cases e : x.2.1 ≤ l
  · rw [if_pos e, List.getElem?_append_right (by omega), hl, Nat.mul_one]
    exact hn _ (by omega)
  · rw [if_neg e, List.getElem?_append_left (by omega)]
    exact hm l (by omega)
theorem make64 : ∃ M : Array Value, M.size = 64 ∧ (∀ j, j < 64 → M[j]? = some (.int .u8 0)) ∧ ∀ W : World, (Instr.makeSlice 31 (.int .i64 64) (.int .i64 64)).run Tryz.prog W = .ok (.slice (some ⟨W.heap.size, 0, none⟩) 64 64) (W.alloc (.cells M 5)) := by
  refine ⟨_, ?_, ?_, fun W => run_make_row' (P := Tryz.prog) 31 5 (.int .u8 0) 1 Tryz.underlying31 Tryz.info5 rfl .i64 .i64 64 (by omega) (by omega) W⟩
  · simp [madeCells]
  · intro j hj
    simp [madeCells, hj, Nat.mod_one]
theorem fill_new {g c : Nat} {cs : Array Value} (n : Int) (h : W.heap[g]? = some (.cells cs 5 (0, 0))) (hs : cs.size = 64) (hz : ∀ j, j < 64 → cs[j]? = some (.int .u8 0)) (hg : w.heap.size ≤ g) (hw : w.heap.size ≤ W.heap.size) :
    Calls Tryz.prog 43 #[.slice (some ⟨g, 0, none⟩) 64 c, .int .i64 n] W fun e W' => e = .returned (.tuple #[]) ∧ Below w.heap.size W W' ∧ ∃ news : List Value, news.length = 64 ∧ (∀ l, l < 64 → news[l]? = some (.int .u8 (YtcpncfngadablaaGreatDoor.mk n l))) ∧ (∀ u ∈ news, u.oneCell' = true) ∧ W'.heap[g]? = some (.cells news.toArray 5 (0, 0)) := by
  refine (fill_row (c := c) n h (by omega) (fun j hj => ⟨0, hz j hj⟩) (by omega)).mono ?_
  rintro e W' ⟨rfl, ⟨cs', hr, hs', hm⟩, ht⟩
  have hm2 : ∀ l, l < 64 → cs'.toList[l]? = some (.int .u8 (YtcpncfngadablaaGreatDoor.mk n l)) := fun l hl => by simpa using hm l hl
  refine ⟨rfl, ht.below hw (fun b hb => by simp at hb; omega), cs'.toList, by simp; omega, hm2, fun u hu => ?_, by simpa using hr⟩
  obtain ⟨l, hl, rfl⟩ := List.getElem_of_mem hu
  have := hm2 l (by simp at hl; omega)
  rw [List.getElem?_eq_getElem hl] at this
  rw [Option.some.inj this]
  rfl
end
end Go.Proofs.YtcpncfngadablaaGreatDoor
