import Derived.Test.YtcpncfngadablaaDoorA7
import Derived.Deep.RegionHeld3
namespace Go.Proofs.YtcpncfngadablaaDoor
open Go.RowKit Go.Deep

section
variable {w w' : World} {E : Nat → Addr} {lo p mf mt : Nat} {D : DiskC}

theorem file_store {W : World} {n : Nat} {Dm : DataW Unit} (h : W.ownsMap Tryd.prog 9 ptrElem mf n Dm) (hn : n ≤ 1099511627776) {s : ByteArray} (hs : s.size ≤ 32) (fb : Nat) :
    ∃ w2, (Instr.mapUpdate 69 (.map (some mf)) (.string s) (.pointer (some ⟨fb, 0, none⟩))).run Tryd.prog W = .ok () w2 ∧ w2.ownsMap Tryd.prog 9 ptrElem mf (n + 1) (Dm.put (.string (nm s)) (.lit (.int .i64 fb))) ∧ W.grownBy w2 (some mf) := by
  obtain ⟨w2, h1, h2, h3⟩ := h.store (t := 69) (e := 76) (Maps.string_keyed Tryd.underlying9) Tryd.underlying69 (by unfold maxLen; omega) (WideMaps.keyOf_string_mk Tryd.underlying9 (s := s) (by unfold maxLen; omega)) (val := .pointer (some ⟨fb, 0, none⟩)) (d := .lit (.int .i64 fb)) (ps := []) rfl
  exact ⟨w2, h1, h2, h3.grown⟩

theorem two_stores {X w1 : World} {bd bn : Nat} (ht : Touch [] w X) (R : Rep w lo p mf mt D) (hn : D.ents.length ≤ 1099511627776) {s : ByteArray} (hs : s.size ≤ 32) (hbd : w.heap[bd]? = some (.cells #[ptr p] 23 (0, 0))) (hbn : w.heap[bn]? = some (.cells #[.string s] 9 (0, 0))) (hb : Below X.heap.size X w1) (fb : Nat) :
    ∃ wA wB, (Instr.mapUpdate 69 (.map (some mf)) (.string s) (.pointer (some ⟨w1.heap.size, 0, none⟩))).run Tryd.prog (w1.alloc (.cells #[.int .i64 0, .slice none 0 0] 97)) = .ok () wA ∧
      wA.ownsMap Tryd.prog 9 ptrElem mf (D.ents.length + 1) ((mapOf D.ents).put (.string (nm s)) (.lit (.int .i64 w1.heap.size))) ∧ (w1.alloc (.cells #[.int .i64 0, .slice none 0 0] 97)).grownBy wA (some mf) ∧
      (Instr.mapUpdate 69 (.map (some mf)) (.string s) (.pointer (some ⟨fb, 0, none⟩))).run Tryd.prog w1 = .ok () wB ∧ wB.ownsMap Tryd.prog 9 ptrElem mf (D.ents.length + 1) ((mapOf D.ents).put (.string (nm s)) (.lit (.int .i64 fb))) ∧ w1.grownBy wB (some mf) ∧
      w1.cell? ⟨p, 3, none⟩ = some (.map (some mf)) ∧ w1.cell? ⟨bd, 0, none⟩ = some (ptr p) ∧ w1.cell? ⟨bn, 0, none⟩ = some (.string s) ∧ (p < w1.heap.size ∧ bd < w1.heap.size ∧ bn < w1.heap.size) ∧ (wA.cell? ⟨p, 3, none⟩ = some (.map (some mf)) ∧ wA.cell? ⟨bd, 0, none⟩ = some (ptr p) ∧ wA.cell? ⟨bn, 0, none⟩ = some (.string s)) ∧ (wB.cell? ⟨p, 3, none⟩ = some (.map (some mf)) ∧ wB.cell? ⟨bd, 0, none⟩ = some (ptr p) ∧ wB.cell? ⟨bn, 0, none⟩ = some (.string s)) ∧ Hid (Touch [] w w1) ∧ Hid (∀ b, b < X.heap.size → w1.heap[b]? = X.heap[b]?) := by
  have hT : Touch [] w w1 := ht.trans (Touch.of_below (F := []) hb (Nat.le_refl _)) (by simp)
  have h1 := ownsMap_kept R.files (hT.block mf R.files.lt (by simp))
  obtain ⟨wA, a1, a2, a3⟩ := file_store (h1.alloc (.cells #[.int .i64 0, .slice none 0 0] 97)) hn hs w1.heap.size
  obtain ⟨wB, b1, b2, b3⟩ := file_store h1 hn hs fb
  have q1 : w1.cell? ⟨p, 3, none⟩ = some (.map (some mf)) := by rw [hT.cell (p := ⟨p, 3, none⟩) (lt_of_block R.row) (by simp), R.cell 3]; rfl
  have q2 : w1.cell? ⟨bd, 0, none⟩ = some (ptr p) := by rw [hT.cell (p := ⟨bd, 0, none⟩) (lt_of_block hbd) (by simp), cell_row hbd]; rfl
  have q3 : w1.cell? ⟨bn, 0, none⟩ = some (.string s) := by rw [hT.cell (p := ⟨bn, 0, none⟩) (lt_of_block hbn) (by simp), cell_row hbn]; rfl
  have l1 := Nat.lt_of_lt_of_le (lt_of_block R.row) hT.size
  have l2 := Nat.lt_of_lt_of_le (lt_of_block hbd) hT.size
  have l3 := Nat.lt_of_lt_of_le (lt_of_block hbn) hT.size
  obtain ⟨es, clock, hes, _⟩ := R.files
  have n1 : some p ≠ some mf := by simp [R.p_ne.2.1]
  have n2 : some bd ≠ some mf := by intro e; simp at e; subst e; rw [hes] at hbd; simp at hbd
  have n3 : some bn ≠ some mf := by intro e; simp at e; subst e; rw [hes] at hbn; simp at hbn
  have al : ∀ b o v, b < w1.heap.size → w1.cell? ⟨b, o, none⟩ = some v → (w1.alloc (.cells #[.int .i64 0, .slice none 0 0] 97)).cell? ⟨b, o, none⟩ = some v := fun b o v hlt hv => (World.cell?_of_block (Below.heap_alloc w1 _ b hlt)).trans hv
  exact ⟨wA, wB, a1, a2, a3, b1, b2, b3, q1, q2, q3, ⟨l1, l2, l3⟩, ⟨a3.cell (al _ _ _ l1 q1) n1, a3.cell (al _ _ _ l2 q2) n2, a3.cell (al _ _ _ l3 q3) n3⟩, ⟨b3.cell q1 n1, b3.cell q2 n2, b3.cell q3 n3⟩, hT, fun b hlt => hb.block b hlt⟩

set_option maxRecDepth 100000 in
set_option maxHeartbeats 400000 in
theorem create1_any (R : Rep w lo p mf mt D) {s : ByteArray} (k : Int) (bd bn : Nat) (hs : s.size ≤ 32) (hfind : findE D.ents (nm s) = none) (hlo : lo ≤ w.heap.size) (hsmall : D.ents.length ≤ 1099511627776)
    (hbd : w.heap[bd]? = some (.cells #[ptr p] 23 (0, 0))) (hbn : w.heap[bn]? = some (.cells #[.string s] 9 (0, 0))) :
    Calls Tryd.prog 58 #[.int .i64 k, ptr bd, ptr bn] w fun e w' => e = .returned (.tuple #[]) ∧ (∃ fb, w.heap.size ≤ fb ∧ Rep w' lo p mf mt { D with ents := insE ⟨nm s, ⟨false, []⟩, ⟨fb, .slice none 0 0, []⟩⟩ D.ents }) ∧ Touch [mf] w w' := by
  have k3 := R.cell 3
  simp only [dRow] at k3
  have cd := cell_row hbd 0
  have cn := cell_row hbn 0
  simp at cd cn
  go_enter Tryd.func58, Tryd.ntmps58
  go_wp2
  have hmf := R.files.lt
  have hp := lt_of_block R.row
  have lbd := lt_of_block hbd
  have lbn := lt_of_block hbn
  have HF := hid R.files
  have HN := hid hfind
  clear hfind
  have HR := hid R
  clear R HF
  go_region_held3 (fun W => W.cell? ⟨p, 3, none⟩ = some (.map (some mf)) ∧ W.cell? ⟨bd, 0, none⟩ = some (ptr p) ∧ W.cell? ⟨bn, 0, none⟩ = some (.string s)) (go_keep)
    (first | (go_at_call 33; refine (ownName_any s _ (by omega)).mono ?_; rintro e w1 ⟨rfl, hb1⟩; obtain ⟨wA, wB, hA, mA, tA, hB, mB, tB, z1, z2, z3, ⟨z4, z5, z6⟩, ⟨y1, y2, y3⟩, ⟨x1, x2, x3⟩, hT1, hX⟩ := two_stores (by first | exact (Touch.refl _ _).drew | exact ((Touch.refl _ _).drew).alloc _ | exact ((Touch.refl _ _).alloc _).drew) HR.out hsmall hs hbd hbn hb1 w.heap.size; clear hb1))
  · go_wp2
    go_end0
    have hm1 : mf ≠ w1.heap.size := by have := hT1.out.size; omega
    have ht : Touch [mf] w wA := ((hT1.out.mono (by simp)).alloc _).grown tA (by simp)
    refine ⟨rfl, ⟨w1.heap.size, hT1.out.size, HR.out.insert hs HN.out ht hT1.out.size (Nat.le_trans hlo hT1.out.size) ?_ mA⟩, ht⟩
    rw [tA.block _ (by simp) (by simpa using hm1.symm)]
    exact heap_alloc_new w1 _
  · go_wp2
    go_end0
    have ht : Touch [mf] w wB := (hT1.out.mono (by simp)).grown tB (by simp)
    have h1 : w.heap.size < w1.heap.size := by
      have h2 := hX.out w.heap.size (by simp)
      have h3 : (w.alloc (.cells #[.int .i64 0, .slice none 0 0] 97)).drew.heap[w.heap.size]? = some (.cells #[.int .i64 0, .slice none 0 0] 97) := heap_alloc_new w _
      rw [h3] at h2
      exact lt_of_block h2
    refine ⟨rfl, ⟨w.heap.size, Nat.le_refl _, HR.out.insert hs HN.out ht (Nat.le_refl _) hlo ?_ mB⟩, ht⟩
    rw [tB.block _ h1 (by simp; omega), hX.out w.heap.size (by simp)]
    exact heap_alloc_new w _
end
end Go.Proofs.YtcpncfngadablaaDoor
