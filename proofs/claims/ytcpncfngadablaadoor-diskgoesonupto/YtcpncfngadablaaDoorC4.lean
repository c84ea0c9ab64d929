import Derived.Test.YtcpncfngadablaaDoorC3
namespace Go.Proofs.YtcpncfngadablaaDoor
open Go.RowKit Go.Deep

theorem FreshB.mono {n m : Nat} {sv : Value} {bs : List Nat} (h : FreshB n sv bs) (hm : m ≤ n) : FreshB m sv bs := ⟨fun x hx => Nat.le_trans hm (h.1 x hx), fun b hb => Nat.le_trans hm (h.2.1 b hb), h.2.2⟩

section
variable {w w' : World} {E : Nat → Addr} {lo p mf mt : Nat} {D : DiskC}

theorem BlocksAt.own_slice {B : Nat} {sv : Value} {bs : List Nat} {blocks : List (List UInt8)} (h : BlocksAt w B sv bs blocks) : ∃ a n c, sv = .slice a n c := by
  rcases h.own.2 with ⟨h1, _⟩ | ⟨g, cap, cur, h1, _⟩
  · exact ⟨none, 0, 0, h1⟩
  · exact ⟨_, _, cap, h1⟩

theorem told_facts {a b : Nat} {u v : Value} {w2 : World} {o : Array Value} (h0 : w.cell? ⟨a, 0, none⟩ = some u) (h1 : w.cell? ⟨a, 1, none⟩ = some v) (ht : Below (w.alloc (.cells o b)).drew.heap.size (w.alloc (.cells o b)).drew w2) :
    w2.cell? ⟨a, 0, none⟩ = some u ∧ w2.cell? ⟨a, 1, none⟩ = some v ∧ (w2.cell? ⟨w.heap.size, 0, none⟩ = o[0]? ∧ w2.cell? ⟨w.heap.size, 1, none⟩ = o[1]? ∧ w2.cell? ⟨w.heap.size, 2, none⟩ = o[2]?) ∧
      (w2.frozen? ⟨w.heap.size, 0, none⟩ = false ∧ w2.frozen? ⟨w.heap.size, 1, none⟩ = false ∧ w2.frozen? ⟨w.heap.size, 2, none⟩ = false) := by
  have la := World.block_lt_of_cell? w _ h0
  have hs : (w.alloc (.cells o b)).drew.heap.size = w.heap.size + 1 := by simp
  have hr : w2.heap[w.heap.size]? = some (.cells o b (0, 0)) := (ht.block _ (by omega)).trans (heap_alloc_new w _)
  have hc : ∀ i x, w.cell? ⟨a, i, none⟩ = some x → w2.cell? ⟨a, i, none⟩ = some x := fun i x h => (ht.cell (p := ⟨a, i, none⟩) (by have : a < w.heap.size := la; show a < _; omega)).trans ((World.cell?_of_block (Below.heap_alloc w _ a la)).trans h)
  exact ⟨hc 0 u h0, hc 1 v h1, ⟨cell_row hr 0, cell_row hr 1, cell_row hr 2⟩, ⟨unfrozen_row hr 0, unfrozen_row hr 1, unfrozen_row hr 2⟩⟩

set_option maxRecDepth 100000 in
set_option maxHeartbeats 400000 in
theorem told_any {B : Nat} {L : Lay} {f : FileA} (hat : FileAt w B L f) (s : ByteArray) (hB1 : 64 ≤ B) (hB2 : B ≤ 65536) (hn : f.blocks.length ≤ 1099511627776) :
    Calls Tryd.prog 30 #[ptr L.fb, .string s] w fun e w' => ∃ sv' bs', e = .returned (.agg #[.string s, .bool f.shut, sv']) ∧ BlocksAt w' B sv' bs' f.blocks ∧ FreshB w.heap.size sv' bs' ∧ Below w.heap.size w w' := by
  have hrow := hat.row
  have lfb := lt_of_block hrow
  have c0 := cell_row hrow 0
  have c1 := cell_row hrow 1
  simp at c0 c1
  have HC := hid (fun (o : Obj) => copyBlocks_any (w := (w.alloc o).drew) (((hat.kept fun b hb => Below.heap_alloc w o b (hat.lt b hb)).blocksAt).kept fun _ _ => rfl) hB1 hB2 hn)
  clear hat hrow
  obtain ⟨x, hx, c0'⟩ : ∃ x : Int, (x == 1) = f.shut ∧ w.cell? ⟨L.fb, 0, none⟩ = some (.int .i64 x) := by
    cases hs : f.shut
    · rw [hs] at c0; exact ⟨0, by decide, by simpa using c0⟩
    · rw [hs] at c0; exact ⟨1, by decide, by simpa using c0⟩
  clear c0
  have hnw := World.new_ne w ⟨L.fb, 0, none⟩ c0'
  have hnw1 := World.new_ne w ⟨L.fb, 1, none⟩ c1
  go_enter Tryd.func30, Tryd.ntmps30
  go_wp2
  go_region_held3 (fun W => W.cell? ⟨L.fb, 0, none⟩ = some (.int .i64 x) ∧ W.cell? ⟨L.fb, 1, none⟩ = some L.sv) (go_keep)
    (first | (go_at_call 51; refine (HC.out _).mono ?_; rintro e w2 ⟨sv', bs', rfl, hb2, hf2, ht2⟩; have HB2 := hid hb2; have HF2 := hid hf2; have HT2 := hid ht2; obtain ⟨v0, v1, ⟨q0, q1, q2⟩, ⟨z0, z1, z2⟩⟩ := told_facts c0' c1 ht2; obtain ⟨ga, gn, gc, hsv'⟩ := hb2.own_slice; clear hb2 hf2 ht2))
  go_wp2
  refine bodyPost_ret (v := .agg #[.string s, .bool f.shut, .slice ga gn gc]) (by simp [results, Tryd.results30, go_sem, q0, q1, q2]) rfl ⟨sv', bs', by rw [hsv'], ?_, HF2.out.mono (by simp), ?_⟩
  · refine HB2.out.kept fun b hb => ?_
    have hbn : b ≠ w.heap.size := by
      have h1 := HF2.out.1 b
      have h2 := HF2.out.2.1 b
      have hz : (w.alloc (.cells #[.string ⟨#[]⟩, .bool false, .slice none 0 0] 75)).drew.heap.size = w.heap.size + 1 := by simp
      rcases hb with h | h
      · have := h1 h; omega
      · have := h2 h; omega
    rw [Below.heap_setCell _ _ _ _ hbn, Below.heap_setCell _ _ _ _ hbn, Below.heap_setCell _ _ _ _ hbn]
  · have hb0 : Below w.heap.size w w2 := ((Below.refl _ w).alloc (Nat.le_refl _) _).drew.trans (HT2.out.mono (by simp))
    exact ((hb0.setCell (Nat.le_refl _) _).setCell (Nat.le_refl _) _).setCell (Nat.le_refl _) _
end
end Go.Proofs.YtcpncfngadablaaDoor
