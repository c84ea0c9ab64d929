import Derived.Test.YtcpncfngadablaaDoorB5
import Derived.Test.YtcpncfngadablaaDoorB8
namespace Go.Proofs.YtcpncfngadablaaDoor
open Go.RowKit Go.Deep

section
variable {w w' : World} {E : Nat → Addr} {lo p mf mt : Nat} {D : DiskC}

/-- the block's length of 'sane'. -/
def saneB (n : Int) : Int := 64 + 32 * (n % 4)

theorem sane_num (n : Int) : (0 ≤ n.tmod 4 ∧ n.tmod 4 = n % 4 ∧ n.tmod 4 ≤ 3) ∨ (n.tmod 4 < 0 ∧ n.tmod 4 + 4 = n % 4 ∧ -3 ≤ n.tmod 4) := by
  by_cases h : 0 ≤ n
  · rw [Int.tmod_eq_emod_of_nonneg h]
    omega
  · have h1 : n.tmod 4 = -((-n) % 4) := by
      have e : n = -(-n) := by omega
      rw [e, Int.neg_tmod, Int.tmod_eq_emod_of_nonneg (by omega)]
      simp
    rw [h1]
    omega

set_option maxRecDepth 100000 in
set_option maxHeartbeats 400000 in
theorem sane_any (n : Int) (w : World) :
    Calls Tryd.prog 6 #[.int .i64 n] w fun e w' => e = .returned (.agg #[.int .i64 (saneB n), .int .i64 1099511627776, .slice none 0 0]) ∧ Below w.heap.size w w' := by
  have hm := sane_num n
  rcases hm with ⟨h1, h2, h3⟩ | ⟨h1, h2, h3⟩
  · have HB : Hid (64 + 32 * n.tmod 4 = saneB n) := by show _ = _; unfold saneB; rw [h2]
    clear h2
    go_enter Tryd.func6, Tryd.ntmps6
    go_wp2
    refine bodyPost_ret (v := .agg #[.int .i64 (64 + 32 * n.tmod 4), .int .i64 1099511627776, .slice none 0 0]) (by simp [results, Tryd.results6, go_sem]) rfl ?_
    rw [HB.out]
    exact ⟨rfl, (Below.refl _ w).alloc (Nat.le_refl _) _⟩
  · have HB : Hid (64 + 32 * (n.tmod 4 + 4) = saneB n) := by show _ = _; unfold saneB; rw [h2]
    clear h2
    go_enter Tryd.func6, Tryd.ntmps6
    go_wp2
    refine bodyPost_ret (v := .agg #[.int .i64 (64 + 32 * (n.tmod 4 + 4)), .int .i64 1099511627776, .slice none 0 0]) (by simp [results, Tryd.results6, go_sem]) rfl ?_
    rw [HB.out]
    exact ⟨rfl, (Below.refl _ w).alloc (Nat.le_refl _) _⟩

set_option maxRecDepth 100000 in
set_option maxHeartbeats 400000 in
theorem checkSetup_ok {B : Int} {Bs : Int} {v : Value} {ga : Option Addr} {gn gc : Nat} (hv : v = .slice ga gn gc) (h1 : 64 ≤ B) (h2 : B ≤ 65536) (h3 : B % 32 = 0) (h4 : 0 ≤ Bs) (h5 : Bs ≤ 1099511627776) (w : World) :
    Calls Tryd.prog 16 #[.agg #[.int .i64 B, .int .i64 Bs, v]] w fun e w' => e = .returned .nilIface ∧ Below w.heap.size w w' := by
  subst hv
  have h3' : (B.tmod 32 != 0) = false := by rw [Int.tmod_eq_emod_of_nonneg (by omega), h3]; decide
  go_enter Tryd.func16, Tryd.ntmps16
  go_wp2
  go_ret
  exact ⟨rfl, (Below.refl _ w).alloc (Nat.le_refl _) _⟩

set_option maxRecDepth 100000 in
set_option maxHeartbeats 400000 in
theorem byCall_nil (w : World) :
    Calls Tryd.prog 40 #[.slice none 0 0] w fun e w' => e = .returned (.map (some w.heap.size)) ∧ w' = w.alloc (.map #[] 0) := by
  have hmm := @run_makeMap Tryd.prog
  go_enter Tryd.func40, Tryd.ntmps40
  go_wp2
  refine wp_loop_rounds 1 ?_
  rw [rounds_succ]
  go_wp2
  go_ret
  exact ⟨rfl, rfl⟩

/-- a new disk. -/
def DiskC.new (B : Nat) (Bs : Int) : DiskC := ⟨B, Bs, true, [], .map [], ⟨0, 0, 0, 0, 0, 0, 0⟩⟩

theorem Rep.new {B : Nat} {Bs : Int} (hrow : w.heap[p]? = some (.cells (dRow (.new B Bs) mf mt) 72 (0, 0))) (hf : w.ownsMap Tryd.prog 9 ptrElem mf 0 (.map [])) (ht : w.ownsMap Tryd.prog 3 trElem mt 0 (.map [])) (h1 : p ≠ mf) (h2 : p ≠ mt) (h3 : mf ≠ mt) (hb : lo ≤ p ∧ lo ≤ mf ∧ lo ≤ mt) : Rep w lo p mf mt (.new B Bs) :=
  ⟨hrow, hf, ⟨0, ht⟩, by simp [DiskC.new], by simp [DiskC.foot, DiskC.new, h1, h2, h3], by simp [DiskC.foot, DiskC.new]; exact hb, by simp [DiskC.new]⟩

theorem empty_map (w : World) (b : Nat) (k : TypeId) (R : Value → Option (DataW Unit × List MemPlace)) (h : w.heap[b]? = some (.map #[] 0)) : w.ownsMap Tryd.prog k R b 0 (.map []) :=
  ⟨#[], 0, h, ⟨by simp, MapKept.stamped_empty 0, by simp⟩, Nat.le_refl _, rfl⟩

theorem heap_four (w : World) (o1 o2 o3 o4 : Obj) : ((((w.alloc o1).alloc o2).alloc o3).alloc o4).heap[w.heap.size + 1]? = some o2 ∧ ((((w.alloc o1).alloc o2).alloc o3).alloc o4).heap[w.heap.size + 1 + 1]? = some o3 ∧ ((((w.alloc o1).alloc o2).alloc o3).alloc o4).heap[w.heap.size + 1 + 1 + 1]? = some o4 := by
  have h1 : (w.alloc o1).heap.size = w.heap.size + 1 := by simp
  have h2 : ((w.alloc o1).alloc o2).heap.size = w.heap.size + 1 + 1 := by simp
  have h3 : (((w.alloc o1).alloc o2).alloc o3).heap.size = w.heap.size + 1 + 1 + 1 := by simp
  have a := heap_two (w.alloc o1) o2 o3
  rw [h1] at a
  refine ⟨?_, ?_, ?_⟩
  · rw [Below.heap_alloc _ _ _ (by omega)]; exact a.1
  · rw [Below.heap_alloc _ _ _ (by omega)]; exact a.2
  · rw [← h3]; exact heap_alloc_new _ _

theorem new_rep {B : Nat} {Bs : Int} (w : World) (o : Obj) (mf mt : Nat) (h : (mf = w.heap.size + 1 ∧ mt = w.heap.size + 1 + 1) ∨ (mf = w.heap.size + 1 + 1 ∧ mt = w.heap.size + 1)) :
    Rep ((((w.alloc o).alloc (.map #[] 0)).alloc (.map #[] 0)).alloc (.cells (dRow (.new B Bs) mf mt) 72)).drew w.heap.size (w.heap.size + 1 + 1 + 1) mf mt (.new B Bs) ∧ Below w.heap.size w ((((w.alloc o).alloc (.map #[] 0)).alloc (.map #[] 0)).alloc (.cells (dRow (.new B Bs) mf mt) 72)).drew := by
  have hf := heap_four w o (.map #[] 0) (.map #[] 0) (.cells (dRow (.new B Bs) mf mt) 72)
  refine ⟨Rep.new hf.2.2 (empty_map _ _ _ _ ?_) (empty_map _ _ _ _ ?_) ?_ ?_ ?_ ⟨by omega, by omega, by omega⟩, ((((Below.refl _ w).alloc (Nat.le_refl _) _).alloc (by simp) _).alloc (by simp; omega) _).alloc (by simp; omega) _ |>.drew⟩
  · rcases h with ⟨rfl, _⟩ | ⟨rfl, _⟩
    · exact hf.1
    · exact hf.2.1
  · rcases h with ⟨_, rfl⟩ | ⟨_, rfl⟩
    · exact hf.2.1
    · exact hf.1
  · omega
  · omega
  · omega

theorem Rep.lower (R : Rep w lo p mf mt D) {n : Nat} (h : n ≤ lo) : Rep w n p mf mt D := ⟨R.row, R.files, R.troubles, R.each, R.apart, fun b hb => Nat.le_trans h (R.base b hb), R.names⟩

theorem box_up3 {a b c : Value} {t : TypeId} {w1 : World} (h : Below (w.alloc (.cells #[a, b, c] t)).heap.size (w.alloc (.cells #[a, b, c] t)) w1) : w1.cell? ⟨w.heap.size, 0, none⟩ = some a ∧ w1.cell? ⟨w.heap.size, 1, none⟩ = some b ∧ w1.cell? ⟨w.heap.size, 2, none⟩ = some c ∧ w.heap.size < w1.heap.size := by
  have hr : w1.heap[w.heap.size]? = some (.cells #[a, b, c] t (0, 0)) := (h.block _ (by simp)).trans (heap_alloc_new w _)
  exact ⟨cell_row hr 0, cell_row hr 1, cell_row hr 2, lt_of_block hr⟩

set_option maxRecDepth 100000 in
set_option maxHeartbeats 400000 in
theorem empty_any {B : Nat} {Bs : Int} (w : World) :
    Calls Tryd.prog 18 #[.agg #[.int .i64 B, .int .i64 Bs, .slice none 0 0]] w fun e w' => ∃ p mf mt, e = .returned (ptr p) ∧ Rep w' w.heap.size p mf mt (.new B Bs) ∧ Below w.heap.size w w' := by
  have hmm := @run_makeMap Tryd.prog
  go_enter Tryd.func18, Tryd.ntmps18
  go_wp2
  go_region_held3 (fun V => V.cell? ⟨w.heap.size, 0, none⟩ = some (.int .i64 B) ∧ V.cell? ⟨w.heap.size, 1, none⟩ = some (.int .i64 Bs) ∧ V.cell? ⟨w.heap.size, 2, none⟩ = some (.slice none 0 0)) (go_keep)
    (first | (go_at_call 40; refine (byCall_nil _).mono ?_; rintro e w2 ⟨rfl, rfl⟩))
  all_goals
    go_wp2
    go_ret
  · have h := new_rep (B := B) (Bs := Bs) w (.cells #[.int .i64 B, .int .i64 Bs, .slice none 0 0] 29) (w.heap.size + 1) (w.heap.size + 1 + 1) (.inl ⟨rfl, rfl⟩)
    exact ⟨_, _, _, rfl, h.1, h.2⟩
  · have h := new_rep (B := B) (Bs := Bs) w (.cells #[.int .i64 B, .int .i64 Bs, .slice none 0 0] 29) (w.heap.size + 1 + 1) (w.heap.size + 1) (.inr ⟨rfl, rfl⟩)
    exact ⟨_, _, _, rfl, h.1, h.2⟩

set_option maxRecDepth 100000 in
set_option maxHeartbeats 400000 in
theorem New_ok {B : Nat} {Bs : Int} (h1 : 64 ≤ B) (h2 : B ≤ 65536) (h3 : (B : Int) % 32 = 0) (h4 : 0 ≤ Bs) (h5 : Bs ≤ 1099511627776) (w : World) :
    Calls Tryd.prog 5 #[.agg #[.int .i64 B, .int .i64 Bs, .slice none 0 0]] w fun e w' => ∃ p mf mt, e = .returned (.tuple #[ptr p, .int .i64 0]) ∧ Rep w' w.heap.size p mf mt (.new B Bs) ∧ Below w.heap.size w w' := by
  have HC := hid (fun W => checkSetup_ok (B := (B : Int)) (Bs := Bs) (v := .slice none 0 0) rfl (by omega) (by omega) h3 h4 h5 W)
  clear h3
  go_enter Tryd.func5, Tryd.ntmps5
  go_wp2_with (first
    | (go_at_call 16; refine (HC.out _).mono ?_; rintro e w1 ⟨rfl, hb1⟩; obtain ⟨q0, q1, q2, lz⟩ := box_up3 hb1; have HB1 := hid hb1; clear hb1)
    | (go_at_call 18; refine (empty_any _).mono ?_; rintro e w2 ⟨p, mf, mt, rfl, hR, hb2⟩))
  go_ret2
  have h0 : Below w.heap.size w w1 := ((Below.refl _ w).alloc (Nat.le_refl _) _).trans (HB1.out.mono (by simp))
  exact ⟨p, mf, mt, rfl, hR.lower (by omega), h0.trans (hb2.mono (by omega))⟩
end
end Go.Proofs.YtcpncfngadablaaDoor
