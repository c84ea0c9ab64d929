/-
  The landed program's ParseCnf: it reads just what the document's does.
-/
import Derived.Test.YtdkboifpdodonaaDoorE2
import Derived.Test.YtdkboifpdodonaaDoorB0
namespace Go.Proofs.YtdkboifpdodonaaDoor
open Go.RowKit Go.Deep PureCnf
set_option maxRecDepth 100000

theorem Own.on {W W' : World} {base : Nat} {sa : Option Addr} {l : List Int} (h : Own W base sa l) (hb : Below W.heap.size W W') : Own W' base sa l := ⟨h.ints.below hb, h.far⟩

set_option maxHeartbeats 1000000 in
theorem own_long (s : ByteArray) (w : World) (h63 : s.size ≤ 9223372036854775807) (hs : 1048576 < s.size) :
    Calls Tryd.prog 12 #[.string s] w fun e w' => Parsed s.data.toList w.heap.size e w' ∧ Below w.heap.size w w' := by
  have HP : Hid (parseN s.data.toList = .error (5, none)) := by
    show _ = _
    unfold parseN
    rw [if_pos (by simpa using hs)]
  obtain ⟨WA, hWA⟩ : ∃ WA, WA = (w.alloc (Obj.cells #[.int .i64 0, .slice none 0 0, .slice none 0 0] 24 (0, 0))).alloc (Obj.cells #[.int .i64 0, .int .i64 0, .int .i64 0] 33 (0, 0)) := ⟨_, rfl⟩
  have hr : Res w WA := by
    rw [hWA]
    refine ⟨(Below.heap_alloc _ _ _ (by simp)).trans (heap_alloc_new w _), ?_, ((Below.refl _ _).alloc (Nat.le_refl _) _).alloc (by simp) _⟩
    have := heap_alloc_new (w.alloc (Obj.cells #[.int .i64 0, .slice none 0 0, .slice none 0 0] 24 (0, 0))) (Obj.cells #[.int .i64 0, .int .i64 0, .int .i64 0] 33 (0, 0))
    simpa using this
  have c0 := fun j => cell_row hr.r0 j
  have c1 := fun j => cell_row hr.r1 j
  have f0 := fun j => unfrozen_row hr.r0 j
  have f1 := fun j => unfrozen_row hr.r1 j
  have HR := hid hr
  have HWA := hid hWA
  have hgt : (1048576 : Int) < (s.size : Int) := by omega
  clear hWA hr
  go_enter Tryd.func12, Tryd.ntmps12
  go_wp2_with (rw [← HWA.out])
  exact bodyPost_ret (v := .tuple #[cnfV 0 none 0 0 none 0 0, .agg #[.int .i64 5, .int .i64 0, .int .i64 0]]) (by simp [results, Tryd.results12, go_sem, c0, c1]) rfl ⟨Parsed.err HP.out rfl, ((((((HR.out.below.setCell (p := ⟨w.heap.size, 0, none⟩) (by simp) _).setCell (p := ⟨w.heap.size, 1, none⟩) (by simp) _).setCell (p := ⟨w.heap.size, 2, none⟩) (by simp) _).setCell (p := ⟨w.heap.size + 1, 0, none⟩) (by simp) _).setCell (p := ⟨w.heap.size + 1, 1, none⟩) (by simp) _).setCell (p := ⟨w.heap.size + 1, 2, none⟩) (by simp) _)⟩

set_option maxHeartbeats 2000000 in
set_option maxRecDepth 100000 in
theorem own_short (s : ByteArray) (w : World) (hs : s.size ≤ 1048576) :
    Calls Tryd.prog 12 #[.string s] w fun e w' => Parsed s.data.toList w.heap.size e w' ∧ Below w.heap.size w w' := by
  obtain ⟨WA, hWA⟩ : ∃ WA, WA = (w.alloc (Obj.cells #[.int .i64 0, .slice none 0 0, .slice none 0 0] 24 (0, 0))).alloc (Obj.cells #[.int .i64 0, .int .i64 0, .int .i64 0] 33 (0, 0)) := ⟨_, rfl⟩
  have hr : Res w WA := by
    rw [hWA]
    refine ⟨(Below.heap_alloc _ _ _ (by simp)).trans (heap_alloc_new w _), ?_, ((Below.refl _ _).alloc (Nat.le_refl _) _).alloc (by simp) _⟩
    have := heap_alloc_new (w.alloc (Obj.cells #[.int .i64 0, .slice none 0 0, .slice none 0 0] 24 (0, 0))) (Obj.cells #[.int .i64 0, .int .i64 0, .int .i64 0] 33 (0, 0))
    simpa using this
  have HR := hid hr
  have HWA := hid hWA
  have HRC := hid (readClauses_any s WA hs)
  have hle : (s.size : Int) ≤ 1048576 := by omega
  obtain ⟨l, hl⟩ : ∃ l, l = s.data.toList := ⟨_, rfl⟩
  rw [← hl] at HRC ⊢
  clear hWA hr hl
  go_enter Tryd.func12, Tryd.ntmps12
  go_wp2_with (first | (rw [← HWA.out]))
  refine HRC.out.mono ?_
  rintro x w1 ⟨hrc, b1⟩
  have hr1 := HR.out.on b1
  have HR1 := hid hr1
  have hsz := hr1.size
  rcases hrc with ⟨c, at_, hc, hp, rfl⟩ | ⟨V, E, L, hp, se, ce, sl, cl, rfl, hE, hL, hce, hcl⟩
  · obtain ⟨a, ha⟩ : ∃ a : Nat, a = (spotN (l.take at_)).1 := ⟨_, rfl⟩
    obtain ⟨d, hd⟩ : ∃ d : Nat, d = (spotN (l.take at_)).2 := ⟨_, rfl⟩
    have HP : Hid (Parsed l w.heap.size (.returned (.tuple #[cnfV 0 none 0 0 none 0 0, .agg #[.int .i64 c, .int .i64 (a : Int), .int .i64 (d : Int)]])) = fun _ => True) := by
      show _ = _
      funext W
      refine propext ⟨fun _ => trivial, fun _ => Parsed.err hp ?_⟩
      rw [ha, hd]; rfl
    unfold faultV
    rw [← ha, ← hd]
    have hc2 : (c != 0) = true := by simpa using hc
    obtain ⟨WX, hWX⟩ : ∃ WX, WX = (w1.alloc (Obj.cells #[.int .i64 0, .slice none 0 0, .slice none 0 0] 24 (0, 0))).alloc (Obj.cells #[.int .i64 c, .int .i64 (a : Int), .int .i64 (d : Int)] 33 (0, 0)) := ⟨_, rfl⟩
    have tX : Below w1.heap.size w1 WX := by rw [hWX]; exact ((Below.refl _ _).alloc (Nat.le_refl _) _).alloc (by simp) _
    have q1 : WX.heap[w1.heap.size + 1]? = some (.cells #[.int .i64 c, .int .i64 (a : Int), .int .i64 (d : Int)] 33 (0, 0)) := by
      have := heap_alloc_new (w1.alloc (Obj.cells #[.int .i64 0, .slice none 0 0, .slice none 0 0] 24 (0, 0))) (Obj.cells #[.int .i64 c, .int .i64 (a : Int), .int .i64 (d : Int)] 33 (0, 0))
      rw [hWX]; simpa using this
    have hr2 := HR1.out.on tX
    have c0 := fun j => cell_row hr2.r0 j
    have c1 := fun j => cell_row hr2.r1 j
    have f0 := fun j => unfrozen_row hr2.r0 j
    have f1 := fun j => unfrozen_row hr2.r1 j
    have c2 := fun j => cell_row q1 j
    have HWX := hid hWX
    have HR2 := hid hr2
    clear hp ha hd hc hWX tX q1 hr2 hr1 b1 HRC
    go_wp2_with (rw [← HWX.out])
    go_region_law (fail)
    all_goals
      go_wp2_with fail
      exact bodyPost_ret (v := .tuple #[cnfV 0 none 0 0 none 0 0, .agg #[.int .i64 c, .int .i64 (a : Int), .int .i64 (d : Int)]]) (by simp [results, Tryd.results12, go_sem, c0, c1]) rfl ⟨by rw [HP.out]; trivial, ((((((HR2.out.below.setCell (p := ⟨w.heap.size, 0, none⟩) (by simp) _).setCell (p := ⟨w.heap.size, 1, none⟩) (by simp) _).setCell (p := ⟨w.heap.size, 2, none⟩) (by simp) _).setCell (p := ⟨w.heap.size + 1, 0, none⟩) (by simp) _).setCell (p := ⟨w.heap.size + 1, 1, none⟩) (by simp) _).setCell (p := ⟨w.heap.size + 1, 2, none⟩) (by simp) _).drew⟩
  · have HP := hid hp
    unfold faultV
    obtain ⟨WX, hWX⟩ : ∃ WX, WX = (w1.alloc (Obj.cells #[.int .i64 V, .slice se E.length ce, .slice sl L.length cl] 24 (0, 0))).alloc (Obj.cells #[.int .i64 0, .int .i64 0, .int .i64 0] 33 (0, 0)) := ⟨_, rfl⟩
    have tX : Below w1.heap.size w1 WX := by rw [hWX]; exact ((Below.refl _ _).alloc (Nat.le_refl _) _).alloc (by simp) _
    have q0 : WX.heap[w1.heap.size]? = some (.cells #[.int .i64 V, .slice se E.length ce, .slice sl L.length cl] 24 (0, 0)) := by
      rw [hWX]; exact (Below.heap_alloc _ _ _ (by simp)).trans (heap_alloc_new w1 _)
    have q1 : WX.heap[w1.heap.size + 1]? = some (.cells #[.int .i64 0, .int .i64 0, .int .i64 0] 33 (0, 0)) := by
      have := heap_alloc_new (w1.alloc (Obj.cells #[.int .i64 V, .slice se E.length ce, .slice sl L.length cl] 24 (0, 0))) (Obj.cells #[.int .i64 0, .int .i64 0, .int .i64 0] 33 (0, 0))
      rw [hWX]; simpa using this
    have hr2 := HR1.out.on tX
    have c0 := fun j => cell_row hr2.r0 j
    have c1 := fun j => cell_row hr2.r1 j
    have f0 := fun j => unfrozen_row hr2.r0 j
    have f1 := fun j => unfrozen_row hr2.r1 j
    have c2 := fun j => cell_row q0 j
    have c3 := fun j => cell_row q1 j
    have HWX := hid hWX
    have HR2 := hid hr2
    have IE := hid (hE.on tX)
    have IL := hid (hL.on tX)
    have hwa := HR.out.size
    clear hp hWX tX q0 q1 hr2 hr1 b1 HRC hE hL
    go_upto_region 4 with fail
    rw [← HWX.out]
    go_wp2_with fail
    refine bodyPost_ret (v := .tuple #[cnfV V se E.length ce sl L.length cl, .agg #[.int .i64 0, .int .i64 0, .int .i64 0]]) (by simp [results, Tryd.results12, go_sem, c0, c1]) rfl ⟨?_, ((((((HR2.out.below.setCell (p := ⟨w.heap.size, 0, none⟩) (by simp) _).setCell (p := ⟨w.heap.size, 1, none⟩) (by simp) _).setCell (p := ⟨w.heap.size, 2, none⟩) (by simp) _).setCell (p := ⟨w.heap.size + 1, 0, none⟩) (by simp) _).setCell (p := ⟨w.heap.size + 1, 1, none⟩) (by simp) _).setCell (p := ⟨w.heap.size + 1, 2, none⟩) (by simp) _)⟩
    unfold Parsed
    rw [HP.out]
    refine ⟨se, ce, sl, cl, rfl, ?_, ?_, hce, hcl⟩
    · exact ((((((IE.out.store (by omega)).store (by omega)).store (by omega)).store (by omega)).store (by omega)).store (by omega)).mono (by omega)
    · exact ((((((IL.out.store (by omega)).store (by omega)).store (by omega)).store (by omega)).store (by omega)).store (by omega)).mono (by omega)
theorem parses_landed : Parses 12 := fun s w h => by
  by_cases hs : s.size ≤ 1048576
  · exact own_short s w hs
  · exact own_long s w h (by omega)
end Go.Proofs.YtdkboifpdodonaaDoor
