/-
  FormulaCnfBack: the law, over contracts of the program's own PrintCnf and ParseCnf.
-/
import Derived.Test.YtdkboifpdodonaaDoorE3
import Derived.Test.YtdkboifpdodonaaDoorF6
import Derived.Test.YtdkboifpdodonaaDoorBack3
namespace Go.Proofs.YtdkboifpdodonaaDoor
open Go.RowKit Go.Deep PureCnf
set_option maxRecDepth 100000

theorem print_zero {V : Int} {E L : List Int} (h : printE V E L = 0) : printT V E L = cnfT V E L ∧ parseN (printT V E L) = .ok (V, E, L) := by
  have e : printT V E L = cnfT V E L := by unfold printT; rw [if_pos h]
  unfold printE at h
  split at h
  · next hf =>
    split at h
    · next hl => rw [e]; exact ⟨rfl, parse_print hf hl⟩
    · cases h
  · cases h
theorem print_not {V : Int} {E L : List Int} (h : ¬ printE V E L = 0) : printT V E L = [] := by unfold printT; rw [if_neg h]
theorem printE_range (V : Int) (E L : List Int) : 0 ≤ printE V E L ∧ printE V E L ≤ 134 := by
  unfold printE
  split
  · split <;> omega
  · omega
theorem cnfT_size {V : Int} {E L : List Int} (h : printE V E L = 0) : (cnfT V E L).length ≤ 1048576 := by
  unfold printE at h
  split at h
  · split at h
    · assumption
    · cases h
  · cases h

/-- three boxes: what came in, what was read, its fault. -/
structure Three (w W : World) (b1 : Nat) (C X F : Array Value) : Prop where
  r0 : W.heap[w.heap.size]? = some (.cells C 24 (0, 0))
  r1 : W.heap[b1]? = some (.cells X 24 (0, 0))
  r2 : W.heap[b1 + 1]? = some (.cells F 33 (0, 0))
  lt : w.heap.size < b1
  below : Below w.heap.size w W
theorem Three.on {w W W' : World} {b1 : Nat} {C X F : Array Value} (h : Three w W b1 C X F) (hb : Below W.heap.size W W') : Three w W' b1 C X F :=
  ⟨(hb.block _ (Array.getElem?_eq_some_iff.1 h.r0).1).trans h.r0, (hb.block _ (Array.getElem?_eq_some_iff.1 h.r1).1).trans h.r1, (hb.block _ (Array.getElem?_eq_some_iff.1 h.r2).1).trans h.r2, h.lt, h.below.trans (hb.mono h.below.size)⟩

theorem heap_setCell_row {w : World} {b : Nat} {c : Array Value} {t : TypeId} {fz : Nat × Nat} (h : w.heap[b]? = some (.cells c t fz)) (i : Nat) (v : Value) :
    (w.setCell ⟨b, i, none⟩ v).heap[b]? = some (.cells (c.setIfInBounds i v) t fz) := by
  have hb := (Array.getElem?_eq_some_iff.1 h).1
  simp [World.setCell, Array.getElem?_modify, h]

theorem three_new {w WA w1 WB : World} {C X F : Array Value} (hA : Below w.heap.size w WA) (rA : WA.heap[w.heap.size]? = some (.cells C 24 (0, 0))) (b1 : Below WA.heap.size WA w1) (hWB : WB = (w1.alloc (Obj.cells X 24 (0, 0))).alloc (Obj.cells F 33 (0, 0))) : Three w WB w1.heap.size C X F := by
  have l0 := (Array.getElem?_eq_some_iff.1 rA).1
  have l1 := b1.size
  have t : Below w1.heap.size w1 WB := by rw [hWB]; exact ((Below.refl _ _).alloc (Nat.le_refl _) _).alloc (by simp) _
  refine ⟨(t.block _ (by omega)).trans ((b1.block _ l0).trans rA), ?_, ?_, by omega, (hA.trans (b1.mono hA.size)).trans (t.mono (by omega))⟩
  · rw [hWB]; exact (Below.heap_alloc _ _ _ (by simp)).trans (heap_alloc_new w1 _)
  · have := heap_alloc_new (w1.alloc (Obj.cells X 24 (0, 0))) (Obj.cells F 33 (0, 0))
    rw [hWB]; simpa using this

set_option maxHeartbeats 1000000 in
theorem back_law (hP : PrintsT 7) (hQ : Parses 12) (V : Int) (E L : List Int) (se sl : Option Addr) (ce cl : Nat) (w : World) (hT : Tab w) (hV : -9223372036854775808 ≤ V ∧ V ≤ 9223372036854775807) (hnE : E.length ≤ 17592186044416) (hnL : L.length ≤ 17592186044416) (hce : E.length ≤ ce) (hcl : L.length ≤ cl) (hE : IntsAt w se E) (hL : IntsAt w sl L) :
    Calls Tryd.prog 4 #[cnfV V se E.length ce sl L.length cl] w fun e w' => e = .returned (.bool true) ∧ Below w.heap.size w w' := by
  obtain ⟨WA, hWA⟩ : ∃ WA, WA = w.alloc (Obj.cells #[.int .i64 V, .slice se E.length ce, .slice sl L.length cl] 24 (0, 0)) := ⟨_, rfl⟩
  have bA : Below w.heap.size w WA := by rw [hWA]; exact (Below.refl _ _).alloc (Nat.le_refl _) _
  have rA : WA.heap[w.heap.size]? = some (.cells #[.int .i64 V, .slice se E.length ce, .slice sl L.length cl] 24 (0, 0)) := by rw [hWA]; exact heap_alloc_new w _
  have HS : Hid (Calls Tryd.prog 12 #[.string ⟨#[112, 32, 99, 110, 102, 32, 50, 32, 50, 10, 49, 32, 45, 50, 32, 48, 32, 50, 32, 48, 10]⟩] WA fun e w' => ∃ sa ca sb cb, e = .returned (.tuple #[cnfV 2 sa 2 ca sb 3 cb, .agg #[.int .i64 0, .int .i64 0, .int .i64 0]]) ∧ Below WA.heap.size WA w') := by
    refine (hQ _ WA (by decide)).mono ?_
    rintro e w1 ⟨hp, hb⟩
    unfold Parsed at hp
    rw [show (⟨#[112, 32, 99, 110, 102, 32, 50, 32, 50, 10, 49, 32, 45, 50, 32, 48, 32, 50, 32, 48, 10]⟩ : ByteArray).data.toList = sampleT from rfl, sample_parse] at hp
    obtain ⟨sa, ca, sb, cb, he, _⟩ := hp
    exact ⟨sa, ca, sb, cb, he, hb⟩
  have HWA := hid hWA
  have HBA := hid bA
  have HRA := hid rA
  have HTT := hid hT
  have HV := hid hV
  have HE := hid hE
  have HL := hid hL
  have HP := hid hP
  have HQ := hid hQ
  clear hWA bA rA hV hE hL hP hQ hT
  go_enter Tryd.func4, Tryd.ntmps4
  go_wp2_with (rw [← HWA.out])
  refine HS.out.mono ?_
  rintro e w1 ⟨sa, ca, sb, cb, rfl, b1⟩
  obtain ⟨WB, hWB⟩ : ∃ WB, WB = (w1.alloc (Obj.cells #[.int .i64 2, .slice sa 2 ca, .slice sb 3 cb] 24 (0, 0))).alloc (Obj.cells #[.int .i64 0, .int .i64 0, .int .i64 0] 33 (0, 0)) := ⟨_, rfl⟩
  have HT : Hid (Three w WB w1.heap.size #[.int .i64 V, .slice se E.length ce, .slice sl L.length cl] #[.int .i64 2, .slice sa 2 ca, .slice sb 3 cb] #[.int .i64 0, .int .i64 0, .int .i64 0]) := three_new HBA.out HRA.out b1 hWB
  have HWB := hid hWB
  have k0 := fun j => cell_row HT.out.r0 j
  have k1 := fun j => cell_row HT.out.r1 j
  have k2 := fun j => cell_row HT.out.r2 j
  clear b1 hWB HS HWA HBA HRA
  go_upto_region 2 with fail
  rw [← HWB.out]
  go_wp2_with fail
  have HK : Hid (∀ W, Below WB.heap.size WB W → Three w W w1.heap.size #[.int .i64 V, .slice se E.length ce, .slice sl L.length cl] #[.int .i64 2, .slice sa 2 ca, .slice sb 3 cb] #[.int .i64 0, .int .i64 0, .int .i64 0] ∧ IntsAt W se E ∧ IntsAt W sl L) := fun W hW =>
    ⟨HT.out.on hW, HE.out.below (HT.out.on hW).below, HL.out.below (HT.out.on hW).below⟩
  have T2 := hid (Below.refl WB.heap.size WB)
  obtain ⟨-, x1, x2⟩ := HK.out _ T2.out
  refine (prints_own V E L se sl ce cl _ HV.out hnE hnL hce hcl x1 x2).mono ?_
  rintro e w3 ⟨rfl, b3⟩
  have T3 := hid (T2.out.trans (b3.mono T2.out.size))
  clear x1 x2 b3 k0 k1 k2
  obtain ⟨q0, x1, x2⟩ := HK.out _ T3.out
  have k0 := fun i => cell_row q0.r0 i
  go_wp2_with fail
  refine (HP.out V E L se sl ce cl _ (HTT.out.below q0.below) HV.out hnE hnL hce hcl x1 x2).mono ?_
  rintro e w4 ⟨rfl, b4⟩
  have T4 := hid (T3.out.trans (b4.mono T3.out.size))
  clear x1 x2 b4 k0 q0
  obtain ⟨q0, x1, x2⟩ := HK.out _ T4.out
  have k0 := fun i => cell_row q0.r0 i
  have hbn : (printE V E L != printE V E L) = false := by simp
  have HQ0 := hid q0
  have X1 := hid x1
  have X2 := hid x2
  clear q0 x1 x2
  by_cases hz : printE V E L = 0
  · have HS2 : Hid (Calls Tryd.prog 12 #[str (printT V E L)] w4 fun e w' => ∃ sa ca sb cb, e = .returned (.tuple #[cnfV V sa E.length ca sb L.length cb, .agg #[.int .i64 0, .int .i64 0, .int .i64 0]]) ∧ Own w' w4.heap.size sa E ∧ Own w' w4.heap.size sb L ∧ Below w4.heap.size w4 w') := by
      obtain ⟨e1, e2⟩ := print_zero hz
      have hsz := cnfT_size hz
      refine (HQ.out ⟨(printT V E L).toArray⟩ w4 (by rw [e1]; show (cnfT V E L).length ≤ _; omega)).mono ?_
      rintro e w5 ⟨hp, hb⟩
      unfold Parsed at hp
      rw [show (⟨(printT V E L).toArray⟩ : ByteArray).data.toList = printT V E L by simp, e2] at hp
      obtain ⟨sa, ca, sb, cb, he, o1, o2, _⟩ := hp
      exact ⟨sa, ca, sb, cb, he, o1, o2, hb⟩
    rw [hz] at hbn ⊢
    clear hz
    go_wp2_with fail
    refine HS2.out.mono ?_
    rintro e w5 ⟨sa', ca', sb', cb', rfl, o1, o2, b5⟩
    have T5 := hid (T4.out.trans (b5.mono T4.out.size))
    have t5 := HK.out _ T5.out
    have hw4 : w1.heap.size + 1 < w4.heap.size := (Array.getElem?_eq_some_iff.1 HQ0.out.r2).1
    obtain ⟨W6, hW6⟩ : ∃ W6, W6 = (((((w5.setCell ⟨w1.heap.size, 0, none⟩ (.int .i64 V)).setCell ⟨w1.heap.size, 1, none⟩ (.slice sa' E.length ca')).setCell ⟨w1.heap.size, 2, none⟩ (.slice sb' L.length cb')).setCell ⟨w1.heap.size + 1, 0, none⟩ (.int .i64 0)).setCell ⟨w1.heap.size + 1, 1, none⟩ (.int .i64 0)).setCell ⟨w1.heap.size + 1, 2, none⟩ (.int .i64 0) := ⟨_, rfl⟩
    have n1 : w.heap.size ≠ w1.heap.size := by have := HT.out.lt; omega
    have n2 : w.heap.size ≠ w1.heap.size + 1 := by have := HT.out.lt; omega
    have g0 : W6.heap[w.heap.size]? = some (.cells #[.int .i64 V, .slice se E.length ce, .slice sl L.length cl] 24 (0, 0)) := by
      rw [hW6, Below.heap_setCell _ _ _ _ n2, Below.heap_setCell _ _ _ _ n2, Below.heap_setCell _ _ _ _ n2, Below.heap_setCell _ _ _ _ n1, Below.heap_setCell _ _ _ _ n1, Below.heap_setCell _ _ _ _ n1]
      exact t5.1.r0
    have g1 : W6.heap[w1.heap.size]? = some (.cells #[.int .i64 V, .slice sa' E.length ca', .slice sb' L.length cb'] 24 (0, 0)) := by
      have hb := (Array.getElem?_eq_some_iff.1 t5.1.r1).1
      rw [hW6, Below.heap_setCell _ _ _ _ (by simp), Below.heap_setCell _ _ _ _ (by simp), Below.heap_setCell _ _ _ _ (by simp)]
      simp [World.setCell, Array.getElem?_modify, t5.1.r1]
    have g2 : W6.heap[w1.heap.size + 1]? = some (.cells #[.int .i64 0, .int .i64 0, .int .i64 0] 33 (0, 0)) := by
      rw [hW6]
      have h3 : (((w5.setCell ⟨w1.heap.size, 0, none⟩ (.int .i64 V)).setCell ⟨w1.heap.size, 1, none⟩ (.slice sa' E.length ca')).setCell ⟨w1.heap.size, 2, none⟩ (.slice sb' L.length cb')).heap[w1.heap.size + 1]? = some (.cells #[.int .i64 0, .int .i64 0, .int .i64 0] 33 (0, 0)) := by
        rw [Below.heap_setCell _ _ _ _ (by simp), Below.heap_setCell _ _ _ _ (by simp), Below.heap_setCell _ _ _ _ (by simp)]
        exact t5.1.r2
      exact heap_setCell_row (heap_setCell_row (heap_setCell_row h3 0 _) 1 _) 2 _
    have st : ∀ {sx : Option Addr} {l : List Int}, IntsAt w5 sx l → (∀ a, sx = some a → a.block ≠ w1.heap.size ∧ a.block ≠ w1.heap.size + 1) → IntsAt W6 sx l := fun h hne => by
      rw [hW6]
      exact (((((h.store (fun a e => (hne a e).1) _ _).store (fun a e => (hne a e).1) _ _).store (fun a e => (hne a e).1) _ _).store (fun a e => (hne a e).2) _ _).store (fun a e => (hne a e).2) _ _).store (fun a e => (hne a e).2) _ _
    have old : ∀ {sx : Option Addr} {l : List Int}, IntsAt w sx l → IntsAt w5 sx l → IntsAt W6 sx l := fun {sx l} h h5 => by
      by_cases h0 : l.length = 0
      · exact ⟨fun k hk => by omega, h5.wf⟩
      · obtain ⟨a, e, hb, _⟩ := h.at_ 0 (by omega)
        refine st h5 (fun a' e' => ?_)
        rw [e] at e'
        cases e'
        have := HT.out.lt
        omega
    have y1 := old HE.out t5.2.1
    have y2 := old HL.out t5.2.2
    have y3 := st o1.ints (fun a e => by have := o1.far a e; omega)
    have y4 := st o2.ints (fun a e => by have := o2.far a e; omega)
    have HSM := hid (sameCnf_true V E L se sl sa' sb' ce cl ca' cb' W6 (by omega) (by omega) y1 y2 y3 y4)
    have HB6 : Hid (Below w.heap.size w W6) := by
      have hl := HT.out.lt
      rw [hW6]
      exact (((((t5.1.below.setCell (p := ⟨w1.heap.size, 0, none⟩) (by simp; omega) _).setCell (p := ⟨w1.heap.size, 1, none⟩) (by simp; omega) _).setCell (p := ⟨w1.heap.size, 2, none⟩) (by simp; omega) _).setCell (p := ⟨w1.heap.size + 1, 0, none⟩) (by simp; omega) _).setCell (p := ⟨w1.heap.size + 1, 1, none⟩) (by simp; omega) _).setCell (p := ⟨w1.heap.size + 1, 2, none⟩) (by simp; omega) _
    have p1 := fun j => cell_row t5.1.r1 j
    have p2 := fun j => cell_row t5.1.r2 j
    have u1 := fun j => unfrozen_row t5.1.r1 j
    have u2 := fun j => unfrozen_row t5.1.r2 j
    have m0 := fun j => cell_row g0 j
    have m1 := fun j => cell_row g1 j
    have m2 := fun j => cell_row g2 j
    have HW6 := hid hW6
    clear t5 o1 o2 b5 hW6 g0 g1 g2 st old y1 y2 y3 y4 k0 HS2
    go_upto_region 11 with fail
    rw [← HW6.out]
    go_wp2_with fail
    refine HSM.out.mono ?_
    rintro e w7 ⟨rfl, b7⟩
    have HB7 := hid (HB6.out.trans (b7.mono HB6.out.size))
    go_wp2
    go_ret
    exact ⟨rfl, HB7.out⟩
  · have hzb : (printE V E L != 0) = true := by rw [bne_iff_ne]; exact hz
    have hpt := print_not hz
    rw [hpt]
    clear hpt hz
    go_wp2
    go_ret
    exact ⟨rfl, HQ0.out.below⟩
end Go.Proofs.YtdkboifpdodonaaDoor
