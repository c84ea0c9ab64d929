/-
  FormulaClauses: the law, over a contract of the program's own ParseCnf.
-/
import Derived.Test.YtdkboifpdodonaaB7
namespace Go.Proofs.Ytdkboifpdodonaa
open Go.RowKit Go.Deep PureCnf

/-- what a function that reads clauses answers. -/
def Parses (f : Nat) : Prop := ∀ (s : ByteArray) (w : World), s.size ≤ 9223372036854775807 → Calls Try.prog f #[.string s] w fun e w' => Parsed s.data.toList w.heap.size e w' ∧ Below w.heap.size w w'
theorem parses_own : Parses 5 := fun s w h => by
  by_cases hs : s.size ≤ 1048576
  · exact parse_short s w hs
  · exact parse_long s w h (by omega)

theorem bodyRun_count {n : Nat} {V C : Int} (t : List Piece) : ∀ (E L : List Int) (op : Bool) {x : List Int × List Int}, bodyRun n V C t E L op = .ok x → x.1.length + x.2.length ≤ E.length + L.length + t.length := by
  induction t with
  | nil =>
    intro E L op x h
    unfold bodyRun at h
    split at h
    · cases h
    · cases h; simp
  | cons p t ih =>
    intro E L op x h
    unfold bodyRun at h
    split at h
    · cases h
    · split at h
      · cases h
      · split at h
        · cases h
        · split at h
          · have := ih _ _ _ h
            simp at this ⊢; omega
          · split at h
            · cases h
            · have := ih _ _ _ h
              simp at this ⊢; omega
theorem parseN_small {l : List UInt8} {x : Int × List Int × List Int} (h : parseN l = .ok x) : x.2.1.length ≤ 1048576 ∧ x.2.2.length ≤ 1048576 := by
  unfold parseN at h
  split at h
  · cases h
  · next hs =>
    split at h
    · cases h
    · split at h
      · cases h
      · next y hy =>
        cases h
        have h1 := bodyRun_count _ _ _ _ hy
        have h2 := pieces_count l 0 0
        simp at h1 ⊢
        omega

/-- reading answers this. -/
theorem Parsed.shape {l : List UInt8} {base : Nat} {e : Ending} {w' : World} (h : Parsed l base e w') : ∃ (V : Int) (E L : List Int) (f0 f1 f2 : Int), (E.length ≤ 1048576 ∧ L.length ≤ 1048576) ∧ (∃ se ce sl cl, e = .returned (.tuple #[cnfV V se E.length ce sl L.length cl, .agg #[.int .i64 f0, .int .i64 f1, .int .i64 f2]]) ∧ IntsAt w' se E ∧ IntsAt w' sl L) ∧
    ∀ (b2 : Nat) (e2 : Ending) (w2 : World), Parsed l b2 e2 w2 → ∃ se ce sl cl, e2 = .returned (.tuple #[cnfV V se E.length ce sl L.length cl, .agg #[.int .i64 f0, .int .i64 f1, .int .i64 f2]]) ∧ IntsAt w2 se E ∧ IntsAt w2 sl L := by
  have none_ : ∀ w, IntsAt w none [] := fun w => ⟨fun k hk => by simp at hk, fun k hk => by simp at hk⟩
  unfold Parsed at h ⊢
  split at h
  · next f hf =>
    have hfo : ∃ f0 f1 f2 : Int, faultOf l f = .agg #[.int .i64 f0, .int .i64 f1, .int .i64 f2] := by
      unfold faultOf
      split <;> exact ⟨_, _, _, rfl⟩
    obtain ⟨f0, f1, f2, e0⟩ := hfo
    rw [e0] at h ⊢
    exact ⟨0, [], [], f0, f1, f2, ⟨by simp, by simp⟩, ⟨none, 0, none, 0, h, none_ _, none_ _⟩, fun _ _ _ h2 => ⟨none, 0, none, 0, h2, none_ _, none_ _⟩⟩
  · next x hx =>
    obtain ⟨se, ce, sl, cl, he, i1, i2, _⟩ := h
    exact ⟨x.1, x.2.1, x.2.2, 0, 0, 0, parseN_small hx, ⟨se, ce, sl, cl, he, i1.ints, i2.ints⟩, fun _ _ _ ⟨se, ce, sl, cl, he, i1, i2, _⟩ => ⟨se, ce, sl, cl, he, i1.ints, i2.ints⟩⟩

set_option maxHeartbeats 1000000 in
theorem clauses_law (hP : Parses 4) (s : ByteArray) (w : World) (hs : s.size ≤ 9223372036854775807) :
    Calls Try.prog 3 #[.string s] w fun e w' => e = .returned (.bool true) ∧ Below w.heap.size w w' := by
  have HP := hid (hP s w hs)
  have HQ := hid (fun W => parses_own s W hs)
  clear hP hs
  go_enter Try.func3, Try.ntmps3
  go_wp2_with fail
  refine HP.out.mono ?_
  rintro e w1 ⟨hp, b1⟩
  obtain ⟨V, E, L, f0, f1, f2, ⟨hnE, hnL⟩, ⟨se, ce, sl, cl, rfl, i1, i2⟩, hsame⟩ := hp.shape
  have HB1 := hid b1
  have HSAME := hid hsame
  obtain ⟨WB, hWB⟩ : ∃ WB, WB = (w1.alloc (Obj.cells #[.int .i64 V, .slice se E.length ce, .slice sl L.length cl] 24 (0, 0))).alloc (Obj.cells #[.int .i64 f0, .int .i64 f1, .int .i64 f2] 29 (0, 0)) := ⟨_, rfl⟩
  have tB : Below w1.heap.size w1 WB := by rw [hWB]; exact ((Below.refl _ _).alloc (Nat.le_refl _) _).alloc (by simp) _
  have r0 : WB.heap[w1.heap.size]? = some (.cells #[.int .i64 V, .slice se E.length ce, .slice sl L.length cl] 24 (0, 0)) := by
    rw [hWB]; exact (Below.heap_alloc _ _ _ (by simp)).trans (heap_alloc_new w1 _)
  have r1 : WB.heap[w1.heap.size + 1]? = some (.cells #[.int .i64 f0, .int .i64 f1, .int .i64 f2] 29 (0, 0)) := by
    have := heap_alloc_new (w1.alloc (Obj.cells #[.int .i64 V, .slice se E.length ce, .slice sl L.length cl] 24 (0, 0))) (Obj.cells #[.int .i64 f0, .int .i64 f1, .int .i64 f2] 29 (0, 0))
    rw [hWB]; simpa using this
  have I1 := hid (i1.below tB)
  have I2 := hid (i2.below tB)
  have HB2 := hid (b1.trans (tB.mono b1.size))
  have HR0 := hid r0
  have HR1 := hid r1
  have HWB := hid hWB
  clear hp hsame i1 i2 b1 tB r0 r1 hWB HB1
  go_wp2_with (rw [← HWB.out])
  refine (HQ.out WB).mono ?_
  rintro e w2 ⟨hp, b2⟩
  obtain ⟨se', ce', sl', cl', rfl, j1, j2⟩ := HSAME.out _ _ _ hp
  obtain ⟨WC, hWC⟩ : ∃ WC, WC = (w2.alloc (Obj.cells #[.int .i64 V, .slice se' E.length ce', .slice sl' L.length cl'] 24 (0, 0))).alloc (Obj.cells #[.int .i64 f0, .int .i64 f1, .int .i64 f2] 29 (0, 0)) := ⟨_, rfl⟩
  have tC : Below w2.heap.size w2 WC := by rw [hWC]; exact ((Below.refl _ _).alloc (Nat.le_refl _) _).alloc (by simp) _
  have q0 : WC.heap[w2.heap.size]? = some (.cells #[.int .i64 V, .slice se' E.length ce', .slice sl' L.length cl'] 24 (0, 0)) := by
    rw [hWC]; exact (Below.heap_alloc _ _ _ (by simp)).trans (heap_alloc_new w2 _)
  have q1 : WC.heap[w2.heap.size + 1]? = some (.cells #[.int .i64 f0, .int .i64 f1, .int .i64 f2] 29 (0, 0)) := by
    have := heap_alloc_new (w2.alloc (Obj.cells #[.int .i64 V, .slice se' E.length ce', .slice sl' L.length cl'] 24 (0, 0))) (Obj.cells #[.int .i64 f0, .int .i64 f1, .int .i64 f2] 29 (0, 0))
    rw [hWC]; simpa using this
  have tBC : Below WB.heap.size WB WC := b2.trans (tC.mono b2.size)
  have p0 := (tBC.block _ (Array.getElem?_eq_some_iff.1 HR0.out).1).trans HR0.out
  have p1 := (tBC.block _ (Array.getElem?_eq_some_iff.1 HR1.out).1).trans HR1.out
  have k0 := fun j => cell_row p0 j
  have k1 := fun j => cell_row p1 j
  have k2 := fun j => cell_row q0 j
  have k3 := fun j => cell_row q1 j
  have HS := hid (sameCnf_true V E L se sl se' sl' ce cl ce' cl' WC (by omega) (by omega) (I1.out.below tBC) (I2.out.below tBC) (j1.below tC) (j2.below tC))
  have HB3 := hid (HB2.out.trans (tBC.mono HB2.out.size))
  have HWC := hid hWC
  clear hp b2 j1 j2 hWC tC q0 q1 tBC p0 p1 HQ HSAME
  go_wp2_with (rw [← HWC.out])
  refine HS.out.mono ?_
  rintro e w3 ⟨rfl, b3⟩
  have HB4 := hid (HB3.out.trans (b3.mono HB3.out.size))
  go_wp2
  go_ret
  exact ⟨rfl, HB4.out⟩
end Go.Proofs.Ytdkboifpdodonaa
