import Derived.Test.YtdkboifpdodonaaDoorZ09
set_option linter.unusedSimpArgs false
/-
  The landed program's Parse.
-/
namespace Go.Proofs.YtdkboifpdodonaaDoor
open Go.RowKit Go.Deep PureCnf PureForm PureRd
set_option maxRecDepth 100000

/-- a fault, as a value. -/
def faultP (l : List UInt8) (f : Nat × Option Nat) : Value := match f.2 with
  | none => .agg #[.int .i64 (f.1 : Int), .int .i64 0, .int .i64 0]
  | some p => .agg #[.int .i64 (f.1 : Int), .int .i64 ((spotN (l.take p)).1 : Int), .int .i64 ((spotN (l.take p)).2 : Int)]
/-- what reading a formula answers. -/
def ParsedP (l : List UInt8) (base : Nat) (e : Ending) (w' : World) : Prop := match parseF l with
  | .error f => e = .returned (.tuple #[.slice none 0 0, faultP l f])
  | .ok o => ∃ v, e = .returned (.tuple #[v, .agg #[.int .i64 0, .int .i64 0, .int .i64 0]]) ∧ w'.ownsRow base 54 2 v o.length (ndL o)
theorem ParsedP.err {l : List UInt8} {base : Nat} {e : Ending} {w' : World} {f : Nat × Option Nat} (h : parseF l = .error f) (he : e = .returned (.tuple #[.slice none 0 0, faultP l f])) : ParsedP l base e w' := by
  unfold ParsedP; rw [h]; exact he
theorem ParsedP.ok {l : List UInt8} {base : Nat} {e : Ending} {w' : World} {o : List Nd} {v : Value} (h : parseF l = .ok o) (he : e = .returned (.tuple #[v, .agg #[.int .i64 0, .int .i64 0, .int .i64 0]])) (ho : w'.ownsRow base 54 2 v o.length (ndL o)) : ParsedP l base e w' := by
  unfold ParsedP; rw [h]; exact ⟨v, he, ho⟩

set_option maxHeartbeats 1000000 in
theorem parse_big (s : ByteArray) (w : World) (hs : s.size ≤ 9223372036854775807) (hl : 1048576 < s.size) :
    Calls Tryd.prog 21 #[.string s] w fun e w' => ParsedP s.data.toList w.heap.size e w' ∧ Below w.heap.size w w' := by
  have hlen : s.data.toList.length = s.size := by simp
  have HP := hid (parseF_long (l := s.data.toList) (by omega))
  obtain ⟨WA, hWA⟩ : ∃ WA, WA = w.alloc (Obj.cells #[.int .i64 0, .int .i64 0, .int .i64 0] 33) := ⟨_, rfl⟩
  have hB : Below w.heap.size w WA := by rw [hWA]; exact below_box _ _
  have r0 : WA.heap[w.heap.size]? = some (.cells #[.int .i64 0, .int .i64 0, .int .i64 0] 33 (0, 0)) := by rw [hWA]; exact heap_alloc_new w _
  have c0 := fun j => cell_row r0 j
  have f0 := fun j => unfrozen_row r0 j
  have HB := hid hB
  have HWA := hid hWA
  have i1 : (1048576 : Int) < s.size := by omega
  clear hWA hB r0 hlen
  go_enter Tryd.func21, Tryd.ntmps21
  go_wp2_with (rw [← HWA.out])
  exact bodyPost_ret (v := .tuple #[.slice none 0 0, .agg #[.int .i64 5, .int .i64 0, .int .i64 0]]) (by simp [results, Tryd.results21, go_sem, c0]) rfl ⟨ParsedP.err HP.out rfl, below3 HB.out _ _ _⟩

theorem ownsRow_lower {W : World} {B B' e size n : Nat} {v : Value} {xs : List Value} (h : W.ownsRow B e size v n xs) (hb : B' ≤ B) : W.ownsRow B' e size v n xs := by
  refine ⟨h.1, ?_⟩
  rcases h.2 with h0 | ⟨g, cap, cur, hv, hg, rest⟩
  · exact .inl h0
  · exact .inr ⟨g, cap, cur, hv, by omega, rest⟩
theorem LG.below {W w' : World} {B : Nat} {v v' : Value} (h : LG W w' v v') (hB : B ≤ W.heap.size) (hv : ∀ k, v.ownBlock = some k → B ≤ k) : Below B W w' :=
  (Below.refl B W).grown h.grown hB hv
set_option maxHeartbeats 4000000 in
theorem parse_small (s : ByteArray) (w : World) (hs : s.size ≤ 1048576) (hT : Lib.Utf8Tabs 3 4 w) :
    Calls Tryd.prog 21 #[.string s] w fun e w' => ParsedP s.data.toList w.heap.size e w' ∧ Below w.heap.size w w' := by
  obtain ⟨WA, hWA⟩ : ∃ WA, WA = w.alloc (Obj.cells #[.int .i64 0, .int .i64 0, .int .i64 0] 33) := ⟨_, rfl⟩
  have hB : Below w.heap.size w WA := by rw [hWA]; exact below_box _ _
  have r0 : WA.heap[w.heap.size]? = some (.cells #[.int .i64 0, .int .i64 0, .int .i64 0] 33 (0, 0)) := by rw [hWA]; exact heap_alloc_new w _
  have HR := hid (read_any s WA hs (Utf8Tabs_below hT hB))
  have HB := hid hB
  have HR0 := hid r0
  have HWA := hid hWA
  have i1 : (s.size : Int) ≤ 1048576 := by omega
  clear hWA hB r0 hT
  go_enter Tryd.func21, Tryd.ntmps21
  go_wp2_with (rw [← HWA.out])
  refine HR.out.mono ?_
  rintro e w1 ⟨h, b1⟩
  have r1 := step_row HR0.out b1
  have hb1 := HB.out.trans (b1.mono HB.out.size)
  have hlt := (Array.getElem?_eq_some_iff.1 r1).1
  rcases h with ⟨f, hp, h0, rfl⟩ | ⟨t, hp, ht, rfl⟩
  · obtain ⟨WC, hWC⟩ : ∃ WC, WC = w1.alloc (Obj.cells #[.int .i64 f.1, .int .i64 ((spotN (s.data.toList.take f.2)).1 : Nat), .int .i64 ((spotN (s.data.toList.take f.2)).2 : Nat)] 33) := ⟨_, rfl⟩
    have hbC : Below w1.heap.size w1 WC := by rw [hWC]; exact below_box _ _
    have rC : WC.heap[w1.heap.size]? = some (.cells #[.int .i64 f.1, .int .i64 ((spotN (s.data.toList.take f.2)).1 : Nat), .int .i64 ((spotN (s.data.toList.take f.2)).2 : Nat)] 33 (0, 0)) := by rw [hWC]; exact heap_alloc_new w1 _
    have r2 := step_row r1 hbC
    have c2 := fun j => cell_row r2 j
    have f2 := fun j => unfrozen_row r2 j
    have cC := fun j => cell_row rC j
    have HWC := hid hWC
    have HPF := hid hp
    have HB2 := hid (hb1.trans (hbC.mono hb1.size))
    have hz : ((f.1 : Int) != 0) = true := by simp; exact h0
    have n1 : w.heap.size ≠ w1.heap.size := by omega
    unfold spV
    clear hWC rC r2 r1 b1 hb1 hbC hp h0 HR
    go_wp2_with (rw [← HWC.out])
    go_region_law (fail)
    all_goals
      go_wp2_with fail
      exact bodyPost_ret (v := .tuple #[.slice none 0 0, spV s.data.toList f]) (by simp [results, Tryd.results21, go_sem, c2, spV]) rfl ⟨ParsedP.err HPF.out rfl, below3 HB2.out.drew _ _ _⟩
  · obtain ⟨WC, hWC⟩ : ∃ WC, WC = w1.alloc (Obj.cells #[.int .i64 0, .int .i64 0, .int .i64 0] 33) := ⟨_, rfl⟩
    have hbC : Below w1.heap.size w1 WC := by rw [hWC]; exact below_box _ _
    have rC : WC.heap[w1.heap.size]? = some (.cells #[.int .i64 0, .int .i64 0, .int .i64 0] 33 (0, 0)) := by rw [hWC]; exact heap_alloc_new w1 _
    have r2 := step_row r1 hbC
    have cC := fun j => cell_row rC j
    have hpl := Doc.parseF_len hp
    have HPF := hid hp
    have HR2 := hid r2
    have hB2 := hb1.trans (hbC.mono hb1.size)
    have HB2 := hid hB2
    have hzs : w.heap.size < WC.heap.size := (Array.getElem?_eq_some_iff.1 r2).1
    have own0 : WC.ownsRow WC.heap.size 54 2 (.slice none 0 0) ([] : List Nd).length (ndL []) := ⟨rfl, .inl ⟨rfl, rfl⟩⟩
    have hL := list_all t ht WC WC.heap.size (.slice none 0 0) [] own0 (Nat.le_refl _) (by simp; omega)
    rw [List.nil_append] at hL
    obtain ⟨kt, ut, et⟩ := tv_form t
    rw [et] at hL ⊢
    have HL := hid hL
    clear rC r2 r1 b1 hb1 hbC hp HR hL own0 hB2 ht et
    subst hWC
    go_wp2_with fail
    refine HL.out.mono ?_
    rintro e w2 ⟨v2, rfl, o2, g2⟩
    have rr2 := g2.row (by simp [Value.ownBlock]) HR2.out
    have c3 := fun j => cell_row rr2 j
    have f3 := fun j => unfrozen_row rr2 j
    have HB3 := hid (HB2.out.trans (g2.below (Nat.le_of_lt hzs) (fun k hk => by simp [Value.ownBlock] at hk)))
    obtain ⟨s2, c2, rfl⟩ := own_slice o2
    have O2 := hid o2
    clear o2 g2 rr2
    go_wp2_with fail
    refine bodyPost_ret (v := .tuple #[.slice s2 t.post.length c2, .agg #[.int .i64 0, .int .i64 0, .int .i64 0]]) (by simp [results, Tryd.results21, go_sem, c3]) rfl ⟨ParsedP.ok HPF.out rfl ?_, below3 HB3.out _ _ _⟩
    exact ownsRow_lower (ownsRow_store (ownsRow_store (ownsRow_store O2.out hzs) hzs) hzs) (Nat.le_of_lt hzs)

theorem parse_landed (s : ByteArray) (w : World) (hs : s.size ≤ 9223372036854775807) (hT : Lib.Utf8Tabs 3 4 w) :
    Calls Tryd.prog 21 #[.string s] w fun e w' => ParsedP s.data.toList w.heap.size e w' ∧ Below w.heap.size w w' := by
  by_cases hl : s.size ≤ 1048576
  · exact parse_small s w hl hT
  · exact parse_big s w hs (by omega)
end Go.Proofs.YtdkboifpdodonaaDoor
