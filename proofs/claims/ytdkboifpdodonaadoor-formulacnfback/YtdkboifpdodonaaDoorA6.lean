/-
  FormulaWrites: the law, over contracts of the program's own PrintCnf and FormedCnf.
-/
import Derived.Test.YtdkboifpdodonaaDoorA5
import Derived.Lib.SmallJoins
import Derived.Lib.ItoaMem
namespace Go.Proofs.YtdkboifpdodonaaDoor
open Go.RowKit Go.Deep PureCnf
set_option maxRecDepth 100000

theorem info3 : (Tryd.prog.info? 3).map (fun i => (i.zero, i.size, i.bytes)) = some (some (.int .i64 0), 1, 8) := by kernel_rfl

def ci (l : List Int) : List Value := l.map fun x => Value.int .i64 x
theorem ci_length (l : List Int) : (ci l).length = l.length := by simp [ci]
theorem ci_one (l : List Int) : ∀ u ∈ ci l, u.oneCell' = true := by
  intro u hu
  simp only [ci, List.mem_map] at hu
  obtain ⟨b, _, rfl⟩ := hu
  rfl

theorem append_nil_nil (ty : TypeId) (w : World) (a : Option Addr) (c : Nat) : (Builtin.append_ #[22, 22] ty #[.slice none 0 0, .slice a 0 c]).run Tryd.prog w = .ok (.slice none 0 0) w := by
  obtain ⟨i, hi, hz0, hz1, hz2⟩ := info_parts info3
  cases a <;> simp [Builtin.append_, run_underlying Tryd.underlying22, sizeOf, typeInfo, hi, Builtin.lenOf, Builtin.firstCells, loadCells, loadCellsFrom]

/-- 'append([]int(nil), s...)'. -/
theorem run_append_ints (ty : TypeId) (w : World) {sa : Option Addr} {c : Nat} {l : List Int} (h : IntsAt w sa l) (hn : l.length ≤ 17592186044416) :
    ∃ sb cc w', (Builtin.append_ #[22, 22] ty #[.slice none 0 0, .slice sa l.length c]).run Tryd.prog w = .ok (.slice sb l.length cc) w' ∧ IntsAt w' sb l ∧ l.length ≤ cc ∧ Below w.heap.size w w' ∧ ∀ a, sb = some a → w.heap.size ≤ a.block := by
  by_cases h0 : l.length = 0
  · have hd : l = [] := List.eq_nil_of_length_eq_zero h0
    subst hd
    exact ⟨_, _, _, append_nil_nil ty w sa c, ⟨fun k hk => by simp at hk, fun k hk => by simp at hk⟩, Nat.le_refl _, Below.refl _ _, fun a h => by cases h⟩
  · obtain ⟨a, rfl, ha, _⟩ := h.at_ 0 (by omega)
    obtain ⟨i, hi, hz0, hz1, hz2⟩ := info_parts info3
    obtain ⟨v', w', hr, ho, hg, _⟩ := run_append_own (P := Tryd.prog) w w.heap.size 22 ty 3 i (.int .i64 0) 1 8 Tryd.underlying22 hi hz0 hz1 hz2 rfl (by decide) (.slice none 0 0) 0 [] (World.ownsRow_nil _ _ _ _) a l.length c (ci l) (by rw [ci_length]; omega) (fun j u hj => by
      have hjl : j < l.length := by have := (List.getElem?_eq_some_iff.1 hj).1; rwa [ci_length] at this
      obtain ⟨a', e, _, hc⟩ := h.at_ j hjl
      simp only [Option.some.injEq] at e
      subst e
      rw [hc]
      simpa [ci, List.getElem?_eq_getElem hjl] using hj) (ci_one l) (by unfold maxLen; omega) (by omega) (Nat.le_refl _)
    have hb : Below w.heap.size w w' := (Below.refl _ w).grown hg (Nat.le_refl _) (by simp [Value.ownBlock])
    rcases ho.2 with ⟨_, h1⟩ | ⟨g, cap, cur, rfl, hbg, hgg, hnc, _⟩
    · omega
    · rw [Nat.zero_add] at hr hnc
      refine ⟨_, _, w', hr, ⟨fun k hk => ⟨_, rfl, (Array.getElem?_eq_some_iff.1 hgg).1, ?_⟩, h.wf⟩, hnc, hb, fun a h => by cases h; exact hbg⟩
      exact ho.cells (g := g) rfl k _ (by simp [ci, List.getElem?_eq_getElem hk])

/-- what a function that prints clauses answers. -/
def Prints (f : Nat) : Prop := ∀ (V : Int) (E L : List Int) (se sl : Option Addr) (ce cl : Nat) (w : World), (-9223372036854775808 ≤ V ∧ V ≤ 9223372036854775807) → E.length ≤ 17592186044416 → L.length ≤ 17592186044416 → E.length ≤ ce → L.length ≤ cl → IntsAt w se E → IntsAt w sl L →
    Calls Tryd.prog f #[cnfV V se E.length ce sl L.length cl] w fun e w' => e = .returned (.tuple #[str (printT V E L), .int .i64 (printE V E L)]) ∧ Below w.heap.size w w'
def Formeds (f : Nat) : Prop := ∀ (V : Int) (E L : List Int) (se sl : Option Addr) (ce cl : Nat) (w : World), (-9223372036854775808 ≤ V ∧ V ≤ 9223372036854775807) → E.length ≤ 17592186044416 → L.length ≤ 17592186044416 → E.length ≤ ce → L.length ≤ cl → IntsAt w se E → IntsAt w sl L →
    Calls Tryd.prog f #[cnfV V se E.length ce sl L.length cl] w fun e w' => e = .returned (.bool (formedB V E L)) ∧ Below w.heap.size w w'
/-- the library's table of powers of ten lies there. -/
def Tab (w : World) : Prop := Lib.TabIs Tryd.prog w "internal/strconv.uint64pow10" .u64 Lib.pow10Tab
theorem Tab.below {w W : World} (h : Tab w) (hb : Below w.heap.size w W) : Tab W := Joins.tab_stays (g := 2) (by kernel_rfl) h hb (Nat.le_refl _)
/-- the same, of a program that looks numbers up in that table. -/
def PrintsT (f : Nat) : Prop := ∀ (V : Int) (E L : List Int) (se sl : Option Addr) (ce cl : Nat) (w : World), Tab w → (-9223372036854775808 ≤ V ∧ V ≤ 9223372036854775807) → E.length ≤ 17592186044416 → L.length ≤ 17592186044416 → E.length ≤ ce → L.length ≤ cl → IntsAt w se E → IntsAt w sl L →
    Calls Tryd.prog f #[cnfV V se E.length ce sl L.length cl] w fun e w' => e = .returned (.tuple #[str (printT V E L), .int .i64 (printE V E L)]) ∧ Below w.heap.size w w'
theorem prints_own : Prints 9 := fun V E L se sl ce cl w hV hE hL _ _ h1 h2 => print_any V E L se sl ce cl w hV (by omega) (by omega) h1 h2
theorem formeds_own : Formeds 10 := fun V E L se sl ce cl w hV hE hL _ _ h1 h2 => formed_any V E L se sl ce cl w hV (by omega) (by omega) h1 h2

theorem app_ints {ops : Array Oper} {rest : List Oper} {o : Oper} {a : Act} {Q : Exit → Act → World → Prop} {w : World} (hgd : o.guard = none) (s x : Operand)
    (hop : o.op = Op.call { callee := Callee.builtin Builtin.append, args := #[s, x], argTypes := #[22, 22] })
    (sa : Option Addr) (l : List Int) (c : Nat) (hs : a.eval s = .slice none 0 0) (hx : a.eval x = .slice sa l.length c) (h : IntsAt w sa l) (hn : l.length ≤ 17592186044416)
    (hK : ∀ sb cc w', IntsAt w' sb l → l.length ≤ cc → Below w.heap.size w w' → (∀ a, sb = some a → w.heap.size ≤ a.block) → wpList Tryd.prog ops Q rest (a.put o.dst (.slice sb l.length cc)) w') : wpList Tryd.prog ops Q (o :: rest) a w := by
  refine wpList_plain hgd fun K' hK' => ?_
  obtain ⟨sb, cc, w', hrun, h1, h2, h3, h4⟩ := run_append_ints o.type w (c := c) h hn
  unfold Oper.wp
  simp [execOp, hop, resolve, invoke, builtin, hs, hx, hrun, Result.andThen]
  exact hK' _ _ (hK sb cc w' h1 h2 h3 h4)

theorem unfrozen_row {w : World} {b : Nat} {c : Array Value} {t : TypeId} (h : w.heap[b]? = some (.cells c t (0, 0))) (i : Nat) : w.frozen? ⟨b, i, none⟩ = false := by simp [World.frozen?, h]

/-- two boxes that lie there. -/
structure Boxes (w W : World) (b1 b2 : Nat) (C X : Array Value) : Prop where
  r1 : W.heap[b1]? = some (.cells C 24 (0, 0))
  r2 : W.heap[b2]? = some (.cells X 24 (0, 0))
  below : Below w.heap.size w W
  ne : b1 ≠ b2
  ge : w.heap.size ≤ b2
theorem Boxes.on {w W W' : World} {b1 b2 : Nat} {C X : Array Value} (h : Boxes w W b1 b2 C X) (hb : Below W.heap.size W W') : Boxes w W' b1 b2 C X :=
  ⟨(hb.block _ (Array.getElem?_eq_some_iff.1 h.r1).1).trans h.r1, (hb.block _ (Array.getElem?_eq_some_iff.1 h.r2).1).trans h.r2, h.below.trans (hb.mono h.below.size), h.ne, h.ge⟩
theorem Boxes.store {w W : World} {b1 b2 : Nat} {C X : Array Value} (h : Boxes w W b1 b2 C X) (i : Nat) (v : Value) : Boxes w (W.setCell ⟨b2, i, none⟩ v) b1 b2 C (X.setIfInBounds i v) := by
  have hb := (Array.getElem?_eq_some_iff.1 h.r2).1
  refine ⟨(Below.heap_setCell W _ _ _ h.ne).trans h.r1, ?_, h.below.setCell h.ge _, h.ne, h.ge⟩
  simp [World.setCell, Array.getElem?_modify, h.r2]
theorem IntsAt.store {W : World} {b : Nat} {sa : Option Addr} {l : List Int} (h : IntsAt W sa l) (hne : ∀ a, sa = some a → a.block ≠ b) (i : Nat) (v : Value) : IntsAt (W.setCell ⟨b, i, none⟩ v) sa l :=
  ⟨fun k hk => by
    obtain ⟨a, e, hb, c⟩ := h.at_ k hk
    refine ⟨a, e, by simpa [World.setCell] using hb, ?_⟩
    rw [← c]
    exact World.cell?_of_block (Below.heap_setCell W _ _ _ (by rw [add_block]; exact hne a e)), h.wf⟩

set_option maxHeartbeats 1000000 in
theorem writes_law (hP : PrintsT 7) (hF : Formeds 8) (V : Int) (E L : List Int) (se sl : Option Addr) (ce cl : Nat) (w : World) (hT : Tab w) (hV : -9223372036854775808 ≤ V ∧ V ≤ 9223372036854775807) (hnE : E.length ≤ 17592186044416) (hnL : L.length ≤ 17592186044416) (hce : E.length ≤ ce) (hcl : L.length ≤ cl) (hE : IntsAt w se E) (hL : IntsAt w sl L) :
    Calls Tryd.prog 3 #[cnfV V se E.length ce sl L.length cl] w fun e w' => e = .returned (.bool true) ∧ Below w.heap.size w w' := by
  obtain ⟨WA, hWA⟩ : ∃ WA, WA = (w.alloc (Obj.cells #[.int .i64 V, .slice se E.length ce, .slice sl L.length cl] 24 (0, 0))).alloc (Obj.cells #[.int .i64 V, .slice none 0 0, .slice none 0 0] 24 (0, 0)) := ⟨_, rfl⟩
  have BA : Boxes w WA w.heap.size (w.heap.size + 1) #[.int .i64 V, .slice se E.length ce, .slice sl L.length cl] #[.int .i64 V, .slice none 0 0, .slice none 0 0] := by
    rw [hWA]
    refine ⟨?_, ?_, ((Below.refl _ _).alloc (Nat.le_refl _) _).alloc (by simp) _, by omega, by omega⟩
    · exact (Below.heap_alloc _ _ _ (by simp)).trans (heap_alloc_new w _)
    · have := heap_alloc_new (w.alloc (Obj.cells #[.int .i64 V, .slice se E.length ce, .slice sl L.length cl] 24 (0, 0))) (Obj.cells #[.int .i64 V, .slice none 0 0, .slice none 0 0] 24 (0, 0))
      simpa using this
  have HWA := hid hWA
  have HBA := hid BA
  have HE := hid (hE.below BA.below)
  have HL := hid (hL.below BA.below)
  have f1 : ∀ i, WA.cell? ⟨w.heap.size, i, none⟩ = _ := fun i => cell_row BA.r1 i
  have f2 : ∀ i, WA.cell? ⟨w.heap.size + 1, i, none⟩ = _ := fun i => cell_row BA.r2 i
  have HT := hid hT
  have HE0 := hid hE
  have HL0 := hid hL
  have HV := hid hV
  have HP := hid hP
  have HF := hid hF
  clear hWA BA hE hL hV hP hF hT
  go_enter Tryd.func3, Tryd.ntmps3
  go_wp2_with (first
    | (rw [← HWA.out])
    | (rw [← HW2.out])
    | (rw [← HW1.out])
    | (have q := HW1; clear q; at_builtin; refine app_ints rfl _ _ rfl sl L cl rfl rfl HL1.out hnL ?_; intro sd cd w2 j1 j2 j3 j4; have J2 := hid j2; have HB3 := hid (HB2.out.on j3); obtain ⟨W2, hW2⟩ : ∃ W2, W2 = w2.setCell ⟨w.heap.size + 1, 2, none⟩ (.slice sd L.length cd) := ⟨_, rfl⟩; have HB4 : Hid (Boxes w W2 w.heap.size (w.heap.size + 1) #[.int .i64 V, .slice se E.length ce, .slice sl L.length cl] #[.int .i64 V, .slice sb E.length cb, .slice sd L.length cd]) := (by rw [hW2]; exact HB3.out.store 2 _); have HX2 := hid (show IntsAt W2 sb E by rw [hW2]; exact (IX1.out.below j3).store I4.out _ _); have HY2 := hid (show IntsAt W2 sd L by rw [hW2]; exact j1.store (fun a h e => by have h1 := j4 a h; have h2 := (Array.getElem?_eq_some_iff.1 HB2.out.r2).1; omega) _ _); have HW2 := hid hW2; clear k1 k2; have g1 := fun i => cell_row HB3.out.r2 i; have g3 := fun i => unfrozen_row HB3.out.r2 i; have k1 := fun i => cell_row HB4.out.r1 i; have k2 := fun i => cell_row HB4.out.r2 i; clear hW2 j1 j2 j3 j4)
    | (at_builtin; refine app_ints rfl _ _ rfl se E ce rfl rfl HE.out hnE ?_; intro sb cb w1 i1 i2 i3 i4; have I2 := hid i2; have HB1 := hid (HBA.out.on i3); obtain ⟨W1, hW1⟩ : ∃ W1, W1 = w1.setCell ⟨w.heap.size + 1, 1, none⟩ (.slice sb E.length cb) := ⟨_, rfl⟩; have HB2 : Hid (Boxes w W1 w.heap.size (w.heap.size + 1) #[.int .i64 V, .slice se E.length ce, .slice sl L.length cl] #[.int .i64 V, .slice sb E.length cb, .slice none 0 0]) := (by rw [hW1]; exact HB1.out.store 1 _); have I4 : Hid (∀ a, sb = some a → a.block ≠ w.heap.size + 1) := (fun a h e => by have h1 := i4 a h; have h2 := (Array.getElem?_eq_some_iff.1 HBA.out.r2).1; omega); have IX1 := hid (show IntsAt W1 sb E by rw [hW1]; exact i1.store I4.out _ _); have HL1 := hid (HL0.out.below HB2.out.below); have HW1 := hid hW1; clear f1 f2; have g1 := fun i => cell_row HB1.out.r2 i; have g3 := fun i => unfrozen_row HB1.out.r2 i; have k1 := fun i => cell_row HB2.out.r1 i; have k2 := fun i => cell_row HB2.out.r2 i; clear hW1 i1 i2 i3 i4))
  have HK : Hid (∀ W, Below W2.heap.size W2 W → Boxes w W w.heap.size (w.heap.size + 1) #[.int .i64 V, .slice se E.length ce, .slice sl L.length cl] #[.int .i64 V, .slice sb E.length cb, .slice sd L.length cd] ∧ IntsAt W sb E ∧ IntsAt W sd L ∧ IntsAt W se E ∧ IntsAt W sl L) := fun W hW =>
    ⟨HB4.out.on hW, HX2.out.below hW, HY2.out.below hW, HE0.out.below (HB4.out.on hW).below, HL0.out.below (HB4.out.on hW).below⟩
  have T2 := hid (Below.refl W2.heap.size W2)
  clear g1 g3
  obtain ⟨-, x1, x2, x3, x4⟩ := HK.out _ T2.out
  refine (HP.out V E L sb sd cb cd _ (HT.out.below HB4.out.below) HV.out hnE hnL I2.out J2.out x1 x2).mono ?_
  rintro e w3 ⟨rfl, b3⟩
  have T3 := hid (T2.out.trans (b3.mono T2.out.size))
  clear x1 x2 x3 x4 b3 k1 k2
  obtain ⟨q0, x1, x2, x3, x4⟩ := HK.out _ T3.out
  have k1 := fun i => cell_row q0.r1 i
  have k2 := fun i => cell_row q0.r2 i
  go_wp2_with fail
  refine (HF.out V E L sb sd cb cd _ HV.out hnE hnL I2.out J2.out x1 x2).mono ?_
  rintro e w4 ⟨rfl, b4⟩
  have T4 := hid (T3.out.trans (b4.mono T3.out.size))
  clear x1 x2 x3 x4 b4 k1 k2 q0
  obtain ⟨q0, x1, x2, x3, x4⟩ := HK.out _ T4.out
  have k1 := fun i => cell_row q0.r1 i
  have k2 := fun i => cell_row q0.r2 i
  go_wp2_with fail
  refine (prints_own V E L se sl ce cl _ HV.out hnE hnL hce hcl x3 x4).mono ?_
  rintro e w5 ⟨rfl, b5⟩
  have T5 := hid (T4.out.trans (b5.mono T4.out.size))
  clear x1 x2 x3 x4 b5 k1 k2 q0
  obtain ⟨q0, x1, x2, x3, x4⟩ := HK.out _ T5.out
  have k1 := fun i => cell_row q0.r1 i
  have k2 := fun i => cell_row q0.r2 i
  go_wp2_with fail
  refine (formeds_own V E L se sl ce cl _ HV.out hnE hnL hce hcl x3 x4).mono ?_
  rintro e w6 ⟨rfl, b6⟩
  have T6 := hid (T5.out.trans (b6.mono T5.out.size))
  clear x1 x2 x3 x4 b6 k1 k2 q0
  obtain ⟨q0, x1, x2, x3, x4⟩ := HK.out _ T6.out
  have k1 := fun i => cell_row q0.r1 i
  have k2 := fun i => cell_row q0.r2 i
  go_wp2_with fail
  refine (sameCnf_true V E L sb sd se sl cb cd ce cl _ (by omega) (by omega) x1 x2 x3 x4).mono ?_
  rintro e w7 ⟨rfl, b7⟩
  have T7 := hid (T6.out.trans (b7.mono T6.out.size))
  go_wp2
  go_ret
  exact ⟨rfl, (HK.out _ T7.out).1.below⟩
end Go.Proofs.YtdkboifpdodonaaDoor
