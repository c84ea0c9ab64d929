/-
  Grounds of the walks in this seat.
-/
import Derived.Test.YtdkboifpdodonaaRows
import Derived.Test.YtdkboifpdodonaaCnf
import Derived.Lib.BufSteps
import Derived.Lib.ItoaLen
import Derived.Lib.Strings
import Derived.WalkKit
import Derived.WalkSpells
import Derived.WalkLawsBesides
import Derived.Deep.QuietTactic
import Derived.Deep.RegionHeld3
import Derived.Deep.RegionWith
import Derived.Deep.OwnRows
import Derived.Laws.LoneSync
import Derived.Below
import Derived.Laws.IdiomStrings
import Derived.BigQuiet
import Derived.Deep.RegionLaw
import Derived.Deep.DeepCutAuto
namespace Go.Proofs.Ytdkboifpdodonaa
open Go.RowKit Go.Deep PureCnf

theorem hid {q : Prop} (h : q) : Hid q := h

theorem Hid.out {q : Prop} (h : Hid q) : q := h

/-- a string of these bytes. -/
abbrev str (l : List UInt8) : Value := .string ⟨l.toArray⟩

/-- numbers that can be read there. -/
structure IntsAt (w : World) (sa : Option Addr) (l : List Int) : Prop where
  at_ : ∀ k (hk : k < l.length), ∃ a, sa = some a ∧ a.block < w.heap.size ∧ w.cell? (a.add k) = some (.int .i64 l[k])
  wf : ∀ k (hk : k < l.length), -9223372036854775808 ≤ l[k] ∧ l[k] ≤ 9223372036854775807

theorem add_block (a : Addr) (j : Nat) : (a.add j).block = a.block := by unfold Addr.add; split <;> rfl

theorem IntsAt.read {w : World} {sa : Option Addr} {l : List Int} (h : IntsAt w sa l) {k : Nat} (hk : k < l.length) : ∃ a, sa = some a ∧ a.block < w.heap.size ∧ ∀ W, Below w.heap.size w W → W.cell? (a.add k) = some (.int .i64 l[k]) := by
  obtain ⟨a, e, hb, c⟩ := h.at_ k hk
  exact ⟨a, e, hb, fun W hW => (hW.cell (by rw [add_block]; exact hb)).trans c⟩

theorem IntsAt.below {w W : World} {sa : Option Addr} {l : List Int} (h : IntsAt w sa l) (hW : Below w.heap.size w W) : IntsAt W sa l :=
  ⟨fun k hk => by
    obtain ⟨a, e, hb, c⟩ := h.at_ k hk
    exact ⟨a, e, Nat.lt_of_lt_of_le hb hW.size, (hW.cell (by rw [add_block]; exact hb)).trans c⟩, h.wf⟩

/-- clauses, as a value. -/
abbrev cnfV (V : Int) (se : Option Addr) (ne ce : Nat) (sl : Option Addr) (nl cl : Nat) : Value := .agg #[.int .i64 V, .slice se ne ce, .slice sl nl cl]

theorem info5 : (Try.prog.info? 5).map (fun i => (i.zero, i.size, i.bytes)) = some (some (.int .u8 0), 1, 1) := by kernel_rfl

theorem add_zero_addr (g j : Nat) : (⟨g, 0, none⟩ : Addr).add j = ⟨g, j, none⟩ := by
  unfold Addr.add
  split <;> simp_all

theorem cell_row {w : World} {b : Nat} {c : Array Value} {t : TypeId} {fz : Nat × Nat} (h : w.heap[b]? = some (.cells c t fz)) (i : Nat) : w.cell? ⟨b, i, none⟩ = c[i]? := by simp [World.cell?, h]

/-- what a box of clauses holds. -/
structure CnfBox (w : World) (V : Int) (E L : List Int) (se sl : Option Addr) (ce cl : Nat) (b : Nat) : Prop where
  c0 : w.cell? ⟨b, 0, none⟩ = some (.int .i64 V)
  c1 : w.cell? ⟨b, 1, none⟩ = some (.slice se E.length ce)
  c2 : w.cell? ⟨b, 2, none⟩ = some (.slice sl L.length cl)
theorem CnfBox.below {w W : World} {V : Int} {E L : List Int} {se sl : Option Addr} {ce cl b B : Nat} (h : CnfBox w V E L se sl ce cl b) (hW : Below B w W) (hb : b < B) : CnfBox W V E L se sl ce cl b :=
  ⟨(hW.cell (p := ⟨b, 0, none⟩) hb).trans h.c0, (hW.cell (p := ⟨b, 1, none⟩) hb).trans h.c1, (hW.cell (p := ⟨b, 2, none⟩) hb).trans h.c2⟩
theorem below_cell {B b o : Nat} {w w' : World} {x : Value} (hb : Below B w w') (hlt : b < B) (h : w.cell? ⟨b, o, none⟩ = some x) : w'.cell? ⟨b, o, none⟩ = some x := (hb.cell (p := ⟨b, o, none⟩) hlt).trans h

theorem drewN_add (w : World) (a b : Nat) : (w.drewN a).drewN b = w.drewN (a + b) := by simp [World.drewN, Nat.add_assoc]

set_option maxHeartbeats 1000000 in
theorem sameInts_true (l : List Int) (sa sb : Option Addr) (ca cb : Nat) (w : World) (hn : l.length ≤ 9223372036854775807) (hA : IntsAt w sa l) (hB : IntsAt w sb l) :
    Calls Try.prog 12 #[.slice sa l.length ca, .slice sb l.length cb] w fun e w' => e = .returned (.bool true) ∧ ∃ n, w' = w.drewN n := by
  have HA := hid hA
  have HB := hid hB
  clear hA hB
  go_enter Try.func12, Try.ntmps12
  go_wp2
  go_loopw [5] (fun i W => ∃ k n : Nat, k ≤ l.length ∧ i = .int .i64 k ∧ W = w.drewN n) (fun i _ => l.length - (intOf i).toNat)
  case atStart => exact ⟨0, 0, Nat.zero_le _, rfl, rfl⟩
  case round =>
    obtain ⟨k, n, hk, rfl, rfl⟩ := hrel
    by_cases hlt : k < l.length
    · obtain ⟨a, rfl, ha, ca1⟩ := HA.out.at_ k hlt
      obtain ⟨b, rfl, hb, cb1⟩ := HB.out.at_ k hlt
      have f1 : (l[k] != l[k]) = false := by simp
      go_wp2
      go_quiet (fail)
      go_wp2
      exact ⟨⟨k + 1, _, hlt, by go_num, rfl⟩, by simp [intOf]; omega⟩
    · go_wp2
      go_ret
      exact ⟨rfl, _, rfl⟩

theorem IntsAt.drewN {w : World} {sa : Option Addr} {l : List Int} (h : IntsAt w sa l) (n : Nat) : IntsAt (w.drewN n) sa l := ⟨h.at_, h.wf⟩

theorem Below.drewN' {B : Nat} {w w' : World} (h : Below B w w') (n : Nat) : Below B w (w'.drewN n) := ⟨h.os, h.tape, h.output, h.size, h.block⟩

set_option maxHeartbeats 1000000 in
theorem sameCnf_true (V : Int) (E L : List Int) (se sl se' sl' : Option Addr) (ce cl ce' cl' : Nat) (w : World) (hnE : E.length ≤ 9223372036854775807) (hnL : L.length ≤ 9223372036854775807) (hE : IntsAt w se E) (hL : IntsAt w sl L) (hE' : IntsAt w se' E) (hL' : IntsAt w sl' L) :
    Calls Try.prog 6 #[cnfV V se E.length ce sl L.length cl, cnfV V se' E.length ce' sl' L.length cl'] w fun e w' => e = .returned (.bool true) ∧ Below w.heap.size w w' := by
  obtain ⟨w1, hw1⟩ : ∃ w1, w1 = w.alloc (Obj.cells #[.int .i64 V, .slice se E.length ce, .slice sl L.length cl] 24 (0, 0)) := ⟨_, rfl⟩
  obtain ⟨w2, hw2⟩ : ∃ w2, w2 = w1.alloc (Obj.cells #[.int .i64 V, .slice se' E.length ce', .slice sl' L.length cl'] 24 (0, 0)) := ⟨_, rfl⟩
  have HB : Hid (Below w.heap.size w w2) := by rw [hw2, hw1]; exact ((Below.refl _ _).alloc (Nat.le_refl _) _).alloc (by simp) _
  have hz : w1.heap.size = w.heap.size + 1 := by rw [hw1]; simp
  have hb1 : CnfBox w2 V E L se sl ce cl w.heap.size := by rw [hw2, hw1]; exact ⟨by simp, by simp, by simp⟩
  have hb2 : CnfBox w2 V E L se' sl' ce' cl' (w.heap.size + 1) := by rw [← hz, hw2]; exact ⟨by simp, by simp, by simp⟩
  obtain ⟨c0, c1, c2⟩ := hb1
  obtain ⟨d0, d1, d2⟩ := hb2
  have S1 := hid (fun n => sameInts_true E se se' ce ce' (w2.drewN n) hnE ((hE.below HB.out).drewN n) ((hE'.below HB.out).drewN n))
  have S2 := hid (fun n => sameInts_true L sl sl' cl cl' (w2.drewN n) hnL ((hL.below HB.out).drewN n) ((hL'.below HB.out).drewN n))
  have H1 := hid hw1
  have H2 := hid hw2
  have HZ := hid hz
  clear hE hL hE' hL' hw1 hw2
  go_enter Try.func6, Try.ntmps6
  go_wp2_with (first | (rw [← H2.out]) | (rw [← H1.out]))
  refine (S1.out 0).mono ?_
  rintro e w3 ⟨rfl, n, rfl⟩
  go_wp2_with fail
  refine (S2.out _).mono ?_
  rintro e w4 ⟨rfl, m, rfl⟩
  go_wp2
  go_ret
  exact ⟨rfl, ⟨HB.out.os, HB.out.tape, HB.out.output, HB.out.size, HB.out.block⟩⟩

theorem info3 : (Try.prog.info? 3).map (fun i => (i.zero, i.size, i.bytes)) = some (some (.int .i64 0), 1, 8) := by kernel_rfl

def ci (l : List Int) : List Value := l.map fun x => Value.int .i64 x

theorem ci_length (l : List Int) : (ci l).length = l.length := by simp [ci]

theorem ci_one (l : List Int) : ∀ u ∈ ci l, u.oneCell' = true := by
  intro u hu
  simp only [ci, List.mem_map] at hu
  obtain ⟨b, _, rfl⟩ := hu
  rfl

theorem append_nil_nil (ty : TypeId) (w : World) (a : Option Addr) (c : Nat) : (Builtin.append_ #[22, 22] ty #[.slice none 0 0, .slice a 0 c]).run Try.prog w = .ok (.slice none 0 0) w := by
  obtain ⟨i, hi, hz0, hz1, hz2⟩ := info_parts info3
  cases a <;> simp [Builtin.append_, run_underlying Try.underlying22, sizeOf, typeInfo, hi, Builtin.lenOf, Builtin.firstCells, loadCells, loadCellsFrom]

/-- 'append([]int(nil), s...)'. -/
theorem run_append_ints (ty : TypeId) (w : World) {sa : Option Addr} {c : Nat} {l : List Int} (h : IntsAt w sa l) (hn : l.length ≤ 17592186044416) :
    ∃ sb cc w', (Builtin.append_ #[22, 22] ty #[.slice none 0 0, .slice sa l.length c]).run Try.prog w = .ok (.slice sb l.length cc) w' ∧ IntsAt w' sb l ∧ l.length ≤ cc ∧ Below w.heap.size w w' ∧ ∀ a, sb = some a → w.heap.size ≤ a.block := by
  by_cases h0 : l.length = 0
  · have hd : l = [] := List.eq_nil_of_length_eq_zero h0
    subst hd
    exact ⟨_, _, _, append_nil_nil ty w sa c, ⟨fun k hk => by simp at hk, fun k hk => by simp at hk⟩, Nat.le_refl _, Below.refl _ _, fun a h => by cases h⟩
  · obtain ⟨a, rfl, ha, _⟩ := h.at_ 0 (by omega)
    obtain ⟨i, hi, hz0, hz1, hz2⟩ := info_parts info3
    obtain ⟨v', w', hr, ho, hg, _⟩ := run_append_own (P := Try.prog) w w.heap.size 22 ty 3 i (.int .i64 0) 1 8 Try.underlying22 hi hz0 hz1 hz2 rfl (by decide) (.slice none 0 0) 0 [] (World.ownsRow_nil _ _ _ _) a l.length c (ci l) (by rw [ci_length]; omega) (fun j u hj => by
      have hjl : j < l.length := by have := (List.getElem?_eq_some_iff.1 hj).1; rwa [ci_length] at this
      obtain ⟨a', e, _, hc⟩ := h.at_ j hjl
      simp only [Option.some.injEq] at e
      subst e
      rw [hc]
      simpa [ci, List.getElem?_eq_getElem hjl] using hj) (ci_one l) (by unfold maxLen; omega) (by omega) (Nat.le_refl _)
    have hb : Below w.heap.size w w' := (Below.refl _ w).grown hg (Nat.le_refl _) (by simp [Value.ownBlock])
    rcases ho.2 with ⟨_, h1⟩ | ⟨g, cap, cur, rfl, hbg, hgg, hnc, _⟩
    · omega
    · rw [Nat.zero_add] at hr hnc
      refine ⟨_, _, w', hr, ⟨fun k hk => ⟨_, rfl, (Array.getElem?_eq_some_iff.1 hgg).1, ?_⟩, h.wf⟩, hnc, hb, fun a h => by cases h; exact hbg⟩
      exact ho.cells (g := g) rfl k _ (by simp [ci, List.getElem?_eq_getElem hk])

theorem app_ints {ops : Array Oper} {rest : List Oper} {o : Oper} {a : Act} {Q : Exit → Act → World → Prop} {w : World} (hgd : o.guard = none) (s x : Operand)
    (hop : o.op = Op.call { callee := Callee.builtin Builtin.append, args := #[s, x], argTypes := #[22, 22] })
    (sa : Option Addr) (l : List Int) (c : Nat) (hs : a.eval s = .slice none 0 0) (hx : a.eval x = .slice sa l.length c) (h : IntsAt w sa l) (hn : l.length ≤ 17592186044416)
    (hK : ∀ sb cc w', IntsAt w' sb l → l.length ≤ cc → Below w.heap.size w w' → (∀ a, sb = some a → w.heap.size ≤ a.block) → wpList Try.prog ops Q rest (a.put o.dst (.slice sb l.length cc)) w') : wpList Try.prog ops Q (o :: rest) a w := by
  refine wpList_plain hgd fun K' hK' => ?_
  obtain ⟨sb, cc, w', hrun, h1, h2, h3, h4⟩ := run_append_ints o.type w (c := c) h hn
  unfold Oper.wp
  simp [execOp, hop, resolve, invoke, builtin, hs, hx, hrun, Result.andThen]
  exact hK' _ _ (hK sb cc w' h1 h2 h3 h4)

theorem unfrozen_row {w : World} {b : Nat} {c : Array Value} {t : TypeId} (h : w.heap[b]? = some (.cells c t (0, 0))) (i : Nat) : w.frozen? ⟨b, i, none⟩ = false := by simp [World.frozen?, h]

/-- two boxes that lie there. -/
structure Boxes (w W : World) (b1 b2 : Nat) (C X : Array Value) : Prop where
  r1 : W.heap[b1]? = some (.cells C 24 (0, 0))
  r2 : W.heap[b2]? = some (.cells X 24 (0, 0))
  below : Below w.heap.size w W
  ne : b1 ≠ b2
  ge : w.heap.size ≤ b2

theorem Boxes.on {w W W' : World} {b1 b2 : Nat} {C X : Array Value} (h : Boxes w W b1 b2 C X) (hb : Below W.heap.size W W') : Boxes w W' b1 b2 C X :=
  ⟨(hb.block _ (Array.getElem?_eq_some_iff.1 h.r1).1).trans h.r1, (hb.block _ (Array.getElem?_eq_some_iff.1 h.r2).1).trans h.r2, h.below.trans (hb.mono h.below.size), h.ne, h.ge⟩

theorem Boxes.store {w W : World} {b1 b2 : Nat} {C X : Array Value} (h : Boxes w W b1 b2 C X) (i : Nat) (v : Value) : Boxes w (W.setCell ⟨b2, i, none⟩ v) b1 b2 C (X.setIfInBounds i v) := by
  have hb := (Array.getElem?_eq_some_iff.1 h.r2).1
  refine ⟨(Below.heap_setCell W _ _ _ h.ne).trans h.r1, ?_, h.below.setCell h.ge _, h.ne, h.ge⟩
  simp [World.setCell, Array.getElem?_modify, h.r2]

theorem IntsAt.store {W : World} {b : Nat} {sa : Option Addr} {l : List Int} (h : IntsAt W sa l) (hne : ∀ a, sa = some a → a.block ≠ b) (i : Nat) (v : Value) : IntsAt (W.setCell ⟨b, i, none⟩ v) sa l :=
  ⟨fun k hk => by
    obtain ⟨a, e, hb, c⟩ := h.at_ k hk
    refine ⟨a, e, by simpa [World.setCell] using hb, ?_⟩
    rw [← c]
    exact World.cell?_of_block (Below.heap_setCell W _ _ _ (by rw [add_block]; exact hne a e)), h.wf⟩

end Go.Proofs.Ytdkboifpdodonaa
