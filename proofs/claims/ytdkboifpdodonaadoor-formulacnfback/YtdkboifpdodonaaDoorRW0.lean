/-
  Rows: clauses that came in, opened; the table of powers of ten.
-/
import Derived.Test.YtdkboifpdodonaaDoorF6
import Derived.Test.YtdkboifpdodonaaDoorCards
import Derived.Test.YtdkboifpdodonaaDoorTie
import Derived.Deep.DeepHandedRow
import Derived.Deep.DeepWitnessRowRef
import Derived.ChangeArms
import Derived.DataElems
import Derived.SevenTiedAt
import Derived.OpenShut
import Derived.SizedLaws
import Derived.ProofKit
import Derived.Deep.Slices
namespace Go.Proofs.YtdkboifpdodonaaDoor
open Go.ChangeShapes Go.WideShapes Go.ChangeAt Go.RowKit Go.Deep
set_option maxRecDepth 100000

theorem own : ownKnob Tryd.prog.godebug = none := by kernel_rfl
theorem laidOut : laidOutB Tryd.prog = true := by kernel_rfl
theorem cells3 : Tryd.prog.cellsOf 3 = 1 := by kernel_rfl
theorem cells22 : Tryd.prog.cellsOf 22 = 1 := by kernel_rfl
theorem cells24 : Tryd.prog.cellsOf 24 = 3 := by kernel_rfl
theorem bytes3 : Tryd.prog.bytesOf 3 = 8 := by kernel_rfl
theorem i64_wf {n : Int} (h : (Lit.int .i64 n).wf = true) : -9223372036854775808 ≤ n ∧ n ≤ 9223372036854775807 := by
  have e1 : IntKind.i64.min = -9223372036854775808 := rfl
  have e2 : IntKind.i64.max = 9223372036854775807 := rfl
  simpa [Lit.wf, e1, e2] using h

section
variable {H : Type} {enc : TypeId × Value → H} {W : World} {spare : Nat → Bool} {held : Bool}

set_option maxRecDepth 100000 in
/-- numbers that came in. -/
theorem open_list {fuel : Nat} {v : Value} {x : DataW H × List MemPlace} (h : DataW.trod enc Tryd.prog W 0 spare held fuel 22 [v] = some x) :
    ∃ (sa : Option Addr) (ca : Nat) (l : List Int), v = .slice sa l.length ca ∧ IntsAt W sa l ∧ l.length ≤ ca ∧ ((x.1 = .nil ∧ l = []) ∨ ∃ e r, x.1 = .slice e r ∧ e.length = l.length) ∧ l.length ≤ 9223372036854775807 := by
  rcases open_ints Tryd.underlying22 Tryd.underlying3 cells3 h with ⟨hcs, hx⟩ | ⟨a, len, cap, zs, hcs, _, hl, hm, hz, hx, hcell, hwz⟩
  · simp at hcs
    subst hcs
    exact ⟨none, 0, [], rfl, ⟨fun k hk => by simp at hk, fun k hk => by simp at hk⟩, Nat.le_refl _, .inl ⟨by rw [hx], rfl⟩, Nat.zero_le _⟩
  · simp at hcs
    subst hcs
    have hlz : len ≤ zs.length := by rw [hz]; split <;> omega
    have hlen : (zs.take len).length = len := by simp [hlz]
    refine ⟨some a, cap, zs.take len, by rw [hlen], ⟨fun k hk => ⟨a, rfl, ?_, ?_⟩, fun k hk => ?_⟩, by rw [hlen]; exact hl, .inr ⟨_, _, by rw [hx], by simp [lits]⟩, ?_⟩
    · rw [hlen] at hk
      have := World.block_lt_of_cell? W _ (hcell k (by omega))
      rwa [add_block] at this
    · rw [hlen] at hk
      rw [hcell k (by omega), List.getElem_take]
      simp [List.getD, List.getElem?_eq_getElem (show k < zs.length by omega)]
    · rw [hlen] at hk
      rw [List.getElem_take]
      exact i64_wf (hwz _ (List.getElem_mem _))
    · rw [hlen]
      have : maxLen = 9223372036854775807 := by decide
      omega

/-- clauses that came in. -/
theorem open_cnf {v : Value} {d : DataW H} {ps : List MemPlace} {base : Nat} (hval : Value.okWide Tryd.prog W .any base 24 v) (h : DataW.Trod enc Tryd.prog W 0 spare held 24 v d ps) :
    ∃ (V : Int) (E L : List Int) (se sl : Option Addr) (ce cl : Nat), v = cnfV V se E.length ce sl L.length cl ∧ (-9223372036854775808 ≤ V ∧ V ≤ 9223372036854775807) ∧ IntsAt W se E ∧ IntsAt W sl L ∧ E.length ≤ ce ∧ L.length ≤ cl ∧
      ∀ {ts : List TypeId} {ds : List (DataW H)} {j : Nat}, (DataW.weightsEach Tryd.prog ts ds).all (· ≤ reachBytes) = true → ts[j]? = some 24 → ds[j]? = some d → E.length ≤ 17592186044416 ∧ L.length ≤ 17592186044416 := by
  obtain ⟨cs, rfl, hsz, _⟩ : ∃ cs, v = .agg cs ∧ cs.size = Tryd.prog.cellsOf 24 ∧ Row.okWide Tryd.prog W .any base 24 cs := by
    simpa [Value.okWide, Tryd.underlying24] using hval
  rw [cells24] at hsz
  obtain ⟨l⟩ := cs
  obtain ⟨fuel, hf⟩ := h
  match l, hsz with
  | [v0, v1, v2], _ =>
  obtain ⟨xs, m, e1, e2, hl, hxs, hall⟩ := DataW.trod_struct Tryd.underlying24 hf
  have f0 := hall 0 _ rfl
  have f1 := hall 1 _ rfl
  have f2 := hall 2 _ rfl
  simp [cells3, cells22, Value.cells] at f0 f1 f2
  have hx3 : xs.length = 3 := by simpa using hxs
  rw [List.getElem?_eq_getElem (by omega)] at f0 f1 f2
  obtain ⟨n0, g0, _, w0⟩ := DataW.trod_int Tryd.underlying3 f0
  obtain ⟨sa, ca, E, g1, i1, c1, s1, n1⟩ := open_list f1
  obtain ⟨sb, cb, L, g2, i2, c2, s2, n2⟩ := open_list f2
  simp at g0
  subst g0 g1 g2
  refine ⟨n0, E, L, sa, sb, ca, cb, rfl, i64_wf w0, i1, i2, c1, c2, ?_⟩
  intro ts ds j hsz ht hd
  have hdd : d = .agg (xs.map (·.1)) := by
    have := congrArg Prod.fst e2
    simpa using this
  have hr : reachBytes = 140737488351232 := by decide
  have one : ∀ (i : Nat) (hi : i < xs.length) (l : List Int), ((xs[i]).1 = DataW.nil ∧ l = []) ∨ (∃ e r, (xs[i]).1 = DataW.slice e r ∧ e.length = l.length) → (i = 1 ∨ i = 2) → l.length ≤ 17592186044416 := fun i hi l hs h12 => by
    rcases hs with ⟨_, rfl⟩ | ⟨e, r, hx, he⟩
    · exact Nat.zero_le _
    · have h2 : (xs.map (·.1))[i]? = some (.slice e r) := by
        rw [List.getElem?_map, List.getElem?_eq_getElem hi, ← hx]
        rfl
      have hw : (e.length + r.length) * 8 ∈ d.weights Tryd.prog 24 := by
        rw [hdd]
        simp only [DataW.weights, Tryd.underlying24]
        refine DataW.weights_mem_each (j := i) (t := 22) (by rcases h12 with rfl | rfl <;> rfl) h2 _ ?_
        simp [DataW.weights, Tryd.underlying22, bytes3]
      have := List.all_eq_true.1 hsz _ (DataW.weights_mem_each ht hd _ hw)
      have h3 : (e.length + r.length) * 8 ≤ reachBytes := by simpa using this
      omega
  exact ⟨one 1 (by omega) E s1 (.inl rfl), one 2 (by omega) L s2 (.inr rfl)⟩
end

theorem pow10_is : (Rows.laid_internal_strconv_uint64pow10 : DataW Unit) = Lib.tabData .u64 Lib.pow10Tab := by kernel_rfl
theorem tab_of_laid {W : World} (h0 : laidMetH Tryd.prog [("math/bits.deBruijn32tab", Rows.laid_math_bits_deBruijn32tab), ("math/bits.deBruijn64tab", Rows.laid_math_bits_deBruijn64tab), ("internal/strconv.uint64pow10", Rows.laid_internal_strconv_uint64pow10)] W) : Tab W := by
  have h : laidMet Tryd.prog [("math/bits.deBruijn32tab", Rows.laid_math_bits_deBruijn32tab), ("math/bits.deBruijn64tab", Rows.laid_math_bits_deBruijn64tab), ("internal/strconv.uint64pow10", Rows.laid_internal_strconv_uint64pow10)] W := h0
  obtain ⟨ps, hl, _⟩ := h
  obtain ⟨_, _, _, _, _, _, _, _, _, _, h2, _⟩ := hl
  obtain ⟨_, _, _, _, _, _, _, _, _, _, h3, _⟩ := h2
  obtain ⟨g', t', cs, fuel, p, q, hg', ht', hvar, hd, _, _⟩ := h3
  obtain rfl : 2 = g' := Option.some.inj ((show Tryd.prog.globalNamed "internal/strconv.uint64pow10" = some 2 by kernel_rfl).symm.trans hg')
  obtain rfl : 196 = t' := Option.some.inj ((show (Tryd.prog.globals[2]?).map (·.type) = some 196 by kernel_rfl).symm.trans ht')
  rw [pow10_is] at hd
  unfold Tab Lib.TabIs
  rw [hvar, ← Lib.cells_of_tab Tryd.underlying196 Tryd.underlying179 (by kernel_rfl) (by kernel_rfl) hd]
end Go.Proofs.YtdkboifpdodonaaDoor
