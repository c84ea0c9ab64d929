/-
  CircuitMeans, CircuitBlind: what comes in.
-/
import Derived.Test.YtfmmmhcpdinhgaaDoorA6
import Derived.OpenShut
import Derived.SizedLaws
import Derived.ProofKit
import Derived.Deep.Slices
import Derived.ChangeArms
import Derived.DataElems
namespace Go.Proofs.YtfmmmhcpdinhgaaDoor
open Go.ChangeShapes Go.WideShapes Go.ChangeAt Go.RowKit Go.Deep PureNet
set_option maxRecDepth 100000

theorem own : ownKnob Tryd.prog.godebug = none := by kernel_rfl
theorem laidOut : laidOutB Tryd.prog = true := by kernel_rfl
theorem cells3 : Tryd.prog.cellsOf 3 = 1 := by kernel_rfl
theorem cells4 : Tryd.prog.cellsOf 4 = 1 := by kernel_rfl
theorem cells29 : Tryd.prog.cellsOf 29 = 1 := by kernel_rfl
theorem bytes3 : Tryd.prog.bytesOf 3 = 8 := by kernel_rfl
theorem bytes4 : Tryd.prog.bytesOf 4 = 1 := by kernel_rfl
theorem bytes29 : Tryd.prog.bytesOf 29 = 24 := by kernel_rfl
theorem i64_wf {n : Int} (h : (Lit.int .i64 n).wf = true) : -9223372036854775808 ≤ n ∧ n ≤ 9223372036854775807 := by
  have e1 : IntKind.i64.min = -9223372036854775808 := rfl
  have e2 : IntKind.i64.max = 9223372036854775807 := rfl
  simpa [Lit.wf, e1, e2] using h
theorem cells_of {W : World} {a : Addr} {xs : List Value} (h : ∀ (k : Nat) (x : Value), xs[k]? = some x → W.cell? (a.add k) = some x) : CellsAt W (some a) xs := ⟨fun k x hx => by
  have hc := h k x hx
  have h0 : 0 < xs.length := by
    have := (List.getElem?_eq_some_iff.1 hx).1
    omega
  have hs := World.cell?_spot (h 0 _ (List.getElem?_eq_getElem h0))
  obtain ⟨b, off, spot⟩ := a
  obtain rfl : spot = none := by simpa [Addr.add] using hs
  rw [add_plain] at hc
  exact ⟨b, off, rfl, World.block_lt_of_cell? W _ hc, hc⟩⟩
theorem weightsAll_mem {H : Type} {P : Program} {e : TypeId} : ∀ {l : List (DataW H)} {d : DataW H}, d ∈ l → ∀ n ∈ d.weights P e, n ∈ DataW.weightsAll P e l
  | d0 :: r, d, hd, n, hn => by
    simp only [DataW.weightsAll, List.mem_append]
    rcases List.mem_cons.1 hd with rfl | hd
    · exact .inl hn
    · exact .inr (weightsAll_mem hd n hn)

section
variable {H : Type} {enc : TypeId × Value → H} {W : World} {spare : Nat → Bool} {held : Bool}

set_option maxRecDepth 100000 in
/-- numbers that came in. -/
theorem open_nums {v : Value} {d : DataW H} {ps : List MemPlace} {base : Nat} (hval : Value.okWide Tryd.prog W .any base 22 v) (h : DataW.Trod enc Tryd.prog W 0 spare held 22 v d ps) :
    ∃ (sa : Option Addr) (ca : Nat) (l : List Int), v = .slice sa l.length ca ∧ CellsAt W sa (nu l) ∧ (∀ x ∈ l, -9223372036854775808 ≤ x ∧ x ≤ 9223372036854775807) ∧
      ∀ {ts : List TypeId} {ds : List (DataW H)} {j : Nat}, (DataW.weightsEach Tryd.prog ts ds).all (· ≤ reachBytes) = true → ts[j]? = some 22 → ds[j]? = some d → l.length ≤ 17592186043904 := by
  obtain ⟨a0, len, cap, rfl⟩ := okWide_slice Tryd.underlying22 hval
  obtain ⟨fuel, hf⟩ := h
  rcases open_ints Tryd.underlying22 Tryd.underlying3 cells3 hf with ⟨hcs, hx⟩ | ⟨a, len', cap', zs, hcs, _, hl, hm, hz, hx, hcell, hwz⟩
  · simp [Value.cells] at hcs
    obtain ⟨rfl, rfl, rfl⟩ := hcs
    exact ⟨none, 0, [], rfl, CellsAt.nil _ _, (fun x hx => by cases hx), fun _ _ _ => Nat.zero_le _⟩
  · simp [Value.cells] at hcs
    obtain ⟨rfl, rfl, rfl⟩ := hcs
    obtain ⟨rfl, -⟩ := Prod.mk.inj hx
    have hlz : len ≤ zs.length := by rw [hz]; split <;> omega
    have hlen : (zs.take len).length = len := by simp [hlz]
    refine ⟨some a, cap, zs.take len, by rw [hlen], cells_of fun k x hkx => ?_, fun x hx => i64_wf (hwz _ (List.mem_of_mem_take hx)), fun {ts ds j} hsz ht hd => ?_⟩
    · have hk : k < len := by
        have := (List.getElem?_eq_some_iff.1 hkx).1
        simpa [nu, hlz] using this
      have h1 := hcell k (by omega)
      rw [h1, ← hkx]
      simp [nu, hk, List.getD, List.getElem?_eq_getElem (show k < zs.length by omega)]
    · rw [hlen]
      have hr : reachBytes = 140737488351232 := by decide
      have hw : ((lits (H := H) IntKind.i64 (List.take len zs)).length + (lits (H := H) IntKind.i64 (List.drop len zs)).length) * 8 ∈ (DataW.slice (lits IntKind.i64 (List.take len zs)) (lits (H := H) IntKind.i64 (List.drop len zs))).weights Tryd.prog 22 := by
        simp [DataW.weights, Tryd.underlying22, bytes3]
      have h2 := List.all_eq_true.1 hsz _ (DataW.weights_mem_each ht hd _ hw)
      have h3 : ((lits (H := H) IntKind.i64 (List.take len zs)).length + (lits (H := H) IntKind.i64 (List.drop len zs)).length) * 8 ≤ reachBytes := by simpa using h2
      simp only [lits, List.length_map, List.length_take, List.length_drop] at h3
      omega

set_option maxRecDepth 100000 in
/-- truths that came in. -/
theorem open_bits {n : Nat} {v : Value} {x : DataW H × List MemPlace} (hf : DataW.trod enc Tryd.prog W 0 spare held n 29 [v] = some x) :
    ∃ (sa : Option Addr) (ca : Nat) (l : List Bool), v = .slice sa l.length ca ∧ CellsAt W sa (bo l) ∧ (sa = none → ca = 0) ∧ ((∀ m ∈ x.1.weights Tryd.prog 29, m ≤ reachBytes) → l.length ≤ 140737488351232) := by
  rcases open_slice Tryd.underlying29 hf with ⟨hcs, hx⟩ | ⟨a, len, cap, m, n', D, Pl, hcs, _, hl, hm, hmm, hx, hall⟩
  · simp at hcs
    subst hcs
    exact ⟨none, 0, [], rfl, CellsAt.nil _ _, (fun _ => rfl), fun _ => Nat.zero_le _⟩
  · simp at hcs
    subst hcs
    rw [cells4] at hx hall
    have hlm : len ≤ m := by rw [hmm]; split <;> omega
    have each : ∀ i, i < len → ∃ b : Bool, W.cell? (a.add i) = some (.bool b) := fun i hi => by
      obtain ⟨cs', h1, h2⟩ := hall i (by omega)
      obtain ⟨b, rfl, _⟩ := DataW.trod_bool Tryd.underlying4 h2
      rw [Nat.mul_one] at h1
      have hm1 : (List.range 1).mapM (fun q => W.cell? ((a.add i).add q)) = some [.bool b] := by simpa [World.cells?] using h1
      have := mapM_some_get hm1 0 0 (by simp)
      refine ⟨b, ?_⟩
      have e0 : (a.add i).add 0 = a.add i := by simp [Addr.add]
      rw [e0] at this
      simpa using this
    obtain ⟨f, hf⟩ := choose_lt each
    have hlen : ((List.range len).map f).length = len := by simp
    refine ⟨some a, cap, (List.range len).map f, by rw [hlen], cells_of fun k x hk => ?_, (fun e => by cases e), fun hw => ?_⟩
    · have hkl : k < len := by
        have := (List.getElem?_eq_some_iff.1 hk).1
        simpa [bo] using this
      rw [hf k hkl, ← hk]
      simp [bo, hkl]
    · rw [hlen]
      have hr : reachBytes = 140737488351232 := by decide
      have h3 := hw ((((List.range len).map D).length + ((List.range (m - len)).map fun i => D (len + i)).length) * 1) (by rw [hx]; simp [DataW.weights, Tryd.underlying29, bytes4])
      simp only [List.length_map, List.length_range] at h3
      omega

set_option maxRecDepth 100000 in
/-- lists of truths that came in. -/
theorem open_lists {v : Value} {d : DataW H} {ps : List MemPlace} {base : Nat} (hval : Value.okWide Tryd.prog W .any base 23 v) (h : DataW.Trod enc Tryd.prog W 0 spare held 23 v d ps) :
    ∃ (sa : Option Addr) (ca : Nat) (L : List (List Bool)), v = .slice sa L.length ca ∧ ListsAt W sa L ∧
      ∀ {ts : List TypeId} {ds : List (DataW H)} {j : Nat}, (DataW.weightsEach Tryd.prog ts ds).all (· ≤ reachBytes) = true → ts[j]? = some 23 → ds[j]? = some d → L.length ≤ 5864062014634 ∧ ∀ l ∈ L, l.length ≤ 140737488351232 := by
  obtain ⟨a0, len, cap, rfl⟩ := okWide_slice Tryd.underlying23 hval
  obtain ⟨fuel, hf⟩ := h
  rcases open_slice Tryd.underlying23 hf with ⟨hcs, hx⟩ | ⟨a, len', cap', m, n, D, Pl, hcs, _, hl, hm, hmm, hx, hall⟩
  · simp [Value.cells] at hcs
    obtain ⟨rfl, rfl, rfl⟩ := hcs
    exact ⟨none, 0, [], rfl, ⟨fun k l hl => by simp at hl⟩, fun _ _ _ => ⟨Nat.zero_le _, (fun l hl => by cases hl)⟩⟩
  · simp [Value.cells] at hcs
    obtain ⟨rfl, rfl, rfl⟩ := hcs
    rw [cells29] at hx hall
    obtain ⟨rfl, -⟩ := Prod.mk.inj hx
    have hlm : len ≤ m := by rw [hmm]; split <;> omega
    have each : ∀ i, i < len → ∃ q : Option Addr × Nat × List Bool, W.cell? (a.add i) = some (.slice q.1 q.2.2.length q.2.1) ∧ CellsAt W q.1 (bo q.2.2) ∧ (q.1 = none → q.2.1 = 0) ∧ ((∀ z ∈ (D i).weights Tryd.prog 29, z ≤ reachBytes) → q.2.2.length ≤ 140737488351232) := fun i hi => by
      obtain ⟨cs', h1, h2⟩ := hall i (by omega)
      rw [Nat.mul_one] at h1
      have hm1 : (List.range 1).mapM (fun q => W.cell? ((a.add i).add q)) = some cs' := by simpa [World.cells?] using h1
      obtain ⟨v0, hg, rfl⟩ : ∃ v0, W.cell? (a.add i) = some v0 ∧ cs' = [v0] := by
        have e0 : (a.add i).add 0 = a.add i := by simp [Addr.add]
        cases hc0 : W.cell? (a.add i) with
        | none => simp [List.range_succ, e0, hc0] at hm1
        | some v0 =>
          refine ⟨v0, rfl, ?_⟩
          have : some [v0] = some cs' := by simpa [List.range_succ, e0, hc0] using hm1
          exact (Option.some.inj this).symm
      obtain ⟨s, k, l, rfl, hc, hn, hw⟩ := open_bits h2
      exact ⟨⟨s, k, l⟩, hg, hc, hn, hw⟩
    haveI : Inhabited (Option Addr × Nat × List Bool) := ⟨(none, 0, [])⟩
    obtain ⟨f, hf⟩ := choose_lt each
    have hlen : ((List.range len).map fun i => (f i).2.2).length = len := by simp
    refine ⟨some a, cap, (List.range len).map fun i => (f i).2.2, by rw [hlen], ⟨fun k l hk => ?_⟩, fun {ts ds j} hsz ht hd => ?_⟩
    · have hkl : k < len := by
        have := (List.getElem?_eq_some_iff.1 hk).1
        simpa using this
      obtain rfl : (f k).2.2 = l := by simpa [hkl] using hk
      obtain ⟨h1, h2, h3, _⟩ := hf k hkl
      obtain ⟨h01, _⟩ := hf 0 (by omega)
      have hs := World.cell?_spot h01
      obtain ⟨b, off, spot⟩ := a
      obtain rfl : spot = none := by simpa [Addr.add] using hs
      rw [add_plain] at h1
      exact ⟨b, off, _, _, rfl, World.block_lt_of_cell? W _ h1, h1, h2, h3⟩
    · have hr : reachBytes = 140737488351232 := by decide
      have all : ∀ z ∈ (DataW.slice ((List.range len).map D) ((List.range (m - len)).map fun i => D (len + i))).weights Tryd.prog 23, z ≤ reachBytes := fun z hz => by
        have := List.all_eq_true.1 hsz _ (DataW.weights_mem_each ht hd _ hz)
        simpa using this
      refine ⟨?_, fun l hl => ?_⟩
      · rw [hlen]
        have h3 := all ((((List.range len).map D).length + ((List.range (m - len)).map fun i => D (len + i)).length) * 24) (by simp [DataW.weights, Tryd.underlying23, bytes29])
        simp only [List.length_map, List.length_range] at h3
        omega
      · simp only [List.mem_map, List.mem_range] at hl
        obtain ⟨i, hi, rfl⟩ := hl
        refine (hf i hi).2.2.2 fun z hz => all z ?_
        simp only [DataW.weights, Tryd.underlying23, List.mem_cons, List.mem_append]
        exact .inr (.inl (weightsAll_mem (List.mem_map.2 ⟨i, by simpa using hi, rfl⟩) z hz))
end
end Go.Proofs.YtfmmmhcpdinhgaaDoor
