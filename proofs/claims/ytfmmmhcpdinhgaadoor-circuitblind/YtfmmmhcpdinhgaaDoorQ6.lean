/-
  The program's Cone.
-/
import Derived.Test.YtfmmmhcpdinhgaaDoorQ5
import Derived.Test.YtfmmmhcpdinhgaaDoorB2
import Derived.Test.YtfmmmhcpdinhgaaDoorShelf
import Derived.Sort.OwnSortedInts
namespace Go.Proofs.YtfmmmhcpdinhgaaDoor
open Go.RowKit Go.Deep PureNet ShfKit Go.Sort
set_option maxRecDepth 100000

theorem places_map (L : List Nat) : placesV L = (L.map fun (k : Nat) => (k : Int)).map (Value.int .i64) := by
  apply List.ext_getElem?
  intro j
  by_cases hj : j < L.length
  · rw [places_at L j L[j] (List.getElem?_eq_getElem hj)]
    simp [hj]
  · rw [List.getElem?_eq_none (by rw [places_len]; omega), List.getElem?_eq_none (by simp; omega)]
/-- the places that came out, in order. -/
theorem sorted_cone {c : Net} {p : Nat} {out : List Nat} (hnd : out.Nodup) (hmem : ∀ x, x ∈ out ↔ (x = p ∨ PureNet.Way c.gates p x)) (hlt : ∀ x ∈ out, x < c.gates.length) :
    ∃ L : List Nat, ((out.map fun (k : Nat) => (k : Int)).mergeSort fun x y => decide (x ≤ y)) = L.map (fun (k : Nat) => (k : Int)) ∧ L.length = out.length ∧ ConeL c p L := by
  obtain ⟨Z, hZ⟩ : ∃ Z, Z = ((out.map fun (k : Nat) => (k : Int)).mergeSort fun x y => decide (x ≤ y)) := ⟨_, rfl⟩
  have hperm : Z.Perm (out.map fun (k : Nat) => (k : Int)) := by rw [hZ]; exact List.mergeSort_perm _ _
  have hsort : Z.Pairwise fun x y => x ≤ y := by
    have := List.pairwise_mergeSort (le := fun (x y : Int) => decide (x ≤ y)) (fun a b c h1 h2 => by simp at h1 h2 ⊢; omega) (fun a b => by simp; omega) (out.map fun (k : Nat) => (k : Int))
    rw [← hZ] at this
    exact this.imp (fun h => by simpa using h)
  have hback : ∀ x ∈ Z, ∃ k : Nat, x = (k : Int) ∧ k ∈ out := fun x hx => by
    obtain ⟨k, hk, e⟩ := List.mem_map.1 (hperm.mem_iff.1 hx)
    exact ⟨k, e.symm, hk⟩
  have hZL : Z = (Z.map Int.toNat).map (fun (k : Nat) => (k : Int)) := by
    rw [List.map_map]
    conv => lhs; rw [← List.map_id Z]
    refine List.map_congr_left fun x hx => ?_
    obtain ⟨k, rfl, _⟩ := hback x hx
    simp
  have hndZ : Z.Nodup := hperm.nodup_iff.2 (by
    exact List.pairwise_map.2 (hnd.imp fun h e => h (Int.ofNat.inj e)))
  have hlen : (Z.map Int.toNat).length = out.length := by rw [List.length_map, hperm.length_eq, List.length_map]
  refine ⟨Z.map Int.toNat, by rw [← hZ]; exact hZL, hlen, ⟨fun i x y hx hy => ?_, fun x => ?_, fun x hx => ?_, ?_⟩⟩
  · rw [List.getElem?_map, Option.map_eq_some_iff] at hx hy
    obtain ⟨a, ha, rfl⟩ := hx
    obtain ⟨b, hb, rfl⟩ := hy
    obtain ⟨hi, e1⟩ := List.getElem?_eq_some_iff.1 ha
    obtain ⟨hi2, e2⟩ := List.getElem?_eq_some_iff.1 hb
    have hle := List.pairwise_iff_getElem.1 hsort i (i + 1) hi hi2 (by omega)
    have hne : a ≠ b := fun e => by
      have := (List.getElem?_inj hi hndZ).1 (show Z[i]? = Z[i + 1]? by rw [ha, hb, e])
      omega
    rw [e1, e2] at hle
    obtain ⟨k, rfl, _⟩ := hback a (List.mem_of_getElem? ha)
    obtain ⟨m, rfl, _⟩ := hback b (List.mem_of_getElem? hb)
    simp
    omega
  · rw [← hmem x]
    constructor
    · intro hx
      obtain ⟨a, ha, rfl⟩ := List.mem_map.1 hx
      obtain ⟨k, rfl, hk⟩ := hback a ha
      simpa using hk
    · intro hx
      exact List.mem_map.2 ⟨(x : Int), hperm.mem_iff.2 (List.mem_map.2 ⟨x, hx, rfl⟩), by simp⟩
  · obtain ⟨a, ha, rfl⟩ := List.mem_map.1 hx
    obtain ⟨k, rfl, hk⟩ := hback a ha
    simpa using hlt k hk
  · rw [hlen]
    exact few_of_nodup hnd hlt

end Go.Proofs.YtfmmmhcpdinhgaaDoor
namespace PureNet
open Go.Proofs.YtfmmmhcpdinhgaaDoor
set_option maxRecDepth 100000
theorem Sr.nd_out2 {l : List Ga} {P : Nat → Prop} {S0 : List Nat} {E : Nat → Prop} {s : Ps} (h : Sr l P S0 E s) : s.out.Nodup := (List.nodup_append.1 h.nd).1
end PureNet
namespace Go.Proofs.YtfmmmhcpdinhgaaDoor
open Go.RowKit Go.Deep PureNet ShfKit Go.Sort
set_option maxRecDepth 100000
end Go.Proofs.YtfmmmhcpdinhgaaDoor
namespace PureNet
open Go.Proofs.YtfmmmhcpdinhgaaDoor
set_option maxRecDepth 100000
theorem Sr.lt_out2 {l : List Ga} {P : Nat → Prop} {S0 : List Nat} {E : Nat → Prop} {s : Ps} (h : Sr l P S0 E s) : ∀ x ∈ s.out, x < l.length := fun x hx => h.lt x (List.mem_append_left _ hx)
end PureNet
namespace Go.Proofs.YtfmmmhcpdinhgaaDoor
open Go.RowKit Go.Deep PureNet ShfKit Go.Sort
set_option maxRecDepth 100000
theorem cone_in {l : List Ga} {P : Nat → Prop} {S0 : List Nat} {E : Nat → Prop} {s : Ps} (h : Sr l P S0 E s) {p : Nat} (hp : p ∈ s.out) {y : Nat} (hy : y = p ∨ PureNet.Way l p y) : y ∈ s.out := by
  have one : ∀ a b, a ∈ s.out → Leans l a b → b ∈ s.out := fun a b ha hab => by
    obtain ⟨i, hi, e⟩ := List.getElem_of_mem ha
    obtain ⟨j, _, hj⟩ := h.ord i a b (by rw [List.getElem?_eq_getElem hi, e]) hab
    exact List.mem_of_getElem? hj
  rcases hy with rfl | hy
  · exact hp
  · induction hy using PureNet.Way.ind with
    | one h1 => exact one _ _ hp h1
    | more h1 _ ih => exact ih (one _ _ hp h1)
theorem holds_row {W : World} {B g c : Nat} {cur : Array Value} {out : List Nat} (_hr : W.heap[g]? = some (.cells cur 3 (0, 0))) (ho : W.ownsRow B 3 1 (.slice (some ⟨g, 0, none⟩) out.length c) out.length (placesV out)) : Holds (Value.int .i64) W g 0 (out.map fun (k : Nat) => (k : Int)).toArray := fun j hj => by
  have hj2 : j < out.length := by simpa using hj
  obtain ⟨g2, c2, hv, _, _, hc, hf⟩ := own_cell ho (places_at out j out[j] (List.getElem?_eq_getElem hj2))
  cases hv
  rw [Nat.zero_add]
  refine ⟨?_, hf⟩
  rw [hc]
  simp [hj2]

set_option maxHeartbeats 4000000 in
theorem cone_landed : ConeOk 21 := by
  intro c sg so cg co p w hc hkd hf hp
  have hfew := hf.few
  obtain ⟨x, hx⟩ : ∃ x, x = w.alloc (Obj.cells #[Value.string c.name, Value.slice sg c.gates.length cg, Value.slice so c.outs.length co] 26) := ⟨_, rfl⟩
  have RX : Hid (x.heap[w.heap.size]? = some (.cells #[Value.string c.name, Value.slice sg c.gates.length cg, Value.slice so c.outs.length co] 26 (0, 0))) := by rw [hx]; exact heap_alloc_new w _
  have BX : Hid (Below w.heap.size w x) := by rw [hx]; exact (Below.refl _ _).alloc (Nat.le_refl _) _
  have CE : Hid (∀ W, Below x.heap.size x W → (∀ j, W.cell? ⟨w.heap.size, j, none⟩ = (#[Value.string c.name, Value.slice sg c.gates.length cg, Value.slice so c.outs.length co] : Array Value)[j]?) ∧ w.heap.size < W.heap.size) := fun W hW => by
    have h2 := (hW.block _ (Array.getElem?_eq_some_iff.1 RX.out).1).trans RX.out
    exact ⟨fun j => cell_row h2 j, (Array.getElem?_eq_some_iff.1 h2).1⟩
  have C1 := hid (formed_ok c sg so cg co x (hc.below BX.out) (hkd.on BX.out) hf)
  have C2 : Hid (∀ W, _) := fun W => newSearch_any sg cg c.gates.length W hfew
  have hll : ∀ (i : Nat) (g : Ga), c.gates[i]? = some g → ∀ a ∈ leansOn g, 0 ≤ a ∧ a < (c.gates.length : Int) := fun i g hg => (formed_lines hf i g hg).2
  have hI0 := (Sr.start c.gates (fun y => y = p ∨ PureNet.Way c.gates p y)).begin hll rfl hp rfl (.inl rfl)
  have C3 : Hid (∀ W, Below x.heap.size x W → ∀ W2 p1 mv rv pv, Se W W2 p1 (.slice sg c.gates.length cg) c.gates.length s0 mv rv pv (.slice none 0 0) (.slice none 0 0) (.slice none 0 0) [] → _) := fun W hW W2 p1 mv rv pv hs =>
    from_any c.gates sg cg c.gates.length p1 p W W2 s0 mv rv pv (.slice none 0 0) (.slice none 0 0) (.slice none 0 0) [] ((hc.below BX.out).below hW).gates ((hkd.on BX.out).on hW) rfl hfew (formed_lines hf) hf.free (fun y => y = p ∨ PureNet.Way c.gates p y) (fun a b ha hab => by
      rcases ha with rfl | ha
      · exact .inr (.one hab)
      · exact .inr (way_snoc ha hab)) (p :: s0.out) hp hs ⟨fun a ha => by simp [s0] at ha, fun a ha => by simp [s0] at ha, by simp [s0], by simp [s0]⟩ hI0
  have h1 : ¬ (p : Int) < 0 := by omega
  have h2 : ¬ (c.gates.length : Int) ≤ (p : Int) := by omega
  obtain ⟨d0, hb0⟩ := CE.out x (Below.refl _ _)
  have HX := hid hx
  clear hx hc hkd hf hll hI0
  go_enter Tryd.func21, Tryd.ntmps21
  go_wp2_with (first
    | (rw [← HX.out])
    | (have q := SE2; clear q; go_at_call 45; refine Calls.mono (C3.out w1 B1.out w2 p1 mv rv pv SE2.out) ?_; rintro e w3 ⟨⟨u3, rfl⟩, s3, wv3, tv3, ov3, rs3, hsr3, hway3, hse3⟩; have SR3 := hid hsr3; have HW3 := hid hway3; have hpo : p ∈ s3.out := (by have := hsr3.keep p (by simp); rw [hway3] at this; simpa using this); have ho4 := hse3.fam.own 4 (ov3, s3.out.length, placesV s3.out) rfl; obtain ⟨gz, cz, cur, hov, hgz, hgr, hgn, hgm, hgs⟩ : ∃ gz cz cur, ov3 = .slice (some ⟨gz, 0, none⟩) s3.out.length cz ∧ w1.heap.size ≤ gz ∧ w3.heap[gz]? = some (.cells cur 3 (0, 0)) ∧ s3.out.length ≤ cz ∧ cz ≤ maxLen ∧ cur.size = cz * 1 := (by rcases ho4.2 with ⟨_, h0⟩ | ⟨g, cap, cur, hv, hb, hr, hnc, hcm, hcs, _⟩; (· have h0' : s3.out.length = 0 := h0; have := List.length_pos_of_mem hpo; omega); (· exact ⟨g, cap, cur, hv, hb, hr, hnc, hcm, hcs⟩)); subst hov; have hcone : ∀ y, y ∈ s3.out ↔ (y = p ∨ PureNet.Way c.gates p y) := (fun y => ⟨fun hy => hsr3.allow y (List.mem_append_left _ hy), fun hy => cone_in hsr3 hpo hy⟩); obtain ⟨L, hL, hLl, hLc⟩ := sorted_cone hsr3.nd_out2 hcone hsr3.lt_out2; have HL := hid hL; have HLL := hid hLl; have HLC := hid hLc; have GB := hid hgz; have GR := hid hgr; have GN := hid hgn; have GM := hid hgm; have GS := hid hgs; have SE3 := hid hse3; have PG : Hid (p1 ≠ gz) := (fun e => by have h8 := hse3.box; rw [e, hgr] at h8; simp at h8); have hfl := few_of_nodup hsr3.nd_out2 hsr3.lt_out2; have SO := hid (Tryd.slices_Sort_int gz 0 cz (s3.out.map fun (k : Nat) => (k : Int)) w3 (holds_row hgr ho4) (Array.getElem?_eq_some_iff.1 hgr).1 (by simp; omega)); rw [List.length_map] at SO; have k3 := hse3.cell 6; have hp3 := hse3.size; clear hsr3 hway3 hse3 ho4 hcone hL hLl hLc hgz hgr hgn hgm hgs hfl hpo)
    | (go_at_call 44; refine Calls.mono (C2.out w1) ?_; rintro e w2 ⟨p1, mv, rv, pv, rfl, hs2⟩; have SE2 := hid hs2; clear hs2)
    | (go_at_call 26; refine Calls.mono C1.out ?_; rintro e w1 ⟨rfl, b1⟩; have B1 : Hid (Below x.heap.size x w1) := b1; obtain ⟨d1, hb1⟩ := CE.out w1 B1.out; clear b1))
  refine Calls.mono SO.out ?_
  rintro e w4 ⟨rfl, n4, os4, hw4⟩
  dsimp only
  have OW : Hid (w4.ownsRow w1.heap.size 3 1 (.slice (some ⟨gz, 0, none⟩) s3.out.length cz) s3.out.length (nn2 L)) := by
    have h9 := ownsRow_sortedI (n := n4) (os := os4) (ss := s3.out.map fun (k : Nat) => (k : Int)) (ts := L.map fun (k : Nat) => (k : Int)) (by simp [HLL.out]) GB.out GR.out (by simpa using GN.out) GM.out GS.out
    rw [← HL.out, ← hw4, List.length_map, HL.out, List.map_map] at h9
    exact h9
  have GW : Hid (w3.grownBy w4 (some gz)) := by rw [hw4]; exact grownBy_sortedI _
  have k4 : w4.cell? ⟨p1, 6, none⟩ = some (.slice (some ⟨gz, 0, none⟩) s3.out.length cz) := by
    have hbk := (GW.out.block p1 SE3.out.size (fun e => PG.out (by simpa using e))).trans SE3.out.box
    exact cell_row hbk 6
  have hp4 : p1 < w4.heap.size := Nat.lt_of_lt_of_le SE3.out.size GW.out.size
  clear hw4 k3
  go_wp2
  have hB1 : Below w.heap.size w w1 := BX.out.trans (B1.out.mono BX.out.size)
  have hB3 : Below w.heap.size w w3 := hB1.trans (SE3.out.below.mono hB1.size)
  have hB4 := hB3.grown GW.out hB3.size (fun j hj => by cases hj; exact Nat.le_trans hB1.size GB.out)
  have hcl := row_read OW.out
  refine bodyPost_ret (v := .tuple #[.slice (some ⟨gz, 0, none⟩) s3.out.length cz, .int .i64 0]) (by simp [results, Tryd.results21, go_sem]) rfl ⟨⟨some ⟨gz, 0, none⟩, cz, L, ?_, hcl, HLC.out⟩, hB4⟩
  rw [HLL.out]
end Go.Proofs.YtfmmmhcpdinhgaaDoor
