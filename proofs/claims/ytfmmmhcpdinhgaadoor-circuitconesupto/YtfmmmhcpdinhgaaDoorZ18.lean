import Derived.Test.YtfmmmhcpdinhgaaDoorZ17
/-
  The program's Cone and the document's, of any value.
-/
namespace Go.Proofs.YtfmmmhcpdinhgaaDoor
open Go.RowKit Go.Deep PureNet ShfKit Go.Sort
set_option maxRecDepth 100000

theorem rises {L : List Nat} (h : ∀ i x y, L[i]? = some x → L[i + 1]? = some y → x < y) : L.Pairwise (· < ·) := by
  have step : ∀ (d i : Nat) (hj : i + d + 1 < L.length), L[i]'(by omega) < L[i + d + 1] := by
    intro d
    induction d with
    | zero => intro i hj; exact h i _ _ (List.getElem?_eq_getElem (by omega)) (List.getElem?_eq_getElem hj)
    | succ d ih =>
      intro i hj
      have h1 := ih i (by omega)
      have h2 := h (i + d + 1) _ _ (List.getElem?_eq_getElem (by omega)) (List.getElem?_eq_getElem (show i + d + 1 + 1 < L.length by omega))
      have h3 : L[i + d + 1 + 1]'(by omega) = L[i + (d + 1) + 1] := rfl
      omega
  rw [List.pairwise_iff_getElem]
  intro i j hi hj hij
  have := step (j - i - 1) i (by omega)
  have e : i + (j - i - 1) + 1 = j := by omega
  simp only [e] at this
  exact this
theorem rise_unique : ∀ {L M : List Nat}, L.Pairwise (· < ·) → M.Pairwise (· < ·) → (∀ x, x ∈ L ↔ x ∈ M) → L = M
  | [], [], _, _, _ => rfl
  | [], y :: M, _, _, h => by have := (h y).2 (by simp); cases this
  | x :: L, [], _, _, h => by have := (h x).1 (by simp); cases this
  | x :: L, y :: M, hL, hM, h => by
    rw [List.pairwise_cons] at hL hM
    have hxy : x = y := by
      have h1 := (h x).1 (by simp)
      have h2 := (h y).2 (by simp)
      rcases List.mem_cons.1 h1 with e | e
      · exact e
      · rcases List.mem_cons.1 h2 with e2 | e2
        · exact e2.symm
        · have := hM.1 x e
          have := hL.1 y e2
          omega
    subst hxy
    congr 1
    refine rise_unique hL.2 hM.2 fun z => ⟨fun hz => ?_, fun hz => ?_⟩
    · rcases List.mem_cons.1 ((h z).1 (List.mem_cons_of_mem _ hz)) with e | e
      · have := hL.1 z hz; omega
      · exact e
    · rcases List.mem_cons.1 ((h z).2 (List.mem_cons_of_mem _ hz)) with e | e
      · have := hM.1 z hz; omega
      · exact e
theorem ConeL.unique {c : Net} {p : Nat} {L M : List Nat} (h : ConeL c p L) (h' : ConeL c p M) : L = M :=
  rise_unique (rises h.up) (rises h'.up) fun x => by rw [h.mem, h'.mem]
/-- what Cone answers. -/
def ConeSays (c : Net) (p : Int) (B : Nat) (e : Ending) (w' : World) : Prop :=
  (¬ PureNet.Formed c ∧ e = .returned (.tuple #[.slice none 0 0, .int .i64 144])) ∨
  (PureNet.Formed c ∧ ¬ (0 ≤ p ∧ p < (c.gates.length : Int)) ∧ e = .returned (.tuple #[.slice none 0 0, .int .i64 1])) ∨
  (PureNet.Formed c ∧ 0 ≤ p ∧ p < (c.gates.length : Int) ∧ ∃ v L, ConeL c p.toNat L ∧ e = .returned (.tuple #[v, .int .i64 0]) ∧ w'.ownsRow B 3 1 v L.length (nn2 L))
/-- what both answer: a list, and a number. -/
structure ConeR (c : Net) (p : Int) (L : List Nat) (r : Int) : Prop where
  net : ¬ PureNet.Formed c → L = [] ∧ r = 144
  arg : PureNet.Formed c → ¬ (0 ≤ p ∧ p < (c.gates.length : Int)) → L = [] ∧ r = 1
  ok : PureNet.Formed c → 0 ≤ p → p < (c.gates.length : Int) → ConeL c p.toNat L ∧ r = 0
theorem ConeR.unique {c : Net} {p : Int} {L M : List Nat} {r q : Int} (h : ConeR c p L r) (h' : ConeR c p M q) : M = L ∧ q = r := by
  by_cases hf : PureNet.Formed c
  · by_cases hp : 0 ≤ p ∧ p < (c.gates.length : Int)
    · obtain ⟨h1, h2⟩ := h.ok hf hp.1 hp.2
      obtain ⟨h3, h4⟩ := h'.ok hf hp.1 hp.2
      exact ⟨h3.unique h1, h4.trans h2.symm⟩
    · obtain ⟨h1, h2⟩ := h.arg hf hp
      obtain ⟨h3, h4⟩ := h'.arg hf hp
      exact ⟨h3.trans h1.symm, h4.trans h2.symm⟩
  · obtain ⟨h1, h2⟩ := h.net hf
    obtain ⟨h3, h4⟩ := h'.net hf
    exact ⟨h3.trans h1.symm, h4.trans h2.symm⟩
theorem ConeR.few {c : Net} {p : Int} {L : List Nat} {r : Int} (h : ConeR c p L r) : L.length ≤ 65536 := by
  by_cases hf : PureNet.Formed c
  · by_cases hp : 0 ≤ p ∧ p < (c.gates.length : Int)
    · have h1 := (h.ok hf hp.1 hp.2).1.few
      have := hf.few
      omega
    · rw [(h.arg hf hp).1]; simp
  · rw [(h.net hf).1]; simp
theorem ConeSays.gives {c : Net} {p : Int} {B : Nat} {e : Ending} {w' : World} (h : ConeSays c p B e w') : ∃ v L r, ConeR c p L r ∧ e = .returned (.tuple #[v, .int .i64 r]) ∧ w'.ownsRow B 3 1 v L.length (nn2 L) := by
  rcases h with ⟨hf, rfl⟩ | ⟨hf, hp, rfl⟩ | ⟨hf, h0, h1, v, L, hL, rfl, ho⟩
  · exact ⟨_, [], 144, ⟨fun _ => ⟨rfl, rfl⟩, fun h => absurd h hf, fun h => absurd h hf⟩, rfl, World.ownsRow_nil _ _ _ _⟩
  · exact ⟨_, [], 1, ⟨fun h => absurd hf h, fun _ _ => ⟨rfl, rfl⟩, fun _ h0 h1 => absurd ⟨h0, h1⟩ hp⟩, rfl, World.ownsRow_nil _ _ _ _⟩
  · exact ⟨v, L, 0, ⟨fun h => absurd hf h, fun _ h => absurd ⟨h0, h1⟩ h, fun _ _ _ => ⟨hL, rfl⟩⟩, rfl, ho⟩

set_option maxHeartbeats 4000000 in
theorem cone_own (c : Net) (sg so : Option Addr) (cg co p : Nat) (w : World) (hc : CirAt w c sg so) (hkd : KindsAt w) (hf : PureNet.Formed c) (hp : p < c.gates.length) :
    Calls Tryd.prog 21 #[cirV c sg cg so co, .int .i64 (p : Int)] w fun e w' => (∃ v L, e = .returned (.tuple #[v, .int .i64 0]) ∧ w'.ownsRow w.heap.size 3 1 v L.length (nn2 L) ∧ ConeL c p L) ∧ Below w.heap.size w w' := by
  have hfew := hf.few
  obtain ⟨x, hx⟩ : ∃ x, x = w.alloc (Obj.cells #[Value.string c.name, Value.slice sg c.gates.length cg, Value.slice so c.outs.length co] 26) := ⟨_, rfl⟩
  have RX : Hid (x.heap[w.heap.size]? = some (.cells #[Value.string c.name, Value.slice sg c.gates.length cg, Value.slice so c.outs.length co] 26 (0, 0))) := by rw [hx]; exact heap_alloc_new w _
  have BX : Hid (Below w.heap.size w x) := by rw [hx]; exact (Below.refl _ _).alloc (Nat.le_refl _) _
  have CE : Hid (∀ W, Below x.heap.size x W → (∀ j, W.cell? ⟨w.heap.size, j, none⟩ = (#[Value.string c.name, Value.slice sg c.gates.length cg, Value.slice so c.outs.length co] : Array Value)[j]?) ∧ w.heap.size < W.heap.size) := fun W hW => by
    have h2 := (hW.block _ (Array.getElem?_eq_some_iff.1 RX.out).1).trans RX.out
    exact ⟨fun j => cell_row h2 j, (Array.getElem?_eq_some_iff.1 h2).1⟩
  have C1 := hid (formed_ok c sg so cg co x (hc.below BX.out) (hkd.on BX.out) hf)
  have C2 : Hid (∀ W, _) := fun W => newSearch_any sg cg c.gates.length W hfew
  have hll : ∀ (i : Nat) (g : Ga), c.gates[i]? = some g → ∀ a ∈ leansOn g, 0 ≤ a ∧ a < (c.gates.length : Int) := fun i g hg => (formed_lines hf i g hg).2
  have hI0 := (Sr.start c.gates (fun y => y = p ∨ PureNet.Way c.gates p y)).begin hll rfl hp rfl (.inl rfl)
  have C3 : Hid (∀ W, Below x.heap.size x W → ∀ W2 p1 mv rv pv, Se W W2 p1 (.slice sg c.gates.length cg) c.gates.length s0 mv rv pv (.slice none 0 0) (.slice none 0 0) (.slice none 0 0) [] → _) := fun W hW W2 p1 mv rv pv hs =>
    from_any c.gates sg cg c.gates.length p1 p W W2 s0 mv rv pv (.slice none 0 0) (.slice none 0 0) (.slice none 0 0) [] ((hc.below BX.out).below hW).gates ((hkd.on BX.out).on hW) rfl hfew (formed_lines hf) hf.free (fun y => y = p ∨ PureNet.Way c.gates p y) (fun a b ha hab => by
      rcases ha with rfl | ha
      · exact .inr (.one hab)
      · exact .inr (way_snoc ha hab)) (p :: s0.out) hp hs ⟨fun a ha => by simp [s0] at ha, fun a ha => by simp [s0] at ha, by simp [s0], by simp [s0]⟩ hI0
  have h1 : ¬ (p : Int) < 0 := by omega
  have h2 : ¬ (c.gates.length : Int) ≤ (p : Int) := by omega
  obtain ⟨d0, hb0⟩ := CE.out x (Below.refl _ _)
  have HX := hid hx
  clear hx hc hkd hf hll hI0
  go_enter Tryd.func21, Tryd.ntmps21
  go_wp2_with (first
    | (rw [← HX.out])
    | (have q := SE2; clear q; go_at_call 45; refine Calls.mono (C3.out w1 B1.out w2 p1 mv rv pv SE2.out) ?_; rintro e w3 ⟨⟨u3, rfl⟩, s3, wv3, tv3, ov3, rs3, hsr3, hway3, hse3⟩; have SR3 := hid hsr3; have HW3 := hid hway3; have hpo : p ∈ s3.out := (by have := hsr3.keep p (by simp); rw [hway3] at this; simpa using this); have ho4 := hse3.fam.own 4 (ov3, s3.out.length, placesV s3.out) rfl; obtain ⟨gz, cz, cur, hov, hgz, hgr, hgn, hgm, hgs⟩ : ∃ gz cz cur, ov3 = .slice (some ⟨gz, 0, none⟩) s3.out.length cz ∧ w1.heap.size ≤ gz ∧ w3.heap[gz]? = some (.cells cur 3 (0, 0)) ∧ s3.out.length ≤ cz ∧ cz ≤ maxLen ∧ cur.size = cz * 1 := (by rcases ho4.2 with ⟨_, h0⟩ | ⟨g, cap, cur, hv, hb, hr, hnc, hcm, hcs, _⟩; (· have h0' : s3.out.length = 0 := h0; have := List.length_pos_of_mem hpo; omega); (· exact ⟨g, cap, cur, hv, hb, hr, hnc, hcm, hcs⟩)); subst hov; have hcone : ∀ y, y ∈ s3.out ↔ (y = p ∨ PureNet.Way c.gates p y) := (fun y => ⟨fun hy => hsr3.allow y (List.mem_append_left _ hy), fun hy => cone_in hsr3 hpo hy⟩); obtain ⟨L, hL, hLl, hLc⟩ := sorted_cone hsr3.nd_out2 hcone hsr3.lt_out2; have HL := hid hL; have HLL := hid hLl; have HLC := hid hLc; have GB := hid hgz; have GR := hid hgr; have GN := hid hgn; have GM := hid hgm; have GS := hid hgs; have SE3 := hid hse3; have PG : Hid (p1 ≠ gz) := (fun e => by have h8 := hse3.box; rw [e, hgr] at h8; simp at h8); have hfl := few_of_nodup hsr3.nd_out2 hsr3.lt_out2; have SO := hid (Tryd.slices_Sort_int gz 0 cz (s3.out.map fun (k : Nat) => (k : Int)) w3 (holds_row hgr ho4) (Array.getElem?_eq_some_iff.1 hgr).1 (by simp; omega)); rw [List.length_map] at SO; have k3 := hse3.cell 6; have hp3 := hse3.size; clear hsr3 hway3 hse3 ho4 hcone hL hLl hLc hgz hgr hgn hgm hgs hfl hpo)
    | (go_at_call 44; refine Calls.mono (C2.out w1) ?_; rintro e w2 ⟨p1, mv, rv, pv, rfl, hs2⟩; have SE2 := hid hs2; clear hs2)
    | (go_at_call 26; refine Calls.mono C1.out ?_; rintro e w1 ⟨rfl, b1⟩; have B1 : Hid (Below x.heap.size x w1) := b1; obtain ⟨d1, hb1⟩ := CE.out w1 B1.out; clear b1))
  refine Calls.mono SO.out ?_
  rintro e w4 ⟨rfl, n4, os4, hw4⟩
  dsimp only
  have OW : Hid (w4.ownsRow w1.heap.size 3 1 (.slice (some ⟨gz, 0, none⟩) s3.out.length cz) s3.out.length (nn2 L)) := by
    have h9 := ownsRow_sortedI (n := n4) (os := os4) (ss := s3.out.map fun (k : Nat) => (k : Int)) (ts := L.map fun (k : Nat) => (k : Int)) (by simp [HLL.out]) GB.out GR.out (by simpa using GN.out) GM.out GS.out
    rw [← HL.out, ← hw4, List.length_map, HL.out, List.map_map] at h9
    exact h9
  have GW : Hid (w3.grownBy w4 (some gz)) := by rw [hw4]; exact grownBy_sortedI _
  have k4 : w4.cell? ⟨p1, 6, none⟩ = some (.slice (some ⟨gz, 0, none⟩) s3.out.length cz) := by
    have hbk := (GW.out.block p1 SE3.out.size (fun e => PG.out (by simpa using e))).trans SE3.out.box
    exact cell_row hbk 6
  have hp4 : p1 < w4.heap.size := Nat.lt_of_lt_of_le SE3.out.size GW.out.size
  clear hw4 k3
  go_wp2
  have hB1 : Below w.heap.size w w1 := BX.out.trans (B1.out.mono BX.out.size)
  have hB3 : Below w.heap.size w w3 := hB1.trans (SE3.out.below.mono hB1.size)
  have hB4 := hB3.grown GW.out hB3.size (fun j hj => by cases hj; exact Nat.le_trans hB1.size GB.out)
  refine bodyPost_ret (v := .tuple #[.slice (some ⟨gz, 0, none⟩) s3.out.length cz, .int .i64 0]) (by simp [results, Tryd.results21, go_sem]) rfl ⟨⟨_, L, rfl, ?_, HLC.out⟩, hB4⟩
  rw [HLL.out]
  exact ShfKit.own_base OW.out hB1.size

set_option maxHeartbeats 2000000 in
theorem cone_gen (c : Net) (sg so : Option Addr) (cg co : Nat) (p : Int) (w : World) (hc : CirAt w c sg so) (hkd : KindsAt w) (hn : c.name.size ≤ 140737488351232) (hns : ∀ g ∈ c.gates, g.name.size ≤ 140737488351232) (hl : c.gates.length ≤ 1099511627776) (hlo : c.outs.length ≤ 1099511627776) :
    Calls Tryd.prog 21 #[cirV c sg cg so co, .int .i64 p] w fun e w' => ConeSays c p w.heap.size e w' ∧ Below w.heap.size w w' := by
  by_cases hg : PureNet.Formed c ∧ 0 ≤ p ∧ p < (c.gates.length : Int)
  · obtain ⟨hf, h0, h1⟩ := hg
    have := cone_own c sg so cg co p.toNat w hc hkd hf (by omega)
    rw [Int.toNat_of_nonneg h0] at this
    refine this.mono ?_
    rintro e w' ⟨⟨v, L, rfl, ho, hL⟩, hb⟩
    exact ⟨.inr (.inr ⟨hf, h0, h1, v, L, hL, rfl, ho⟩), hb⟩
  obtain ⟨x, hx⟩ : ∃ x, x = w.alloc (Obj.cells #[Value.string c.name, Value.slice sg c.gates.length cg, Value.slice so c.outs.length co] 26) := ⟨_, rfl⟩
  have RX : Hid (x.heap[w.heap.size]? = some (.cells #[Value.string c.name, Value.slice sg c.gates.length cg, Value.slice so c.outs.length co] 26 (0, 0))) := by rw [hx]; exact heap_alloc_new w _
  have BX : Hid (Below w.heap.size w x) := by rw [hx]; exact (Below.refl _ _).alloc (Nat.le_refl _) _
  have CE : Hid (∀ W, Below x.heap.size x W → (∀ j, W.cell? ⟨w.heap.size, j, none⟩ = (#[Value.string c.name, Value.slice sg c.gates.length cg, Value.slice so c.outs.length co] : Array Value)[j]?) ∧ w.heap.size < W.heap.size) := fun W hW => by
    have h2 := (hW.block _ (Array.getElem?_eq_some_iff.1 RX.out).1).trans RX.out
    exact ⟨fun j => cell_row h2 j, (Array.getElem?_eq_some_iff.1 h2).1⟩
  have C1 := hid (formed_gen c sg so cg co x (hc.below BX.out) (hkd.on BX.out) hn hns hl hlo)
  obtain ⟨d0, hb0⟩ := CE.out x (Below.refl _ _)
  have HX := hid hx
  clear hx hc hkd hn hns hl hlo
  by_cases hf : PureNet.Formed c
  · have HP : Hid (¬ (0 ≤ p ∧ p < (c.gates.length : Int))) := fun h => hg ⟨hf, h⟩
    have HF := hid hf
    clear hg hf
    by_cases h0 : p < 0
    · go_enter Tryd.func21, Tryd.ntmps21
      go_wp2_with (first
        | (rw [← HX.out])
        | (go_at_call 26; refine Calls.mono C1.out ?_; rintro e w1 ⟨⟨b, rfl, hb⟩, b1⟩; obtain rfl : b = true := hb.2 HF.out; have B1 : Hid (Below x.heap.size x w1) := b1; obtain ⟨d1, hb1⟩ := CE.out w1 B1.out; clear b1 hb))
      exact bodyPost_ret (v := .tuple #[.slice none 0 0, .int .i64 1]) (by simp [results, Tryd.results21, go_sem]) rfl ⟨.inr (.inl ⟨HF.out, HP.out, rfl⟩), BX.out.trans (B1.out.mono BX.out.size)⟩
    · have h1 : (c.gates.length : Int) ≤ p := by
        have := HP.out
        omega
      go_enter Tryd.func21, Tryd.ntmps21
      go_wp2_with (first
        | (rw [← HX.out])
        | (go_at_call 26; refine Calls.mono C1.out ?_; rintro e w1 ⟨⟨b, rfl, hb⟩, b1⟩; obtain rfl : b = true := hb.2 HF.out; have B1 : Hid (Below x.heap.size x w1) := b1; obtain ⟨d1, hb1⟩ := CE.out w1 B1.out; clear b1 hb))
      exact bodyPost_ret (v := .tuple #[.slice none 0 0, .int .i64 1]) (by simp [results, Tryd.results21, go_sem]) rfl ⟨.inr (.inl ⟨HF.out, HP.out, rfl⟩), BX.out.trans (B1.out.mono BX.out.size)⟩
  · have HF := hid hf
    clear hg hf
    go_enter Tryd.func21, Tryd.ntmps21
    go_wp2_with (first
      | (rw [← HX.out])
      | (go_at_call 26; refine Calls.mono C1.out ?_; rintro e w1 ⟨⟨b, rfl, hb⟩, b1⟩; obtain rfl : b = false := Bool.eq_false_iff.2 fun h => HF.out (hb.1 h); have B1 : Hid (Below x.heap.size x w1) := b1; clear b1 hb))
    exact bodyPost_ret (v := .tuple #[.slice none 0 0, .int .i64 144]) (by simp [results, Tryd.results21, go_sem]) rfl ⟨.inl ⟨HF.out, rfl⟩, BX.out.trans (B1.out.mono BX.out.size)⟩

theorem places_nn (L : List Nat) : placesV L = nn2 L := by
  rw [places_map, List.map_map]
  rfl
theorem marked_cone {c : Net} {p : Nat} {met : List Bool} (hl : met.length = c.gates.length) (hm : ∀ x : Nat, met[x]? = some true ↔ (x < c.gates.length ∧ (x = p ∨ PureNet.Way c.gates p x))) (hp : p < c.gates.length) (hw : ∀ x, PureNet.Way c.gates p x → x < c.gates.length) : ConeL c p (markedTo met met.length) := by
  have hs : (markedTo met met.length).Pairwise (· < ·) := by
    unfold markedTo
    exact List.Pairwise.filter _ List.pairwise_lt_range
  refine ⟨fun i x y hx hy => ?_, fun x => ?_, fun x hx => ?_, ?_⟩
  · obtain ⟨h1, e1⟩ := List.getElem?_eq_some_iff.1 hx
    obtain ⟨h2, e2⟩ := List.getElem?_eq_some_iff.1 hy
    have := List.pairwise_iff_getElem.1 hs i (i + 1) h1 h2 (by omega)
    rw [e1, e2] at this
    exact this
  · unfold markedTo
    rw [List.mem_filter, List.mem_range, decide_eq_true_eq, hm x, hl]
    constructor
    · exact fun h => h.2.2
    · intro h
      have hx : x < c.gates.length := by
        rcases h with rfl | h
        · exact hp
        · exact hw x h
      exact ⟨hx, hx, h⟩
  · unfold markedTo at hx
    rw [List.mem_filter, List.mem_range, hl] at hx
    exact hx.1
  · rw [← hl]
    exact markedTo_len met met.length
theorem way_lt {l : List Ga} (hl : ∀ (i : Nat) (g : Ga), l[i]? = some g → lineB g l.length = true) {i j : Nat} (h : PureNet.Way l i j) : j < l.length := by
  have one : ∀ {a b : Nat}, Leans l a b → b < l.length := fun {a b} h => by
    obtain ⟨g, hg, hm⟩ := h
    have := (lineB_leans (hl a g hg) hm).2
    omega
  induction h using PureNet.Way.ind with
  | one h1 => exact one h1
  | more _ _ ih => exact ih
theorem rcone_gen (c : Net) (sg so : Option Addr) (cg co : Nat) (p : Int) (w : World) (hc : CirAt w c sg so) (hn : c.name.size ≤ 140737488351232) (hns : ∀ g ∈ c.gates, g.name.size ≤ 140737488351232) (hl : c.gates.length ≤ 1099511627776) (hlo : c.outs.length ≤ 1099511627776) :
    Calls Tryd.prog 22 #[cirV c sg cg so co, .int .i64 p] w fun e w' => ConeSays c p w.heap.size e w' ∧ Below w.heap.size w w' := by
  refine (rcone_any c sg so cg co p w hc hn hns hl hlo).mono ?_
  rintro e w' ⟨h, hb⟩
  refine ⟨?_, hb⟩
  rcases h with h | h | ⟨hf, h0, h1, v, met, hml, hm, rfl, ho⟩
  · exact .inl h
  · exact .inr (.inl h)
  · rw [places_nn] at ho
    exact .inr (.inr ⟨hf, h0, h1, v, _, marked_cone hml hm (by omega) (fun x hx => way_lt (fun i g hg => (hf.lines i g hg).2) hx), rfl, ho⟩)
end Go.Proofs.YtfmmmhcpdinhgaaDoor
/-
  The law's own places, roomy.
-/
namespace Go.Proofs.YtfmmmhcpdinhgaaDoor
open Go.RowKit Go.Deep PureNet
set_option maxRecDepth 100000

set_option maxHeartbeats 1000000 in
set_option maxRecDepth 100000 in
theorem places_true11 (l : List Int) (sa sb : Option Addr) (ca cb : Nat) (w : World) (ha : CellsAt w sa (nu l)) (hb : CellsAt w sb (nu l)) (hl : l.length ≤ 17592186043904) :
    Calls Tryd.prog 23 #[.slice sa l.length ca, .slice sb l.length cb] w fun e w' => e = .returned (.bool true) ∧ Below w.heap.size w w' := by
  have HA := hid ha
  have HB := hid hb
  clear ha hb
  go_enter Tryd.func23, Tryd.ntmps23
  go_wp2
  go_loopw [5] (fun iv W => ∃ k : Nat, k ≤ l.length ∧ iv = .int .i64 (k : Int) ∧ Hid (Below w.heap.size w W)) (fun iv _ => l.length - (intOf iv).toNat)
  case atStart => exact ⟨0, Nat.zero_le _, rfl, Below.refl _ _⟩
  case round =>
    obtain ⟨k, hk, rfl, HW⟩ := hrel
    by_cases hlt : k < l.length
    · obtain ⟨x, hx⟩ : ∃ x, l[k]? = some x := ⟨_, List.getElem?_eq_getElem hlt⟩
      obtain ⟨ga, oa, rfl, hga, p0⟩ := num_at (HA.out.below HW.out) k x hx
      obtain ⟨gb, ob, rfl, hgb, q0⟩ := num_at (HB.out.below HW.out) k x hx
      clear hx
      go_wp2
      go_quiet (fail)
      go_wp2
      exact ⟨⟨k + 1, hlt, by go_num, below_drewN HW.out _⟩, by simp [intOf]; omega⟩
    · go_wp2
      go_ret
      exact ⟨rfl, HW.out⟩
end Go.Proofs.YtfmmmhcpdinhgaaDoor
/-
  What stays while one list is written and grown.
-/
namespace Go.Proofs.YtfmmmhcpdinhgaaDoor
open Go.RowKit Go.Deep PureNet ShfKit
set_option maxRecDepth 100000

/-- blocks from lo to hi may turn, and those that are new. -/
structure Kp2 (lo hi : Nat) (W W' : World) : Prop where
  below : Below lo W W'
  up : ∀ k, hi ≤ k → k < W.heap.size → W'.heap[k]? = W.heap[k]?
theorem Kp2.refl (lo hi : Nat) (W : World) : Kp2 lo hi W W := ⟨Below.refl _ _, fun _ _ _ => rfl⟩
theorem Kp2.grow {lo hi : Nat} {W W' W'' : World} {b : Option Nat} (h : Kp2 lo hi W W') (hg : W'.grownBy W'' b) (hlo : lo ≤ W.heap.size) (hb : ∀ g, b = some g → (lo ≤ g ∧ g < hi) ∨ W.heap.size ≤ g) : Kp2 lo hi W W'' := by
  refine ⟨h.below.grown hg (Nat.le_trans hlo h.below.size) (fun g e => ?_), fun k hk hkw => ?_⟩
  · rcases hb g e with h1 | h1
    · exact h1.1
    · omega
  · rw [hg.block k (Nat.lt_of_lt_of_le hkw h.below.size) (fun e => ?_), h.up k hk hkw]
    rcases hb k e.symm with h1 | h1 <;> omega
theorem Kp2.on {lo hi : Nat} {W W' W'' : World} (h : Kp2 lo hi W W') (hlo : lo ≤ W.heap.size) (hb : Below W'.heap.size W' W'') : Kp2 lo hi W W'' :=
  ⟨h.below.trans (hb.mono (Nat.le_trans hlo h.below.size)), fun k hk hkw => by
    rw [hb.block k (Nat.lt_of_lt_of_le hkw h.below.size), h.up k hk hkw]⟩
theorem Kp2.far {lo hi : Nat} {W W' W'' : World} {v v' : Value} (h : Kp2 lo hi W W') (hf : Far W' W'' v v') (hlo : lo ≤ W.heap.size) (hv : ∀ g, v.ownBlock = some g → (lo ≤ g ∧ g < hi) ∨ W.heap.size ≤ g) : Kp2 lo hi W W'' ∧ ∀ g, v'.ownBlock = some g → (lo ≤ g ∧ g < hi) ∨ W.heap.size ≤ g := by
  rcases hf with ⟨e, hg⟩ | ⟨hn, hg⟩
  · exact ⟨h.grow hg hlo hv, fun g hgv => hv g (e ▸ hgv)⟩
  · exact ⟨h.grow hg hlo (fun g e => by cases e), fun g hgv => .inr (Nat.le_trans h.below.size (hn g hgv))⟩
theorem Kp2.own {lo hi B e size n : Nat} {W W' : World} {v : Value} {xs : List Value} (h : Kp2 lo hi W W') (ho : W.ownsRow B e size v n xs) (hv : ∀ g, v.ownBlock = some g → g < lo ∨ hi ≤ g) : W'.ownsRow B e size v n xs :=
  ShfKit.own_kept ho fun g hg => by
    rcases hv g hg with h1 | h1
    · exact h.below.block g h1
    · exact h.up g h1 (ShfKit.own_block ho hg).2
theorem ConeR.one {c : Net} {p : Int} {L M : List Nat} {r q : Int} (h : ConeR c p L r) (h' : ConeR c p M q) : L = M ∧ r = q := ⟨(h.unique h').1.symm, (h.unique h').2.symm⟩
theorem nn_nu (L : List Nat) : nn2 L = nu (L.map fun (k : Nat) => (k : Int)) := by simp [nn2, nu]
theorem places_nn_true (L : List Nat) (sa sb : Option Addr) (ca cb : Nat) (w : World) (ha : CellsAt w sa (nn2 L)) (hb : CellsAt w sb (nn2 L)) (hl : L.length ≤ 17592186043904) :
    Calls Tryd.prog 23 #[.slice sa L.length ca, .slice sb L.length cb] w fun e w' => e = .returned (.bool true) ∧ Below w.heap.size w w' := by
  rw [nn_nu] at ha hb
  have := places_true11 (L.map fun (k : Nat) => (k : Int)) sa sb ca cb w ha hb (by simpa using hl)
  rw [List.length_map] at this
  exact this
/-- append of one, in the text's order, told where it lies. -/
theorem wpl_one {ops : Array Oper} {rest : List Oper} {o : Oper} {a : Act} {Q : Exit → Act → World → Prop} {W : World} (hg : o.guard = none) (s x : Operand) (t : TypeId) (hop : o.op = Op.call { callee := Callee.builtin Builtin.append, args := #[s, x], argTypes := #[t, t] })
    (B : Nat) (e : TypeId) (z : Value) (size bytes : Nat) (ht : Tryd.prog.underlying t = some (.slice e)) (hinf : (Tryd.prog.info? e).map (fun i => (i.zero, i.size, i.bytes)) = some (some z, size, bytes))
    (hzs : z.cells.size = size) (hsz : 0 < size) (v : Value) (n : Nat) (xs : List Value) (hs : a.eval s = v) (hown : W.ownsRow B e size v n xs) (news : List Value) (u : TypeId) (ad : Nat) (had : ad = W.heap.size) (hx : a.eval x = .slice (some ⟨ad, 0, none⟩) 1 1) (hl : news.length = size) (h1 : ∀ u ∈ news, u.oneCell' = true) (hn : n ≤ 1099511627776) (hby : (n + 1) * bytes ≤ 140737488355328) (hbase : B ≤ W.heap.size)
    (hK : ∀ v' w', w'.ownsRow B e size v' (n + 1) (xs ++ news) → Far (W.alloc (.cells news.toArray u)) w' v v' → wpList Tryd.prog ops Q rest (a.put o.dst v') w') :
    wpList Tryd.prog ops Q (o :: rest) a (W.alloc (.cells news.toArray u)) := by
  subst had
  exact wpl_cells _ hg s x t hop B e z size bytes ht hinf hzs hsz v n xs hs (ownsRow_below hown ((Below.refl _ _).alloc (Nat.le_refl _) _)) (some ⟨W.heap.size, 0, none⟩) 1 1 news hx (by rw [hl, Nat.one_mul]) ⟨fun k u hu => ⟨W.heap.size, 0, rfl, by simp, by rw [Nat.zero_add, cell_row (heap_alloc_new W _)]; simpa using hu⟩⟩ (fun e => by cases e) h1 (by unfold maxLen; omega) hby (by simp; omega) hK
end Go.Proofs.YtfmmmhcpdinhgaaDoor
/-
  A twin's lines turned where they stand.
-/
namespace Go.Proofs.YtfmmmhcpdinhgaaDoor
open Go.RowKit Go.Deep PureNet ShfKit
set_option maxRecDepth 100000

theorem gas_a (D : List Ga) (k : Nat) (g : Ga) (u : Int) (hg : D[k]? = some g) : (gas D).set (k * 6 + 3) (.int .i64 u) = gas (D.set k { g with a := u }) := by
  have hk := (List.getElem?_eq_some_iff.1 hg).1
  apply List.ext_getElem?
  intro i
  by_cases hi : i < D.length * 6
  · have h := gas_at (D.set k { g with a := u }) (i / 6) (i % 6) (by simp; omega) (by omega)
    have h0 := gas_at D (i / 6) (i % 6) (by omega) (by omega)
    rw [show i / 6 * 6 + i % 6 = i by omega] at h h0
    rw [h]
    by_cases e : i / 6 = k
    · have e3 : (D.set k { g with a := u })[i / 6]'(by simp; omega) = { g with a := u } := by simp [e]
      have e4 : D[i / 6]'(by omega) = g := by
        have := (List.getElem?_eq_some_iff.1 hg).2
        simpa [e] using this
      rw [e3]
      rw [e4] at h0
      by_cases e2 : i % 6 = 3
      · rw [show i = k * 6 + 3 by omega, List.getElem?_set_self (by rw [gas_length]; omega), show (k * 6 + 3) % 6 = 3 by omega]
        rfl
      · rw [List.getElem?_set_ne (by omega), h0]
        have h6 : i % 6 = 0 ∨ i % 6 = 1 ∨ i % 6 = 2 ∨ i % 6 = 4 ∨ i % 6 = 5 := by omega
        rcases h6 with h6 | h6 | h6 | h6 | h6 <;> rw [h6] <;> rfl
    · have e3 : (D.set k { g with a := u })[i / 6]'(by simp; omega) = D[i / 6]'(by omega) := by rw [List.getElem_set_ne (fun x => e x.symm)]
      rw [e3, ← h0, List.getElem?_set_ne (by omega)]
  · rw [List.getElem?_eq_none (by rw [List.length_set, gas_length]; omega), List.getElem?_eq_none (by rw [gas_length, List.length_set]; omega)]

/-- a twin with another line. -/
theorem TwinAt.turn {W W' : World} {B : Nat} {c : Net} {gg kg go ko k : Nat} {g' : Ga} (h : TwinAt W B c gg kg go ko) (hg : W.grownBy W' (some gg)) (ho : W'.ownsRow B 38 6 (.slice (some ⟨gg, 0, none⟩) (c.gates.length + 2) kg) (c.gates.length + 2) (gas ((c.gates ++ [roomG, roomG]).set k g'))) (hk : k < c.gates.length) :
    TwinAt W' B { c with gates := c.gates.set k g' } gg kg go ko := by
  refine ⟨?_, ?_⟩
  · show W'.ownsRow B 38 6 (.slice (some ⟨gg, 0, none⟩) ((c.gates.set k g').length + 2) kg) ((c.gates.set k g').length + 2) (gas (c.gates.set k g' ++ [roomG, roomG]))
    rw [List.length_set, ← List.set_append_left _ _ hk]
    exact ho
  · exact Go.Proofs.YtfmmmhcpdinhgaaDoor.own_kept h.outs h.gates hg (by decide)
theorem TwinAt.setA {W : World} {B : Nat} {c : Net} {gg kg go ko k : Nat} {g : Ga} (h : TwinAt W B c gg kg go ko) (hg : c.gates[k]? = some g) (u : Int) :
    TwinAt (W.setCell ⟨gg, k * 6 + 3, none⟩ (.int .i64 u)) B { c with gates := c.gates.set k { g with a := u } } gg kg go ko ∧ W.grownBy (W.setCell ⟨gg, k * 6 + 3, none⟩ (.int .i64 u)) (some gg) := by
  have hk := (List.getElem?_eq_some_iff.1 hg).1
  have st := own_set (j := k * 6 + 3) h.gates rfl (.int .i64 u)
  have hg2 : (c.gates ++ [roomG, roomG])[k]? = some g := by rw [List.getElem?_append_left hk]; exact hg
  rw [gas_a _ k g u hg2] at st
  exact ⟨h.turn st.2 st.1 hk, st.2⟩
/-- a line's six cells in a twin. -/
theorem TwinAt.line {W : World} {B : Nat} {c : Net} {gg kg go ko k : Nat} {g : Ga} (h : TwinAt W B c gg kg go ko) (hg : c.gates[k]? = some g) : gg < W.heap.size ∧ W.cell? ⟨gg, k * 6, none⟩ = some (.int .i64 g.kind) ∧ W.cell? ⟨gg, k * 6 + 1, none⟩ = some (.string g.name) ∧ W.cell? ⟨gg, k * 6 + 2, none⟩ = some (.int .i64 g.op) ∧ W.cell? ⟨gg, k * 6 + 3, none⟩ = some (.int .i64 g.a) ∧ W.cell? ⟨gg, k * 6 + 4, none⟩ = some (.int .i64 g.b) ∧ W.cell? ⟨gg, k * 6 + 5, none⟩ = some (.int .i64 g.c) ∧ ∀ j, W.frozen? ⟨gg, j, none⟩ = false := by
  obtain ⟨b, o, e, hb, h0, h1, h2, h3, h4, h5⟩ := gate_at h.cir.gates k g hg
  cases e
  rw [Nat.zero_add] at h0 h1 h2 h3 h4 h5
  refine ⟨hb, h0, h1, h2, h3, h4, h5, fun j => ?_⟩
  rcases h.gates.2 with ⟨h1, _⟩ | ⟨g', cap', cur, hv, hB, hrow, _⟩
  · simp at h1
  · cases hv
    exact unfrozen_row hrow j

section
variable (f : Ga → Ga)
/-- the first i lines turned. -/
def turnTo (l : List Ga) (i : Nat) : List Ga := (l.take i).map f ++ l.drop i
theorem turnTo_zero (l : List Ga) : turnTo f l 0 = l := by simp [turnTo]
theorem turnTo_all (l : List Ga) : turnTo f l l.length = l.map f := by simp [turnTo]
theorem turnTo_at {l : List Ga} {i : Nat} {g : Ga} (h : l[i]? = some g) : (turnTo f l i)[i]? = some g := by
  have hi := (List.getElem?_eq_some_iff.1 h).1
  unfold turnTo
  rw [List.getElem?_append_right (by simp; omega)]
  simp
  rw [show i + (i - min i l.length) = i by omega]
  exact h
theorem turnTo_succ {l : List Ga} {i : Nat} {g : Ga} (h : l[i]? = some g) : turnTo f l (i + 1) = (turnTo f l i).set i (f g) := by
  have hi := (List.getElem?_eq_some_iff.1 h).1
  have e1 : l.take (i + 1) = l.take i ++ [g] := by rw [List.take_add_one, h]; rfl
  have e2 : l.drop i = g :: l.drop (i + 1) := by
    rw [List.drop_eq_getElem_cons hi, (List.getElem?_eq_some_iff.1 h).2]
  unfold turnTo
  rw [e1, e2, List.set_append_right _ _ (by simp; omega)]
  simp [show i - min i l.length = 0 by omega]
end
theorem set_same {l : List Ga} {i : Nat} {g : Ga} (h : l[i]? = some g) : l.set i g = l := by
  have hi := (List.getElem?_eq_some_iff.1 h).1
  have := List.set_getElem_self hi
  rw [(List.getElem?_eq_some_iff.1 h).2] at this
  exact this
/-- a circuit put into its cells. -/
theorem copy_put {W : World} {b : Nat} {a0 a1 a2 : Value} (nm g o : Value) (hr : W.heap[b]? = some (.cells #[a0, a1, a2] 26 (0, 0))) :
    (((W.setCell ⟨b, 0, none⟩ nm).setCell ⟨b, 1, none⟩ g).setCell ⟨b, 2, none⟩ o).heap[b]? = some (.cells #[nm, g, o] 26 (0, 0)) ∧ W.grownBy (((W.setCell ⟨b, 0, none⟩ nm).setCell ⟨b, 1, none⟩ g).setCell ⟨b, 2, none⟩ o) (some b) := by
  have h1 := row_set (i := 0) (u := nm) hr
  have h2 := row_set (i := 1) (u := g) h1
  have h3 := row_set (i := 2) (u := o) h2
  have hg : W.grownBy (((W.setCell ⟨b, 0, none⟩ nm).setCell ⟨b, 1, none⟩ g).setCell ⟨b, 2, none⟩ o) (some b) := grown_set (grown_set (grown_set (World.grownBy.refl _ _)))
  exact ⟨h3, hg⟩
theorem own_aside {W Y : World} {B e size n b : Nat} {s : Option Addr} {cap : Nat} {xs cs : List Value} {t : Nat} (h : W.ownsRow B e size (.slice s n cap) n xs) (hg : W.grownBy Y (some b)) (hr : W.heap[b]? = some (.cells cs.toArray t (0, 0))) (hne : t ≠ e) : CellsAt Y s xs := by
  have h2 : Y.ownsRow B e size (.slice s n cap) n xs := ShfKit.own_kept h fun g hgv => hg.block g (ShfKit.own_block h hgv).2 (fun e2 => by
    have := own_ne h hr hne
    rw [hgv] at this
    exact this e2)
  obtain ⟨sa, c, hv, hc, _⟩ := own_cells h2
  cases hv
  exact hc
/-- what CircuitCones makes of a line. -/
def turnA (g : Ga) : Ga := if g.kind = 2 ∨ g.kind = 4 then { g with a := g.b } else g
end Go.Proofs.YtfmmmhcpdinhgaaDoor
