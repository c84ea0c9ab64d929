import Derived.Test.YtfmmmhcpdinhgaaDoorZ13
/-
  The program's named of any value.
-/
namespace Go.Proofs.YtfmmmhcpdinhgaaDoor
open Go.RowKit Go.Deep PureNet Go.Maps Go.WideShapes
set_option maxRecDepth 100000

/-- no two of the first lines have one name. -/
def Apart (l : List Ga) (i : Nat) : Prop := ∀ (a b : Nat) (g h : Ga), a < i → b < i → l[a]? = some g → l[b]? = some h → g.name = h.name → a = b
/-- what named tells. -/
structure NamedIs (c : Net) : Prop where
  name : nameB c.name = true
  names : ∀ g ∈ c.gates, nameB g.name = true
  apart : Apart c.gates c.gates.length
/-- the names of the first lines, in a map. -/
structure Nam2 (x W : World) (l : List Ga) (i : Nat) (D : DataW Unit) : Prop where
  own : W.ownsMap Tryd.prog 9 (plainElem Tryd.prog 3) x.heap.size i D
  size : Maps.size D = i ↔ Apart l i
  tidy : Tidy D
  only : ∀ s : List UInt8, has D (.string s) = true ↔ ∃ j g, j < i ∧ l[j]? = some g ∧ s = g.name.data.toList
  good : ∀ (j : Nat) (g : Ga), j < i → l[j]? = some g → nameB g.name = true
  below : Below x.heap.size x W
theorem bytes_eq {a b : ByteArray} (h : a.data.toList = b.data.toList) : a = b := by
  cases a
  cases b
  exact congrArg _ (Array.ext' h)

set_option maxHeartbeats 4000000 in
theorem named_any (c : Net) (sg so : Option Addr) (cg co : Nat) (w : World) (hc : CellsAt w sg (gas c.gates)) (hn : c.name.size ≤ 140737488351232) (hns : ∀ g ∈ c.gates, g.name.size ≤ 140737488351232) (hl : c.gates.length ≤ 1099511627776) :
    Calls Tryd.prog 51 #[cirV c sg cg so co] w fun e w' => (∃ b, e = .returned (.bool b) ∧ (b = true ↔ NamedIs c)) ∧ Below w.heap.size w w' := by
  have short : ∀ s : ByteArray, nameB s = true → s.size ≤ 32 := fun s h => by
    apply Classical.byContradiction
    intro hn
    rw [nameB_long s (by omega)] at h
    cases h
  have HC := hid hc
  have NC : Hid (∀ W, _) := fun W => isName_any c.name W hn
  have NG : Hid (∀ (i : Nat) (g : Ga), c.gates[i]? = some g → ∀ W, Calls Tryd.prog 78 #[.string g.name] W fun e w' => e = .returned (.bool (nameB g.name)) ∧ w' = W) := fun i g hg W => isName_any g.name W (hns g (List.mem_of_getElem? hg))
  have SH := hid short
  clear hc hn hns short
  obtain ⟨x, hx⟩ : ∃ x, x = w.alloc (Obj.cells #[Value.string c.name, Value.slice sg c.gates.length cg, Value.slice so c.outs.length co] 26) := ⟨_, rfl⟩
  have RX : Hid (x.heap[w.heap.size]? = some (.cells #[Value.string c.name, Value.slice sg c.gates.length cg, Value.slice so c.outs.length co] 26 (0, 0))) := by rw [hx]; exact heap_alloc_new w _
  have BX : Hid (Below w.heap.size w x) := by rw [hx]; exact (Below.refl _ _).alloc (Nat.le_refl _) _
  have HX := hid hx
  clear hx
  have hmm := @run_makeMap Tryd.prog
  have cx := fun j => cell_row RX.out j
  have hbx := (Array.getElem?_eq_some_iff.1 RX.out).1
  go_enter Tryd.func51, Tryd.ntmps51
  go_wp2_with (rw [← HX.out])
  obtain ⟨y, hy⟩ : ∃ y, y = x.alloc (.map #[] 0) := ⟨_, rfl⟩
  have N0 : Hid (Nam2 x y c.gates 0 (.map [])) := by
    rw [hy]
    exact ⟨World.ownsMap_made x _ _ _, ⟨fun _ a b g h ha => by omega, fun _ => rfl⟩, tidy_empty, fun s => ⟨fun h => by simp [has] at h, fun ⟨j, g, hj, _⟩ => by omega⟩, fun j g hj => by omega, (Below.refl _ _).alloc (Nat.le_refl _) _⟩
  try rw [← hy]
  clear hy hmm cx hbx
  go_loopw [10] (fun iv W => ∃ i : Nat, i ≤ c.gates.length ∧ iv = .int .i64 (i : Int) ∧ Hid (∃ D, Nam2 x W c.gates i D)) (fun iv _ => c.gates.length - (intOf iv).toNat)
  case atStart => exact ⟨0, Nat.zero_le _, rfl, _, N0.out⟩
  case round =>
    clear N0
    obtain ⟨i, hi, rfl, HR⟩ := hrel
    obtain ⟨D, hN⟩ := HR.out
    clear HR
    have hwr : Below w.heap.size w wr := BX.out.trans (hN.below.mono BX.out.size)
    have hrow := (hN.below.block _ (Array.getElem?_eq_some_iff.1 RX.out).1).trans RX.out
    have c0 := fun j => cell_row hrow j
    have hb0 := (Array.getElem?_eq_some_iff.1 hrow).1
    have NM := hid hN
    have BW := hid hwr
    by_cases hlt : i < c.gates.length
    · obtain ⟨g, hg⟩ : ∃ g, c.gates[i]? = some g := ⟨_, List.getElem?_eq_getElem hlt⟩
      obtain ⟨b, o, rfl, hb, d0, d1, d2, d3, d4, d5⟩ := gate_at (HC.out.below hwr) i g hg
      have NI := hid (NG.out i g hg)
      have HG := hid hg
      cases hgn : nameB g.name with
      | false =>
        rw [hgn] at NI
        have HF : Hid (¬ NamedIs c) := fun h => by
          have := h.names g (List.mem_of_getElem? hg)
          rw [hgn] at this
          cases this
        clear hN hwr hrow hg hgn
        go_wp2_with (first | (go_at_call 78; refine Calls.mono (NI.out _) ?_; rintro e w2 ⟨rfl, rfl⟩))
        go_ret
        exact ⟨⟨false, rfl, by simp, fun h => absurd h HF.out⟩, BW.out.alloc BW.out.size _⟩
      | true =>
        rw [hgn] at NI
        have HGN := hid hgn
        have hsz : g.name.size ≤ maxLen := by have := SH.out _ hgn; unfold maxLen; omega
        have HK := hid (WideMaps.keyOf_string_mk (P := Tryd.prog) Tryd.underlying9 hsz)
        have HV : Hid (plainElem (H := Unit) Tryd.prog 3 (.int .i64 (i : Int)) = some (.lit (.int .i64 (i : Int)), [])) := plainElem_int Tryd.underlying3 (by
          have e1 : IntKind.i64.min = -9223372036854775808 := rfl
          have e2 : IntKind.i64.max = 9223372036854775807 := rfl
          simp [Lit.wf, e1, e2]
          omega)
        clear hN hwr hrow hg hgn
        go_wp2_with (first | (go_at_call 78; refine Calls.mono (NI.out _) ?_; rintro e w2 ⟨rfl, rfl⟩) | (at_mapUpdate; refine wpList_mapUpdate_own _ rfl _ _ _ 110 rfl 9 3 (string_keyed Tryd.underlying9) Tryd.underlying110 _ x.heap.size i D rfl (NM.out.own.alloc _) (by unfold maxLen; omega) _ _ (.string g.name.data.toList) rfl rfl HK.out (.lit (.int .i64 (i : Int))) [] HV.out ?_; intro w2 hown2 hg2; have OW := hid hown2; have GR := hid hg2; clear hown2 hg2))
        refine ⟨⟨i + 1, hlt, by go_num, _, OW.out, ?_, OW.out.tidy (string_keyed Tryd.underlying9), fun s => ?_, fun j h hj hh => ?_, ?_⟩, by simp [intOf]; omega⟩
        · rw [size_put NM.out.tidy]
          have hle := NM.out.own.size_le
          cases hh : has D (.string g.name.data.toList) with
          | false =>
            have hnew : ∀ (a : Nat) (h : Ga), a < i → c.gates[a]? = some h → g.name ≠ h.name := fun a h ha hah e => by
              have := (NM.out.only g.name.data.toList).2 ⟨a, h, ha, hah, by rw [e]⟩
              rw [hh] at this
              cases this
            rw [if_neg (by simp)]
            constructor
            · intro he a b p q ha hb hp hq hpq
              have hap := NM.out.size.1 (by omega)
              by_cases ea : a = i
              · by_cases eb : b = i
                · rw [ea, eb]
                · rw [ea, HG.out] at hp
                  cases hp
                  exact absurd hpq (hnew b q (by omega) hq)
              · by_cases eb : b = i
                · rw [eb, HG.out] at hq
                  cases hq
                  exact absurd hpq.symm (hnew a p (by omega) hp)
                · exact hap a b p q (by omega) (by omega) hp hq hpq
            · intro hap
              have := NM.out.size.2 (fun a b p q ha hb => hap a b p q (by omega) (by omega))
              omega
          | true =>
            obtain ⟨j, h, hj, hjh, e⟩ := (NM.out.only g.name.data.toList).1 hh
            rw [if_pos rfl]
            constructor
            · intro he
              omega
            · intro hap
              have := hap i j g h (by omega) (by omega) HG.out hjh (bytes_eq e)
              omega
        · by_cases e : (Lit.string s) = .string g.name.data.toList
          · rw [e, has_put_same NM.out.tidy.isMap (by trivial)]
            exact ⟨fun _ => ⟨i, g, by omega, HG.out, by simpa using e⟩, fun _ => rfl⟩
          · rw [has_put_other e, NM.out.only s]
            constructor
            · rintro ⟨j, h, hj, hjh, e2⟩
              exact ⟨j, h, by omega, hjh, e2⟩
            · rintro ⟨j, h, hj, hjh, e2⟩
              refine ⟨j, h, ?_, hjh, e2⟩
              have : j ≠ i := fun ej => by
                rw [ej, HG.out] at hjh
                cases hjh
                exact e (by rw [e2])
              omega
        · by_cases e : j = i
          · rw [e, HG.out] at hh
            cases hh
            exact HGN.out
          · exact NM.out.good j h (by omega) hh
        · exact (NM.out.below.alloc NM.out.below.size _).grown GR.out (by have := NM.out.below.size; simp; omega) (fun j hj => by cases hj; exact Nat.le_refl _)
    · have hin : i = c.gates.length := by omega
      have hlen := fun ty => hN.own.len Tryd.underlying110 ty
      obtain ⟨z, hz⟩ : ∃ z, z = Maps.size D := ⟨_, rfl⟩
      rw [← hz] at hlen
      have HZ : Hid (z = c.gates.length ↔ Apart c.gates c.gates.length) := by rw [hz, ← hin]; exact hN.size
      have HGD : Hid (∀ g ∈ c.gates, nameB g.name = true) := fun g hg => by
        obtain ⟨j, hj, e⟩ := List.getElem_of_mem hg
        exact hN.good j g (by omega) (by rw [List.getElem?_eq_getElem hj, e])
      clear hN hwr hrow hz hin
      cases hcn : nameB c.name with
      | false =>
        rw [hcn] at NC
        have HF : Hid (¬ NamedIs c) := fun h => by
          have := h.name
          rw [hcn] at this
          cases this
        clear hcn
        go_wp2_with (first | (go_at_call 78; refine Calls.mono (NC.out _) ?_; rintro e w2 ⟨rfl, rfl⟩))
        go_ret
        exact ⟨⟨false, rfl, by simp, fun h => absurd h HF.out⟩, BW.out⟩
      | true =>
        rw [hcn] at NC
        have HCN := hid hcn
        obtain ⟨bb, hbb⟩ : ∃ bb, bb = ((z : Int) == (c.gates.length : Int)) := ⟨_, rfl⟩
        have HBB : Hid (bb = true ↔ NamedIs c) := by
          rw [hbb]
          simp only [beq_iff_eq]
          constructor
          · intro h
            exact ⟨HCN.out, HGD.out, HZ.out.1 (by omega)⟩
          · intro h
            have := HZ.out.2 h.apart
            omega
        have hbb2 := hbb.symm
        clear hcn hbb
        go_wp2_with (first | (go_at_call 78; refine Calls.mono (NC.out _) ?_; rintro e w2 ⟨rfl, rfl⟩))
        go_ret
        exact ⟨⟨bb, rfl, HBB.out⟩, BW.out⟩
end Go.Proofs.YtfmmmhcpdinhgaaDoor
/-
  The search of the program: what a line is known to lead to.
-/
namespace Go.Proofs.YtfmmmhcpdinhgaaDoor
open Go.RowKit Go.Deep PureNet ShfKit
set_option maxRecDepth 100000

set_option maxHeartbeats 2000000 in
theorem reach_any (gv : Value) (n p x : Nat) (m : Int) (w W : World) (s : Ps) (mv rv pv wv tv ov : Value) (rs : List (Value × ShfKit.Rw)) (hx : x < n) (hs : Se w W p gv n s mv rv pv wv tv ov rs) :
    Calls Tryd.prog 72 #[.pointer (some ⟨p, 0, none⟩), .int .i64 (x : Int), .int .i64 m] W fun e W' => (∃ v, e = .returned v) ∧ Se w W' p gv n (s.reach x m) mv rv pv wv tv ov rs := by
  obtain ⟨gr, cr, rfl, hgr, hgrs, hcr, hgrf, _, hgrr⟩ := hs.row (i := 1) (by omega) rfl hx
  have hn2 : p ≠ gr := fun e => by
    obtain ⟨cs, h1⟩ := hgrr
    rw [← e, hs.box] at h1
    simp at h1
  have S9 : Hid (Se w (W.setCell ⟨gr, x, none⟩ (.int .i64 (min (s.reached x) m))).drew p gv n (s.reach x m) mv (.slice (some ⟨gr, 0, none⟩) n cr) pv wv tv ov rs) := (hs.setReached rfl hgr _ hgrr).on (Below.refl _ _).drew
  have e2 : W.drew.cell? ⟨p, 2, none⟩ = some (.slice (some ⟨gr, 0, none⟩) n cr) := hs.cell 2
  have hp0 := hs.size
  clear hs hgrr
  go_enter Tryd.func72, Tryd.ntmps72
  go_wp2
  refine wp_region_noPanic ?_
  refine wp_region_held_drew (S := fun W => W.cell? ⟨p, 2, none⟩ = some (.slice (some ⟨gr, 0, none⟩) n cr)) (by kernel_rfl) e2 (fun hHeld => ?_)
  refine wpAnyH_take (i := 0) (v := ?_) (by simp only [List.getElem?_toArray, List.getElem?_cons_zero]; rfl) (by kernel_rfl) (by kernel_rfl) (by kernel_rfl) (fun _ _ _ h => h) (Or.inl ⟨by rfl, ?_⟩) (by assumption) ?_
  rotate_left 1
  · intro w hSw; (try dsimp only at hSw); go_simp; (try with_reducible rfl)
  try simp only [Act.put, List.setIfInBounds_toArray, List.set_cons_zero, List.set_cons_succ]
  refine wpAnyH_take (i := 1) (v := ?_) (by simp only [List.getElem?_toArray, List.getElem?_cons_succ, List.getElem?_cons_zero]; rfl) (by kernel_rfl) (by kernel_rfl) (by kernel_rfl) (fun _ _ _ h => h) (Or.inl ⟨by rfl, ?_⟩) (by assumption) ?_
  rotate_left 1
  · intro w hSw; (try dsimp only at hSw); go_simp; (try with_reducible rfl)
  try simp only [Act.put, List.setIfInBounds_toArray, List.set_cons_zero, List.set_cons_succ]
  refine wpAnyH_take (i := 2) (v := ?_) (by simp only [List.getElem?_toArray, List.getElem?_cons_succ, List.getElem?_cons_zero]; rfl) (by kernel_rfl) (by kernel_rfl) (by kernel_rfl) (fun _ _ _ h => h) (Or.inl ⟨by rfl, ?_⟩) (by assumption) ?_
  rotate_left 1
  · intro w hSw; (try dsimp only at hSw); go_simp; (try with_reducible rfl)
  try simp only [Act.put, List.setIfInBounds_toArray, List.set_cons_zero, List.set_cons_succ]
  refine wpAnyH_take (i := 3) (v := ?_) (by simp only [List.getElem?_toArray, List.getElem?_cons_succ, List.getElem?_cons_zero]; rfl) (by kernel_rfl) (by kernel_rfl) (by kernel_rfl) (fun _ _ _ h => h) (Or.inl ⟨by rfl, ?_⟩) (by assumption) ?_
  rotate_left 1
  · intro w hSw; (try dsimp only at hSw); go_simp; (try with_reducible rfl)
  try simp only [Act.put, List.setIfInBounds_toArray, List.set_cons_zero, List.set_cons_succ]
  refine wpAnyH_take (i := 4) (v := ?_) (by simp only [List.getElem?_toArray, List.getElem?_cons_succ, List.getElem?_cons_zero]; rfl) (by kernel_rfl) (by kernel_rfl) (by kernel_rfl) (fun _ _ _ h => h) (Or.inl ⟨by rfl, ?_⟩) (by assumption) ?_
  rotate_left 1
  · intro w hSw; (try dsimp only at hSw); go_simp; (try with_reducible rfl)
  try simp only [Act.put, List.setIfInBounds_toArray, List.set_cons_zero, List.set_cons_succ]
  refine wpAnyH_take (i := 5) (v := ?_) (by simp only [List.getElem?_toArray, List.getElem?_cons_succ, List.getElem?_cons_zero]; rfl) (by kernel_rfl) (by kernel_rfl) (by kernel_rfl) (fun _ _ _ h => h) (Or.inl ⟨by rfl, ?_⟩) (by assumption) ?_
  rotate_left 1
  · intro w hSw; (try dsimp only at hSw); go_simp; (try with_reducible rfl)
  try simp only [Act.put, List.setIfInBounds_toArray, List.set_cons_zero, List.set_cons_succ]
  refine wpAnyH_take (i := 6) (v := ?_) (by simp only [List.getElem?_toArray, List.getElem?_cons_succ, List.getElem?_cons_zero]; rfl) (by kernel_rfl) (by kernel_rfl) (by kernel_rfl) (fun _ _ _ h => h) (Or.inl ⟨by rfl, ?_⟩) (by assumption) ?_
  rotate_left 1
  · intro w hSw; (try dsimp only at hSw); go_simp; (try with_reducible rfl)
  try simp only [Act.put, List.setIfInBounds_toArray, List.set_cons_zero, List.set_cons_succ]
  refine wpAnyH_take (i := 7) (v := ?_) (by simp only [List.getElem?_toArray, List.getElem?_cons_succ, List.getElem?_cons_zero]; rfl) (by kernel_rfl) (by kernel_rfl) (by kernel_rfl) (fun _ _ _ h => h) (Or.inl ⟨by rfl, ?_⟩) (by assumption) ?_
  rotate_left 1
  · intro w hSw; (try dsimp only at hSw); go_simp; (try with_reducible rfl)
  try simp only [Act.put, List.setIfInBounds_toArray, List.set_cons_zero, List.set_cons_succ]
  refine wpAnyH_take (i := 8) (v := ?_) (by simp only [List.getElem?_toArray, List.getElem?_cons_succ, List.getElem?_cons_zero]; rfl) (by kernel_rfl) (by kernel_rfl) (by kernel_rfl) (fun _ _ _ h => h) (Or.inl ⟨by rfl, ?_⟩) (by assumption) ?_
  rotate_left 1
  · intro w hSw; (try dsimp only at hSw); go_simp; (try with_reducible rfl)
  try simp only [Act.put, List.setIfInBounds_toArray, List.set_cons_zero, List.set_cons_succ]
  refine wpAnyH_take (i := 9) (v := ?_) (by simp only [List.getElem?_toArray, List.getElem?_cons_succ, List.getElem?_cons_zero]; rfl) (by kernel_rfl) (by kernel_rfl) (by kernel_rfl) (fun _ _ _ h => h) (Or.inl ⟨by rfl, ?_⟩) (by assumption) ?_
  rotate_left 1
  · intro w hSw; (try dsimp only at hSw); go_simp; (try with_reducible rfl)
  try simp only [Act.put, List.setIfInBounds_toArray, List.set_cons_zero, List.set_cons_succ]
  refine wpAnyH_take (i := 10) (v := .pointer (some ⟨gr, x, none⟩)) (by simp only [List.getElem?_toArray, List.getElem?_cons_succ, List.getElem?_cons_zero]; rfl) (by kernel_rfl) (by kernel_rfl) (by kernel_rfl) (fun _ _ _ h => h) (Or.inl ⟨by rfl, ?_⟩) (by assumption) ?_
  · intro w hSw; (try dsimp only at hSw); (try go_simp); ((try rw [if_pos (by omega)]); (try simp); (try (intro h9; omega)))
  try simp only [Act.put, List.setIfInBounds_toArray, List.set_cons_zero, List.set_cons_succ]
  refine wpAnyH_take (i := 12) (v := ?_) (by simp only [List.getElem?_toArray, List.getElem?_cons_succ, List.getElem?_cons_zero]; rfl) (by kernel_rfl) (by kernel_rfl) (by kernel_rfl) (fun _ _ _ h => h) (Or.inl ⟨by rfl, ?_⟩) (by assumption) ?_
  rotate_left 1
  · intro w hSw; (try dsimp only at hSw); go_simp; (try with_reducible rfl)
  try simp only [Act.put, List.setIfInBounds_toArray, List.set_cons_zero, List.set_cons_succ]
  refine wpAnyH_ready (rs := [11]) (by kernel_rfl) (by simp) ?_
  refine AllReadyH.cons (by simp only [List.getElem?_toArray, List.getElem?_cons_succ, List.getElem?_cons_zero]; rfl) (fun K hK => ?_) AllReadyH.nil
  go_simp
  clear hHeld
  refine hK.out _ _ e2 (fun hHeld => ?_)
  clear hK K
  try simp only [Act.put, List.setIfInBounds_toArray, List.set_cons_zero, List.set_cons_succ]
  refine wpAnyH_take (i := 13) (v := .int .i64 (min (s.reached x) m)) (by simp only [List.getElem?_toArray, List.getElem?_cons_succ, List.getElem?_cons_zero]; rfl) (by kernel_rfl) (by kernel_rfl) (by kernel_rfl) (fun _ _ _ h => h) (Or.inl ⟨by rfl, ?_⟩) (by assumption) ?_
  · intro w hSw; (try dsimp only at hSw); (try go_simp); (first | done | (with_reducible rfl) | (simp; done) | (simp [Int.min_def]; done) | (split <;> omega))
  try simp only [Act.put, List.setIfInBounds_toArray, List.set_cons_zero, List.set_cons_succ]
  refine wpAnyH_take (i := 14) (v := .pointer (some ⟨gr, x, none⟩)) (by simp only [List.getElem?_toArray, List.getElem?_cons_succ, List.getElem?_cons_zero]; rfl) (by kernel_rfl) (by kernel_rfl) (by kernel_rfl) (fun _ _ _ h => h) (Or.inl ⟨by rfl, ?_⟩) (by assumption) ?_
  · intro w hSw; (try dsimp only at hSw); (try go_simp); ((try rw [if_pos (by omega)]); (try simp); (try (intro h9; omega)))
  try simp only [Act.put, List.setIfInBounds_toArray, List.set_cons_zero, List.set_cons_succ]
  refine wpAnyH_ready (rs := [15]) (by kernel_rfl) (by simp) ?_
  refine AllReadyH.cons (by simp only [List.getElem?_toArray, List.getElem?_cons_succ, List.getElem?_cons_zero]; rfl) (fun K hK => ?_) AllReadyH.nil
  go_simp
  clear hHeld
  refine hK.out _ _ ((World.cell?_setCell_far _ _ _ _ (Ne.symm hn2)).trans e2) (fun hHeld => ?_)
  clear hK K
  try simp only [Act.put, List.setIfInBounds_toArray, List.set_cons_zero, List.set_cons_succ]
  refine wpAnyH_done (by kernel_rfl) ?_ _
  refine NoPanic.normal ?_
  go_wp2
  exact bodyPost_end (results_none rfl _ _ _) rfl ⟨⟨_, rfl⟩, S9.out⟩
end Go.Proofs.YtfmmmhcpdinhgaaDoor
/-
  The search of the program: a part of any number of lines comes out.
-/
namespace PureNet
/-- one line of a part has come out. -/
def Ps.pop (s : Ps) (front : List Nat) (y : Nat) (t : Int) : Ps := ⟨s.met, s.reached, upd s.part y t, s.way, front, s.out ++ [y]⟩
/-- a part on its way out: k rounds are to come. -/
def Mid (s0 : Ps) (pre post : List Nat) (x k : Nat) (s : Ps) : Prop :=
  (k = 0 ∧ s = s0.comeOut pre post x) ∨ ∃ post' dn, k = post'.length + 1 ∧ post = post' ++ dn.reverse ∧ s = ⟨s0.met, s0.reached, fun z => if z ∈ dn then s0.met x else s0.part z, s0.way, pre ++ x :: post', s0.out ++ dn⟩
theorem Mid.start (s0 : Ps) (pre post : List Nat) (x : Nat) (hw : s0.waiting = pre ++ x :: post) : Mid s0 pre post x (post.length + 1) s0 := by
  refine .inr ⟨post, [], rfl, by simp, ?_⟩
  cases s0
  simp at hw
  simp [hw]
theorem Mid.last {s0 s : Ps} {pre post : List Nat} {x : Nat} (h : Mid s0 pre post x 0 s) : s = s0.comeOut pre post x := by
  rcases h with ⟨_, h⟩ | ⟨p, _, h, _⟩
  · exact h
  · omega
theorem Mid.step {s0 s : Ps} {pre post : List Nat} {x k : Nat} (h : Mid s0 pre post x (k + 1) s) (hx : x ∉ post) (hp : s0.part x = 0) : ∃ front y, s.waiting = front ++ [y] ∧ (y = x ∨ y ∈ post) ∧ s.part x = 0 ∧ s.met = s0.met ∧ s.out.length + s.waiting.length = s0.out.length + (pre ++ x :: post).length ∧ Mid s0 pre post x k (s.pop front y (s0.met x)) := by
  rcases h with ⟨h, _⟩ | ⟨post', dn, hk, hpost, rfl⟩
  · omega
  have hxd : x ∉ dn := fun e => hx (by rw [hpost]; simp [e])
  rcases List.eq_nil_or_concat post' with rfl | ⟨q, y, rfl⟩
  · refine ⟨pre, x, rfl, .inl rfl, by simp [hxd, hp], rfl, ?_, .inl ⟨by simpa using hk, ?_⟩⟩
    · simp [hpost]; omega
    · simp only [List.nil_append] at hpost
      subst hpost
      simp only [Ps.pop, Ps.comeOut, List.append_assoc, List.reverse_cons, List.reverse_reverse, Ps.mk.injEq, true_and, and_true]
      funext z
      by_cases e : z = x
      · simp [e, upd]
      · simp [e, upd]
  · refine ⟨pre ++ x :: q, y, by simp, .inr (by rw [hpost]; simp), by simp [hxd, hp], rfl, ?_, .inr ⟨q, dn ++ [y], ?_, ?_, ?_⟩⟩
    · simp [hpost]; omega
    · simp at hk; omega
    · rw [hpost]; simp
    · simp only [Ps.pop, List.append_assoc, Ps.mk.injEq, true_and, and_true]
      funext z
      by_cases e : z = y
      · simp [e, upd]
      · simp [e, upd]
end PureNet
namespace Go.Proofs.YtfmmmhcpdinhgaaDoor
open Go.RowKit Go.Deep PureNet ShfKit
set_option maxRecDepth 100000

set_option maxHeartbeats 2000000 in
theorem comeOut_gen (gv : Value) (n p x : Nat) (w W : World) (s0 : Ps) (mv rv pv wv tv ov : Value) (rs : List (Value × ShfKit.Rw)) (pre post : List Nat) (hfew : n ≤ 65536) (hx : x < n) (hs : Se w W p gv n s0 mv rv pv wv tv ov rs) (ho : s0.out.length + s0.waiting.length ≤ n)
    (hw : s0.waiting = pre ++ x :: post) (hxp : x ∉ post) (hpl : ∀ y ∈ post, y < n) (hp : s0.part x = 0) (hm : s0.met x ≠ 0) :
    Calls Tryd.prog 89 #[.pointer (some ⟨p, 0, none⟩), .int .i64 (x : Int)] W fun e W' => (∃ v, e = .returned v) ∧ ∃ tv' ov', Se w W' p gv n (s0.comeOut pre post x) mv rv pv wv tv' ov' rs := by
  have SE := hid hs
  obtain ⟨gp, cp, rfl, hgp, hgps, _, _, _, hgpr⟩ := hs.row (i := 2) (by omega) rfl hx
  obtain ⟨gm, cm, rfl, hgm, hgms, _, _, _, hgmr⟩ := hs.row (i := 0) (by omega) rfl hx
  have hn2 : p ≠ gp := fun e => by
    obtain ⟨cs, h1⟩ := hgpr
    rw [← e, hs.box] at h1
    simp at h1
  have hn3 : gm ≠ gp := fun e => hs.fam.apart 0 2 _ _ gm rfl rfl (by decide) rfl (by rw [e]; rfl)
  have M0 := hid (Mid.start s0 pre post x hw)
  have ST : Hid (∀ k s, Mid s0 pre post x (k + 1) s → ∃ front y, s.waiting = front ++ [y] ∧ y < n ∧ s.part x = 0 ∧ s.met = s0.met ∧ s.out.length + s.waiting.length ≤ n ∧ Mid s0 pre post x k (s.pop front y (s0.met x))) := fun k s h => by
    obtain ⟨front, y, h1, h2, h3, h4, h5, h6⟩ := h.step hxp hp
    refine ⟨front, y, h1, ?_, h3, h4, by rw [h5, ← hw]; exact ho, h6⟩
    rcases h2 with rfl | h2
    · exact hx
    · exact hpl y h2
  have HM := hid hm
  obtain ⟨t0, ht0⟩ : ∃ t0, t0 = s0.met x := ⟨_, rfl⟩
  rw [← ht0] at ST HM
  have HT0 := hid ht0
  clear hs hw hp hm hgpr hgmr ht0 hxp hpl ho
  go_enter Tryd.func89, Tryd.ntmps89
  go_wp2
  go_loopg [] (post.length + 1) (fun k W => Hid (∃ s tv ov, Mid s0 pre post x k s ∧ Se w W p gv n s (.slice (some ⟨gm, 0, none⟩) n cm) rv (.slice (some ⟨gp, 0, none⟩) n cp) wv tv ov rs))
  case atStart => exact ⟨_, _, _, M0.out, SE.out⟩
  case round =>
    clear SE M0
    obtain ⟨s, tv, ov, hmid, hs⟩ := hrel.out
    clear hrel
    cases gk with
    | succ k =>
      obtain ⟨pre', y, hwait, hyn, hpx, hmet, hon, hmid'⟩ := ST.out k s hmid
      have MD := hid hmid'
      have HW := hid hwait
      have hmx : s.met x = t0 := by rw [hmet, HT0.out]
      have hwl : s.waiting.length = pre'.length + 1 := by rw [hwait]; simp
      have SE := hid hs
      obtain ⟨st, ct, rfl⟩ := hs.tv
      obtain ⟨so, co, rfl⟩ := hs.ov
      have c0 := hs.cell
      have f0 := fun j => unfrozen_row hs.box j
      have hp0 := hs.size
      obtain ⟨_, _, e9, _, hgpW, hcp, _⟩ := hs.row (i := 2) (by omega) rfl hx
      simp only [Value.slice.injEq, Option.some.injEq, Addr.mk.injEq, and_true, true_and] at e9
      obtain ⟨rfl, rfl⟩ := e9
      rw [hpx] at hcp
      obtain ⟨gt, rfl, hgt, hct⟩ := hs.lastWait HW.out
      have SE1 := hid (hs.cutWait HW.out)
      obtain ⟨W1, hW1⟩ : ∃ W1, W1 = wr.setCell ⟨p, 5, none⟩ (.slice (some ⟨gt, 0, none⟩) pre'.length ct) := ⟨_, rfl⟩
      rw [← hW1] at SE1
      have HW1 := hid hW1
      have v1 : IntKind.i64.wrap ((s.waiting.length : Int) - 1) = (pre'.length : Int) := by rw [IntKind.wrap_i64]; omega
      have v2 : (pre'.length : Int) < (s.waiting.length : Int) := by omega
      have v3 : pre'.length < s.waiting.length := by omega
      have hctw : pre'.length ≤ ct := by
        have ho := SE1.out.fam.own 3 (.slice (some ⟨gt, 0, none⟩) pre'.length ct, pre'.length, placesV pre') rfl
        rcases ho.2 with ⟨hv, _⟩ | ⟨_, _, _, hv, _, _, hnc, _⟩
        · simp at hv
        · simp only [Value.slice.injEq] at hv
          rw [hv.2.2]
          exact hnc
      have HMX := hid hmx
      clear hs hW1 hwait hmid hmid' hmet hpx hmx
      go_wp2_with (first | (rw [← HW1.out]))
      clear c0 f0 hp0 hcp hct HW1 v1 v2 v3
      obtain ⟨_, _, e9, _, _, hcm1, _⟩ := SE1.out.row (i := 0) (by omega) rfl hx
      simp only [Value.slice.injEq, Option.some.injEq, Addr.mk.injEq, and_true, true_and] at e9
      obtain ⟨rfl, rfl⟩ := e9
      obtain ⟨_, _, e9, _, _, hcy1, hfp1, _, hgpr1⟩ := SE1.out.row (i := 2) (by omega) rfl hyn
      simp only [Value.slice.injEq, Option.some.injEq, Addr.mk.injEq, and_true, true_and] at e9
      obtain ⟨rfl, rfl⟩ := e9
      have e3 : W1.drew.cell? ⟨p, 3, none⟩ = some (.slice (some ⟨gp, 0, none⟩) n cp) := SE1.out.cell 3
      have e1 : W1.drew.cell? ⟨p, 1, none⟩ = some (.slice (some ⟨gm, 0, none⟩) n cm) := SE1.out.cell 1
      have em : W1.drew.cell? ⟨gm, x, none⟩ = some (.int .i64 t0) := by rw [← HMX.out]; exact hcm1
      have hfp2 : W1.drew.frozen? ⟨gp, y, none⟩ = false := hfp1
      refine wp_region_noPanic ?_
      refine wp_region_held_drew (S := fun W => W.cell? ⟨p, 3, none⟩ = some (.slice (some ⟨gp, 0, none⟩) n cp) ∧ W.cell? ⟨p, 1, none⟩ = some (.slice (some ⟨gm, 0, none⟩) n cm) ∧ W.cell? ⟨gm, x, none⟩ = some (.int .i64 t0)) (by kernel_rfl) ⟨e3, e1, em⟩ (fun hHeld => ?_)
      refine wpAnyH_take (i := 0) (v := ?_) (by simp only [List.getElem?_toArray, List.getElem?_cons_zero]; rfl) (by kernel_rfl) (by kernel_rfl) (by kernel_rfl) (fun _ _ _ h => h) (Or.inl ⟨by rfl, ?_⟩) (by assumption) ?_
      rotate_left 1
      · intro w hSw; (try dsimp only at hSw); go_simp; (try with_reducible rfl)
      try simp only [Act.put, List.setIfInBounds_toArray, List.set_cons_zero, List.set_cons_succ]
      refine wpAnyH_take (i := 1) (v := ?_) (by simp only [List.getElem?_toArray, List.getElem?_cons_succ, List.getElem?_cons_zero]; rfl) (by kernel_rfl) (by kernel_rfl) (by kernel_rfl) (fun _ _ _ h => h) (Or.inl ⟨by rfl, ?_⟩) (by assumption) ?_
      rotate_left 1
      · intro w hSw; (try dsimp only at hSw); go_simp; (try with_reducible rfl)
      try simp only [Act.put, List.setIfInBounds_toArray, List.set_cons_zero, List.set_cons_succ]
      refine wpAnyH_take (i := 2) (v := ?_) (by simp only [List.getElem?_toArray, List.getElem?_cons_succ, List.getElem?_cons_zero]; rfl) (by kernel_rfl) (by kernel_rfl) (by kernel_rfl) (fun _ _ _ h => h) (Or.inl ⟨by rfl, ?_⟩) (by assumption) ?_
      rotate_left 1
      · intro w hSw; (try dsimp only at hSw); go_simp; (try with_reducible rfl)
      try simp only [Act.put, List.setIfInBounds_toArray, List.set_cons_zero, List.set_cons_succ]
      refine wpAnyH_take (i := 3) (v := ?_) (by simp only [List.getElem?_toArray, List.getElem?_cons_succ, List.getElem?_cons_zero]; rfl) (by kernel_rfl) (by kernel_rfl) (by kernel_rfl) (fun _ _ _ h => h) (Or.inl ⟨by rfl, ?_⟩) (by assumption) ?_
      rotate_left 1
      · intro w hSw; (try dsimp only at hSw); go_simp; (try with_reducible rfl)
      try simp only [Act.put, List.setIfInBounds_toArray, List.set_cons_zero, List.set_cons_succ]
      refine wpAnyH_take (i := 4) (v := ?_) (by simp only [List.getElem?_toArray, List.getElem?_cons_succ, List.getElem?_cons_zero]; rfl) (by kernel_rfl) (by kernel_rfl) (by kernel_rfl) (fun _ _ _ h => h) (Or.inl ⟨by rfl, ?_⟩) (by assumption) ?_
      rotate_left 1
      · intro w hSw; (try dsimp only at hSw); go_simp; (try with_reducible rfl)
      try simp only [Act.put, List.setIfInBounds_toArray, List.set_cons_zero, List.set_cons_succ]
      refine wpAnyH_take (i := 5) (v := ?_) (by simp only [List.getElem?_toArray, List.getElem?_cons_succ, List.getElem?_cons_zero]; rfl) (by kernel_rfl) (by kernel_rfl) (by kernel_rfl) (fun _ _ _ h => h) (Or.inl ⟨by rfl, ?_⟩) (by assumption) ?_
      rotate_left 1
      · intro w hSw; (try dsimp only at hSw); go_simp; (try with_reducible rfl)
      try simp only [Act.put, List.setIfInBounds_toArray, List.set_cons_zero, List.set_cons_succ]
      refine wpAnyH_take (i := 6) (v := ?_) (by simp only [List.getElem?_toArray, List.getElem?_cons_succ, List.getElem?_cons_zero]; rfl) (by kernel_rfl) (by kernel_rfl) (by kernel_rfl) (fun _ _ _ h => h) (Or.inl ⟨by rfl, ?_⟩) (by assumption) ?_
      rotate_left 1
      · intro w hSw; (try dsimp only at hSw); go_simp; (try with_reducible rfl)
      try simp only [Act.put, List.setIfInBounds_toArray, List.set_cons_zero, List.set_cons_succ]
      refine wpAnyH_take (i := 7) (v := ?_) (by simp only [List.getElem?_toArray, List.getElem?_cons_succ, List.getElem?_cons_zero]; rfl) (by kernel_rfl) (by kernel_rfl) (by kernel_rfl) (fun _ _ _ h => h) (Or.inl ⟨by rfl, ?_⟩) (by assumption) ?_
      rotate_left 1
      · intro w hSw; (try dsimp only at hSw); go_simp; (try with_reducible rfl)
      try simp only [Act.put, List.setIfInBounds_toArray, List.set_cons_zero, List.set_cons_succ]
      refine wpAnyH_take (i := 8) (v := ?_) (by simp only [List.getElem?_toArray, List.getElem?_cons_succ, List.getElem?_cons_zero]; rfl) (by kernel_rfl) (by kernel_rfl) (by kernel_rfl) (fun _ _ _ h => h) (Or.inl ⟨by rfl, ?_⟩) (by assumption) ?_
      rotate_left 1
      · intro w hSw; (try dsimp only at hSw); go_simp; (try with_reducible rfl)
      try simp only [Act.put, List.setIfInBounds_toArray, List.set_cons_zero, List.set_cons_succ]
      refine wpAnyH_take (i := 9) (v := ?_) (by simp only [List.getElem?_toArray, List.getElem?_cons_succ, List.getElem?_cons_zero]; rfl) (by kernel_rfl) (by kernel_rfl) (by kernel_rfl) (fun _ _ _ h => h) (Or.inl ⟨by rfl, ?_⟩) (by assumption) ?_
      rotate_left 1
      · intro w hSw; (try dsimp only at hSw); go_simp; (try with_reducible rfl)
      try simp only [Act.put, List.setIfInBounds_toArray, List.set_cons_zero, List.set_cons_succ]
      refine wpAnyH_take (i := 10) (v := .pointer (some ⟨gm, x, none⟩)) (by simp only [List.getElem?_toArray, List.getElem?_cons_succ, List.getElem?_cons_zero]; rfl) (by kernel_rfl) (by kernel_rfl) (by kernel_rfl) (fun _ _ _ h => h) (Or.inl ⟨by rfl, ?_⟩) (by assumption) ?_
      · intro w hSw; (try dsimp only at hSw); (try go_simp); ((try rw [if_pos (by omega)]); (try simp); (try (intro h9; omega)))
      try simp only [Act.put, List.setIfInBounds_toArray, List.set_cons_zero, List.set_cons_succ]
      refine wpAnyH_take (i := 11) (v := ?_) (by simp only [List.getElem?_toArray, List.getElem?_cons_succ, List.getElem?_cons_zero]; rfl) (by kernel_rfl) (by kernel_rfl) (by kernel_rfl) (fun _ _ _ h => h) (Or.inl ⟨by rfl, ?_⟩) (by assumption) ?_
      rotate_left 1
      · intro w hSw; (try dsimp only at hSw); go_simp; (try with_reducible rfl)
      try simp only [Act.put, List.setIfInBounds_toArray, List.set_cons_zero, List.set_cons_succ]
      refine wpAnyH_take (i := 12) (v := .pointer (some ⟨gp, y, none⟩)) (by simp only [List.getElem?_toArray, List.getElem?_cons_succ, List.getElem?_cons_zero]; rfl) (by kernel_rfl) (by kernel_rfl) (by kernel_rfl) (fun _ _ _ h => h) (Or.inl ⟨by rfl, ?_⟩) (by assumption) ?_
      · intro w hSw; (try dsimp only at hSw); (try go_simp); ((try rw [if_pos (by omega)]); (try simp); (try (intro h9; omega)))
      try simp only [Act.put, List.setIfInBounds_toArray, List.set_cons_zero, List.set_cons_succ]
      refine wpAnyH_ready (rs := [13]) (by kernel_rfl) (by simp) ?_
      refine AllReadyH.cons (by simp only [List.getElem?_toArray, List.getElem?_cons_succ, List.getElem?_cons_zero]; rfl) (fun K hK => ?_) AllReadyH.nil
      go_simp
      clear hHeld
      refine hK.out _ _ ⟨(World.cell?_setCell_far _ _ _ _ (Ne.symm hn2)).trans e3, (World.cell?_setCell_far _ _ _ _ (Ne.symm hn2)).trans e1, (World.cell?_setCell_far _ _ _ _ (Ne.symm hn3)).trans em⟩ (fun hHeld => ?_)
      clear hK K
      try simp only [Act.put, List.setIfInBounds_toArray, List.set_cons_zero, List.set_cons_succ]
      refine wpAnyH_done (by kernel_rfl) ?_ _
      refine NoPanic.normal ?_
      obtain ⟨W2, hW2⟩ : ∃ W2, W2 = (W1.setCell ⟨gp, y, none⟩ (.int .i64 t0)).drew := ⟨_, rfl⟩
      rw [← hW2]
      have SE2 : Hid (Se w W2 p gv n ⟨s.met, s.reached, upd s.part y t0, s.way, pre', s.out⟩ (.slice (some ⟨gm, 0, none⟩) n cm) rv (.slice (some ⟨gp, 0, none⟩) n cp) wv (.slice (some ⟨gt, 0, none⟩) pre'.length ct) (.slice so s.out.length co) rs) := by
        rw [hW2]
        exact (SE1.out.setPart rfl hgp _ hgpr1).on (Below.refl _ _).drew
      have c2 := SE2.out.cell
      have hp2 := SE2.out.size
      clear hW2 e3 e1 em hfp1 hfp2 hgpr1 hcm1 hHeld hcy1
      go_wp2_with (first
        | (rw [← HW4.out])
        | (at_builtin; refine fam_app rfl _ _ rfl SE2.out.fam SE2.out.below 4 _ rfl (y : Int) 3 _ rfl rfl rfl (by show s.out.length ≤ 1099511627776; omega) ?_; intro sx cx w3 hF3 hB3 hk3; have hbx3 := hk3 p _ _ _ SE2.out.box (by decide); have c3 := fun j => cell_row hbx3 j; have f3 := fun j => unfrozen_row hbx3 j; have hb3 := (Array.getElem?_eq_some_iff.1 hbx3).1; obtain ⟨W4, hW4⟩ : ∃ W4, W4 = w3.setCell ⟨p, 6, none⟩ (.slice sx (s.out.length + 1) cx) := ⟨_, rfl⟩; have SE4 : Hid (Se w W4 p gv n (s.pop pre' y t0) (.slice (some ⟨gm, 0, none⟩) n cm) rv (.slice (some ⟨gp, 0, none⟩) n cp) wv (.slice (some ⟨gt, 0, none⟩) pre'.length ct) (.slice sx (s.out.length + 1) cx) rs) := (by rw [hW4]; refine SE2.out.outs (ot := s.out ++ [y]) ?_ hB3 hk3; rw [← places_snoc, List.length_append, List.length_singleton]; exact hF3); have HW4 := hid hW4; clear hF3 hB3 hk3 hbx3 hW4))
      go_roundg k
      case measure => omega
      case rel => exact ⟨_, _, _, MD.out, SE4.out⟩
    | zero =>
      have hlast := hmid.last
      rw [hlast] at hs
      have SE := hid hs
      have c0 := hs.cell
      have hp0 := hs.size
      obtain ⟨_, _, e9, _, hgpW, hcp, _⟩ := hs.row (i := 2) (by omega) rfl hx
      simp only [Value.slice.injEq, Option.some.injEq, Addr.mk.injEq, and_true, true_and] at e9
      obtain ⟨rfl, rfl⟩ := e9
      have hcp2 : wr.cell? ⟨gp, x, none⟩ = some (.int .i64 t0) := by
        rw [hcp]
        simp [Ps.comeOut, HT0.out]
      have hmb : (t0 == 0) = false := beq_eq_false_iff_ne.2 HM.out
      clear hs hcp hlast hmid
      go_wp2
      exact bodyPost_end (results_none rfl _ _ _) rfl ⟨⟨_, rfl⟩, _, _, SE.out⟩
end Go.Proofs.YtfmmmhcpdinhgaaDoor
