import Derived.Test.YtfmmmhcpdinhgaaDoorZ01
/-
  The program's names.
-/
namespace Go.Proofs.YtfmmmhcpdinhgaaDoor
open Go.RowKit Go.Deep PureNet
set_option maxRecDepth 100000

set_option maxHeartbeats 1000000 in
theorem begins_any (c : UInt8) (w : World) : Calls Tryd.prog 105 #[.int .u8 (c.toNat : Int)] w fun e w' => e = .returned (.bool (letB c)) ∧ w' = w := by
  have hc : (c.toNat : Int) ≤ 255 := by have := c.toNat_lt; omega
  by_cases h1 : 97 ≤ (c.toNat : Int)
  · by_cases h2 : (c.toNat : Int) ≤ 122
    · have HD : Hid (letB c = true) := by show _ = _; unfold letB; simp; omega
      go_enter Tryd.func105, Tryd.ntmps105
      go_wp2
      go_ret
      rw [HD.out]
      exact ⟨rfl, rfl⟩
    · have HD : Hid (letB c = false) := by show _ = _; unfold letB; simp; omega
      have h3 : 65 ≤ (c.toNat : Int) := by omega
      have h4 : ¬ (c.toNat : Int) ≤ 90 := by omega
      have h5 : ((c.toNat : Int) == 95) = false := beq_eq_false_iff_ne.2 (by omega)
      go_enter Tryd.func105, Tryd.ntmps105
      go_wp2
      go_ret
      rw [HD.out]
      exact ⟨rfl, rfl⟩
  · by_cases h3 : 65 ≤ (c.toNat : Int)
    · by_cases h4 : (c.toNat : Int) ≤ 90
      · have HD : Hid (letB c = true) := by show _ = _; unfold letB; simp; omega
        go_enter Tryd.func105, Tryd.ntmps105
        go_wp2
        go_ret
        rw [HD.out]
        exact ⟨rfl, rfl⟩
      · by_cases h5 : (c.toNat : Int) = 95
        · have HD : Hid (letB c = true) := by show _ = _; unfold letB; simp; omega
          go_enter Tryd.func105, Tryd.ntmps105
          go_wp2
          go_ret
          rw [HD.out]
          exact ⟨rfl, rfl⟩
        · have HD : Hid (letB c = false) := by show _ = _; unfold letB; simp; omega
          have h6 : ((c.toNat : Int) == 95) = false := beq_eq_false_iff_ne.2 h5
          clear h5
          go_enter Tryd.func105, Tryd.ntmps105
          go_wp2
          go_ret
          rw [HD.out]
          exact ⟨rfl, rfl⟩
    · have HD : Hid (letB c = false) := by show _ = _; unfold letB; simp; omega
      have h5 : ((c.toNat : Int) == 95) = false := beq_eq_false_iff_ne.2 (by omega)
      go_enter Tryd.func105, Tryd.ntmps105
      go_wp2
      go_ret
      rw [HD.out]
      exact ⟨rfl, rfl⟩

def goB (c : UInt8) : Bool := decide ((48 ≤ c.toNat ∧ c.toNat ≤ 57) ∨ c.toNat = 46)
set_option maxHeartbeats 1000000 in
theorem goesOn_any (c : UInt8) (w : World) : Calls Tryd.prog 106 #[.int .u8 (c.toNat : Int)] w fun e w' => e = .returned (.bool (goB c)) ∧ w' = w := by
  have hc : (c.toNat : Int) ≤ 255 := by have := c.toNat_lt; omega
  by_cases h1 : 48 ≤ (c.toNat : Int)
  · by_cases h2 : (c.toNat : Int) ≤ 57
    · have HD : Hid (goB c = true) := by show _ = _; unfold goB; simp; omega
      go_enter Tryd.func106, Tryd.ntmps106
      go_wp2
      go_ret
      rw [HD.out]
      exact ⟨rfl, rfl⟩
    · have HD : Hid (goB c = false) := by show _ = _; unfold goB; simp; omega
      have h5 : ((c.toNat : Int) == 46) = false := beq_eq_false_iff_ne.2 (by omega)
      go_enter Tryd.func106, Tryd.ntmps106
      go_wp2
      go_ret
      rw [HD.out]
      exact ⟨rfl, rfl⟩
  · by_cases h5 : (c.toNat : Int) = 46
    · have HD : Hid (goB c = true) := by show _ = _; unfold goB; simp; omega
      go_enter Tryd.func106, Tryd.ntmps106
      go_wp2
      go_ret
      rw [HD.out]
      exact ⟨rfl, rfl⟩
    · have HD : Hid (goB c = false) := by show _ = _; unfold goB; simp; omega
      have h6 : ((c.toNat : Int) == 46) = false := beq_eq_false_iff_ne.2 h5
      clear h5
      go_enter Tryd.func106, Tryd.ntmps106
      go_wp2
      go_ret
      rw [HD.out]
      exact ⟨rfl, rfl⟩

theorem nameB_all (s : ByteArray) (h0 : 0 < s.size) (h1 : s.size ≤ 32) (h : ∀ q, (hq : q < s.size) → letB (s[q]'hq) = true ∨ (0 < q ∧ goB (s[q]'hq) = true)) : nameB s = true := by
  rw [nameB_of s h0 h1, Bool.and_eq_true]
  refine ⟨?_, decide_eq_true fun q hq hp => ?_⟩
  · rcases h 0 h0 with h | ⟨h, _⟩
    · exact h
    · omega
  · unfold nameCB
    rcases h q hq with h | ⟨_, h⟩
    · rw [h]; rfl
    · unfold goB at h; rw [h]; simp
theorem nameB_not (s : ByteArray) (q : Nat) (hq : q < s.size) (h1 : letB (s[q]'hq) = false) (h2 : q = 0 ∨ goB (s[q]'hq) = false) : nameB s = false := by
  by_cases h32 : 32 < s.size
  · exact nameB_long s h32
  rw [nameB_of s (by omega) (by omega)]
  by_cases h0 : q = 0
  · subst h0
    rw [h1, Bool.false_and]
  · rw [decide_eq_false, Bool.and_false]
    intro h
    have := h q hq (by omega)
    unfold nameCB at this
    rw [h1, Bool.false_or] at this
    rcases h2 with h2 | h2
    · exact h0 h2
    · unfold goB at h2; rw [h2] at this; cases this

set_option maxHeartbeats 2000000 in
theorem isName_any (s : ByteArray) (w : World) (hs : s.size ≤ 140737488351232) : Calls Tryd.prog 78 #[.string s] w fun e w' => e = .returned (.bool (nameB s)) ∧ w' = w := by
  by_cases h0 : s.size = 0
  · have e0 : s = ⟨#[]⟩ := by
      obtain ⟨d⟩ := s
      congr
      exact Array.eq_empty_of_size_eq_zero h0
    subst e0
    have HD : Hid (nameB ⟨#[]⟩ = false) := rfl
    go_enter Tryd.func78, Tryd.ntmps78
    go_wp2
    go_ret
    refine ⟨?_, rfl⟩
    rw [HD.out]
    rfl
  have hneb : s.toList.isEmpty = false := by
    rw [ByteArray.toList_eq]
    cases h : s.data.toList with
    | nil => exact absurd (by simpa using congrArg List.length h) h0
    | cons a l => rfl
  by_cases h32 : 32 < s.size
  · have HD := hid (nameB_long s h32)
    have h33 : (32 : Int) < (s.size : Int) := by omega
    go_enter Tryd.func78, Tryd.ntmps78
    go_wp2
    go_ret
    rw [HD.out]
    exact ⟨rfl, rfl⟩
  have h33 : ¬ (32 : Int) < (s.size : Int) := by omega
  go_enter Tryd.func78, Tryd.ntmps78
  go_wp2
  go_loopw [14] (fun iv W => ∃ i : Nat, i ≤ s.size ∧ iv = .int .i64 (i : Int) ∧ W = w ∧ Hid (∀ q, (hq : q < s.size) → q < i → letB (s[q]'hq) = true ∨ (0 < q ∧ goB (s[q]'hq) = true))) (fun iv _ => s.size - (intOf iv).toNat)
  case atStart => exact ⟨0, Nat.zero_le _, rfl, rfl, fun q _ h => by omega⟩
  case round =>
    obtain ⟨i, hi, rfl, rfl, HR⟩ := hrel
    by_cases hlt : i < s.size
    · have hr := HR.out
      clear HR
      have LI := hid (fun W => begins_any (s[i]'hlt) W)
      have GI := hid (fun W => goesOn_any (s[i]'hlt) W)
      have NX : (letB (s[i]'hlt) = true ∨ (0 < i ∧ goB (s[i]'hlt) = true)) → Hid (∀ q, (hq : q < s.size) → q < i + 1 → letB (s[q]'hq) = true ∨ (0 < q ∧ goB (s[q]'hq) = true)) := fun h q hq h1 => by
        by_cases e : q = i
        · subst e; exact h
        · exact hr q hq (by omega)
      have NO : letB (s[i]'hlt) = false → (i = 0 ∨ goB (s[i]'hlt) = false) → Hid (nameB s = false) := fun h1 h2 => nameB_not s i hlt h1 h2
      clear hr
      cases hcl : letB (s[i]'hlt) with
      | true =>
        have HN := NX (.inl hcl)
        rw [hcl] at LI
        clear NX NO hcl
        go_wp2_with (first | (go_at_call 105; with_reducible refine (LI.out _).mono ?_; rintro e w2 ⟨rfl, rfl⟩))
        exact ⟨⟨i + 1, hlt, by go_num, by first | rfl | trivial, HN.out⟩, by simp [intOf]; omega⟩
      | false =>
        rw [hcl] at LI
        by_cases hi0 : i = 0
        · have HN := NO hcl (.inl hi0)
          have hib : ((i : Int) == 0) = true := by rw [hi0]; rfl
          clear NX NO hcl hi0
          go_wp2_with (first | (go_at_call 105; with_reducible refine (LI.out _).mono ?_; rintro e w2 ⟨rfl, rfl⟩))
          go_ret
          rw [HN.out]
          exact ⟨rfl, rfl⟩
        · have hib : ((i : Int) == 0) = false := beq_eq_false_iff_ne.2 (by omega)
          cases hcg : goB (s[i]'hlt) with
          | true =>
            have HN := NX (.inr ⟨by omega, hcg⟩)
            rw [hcg] at GI
            clear NX NO hcl hcg
            go_wp2_with (first | (go_at_call 106; with_reducible refine (GI.out _).mono ?_; rintro e w2 ⟨rfl, rfl⟩) | (go_at_call 105; with_reducible refine (LI.out _).mono ?_; rintro e w2 ⟨rfl, rfl⟩))
            exact ⟨⟨i + 1, hlt, by go_num, by first | rfl | trivial, HN.out⟩, by simp [intOf]; omega⟩
          | false =>
            have HN := NO hcl (.inr hcg)
            rw [hcg] at GI
            clear NX NO hcl hcg
            go_wp2_with (first | (go_at_call 106; with_reducible refine (GI.out _).mono ?_; rintro e w2 ⟨rfl, rfl⟩) | (go_at_call 105; with_reducible refine (LI.out _).mono ?_; rintro e w2 ⟨rfl, rfl⟩))
            go_ret
            rw [HN.out]
            exact ⟨rfl, rfl⟩
    · have HF : Hid (nameB s = true) := nameB_all s (by omega) (by omega) (fun q hq => HR.out q hq (by omega))
      clear HR
      go_wp2
      go_ret
      rw [HF.out]
      exact ⟨rfl, rfl⟩
end Go.Proofs.YtfmmmhcpdinhgaaDoor
/-
  The program's within, named.
-/
namespace Go.Proofs.YtfmmmhcpdinhgaaDoor
open Go.RowKit Go.Deep PureNet Go.Maps Go.WideShapes
set_option maxRecDepth 100000

set_option maxHeartbeats 1000000 in
theorem within_ok (c : Net) (sg so : Option Addr) (cg co : Nat) (w : World) (hl : c.gates.length ≤ 65536) (ho : c.outs.length ≤ 65536) :
    Calls Tryd.prog 50 #[cirV c sg cg so co] w fun e w' => e = .returned (.bool true) ∧ Below w.heap.size w w' := by
  have h1 : (c.gates.length : Int) ≤ 65536 := by omega
  have h2 : (c.outs.length : Int) ≤ 65536 := by omega
  go_enter Tryd.func50, Tryd.ntmps50
  go_wp2
  go_ret
  exact ⟨rfl, (Below.refl _ _).alloc (Nat.le_refl _) _⟩

/-- the names of the first lines, in a map. -/
structure Nam (x W : World) (l : List Ga) (i : Nat) (D : DataW Unit) : Prop where
  own : W.ownsMap Tryd.prog 9 (plainElem Tryd.prog 3) x.heap.size i D
  size : Maps.size D = i
  tidy : Tidy D
  only : ∀ s : List UInt8, has D (.string s) = true → ∃ j g, j < i ∧ l[j]? = some g ∧ s = g.name.data.toList
  below : Below x.heap.size x W
theorem Nam.start (x : World) (l : List Ga) : Nam x (x.alloc (.map #[] 0)) l 0 (.map []) :=
  ⟨World.ownsMap_made x _ _ _, rfl, tidy_empty, fun s h => by simp [has] at h, (Below.refl _ _).alloc (Nat.le_refl _) _⟩

set_option maxHeartbeats 2000000 in
theorem named_ok (c : Net) (sg so : Option Addr) (cg co : Nat) (w : World) (hc : CellsAt w sg (gas c.gates)) (hf : PureNet.Formed c) :
    Calls Tryd.prog 51 #[cirV c sg cg so co] w fun e w' => e = .returned (.bool true) ∧ Below w.heap.size w w' := by
  have short : ∀ s : ByteArray, nameB s = true → s.size ≤ 32 := fun s h => by
    apply Classical.byContradiction
    intro hn
    rw [nameB_long s (by omega)] at h
    cases h
  have HC := hid hc
  have HF := hid hf
  have hfew := hf.few
  have NC : Hid (∀ W, Calls Tryd.prog 78 #[.string c.name] W fun e w' => e = .returned (.bool true) ∧ w' = W) := fun W => by
    have := isName_any c.name W (by have := short _ hf.name; omega)
    rw [hf.name] at this
    exact this
  have NG : Hid (∀ (i : Nat) (g : Ga), c.gates[i]? = some g → g.name.size ≤ 32 ∧ ∀ W, Calls Tryd.prog 78 #[.string g.name] W fun e w' => e = .returned (.bool true) ∧ w' = W) := fun i g hg => ⟨short _ (hf.lines i g hg).1, fun W => by
    have := isName_any g.name W (by have := short _ (hf.lines i g hg).1; omega)
    rw [(hf.lines i g hg).1] at this
    exact this⟩
  clear hc hf short
  obtain ⟨x, hx⟩ : ∃ x, x = w.alloc (Obj.cells #[Value.string c.name, Value.slice sg c.gates.length cg, Value.slice so c.outs.length co] 26) := ⟨_, rfl⟩
  have RX : Hid (x.heap[w.heap.size]? = some (.cells #[Value.string c.name, Value.slice sg c.gates.length cg, Value.slice so c.outs.length co] 26 (0, 0))) := by rw [hx]; exact heap_alloc_new w _
  have BX : Hid (Below w.heap.size w x) := by rw [hx]; exact (Below.refl _ _).alloc (Nat.le_refl _) _
  have HX := hid hx
  clear hx
  have hmm := @run_makeMap Tryd.prog
  have cx := fun j => cell_row RX.out j
  have hbx := (Array.getElem?_eq_some_iff.1 RX.out).1
  go_enter Tryd.func51, Tryd.ntmps51
  go_wp2_with (rw [← HX.out])
  obtain ⟨y, hy⟩ : ∃ y, y = x.alloc (.map #[] 0) := ⟨_, rfl⟩
  have N0 : Hid (Nam x y c.gates 0 (.map [])) := by rw [hy]; exact Nam.start x _
  try rw [← hy]
  clear hy hmm cx hbx
  go_loopw [10] (fun iv W => ∃ i : Nat, i ≤ c.gates.length ∧ iv = .int .i64 (i : Int) ∧ Hid (∃ D, Nam x W c.gates i D)) (fun iv _ => c.gates.length - (intOf iv).toNat)
  case atStart => exact ⟨0, Nat.zero_le _, rfl, _, N0.out⟩
  case round =>
    clear N0
    obtain ⟨i, hi, rfl, HR⟩ := hrel
    obtain ⟨D, hN⟩ := HR.out
    clear HR
    have hwr : Below w.heap.size w wr := BX.out.trans (hN.below.mono BX.out.size)
    have hrow := (hN.below.block _ (Array.getElem?_eq_some_iff.1 RX.out).1).trans RX.out
    have c0 := fun j => cell_row hrow j
    have hb0 := (Array.getElem?_eq_some_iff.1 hrow).1
    have NM := hid hN
    have BW := hid hwr
    by_cases hlt : i < c.gates.length
    · obtain ⟨g, hg⟩ : ∃ g, c.gates[i]? = some g := ⟨_, List.getElem?_eq_getElem hlt⟩
      obtain ⟨b, o, rfl, hb, d0, d1, d2, d3, d4, d5⟩ := gate_at (HC.out.below hwr) i g hg
      have NI := hid ((NG.out i g hg).2)
      have hsz : g.name.size ≤ maxLen := by have := (NG.out i g hg).1; unfold maxLen; omega
      have HK := hid (WideMaps.keyOf_string_mk (P := Tryd.prog) Tryd.underlying9 hsz)
      have HV : Hid (plainElem (H := Unit) Tryd.prog 3 (.int .i64 (i : Int)) = some (.lit (.int .i64 (i : Int)), [])) := plainElem_int Tryd.underlying3 (by
        have e1 : IntKind.i64.min = -9223372036854775808 := rfl
        have e2 : IntKind.i64.max = 9223372036854775807 := rfl
        simp [Lit.wf, e1, e2]
        omega)
      have HH : Hid (has D (.string g.name.data.toList) = false) := by
        show _ = _
        cases h : has D (.string g.name.data.toList) with
        | false => rfl
        | true =>
          obtain ⟨j, g2, hj, hg2, e⟩ := hN.only _ h
          have e2 : g.name = g2.name := by
            have h1 : g.name.data = g2.name.data := by
              apply Array.ext'
              exact e
            cases hgn : g.name
            cases hgn2 : g2.name
            rw [hgn, hgn2] at h1
            exact congrArg _ h1
          have := HF.out.apart i j g g2 hg hg2 e2
          omega
      have HG := hid hg
      clear hN hwr hrow hg
      go_wp2_with (first | (go_at_call 78; refine Calls.mono (NI.out _) ?_; rintro e w2 ⟨rfl, rfl⟩) | (at_mapUpdate; refine wpList_mapUpdate_own _ rfl _ _ _ 110 rfl 9 3 (string_keyed Tryd.underlying9) Tryd.underlying110 _ x.heap.size i D rfl (NM.out.own.alloc _) (by unfold maxLen; omega) _ _ (.string g.name.data.toList) rfl rfl HK.out (.lit (.int .i64 (i : Int))) [] HV.out ?_; intro w2 hown2 hg2; have OW := hid hown2; have GR := hid hg2; clear hown2 hg2))
      refine ⟨⟨i + 1, hlt, by go_num, _, OW.out, ?_, OW.out.tidy (string_keyed Tryd.underlying9), fun s hs => ?_, ?_⟩, by simp [intOf]; omega⟩
      · rw [size_put NM.out.tidy, HH.out, NM.out.size]
        rfl
      · by_cases e : (Lit.string s) = .string g.name.data.toList
        · exact ⟨i, g, by omega, HG.out, by simpa using e⟩
        · rw [has_put_other e] at hs
          obtain ⟨j, g2, hj, hg2, e2⟩ := NM.out.only s hs
          exact ⟨j, g2, by omega, hg2, e2⟩
      · exact (NM.out.below.alloc NM.out.below.size _).grown GR.out (by have := NM.out.below.size; simp; omega) (fun j hj => by cases hj; exact Nat.le_refl _)
    · have hin : i = c.gates.length := by omega
      have hlen := fun ty => hN.own.len Tryd.underlying110 ty
      rw [hN.size, hin] at hlen
      clear hN hwr hrow
      go_wp2_with (first | (go_at_call 78; refine Calls.mono (NC.out _) ?_; rintro e w2 ⟨rfl, rfl⟩))

      go_ret
      exact ⟨rfl, BW.out⟩
end Go.Proofs.YtfmmmhcpdinhgaaDoor
/-
  What a line has, and what it has not, by the program's table.
-/
namespace Go.Proofs.YtfmmmhcpdinhgaaDoor
open Go.RowKit Go.Deep PureNet
set_option maxRecDepth 100000

set_option maxHeartbeats 1000000 in
theorem used_any (k : Nat) (g : Ga) (w : World) (hK : KindsAt w) (hk : g.kind = (k : Int)) (h1 : 1 ≤ k) (h4 : k ≤ 4) :
    Calls Tryd.prog 104 #[.agg #[.int .i64 g.kind, .string g.name, .int .i64 g.op, .int .i64 g.a, .int .i64 g.b, .int .i64 g.c]] w fun e w' => ∃ b, e = .returned (.slice (some ⟨b, 0, none⟩) (usesN k) 3) ∧ w.heap.size ≤ b ∧ w'.heap[b]? = some (.cells #[.int .i64 g.a, .int .i64 g.b, .int .i64 g.c] 3 (0, 0)) ∧ Below w.heap.size w w' := by
  have hu : usesN k ≤ 3 := by unfold usesN; (repeat' split) <;> omega
  obtain ⟨x, hx⟩ : ∃ x, x = w.alloc (Obj.cells #[Value.int .i64 (k : Int), .string g.name, .int .i64 g.op, .int .i64 g.a, .int .i64 g.b, .int .i64 g.c] 38) := ⟨_, rfl⟩
  have BX : Hid (Below w.heap.size w x) := by rw [hx]; exact (Below.refl _ _).alloc (Nat.le_refl _) _
  have hsz : x.heap.size = w.heap.size + 1 := by rw [hx]; simp
  have C0 : Hid (x.heap[w.heap.size]? = some (.cells #[Value.int .i64 (k : Int), .string g.name, .int .i64 g.op, .int .i64 g.a, .int .i64 g.b, .int .i64 g.c] 38 (0, 0))) := by rw [hx]; exact heap_alloc_new w _
  have KS : Hid (∀ W, Below x.heap.size x W → W.cell? ⟨w.heap.size, 0, none⟩ = some (.int .i64 (k : Int)) ∧ W.cell? ⟨w.heap.size, 3, none⟩ = some (.int .i64 g.a) ∧ W.cell? ⟨w.heap.size, 4, none⟩ = some (.int .i64 g.b) ∧ W.cell? ⟨w.heap.size, 5, none⟩ = some (.int .i64 g.c) ∧ W.cell? ⟨0, k * 3 + 2, none⟩ = some (.int .i64 (usesN k : Int))) := fun W hW => by
    have h2 := (hW.block _ (Array.getElem?_eq_some_iff.1 C0.out).1).trans C0.out
    exact ⟨cell_row h2 0, cell_row h2 3, cell_row h2 4, cell_row h2 5, ((hK.on BX.out).on hW).uses k h1 h4⟩
  have HX := hid hx
  rw [hk]
  clear hx hK hk
  go_enter Tryd.func104, Tryd.ntmps104
  go_wp2_with (rw [← HX.out])
  refine wp_region_noPanic ?_
  refine wp_region_held_drew (S := fun W => W.cell? ⟨w.heap.size, 0, none⟩ = some (.int .i64 (k : Int)) ∧ W.cell? ⟨w.heap.size, 3, none⟩ = some (.int .i64 g.a) ∧ W.cell? ⟨w.heap.size, 4, none⟩ = some (.int .i64 g.b) ∧ W.cell? ⟨w.heap.size, 5, none⟩ = some (.int .i64 g.c) ∧ W.cell? ⟨0, k * 3 + 2, none⟩ = some (.int .i64 (usesN k : Int))) (by kernel_rfl) (KS.out _ (by first | exact (Below.refl _ _).drew | exact ((Below.refl _ _).alloc (Nat.le_refl _) _).drew)) (fun hHeld => ?_)
  refine wpAnyH_take (i := 0) (v := ?_) (by simp only [List.getElem?_toArray, List.getElem?_cons_zero]; rfl) (by kernel_rfl) (by kernel_rfl) (by kernel_rfl) (fun _ _ _ h => h) (Or.inl ⟨by rfl, ?_⟩) (by assumption) ?_
  rotate_left 1
  · intro w hSw; (try dsimp only at hSw); go_simp; (try with_reducible rfl)
  try simp only [Act.put, List.setIfInBounds_toArray, List.set_cons_zero, List.set_cons_succ]
  refine wpAnyH_take (i := 1) (v := ?_) (by simp only [List.getElem?_toArray, List.getElem?_cons_succ, List.getElem?_cons_zero]; rfl) (by kernel_rfl) (by kernel_rfl) (by kernel_rfl) (fun _ _ _ h => h) (Or.inl ⟨by rfl, ?_⟩) (by assumption) ?_
  rotate_left 1
  · intro w hSw; (try dsimp only at hSw); go_simp; (try with_reducible rfl)
  try simp only [Act.put, List.setIfInBounds_toArray, List.set_cons_zero, List.set_cons_succ]
  refine wpAnyH_take (i := 2) (v := ?_) (by simp only [List.getElem?_toArray, List.getElem?_cons_succ, List.getElem?_cons_zero]; rfl) (by kernel_rfl) (by kernel_rfl) (by kernel_rfl) (fun _ _ _ h => h) (Or.inl ⟨by rfl, ?_⟩) (by assumption) ?_
  rotate_left 1
  · intro w hSw; (try dsimp only at hSw); go_simp; (try with_reducible rfl)
  try simp only [Act.put, List.setIfInBounds_toArray, List.set_cons_zero, List.set_cons_succ]
  refine wpAnyH_take (i := 3) (v := ?_) (by simp only [List.getElem?_toArray, List.getElem?_cons_succ, List.getElem?_cons_zero]; rfl) (by kernel_rfl) (by kernel_rfl) (by kernel_rfl) (fun _ _ _ h => h) (Or.inl ⟨by rfl, ?_⟩) (by assumption) ?_
  rotate_left 1
  · intro w hSw; (try dsimp only at hSw); go_simp; (try with_reducible rfl)
  try simp only [Act.put, List.setIfInBounds_toArray, List.set_cons_zero, List.set_cons_succ]
  refine wpAnyH_take (i := 4) (v := ?_) (by simp only [List.getElem?_toArray, List.getElem?_cons_succ, List.getElem?_cons_zero]; rfl) (by kernel_rfl) (by kernel_rfl) (by kernel_rfl) (fun _ _ _ h => h) (Or.inl ⟨by rfl, ?_⟩) (by assumption) ?_
  rotate_left 1
  · intro w hSw; (try dsimp only at hSw); go_simp; (try with_reducible rfl)
  try simp only [Act.put, List.setIfInBounds_toArray, List.set_cons_zero, List.set_cons_succ]
  refine wpAnyH_take (i := 5) (v := ?_) (by simp only [List.getElem?_toArray, List.getElem?_cons_succ, List.getElem?_cons_zero]; rfl) (by kernel_rfl) (by kernel_rfl) (by kernel_rfl) (fun _ _ _ h => h) (Or.inl ⟨by rfl, ?_⟩) (by assumption) ?_
  rotate_left 1
  · intro w hSw; (try dsimp only at hSw); go_simp; (try with_reducible rfl)
  try simp only [Act.put, List.setIfInBounds_toArray, List.set_cons_zero, List.set_cons_succ]
  refine wpAnyH_take (i := 7) (v := ?_) (by simp only [List.getElem?_toArray, List.getElem?_cons_succ, List.getElem?_cons_zero]; rfl) (by kernel_rfl) (by kernel_rfl) (by kernel_rfl) (fun _ _ _ h => h) (Or.inl ⟨by rfl, ?_⟩) (by assumption) ?_
  rotate_left 1
  · intro w hSw; (try dsimp only at hSw); go_simp; (try with_reducible rfl)
  try simp only [Act.put, List.setIfInBounds_toArray, List.set_cons_zero, List.set_cons_succ]
  refine wpAnyH_take (i := 8) (v := ?_) (by simp only [List.getElem?_toArray, List.getElem?_cons_succ, List.getElem?_cons_zero]; rfl) (by kernel_rfl) (by kernel_rfl) (by kernel_rfl) (fun _ _ _ h => h) (Or.inl ⟨by rfl, ?_⟩) (by assumption) ?_
  rotate_left 1
  · intro w hSw; (try dsimp only at hSw); go_simp; (try with_reducible rfl)
  try simp only [Act.put, List.setIfInBounds_toArray, List.set_cons_zero, List.set_cons_succ]
  refine wpAnyH_take (i := 9) (v := .pointer (some ⟨0, k * 3, none⟩)) (by simp only [List.getElem?_toArray, List.getElem?_cons_succ, List.getElem?_cons_zero]; rfl) (by kernel_rfl) (by kernel_rfl) (by kernel_rfl) (fun _ _ _ h => h) (Or.inl ⟨by rfl, ?_⟩) (by assumption) ?_
  · intro w hSw; (try dsimp only at hSw); (try go_simp); (intro h9; omega)
  try simp only [Act.put, List.setIfInBounds_toArray, List.set_cons_zero, List.set_cons_succ]
  refine wpAnyH_take (i := 10) (v := ?_) (by simp only [List.getElem?_toArray, List.getElem?_cons_succ, List.getElem?_cons_zero]; rfl) (by kernel_rfl) (by kernel_rfl) (by kernel_rfl) (fun _ _ _ h => h) (Or.inl ⟨by rfl, ?_⟩) (by assumption) ?_
  rotate_left 1
  · intro w hSw; (try dsimp only at hSw); go_simp; (try with_reducible rfl)
  try simp only [Act.put, List.setIfInBounds_toArray, List.set_cons_zero, List.set_cons_succ]
  refine wpAnyH_take (i := 11) (v := ?_) (by simp only [List.getElem?_toArray, List.getElem?_cons_succ, List.getElem?_cons_zero]; rfl) (by kernel_rfl) (by kernel_rfl) (by kernel_rfl) (fun _ _ _ h => h) (Or.inl ⟨by rfl, ?_⟩) (by assumption) ?_
  rotate_left 1
  · intro w hSw; (try dsimp only at hSw); go_simp; (try with_reducible rfl)
  try simp only [Act.put, List.setIfInBounds_toArray, List.set_cons_zero, List.set_cons_succ]
  refine wpAnyH_ready (rs := [6]) (by kernel_rfl) (by simp) ?_
  refine AllReadyH.cons (by simp only [List.getElem?_toArray, List.getElem?_cons_succ, List.getElem?_cons_zero]; rfl) (fun K hK => ?_) AllReadyH.nil
  go_simp
  clear hHeld
  refine hK.out _ _ (KS.out _ (by first | exact (Below.refl _ _).drew | exact ((Below.refl _ _).alloc (Nat.le_refl _) _).drew)) (fun hHeld => ?_)
  clear hK K
  try simp only [Act.put, List.setIfInBounds_toArray, List.set_cons_zero, List.set_cons_succ]
  refine wpAnyH_take (i := 12) (v := .slice (some ⟨x.heap.size, 0, none⟩) (usesN k) 3) (by simp only [List.getElem?_toArray, List.getElem?_cons_succ, List.getElem?_cons_zero]; rfl) (by kernel_rfl) (by kernel_rfl) (by kernel_rfl) (fun _ _ _ h => h) (Or.inl ⟨by rfl, ?_⟩) (by assumption) ?_
  · intro w hSw; (try dsimp only at hSw); (try go_simp); (first | done | (with_reducible rfl) | omega | (rw [if_pos (by omega), HSV.out, hsz]) | (rw [if_pos (by omega)]))
  try simp only [Act.put, List.setIfInBounds_toArray, List.set_cons_zero, List.set_cons_succ]
  refine wpAnyH_take (i := 13) (v := ?_) (by simp only [List.getElem?_toArray, List.getElem?_cons_succ, List.getElem?_cons_zero]; rfl) (by kernel_rfl) (by kernel_rfl) (by kernel_rfl) (fun _ _ _ h => h) (Or.inl ⟨by rfl, ?_⟩) (by assumption) ?_
  rotate_left 1
  · intro w hSw; (try dsimp only at hSw); go_simp; (try with_reducible rfl)
  try simp only [Act.put, List.setIfInBounds_toArray, List.set_cons_zero, List.set_cons_succ]
  refine wpAnyH_done (by kernel_rfl) ?_ _
  refine NoPanic.normal ?_
  go_wp2
  refine bodyPost_ret (v := .slice (some ⟨x.heap.size, 0, none⟩) (usesN k) 3) (by simp [results, Tryd.results104, go_sem]) rfl ⟨x.heap.size, rfl, by omega, heap_alloc_new _ _, BX.out.trans (((Below.refl x.heap.size x).alloc (Nat.le_refl _) _).drew.mono (by omega))⟩
set_option maxHeartbeats 1000000 in
theorem unused_any (k : Nat) (g : Ga) (w : World) (hK : KindsAt w) (hk : g.kind = (k : Int)) (h1 : 1 ≤ k) (h4 : k ≤ 4) :
    Calls Tryd.prog 107 #[.agg #[.int .i64 g.kind, .string g.name, .int .i64 g.op, .int .i64 g.a, .int .i64 g.b, .int .i64 g.c]] w fun e w' => ∃ b sv, e = .returned (.slice sv (3 - usesN k) (3 - usesN k)) ∧ (usesN k < 3 → sv = some ⟨b, usesN k, none⟩) ∧ w.heap.size ≤ b ∧ w'.heap[b]? = some (.cells #[.int .i64 g.a, .int .i64 g.b, .int .i64 g.c] 3 (0, 0)) ∧ Below w.heap.size w w' := by
  have hu : usesN k ≤ 3 := by unfold usesN; (repeat' split) <;> omega
  obtain ⟨x, hx⟩ : ∃ x, x = w.alloc (Obj.cells #[Value.int .i64 (k : Int), .string g.name, .int .i64 g.op, .int .i64 g.a, .int .i64 g.b, .int .i64 g.c] 38) := ⟨_, rfl⟩
  have BX : Hid (Below w.heap.size w x) := by rw [hx]; exact (Below.refl _ _).alloc (Nat.le_refl _) _
  have hsz : x.heap.size = w.heap.size + 1 := by rw [hx]; simp
  have C0 : Hid (x.heap[w.heap.size]? = some (.cells #[Value.int .i64 (k : Int), .string g.name, .int .i64 g.op, .int .i64 g.a, .int .i64 g.b, .int .i64 g.c] 38 (0, 0))) := by rw [hx]; exact heap_alloc_new w _
  have KS : Hid (∀ W, Below x.heap.size x W → W.cell? ⟨w.heap.size, 0, none⟩ = some (.int .i64 (k : Int)) ∧ W.cell? ⟨w.heap.size, 3, none⟩ = some (.int .i64 g.a) ∧ W.cell? ⟨w.heap.size, 4, none⟩ = some (.int .i64 g.b) ∧ W.cell? ⟨w.heap.size, 5, none⟩ = some (.int .i64 g.c) ∧ W.cell? ⟨0, k * 3 + 2, none⟩ = some (.int .i64 (usesN k : Int))) := fun W hW => by
    have h2 := (hW.block _ (Array.getElem?_eq_some_iff.1 C0.out).1).trans C0.out
    exact ⟨cell_row h2 0, cell_row h2 3, cell_row h2 4, cell_row h2 5, ((hK.on BX.out).on hW).uses k h1 h4⟩
  have HX := hid hx
  obtain ⟨sv, hsv⟩ : ∃ sv : Option Addr, sv = (if 3 = usesN k then some ⟨x.heap.size, 0, none⟩ else some ⟨x.heap.size, usesN k, none⟩) := ⟨_, rfl⟩
  have HSV := hid hsv
  clear hsv
  rw [hk]
  clear hx hK hk
  go_enter Tryd.func107, Tryd.ntmps107
  go_wp2_with (rw [← HX.out])
  refine wp_region_noPanic ?_
  refine wp_region_held_drew (S := fun W => W.cell? ⟨w.heap.size, 0, none⟩ = some (.int .i64 (k : Int)) ∧ W.cell? ⟨w.heap.size, 3, none⟩ = some (.int .i64 g.a) ∧ W.cell? ⟨w.heap.size, 4, none⟩ = some (.int .i64 g.b) ∧ W.cell? ⟨w.heap.size, 5, none⟩ = some (.int .i64 g.c) ∧ W.cell? ⟨0, k * 3 + 2, none⟩ = some (.int .i64 (usesN k : Int))) (by kernel_rfl) (KS.out _ (by first | exact (Below.refl _ _).drew | exact ((Below.refl _ _).alloc (Nat.le_refl _) _).drew)) (fun hHeld => ?_)
  refine wpAnyH_take (i := 0) (v := ?_) (by simp only [List.getElem?_toArray, List.getElem?_cons_zero]; rfl) (by kernel_rfl) (by kernel_rfl) (by kernel_rfl) (fun _ _ _ h => h) (Or.inl ⟨by rfl, ?_⟩) (by assumption) ?_
  rotate_left 1
  · intro w hSw; (try dsimp only at hSw); go_simp; (try with_reducible rfl)
  try simp only [Act.put, List.setIfInBounds_toArray, List.set_cons_zero, List.set_cons_succ]
  refine wpAnyH_take (i := 1) (v := ?_) (by simp only [List.getElem?_toArray, List.getElem?_cons_succ, List.getElem?_cons_zero]; rfl) (by kernel_rfl) (by kernel_rfl) (by kernel_rfl) (fun _ _ _ h => h) (Or.inl ⟨by rfl, ?_⟩) (by assumption) ?_
  rotate_left 1
  · intro w hSw; (try dsimp only at hSw); go_simp; (try with_reducible rfl)
  try simp only [Act.put, List.setIfInBounds_toArray, List.set_cons_zero, List.set_cons_succ]
  refine wpAnyH_take (i := 2) (v := ?_) (by simp only [List.getElem?_toArray, List.getElem?_cons_succ, List.getElem?_cons_zero]; rfl) (by kernel_rfl) (by kernel_rfl) (by kernel_rfl) (fun _ _ _ h => h) (Or.inl ⟨by rfl, ?_⟩) (by assumption) ?_
  rotate_left 1
  · intro w hSw; (try dsimp only at hSw); go_simp; (try with_reducible rfl)
  try simp only [Act.put, List.setIfInBounds_toArray, List.set_cons_zero, List.set_cons_succ]
  refine wpAnyH_take (i := 3) (v := ?_) (by simp only [List.getElem?_toArray, List.getElem?_cons_succ, List.getElem?_cons_zero]; rfl) (by kernel_rfl) (by kernel_rfl) (by kernel_rfl) (fun _ _ _ h => h) (Or.inl ⟨by rfl, ?_⟩) (by assumption) ?_
  rotate_left 1
  · intro w hSw; (try dsimp only at hSw); go_simp; (try with_reducible rfl)
  try simp only [Act.put, List.setIfInBounds_toArray, List.set_cons_zero, List.set_cons_succ]
  refine wpAnyH_take (i := 4) (v := ?_) (by simp only [List.getElem?_toArray, List.getElem?_cons_succ, List.getElem?_cons_zero]; rfl) (by kernel_rfl) (by kernel_rfl) (by kernel_rfl) (fun _ _ _ h => h) (Or.inl ⟨by rfl, ?_⟩) (by assumption) ?_
  rotate_left 1
  · intro w hSw; (try dsimp only at hSw); go_simp; (try with_reducible rfl)
  try simp only [Act.put, List.setIfInBounds_toArray, List.set_cons_zero, List.set_cons_succ]
  refine wpAnyH_take (i := 5) (v := ?_) (by simp only [List.getElem?_toArray, List.getElem?_cons_succ, List.getElem?_cons_zero]; rfl) (by kernel_rfl) (by kernel_rfl) (by kernel_rfl) (fun _ _ _ h => h) (Or.inl ⟨by rfl, ?_⟩) (by assumption) ?_
  rotate_left 1
  · intro w hSw; (try dsimp only at hSw); go_simp; (try with_reducible rfl)
  try simp only [Act.put, List.setIfInBounds_toArray, List.set_cons_zero, List.set_cons_succ]
  refine wpAnyH_take (i := 7) (v := ?_) (by simp only [List.getElem?_toArray, List.getElem?_cons_succ, List.getElem?_cons_zero]; rfl) (by kernel_rfl) (by kernel_rfl) (by kernel_rfl) (fun _ _ _ h => h) (Or.inl ⟨by rfl, ?_⟩) (by assumption) ?_
  rotate_left 1
  · intro w hSw; (try dsimp only at hSw); go_simp; (try with_reducible rfl)
  try simp only [Act.put, List.setIfInBounds_toArray, List.set_cons_zero, List.set_cons_succ]
  refine wpAnyH_take (i := 8) (v := ?_) (by simp only [List.getElem?_toArray, List.getElem?_cons_succ, List.getElem?_cons_zero]; rfl) (by kernel_rfl) (by kernel_rfl) (by kernel_rfl) (fun _ _ _ h => h) (Or.inl ⟨by rfl, ?_⟩) (by assumption) ?_
  rotate_left 1
  · intro w hSw; (try dsimp only at hSw); go_simp; (try with_reducible rfl)
  try simp only [Act.put, List.setIfInBounds_toArray, List.set_cons_zero, List.set_cons_succ]
  refine wpAnyH_take (i := 9) (v := .pointer (some ⟨0, k * 3, none⟩)) (by simp only [List.getElem?_toArray, List.getElem?_cons_succ, List.getElem?_cons_zero]; rfl) (by kernel_rfl) (by kernel_rfl) (by kernel_rfl) (fun _ _ _ h => h) (Or.inl ⟨by rfl, ?_⟩) (by assumption) ?_
  · intro w hSw; (try dsimp only at hSw); (try go_simp); (intro h9; omega)
  try simp only [Act.put, List.setIfInBounds_toArray, List.set_cons_zero, List.set_cons_succ]
  refine wpAnyH_take (i := 10) (v := ?_) (by simp only [List.getElem?_toArray, List.getElem?_cons_succ, List.getElem?_cons_zero]; rfl) (by kernel_rfl) (by kernel_rfl) (by kernel_rfl) (fun _ _ _ h => h) (Or.inl ⟨by rfl, ?_⟩) (by assumption) ?_
  rotate_left 1
  · intro w hSw; (try dsimp only at hSw); go_simp; (try with_reducible rfl)
  try simp only [Act.put, List.setIfInBounds_toArray, List.set_cons_zero, List.set_cons_succ]
  refine wpAnyH_take (i := 11) (v := ?_) (by simp only [List.getElem?_toArray, List.getElem?_cons_succ, List.getElem?_cons_zero]; rfl) (by kernel_rfl) (by kernel_rfl) (by kernel_rfl) (fun _ _ _ h => h) (Or.inl ⟨by rfl, ?_⟩) (by assumption) ?_
  rotate_left 1
  · intro w hSw; (try dsimp only at hSw); go_simp; (try with_reducible rfl)
  try simp only [Act.put, List.setIfInBounds_toArray, List.set_cons_zero, List.set_cons_succ]
  refine wpAnyH_ready (rs := [6]) (by kernel_rfl) (by simp) ?_
  refine AllReadyH.cons (by simp only [List.getElem?_toArray, List.getElem?_cons_succ, List.getElem?_cons_zero]; rfl) (fun K hK => ?_) AllReadyH.nil
  go_simp
  clear hHeld
  refine hK.out _ _ (KS.out _ (by first | exact (Below.refl _ _).drew | exact ((Below.refl _ _).alloc (Nat.le_refl _) _).drew)) (fun hHeld => ?_)
  clear hK K
  try simp only [Act.put, List.setIfInBounds_toArray, List.set_cons_zero, List.set_cons_succ]
  refine wpAnyH_take (i := 12) (v := .slice sv (3 - usesN k) (3 - usesN k)) (by simp only [List.getElem?_toArray, List.getElem?_cons_succ, List.getElem?_cons_zero]; rfl) (by kernel_rfl) (by kernel_rfl) (by kernel_rfl) (fun _ _ _ h => h) (Or.inl ⟨by rfl, ?_⟩) (by assumption) ?_
  · intro w hSw; (try dsimp only at hSw); (try go_simp); (first | done | (with_reducible rfl) | omega | (rw [if_pos (by omega), HSV.out, hsz]) | (rw [if_pos (by omega)]))
  try simp only [Act.put, List.setIfInBounds_toArray, List.set_cons_zero, List.set_cons_succ]
  refine wpAnyH_take (i := 13) (v := ?_) (by simp only [List.getElem?_toArray, List.getElem?_cons_succ, List.getElem?_cons_zero]; rfl) (by kernel_rfl) (by kernel_rfl) (by kernel_rfl) (fun _ _ _ h => h) (Or.inl ⟨by rfl, ?_⟩) (by assumption) ?_
  rotate_left 1
  · intro w hSw; (try dsimp only at hSw); go_simp; (try with_reducible rfl)
  try simp only [Act.put, List.setIfInBounds_toArray, List.set_cons_zero, List.set_cons_succ]
  refine wpAnyH_done (by kernel_rfl) ?_ _
  refine NoPanic.normal ?_
  go_wp2
  refine bodyPost_ret (v := .slice sv (3 - usesN k) (3 - usesN k)) (by simp [results, Tryd.results107, go_sem]) rfl ⟨x.heap.size, sv, rfl, (fun h3 => by rw [HSV.out, if_neg (by omega)]), by omega, heap_alloc_new _ _, BX.out.trans (((Below.refl x.heap.size x).alloc (Nat.le_refl _) _).drew.mono (by omega))⟩
end Go.Proofs.YtfmmmhcpdinhgaaDoor
/-
  The program's areBelow, fits, placed.
-/
namespace Go.Proofs.YtfmmmhcpdinhgaaDoor
open Go.RowKit Go.Deep PureNet
set_option maxRecDepth 100000

set_option maxHeartbeats 1000000 in
theorem areBelow_ok (m : Int) (L : List Int) (s : Option Addr) (c : Nat) (w : World) (hc : CellsAt w s (nu L)) (hl : L.length ≤ 1099511627776) (hb : ∀ x ∈ L, 0 ≤ x ∧ x < m) :
    Calls Tryd.prog 80 #[.int .i64 m, .slice s L.length c] w fun e w' => e = .returned (.bool true) ∧ w' = w := by
  have HC := hid hc
  have HB := hid hb
  clear hc hb
  go_enter Tryd.func80, Tryd.ntmps80
  go_wp2
  go_loopw [9] (fun iv W => ∃ i : Nat, i ≤ L.length ∧ iv = .int .i64 (i : Int) ∧ W = w) (fun iv _ => L.length - (intOf iv).toNat)
  case atStart => exact ⟨0, Nat.zero_le _, rfl, rfl⟩
  case round =>
    obtain ⟨i, hi, rfl, rfl⟩ := hrel
    by_cases hlt : i < L.length
    · obtain ⟨y, hy⟩ : ∃ y, L[i]? = some y := ⟨_, List.getElem?_eq_getElem hlt⟩
      obtain ⟨b, o, rfl, hbs, hcell⟩ := num_at HC.out i y hy
      have h2 := HB.out y (List.mem_of_getElem? hy)
      have h3 : ¬ y < 0 := by omega
      have h4 : ¬ m ≤ y := by omega
      clear hy h2
      go_wp2
      exact ⟨⟨i + 1, hlt, by go_num, by first | rfl | trivial⟩, by simp [intOf]; omega⟩
    · go_wp2
      go_ret
      exact ⟨rfl, rfl⟩

theorem line_parts {g : Ga} {n k : Nat} (h : lineB g n = true) (hk : g.kind = (k : Int)) (h1 : 1 ≤ k) (h4 : k ≤ 4) : (0 ≤ g.op ∧ g.op ≤ mostN k) ∧ (∀ x ∈ [g.a, g.b, g.c].take (usesN k), 0 ≤ x ∧ x < (n : Int)) ∧ ∀ x ∈ [g.a, g.b, g.c].drop (usesN k), 0 ≤ x ∧ x < 1 := by
  unfold lineB at h
  simp only [Bool.and_eq_true, decide_eq_true_eq] at h
  obtain ⟨⟨⟨⟨_, _, h2, h3⟩, ha⟩, hb⟩, hc⟩ := h
  rw [hk] at h3 ha hb hc
  have hcases : k = 1 ∨ k = 2 ∨ k = 3 ∨ k = 4 := by omega
  rcases hcases with rfl | rfl | rfl | rfl
  · simp [fieldB, mostOp] at h3 ha hb hc
    simp [usesN, mostN]
    omega
  · simp [fieldB, mostOp] at h3 ha hb hc
    simp [usesN, mostN]
    omega
  · simp [fieldB, mostOp] at h3 ha hb hc
    simp [usesN, mostN]
    omega
  · simp [fieldB, mostOp] at h3 ha hb hc
    simp [usesN, mostN]
    omega

set_option maxHeartbeats 2000000 in
theorem fits_ok (k : Nat) (g : Ga) (n : Nat) (w : World) (hK : KindsAt w) (hk : g.kind = (k : Int)) (h1 : 1 ≤ k) (h4 : k ≤ 4) (hl : lineB g n = true) :
    Calls Tryd.prog 79 #[.agg #[.int .i64 g.kind, .string g.name, .int .i64 g.op, .int .i64 g.a, .int .i64 g.b, .int .i64 g.c], .int .i64 (n : Int)] w fun e w' => e = .returned (.bool true) ∧ Below w.heap.size w w' := by
  obtain ⟨⟨ho0, ho1⟩, hu, hn⟩ := line_parts hl hk h1 h4
  have hu3 : usesN k ≤ 3 := by unfold usesN; (repeat' split) <;> omega
  have rowAt : ∀ (W : World) (b : Nat), W.heap[b]? = some (.cells #[.int .i64 g.a, .int .i64 g.b, .int .i64 g.c] 3 (0, 0)) → ∀ j x, ([g.a, g.b, g.c] : List Int)[j]? = some x → W.cell? ⟨b, j, none⟩ = some (.int .i64 x) ∧ b < W.heap.size := fun W b hr j x hx => by
    refine ⟨?_, (Array.getElem?_eq_some_iff.1 hr).1⟩
    rw [cell_row hr]
    match j, hx with
    | 0, hx => simp at hx; simp [hx]
    | 1, hx => simp at hx; simp [hx]
    | 2, hx => simp at hx; simp [hx]
    | j + 3, hx => simp at hx
  have AU : Hid (∀ (W : World) (b : Nat), W.heap[b]? = some (.cells #[.int .i64 g.a, .int .i64 g.b, .int .i64 g.c] 3 (0, 0)) → Calls Tryd.prog 80 #[.int .i64 (n : Int), .slice (some ⟨b, 0, none⟩) (usesN k) 3] W fun e w' => e = .returned (.bool true) ∧ w' = W) := fun W b hr => by
    have := areBelow_ok n ([g.a, g.b, g.c].take (usesN k)) (some ⟨b, 0, none⟩) 3 W ⟨fun j x hx => ⟨b, 0, rfl, (Array.getElem?_eq_some_iff.1 hr).1, by
      simp only [nu, List.getElem?_map, Option.map_eq_some_iff] at hx
      obtain ⟨y, hy, rfl⟩ := hx
      rw [List.getElem?_take] at hy
      split at hy
      · rw [Nat.zero_add]; exact (rowAt W b hr j y hy).1
      · cases hy⟩⟩ (by simp; omega) hu
    rw [List.length_take, show min (usesN k) [g.a, g.b, g.c].length = usesN k by simp; omega] at this
    exact this
  have AN : Hid (∀ (W : World) (b : Nat) (sv : Option Addr), (usesN k < 3 → sv = some ⟨b, usesN k, none⟩) → W.heap[b]? = some (.cells #[.int .i64 g.a, .int .i64 g.b, .int .i64 g.c] 3 (0, 0)) → Calls Tryd.prog 80 #[.int .i64 1, .slice sv (3 - usesN k) (3 - usesN k)] W fun e w' => e = .returned (.bool true) ∧ w' = W) := fun W b sv hsv hr => by
    have := areBelow_ok 1 ([g.a, g.b, g.c].drop (usesN k)) sv (3 - usesN k) W ⟨fun j x hx => by
      simp only [nu, List.getElem?_map, Option.map_eq_some_iff] at hx
      obtain ⟨y, hy, rfl⟩ := hx
      rw [List.getElem?_drop] at hy
      have hlt := (List.getElem?_eq_some_iff.1 hy).1
      simp at hlt
      obtain ⟨h1, h2⟩ := rowAt W b hr _ y hy
      exact ⟨b, usesN k, hsv (by omega), h2, h1⟩⟩ (by simp; omega) hn
    rw [List.length_drop, show [g.a, g.b, g.c].length - usesN k = 3 - usesN k by simp] at this
    exact this
  obtain ⟨x, hx⟩ : ∃ x, x = w.alloc (Obj.cells #[Value.int .i64 (k : Int), .string g.name, .int .i64 g.op, .int .i64 g.a, .int .i64 g.b, .int .i64 g.c] 38) := ⟨_, rfl⟩
  have BX : Hid (Below w.heap.size w x) := by rw [hx]; exact (Below.refl _ _).alloc (Nat.le_refl _) _
  have C0 : Hid (x.heap[w.heap.size]? = some (.cells #[Value.int .i64 (k : Int), .string g.name, .int .i64 g.op, .int .i64 g.a, .int .i64 g.b, .int .i64 g.c] 38 (0, 0))) := by rw [hx]; exact heap_alloc_new w _
  have KS : Hid (∀ W, Below x.heap.size x W → W.cell? ⟨w.heap.size, 0, none⟩ = some (.int .i64 (k : Int)) ∧ W.cell? ⟨w.heap.size, 1, none⟩ = some (.string g.name) ∧ W.cell? ⟨w.heap.size, 2, none⟩ = some (.int .i64 g.op) ∧ W.cell? ⟨w.heap.size, 3, none⟩ = some (.int .i64 g.a) ∧ W.cell? ⟨w.heap.size, 4, none⟩ = some (.int .i64 g.b) ∧ W.cell? ⟨w.heap.size, 5, none⟩ = some (.int .i64 g.c) ∧ W.cell? ⟨0, k * 3 + 1, none⟩ = some (.int .i64 (mostN k))) := fun W hW => by
    have h2 := (hW.block _ (Array.getElem?_eq_some_iff.1 C0.out).1).trans C0.out
    exact ⟨cell_row h2 0, cell_row h2 1, cell_row h2 2, cell_row h2 3, cell_row h2 4, cell_row h2 5, ((hK.on BX.out).on hW).op k h1 h4⟩
  have US : Hid (∀ W, Below x.heap.size x W → _) := fun W hW => used_any k g W ((hK.on BX.out).on hW) hk h1 h4
  have UN : Hid (∀ W, Below x.heap.size x W → _) := fun W hW => unused_any k g W ((hK.on BX.out).on hW) hk h1 h4
  have c0 := fun j => cell_row C0.out j
  have hb0 := (Array.getElem?_eq_some_iff.1 C0.out).1
  have HX := hid hx
  have h5 : ¬ (k : Int) < 1 := by omega
  have h6 : ¬ (4 : Int) < (k : Int) := by omega
  rw [hk] at US UN
  rw [hk]
  clear hx hK hk hl hu hn rowAt
  go_enter Tryd.func79, Tryd.ntmps79
  go_wp2_with (rw [← HX.out])
  refine wp_region_noPanic ?_
  refine wp_region_held_drew (S := fun W => W.cell? ⟨w.heap.size, 0, none⟩ = some (.int .i64 (k : Int)) ∧ W.cell? ⟨w.heap.size, 1, none⟩ = some (.string g.name) ∧ W.cell? ⟨w.heap.size, 2, none⟩ = some (.int .i64 g.op) ∧ W.cell? ⟨w.heap.size, 3, none⟩ = some (.int .i64 g.a) ∧ W.cell? ⟨w.heap.size, 4, none⟩ = some (.int .i64 g.b) ∧ W.cell? ⟨w.heap.size, 5, none⟩ = some (.int .i64 g.c) ∧ W.cell? ⟨0, k * 3 + 1, none⟩ = some (.int .i64 (mostN k))) (by kernel_rfl) (KS.out _ (Below.refl _ _).drew) (fun hHeld => ?_)
  refine wpAnyH_take (i := 0) (v := ?_) (by simp only [List.getElem?_toArray, List.getElem?_cons_zero]; rfl) (by kernel_rfl) (by kernel_rfl) (by kernel_rfl) (fun _ _ _ h => h) (Or.inl ⟨by rfl, ?_⟩) (by assumption) ?_
  rotate_left 1
  · intro w hSw; (try dsimp only at hSw); go_simp; (try with_reducible rfl)
  try simp only [Act.put, List.setIfInBounds_toArray, List.set_cons_zero, List.set_cons_succ]
  refine wpAnyH_take (i := 1) (v := ?_) (by simp only [List.getElem?_toArray, List.getElem?_cons_succ, List.getElem?_cons_zero]; rfl) (by kernel_rfl) (by kernel_rfl) (by kernel_rfl) (fun _ _ _ h => h) (Or.inl ⟨by rfl, ?_⟩) (by assumption) ?_
  rotate_left 1
  · intro w hSw; (try dsimp only at hSw); go_simp; (try with_reducible rfl)
  try simp only [Act.put, List.setIfInBounds_toArray, List.set_cons_zero, List.set_cons_succ]
  refine wpAnyH_take (i := 2) (v := .bool true) (by simp only [List.getElem?_toArray, List.getElem?_cons_succ, List.getElem?_cons_zero]; rfl) (by kernel_rfl) (by kernel_rfl) (by kernel_rfl) (fun _ _ _ h => h) (Or.inl ⟨by rfl, ?_⟩) (by assumption) ?_
  · intro w hSw; (try dsimp only at hSw); (try go_simp); ((try simp); (try omega))
  try simp only [Act.put, List.setIfInBounds_toArray, List.set_cons_zero, List.set_cons_succ]
  refine wpAnyH_take (i := 3) (v := ?_) (by simp only [List.getElem?_toArray, List.getElem?_cons_succ, List.getElem?_cons_zero]; rfl) (by kernel_rfl) (by kernel_rfl) (by kernel_rfl) (fun _ _ _ h => h) (Or.inl ⟨by rfl, ?_⟩) (by assumption) ?_
  rotate_left 1
  · intro w hSw; (try dsimp only at hSw); go_simp; (try with_reducible rfl)
  try simp only [Act.put, List.setIfInBounds_toArray, List.set_cons_zero, List.set_cons_succ]
  refine wpAnyH_take (i := 4) (v := ?_) (by simp only [List.getElem?_toArray, List.getElem?_cons_succ, List.getElem?_cons_zero]; rfl) (by kernel_rfl) (by kernel_rfl) (by kernel_rfl) (fun _ _ _ h => h) (Or.inl ⟨by rfl, ?_⟩) (by assumption) ?_
  rotate_left 1
  · intro w hSw; (try dsimp only at hSw); go_simp; (try with_reducible rfl)
  try simp only [Act.put, List.setIfInBounds_toArray, List.set_cons_zero, List.set_cons_succ]
  refine wpAnyH_take (i := 5) (v := ?_) (by simp only [List.getElem?_toArray, List.getElem?_cons_succ, List.getElem?_cons_zero]; rfl) (by kernel_rfl) (by kernel_rfl) (by kernel_rfl) (fun _ _ _ h => h) (Or.inl ⟨by rfl, ?_⟩) (by assumption) ?_
  rotate_left 1
  · intro w hSw; (try dsimp only at hSw); go_simp; (try with_reducible rfl)
  try simp only [Act.put, List.setIfInBounds_toArray, List.set_cons_zero, List.set_cons_succ]
  refine wpAnyH_take (i := 6) (v := ?_) (by simp only [List.getElem?_toArray, List.getElem?_cons_succ, List.getElem?_cons_zero]; rfl) (by kernel_rfl) (by kernel_rfl) (by kernel_rfl) (fun _ _ _ h => h) (Or.inl ⟨by rfl, ?_⟩) (by assumption) ?_
  rotate_left 1
  · intro w hSw; (try dsimp only at hSw); go_simp; (try with_reducible rfl)
  try simp only [Act.put, List.setIfInBounds_toArray, List.set_cons_zero, List.set_cons_succ]
  refine wpAnyH_take (i := 7) (v := ?_) (by simp only [List.getElem?_toArray, List.getElem?_cons_succ, List.getElem?_cons_zero]; rfl) (by kernel_rfl) (by kernel_rfl) (by kernel_rfl) (fun _ _ _ h => h) (Or.inl ⟨by rfl, ?_⟩) (by assumption) ?_
  rotate_left 1
  · intro w hSw; (try dsimp only at hSw); go_simp; (try with_reducible rfl)
  try simp only [Act.put, List.setIfInBounds_toArray, List.set_cons_zero, List.set_cons_succ]
  refine wpAnyH_take (i := 8) (v := .pointer (some ⟨0, k * 3, none⟩)) (by simp only [List.getElem?_toArray, List.getElem?_cons_succ, List.getElem?_cons_zero]; rfl) (by kernel_rfl) (by kernel_rfl) (by kernel_rfl) (fun _ _ _ h => h) (Or.inl ⟨by rfl, ?_⟩) (by assumption) ?_
  · intro w hSw; (try dsimp only at hSw); (try go_simp); (intro h9; omega)
  try simp only [Act.put, List.setIfInBounds_toArray, List.set_cons_zero, List.set_cons_succ]
  refine wpAnyH_take (i := 9) (v := ?_) (by simp only [List.getElem?_toArray, List.getElem?_cons_succ, List.getElem?_cons_zero]; rfl) (by kernel_rfl) (by kernel_rfl) (by kernel_rfl) (fun _ _ _ h => h) (Or.inl ⟨by rfl, ?_⟩) (by assumption) ?_
  rotate_left 1
  · intro w hSw; (try dsimp only at hSw); go_simp; (try with_reducible rfl)
  try simp only [Act.put, List.setIfInBounds_toArray, List.set_cons_zero, List.set_cons_succ]
  refine wpAnyH_take (i := 10) (v := ?_) (by simp only [List.getElem?_toArray, List.getElem?_cons_succ, List.getElem?_cons_zero]; rfl) (by kernel_rfl) (by kernel_rfl) (by kernel_rfl) (fun _ _ _ h => h) (Or.inl ⟨by rfl, ?_⟩) (by assumption) ?_
  rotate_left 1
  · intro w hSw; (try dsimp only at hSw); go_simp; (try with_reducible rfl)
  try simp only [Act.put, List.setIfInBounds_toArray, List.set_cons_zero, List.set_cons_succ]
  refine wpAnyH_take (i := 11) (v := .bool true) (by simp only [List.getElem?_toArray, List.getElem?_cons_succ, List.getElem?_cons_zero]; rfl) (by kernel_rfl) (by kernel_rfl) (by kernel_rfl) (fun _ _ _ h => h) (Or.inl ⟨by rfl, ?_⟩) (by assumption) ?_
  · intro w hSw; (try dsimp only at hSw); (try go_simp); ((try simp); (try omega))
  try simp only [Act.put, List.setIfInBounds_toArray, List.set_cons_zero, List.set_cons_succ]
  refine wpAnyH_take (i := 12) (v := ?_) (by simp only [List.getElem?_toArray, List.getElem?_cons_succ, List.getElem?_cons_zero]; rfl) (by kernel_rfl) (by kernel_rfl) (by kernel_rfl) (fun _ _ _ h => h) (Or.inl ⟨by rfl, ?_⟩) (by assumption) ?_
  rotate_left 1
  · intro w hSw; (try dsimp only at hSw); go_simp; (try with_reducible rfl)
  try simp only [Act.put, List.setIfInBounds_toArray, List.set_cons_zero, List.set_cons_succ]
  refine wpAnyH_take (i := 13) (v := ?_) (by simp only [List.getElem?_toArray, List.getElem?_cons_succ, List.getElem?_cons_zero]; rfl) (by kernel_rfl) (by kernel_rfl) (by kernel_rfl) (fun _ _ _ h => h) (Or.inl ⟨by rfl, ?_⟩) (by assumption) ?_
  rotate_left 1
  · intro w hSw; (try dsimp only at hSw); go_simp; (try with_reducible rfl)
  try simp only [Act.put, List.setIfInBounds_toArray, List.set_cons_zero, List.set_cons_succ]
  refine wpAnyH_take (i := 14) (v := ?_) (by simp only [List.getElem?_toArray, List.getElem?_cons_succ, List.getElem?_cons_zero]; rfl) (by kernel_rfl) (by kernel_rfl) (by kernel_rfl) (fun _ _ _ h => h) (Or.inl ⟨by rfl, ?_⟩) (by assumption) ?_
  rotate_left 1
  · intro w hSw; (try dsimp only at hSw); go_simp; (try with_reducible rfl)
  try simp only [Act.put, List.setIfInBounds_toArray, List.set_cons_zero, List.set_cons_succ]
  refine wpAnyH_take (i := 15) (v := ?_) (by simp only [List.getElem?_toArray, List.getElem?_cons_succ, List.getElem?_cons_zero]; rfl) (by kernel_rfl) (by kernel_rfl) (by kernel_rfl) (fun _ _ _ h => h) (Or.inl ⟨by rfl, ?_⟩) (by assumption) ?_
  rotate_left 1
  · intro w hSw; (try dsimp only at hSw); go_simp; (try with_reducible rfl)
  try simp only [Act.put, List.setIfInBounds_toArray, List.set_cons_zero, List.set_cons_succ]
  refine wpAnyH_ready (rs := [16]) (by kernel_rfl) (by simp) ?_
  refine AllReadyH.cons (by simp only [List.getElem?_toArray, List.getElem?_cons_succ, List.getElem?_cons_zero]; rfl) (fun K hK => ?_) AllReadyH.nil
  go_simp
  go_at_call 104
  refine Calls.mono (US.out _ (Below.refl _ _).drew) ?_
  rintro e w2 ⟨b, rfl, hb, hrow, b2⟩
  have B2 : Hid (Below x.heap.size x w2) := (Below.refl x.heap.size x).drew.trans b2
  have R2 := hid hrow
  clear hb hrow b2
  clear hHeld
  refine hK.out _ _ (KS.out _ B2.out) (fun hHeld => ?_)
  clear hK K
  try simp only [Act.put, List.setIfInBounds_toArray, List.set_cons_zero, List.set_cons_succ]
  refine wpAnyH_ready (rs := [17]) (by kernel_rfl) (by simp) ?_
  refine AllReadyH.cons (by simp only [List.getElem?_toArray, List.getElem?_cons_succ, List.getElem?_cons_zero]; rfl) (fun K hK => ?_) AllReadyH.nil
  go_simp
  go_at_call 80
  refine Calls.mono (AU.out _ _ R2.out) ?_
  rintro e w3 ⟨rfl, rfl⟩
  clear hHeld
  refine hK.out _ _ (KS.out _ B2.out) (fun hHeld => ?_)
  clear hK K
  try simp only [Act.put, List.setIfInBounds_toArray, List.set_cons_zero, List.set_cons_succ]
  refine wpAnyH_take (i := 18) (v := ?_) (by simp only [List.getElem?_toArray, List.getElem?_cons_succ, List.getElem?_cons_zero]; rfl) (by kernel_rfl) (by kernel_rfl) (by kernel_rfl) (fun _ _ _ h => h) (Or.inl ⟨by rfl, ?_⟩) (by assumption) ?_
  rotate_left 1
  · intro w hSw; (try dsimp only at hSw); go_simp; (try with_reducible rfl)
  try simp only [Act.put, List.setIfInBounds_toArray, List.set_cons_zero, List.set_cons_succ]
  refine wpAnyH_take (i := 19) (v := ?_) (by simp only [List.getElem?_toArray, List.getElem?_cons_succ, List.getElem?_cons_zero]; rfl) (by kernel_rfl) (by kernel_rfl) (by kernel_rfl) (fun _ _ _ h => h) (Or.inl ⟨by rfl, ?_⟩) (by assumption) ?_
  rotate_left 1
  · intro w hSw; (try dsimp only at hSw); go_simp; (try with_reducible rfl)
  try simp only [Act.put, List.setIfInBounds_toArray, List.set_cons_zero, List.set_cons_succ]
  refine wpAnyH_take (i := 20) (v := ?_) (by simp only [List.getElem?_toArray, List.getElem?_cons_succ, List.getElem?_cons_zero]; rfl) (by kernel_rfl) (by kernel_rfl) (by kernel_rfl) (fun _ _ _ h => h) (Or.inl ⟨by rfl, ?_⟩) (by assumption) ?_
  rotate_left 1
  · intro w hSw; (try dsimp only at hSw); go_simp; (try with_reducible rfl)
  try simp only [Act.put, List.setIfInBounds_toArray, List.set_cons_zero, List.set_cons_succ]
  refine wpAnyH_ready (rs := [21]) (by kernel_rfl) (by simp) ?_
  refine AllReadyH.cons (by simp only [List.getElem?_toArray, List.getElem?_cons_succ, List.getElem?_cons_zero]; rfl) (fun K hK => ?_) AllReadyH.nil
  go_simp
  go_at_call 107
  refine Calls.mono (UN.out _ B2.out) ?_
  rintro e w4 ⟨b4, sv, rfl, hsv, _, hrow4, b4b⟩
  have B4 : Hid (Below x.heap.size x w4) := B2.out.trans (b4b.mono B2.out.size)
  have R4 := hid hrow4
  have SV := hid hsv
  clear hrow4 b4b hsv
  clear hHeld
  refine hK.out _ _ (KS.out _ B4.out) (fun hHeld => ?_)
  clear hK K
  try simp only [Act.put, List.setIfInBounds_toArray, List.set_cons_zero, List.set_cons_succ]
  refine wpAnyH_ready (rs := [22]) (by kernel_rfl) (by simp) ?_
  refine AllReadyH.cons (by simp only [List.getElem?_toArray, List.getElem?_cons_succ, List.getElem?_cons_zero]; rfl) (fun K hK => ?_) AllReadyH.nil
  go_simp
  go_at_call 80
  refine Calls.mono (AN.out _ _ _ SV.out R4.out) ?_
  rintro e w5 ⟨rfl, rfl⟩
  clear hHeld
  refine hK.out _ _ (KS.out _ B4.out) (fun hHeld => ?_)
  clear hK K
  try simp only [Act.put, List.setIfInBounds_toArray, List.set_cons_zero, List.set_cons_succ]
  refine wpAnyH_take (i := 23) (v := ?_) (by simp only [List.getElem?_toArray, List.getElem?_cons_succ, List.getElem?_cons_zero]; rfl) (by kernel_rfl) (by kernel_rfl) (by kernel_rfl) (fun _ _ _ h => h) (Or.inl ⟨by rfl, ?_⟩) (by assumption) ?_
  rotate_left 1
  · intro w hSw; (try dsimp only at hSw); go_simp; (try with_reducible rfl)
  try simp only [Act.put, List.setIfInBounds_toArray, List.set_cons_zero, List.set_cons_succ]
  refine wpAnyH_take (i := 24) (v := ?_) (by simp only [List.getElem?_toArray, List.getElem?_cons_succ, List.getElem?_cons_zero]; rfl) (by kernel_rfl) (by kernel_rfl) (by kernel_rfl) (fun _ _ _ h => h) (Or.inl ⟨by rfl, ?_⟩) (by assumption) ?_
  rotate_left 1
  · intro w hSw; (try dsimp only at hSw); go_simp; (try with_reducible rfl)
  try simp only [Act.put, List.setIfInBounds_toArray, List.set_cons_zero, List.set_cons_succ]
  refine wpAnyH_done (by kernel_rfl) ?_ _
  refine NoPanic.normal ?_
  go_wp2
  go_ret
  exact ⟨rfl, BX.out.trans (B4.out.mono BX.out.size)⟩

theorem kind_nat {g : Ga} {n : Nat} (h : lineB g n = true) : ∃ k : Nat, g.kind = (k : Int) ∧ 1 ≤ k ∧ k ≤ 4 := by
  obtain ⟨h1, h2⟩ := lineB_kind h
  exact ⟨g.kind.toNat, by omega, by omega, by omega⟩

set_option maxHeartbeats 2000000 in
theorem placed_ok (c : Net) (sg so : Option Addr) (cg co : Nat) (w : World) (hc : CirAt w c sg so) (hkd : KindsAt w) (hf : PureNet.Formed c) :
    Calls Tryd.prog 52 #[cirV c sg cg so co] w fun e w' => e = .returned (.bool true) ∧ Below w.heap.size w w' := by
  have HC := hid hc
  have KD := hid hkd
  have hfew := hf.few
  have hfewo := hf.fewOuts
  have FT : Hid (∀ (i : Nat) (g : Ga), c.gates[i]? = some g → ∀ W, Below w.heap.size w W → Calls Tryd.prog 79 #[.agg #[.int .i64 g.kind, .string g.name, .int .i64 g.op, .int .i64 g.a, .int .i64 g.b, .int .i64 g.c], .int .i64 (c.gates.length : Int)] W fun e w' => e = .returned (.bool true) ∧ Below W.heap.size W w') := fun i g hg W hW => by
    obtain ⟨k, hk, h1, h4⟩ := kind_nat (hf.lines i g hg).2
    exact fits_ok k g c.gates.length W (hkd.on hW) hk h1 h4 (hf.lines i g hg).2
  have AB : Hid (∀ W, Below w.heap.size w W → Calls Tryd.prog 80 #[.int .i64 (c.gates.length : Int), .slice so c.outs.length co] W fun e w' => e = .returned (.bool true) ∧ w' = W) := fun W hW => areBelow_ok _ c.outs so co W (hc.below hW).outs (by omega) hf.outs
  clear hc hkd hf
  obtain ⟨x, hx⟩ : ∃ x, x = w.alloc (Obj.cells #[Value.string c.name, Value.slice sg c.gates.length cg, Value.slice so c.outs.length co] 26) := ⟨_, rfl⟩
  have RX : Hid (x.heap[w.heap.size]? = some (.cells #[Value.string c.name, Value.slice sg c.gates.length cg, Value.slice so c.outs.length co] 26 (0, 0))) := by rw [hx]; exact heap_alloc_new w _
  have BX : Hid (Below w.heap.size w x) := by rw [hx]; exact (Below.refl _ _).alloc (Nat.le_refl _) _
  have HX := hid hx
  have cx := fun j => cell_row RX.out j
  have hbx := (Array.getElem?_eq_some_iff.1 RX.out).1
  clear hx
  go_enter Tryd.func52, Tryd.ntmps52
  go_wp2_with (rw [← HX.out])
  clear cx hbx
  go_loopw [8] (fun iv W => ∃ i : Nat, i ≤ c.gates.length ∧ iv = .int .i64 (i : Int) ∧ Hid (Below x.heap.size x W)) (fun iv _ => c.gates.length - (intOf iv).toNat)
  case atStart => exact ⟨0, Nat.zero_le _, rfl, Below.refl _ _⟩
  case round =>
    obtain ⟨i, hi, rfl, HB⟩ := hrel
    have bw : Below w.heap.size w wr := BX.out.trans (HB.out.mono BX.out.size)
    have hrow := (HB.out.block _ (Array.getElem?_eq_some_iff.1 RX.out).1).trans RX.out
    have c0 := fun j => cell_row hrow j
    have hb0 := (Array.getElem?_eq_some_iff.1 hrow).1
    have BW := hid bw
    by_cases hlt : i < c.gates.length
    · obtain ⟨g, hg⟩ : ∃ g, c.gates[i]? = some g := ⟨_, List.getElem?_eq_getElem hlt⟩
      obtain ⟨b, o, rfl, hb, d0, d1, d2, d3, d4, d5⟩ := gate_at (HC.out.below bw).gates i g hg
      have FI : Hid (∀ ob : Obj, _) := fun ob => FT.out i g hg (wr.alloc ob) (bw.alloc bw.size ob)
      clear bw hrow hg
      go_wp2_with (first | (go_at_call 79; refine Calls.mono (FI.out _) ?_; rintro e w2 ⟨rfl, b2⟩; have B2 : Hid (Below x.heap.size x w2) := (HB.out.alloc HB.out.size _).trans (b2.mono (by have := HB.out.size; simp; omega)); clear b2))
      exact ⟨⟨i + 1, hlt, by go_num, B2.out⟩, by simp [intOf]; omega⟩
    · have AW := hid (AB.out wr bw)
      clear bw hrow
      go_wp2_with (first | (go_at_call 80; refine Calls.mono AW.out ?_; rintro e w2 ⟨rfl, rfl⟩))
      go_ret
      exact ⟨rfl, BW.out⟩
end Go.Proofs.YtfmmmhcpdinhgaaDoor
/-
  Lines that bear on something: marks, and the rest turned.
-/
namespace PureNet
set_option maxRecDepth 100000

theorem way_snoc {l : List Ga} {i j k : Nat} (h : Way l i j) (h2 : Leans l j k) : Way l i k := by
  induction h using PureNet.Way.ind with
  | one h1 => exact .more h1 (.one h2)
  | more h1 _ ih => exact .more h1 (ih h2)
end PureNet
