import Derived.Test.YtfmmmhcpdinhgaaDoorZ17
/-
  The program's Run.
-/
namespace PureNet
theorem runP_cons {c : Net} {las l : List Bool} {is os : List (List Bool)} (h : RunP c las (l :: is) os) : ∃ v os', os = outsOf c v :: os' ∧ Vals c.gates l las v ∧ RunP c (nextOf c v) is os' := by
  obtain ⟨v, os', h1, h2, h3⟩ := h
  exact ⟨v, os', h1, h2, h3⟩
theorem runP_len {c : Net} : ∀ {is os : List (List Bool)} {las : List Bool}, RunP c las is os → os.length = is.length
  | [], _, _, h => by
    obtain rfl := h
    rfl
  | _ :: is, _, _, h => by
    obtain ⟨v, os', rfl, _, h2⟩ := runP_cons h
    simp [runP_len h2]
end PureNet
namespace Go.Proofs.YtfmmmhcpdinhgaaDoor
open Go.RowKit Go.Deep PureNet ShfKit
set_option maxRecDepth 100000

set_option maxHeartbeats 1000000 in
theorem fits_one (m qb p : Nat) (s2 sb : Option Addr) (c2 cb : Nat) (w : World) (hq : w.cell? ⟨qb, 0, none⟩ = some (.pointer (some ⟨p, 0, none⟩))) (_hqs : qb < w.heap.size) (hp : w.cell? ⟨p, 2, none⟩ = some (.slice s2 m c2)) (_hps : p < w.heap.size) :
    Calls Tryd.prog 42 #[.slice sb m cb, .pointer (some ⟨qb, 0, none⟩)] w fun e w' => e = .returned (.bool false) ∧ w' = w := by
  go_enter Tryd.func42, Tryd.ntmps42
  go_wp2
  go_ret
  exact ⟨rfl, rfl⟩

set_option maxHeartbeats 1000000 in
theorem index_ok (m qb p : Nat) (s2 si : Option Addr) (c2 ci : Nat) (is : List (List Bool)) (w : World) (hq : w.cell? ⟨qb, 0, none⟩ = some (.pointer (some ⟨p, 0, none⟩))) (hqs : qb < w.heap.size) (hp : w.cell? ⟨p, 2, none⟩ = some (.slice s2 m c2)) (hps : p < w.heap.size) (hI : ListsAt w si is) (hl : ∀ l ∈ is, l.length = m) (hn : is.length ≤ 5864062014634) :
    Calls Tryd.prog 65 #[.slice si is.length ci, .func (.func 42) #[] #[.pointer (some ⟨qb, 0, none⟩)]] w fun e w' => e = .returned (.int .i64 (-1)) ∧ w' = w := by
  have HC := hid (fun sb cb => fits_one m qb p s2 sb c2 cb w hq hqs hp hps)
  have HI := hid hI
  have HL := hid hl
  clear hI hl hq hqs hp hps
  go_enter Tryd.func65, Tryd.ntmps65
  go_wp2_with fail
  go_loopw [8] (fun iv W => ∃ j : Nat, j ≤ is.length ∧ iv = .int .i64 (j : Int) ∧ W = w) (fun iv _ => is.length - (intOf iv).toNat)
  case atStart => exact ⟨0, Nat.zero_le _, rfl, rfl⟩
  case round =>
    obtain ⟨j, hj, rfl, rfl⟩ := hrel
    by_cases hlt : j < is.length
    · obtain ⟨l, hl⟩ : ∃ l, is[j]? = some l := ⟨_, List.getElem?_eq_getElem hlt⟩
      obtain ⟨g, o, sb, cb, rfl, hg, hcell, _, _⟩ := HI.out.at_ j l hl
      rw [HL.out l (List.mem_of_getElem? hl)] at hcell
      clear hl
      go_wp2_with (first | (go_at_call 42; refine Calls.mono (HC.out _ _) ?_; rintro e w' ⟨rfl, rfl⟩))
      exact ⟨⟨j + 1, hlt, by go_num, by first | rfl | trivial⟩, by simp [intOf]; omega⟩
    · go_wp2_with fail
      go_ret
      exact ⟨rfl, rfl⟩

set_option maxHeartbeats 1000000 in
theorem contains_ok (m qb p : Nat) (s2 si : Option Addr) (c2 ci : Nat) (is : List (List Bool)) (w : World) (hq : w.cell? ⟨qb, 0, none⟩ = some (.pointer (some ⟨p, 0, none⟩))) (hqs : qb < w.heap.size) (hp : w.cell? ⟨p, 2, none⟩ = some (.slice s2 m c2)) (hps : p < w.heap.size) (hI : ListsAt w si is) (hl : ∀ l ∈ is, l.length = m) (hn : is.length ≤ 5864062014634) :
    Calls Tryd.prog 41 #[.slice si is.length ci, .func (.func 42) #[] #[.pointer (some ⟨qb, 0, none⟩)]] w fun e w' => e = .returned (.bool false) ∧ w' = w := by
  have HI := hid (index_ok m qb p s2 si c2 ci is w hq hqs hp hps hI hl hn)
  clear hI hl hq hqs hp hps
  go_enter Tryd.func41, Tryd.ntmps41
  go_wp2_with (first | (go_at_call 65; refine Calls.mono HI.out ?_; rintro e w' ⟨rfl, rfl⟩))
  go_ret
  exact ⟨rfl, rfl⟩

/-- a block that is none of a player's. -/
structure PlOff (d : Pn) (b : Nat) : Prop where
  p : d.p ≠ b
  vb : d.vb ≠ b
  g : Off (gas d.c.gates) d.sg b
  o : Off (nu d.c.outs) d.so b
  r1 : Off (placesV d.ord) d.s1 b
  r2 : Off (placesV d.ins) d.s2 b
  r3 : Off (placesV d.las) d.s3 b
  r4 : Off (nu d.srcs) d.s4 b
theorem Pl.off {W : World} {d : Pn} {v : List Bool} (h : Pl W d v) : PlOff d W.heap.size :=
  ⟨fun e => by have := h.size; omega, fun e => by have := (Array.getElem?_eq_some_iff.1 h.vals).1; omega, off_base h.cir.gates (Nat.le_refl _), off_base h.cir.outs (Nat.le_refl _), off_base h.ord (Nat.le_refl _), off_base h.ins (Nat.le_refl _), off_base h.las (Nat.le_refl _), off_base h.src (Nat.le_refl _)⟩
theorem Pl.aside {W W' : World} {d : Pn} {v : List Bool} {b : Nat} (h : Pl W d v) (hg : W.grownBy W' (some b)) (ho : PlOff d b) : Pl W' d v :=
  ⟨(hg.block _ (Array.getElem?_eq_some_iff.1 h.box).1 (fun e => ho.p (by simpa using e))).trans h.box, ⟨h.cir.gates.grown2 hg ho.g, h.cir.outs.grown2 hg ho.o⟩, h.ord.grown2 hg ho.r1, h.ins.grown2 hg ho.r2, h.las.grown2 hg ho.r3, h.src.grown2 hg ho.r4, (hg.block _ (Array.getElem?_eq_some_iff.1 h.vals).1 (fun e => ho.vb (by simpa using e))).trans h.vals, h.len, h.farp, h.farg, h.faro, h.far1, h.far2, h.far3, h.far4⟩
/-- a run under way. -/
structure Rn (w W : World) (c : Net) (d : Pn) (qb ab m i : Nat) (is os : List (List Bool)) (las v : List Bool) (sl : Option Addr) (R : List Value) : Prop where
  below : Below w.heap.size w W
  run : RunP c las (is.drop i) (os.drop i)
  lasl : las.length = cnt 3 c.gates
  lasAt : CellsAt W sl (bo las)
  lasOff : Off (bo las) sl d.vb
  pl : Pl W d v
  box : W.heap[qb]? = some (.cells #[.pointer (some ⟨d.p, 0, none⟩)] 63 (0, 0))
  row : W.heap[ab]? = some (.cells R.toArray 29 (0, 0))
  rl : R.length = m
  off : PlOff d ab
  outs : ∀ (j : Nat) (l : List Bool), j < i → os[j]? = some l → ∃ b, R[j]? = some (.slice (some ⟨b, 0, none⟩) l.length l.length) ∧ w.heap.size ≤ b ∧ W.heap[b]? = some (.cells (bo l).toArray 4 (0, 0)) ∧ b ≠ d.vb
theorem Rn.next {w W W5 : World} {c : Net} {d : Pn} {qb ab m i b1 b2 : Nat} {is os : List (List Bool)} {las v v' : List Bool} {sl : Option Addr} {R : List Value} {l : List Bool} (h : Rn w W c d qb ab m i is os las v sl R) (hi : i < m) (_hil : is[i]? = some l) (_hv : Vals c.gates l las v') (hvb : w.heap.size ≤ d.vb) (hab : w.heap.size ≤ ab) (hos : os.drop i = outsOf c v' :: os.drop (i + 1)) (hrun : RunP c (nextOf c v') (is.drop (i + 1)) (os.drop (i + 1)))
    (hb1 : W.heap.size ≤ b1) (hb2 : W.heap.size ≤ b2) (hr1 : W5.heap[b1]? = some (.cells (bo (outsOf c v')).toArray 4 (0, 0))) (hr2 : W5.heap[b2]? = some (.cells (bo (nextOf c v')).toArray 4 (0, 0))) (hp : Pl W5 d v') (hg : W.grownBy W5 (some d.vb)) :
    Rn w (W5.setCell ⟨ab, i, none⟩ (.slice (some ⟨b1, 0, none⟩) (outsOf c v').length (outsOf c v').length)) c d qb ab m (i + 1) is os (nextOf c v') v' (some ⟨b2, 0, none⟩) (R.set i (.slice (some ⟨b1, 0, none⟩) (outsOf c v').length (outsOf c v').length)) := by
  have hvlt := (Array.getElem?_eq_some_iff.1 h.pl.vals).1
  have keep : ∀ (k : Nat) (cs : Array Value) (tt : Nat) (fz : Nat × Nat), W.heap[k]? = some (.cells cs tt fz) → k ≠ d.vb → W5.heap[k]? = some (.cells cs tt fz) := fun k cs tt fz hk hne => (hg.block k (Array.getElem?_eq_some_iff.1 hk).1 (fun e => hne (by simpa using e))).trans hk
  have habv : ab ≠ d.vb := fun e => by
    have h1 := h.row
    rw [e, h.pl.vals] at h1
    simp at h1
  have hqv : qb ≠ d.vb := fun e => by
    have h1 := h.box
    rw [e, h.pl.vals] at h1
    simp at h1
  have hrow5 := keep ab _ _ _ h.row habv
  have k2 : Kp 29 W5 (W5.setCell ⟨ab, i, none⟩ (.slice (some ⟨b1, 0, none⟩) (outsOf c v').length (outsOf c v').length)) := Kp.setCell hrow5 _
  have hpn : (nextOf c v').length = cnt 3 c.gates := next_len c v'
  have hB5 : Below w.heap.size w W5 := h.below.grown hg h.below.size (fun j hj => by cases hj; exact hvb)
  have hsg : W5.grownBy (W5.setCell ⟨ab, i, none⟩ (.slice (some ⟨b1, 0, none⟩) (outsOf c v').length (outsOf c v').length)) (some ab) := grown_set (World.grownBy.refl _ _)
  refine ⟨hB5.setCell hab _, hrun, hpn, row_cells (k2 b2 _ _ _ hr2 (by decide)), fun _ g o sp e e2 => ?_, ?_, k2 qb _ _ _ (keep qb _ _ _ h.box hqv) (by decide), ?_, by rw [List.length_set]; exact h.rl, h.off, fun j z hj hz => ?_⟩
  · cases e
    omega
  · exact hp.aside hsg h.off
  · rw [row_set hrow5]
    simp
  · rw [List.getElem?_set]
    by_cases e : i = j
    · subst e
      rw [if_pos rfl, if_pos (by have := h.rl; omega)]
      have hz2 : some z = some (outsOf c v') := by
        have := congrArg (fun L => L[0]?) hos
        simp only [List.getElem?_drop, Nat.add_zero, List.getElem?_cons_zero] at this
        rw [← hz, this]
      cases hz2
      exact ⟨b1, rfl, Nat.le_trans h.below.size hb1, k2 b1 _ _ _ hr1 (by decide), by omega⟩
    · rw [if_neg e]
      obtain ⟨b, h1, h2, h3, h4⟩ := h.outs j z (by omega) hz
      exact ⟨b, h1, h2, k2 b _ _ _ (keep b _ _ _ h3 h4) (by decide), h4⟩

end Go.Proofs.YtfmmmhcpdinhgaaDoor
/-
  The program's within, areBelow, fits, placed of any value.
-/
namespace Go.Proofs.YtfmmmhcpdinhgaaDoor
open Go.RowKit Go.Deep PureNet
set_option maxRecDepth 100000

set_option maxHeartbeats 1000000 in
theorem pwithin_any (c : Net) (sg so : Option Addr) (cg co : Nat) (w : World) :
    Calls Tryd.prog 50 #[cirV c sg cg so co] w fun e w' => e = .returned (.bool (decide (c.gates.length ≤ 65536) && decide (c.outs.length ≤ 65536))) ∧ Below w.heap.size w w' := by
  by_cases hl : c.gates.length ≤ 65536
  · have h1 : (c.gates.length : Int) ≤ 65536 := by omega
    by_cases ho : c.outs.length ≤ 65536
    · have h2 : (c.outs.length : Int) ≤ 65536 := by omega
      have HD : Hid ((decide (c.gates.length ≤ 65536) && decide (c.outs.length ≤ 65536)) = true) := by show _ = _; simp [hl, ho]
      clear hl ho
      go_enter Tryd.func50, Tryd.ntmps50
      go_wp2
      go_ret
      rw [HD.out]
      exact ⟨rfl, (Below.refl _ _).alloc (Nat.le_refl _) _⟩
    · have h2 : ¬ (c.outs.length : Int) ≤ 65536 := by omega
      have HD : Hid ((decide (c.gates.length ≤ 65536) && decide (c.outs.length ≤ 65536)) = false) := by show _ = _; simp [ho]
      clear hl ho
      go_enter Tryd.func50, Tryd.ntmps50
      go_wp2
      go_ret
      rw [HD.out]
      exact ⟨rfl, (Below.refl _ _).alloc (Nat.le_refl _) _⟩
  · have h1 : ¬ (c.gates.length : Int) ≤ 65536 := by omega
    have HD : Hid ((decide (c.gates.length ≤ 65536) && decide (c.outs.length ≤ 65536)) = false) := by show _ = _; simp [hl]
    clear hl
    go_enter Tryd.func50, Tryd.ntmps50
    go_wp2
    go_ret
    rw [HD.out]
    exact ⟨rfl, (Below.refl _ _).alloc (Nat.le_refl _) _⟩

def belowB (m : Int) (L : List Int) : Bool := L.all fun x => decide (0 ≤ x ∧ x < m)
set_option maxHeartbeats 1000000 in
theorem areBelow_any (m : Int) (L : List Int) (s : Option Addr) (c : Nat) (w : World) (hc : CellsAt w s (nu L)) (hl : L.length ≤ 1099511627776) :
    Calls Tryd.prog 80 #[.int .i64 m, .slice s L.length c] w fun e w' => e = .returned (.bool (belowB m L)) ∧ w' = w := by
  have HC := hid hc
  clear hc
  go_enter Tryd.func80, Tryd.ntmps80
  go_wp2
  go_loopw [9] (fun iv W => ∃ i : Nat, i ≤ L.length ∧ iv = .int .i64 (i : Int) ∧ W = w ∧ Hid (∀ (j : Nat) (y : Int), j < i → L[j]? = some y → 0 ≤ y ∧ y < m)) (fun iv _ => L.length - (intOf iv).toNat)
  case atStart => exact ⟨0, Nat.zero_le _, rfl, rfl, fun j y hj => by omega⟩
  case round =>
    obtain ⟨i, hi, rfl, rfl, HR⟩ := hrel
    by_cases hlt : i < L.length
    · obtain ⟨y, hy⟩ : ∃ y, L[i]? = some y := ⟨_, List.getElem?_eq_getElem hlt⟩
      obtain ⟨b, o, rfl, hbs, hcell⟩ := num_at HC.out i y hy
      have NO : ¬ (0 ≤ y ∧ y < m) → Hid (belowB m L = false) := fun h => by
        show _ = _
        unfold belowB
        rw [List.all_eq_false]
        exact ⟨y, List.mem_of_getElem? hy, by simpa using h⟩
      have HY := hid hy
      by_cases h0 : y < 0
      · have HN := NO (by omega)
        clear NO HR hy
        go_wp2
        go_ret
        rw [HN.out]
        exact ⟨rfl, rfl⟩
      · by_cases h1 : m ≤ y
        · have HN := NO (by omega)
          clear NO HR hy
          go_wp2
          go_ret
          rw [HN.out]
          exact ⟨rfl, rfl⟩
        · have NX : Hid (∀ (j : Nat) (z : Int), j < i + 1 → L[j]? = some z → 0 ≤ z ∧ z < m) := fun j z hj hz => by
            by_cases e : j = i
            · subst e
              rw [HY.out] at hz
              cases hz
              omega
            · exact HR.out j z (by omega) hz
          clear NO HR hy
          go_wp2
          exact ⟨⟨i + 1, hlt, by go_num, by first | rfl | trivial, NX.out⟩, by simp [intOf]; omega⟩
    · have HN : Hid (belowB m L = true) := by
        show _ = _
        unfold belowB
        rw [List.all_eq_true]
        intro x hx
        obtain ⟨j, hj, e⟩ := List.getElem_of_mem hx
        have := HR.out j x (by omega) (by rw [List.getElem?_eq_getElem hj, e])
        simpa using this
      clear HR
      go_wp2
      go_ret
      rw [HN.out]
      exact ⟨rfl, rfl⟩
end Go.Proofs.YtfmmmhcpdinhgaaDoor
