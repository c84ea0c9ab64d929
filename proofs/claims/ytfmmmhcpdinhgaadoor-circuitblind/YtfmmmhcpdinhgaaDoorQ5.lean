/-
  The program's Run.
-/
import Derived.Test.YtfmmmhcpdinhgaaDoorQ4
namespace PureNet
theorem runP_cons {c : Net} {las l : List Bool} {is os : List (List Bool)} (h : RunP c las (l :: is) os) : ∃ v os', os = outsOf c v :: os' ∧ Vals c.gates l las v ∧ RunP c (nextOf c v) is os' := by
  obtain ⟨v, os', h1, h2, h3⟩ := h
  exact ⟨v, os', h1, h2, h3⟩
theorem runP_len {c : Net} : ∀ {is os : List (List Bool)} {las : List Bool}, RunP c las is os → os.length = is.length
  | [], _, _, h => by
    obtain rfl := h
    rfl
  | _ :: is, _, _, h => by
    obtain ⟨v, os', rfl, _, h2⟩ := runP_cons h
    simp [runP_len h2]
end PureNet
namespace Go.Proofs.YtfmmmhcpdinhgaaDoor
open Go.RowKit Go.Deep PureNet ShfKit
set_option maxRecDepth 100000

set_option maxHeartbeats 1000000 in
theorem fits_one (m qb p : Nat) (s2 sb : Option Addr) (c2 cb : Nat) (w : World) (hq : w.cell? ⟨qb, 0, none⟩ = some (.pointer (some ⟨p, 0, none⟩))) (_hqs : qb < w.heap.size) (hp : w.cell? ⟨p, 2, none⟩ = some (.slice s2 m c2)) (_hps : p < w.heap.size) :
    Calls Tryd.prog 42 #[.slice sb m cb, .pointer (some ⟨qb, 0, none⟩)] w fun e w' => e = .returned (.bool false) ∧ w' = w := by
  go_enter Tryd.func42, Tryd.ntmps42
  go_wp2
  go_ret
  exact ⟨rfl, rfl⟩

set_option maxHeartbeats 1000000 in
theorem index_ok (m qb p : Nat) (s2 si : Option Addr) (c2 ci : Nat) (is : List (List Bool)) (w : World) (hq : w.cell? ⟨qb, 0, none⟩ = some (.pointer (some ⟨p, 0, none⟩))) (hqs : qb < w.heap.size) (hp : w.cell? ⟨p, 2, none⟩ = some (.slice s2 m c2)) (hps : p < w.heap.size) (hI : ListsAt w si is) (hl : ∀ l ∈ is, l.length = m) (hn : is.length ≤ 5864062014634) :
    Calls Tryd.prog 65 #[.slice si is.length ci, .func (.func 42) #[] #[.pointer (some ⟨qb, 0, none⟩)]] w fun e w' => e = .returned (.int .i64 (-1)) ∧ w' = w := by
  have HC := hid (fun sb cb => fits_one m qb p s2 sb c2 cb w hq hqs hp hps)
  have HI := hid hI
  have HL := hid hl
  clear hI hl hq hqs hp hps
  go_enter Tryd.func65, Tryd.ntmps65
  go_wp2_with fail
  go_loopw [8] (fun iv W => ∃ j : Nat, j ≤ is.length ∧ iv = .int .i64 (j : Int) ∧ W = w) (fun iv _ => is.length - (intOf iv).toNat)
  case atStart => exact ⟨0, Nat.zero_le _, rfl, rfl⟩
  case round =>
    obtain ⟨j, hj, rfl, rfl⟩ := hrel
    by_cases hlt : j < is.length
    · obtain ⟨l, hl⟩ : ∃ l, is[j]? = some l := ⟨_, List.getElem?_eq_getElem hlt⟩
      obtain ⟨g, o, sb, cb, rfl, hg, hcell, _, _⟩ := HI.out.at_ j l hl
      rw [HL.out l (List.mem_of_getElem? hl)] at hcell
      clear hl
      go_wp2_with (first | (go_at_call 42; refine Calls.mono (HC.out _ _) ?_; rintro e w' ⟨rfl, rfl⟩))
      exact ⟨⟨j + 1, hlt, by go_num, by first | rfl | trivial⟩, by simp [intOf]; omega⟩
    · go_wp2_with fail
      go_ret
      exact ⟨rfl, rfl⟩

set_option maxHeartbeats 1000000 in
theorem contains_ok (m qb p : Nat) (s2 si : Option Addr) (c2 ci : Nat) (is : List (List Bool)) (w : World) (hq : w.cell? ⟨qb, 0, none⟩ = some (.pointer (some ⟨p, 0, none⟩))) (hqs : qb < w.heap.size) (hp : w.cell? ⟨p, 2, none⟩ = some (.slice s2 m c2)) (hps : p < w.heap.size) (hI : ListsAt w si is) (hl : ∀ l ∈ is, l.length = m) (hn : is.length ≤ 5864062014634) :
    Calls Tryd.prog 41 #[.slice si is.length ci, .func (.func 42) #[] #[.pointer (some ⟨qb, 0, none⟩)]] w fun e w' => e = .returned (.bool false) ∧ w' = w := by
  have HI := hid (index_ok m qb p s2 si c2 ci is w hq hqs hp hps hI hl hn)
  clear hI hl hq hqs hp hps
  go_enter Tryd.func41, Tryd.ntmps41
  go_wp2_with (first | (go_at_call 65; refine Calls.mono HI.out ?_; rintro e w' ⟨rfl, rfl⟩))
  go_ret
  exact ⟨rfl, rfl⟩

/-- a block that is none of a player's. -/
structure PlOff (d : Pn) (b : Nat) : Prop where
  p : d.p ≠ b
  vb : d.vb ≠ b
  g : Off (gas d.c.gates) d.sg b
  o : Off (nu d.c.outs) d.so b
  r1 : Off (placesV d.ord) d.s1 b
  r2 : Off (placesV d.ins) d.s2 b
  r3 : Off (placesV d.las) d.s3 b
  r4 : Off (nu d.srcs) d.s4 b
theorem Pl.off {W : World} {d : Pn} {v : List Bool} (h : Pl W d v) : PlOff d W.heap.size :=
  ⟨fun e => by have := h.size; omega, fun e => by have := (Array.getElem?_eq_some_iff.1 h.vals).1; omega, off_base h.cir.gates (Nat.le_refl _), off_base h.cir.outs (Nat.le_refl _), off_base h.ord (Nat.le_refl _), off_base h.ins (Nat.le_refl _), off_base h.las (Nat.le_refl _), off_base h.src (Nat.le_refl _)⟩
theorem Pl.aside {W W' : World} {d : Pn} {v : List Bool} {b : Nat} (h : Pl W d v) (hg : W.grownBy W' (some b)) (ho : PlOff d b) : Pl W' d v :=
  ⟨(hg.block _ (Array.getElem?_eq_some_iff.1 h.box).1 (fun e => ho.p (by simpa using e))).trans h.box, ⟨h.cir.gates.grown2 hg ho.g, h.cir.outs.grown2 hg ho.o⟩, h.ord.grown2 hg ho.r1, h.ins.grown2 hg ho.r2, h.las.grown2 hg ho.r3, h.src.grown2 hg ho.r4, (hg.block _ (Array.getElem?_eq_some_iff.1 h.vals).1 (fun e => ho.vb (by simpa using e))).trans h.vals, h.len, h.farp, h.farg, h.faro, h.far1, h.far2, h.far3, h.far4⟩
/-- a run under way. -/
structure Rn (w W : World) (c : Net) (d : Pn) (qb ab m i : Nat) (is os : List (List Bool)) (las v : List Bool) (sl : Option Addr) (R : List Value) : Prop where
  below : Below w.heap.size w W
  run : RunP c las (is.drop i) (os.drop i)
  lasl : las.length = cnt 3 c.gates
  lasAt : CellsAt W sl (bo las)
  lasOff : Off (bo las) sl d.vb
  pl : Pl W d v
  box : W.heap[qb]? = some (.cells #[.pointer (some ⟨d.p, 0, none⟩)] 63 (0, 0))
  row : W.heap[ab]? = some (.cells R.toArray 29 (0, 0))
  rl : R.length = m
  off : PlOff d ab
  outs : ∀ (j : Nat) (l : List Bool), j < i → os[j]? = some l → ∃ b, R[j]? = some (.slice (some ⟨b, 0, none⟩) l.length l.length) ∧ w.heap.size ≤ b ∧ W.heap[b]? = some (.cells (bo l).toArray 4 (0, 0)) ∧ b ≠ d.vb
theorem Rn.next {w W W5 : World} {c : Net} {d : Pn} {qb ab m i b1 b2 : Nat} {is os : List (List Bool)} {las v v' : List Bool} {sl : Option Addr} {R : List Value} {l : List Bool} (h : Rn w W c d qb ab m i is os las v sl R) (hi : i < m) (_hil : is[i]? = some l) (_hv : Vals c.gates l las v') (hvb : w.heap.size ≤ d.vb) (hab : w.heap.size ≤ ab) (hos : os.drop i = outsOf c v' :: os.drop (i + 1)) (hrun : RunP c (nextOf c v') (is.drop (i + 1)) (os.drop (i + 1)))
    (hb1 : W.heap.size ≤ b1) (hb2 : W.heap.size ≤ b2) (hr1 : W5.heap[b1]? = some (.cells (bo (outsOf c v')).toArray 4 (0, 0))) (hr2 : W5.heap[b2]? = some (.cells (bo (nextOf c v')).toArray 4 (0, 0))) (hp : Pl W5 d v') (hg : W.grownBy W5 (some d.vb)) :
    Rn w (W5.setCell ⟨ab, i, none⟩ (.slice (some ⟨b1, 0, none⟩) (outsOf c v').length (outsOf c v').length)) c d qb ab m (i + 1) is os (nextOf c v') v' (some ⟨b2, 0, none⟩) (R.set i (.slice (some ⟨b1, 0, none⟩) (outsOf c v').length (outsOf c v').length)) := by
  have hvlt := (Array.getElem?_eq_some_iff.1 h.pl.vals).1
  have keep : ∀ (k : Nat) (cs : Array Value) (tt : Nat) (fz : Nat × Nat), W.heap[k]? = some (.cells cs tt fz) → k ≠ d.vb → W5.heap[k]? = some (.cells cs tt fz) := fun k cs tt fz hk hne => (hg.block k (Array.getElem?_eq_some_iff.1 hk).1 (fun e => hne (by simpa using e))).trans hk
  have habv : ab ≠ d.vb := fun e => by
    have h1 := h.row
    rw [e, h.pl.vals] at h1
    simp at h1
  have hqv : qb ≠ d.vb := fun e => by
    have h1 := h.box
    rw [e, h.pl.vals] at h1
    simp at h1
  have hrow5 := keep ab _ _ _ h.row habv
  have k2 : Kp 29 W5 (W5.setCell ⟨ab, i, none⟩ (.slice (some ⟨b1, 0, none⟩) (outsOf c v').length (outsOf c v').length)) := Kp.setCell hrow5 _
  have hpn : (nextOf c v').length = cnt 3 c.gates := next_len c v'
  have hB5 : Below w.heap.size w W5 := h.below.grown hg h.below.size (fun j hj => by cases hj; exact hvb)
  have hsg : W5.grownBy (W5.setCell ⟨ab, i, none⟩ (.slice (some ⟨b1, 0, none⟩) (outsOf c v').length (outsOf c v').length)) (some ab) := grown_set (World.grownBy.refl _ _)
  refine ⟨hB5.setCell hab _, hrun, hpn, row_cells (k2 b2 _ _ _ hr2 (by decide)), fun _ g o sp e e2 => ?_, ?_, k2 qb _ _ _ (keep qb _ _ _ h.box hqv) (by decide), ?_, by rw [List.length_set]; exact h.rl, h.off, fun j z hj hz => ?_⟩
  · cases e
    omega
  · exact hp.aside hsg h.off
  · rw [row_set hrow5]
    simp
  · rw [List.getElem?_set]
    by_cases e : i = j
    · subst e
      rw [if_pos rfl, if_pos (by have := h.rl; omega)]
      have hz2 : some z = some (outsOf c v') := by
        have := congrArg (fun L => L[0]?) hos
        simp only [List.getElem?_drop, Nat.add_zero, List.getElem?_cons_zero] at this
        rw [← hz, this]
      cases hz2
      exact ⟨b1, rfl, Nat.le_trans h.below.size hb1, k2 b1 _ _ _ hr1 (by decide), by omega⟩
    · rw [if_neg e]
      obtain ⟨b, h1, h2, h3, h4⟩ := h.outs j z (by omega) hz
      exact ⟨b, h1, h2, k2 b _ _ _ (keep b _ _ _ h3 h4) (by decide), h4⟩

set_option maxHeartbeats 4000000 in
theorem run_landed : RunOk 13 := by
  intro c sg so cg co is os si ci w hc hkd hf hI hil hn hrun
  have hosl := runP_len hrun
  obtain ⟨x, hx⟩ : ∃ x, x = w.alloc (Obj.cells #[Value.string c.name, Value.slice sg c.gates.length cg, Value.slice so c.outs.length co] 26) := ⟨_, rfl⟩
  have RX : Hid (x.heap[w.heap.size]? = some (.cells #[Value.string c.name, Value.slice sg c.gates.length cg, Value.slice so c.outs.length co] 26 (0, 0))) := by rw [hx]; exact heap_alloc_new w _
  have BX : Hid (Below w.heap.size w x) := by rw [hx]; exact (Below.refl _ _).alloc (Nat.le_refl _) _
  have CE : Hid (∀ W, Below x.heap.size x W → (∀ j, W.cell? ⟨w.heap.size, j, none⟩ = (#[Value.string c.name, Value.slice sg c.gates.length cg, Value.slice so c.outs.length co] : Array Value)[j]?) ∧ w.heap.size < W.heap.size) := fun W hW => by
    have h2 := (hW.block _ (Array.getElem?_eq_some_iff.1 RX.out).1).trans RX.out
    exact ⟨fun j => cell_row h2 j, (Array.getElem?_eq_some_iff.1 h2).1⟩
  obtain ⟨m, hm⟩ : ∃ m, m = is.length := ⟨_, rfl⟩
  have hmk : ∀ W : World, (Instr.makeSlice 23 (.int .i64 (m : Int)) (.int .i64 (m : Int))).run Tryd.prog W = .ok (.slice (some ⟨W.heap.size, 0, none⟩) m m) (W.alloc (.cells (madeCells #[.slice none 0 0] m) 29)) := fun W =>
    run_make_row' (P := Tryd.prog) 23 29 (.slice none 0 0) 24 Tryd.underlying23 info29 rfl .i64 .i64 m (by omega) (by omega) W
  have C1 := hid (formed_ok c sg so cg co x (hc.below BX.out) (hkd.on BX.out) hf)
  have C2 : Hid (∀ W, Below x.heap.size x W → _) := fun W hW => newPlayer_ok c sg so cg co W ((hc.below BX.out).below hW) ((hkd.on BX.out).on hW) hf
  have C3 : Hid (∀ W, Below x.heap.size x W → _) := fun W hW => pfirst_any c sg so cg co W ((hc.below BX.out).below hW).gates (by have := hf.few; omega)
  have HF := hid hf
  have HI := hid hI
  have HIL := hid hil
  have HRUN := hid hrun
  have HOS := hid hosl
  have HM := hid hm
  have hmn : m ≤ 5864062014634 := by omega
  obtain ⟨d0, hb0⟩ := CE.out x (Below.refl _ _)
  have HX := hid hx
  rw [← hm]
  clear hx hc hkd hf hI hil hrun hosl hm hn
  go_enter Tryd.func13, Tryd.ntmps13
  go_wp2_with (first
    | (rw [← HX.out])
    | (have q := B3; clear q; go_at_call 41; refine Calls.mono CT.out ?_; rintro e w4 ⟨rfl, rfl⟩)
    | (go_at_call 40; refine Calls.mono (C2.out w1 B1.out) ?_; rintro e w2 ⟨d, rfl, hpl, hgd, b2, hvb, hdc, hdi, hdl, hds, hnd, hall, hord⟩; have h1 : d.ins.length = cnt 1 c.gates := (by rw [hdi, kpTo_len 1 c.gates _ (Nat.le_refl _), List.take_length]); have B2 : Hid (Below x.heap.size x w2) := B1.out.trans (b2.mono B1.out.size); have hvbw : w.heap.size ≤ d.vb := Nat.le_trans BX.out.size (Nat.le_trans B1.out.size hvb); have VB := hid hvbw; have PL := hid hpl; have DD := hid (And.intro hgd (And.intro hdc (And.intro hdi (And.intro hdl (And.intro hds (And.intro hnd (And.intro hall hord))))))); have H1 := hid h1; clear hpl hgd b2 hvb hdc hdi hdl hds hnd hall hord hvbw h1)
    | (go_at_call 26; refine Calls.mono C1.out ?_; rintro e w1 ⟨rfl, b1⟩; have B1 : Hid (Below x.heap.size x w1) := b1; obtain ⟨d1, hb1⟩ := CE.out w1 B1.out; clear b1))
  obtain ⟨A, hA⟩ : ∃ A, A = w2.alloc (Obj.cells #[Value.pointer (some ⟨d.p, 0, none⟩)] 63) := ⟨_, rfl⟩
  have BA : Hid (Below w2.heap.size w2 A) := by rw [hA]; exact (Below.refl _ _).alloc (Nat.le_refl _) _
  have QA : Hid (A.heap[w2.heap.size]? = some (.cells #[.pointer (some ⟨d.p, 0, none⟩)] 63 (0, 0))) := by rw [hA]; exact heap_alloc_new w2 _
  have BXA : Hid (Below x.heap.size x A) := B2.out.trans (BA.out.mono B2.out.size)
  have BWA : Hid (Below w.heap.size w A) := BX.out.trans (BXA.out.mono BX.out.size)
  have PA := hid (PL.out.on BA.out)
  have k2 := PA.out.cell 2
  rw [H1.out] at k2
  have CT := contains_ok (cnt 1 c.gates) w2.heap.size d.p d.s2 si d.c2 ci is A (cell_row QA.out 0) (Array.getElem?_eq_some_iff.1 QA.out).1 k2 PA.out.size (HI.out.below BWA.out) HIL.out (by rw [← HM.out]; exact hmn)
  rw [← HM.out] at CT
  rw [← hA]
  refine Calls.mono CT ?_
  rintro e w4 ⟨rfl, hw4⟩
  subst hw4
  clear CT k2
  dsimp only
  obtain ⟨B, hB⟩ : ∃ B, B = w4.alloc (.cells (madeCells #[.slice none 0 0] m) 29) := ⟨_, rfl⟩
  have BB : Hid (Below w4.heap.size w4 B) := by rw [hB]; exact (Below.refl _ _).alloc (Nat.le_refl _) _
  have RB : Hid (B.heap[w4.heap.size]? = some (.cells (List.replicate m (Value.slice none 0 0)).toArray 29 (0, 0))) := by
    show _ = _
    rw [hB, heap_alloc_new]
    congr 2
    apply Array.ext'
    rw [toList_madeCells_one]
  have BXB : Hid (Below x.heap.size x B) := BXA.out.trans (BB.out.mono BXA.out.size)
  obtain ⟨d5, hb5⟩ := CE.out B BXB.out
  have HBB := hid hB
  obtain ⟨ab, hab⟩ : ∃ ab, ab = w4.heap.size := ⟨_, rfl⟩
  obtain ⟨qb, hqb⟩ : ∃ qb, qb = w2.heap.size := ⟨_, rfl⟩
  have OFF : Hid (PlOff d ab) := by rw [hab]; exact PA.out.off
  have HAB : Hid (w.heap.size ≤ ab) := by rw [hab]; exact BWA.out.size
  rw [← hab] at RB
  rw [← hqb] at QA
  have HABE := hid hab
  have HQBE := hid hqb
  clear hA hB hab hqb
  go_wp2_with (first
    | (rw [← HBB.out])
    | (go_at_call 39; refine Calls.mono (C3.out B BXB.out) ?_; rintro e w6 ⟨fv, rfl, hmk6⟩; obtain ⟨fs, fk, hfv, hfc, _, _, hfB⟩ := own_cells hmk6.own; subst hfv; have FC := hid hfc; have FB := hid hfB; have B6 := hid hmk6.below; clear hmk6 hfc hfB))
  rw [← HABE.out, ← HQBE.out]
  have R0 : Hid (Rn w w6 c d qb ab m 0 is os (firstsOf c.gates) (List.replicate c.gates.length false) fs (List.replicate m (Value.slice none 0 0))) := by
    have b46 : Below w4.heap.size w4 w6 := BB.out.trans (B6.out.mono BB.out.size)
    refine ⟨BWA.out.trans (b46.mono BWA.out.size), by rw [List.drop_zero, List.drop_zero]; exact HRUN.out, firsts_len _, FC.out, fun _ g o sp e e2 => ?_, PA.out.on b46, (b46.block _ (Array.getElem?_eq_some_iff.1 QA.out).1).trans QA.out, (B6.out.block _ (Array.getElem?_eq_some_iff.1 RB.out).1).trans RB.out, by simp, OFF.out, fun j l hj => by omega⟩
    have h1 := FB.out g o sp e
    have h2 := (Array.getElem?_eq_some_iff.1 PA.out.vals).1
    have h3 := BB.out.size
    omega
  clear C1 C2 C3 PL PA FC FB RB QA HABE HQBE hmk d0 hb0 d5 hb5 HBB
  go_loopg [8, 26] m (fun k lv iv W => ∃ (i : Nat) (las v : List Bool) (sl : Option Addr) (cl : Nat) (R : List Value), i ≤ m ∧ k = m - i ∧ iv = .int .i64 (i : Int) ∧ lv = .slice sl (cnt 3 c.gates) cl ∧ Hid (Rn w W c d qb ab m i is os las v sl R))
  case atStart => exact ⟨0, _, _, _, _, _, Nat.zero_le _, rfl, rfl, rfl, R0.out⟩
  case round =>
    clear R0
    obtain ⟨i, las, v, sl, cl, R, hi, hgk, rfl, rfl, HR⟩ := hrel
    subst hgk
    have hrn := HR.out
    have RN := hid hrn
    clear HR
    by_cases hlt : i < m
    · obtain ⟨l, hl⟩ : ∃ l, is[i]? = some l := ⟨_, List.getElem?_eq_getElem (by rw [← HM.out]; exact hlt)⟩
      obtain ⟨g, o, sb, cb, hsi, hg, hcell, hcl, _⟩ := HI.out.at_ i l hl
      have hcw : wr.cell? ⟨g, o + i, none⟩ = some (.slice sb l.length cb) := below_cell hrn.below hg hcell
      have hgw : g < wr.heap.size := Nat.lt_of_lt_of_le hg hrn.below.size
      have hdr : is.drop i = l :: is.drop (i + 1) := by
        rw [List.drop_eq_getElem_cons (by rw [← HM.out]; exact hlt)]
        rw [(List.getElem?_eq_some_iff.1 hl).2]
      have hrun := hrn.run
      rw [hdr] at hrun
      obtain ⟨v', os', hos', hv', hrun'⟩ := runP_cons hrun
      have hos2 : os.drop (i + 1) = os' := by
        have := congrArg (List.drop 1) hos'
        rw [List.drop_drop] at this
        simpa [Nat.add_comm] using this
      rw [← hos2] at hos' hrun'
      obtain ⟨hgd, hdc, hdi, hdl, hds, hnd, hall, hord⟩ := DD.out
      have PS := hid (play_step c d v l las v' sb sl cb cl wr HF.out hgd hdc hdi hdl hds hnd hall hord hrn.pl (hcl.below hrn.below) hrn.lasAt (HIL.out l (List.mem_of_getElem? hl)) hrn.lasl (off_base hcl VB.out) hrn.lasOff hv')
      rw [hrn.lasl] at PS
      have NX := hid (fun b1 b2 (W5 : World) h1 h2 h3 h4 h5 h6 => hrn.next (W5 := W5) (b1 := b1) (b2 := b2) hlt hl hv' VB.out HAB.out hos' hrun' h1 h2 h3 h4 h5 h6)
      have hq := cell_row hrn.box 0
      have hqs := (Array.getElem?_eq_some_iff.1 hrn.box).1
      have NL := hid (next_len c v')
      have HSI := hid hsi
      clear hrn hl hcell hcl hdr hrun hv' hos' hrun' hos2 hgd hdc hdi hdl hds hnd hall hord
      go_wp2_with (first
        | (go_at_call 43; (refine Calls.mono PS.out ?_; rintro e w5 ⟨b1, b2, rfl, hb1, hb2, hr1, hr2, hp5, hg5⟩; have N5 := hid (NX.out b1 b2 w5 hb1 hb2 hr1 hr2 hp5 hg5); have hrow5 : w5.heap[ab]? = some (.cells R.toArray 29 (0, 0)) := (hg5.block ab (Array.getElem?_eq_some_iff.1 RN.out.row).1 (fun e => RN.out.off.vb (by simpa using e.symm))).trans RN.out.row; have hrl := RN.out.rl; obtain ⟨rv5, c5⟩ : ∃ rv, w5.cell? ⟨ab, i, none⟩ = some rv := (by rw [cell_row hrow5]; exact ⟨R[i]'(by omega), by simp [show i < R.length by omega]⟩); have f5 := unfrozen_row hrow5 i; have hb5 := (Array.getElem?_eq_some_iff.1 hrow5).1; clear hb1 hb2 hr1 hr2 hp5 hg5 hrow5 hrl)))
      (try rw [← HSI.out])
      go_roundg (m - (i + 1))
      case measure => omega
      case rel => exact ⟨i + 1, _, _, _, _, _, hlt, rfl, by go_num, by rw [NL.out], N5.out⟩
    · obtain rfl : i = m := by omega
      have LN : Hid (ListsNew wr w.heap.size (some ⟨ab, 0, none⟩) os) := by
        constructor
        intro k l hl
        have hk : k < i := by
          have h1 := (List.getElem?_eq_some_iff.1 hl).1
          have h2 := HOS.out
          have h3 := HM.out
          omega
        obtain ⟨b, h1, h2, h3, _⟩ := hrn.outs k l hk hl
        have hce : wr.cell? ⟨ab, 0 + k, none⟩ = some (.slice (some ⟨b, 0, none⟩) l.length l.length) := by
          rw [cell_row hrn.row, Nat.zero_add]
          simpa using h1
        exact ⟨ab, 0, some ⟨b, 0, none⟩, l.length, rfl, HAB.out, (Array.getElem?_eq_some_iff.1 hrn.row).1, hce, row_cells h3, (fun e => by cases e), fun b' o' sp e => by cases e; exact h2⟩
      have BW := hid hrn.below
      clear hrn
      go_wp2
      refine bodyPost_ret (v := .tuple #[.slice (some ⟨ab, 0, none⟩) i i, .int .i64 0]) (by simp [results, Tryd.results13, go_sem]) rfl ⟨⟨some ⟨ab, 0, none⟩, i, ?_, LN.out⟩, BW.out⟩
      rw [HOS.out, ← HM.out]
end Go.Proofs.YtfmmmhcpdinhgaaDoor
