/-
  PursePlays: the law's own loops.
-/
import Derived.Test.YtbanhpohnhjciaaJ1
namespace Go.Proofs.Ytbanhpohnhjciaa
open Go.RowKit Go.MuLone

/-- All that stands behind a step of the script. -/
def Now (w0 : World) (base k : Nat) (wr : World) (av bv : Value) : Prop := ∃ n f, n ≤ k ∧ Mem wr base n f ∧ Laws n f ∧ LL wr base n n f av bv ∧ Below base w0 wr

section
variable {w w0 wr W W' : World} {base n ga gb ca cb i j x : Nat} {f : Nat → Nd} {c : Array Value}

theorem next_int (j : Nat) : Value.int .i64 ((j : Int) + 1) = Value.int .i64 ((j + 1 : Nat) : Int) := by simp
theorem less_next {j m : Nat} (h : j < m) : m - (intOf (.int .i64 ((j : Int) + 1))).toNat < m - (intOf (.int .i64 (j : Int))).toNat := by
  simp [intOf]
  omega

theorem wrap_next {j m : Nat} (h : j < m) (h2 : m ≤ 17592186044416) : wrap64 ((j : Int) + 1) = (j : Int) + 1 := IntWalk.wrap64_in _ ⟨by omega, by omega⟩

theorem sees_at (M : Mem W base n f) (L : Laws n f) (l : LL W base n n f (.slice (some ⟨ga, 0, none⟩) n ca) (.slice (some ⟨gb, 0, none⟩) n cb)) (hB : Below base w0 W) (hlo : base ≤ W.heap.size) (hn : n ≤ 9223372036854775807) (hj : j < n) (t : Touch [] W W') :
    Calls Try.prog 20 #[ptr (f j).pb, ptr (f j).rb] W' fun e w' => e = .returned (.bool true) ∧ Mem w' base n f ∧ LL w' base n n f (.slice (some ⟨ga, 0, none⟩) n ca) (.slice (some ⟨gb, 0, none⟩) n cb) ∧ Below base w0 w' ∧
      w'.cell? ⟨ga, j, none⟩ = some (ptr (f j).pb) ∧ w'.cell? ⟨gb, j, none⟩ = some (ptr (f j).rb) := by
  have M' := M.keep t (by simp)
  have l' := l.keep t (by simp) (by simp)
  refine (sees_any M' L hn hj).mono ?_
  rintro _ w2 ⟨rfl, m2, t2⟩
  have hF : ∀ b ∈ [(f j).pb, (f j).s.lb], InF n f b := by simp; exact ⟨InF.pp hj, InF.l hj⟩
  have l2 := l'.turn M' t2 hF
  refine ⟨rfl, m2, l2, ?_, own_cell l2.a (range_get n _ hj), own_cell l2.b (range_get n _ hj)⟩
  exact (hB.trans (t.below hlo (by simp))).trans (t2.below (by have := t.size; omega) (by simp; exact ⟨(M.plo j hj).1, (M.plo j hj).2.1⟩))

theorem step_at (M : Mem W base n f) (L : Laws n f) (l : LL W base n n f (.slice (some ⟨ga, 0, none⟩) n ca) (.slice (some ⟨gb, 0, none⟩) n cb)) (hB : Below base w0 W) (hlo : base ≤ W.heap.size) (hn : n ≤ 9223372036854775807) (hi : i < n) (hx : W.heap[x]? = some (.cells c 29 (0, 0))) (o k m : Int) (t : Touch [] W W') :
    Calls Try.prog 19 #[.agg #[.int .i64 o, .int .i64 k, .int .i64 m], ptr (f i).pb, ptr (f i).rb] W' fun e w' => e = .returned (.bool true) ∧ Now w0 base n w' (.slice (some ⟨ga, 0, none⟩) n ca) (.slice (some ⟨gb, 0, none⟩) n cb) ∧
      (∃ f', Mem w' base n f' ∧ Laws n f' ∧ LL w' base n n f' (.slice (some ⟨ga, 0, none⟩) n ca) (.slice (some ⟨gb, 0, none⟩) n cb) ∧ Below base w0 w') ∧
      w'.cell? ⟨ga, i, none⟩ = some (ptr (f i).pb) ∧ w'.cell? ⟨gb, i, none⟩ = some (ptr (f i).rb) ∧ w'.heap[x]? = some (.cells c 29 (0, 0)) := by
  have M' := M.keep t (by simp)
  have l' := l.keep t (by simp) (by simp)
  have hx' : W'.heap[x]? = some (.cells c 29 (0, 0)) := (t.block x (lt_of_block hx) (by simp)).trans hx
  refine (step_any M' L hn hi o k m).mono ?_
  rintro _ w2 ⟨rfl, f', F, m2, L2, hsame, t2, hF⟩
  have l2 := l'.turn M' t2 hF
  obtain ⟨r1, r2, r3⟩ := read_at M' l' hi hx' t2 hF
  have l3 : LL w2 base n n f' (.slice (some ⟨ga, 0, none⟩) n ca) (.slice (some ⟨gb, 0, none⟩) n cb) := l2.congr (fun j _ => ⟨(hsame j).1, (hsame j).2.1⟩) (fun j hj k hk => by rw [(hsame j).2.2]; exact l2.sep j hj k hk)
  have b2 : Below base w0 w2 := (hB.trans (t.below hlo (by simp))).trans (t2.below (by have := t.size; omega) (fun b hb => by
    obtain ⟨j, hj, e | e | e⟩ := hF b hb
    · rw [e]; exact (M.plo j hj).1
    · rw [e]; exact (M.plo j hj).2.1
    · rw [e]; exact (M.plo j hj).2.2))
  exact ⟨rfl, ⟨n, f', Nat.le_refl _, m2, L2, l3, b2⟩, ⟨f', m2, L2, l3, b2⟩, r1, r2, r3⟩

set_option maxRecDepth 100000 in
set_option maxHeartbeats 8000000 in
theorem plays_any {sa : Option Addr} {ca : Nat} {l : List OpA} (hs : OpsAt w sa l) (hon : ∀ k (hk : k < l.length), -9223372036854775808 ≤ l[k].on ∧ l[k].on ≤ 9223372036854775807) (hlen : l.length < 17592186044416) :
    Calls Try.prog 6 #[.slice sa l.length ca] w fun e w' => e = .returned (.bool true) ∧ Below w.heap.size w w' := by
  have HA := hid hs
  have HON := hid hon
  have H8 := hid (new_any (show (0 : Int) ≤ 3 by decide) w)
  have HLN := hid hlen
  clear hs hon hlen
  go_enter Try.func6, Try.ntmps6
  go_wp2_with (first
    | (go_at_call 8; with_reducible refine Calls.mono H8.out ?_; rintro _ w0 ⟨pb0, lb0, rfl, hb, hl, hne, hp, hk, t0⟩; have HP0 := hid hp; have HK0 := hid hk; have HT0 := hid t0; have HNE := hid hne; have HLB := hid (And.intro hb hl); clear hb hl hne hp hk t0))
  clear H8
  have HW0 : Hid (Below w.heap.size w w0) := hid (HT0.out.below (Nat.le_refl _) (by simp))
  go_loopw [3, 4, 7] (fun a b i wr => ∃ k : Nat, k ≤ l.length ∧ i = .int .i64 k ∧ Now w0 w0.heap.size k wr a b) (fun _ _ i _ => l.length - (intOf i).toNat)
  case atStart =>
    refine ⟨0, Nat.zero_le _, rfl, 0, fun _ => ⟨0, 0, .new 0 0, ⟨0, 0, 0, true, false, .slice none 0 0⟩, []⟩, Nat.le_refl _, ?_, ?_, ⟨World.ownsRow_nil _ _ _ _, World.ownsRow_nil _ _ _ _, fun i hi => by omega⟩, Below.refl _ _⟩
    · exact ⟨fun i hi => by omega, fun i hi => by omega, fun i hi => by omega, fun i hi => by omega, fun i j hi => by omega, fun i j hi => by omega, fun i j hi => by omega, fun i hi => by omega⟩
    · exact ⟨fun i hi => by omega, fun i hi => by omega, fun i hi => by omega, fun i hi => by omega, fun i hi => by omega, fun i hi => by omega, fun i hi => by omega, fun i hi => by omega, fun i hi => by omega, fun i hi => by omega, fun i hi => by omega, fun i hi => by omega, fun i j k hi => by omega, fun i hi => by omega⟩
  case round =>
    obtain ⟨k, hk, rfl, n, f, hnk, hM, hL, hLL, hB⟩ := hrel
    by_cases hlt : k < l.length
    · have hbw : Below w.heap.size w wr := HW0.out.trans (hB.mono HW0.out.size)
      obtain ⟨a, rfl, hblk, c0, c1, c2⟩ := HA.out.read hlt hbw
      obtain ⟨o, eo⟩ : ∃ o, o = l[k].on := ⟨_, rfl⟩
      obtain ⟨kd, ek⟩ : ∃ kd, kd = l[k].kind := ⟨_, rfl⟩
      obtain ⟨m, em⟩ : ∃ m, m = l[k].n := ⟨_, rfl⟩
      rw [← eo] at c0
      rw [← ek] at c1
      rw [← em] at c2
      have ho := HON.out k hlt
      rw [← eo] at ho
      have hmw := HA.out.wf k hlt
      rw [← em] at hmw
      clear eo ek em hbw
      obtain ⟨X, hX⟩ : ∃ X, X = wr.alloc (.cells #[.int .i64 o, .int .i64 kd, .int .i64 m] 29) := ⟨_, rfl⟩
      have hXr : X.heap[wr.heap.size]? = some (.cells #[.int .i64 o, .int .i64 kd, .int .i64 m] 29 (0, 0)) := by rw [hX]; exact heap_new wr _
      have MX : Mem X w0.heap.size n f := by rw [hX]; exact hM.alloc _
      have lX := hLL.alloc (.cells #[.int .i64 o, .int .i64 kd, .int .i64 m] 29)
      rw [← hX] at lX
      have hlo : w0.heap.size ≤ wr.heap.size := hB.size
      have BX : Below w0.heap.size w0 X := by rw [hX]; exact hB.trans (((Touch.refl [] wr).alloc _).below hlo (by simp))
      have hloX : w0.heap.size ≤ X.heap.size := BX.size
      have hn : n < 17592186044416 := by have := HLN.out; omega
      obtain ⟨sa1, ca1, ea, hca, hga⟩ := owns_form hLL.a
      obtain ⟨sb1, cb1, eb, hcb, hgb⟩ := owns_form hLL.b
      subst ea eb
      have HGA := hid hga
      have HGB := hid hgb
      have HMX := hid MX
      have HLX := hid lX
      have HBX := hid BX
      have HL := hid hL
      have HXR := hid hXr
      have HHO := hid ho
      have HHM := hid hmw
      have hkI : (k : Int) < (l.length : Int) := by omega
      have hk0 : (0 : Int) ≤ (k : Int) := by omega
      have HWK := hid (wrap_next hlt (Nat.le_of_lt HLN.out))
      clear hM hL hLL hB MX lX BX hXr hga hgb ho hmw
      have KM : Hid (Calls Try.prog 18 #[.agg #[.int .i64 o, .int .i64 kd, .int .i64 m], .slice sa1 n ca1, .slice sb1 n cb1] X fun e w' => ∃ av' bv', e = .returned (.tuple #[av', bv', .bool true]) ∧ Made X w0.heap.size n w' av' bv') := hid (makes_any HMX.out HL.out HLX.out hloX hn o kd m HHO.out.1 HHO.out.2 HHM.out.2)
      by_cases h1 : kd = 1
      · subst h1
        go_wp2_with fail
        rw [← hX]
        clear hX c0 c1 c2
        refine Calls.mono KM.out ?_
        rintro _ w1 ⟨av', bv', rfl, n1, f1, hn1, m1, l1, ll1, b1⟩
        obtain ⟨sa2, ca2, ea, hca2, hga2⟩ := owns_form ll1.a
        obtain ⟨sb2, cb2, eb, hcb2, hgb2⟩ := owns_form ll1.b
        subst ea eb
        have HGA1 := hid hga2
        have HGB1 := hid hgb2
        have HM1 := hid m1
        have HL1 := hid l1
        have HLL1 := hid ll1
        have HB1 := hid (HBX.out.trans b1)
        have HN2 : Hid (n1 ≤ 17592186044416) := hid (by omega)
        clear hn hga2 hgb2 m1 l1 ll1 b1 HMX HLX HBX HL HXR KM
        go_wp2
        go_loopw [12] (fun j W => ∃ j' : Nat, j' ≤ n1 ∧ j = .int .i64 j' ∧ Mem W w0.heap.size n1 f1 ∧ LL W w0.heap.size n1 n1 f1 (.slice sa2 n1 ca2) (.slice sb2 n1 cb2) ∧ Below w0.heap.size w0 W) (fun j _ => n1 - (intOf j).toNat)
        case atStart => exact ⟨0, Nat.zero_le _, rfl, HM1.out, HLL1.out, HB1.out⟩
        case round =>
          clear HM1 HLL1 HB1
          obtain ⟨j, hj, rfl, hM2, hLL2, hB2⟩ := hrel
          by_cases hjl : j < n1
          · obtain ⟨ga, rfl⟩ := HGA1.out (by omega)
            obtain ⟨gb, rfl⟩ := HGB1.out (by omega)
            have d0 := own_cell hLL2.a (range_get n1 _ hjl)
            have d1 := own_cell hLL2.b (range_get n1 _ hjl)
            have KS := hid (fun (W' : World) (t : Touch [] _ W') => sees_at hM2 HL1.out hLL2 hB2 hB2.size (Nat.le_trans HN2.out (by decide)) hjl t)
            have TD := hid (Touch.refl [] wr).drew
            obtain ⟨pb, epb⟩ : ∃ pb, pb = (f1 j).pb := ⟨_, rfl⟩
            obtain ⟨rb, erb⟩ : ∃ rb, rb = (f1 j).rb := ⟨_, rfl⟩
            simp only [← epb, ← erb] at d0 d1 KS
            have hjI : (j : Int) < (n1 : Int) := by omega
            have hj0 : (0 : Int) ≤ (j : Int) := by omega
            have hwj := wrap_next hjl HN2.out
            clear epb erb hM2 hLL2 hB2
            go_wp2
            go_region_held3 (fun W => W.cell? ⟨ga, j, none⟩ = some (ptr pb) ∧ W.cell? ⟨gb, j, none⟩ = some (ptr rb)) (go_keep)
              (first
                | (go_at_call 20; with_reducible refine Calls.mono (KS.out _ TD.out) ?_; rintro _ w5 ⟨rfl, m5, l5, b5, y0, y1⟩; have M5 := hid m5; have L5 := hid l5; have B5 := hid b5; clear m5 l5 b5 d0 d1))
            go_wp2
            try rw [hwj]
            exact ⟨⟨j + 1, hjl, next_int j, M5.out, L5.out, B5.out⟩, less_next hjl⟩
          · have hend : ¬ (j : Int) < (n1 : Int) := by omega
            have HM2 := hid hM2
            have HLL2 := hid hLL2
            have HB2 := hid hB2
            have HNUM := hid (Nat.le_trans hn1 (Nat.succ_le_succ hnk))
            have HLT := hid hlt
            have hwk := HWK.out
            clear hM2 hLL2 hB2 hj hjl hn1 hnk hk hlt hca hcb hca2 hcb2
            go_wp2
            try rw [hwk]
            exact ⟨⟨k + 1, HLT.out, next_int k, _, _, HNUM.out, HM2.out, HL1.out, HLL2.out, HB2.out⟩, less_next HLT.out⟩
      · have g1 : (kd == 1) = false := by simp [h1]
        by_cases h4 : kd = 4
        · subst h4
          clear h1
          go_wp2_with fail
          rw [← hX]
          clear hX c0 c1 c2
          refine Calls.mono KM.out ?_
          rintro _ w1 ⟨av', bv', rfl, n1, f1, hn1, m1, l1, ll1, b1⟩
          obtain ⟨sa2, ca2, ea, hca2, hga2⟩ := owns_form ll1.a
          obtain ⟨sb2, cb2, eb, hcb2, hgb2⟩ := owns_form ll1.b
          subst ea eb
          have HGA1 := hid hga2
          have HGB1 := hid hgb2
          have HM1 := hid m1
          have HL1 := hid l1
          have HLL1 := hid ll1
          have HB1 := hid (HBX.out.trans b1)
          have HN2 : Hid (n1 ≤ 17592186044416) := hid (by omega)
          clear hn hga2 hgb2 m1 l1 ll1 b1 HMX HLX HBX HL HXR KM
          go_wp2
          go_loopw [12] (fun j W => ∃ j' : Nat, j' ≤ n1 ∧ j = .int .i64 j' ∧ Mem W w0.heap.size n1 f1 ∧ LL W w0.heap.size n1 n1 f1 (.slice sa2 n1 ca2) (.slice sb2 n1 cb2) ∧ Below w0.heap.size w0 W) (fun j _ => n1 - (intOf j).toNat)
          case atStart => exact ⟨0, Nat.zero_le _, rfl, HM1.out, HLL1.out, HB1.out⟩
          case round =>
            clear HM1 HLL1 HB1
            obtain ⟨j, hj, rfl, hM2, hLL2, hB2⟩ := hrel
            by_cases hjl : j < n1
            · obtain ⟨ga, rfl⟩ := HGA1.out (by omega)
              obtain ⟨gb, rfl⟩ := HGB1.out (by omega)
              have d0 := own_cell hLL2.a (range_get n1 _ hjl)
              have d1 := own_cell hLL2.b (range_get n1 _ hjl)
              have KS := hid (fun (W' : World) (t : Touch [] _ W') => sees_at hM2 HL1.out hLL2 hB2 hB2.size (Nat.le_trans HN2.out (by decide)) hjl t)
              have TD := hid (Touch.refl [] wr).drew
              obtain ⟨pb, epb⟩ : ∃ pb, pb = (f1 j).pb := ⟨_, rfl⟩
              obtain ⟨rb, erb⟩ : ∃ rb, rb = (f1 j).rb := ⟨_, rfl⟩
              simp only [← epb, ← erb] at d0 d1 KS
              have hjI : (j : Int) < (n1 : Int) := by omega
              have hj0 : (0 : Int) ≤ (j : Int) := by omega
              have hwj := wrap_next hjl HN2.out
              clear epb erb hM2 hLL2 hB2
              go_wp2
              go_region_held3 (fun W => W.cell? ⟨ga, j, none⟩ = some (ptr pb) ∧ W.cell? ⟨gb, j, none⟩ = some (ptr rb)) (go_keep)
                (first
                  | (go_at_call 20; with_reducible refine Calls.mono (KS.out _ TD.out) ?_; rintro _ w5 ⟨rfl, m5, l5, b5, y0, y1⟩; have M5 := hid m5; have L5 := hid l5; have B5 := hid b5; clear m5 l5 b5 d0 d1))
              go_wp2
              try rw [hwj]
              exact ⟨⟨j + 1, hjl, next_int j, M5.out, L5.out, B5.out⟩, less_next hjl⟩
            · have hend : ¬ (j : Int) < (n1 : Int) := by omega
              have HM2 := hid hM2
              have HLL2 := hid hLL2
              have HB2 := hid hB2
              have HNUM := hid (Nat.le_trans hn1 (Nat.succ_le_succ hnk))
              have HLT := hid hlt
              have hwk := HWK.out
              clear hM2 hLL2 hB2 hj hjl hn1 hnk hk hlt hca hcb hca2 hcb2
              go_wp2
              try rw [hwk]
              exact ⟨⟨k + 1, HLT.out, next_int k, _, _, HNUM.out, HM2.out, HL1.out, HLL2.out, HB2.out⟩, less_next HLT.out⟩
        · have g4 : (kd == 4) = false := by simp [h4]
          clear KM h1 h4
          by_cases hpos : 0 < n
          · skip
            obtain ⟨ga, rfl⟩ := HGA.out hpos
            obtain ⟨gb, rfl⟩ := HGB.out hpos
            obtain ⟨hi, hi2⟩ := onN_lt o hpos
            obtain ⟨i, ei⟩ : ∃ i, i = onN o n := ⟨_, rfl⟩
            have H16 : Hid (∀ W, Calls Try.prog 16 #[.int .i64 o, .int .i64 (n : Nat)] W fun e w' => e = .returned (.int .i64 (i : Nat)) ∧ W = w') := hid fun W => by
              rw [ei]
              exact (on_any HHO.out.1 HHO.out.2 hpos (by omega) W).mono fun _ _ x => ⟨x.1, x.2.symm⟩
            rw [← ei] at hi
            have HN2 : Hid (n ≤ 17592186044416) := hid (by omega)
            have KS := hid (fun (W' : World) (t : Touch [] X W') => step_at HMX.out HL.out HLX.out HBX.out hloX (by omega) hi HXR.out o kd m t)
            obtain ⟨d0, d1, r0⟩ := read_at HMX.out HLX.out hi HXR.out (Touch.refl [] X) (by simp)
            have e0 := cell_row r0 0
            have e1 := cell_row r0 1
            have e2 := cell_row r0 2
            simp at e0 e1 e2
            obtain ⟨pb, epb⟩ : ∃ pb, pb = (f i).pb := ⟨_, rfl⟩
            obtain ⟨rb, erb⟩ : ∃ rb, rb = (f i).rb := ⟨_, rfl⟩
            simp only [← epb, ← erb] at d0 d1 KS
            have hgt : (0 : Int) < (n : Int) := by omega
            have iN : (i : Int) < (n : Int) := by omega
            have i0 : (0 : Int) ≤ (i : Int) := by omega
            have TX := hid (Touch.refl [] X).drew
            clear epb erb ei hi2 hn r0
            go_wp2_with fail
            rw [← hX]
            clear hX c0 c1 c2
            refine Calls.mono (H16.out _) ?_
            rintro _ _ ⟨rfl, rfl⟩
            go_wp2
            go_region_held3 (fun W => W.cell? ⟨ga, i, none⟩ = some (ptr pb) ∧ W.cell? ⟨gb, i, none⟩ = some (ptr rb) ∧ W.cell? ⟨wr.heap.size, 0, none⟩ = some (.int .i64 o) ∧ W.cell? ⟨wr.heap.size, 1, none⟩ = some (.int .i64 kd) ∧ W.cell? ⟨wr.heap.size, 2, none⟩ = some (.int .i64 m)) (go_keep)
              (first
                | (go_at_call 19; with_reducible refine Calls.mono (KS.out _ TX.out) ?_; rintro _ w1 ⟨rfl, _, ⟨f1, m1, l1, ll1, b1⟩, y0, y1, r1⟩; have x0 := cell_row r1 0; have x1 := cell_row r1 1; have x2 := cell_row r1 2; simp at x0 x1 x2; have HM1 := hid m1; have HL1 := hid l1; have HLL1 := hid ll1; have HB1 := hid b1; clear m1 l1 ll1 b1 r1 d0 d1 e0 e1 e2))
            clear x0 x1 x2 y0 y1 HMX HLX HBX HL HXR HGA HGB KS TX H16 hi hgt iN i0
            go_wp2
            go_loopw [12] (fun j W => ∃ j' : Nat, j' ≤ n ∧ j = .int .i64 j' ∧ Mem W w0.heap.size n f1 ∧ LL W w0.heap.size n n f1 (.slice (some ⟨ga, 0, none⟩) n ca1) (.slice (some ⟨gb, 0, none⟩) n cb1) ∧ Below w0.heap.size w0 W) (fun j _ => n - (intOf j).toNat)
            case atStart => exact ⟨0, Nat.zero_le _, rfl, HM1.out, HLL1.out, HB1.out⟩
            case round =>
              clear HM1 HLL1 HB1
              obtain ⟨j, hj, rfl, hM2, hLL2, hB2⟩ := hrel
              by_cases hjl : j < n
              · have d0 := own_cell hLL2.a (range_get n _ hjl)
                have d1 := own_cell hLL2.b (range_get n _ hjl)
                have KS := hid (fun (W' : World) (t : Touch [] _ W') => sees_at hM2 HL1.out hLL2 hB2 hB2.size (Nat.le_trans HN2.out (by decide)) hjl t)
                have TD := hid (Touch.refl [] wr).drew
                obtain ⟨pb, epb⟩ : ∃ pb, pb = (f1 j).pb := ⟨_, rfl⟩
                obtain ⟨rb, erb⟩ : ∃ rb, rb = (f1 j).rb := ⟨_, rfl⟩
                simp only [← epb, ← erb] at d0 d1 KS
                have hjI : (j : Int) < (n : Int) := by omega
                have hj0 : (0 : Int) ≤ (j : Int) := by omega
                have hwj := wrap_next hjl HN2.out
                clear epb erb hM2 hLL2 hB2
                go_wp2
                go_region_held3 (fun W => W.cell? ⟨ga, j, none⟩ = some (ptr pb) ∧ W.cell? ⟨gb, j, none⟩ = some (ptr rb)) (go_keep)
                  (first
                    | (go_at_call 20; with_reducible refine Calls.mono (KS.out _ TD.out) ?_; rintro _ w5 ⟨rfl, m5, l5, b5, y0, y1⟩; have M5 := hid m5; have L5 := hid l5; have B5 := hid b5; clear m5 l5 b5 d0 d1))
                go_wp2
                try rw [hwj]
                exact ⟨⟨j + 1, hjl, next_int j, M5.out, L5.out, B5.out⟩, less_next hjl⟩
              · have hend : ¬ (j : Int) < (n : Int) := by omega
                have HM2 := hid hM2
                have HLL2 := hid hLL2
                have HB2 := hid hB2
                have HNUM := hid (Nat.le_succ_of_le hnk)
                have HLT := hid hlt
                have hwk := HWK.out
                clear hM2 hLL2 hB2 hj hjl hnk hk hlt hca hcb
                go_wp2
                try rw [hwk]
                exact ⟨⟨k + 1, HLT.out, next_int k, _, _, HNUM.out, HM2.out, HL1.out, HLL2.out, HB2.out⟩, less_next HLT.out⟩
          · skip
            have hgt : ¬ (0 : Int) < (n : Int) := by omega
            have HM1 := HMX
            have HL1 := HL
            have HLL1 := HLX
            have HB1 := HBX
            have HGA1 := HGA
            have HGB1 := HGB
            have HN2 : Hid (n ≤ 17592186044416) := hid (by omega)
            clear hn
            go_wp2
            rw [← hX]
            clear hX c0 c1 c2 hgt HMX HLX HBX HL HXR HGA HGB
            go_loopw [12] (fun j W => ∃ j' : Nat, j' ≤ n ∧ j = .int .i64 j' ∧ Mem W w0.heap.size n f ∧ LL W w0.heap.size n n f (.slice sa1 n ca1) (.slice sb1 n cb1) ∧ Below w0.heap.size w0 W) (fun j _ => n - (intOf j).toNat)
            case atStart => exact ⟨0, Nat.zero_le _, rfl, HM1.out, HLL1.out, HB1.out⟩
            case round =>
              clear HM1 HLL1 HB1
              obtain ⟨j, hj, rfl, hM2, hLL2, hB2⟩ := hrel
              by_cases hjl : j < n
              · obtain ⟨ga, rfl⟩ := HGA1.out (by omega)
                obtain ⟨gb, rfl⟩ := HGB1.out (by omega)
                have d0 := own_cell hLL2.a (range_get n _ hjl)
                have d1 := own_cell hLL2.b (range_get n _ hjl)
                have KS := hid (fun (W' : World) (t : Touch [] _ W') => sees_at hM2 HL1.out hLL2 hB2 hB2.size (Nat.le_trans HN2.out (by decide)) hjl t)
                have TD := hid (Touch.refl [] wr).drew
                obtain ⟨pb, epb⟩ : ∃ pb, pb = (f j).pb := ⟨_, rfl⟩
                obtain ⟨rb, erb⟩ : ∃ rb, rb = (f j).rb := ⟨_, rfl⟩
                simp only [← epb, ← erb] at d0 d1 KS
                have hjI : (j : Int) < (n : Int) := by omega
                have hj0 : (0 : Int) ≤ (j : Int) := by omega
                have hwj := wrap_next hjl HN2.out
                clear epb erb hM2 hLL2 hB2
                go_wp2
                go_region_held3 (fun W => W.cell? ⟨ga, j, none⟩ = some (ptr pb) ∧ W.cell? ⟨gb, j, none⟩ = some (ptr rb)) (go_keep)
                  (first
                    | (go_at_call 20; with_reducible refine Calls.mono (KS.out _ TD.out) ?_; rintro _ w5 ⟨rfl, m5, l5, b5, y0, y1⟩; have M5 := hid m5; have L5 := hid l5; have B5 := hid b5; clear m5 l5 b5 d0 d1))
                go_wp2
                try rw [hwj]
                exact ⟨⟨j + 1, hjl, next_int j, M5.out, L5.out, B5.out⟩, less_next hjl⟩
              · have hend : ¬ (j : Int) < (n : Int) := by omega
                have HM2 := hid hM2
                have HLL2 := hid hLL2
                have HB2 := hid hB2
                have HNUM := hid (Nat.le_succ_of_le hnk)
                have HLT := hid hlt
                have hwk := HWK.out
                clear hM2 hLL2 hB2 hj hjl hnk hk hlt hca hcb
                go_wp2
                try rw [hwk]
                exact ⟨⟨k + 1, HLT.out, next_int k, _, _, HNUM.out, HM2.out, HL1.out, HLL2.out, HB2.out⟩, less_next HLT.out⟩
    · obtain rfl : k = l.length := by omega
      have hb0 := HW0.out
      have p0 : pb0 < w0.heap.size := lt_of_block HP0.out
      have q0 : lb0 < w0.heap.size := lt_of_block HK0.out
      have P1 : PurseAt wr pb0 (.new 3 lb0) := (hB.block pb0 p0).trans HP0.out
      have K1 : LockAt wr lb0 0 := (hB.block lb0 q0).trans HK0.out
      have HU := hid (used_any P1 K1 HNE.out (St.Good.new (by decide) (by decide) lb0))
      have hbw : Below w.heap.size w wr := HW0.out.trans (hB.mono HW0.out.size)
      have HBW := hid hbw
      have HF : Hid (∀ w', Touch [pb0, lb0] wr w' → Below w.heap.size w w') := hid fun w' t => hbw.trans (t.below hbw.size (by simp; exact HLB.out))
      clear hM hL hLL hB P1 K1 hbw hb0 p0 q0
      go_wp2_with (first
        | (go_at_call 14; with_reducible refine Calls.mono (limit_any PP.out) ?_; rintro _ _ ⟨rfl, rfl⟩)
        | (go_at_call 11; with_reducible refine Calls.mono HU.out ?_; rintro _ w1 ⟨rfl, hp1, hk1, t1⟩; have PP := hid hp1; have TT := hid t1; clear hp1 hk1 t1))
      go_ret
      exact ⟨rfl, HF.out _ TT.out⟩
end

end Go.Proofs.Ytbanhpohnhjciaa
