/-
  The search of the program over all lines; that none is in a circle.
-/
import Derived.Test.YtfmmmhcpdinhgaaDoorS8
namespace Go.Proofs.YtfmmmhcpdinhgaaDoor
open Go.RowKit Go.Deep PureNet ShfKit
set_option maxRecDepth 100000

end Go.Proofs.YtfmmmhcpdinhgaaDoor
namespace PureNet
open Go.Proofs.YtfmmmhcpdinhgaaDoor
set_option maxRecDepth 100000
theorem Sr.rekeep {l : List Ga} {P : Nat → Prop} {S0 S1 : List Nat} {E : Nat → Prop} {s : Ps} (h : Sr l P S0 E s) (h2 : ∀ x ∈ S1, x ∈ s.out ++ s.way.map Prod.fst) : Sr l P S1 E s :=
  ⟨h.rea, h.wai, h.par, h.nd, h.lt, h.met, h.top, h.inj, h.ord, h.chain, h.left, h.leftL, h.allow, h2⟩
end PureNet
namespace Go.Proofs.YtfmmmhcpdinhgaaDoor
open Go.RowKit Go.Deep PureNet ShfKit
set_option maxRecDepth 100000
end Go.Proofs.YtfmmmhcpdinhgaaDoor
namespace PureNet
open Go.Proofs.YtfmmmhcpdinhgaaDoor
set_option maxRecDepth 100000
theorem Sr.start (l : List Ga) (P : Nat → Prop) : Sr l P [] (fun _ => False) s0 := by
  refine ⟨rfl, rfl, fun y => by simp [s0], by simp [s0], fun x hx => by simp [s0] at hx, fun x => by simp [s0], fun x => by simp [s0], fun x y _ h => by simp [s0] at h, fun i x y h => by simp [s0] at h, fun k a b h => by simp [s0] at h, fun k a h => by simp [s0] at h, fun a h => by simp [s0] at h, fun x hx => by simp [s0] at hx, fun x hx => by simp at hx⟩
end PureNet
namespace Go.Proofs.YtfmmmhcpdinhgaaDoor
open Go.RowKit Go.Deep PureNet ShfKit
set_option maxRecDepth 100000
end Go.Proofs.YtfmmmhcpdinhgaaDoor
namespace PureNet
open Go.Proofs.YtfmmmhcpdinhgaaDoor
set_option maxRecDepth 100000
/-- a line that has not been met is met first. -/
theorem Sr.begin {l : List Ga} {P : Nat → Prop} {S0 : List Nat} {s : Ps} (hl : ∀ (i : Nat) (g : Ga), l[i]? = some g → ∀ a ∈ leansOn g, 0 ≤ a ∧ a < (l.length : Int)) (h : Sr l P S0 (fun _ => False) s) (hw : s.way = []) {x : Nat} (hx : x < l.length) (hm : s.met x = 0) (hP : P x) : Sr l P (x :: s.out) (fun _ => False) (s.meet l x) := by
  have h1 := Sr.meet hl h (y := x) (fun z hz => hz.elim) hx hm hP (fun ws a e => by rw [hw] at e; simp at e)
  refine h1.rekeep fun z hz => ?_
  show z ∈ s.out ++ (s.way ++ [(x, leanN l x)]).map Prod.fst
  rcases List.mem_cons.1 hz with rfl | hz
  · simp
  · exact List.mem_append_left _ hz

end PureNet
namespace Go.Proofs.YtfmmmhcpdinhgaaDoor
open Go.RowKit Go.Deep PureNet ShfKit
set_option maxRecDepth 100000
set_option maxHeartbeats 4000000 in
theorem searched_any (l : List Ga) (sg : Option Addr) (cg n : Nat) (w : World) (hc : CellsAt w sg (gas l)) (hkd : KindsAt w) (hn : n = l.length) (hfew : n ≤ 65536)
    (hlines : ∀ (i : Nat) (g : Ga), l[i]? = some g → (1 ≤ g.kind ∧ g.kind ≤ 4) ∧ ∀ a ∈ leansOn g, 0 ≤ a ∧ a < (l.length : Int)) (hf : ∀ i, ¬ PureNet.Way l i i) :
    Calls Tryd.prog 64 #[.slice sg n cg] w fun e W' => ∃ p s mv rv pv wv tv ov rs, e = .returned (.pointer (some ⟨p, 0, none⟩)) ∧ Se w W' p (.slice sg n cg) n s mv rv pv wv tv ov rs ∧ Sr l (fun _ => True) [] (fun _ => False) s ∧ s.way = [] ∧ ∀ x, x < n → x ∈ s.out := by
  have hll : ∀ (i : Nat) (g : Ga), l[i]? = some g → ∀ a ∈ leansOn g, 0 ≤ a ∧ a < (l.length : Int) := fun i g hg => (hlines i g hg).2
  have HLL := hid hll
  have FR : Hid (∀ p W s mv rv pv wv tv ov rs x, x < n → Se w W p (.slice sg n cg) n s mv rv pv wv tv ov rs → s.Ok l → Sr l (fun _ => True) (x :: s.out) (fun _ => False) (s.meet l x) → _) := fun p W s mv rv pv wv tv ov rs x hx hs hok hI => from_any l sg cg n p x w W s mv rv pv wv tv ov rs hc hkd hn hfew hlines hf (fun _ => True) (fun _ _ _ _ => trivial) (x :: s.out) hx hs hok hI
  have NS := hid (newSearch_any sg cg n w hfew)
  have HN := hid hn
  clear hc hkd hn hlines hf hll
  go_enter Tryd.func64, Tryd.ntmps64
  go_wp2_with (first | (go_at_call 44; refine Calls.mono NS.out ?_; rintro e w1 ⟨p, mv, rv, pv, rfl, hs1⟩; have SE1 := hid hs1; clear hs1))
  go_loopw [9] (fun iv W => ∃ i : Nat, i ≤ n ∧ iv = .int .i64 (i : Int) ∧ Hid (∃ s wv tv ov rs, Sr l (fun _ => True) [] (fun _ => False) s ∧ s.way = [] ∧ (∀ x, x < i → x ∈ s.out) ∧ Se w W p (.slice sg n cg) n s mv rv pv wv tv ov rs)) (fun iv _ => n - (intOf iv).toNat)
  case atStart => exact ⟨0, Nat.zero_le _, rfl, s0, _, _, _, _, Sr.start l _, rfl, fun x hx => by omega, SE1.out⟩
  case round =>
    clear SE1 NS
    obtain ⟨i, hi, rfl, HR⟩ := hrel
    obtain ⟨s, wv, tv, ov, rs, hsr, hway, hall, hs⟩ := HR.out
    clear HR
    by_cases hlt : i < n
    · have c0 := hs.cell
      have hp0 := hs.size
      obtain ⟨gm, cm, hmv, _, hgms, hcm, _⟩ := hs.row (i := 0) (by omega) rfl hlt
      have SE := hid hs
      have SR := hid hsr
      have HW := hid hway
      have HA := hid hall
      have FI := hid (fun hm => FR.out p wr s mv rv pv wv tv ov rs i hlt hs (hsr.ok HLL.out) (hsr.begin HLL.out hway (by rw [← HN.out]; exact hlt) hm trivial))
      have MI := hid (hsr.met i)
      subst hmv
      clear hs hsr hway hall FR
      by_cases hmz : s.met i = 0
      · have hmb : (s.met i == 0) = true := by rw [hmz]; rfl
        have FF := hid (FI.out hmz)
        clear hmz FI
        go_wp2_with (first | (go_at_call 45; refine Calls.mono FF.out ?_; rintro e w2 ⟨⟨v, rfl⟩, s2, wv2, tv2, ov2, rs2, hsr2, hway2, hs2⟩; have SE2 := hid hs2; have SR2 := hid hsr2; have HW2 := hid hway2; clear hs2 hsr2 hway2))
        refine ⟨⟨i + 1, hlt, by go_num, s2, _, _, _, _, SR2.out.rekeep (fun x hx => by simp at hx), HW2.out, fun x hx => ?_, SE2.out⟩, by simp [intOf]; omega⟩
        have hk : x ∈ i :: s.out := by
          by_cases e : x = i
          · rw [e]; simp
          · exact List.mem_cons_of_mem _ (HA.out x (by omega))
        have := SR2.out.keep x hk
        rw [HW2.out] at this
        simpa using this
      · have hmb : (s.met i == 0) = false := beq_eq_false_iff_ne.2 hmz
        have HI : Hid (i ∈ s.out) := by
          have := MI.out.1 hmz
          rw [HW.out] at this
          show i ∈ s.out
          simpa using this
        clear hmz FI
        go_wp2
        refine ⟨⟨i + 1, hlt, by go_num, s, _, _, _, _, SR.out, HW.out, fun x hx => ?_, SE.out⟩, by simp [intOf]; omega⟩
        by_cases e : x = i
        · rw [e]; exact HI.out
        · exact HA.out x (by omega)
    · have SE := hid hs
      have SR := hid hsr
      have HW := hid hway
      have HA : Hid (∀ x, x < n → x ∈ s.out) := fun x hx => hall x (by omega)
      clear hs hsr hway hall
      go_wp2
      exact bodyPost_ret (v := .pointer (some ⟨p, 0, none⟩)) (by simp [results, Tryd.results64, go_sem]) rfl ⟨p, s, _, _, _, _, _, _, _, rfl, SE.out, SR.out, HW.out, HA.out⟩

set_option maxHeartbeats 4000000 in
theorem firstInCircle_any (l : List Ga) (sg : Option Addr) (cg n : Nat) (w : World) (hc : CellsAt w sg (gas l)) (hkd : KindsAt w) (hn : n = l.length) (hfew : n ≤ 65536)
    (hlines : ∀ (i : Nat) (g : Ga), l[i]? = some g → (1 ≤ g.kind ∧ g.kind ≤ 4) ∧ ∀ a ∈ leansOn g, 0 ≤ a ∧ a < (l.length : Int)) (hf : ∀ i, ¬ PureNet.Way l i i) :
    Calls Tryd.prog 53 #[.slice sg n cg] w fun e W' => e = .returned (.int .i64 (-1)) ∧ Below w.heap.size w W' := by
  have SD := hid (searched_any l sg cg n w hc hkd hn hfew hlines hf)
  have HC := hid hc
  have KD := hid hkd
  have HN := hid hn
  have HL := hid hlines
  have HF := hid hf
  clear hc hkd hn hlines hf
  go_enter Tryd.func53, Tryd.ntmps53
  go_wp2_with (fail)
  go_step3
  go_wp2_with (first | (go_at_call 64; refine Calls.mono SD.out ?_; rintro e w1 ⟨p, s, mv, rv, pv, wv, tv, ov, rs, rfl, hs1, hsr1, _, hall1⟩; have SE1 := hid hs1; have SR1 := hid hsr1; have HA1 := hid hall1; have c1 := hs1.cell; have hp1 := hs1.size; clear hs1 hsr1 hall1))
  have PP : Hid (∀ x, x < n → s.part x = s.met x) := fun x hx => by rw [SR1.out.par x, if_pos (HA1.out x hx)]
  have PN : Hid (∀ x y, x < n → y < n → Leans l x y → (s.part y == s.part x) = false) := fun x y hx hy hl => by
    refine beq_eq_false_iff_ne.2 fun e => ?_
    rw [PP.out x hx, PP.out y hy] at e
    have hm : s.met y ≠ 0 := (SR1.out.met y).2 (List.mem_append_left _ (HA1.out y hy))
    have := SR1.out.inj y x e hm
    subst this
    exact HF.out _ (.one hl)
  clear c1 hp1 SD
  go_loopw [14] (fun iv W => ∃ i : Nat, i ≤ n ∧ iv = .int .i64 (i : Int) ∧ Hid (Below w1.heap.size w1 W)) (fun iv _ => n - (intOf iv).toNat)
  case atStart => exact ⟨0, Nat.zero_le _, rfl, Below.refl _ _⟩
  case round =>
    obtain ⟨i, hi, rfl, HB⟩ := hrel
    by_cases hlt : i < n
    · obtain ⟨g, hg⟩ : ∃ g, l[i]? = some g := ⟨_, List.getElem?_eq_getElem (by rw [← HN.out]; exact hlt)⟩
      have bw : Below w.heap.size w wr := SE1.out.below.trans (HB.out.mono SE1.out.below.size)
      obtain ⟨gb, go, rfl, hgb, a0, a1, a2, a3, a4, a5⟩ := gate_at (HC.out.below bw) i g hg
      obtain ⟨gp, cp, hpv, _, hgps, _⟩ := SE1.out.row (i := 2) (by omega) rfl hlt
      subst hpv
      have PL := hid (pleans_any g wr (KD.out.on bw) (HL.out i g hg).1 (fun a ha => ((HL.out i g hg).2 a ha).1))
      have HG := hid hg
      have BW := hid bw
      clear hg bw
      go_wp2_with (first | (go_at_call 81; refine Calls.mono PL.out ?_; rintro e w3 ⟨lv, lr, rfl, hlf, hlo, b3⟩; have LO := hid hlo; have B3 := hid b3; obtain ⟨lq, hlq⟩ : ∃ lq, lq = ((leansOn g).map Int.toNat).length := ⟨_, rfl⟩; obtain ⟨sq, cq, hlv, hlq2, hlr⟩ := hlf; rw [← hlq] at hlv; subst hlv; have LR := hid hlr; have LQ := hid hlq; have hlq3 : lq ≤ 3 := (by rw [hlq, List.length_map]; unfold leansOn; split; (· simp); (· split <;> simp)); clear hlo b3 hlq hlq2 hlr))
      go_loopw [23] (fun kv W => ∃ k : Nat, k ≤ lq ∧ kv = .int .i64 (k : Int) ∧ Hid (Below w3.heap.size w3 W)) (fun kv _ => lq - (intOf kv).toNat)
      case atStart => exact ⟨0, Nat.zero_le _, rfl, Below.refl _ _⟩
      case round =>
        obtain ⟨k, hk, rfl, HB4⟩ := hrel
        by_cases hkl : k < lq
        · obtain ⟨y, hy⟩ : ∃ y, ((leansOn g).map Int.toNat)[k]? = some y := ⟨_, List.getElem?_eq_getElem (by rw [← LQ.out]; exact hkl)⟩
          obtain ⟨gl, kl, rfl, hgl, hrow⟩ := LR.out (fun e => by rw [e] at hy; simp at hy)
          have hly : Leans l i y := by
            refine ⟨g, HG.out, ?_⟩
            rw [List.getElem?_map, Option.map_eq_some_iff] at hy
            obtain ⟨a, ha, rfl⟩ := hy
            have hm := List.mem_of_getElem? ha
            rw [Int.toNat_of_nonneg ((HL.out i g HG.out).2 a hm).1]
            exact hm
          have hyn : y < n := by
            obtain ⟨g2, hg2, hm⟩ := hly
            have := ((HL.out i g2 hg2).2 _ hm).2
            rw [HN.out]
            omega
          have hpne := PN.out i y hlt hyn hly
          obtain ⟨g5, c5, hv5, _, hg5, hc5, _⟩ := own_cell LO.out (hrow k y hy)
          rw [hv5] at hgl
          cases hgl
          have hcy : wr.cell? ⟨g5, kl + k, none⟩ = some (.int .i64 (y : Int)) := below_cell HB4.out hg5 hc5
          have bx : Below w1.heap.size w1 wr := HB.out.trans ((B3.out.trans (HB4.out.mono B3.out.size)).mono HB.out.size)
          obtain ⟨_, _, e9, _, _, hpy, _⟩ := (SE1.out.on bx).row (i := 2) (by omega) rfl hyn
          simp only [Value.slice.injEq, Option.some.injEq, Addr.mk.injEq, and_true, true_and] at e9
          obtain ⟨rfl, rfl⟩ := e9
          obtain ⟨_, _, e9, _, _, hpi, _⟩ := (SE1.out.on bx).row (i := 2) (by omega) rfl hlt
          simp only [Value.slice.injEq, Option.some.injEq, Addr.mk.injEq, and_true, true_and] at e9
          obtain ⟨rfl, rfl⟩ := e9
          have hgls : g5 < wr.heap.size := Nat.lt_of_lt_of_le hg5 HB4.out.size
          clear hy hrow hly hv5 hc5 bx
          go_wp2
          refine wp_region_noPanic ?_
          refine wp_region_held_drew (S := fun W => W.cell? ⟨gp, y, none⟩ = some (.int .i64 (s.part y)) ∧ W.cell? ⟨gp, i, none⟩ = some (.int .i64 (s.part i))) (by kernel_rfl) ⟨hpy, hpi⟩ (fun hHeld => ?_)
          refine wpAnyH_take (i := 0) (v := ?_) (by simp only [List.getElem?_toArray, List.getElem?_cons_zero]; rfl) (by kernel_rfl) (by kernel_rfl) (by kernel_rfl) (fun _ _ _ h => h) (Or.inl ⟨by rfl, ?_⟩) (by assumption) ?_
          rotate_left 1
          · intro w hSw; (try dsimp only at hSw); go_simp; (try with_reducible rfl)
          try simp only [Act.put, List.setIfInBounds_toArray, List.set_cons_zero, List.set_cons_succ]
          refine wpAnyH_take (i := 1) (v := ?_) (by simp only [List.getElem?_toArray, List.getElem?_cons_succ, List.getElem?_cons_zero]; rfl) (by kernel_rfl) (by kernel_rfl) (by kernel_rfl) (fun _ _ _ h => h) (Or.inl ⟨by rfl, ?_⟩) (by assumption) ?_
          rotate_left 1
          · intro w hSw; (try dsimp only at hSw); go_simp; (try with_reducible rfl)
          try simp only [Act.put, List.setIfInBounds_toArray, List.set_cons_zero, List.set_cons_succ]
          refine wpAnyH_take (i := 2) (v := .pointer (some ⟨gp, y, none⟩)) (by simp only [List.getElem?_toArray, List.getElem?_cons_succ, List.getElem?_cons_zero]; rfl) (by kernel_rfl) (by kernel_rfl) (by kernel_rfl) (fun _ _ _ h => h) (Or.inl ⟨by rfl, ?_⟩) (by assumption) ?_
          · intro w hSw; (try dsimp only at hSw); (try go_simp); ((try rw [if_pos (by omega)]); (try simp); (try (intro h9; omega)))
          try simp only [Act.put, List.setIfInBounds_toArray, List.set_cons_zero, List.set_cons_succ]
          refine wpAnyH_take (i := 3) (v := ?_) (by simp only [List.getElem?_toArray, List.getElem?_cons_succ, List.getElem?_cons_zero]; rfl) (by kernel_rfl) (by kernel_rfl) (by kernel_rfl) (fun _ _ _ h => h) (Or.inl ⟨by rfl, ?_⟩) (by assumption) ?_
          rotate_left 1
          · intro w hSw; (try dsimp only at hSw); go_simp; (try with_reducible rfl)
          try simp only [Act.put, List.setIfInBounds_toArray, List.set_cons_zero, List.set_cons_succ]
          refine wpAnyH_take (i := 4) (v := ?_) (by simp only [List.getElem?_toArray, List.getElem?_cons_succ, List.getElem?_cons_zero]; rfl) (by kernel_rfl) (by kernel_rfl) (by kernel_rfl) (fun _ _ _ h => h) (Or.inl ⟨by rfl, ?_⟩) (by assumption) ?_
          rotate_left 1
          · intro w hSw; (try dsimp only at hSw); go_simp; (try with_reducible rfl)
          try simp only [Act.put, List.setIfInBounds_toArray, List.set_cons_zero, List.set_cons_succ]
          refine wpAnyH_take (i := 5) (v := ?_) (by simp only [List.getElem?_toArray, List.getElem?_cons_succ, List.getElem?_cons_zero]; rfl) (by kernel_rfl) (by kernel_rfl) (by kernel_rfl) (fun _ _ _ h => h) (Or.inl ⟨by rfl, ?_⟩) (by assumption) ?_
          rotate_left 1
          · intro w hSw; (try dsimp only at hSw); go_simp; (try with_reducible rfl)
          try simp only [Act.put, List.setIfInBounds_toArray, List.set_cons_zero, List.set_cons_succ]
          refine wpAnyH_take (i := 6) (v := .pointer (some ⟨gp, i, none⟩)) (by simp only [List.getElem?_toArray, List.getElem?_cons_succ, List.getElem?_cons_zero]; rfl) (by kernel_rfl) (by kernel_rfl) (by kernel_rfl) (fun _ _ _ h => h) (Or.inl ⟨by rfl, ?_⟩) (by assumption) ?_
          · intro w hSw; (try dsimp only at hSw); (try go_simp); ((try rw [if_pos (by omega)]); (try simp); (try (intro h9; omega)))
          try simp only [Act.put, List.setIfInBounds_toArray, List.set_cons_zero, List.set_cons_succ]
          refine wpAnyH_take (i := 7) (v := ?_) (by simp only [List.getElem?_toArray, List.getElem?_cons_succ, List.getElem?_cons_zero]; rfl) (by kernel_rfl) (by kernel_rfl) (by kernel_rfl) (fun _ _ _ h => h) (Or.inl ⟨by rfl, ?_⟩) (by assumption) ?_
          rotate_left 1
          · intro w hSw; (try dsimp only at hSw); go_simp; (try with_reducible rfl)
          try simp only [Act.put, List.setIfInBounds_toArray, List.set_cons_zero, List.set_cons_succ]
          refine wpAnyH_take (i := 8) (v := .bool false) (by simp only [List.getElem?_toArray, List.getElem?_cons_succ, List.getElem?_cons_zero]; rfl) (by kernel_rfl) (by kernel_rfl) (by kernel_rfl) (fun _ _ _ h => h) (Or.inl ⟨by rfl, ?_⟩) (by assumption) ?_
          · intro w hSw; (try dsimp only at hSw); (try go_simp); ((try rw [hpne]); (try simp))
          try simp only [Act.put, List.setIfInBounds_toArray, List.set_cons_zero, List.set_cons_succ]
          refine wpAnyH_done (by kernel_rfl) ?_ _
          refine NoPanic.normal ?_
          go_wp2
          exact ⟨⟨k + 1, hkl, by go_num, HB4.out.trans (Below.refl _ _).drew⟩, by simp [intOf]; omega⟩
        · have bx : Hid (Below w1.heap.size w1 wr) := HB.out.trans ((B3.out.trans (HB4.out.mono B3.out.size)).mono HB.out.size)
          go_wp2
          exact ⟨⟨i + 1, hlt, by go_num, bx.out⟩, by simp [intOf]; omega⟩
    · have bw : Hid (Below w.heap.size w wr) := SE1.out.below.trans (HB.out.mono SE1.out.below.size)
      go_wp2
      dsimp only [Exit.noGoto]
      refine bodyPost_ret (P := Tryd.prog) (fn := Tryd.f53) (v := .int .i64 (-1)) ?_ rfl ⟨rfl, bw.out⟩
      simp [results, Tryd.results53, go_sem]
end Go.Proofs.YtfmmmhcpdinhgaaDoor
