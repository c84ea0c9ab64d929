import Derived.Test.YtfmmmhcpdinhgabGreatDoorZ12
/-
  The search of the program from a line, where none is in a circle.
-/
namespace Go.Proofs.YtfmmmhcpdinhgabGreatDoor
open Go.RowKit Go.Deep PureNet ShfKit
set_option maxRecDepth 100000

theorem Ps.less {l : List Ga} {s : Ps} {ws : List (Nat × List Nat)} {x : Nat} (hw : s.way = ws ++ [(x, [])]) : Ps.left l.length ((s.goes ws).comeOut (ws.map Prod.fst) [] x) < Ps.left l.length s := by
  show 5 * (l.length - ((s.out ++ [x].reverse) ++ ws.map Prod.fst).length) + (ws.map fun a => a.2.length + 1).sum < 5 * (l.length - (s.out ++ s.way.map Prod.fst).length) + (s.way.map fun a => a.2.length + 1).sum
  rw [hw]
  simp
theorem stopsV_set (ws : List (Nat × List Nat)) (k : List (Value × Rw)) (y : Nat) (lf lf' : List Nat) (r : Value × Rw) (lv : Value) (hk : k.length = ws.length) : (stopsV (ws ++ [(y, lf)]) (k ++ [r])).set (ws.length * 2 + 1) lv = stopsV (ws ++ [(y, lf')]) (k ++ [(lv, r.2)]) := by
  rw [stopsV_snoc _ _ _ _ hk, stopsV_snoc _ _ _ _ hk, List.set_append_right _ _ (by rw [stopsV_len ws k hk]; omega), stopsV_len ws k hk, Nat.add_sub_cancel_left]
  rfl
section
variable {w W W' : World} {p n : Nat} {gv mv rv pv wv tv ov : Value} {s : Ps} {rs : List (Value × Rw)}
theorem Se.setLeft {gw cw : Nat} {ws : List (Nat × List Nat)} {y : Nat} {lf lf' : List Nat} {k : List (Value × Rw)} {r : Value × Rw} (h : Se w W p gv n s mv rv pv (.slice (some ⟨gw, 0, none⟩) s.way.length cw) tv ov rs) (hw : s.way = ws ++ [(y, lf)]) (hrs : rs = k ++ [r]) (hk : k.length = ws.length) (hgw : w.heap.size ≤ gw) (hr : ∃ cs, W.heap[gw]? = some (.cells cs 81 (0, 0))) (lv : Value) (hl : Lf lv r.2 lf') :
    Se w (W.setCell ⟨gw, ws.length * 2 + 1, none⟩ lv) p gv n (s.goes (ws ++ [(y, lf')])) mv rv pv (.slice (some ⟨gw, 0, none⟩) s.way.length cw) tv ov (k ++ [(lv, r.2)]) := by
  obtain ⟨cs, hr⟩ := hr
  have k2 : Kp 81 W (W.setCell ⟨gw, ws.length * 2 + 1, none⟩ lv) := Kp.setCell hr _
  have hwl : (ws ++ [(y, lf')]).length = s.way.length := by rw [hw]; simp
  have h1 := (own_set h.way (j := ws.length * 2 + 1) rfl lv).1
  rw [hw, hrs, stopsV_set ws k y lf lf' r lv hk] at h1
  refine ⟨h.below.setCell hgw _, h.pb, k2 p _ _ _ h.box (by decide), ?_, ?_, by show (k ++ [(lv, r.2)]).length = (ws ++ [(y, lf')]).length; simp [hk], fun j a q ha hq => ?_⟩
  · have e : (k ++ [(lv, r.2)]).map Prod.snd = rs.map Prod.snd := by rw [hrs]; simp
    rw [e]
    exact k2.fam h.fam (by decide)
  · show (W.setCell ⟨gw, ws.length * 2 + 1, none⟩ lv).ownsRow w.heap.size 81 2 _ (ws ++ [(y, lf')]).length (stopsV (ws ++ [(y, lf')]) (k ++ [(lv, r.2)]))
    rw [hwl, hw]
    exact h1
  · have ha : (ws ++ [(y, lf')])[j]? = some a := ha
    by_cases hj : j < ws.length
    · rw [List.getElem?_append_left hj] at ha
      rw [List.getElem?_append_left (by omega)] at hq
      exact h.lf j a q (by rw [hw, List.getElem?_append_left hj]; exact ha) (by rw [hrs, List.getElem?_append_left (by omega)]; exact hq)
    · have hj2 := (List.getElem?_eq_some_iff.1 ha).1
      rw [List.length_append, List.length_singleton] at hj2
      obtain rfl : j = ws.length := by omega
      rw [Sr.at_last] at ha
      obtain rfl := Option.some.inj ha
      rw [← hk] at hq
      simp at hq
      subst hq
      exact hl
theorem Se.leftCell {k : List (Value × Rw)} {r : Value × Rw} {g j : Nat} {u : Value} (h : Se w W p gv n s mv rv pv wv tv ov rs) (hrs : rs = k ++ [r]) (hg : r.2.1.ownBlock = some g) (hu : r.2.2.2[j]? = some u) : W.cell? ⟨g, j, none⟩ = some u ∧ g < W.heap.size := by
  have ho := h.fam.own (5 + k.length) r.2 (by
    rw [hrs, List.map_append, List.getElem?_append_right (by simp)]
    simp)
  obtain ⟨g2, c2, hv2, _, hs2, hc2, _⟩ := own_cell ho hu
  rw [hv2] at hg
  cases hg
  exact ⟨hc2, hs2⟩
end

set_option maxHeartbeats 4000000 in
theorem from_any (l : List Ga) (sg : Option Addr) (cg n p x : Nat) (w W : World) (s : Ps) (mv rv pv wv tv ov : Value) (rs : List (Value × Rw)) (hc : CellsAt w sg (gas l)) (hkd : KindsAt w) (hn : n = l.length) (hfew : n ≤ 65536)
    (hlines : ∀ (i : Nat) (g : Ga), l[i]? = some g → (1 ≤ g.kind ∧ g.kind ≤ 4) ∧ ∀ a ∈ leansOn g, 0 ≤ a ∧ a < (l.length : Int)) (hf : ∀ i, ¬ PureNet.Way l i i) (P : Nat → Prop) (hP : ∀ x y, P x → Leans l x y → P y) (S0 : List Nat)
    (hx : x < n) (hs : Se w W p (.slice sg n cg) n s mv rv pv wv tv ov rs) (hok : s.Ok l) (hI : Sr l P S0 (fun _ => False) (s.meet l x)) :
    Calls Tryz.prog 21 #[.pointer (some ⟨p, 0, none⟩), .int .i64 (x : Int)] W fun e W' => (∃ v, e = .returned v) ∧ ∃ s' wv' tv' ov' rs', Sr l P S0 (fun _ => False) s' ∧ s'.way = [] ∧ Se w W' p (.slice sg n cg) n s' mv rv pv wv' tv' ov' rs' := by
  have hll : ∀ (i : Nat) (g : Ga), l[i]? = some g → ∀ a ∈ leansOn g, 0 ≤ a ∧ a < (l.length : Int) := fun i g hg => (hlines i g hg).2
  have KE := hid (Sr.keeps hll hf P hP S0)
  have NA : Hid (∀ s ws x y lf, Sr l P S0 (fun _ => False) s → s.way = ws ++ [(x, y :: lf)] → s.met y ≠ 0 → s.part y ≠ 0) := fun s ws x y lf h hw hm => h.no_again hf hw hm
  have ME : Hid (∀ (Y : World) (s : Ps) (y : Nat) (wv tv ov : Value) (rs : List (Value × Rw)), Se w Y p (.slice sg n cg) n s mv rv pv wv tv ov rs → y < n → s.way.length ≤ n → s.out.length + s.waiting.length ≤ n → _) := fun Y s y wv tv ov rs h hy h1 h2 => meet_any l sg cg n p y w Y s mv rv pv wv tv ov rs hc hkd hn hfew (fun i g hg => ⟨(hlines i g hg).1, fun a ha => ((hlines i g hg).2 a ha).1⟩) hy h h1 h2
  have HN := hid hn
  have HI := hid hI
  have M0 := hid (ME.out W s x wv tv ov rs hs hx (by rw [hn]; exact hok.wayN) (by rw [hn]; exact hok.outN))
  clear hc hkd hn hlines hf hP hs hok hI hll
  go_enter Tryz.func21, Tryz.ntmps21
  go_wp2_with (first | (go_at_call 36; refine Calls.mono M0.out ?_; rintro e w1 ⟨⟨v, rfl⟩, wv1, tv1, rs1, hs1⟩; have SE1 := hid hs1; clear hs1))
  go_loopg [] (Ps.left l.length (s.meet l x)) (fun k W => Hid (∃ s wv tv ov rs, Sr l P S0 (fun _ => False) s ∧ k = Ps.left l.length s ∧ Se w W p (.slice sg n cg) n s mv rv pv wv tv ov rs))
  case atStart => exact ⟨_, _, _, _, _, HI.out, rfl, SE1.out⟩
  case round =>
    clear SE1 M0 HI
    obtain ⟨s, wv, tv, ov, rs, hsr, hgk, hs⟩ := hrel.out
    clear hrel
    subst hgk
    have hok := KE.out.ok s hsr
    have hwn : s.way.length ≤ n := by rw [HN.out]; exact hok.wayN
    have hon : s.out.length + s.waiting.length ≤ n := by rw [HN.out]; exact hok.outN
    have SE := hid hs
    have SR := hid hsr
    have OK := hid hok
    obtain ⟨sw, cw, rfl⟩ := hs.wv
    have c0 := hs.cell
    have hp0 := hs.size
    by_cases hw0 : s.way.length = 0
    · have HW0 : Hid (s.way = []) := List.eq_nil_of_length_eq_zero hw0
      have c4 : wr.cell? ⟨p, 4, none⟩ = some (.slice sw 0 cw) := by have := c0 4; rw [hw0] at this; exact this
      clear c0 hs hsr hok
      go_wp2
      exact bodyPost_end (results_none rfl _ _ _) rfl ⟨⟨_, rfl⟩, _, _, _, _, _, SR.out, HW0.out, SE.out⟩
    obtain ⟨ws, a, hwa, hwsl⟩ := list_last s.way (s.way.length - 1) (by omega)
    obtain ⟨y, left⟩ := a
    have hyl : y < n := by rw [HN.out]; exact (hok.way (y, left) (by rw [hwa]; simp)).1
    obtain ⟨gw, k, r, rfl, hrs, hk, hgw, hgws, a0, a1, af, hlf, hcw, hgwr⟩ := hs.lastWay hwa
    have hwl : s.way.length = ws.length + 1 := by rw [hwa]; simp
    have v0 : (0 : Int) < (s.way.length : Int) := by omega
    have v1 : IntKind.i64.wrap ((s.way.length : Int) - 1) = (ws.length : Int) := by rw [IntKind.wrap_i64]; omega
    have v2 : (ws.length : Int) < (s.way.length : Int) := by omega
    have HWA := hid hwa
    have HRS := hid hrs
    have HK := hid hk
    have HWSL := hid hwsl
    have HWL := hid hwl
    clear hwl hw0
    cases left with
    | nil =>
      obtain ⟨hb1, hb2, hb3, hb4⟩ := hsr.back hwa
      have hre : s.reached y = s.met y := by rw [hsr.rea]
      have GB : Hid (∀ Y, Below wr.heap.size wr Y → _) := fun Y hY => goBack_any (.slice sg n cg) n p y w Y s mv rv pv _ tv ov rs ws (ws.map Prod.fst) hfew hyl (SE.out.on hY) hon HWA.out hwn hre hb1 hb2 hb3
      have SB := hid hb4
      obtain ⟨sl, cl, hr1, _, _⟩ := hlf
      rw [hr1] at a1
      have LE := hid (Ps.less (l := l) hwa)
      clear hs hsr hok hwa hrs hk hwsl hb1 hb2 hb3 hb4 hre hr1
      go_wp2
      refine wp_region_noPanic ?_
      refine wp_region_held_drew (S := fun W => W.cell? ⟨p, 4, none⟩ = some (.slice (some ⟨gw, 0, none⟩) s.way.length cw)) (by kernel_rfl) (c0 4) (fun hHeld => ?_)
      refine wpAnyH_take (i := 0) (v := ?_) (by simp only [List.getElem?_toArray, List.getElem?_cons_zero]; rfl) (by kernel_rfl) (by kernel_rfl) (by kernel_rfl) (fun _ _ _ h => h) (Or.inl ⟨by rfl, ?_⟩) (by assumption) ?_
      rotate_left 1
      · intro w hSw; (try dsimp only at hSw); go_simp; (try with_reducible rfl)
      try simp only [Act.put, List.setIfInBounds_toArray, List.set_cons_zero, List.set_cons_succ]
      refine wpAnyH_take (i := 1) (v := ?_) (by simp only [List.getElem?_toArray, List.getElem?_cons_succ, List.getElem?_cons_zero]; rfl) (by kernel_rfl) (by kernel_rfl) (by kernel_rfl) (fun _ _ _ h => h) (Or.inl ⟨by rfl, ?_⟩) (by assumption) ?_
      rotate_left 1
      · intro w hSw; (try dsimp only at hSw); go_simp; (try with_reducible rfl)
      try simp only [Act.put, List.setIfInBounds_toArray, List.set_cons_zero, List.set_cons_succ]
      refine wpAnyH_take (i := 2) (v := ?_) (by simp only [List.getElem?_toArray, List.getElem?_cons_succ, List.getElem?_cons_zero]; rfl) (by kernel_rfl) (by kernel_rfl) (by kernel_rfl) (fun _ _ _ h => h) (Or.inl ⟨by rfl, ?_⟩) (by assumption) ?_
      rotate_left 1
      · intro w hSw; (try dsimp only at hSw); go_simp; (try with_reducible rfl)
      try simp only [Act.put, List.setIfInBounds_toArray, List.set_cons_zero, List.set_cons_succ]
      refine wpAnyH_take (i := 3) (v := ?_) (by simp only [List.getElem?_toArray, List.getElem?_cons_succ, List.getElem?_cons_zero]; rfl) (by kernel_rfl) (by kernel_rfl) (by kernel_rfl) (fun _ _ _ h => h) (Or.inl ⟨by rfl, ?_⟩) (by assumption) ?_
      rotate_left 1
      · intro w hSw; (try dsimp only at hSw); go_simp; (try with_reducible rfl)
      try simp only [Act.put, List.setIfInBounds_toArray, List.set_cons_zero, List.set_cons_succ]
      refine wpAnyH_take (i := 4) (v := ?_) (by simp only [List.getElem?_toArray, List.getElem?_cons_succ, List.getElem?_cons_zero]; rfl) (by kernel_rfl) (by kernel_rfl) (by kernel_rfl) (fun _ _ _ h => h) (Or.inl ⟨by rfl, ?_⟩) (by assumption) ?_
      rotate_left 1
      · intro w hSw; (try dsimp only at hSw); go_simp; (try with_reducible rfl)
      try simp only [Act.put, List.setIfInBounds_toArray, List.set_cons_zero, List.set_cons_succ]
      refine wpAnyH_take (i := 5) (v := ?_) (by simp only [List.getElem?_toArray, List.getElem?_cons_succ, List.getElem?_cons_zero]; rfl) (by kernel_rfl) (by kernel_rfl) (by kernel_rfl) (fun _ _ _ h => h) (Or.inl ⟨by rfl, ?_⟩) (by assumption) ?_
      rotate_left 1
      · intro w hSw; (try dsimp only at hSw); go_simp; (try with_reducible rfl)
      try simp only [Act.put, List.setIfInBounds_toArray, List.set_cons_zero, List.set_cons_succ]
      refine wpAnyH_take (i := 6) (v := ?_) (by simp only [List.getElem?_toArray, List.getElem?_cons_succ, List.getElem?_cons_zero]; rfl) (by kernel_rfl) (by kernel_rfl) (by kernel_rfl) (fun _ _ _ h => h) (Or.inl ⟨by rfl, ?_⟩) (by assumption) ?_
      rotate_left 1
      · intro w hSw; (try dsimp only at hSw); go_simp; (try with_reducible rfl)
      try simp only [Act.put, List.setIfInBounds_toArray, List.set_cons_zero, List.set_cons_succ]
      refine wpAnyH_take (i := 7) (v := ?_) (by simp only [List.getElem?_toArray, List.getElem?_cons_succ, List.getElem?_cons_zero]; rfl) (by kernel_rfl) (by kernel_rfl) (by kernel_rfl) (fun _ _ _ h => h) (Or.inl ⟨by rfl, ?_⟩) (by assumption) ?_
      rotate_left 1
      · intro w hSw; (try dsimp only at hSw); go_simp; (try with_reducible rfl)
      try simp only [Act.put, List.setIfInBounds_toArray, List.set_cons_zero, List.set_cons_succ]
      refine wpAnyH_take (i := 8) (v := ?_) (by simp only [List.getElem?_toArray, List.getElem?_cons_succ, List.getElem?_cons_zero]; rfl) (by kernel_rfl) (by kernel_rfl) (by kernel_rfl) (fun _ _ _ h => h) (Or.inl ⟨by rfl, ?_⟩) (by assumption) ?_
      rotate_left 1
      · intro w hSw; (try dsimp only at hSw); go_simp; (try with_reducible rfl)
      try simp only [Act.put, List.setIfInBounds_toArray, List.set_cons_zero, List.set_cons_succ]
      refine wpAnyH_take (i := 9) (v := .int .i64 (ws.length : Int)) (by simp only [List.getElem?_toArray, List.getElem?_cons_succ, List.getElem?_cons_zero]; rfl) (by kernel_rfl) (by kernel_rfl) (by kernel_rfl) (fun _ _ _ h => h) (Or.inl ⟨by rfl, ?_⟩) (by assumption) ?_
      · intro w hSw; (try dsimp only at hSw); (try go_simp); ((try rw [v1]))
      try simp only [Act.put, List.setIfInBounds_toArray, List.set_cons_zero, List.set_cons_succ]
      refine wpAnyH_take (i := 10) (v := .pointer (some ⟨gw, ws.length * 2, none⟩)) (by simp only [List.getElem?_toArray, List.getElem?_cons_succ, List.getElem?_cons_zero]; rfl) (by kernel_rfl) (by kernel_rfl) (by kernel_rfl) (fun _ _ _ h => h) (Or.inl ⟨by rfl, ?_⟩) (by assumption) ?_
      · intro w hSw; (try dsimp only at hSw); (try go_simp); ((try rw [if_pos (by omega)]); (try simp); (try (intro h9; omega)))
      try simp only [Act.put, List.setIfInBounds_toArray, List.set_cons_zero, List.set_cons_succ]
      refine wpAnyH_take (i := 11) (v := ?_) (by simp only [List.getElem?_toArray, List.getElem?_cons_succ, List.getElem?_cons_zero]; rfl) (by kernel_rfl) (by kernel_rfl) (by kernel_rfl) (fun _ _ _ h => h) (Or.inl ⟨by rfl, ?_⟩) (by assumption) ?_
      rotate_left 1
      · intro w hSw; (try dsimp only at hSw); go_simp; (try with_reducible rfl)
      try simp only [Act.put, List.setIfInBounds_toArray, List.set_cons_zero, List.set_cons_succ]
      refine wpAnyH_done (by kernel_rfl) ?_ _
      refine NoPanic.normal ?_
      go_wp2_with (first | (go_at_call 37; refine Calls.mono (GB.out _ (by exact (Below.refl _ _).drew)) ?_; rintro e w2 ⟨⟨v, rfl⟩, wv2, tv2, ov2, rs2, hs2⟩; have SE2 := hid hs2; clear hs2))
      go_roundg (Ps.left l.length ((s.goes ws).comeOut (ws.map Prod.fst) [] y))
      case measure => exact LE.out
      case rel => exact ⟨_, _, _, _, _, SB.out, rfl, SE2.out⟩
    | cons z lf =>
      obtain ⟨sl, cl, hr1, hlc, hlr⟩ := hlf
      obtain ⟨gl, kl, rfl, hgl, hrow⟩ := hlr (by simp)
      obtain ⟨hz0, hgls⟩ := hs.leftCell hrs hgl (hrow 0 z (by simp))
      rw [Nat.add_zero] at hz0
      have hzl : z < n := by rw [HN.out]; exact (hok.way (y, z :: lf) (by rw [hwa]; simp)).2 z (by simp)
      rw [hr1] at a1
      have hlc2 : lf.length + 1 ≤ cl := by simpa using hlc
      have v3 : ((lf.length : Int) + 1 == 0) = false := beq_eq_false_iff_ne.2 (by omega)
      have LF2 : Hid (∀ sn, (cl ≠ 1 → sn = some ⟨gl, kl + 1, none⟩) → Lf (.slice sn lf.length (cl - 1)) r.2 lf) := fun sn hsn => by
        refine ⟨sn, cl - 1, rfl, by omega, fun hne => ⟨gl, kl + 1, hsn ?_, hgl, fun j u hu => ?_⟩⟩
        · have : 0 < lf.length := List.length_pos_iff.2 hne
          omega
        · have := hrow (j + 1) u (by simpa using hu)
          rw [show kl + 1 + j = kl + (j + 1) by omega]
          exact this
      have SL : Hid (∀ lv, Lf lv r.2 lf → Se w (wr.setCell ⟨gw, ws.length * 2 + 1, none⟩ lv) p (.slice sg n cg) n (s.goes (ws ++ [(y, lf)])) mv rv pv (.slice (some ⟨gw, 0, none⟩) s.way.length cw) tv ov (k ++ [(lv, r.2)])) := fun lv hl => hs.setLeft hwa hrs hk hgw hgwr lv hl
      clear hs hsr hok hwa hrs hk hwsl hr1 hrow hlc hlr hgl hgwr
      have hcs : cl = 1 ∨ cl ≠ 1 := by omega
      rcases hcs with hc1 | hc1
      · have LN := hid (LF2.out (some ⟨gl, kl, none⟩) (fun h => absurd hc1 h))
        rw [hc1] at LN
        subst hc1
        obtain rfl : lf = [] := List.eq_nil_of_length_eq_zero (by omega)
        clear v3 hlc2
        obtain ⟨W1, hW1⟩ : ∃ W1, W1 = (wr.setCell ⟨gw, ws.length * 2 + 1, none⟩ (.slice (some ⟨gl, kl, none⟩) 0 0)).drew := ⟨_, rfl⟩
        have SE3 : Hid (Se w W1 p (.slice sg n cg) n (s.goes (ws ++ [(y, [])])) mv rv pv (.slice (some ⟨gw, 0, none⟩) s.way.length cw) tv ov (k ++ [(.slice (some ⟨gl, kl, none⟩) 0 0, r.2)])) := by
          have h5 := (SL.out _ LN.out).on (Below.refl _ _).drew
          rw [hW1]
          exact h5
        obtain ⟨gm, cm, hmv, _, hgms, hcm, _⟩ := SE3.out.row (i := 0) (by omega) rfl hzl
        obtain ⟨gp, cp, hpv, _, hgps, hcp, _⟩ := SE3.out.row (i := 2) (by omega) rfl hzl
        subst hmv
        subst hpv
        have c3 := SE3.out.cell
        have hp3 := SE3.out.size
        have hcm2 : W1.cell? ⟨gm, z, none⟩ = some (.int .i64 (s.met z)) := hcm
        have hcp2 : W1.cell? ⟨gp, z, none⟩ = some (.int .i64 (s.part z)) := hcp
        have HW1 := hid hW1
        have MZ : Hid (s.met z = 0 → _) := fun hm => KE.out.meet s ws y z [] SR.out HWA.out hm
        have PZ : Hid (s.met z ≠ 0 → s.part z ≠ 0 → _) := fun hm hp => KE.out.past s ws y z [] SR.out HWA.out hm hp
        have M1 := hid (fun hy h1 h2 => ME.out W1 (s.goes (ws ++ [(y, [])])) z _ tv ov _ SE3.out hy h1 h2)
        have hwn2 : (s.goes (ws ++ [(y, [])])).way.length ≤ n := by
          have h5 := HWL.out
          show (ws ++ [(y, [])]).length ≤ n
          rw [List.length_append, List.length_singleton]
          omega
        clear hcm hcp hW1 SL LF2
        by_cases hmz : s.met z = 0
        · have hmb : (s.met z == 0) = true := by rw [hmz]; rfl
          obtain ⟨hI5, hl5⟩ := MZ.out hmz
          have HI5 := hid hI5
          have HL5 := hid hl5
          have M2 := hid (M1.out hzl hwn2 hon)
          clear hI5 hl5 M1 MZ PZ hmz
          go_wp2
          refine wp_region_noPanic ?_
          refine wp_region_held_drew (S := fun W => W.cell? ⟨p, 4, none⟩ = some (.slice (some ⟨gw, 0, none⟩) s.way.length cw)) (by kernel_rfl) (c0 4) (fun hHeld => ?_)
          refine wpAnyH_take (i := 0) (v := ?_) (by simp only [List.getElem?_toArray, List.getElem?_cons_zero]; rfl) (by kernel_rfl) (by kernel_rfl) (by kernel_rfl) (fun _ _ _ h => h) (Or.inl ⟨by rfl, ?_⟩) (by assumption) ?_
          rotate_left 1
          · intro w hSw; (try dsimp only at hSw); go_simp; (try with_reducible rfl)
          try simp only [Act.put, List.setIfInBounds_toArray, List.set_cons_zero, List.set_cons_succ]
          refine wpAnyH_take (i := 1) (v := ?_) (by simp only [List.getElem?_toArray, List.getElem?_cons_succ, List.getElem?_cons_zero]; rfl) (by kernel_rfl) (by kernel_rfl) (by kernel_rfl) (fun _ _ _ h => h) (Or.inl ⟨by rfl, ?_⟩) (by assumption) ?_
          rotate_left 1
          · intro w hSw; (try dsimp only at hSw); go_simp; (try with_reducible rfl)
          try simp only [Act.put, List.setIfInBounds_toArray, List.set_cons_zero, List.set_cons_succ]
          refine wpAnyH_take (i := 2) (v := ?_) (by simp only [List.getElem?_toArray, List.getElem?_cons_succ, List.getElem?_cons_zero]; rfl) (by kernel_rfl) (by kernel_rfl) (by kernel_rfl) (fun _ _ _ h => h) (Or.inl ⟨by rfl, ?_⟩) (by assumption) ?_
          rotate_left 1
          · intro w hSw; (try dsimp only at hSw); go_simp; (try with_reducible rfl)
          try simp only [Act.put, List.setIfInBounds_toArray, List.set_cons_zero, List.set_cons_succ]
          refine wpAnyH_take (i := 3) (v := ?_) (by simp only [List.getElem?_toArray, List.getElem?_cons_succ, List.getElem?_cons_zero]; rfl) (by kernel_rfl) (by kernel_rfl) (by kernel_rfl) (fun _ _ _ h => h) (Or.inl ⟨by rfl, ?_⟩) (by assumption) ?_
          rotate_left 1
          · intro w hSw; (try dsimp only at hSw); go_simp; (try with_reducible rfl)
          try simp only [Act.put, List.setIfInBounds_toArray, List.set_cons_zero, List.set_cons_succ]
          refine wpAnyH_take (i := 4) (v := ?_) (by simp only [List.getElem?_toArray, List.getElem?_cons_succ, List.getElem?_cons_zero]; rfl) (by kernel_rfl) (by kernel_rfl) (by kernel_rfl) (fun _ _ _ h => h) (Or.inl ⟨by rfl, ?_⟩) (by assumption) ?_
          rotate_left 1
          · intro w hSw; (try dsimp only at hSw); go_simp; (try with_reducible rfl)
          try simp only [Act.put, List.setIfInBounds_toArray, List.set_cons_zero, List.set_cons_succ]
          refine wpAnyH_take (i := 5) (v := ?_) (by simp only [List.getElem?_toArray, List.getElem?_cons_succ, List.getElem?_cons_zero]; rfl) (by kernel_rfl) (by kernel_rfl) (by kernel_rfl) (fun _ _ _ h => h) (Or.inl ⟨by rfl, ?_⟩) (by assumption) ?_
          rotate_left 1
          · intro w hSw; (try dsimp only at hSw); go_simp; (try with_reducible rfl)
          try simp only [Act.put, List.setIfInBounds_toArray, List.set_cons_zero, List.set_cons_succ]
          refine wpAnyH_take (i := 6) (v := ?_) (by simp only [List.getElem?_toArray, List.getElem?_cons_succ, List.getElem?_cons_zero]; rfl) (by kernel_rfl) (by kernel_rfl) (by kernel_rfl) (fun _ _ _ h => h) (Or.inl ⟨by rfl, ?_⟩) (by assumption) ?_
          rotate_left 1
          · intro w hSw; (try dsimp only at hSw); go_simp; (try with_reducible rfl)
          try simp only [Act.put, List.setIfInBounds_toArray, List.set_cons_zero, List.set_cons_succ]
          refine wpAnyH_take (i := 7) (v := ?_) (by simp only [List.getElem?_toArray, List.getElem?_cons_succ, List.getElem?_cons_zero]; rfl) (by kernel_rfl) (by kernel_rfl) (by kernel_rfl) (fun _ _ _ h => h) (Or.inl ⟨by rfl, ?_⟩) (by assumption) ?_
          rotate_left 1
          · intro w hSw; (try dsimp only at hSw); go_simp; (try with_reducible rfl)
          try simp only [Act.put, List.setIfInBounds_toArray, List.set_cons_zero, List.set_cons_succ]
          refine wpAnyH_take (i := 8) (v := ?_) (by simp only [List.getElem?_toArray, List.getElem?_cons_succ, List.getElem?_cons_zero]; rfl) (by kernel_rfl) (by kernel_rfl) (by kernel_rfl) (fun _ _ _ h => h) (Or.inl ⟨by rfl, ?_⟩) (by assumption) ?_
          rotate_left 1
          · intro w hSw; (try dsimp only at hSw); go_simp; (try with_reducible rfl)
          try simp only [Act.put, List.setIfInBounds_toArray, List.set_cons_zero, List.set_cons_succ]
          refine wpAnyH_take (i := 9) (v := .int .i64 (ws.length : Int)) (by simp only [List.getElem?_toArray, List.getElem?_cons_succ, List.getElem?_cons_zero]; rfl) (by kernel_rfl) (by kernel_rfl) (by kernel_rfl) (fun _ _ _ h => h) (Or.inl ⟨by rfl, ?_⟩) (by assumption) ?_
          · intro w hSw; (try dsimp only at hSw); (try go_simp); ((try rw [v1]))
          try simp only [Act.put, List.setIfInBounds_toArray, List.set_cons_zero, List.set_cons_succ]
          refine wpAnyH_take (i := 10) (v := .pointer (some ⟨gw, ws.length * 2, none⟩)) (by simp only [List.getElem?_toArray, List.getElem?_cons_succ, List.getElem?_cons_zero]; rfl) (by kernel_rfl) (by kernel_rfl) (by kernel_rfl) (fun _ _ _ h => h) (Or.inl ⟨by rfl, ?_⟩) (by assumption) ?_
          · intro w hSw; (try dsimp only at hSw); (try go_simp); ((try rw [if_pos (by omega)]); (try simp); (try (intro h9; omega)))
          try simp only [Act.put, List.setIfInBounds_toArray, List.set_cons_zero, List.set_cons_succ]
          refine wpAnyH_take (i := 11) (v := ?_) (by simp only [List.getElem?_toArray, List.getElem?_cons_succ, List.getElem?_cons_zero]; rfl) (by kernel_rfl) (by kernel_rfl) (by kernel_rfl) (fun _ _ _ h => h) (Or.inl ⟨by rfl, ?_⟩) (by assumption) ?_
          rotate_left 1
          · intro w hSw; (try dsimp only at hSw); go_simp; (try with_reducible rfl)
          try simp only [Act.put, List.setIfInBounds_toArray, List.set_cons_zero, List.set_cons_succ]
          refine wpAnyH_done (by kernel_rfl) ?_ _
          refine NoPanic.normal ?_
          go_wp2_with (first | (rw [← HW1.out]) | (go_at_call 36; refine Calls.mono M2.out ?_; rintro e w4 ⟨⟨v, rfl⟩, wv4, tv4, rs4, hs4⟩; have SE4 := hid hs4; clear hs4))
          go_roundg (Ps.left l.length ((s.goes (ws ++ [(y, [])])).meet l z))
          case measure => exact HL5.out
          case rel => exact ⟨_, _, _, _, _, HI5.out, rfl, SE4.out⟩
        · have hpz := NA.out s ws y z [] SR.out HWA.out hmz
          have hmb : (s.met z == 0) = false := beq_eq_false_iff_ne.2 hmz
          have hpb : (s.part z == 0) = false := beq_eq_false_iff_ne.2 hpz
          obtain ⟨hI5, hl5⟩ := PZ.out hmz hpz
          have HI5 := hid hI5
          have HL5 := hid hl5
          clear hI5 hl5 M1 MZ PZ hmz hpz
          go_wp2
          refine wp_region_noPanic ?_
          refine wp_region_held_drew (S := fun W => W.cell? ⟨p, 4, none⟩ = some (.slice (some ⟨gw, 0, none⟩) s.way.length cw)) (by kernel_rfl) (c0 4) (fun hHeld => ?_)
          refine wpAnyH_take (i := 0) (v := ?_) (by simp only [List.getElem?_toArray, List.getElem?_cons_zero]; rfl) (by kernel_rfl) (by kernel_rfl) (by kernel_rfl) (fun _ _ _ h => h) (Or.inl ⟨by rfl, ?_⟩) (by assumption) ?_
          rotate_left 1
          · intro w hSw; (try dsimp only at hSw); go_simp; (try with_reducible rfl)
          try simp only [Act.put, List.setIfInBounds_toArray, List.set_cons_zero, List.set_cons_succ]
          refine wpAnyH_take (i := 1) (v := ?_) (by simp only [List.getElem?_toArray, List.getElem?_cons_succ, List.getElem?_cons_zero]; rfl) (by kernel_rfl) (by kernel_rfl) (by kernel_rfl) (fun _ _ _ h => h) (Or.inl ⟨by rfl, ?_⟩) (by assumption) ?_
          rotate_left 1
          · intro w hSw; (try dsimp only at hSw); go_simp; (try with_reducible rfl)
          try simp only [Act.put, List.setIfInBounds_toArray, List.set_cons_zero, List.set_cons_succ]
          refine wpAnyH_take (i := 2) (v := ?_) (by simp only [List.getElem?_toArray, List.getElem?_cons_succ, List.getElem?_cons_zero]; rfl) (by kernel_rfl) (by kernel_rfl) (by kernel_rfl) (fun _ _ _ h => h) (Or.inl ⟨by rfl, ?_⟩) (by assumption) ?_
          rotate_left 1
          · intro w hSw; (try dsimp only at hSw); go_simp; (try with_reducible rfl)
          try simp only [Act.put, List.setIfInBounds_toArray, List.set_cons_zero, List.set_cons_succ]
          refine wpAnyH_take (i := 3) (v := ?_) (by simp only [List.getElem?_toArray, List.getElem?_cons_succ, List.getElem?_cons_zero]; rfl) (by kernel_rfl) (by kernel_rfl) (by kernel_rfl) (fun _ _ _ h => h) (Or.inl ⟨by rfl, ?_⟩) (by assumption) ?_
          rotate_left 1
          · intro w hSw; (try dsimp only at hSw); go_simp; (try with_reducible rfl)
          try simp only [Act.put, List.setIfInBounds_toArray, List.set_cons_zero, List.set_cons_succ]
          refine wpAnyH_take (i := 4) (v := ?_) (by simp only [List.getElem?_toArray, List.getElem?_cons_succ, List.getElem?_cons_zero]; rfl) (by kernel_rfl) (by kernel_rfl) (by kernel_rfl) (fun _ _ _ h => h) (Or.inl ⟨by rfl, ?_⟩) (by assumption) ?_
          rotate_left 1
          · intro w hSw; (try dsimp only at hSw); go_simp; (try with_reducible rfl)
          try simp only [Act.put, List.setIfInBounds_toArray, List.set_cons_zero, List.set_cons_succ]
          refine wpAnyH_take (i := 5) (v := ?_) (by simp only [List.getElem?_toArray, List.getElem?_cons_succ, List.getElem?_cons_zero]; rfl) (by kernel_rfl) (by kernel_rfl) (by kernel_rfl) (fun _ _ _ h => h) (Or.inl ⟨by rfl, ?_⟩) (by assumption) ?_
          rotate_left 1
          · intro w hSw; (try dsimp only at hSw); go_simp; (try with_reducible rfl)
          try simp only [Act.put, List.setIfInBounds_toArray, List.set_cons_zero, List.set_cons_succ]
          refine wpAnyH_take (i := 6) (v := ?_) (by simp only [List.getElem?_toArray, List.getElem?_cons_succ, List.getElem?_cons_zero]; rfl) (by kernel_rfl) (by kernel_rfl) (by kernel_rfl) (fun _ _ _ h => h) (Or.inl ⟨by rfl, ?_⟩) (by assumption) ?_
          rotate_left 1
          · intro w hSw; (try dsimp only at hSw); go_simp; (try with_reducible rfl)
          try simp only [Act.put, List.setIfInBounds_toArray, List.set_cons_zero, List.set_cons_succ]
          refine wpAnyH_take (i := 7) (v := ?_) (by simp only [List.getElem?_toArray, List.getElem?_cons_succ, List.getElem?_cons_zero]; rfl) (by kernel_rfl) (by kernel_rfl) (by kernel_rfl) (fun _ _ _ h => h) (Or.inl ⟨by rfl, ?_⟩) (by assumption) ?_
          rotate_left 1
          · intro w hSw; (try dsimp only at hSw); go_simp; (try with_reducible rfl)
          try simp only [Act.put, List.setIfInBounds_toArray, List.set_cons_zero, List.set_cons_succ]
          refine wpAnyH_take (i := 8) (v := ?_) (by simp only [List.getElem?_toArray, List.getElem?_cons_succ, List.getElem?_cons_zero]; rfl) (by kernel_rfl) (by kernel_rfl) (by kernel_rfl) (fun _ _ _ h => h) (Or.inl ⟨by rfl, ?_⟩) (by assumption) ?_
          rotate_left 1
          · intro w hSw; (try dsimp only at hSw); go_simp; (try with_reducible rfl)
          try simp only [Act.put, List.setIfInBounds_toArray, List.set_cons_zero, List.set_cons_succ]
          refine wpAnyH_take (i := 9) (v := .int .i64 (ws.length : Int)) (by simp only [List.getElem?_toArray, List.getElem?_cons_succ, List.getElem?_cons_zero]; rfl) (by kernel_rfl) (by kernel_rfl) (by kernel_rfl) (fun _ _ _ h => h) (Or.inl ⟨by rfl, ?_⟩) (by assumption) ?_
          · intro w hSw; (try dsimp only at hSw); (try go_simp); ((try rw [v1]))
          try simp only [Act.put, List.setIfInBounds_toArray, List.set_cons_zero, List.set_cons_succ]
          refine wpAnyH_take (i := 10) (v := .pointer (some ⟨gw, ws.length * 2, none⟩)) (by simp only [List.getElem?_toArray, List.getElem?_cons_succ, List.getElem?_cons_zero]; rfl) (by kernel_rfl) (by kernel_rfl) (by kernel_rfl) (fun _ _ _ h => h) (Or.inl ⟨by rfl, ?_⟩) (by assumption) ?_
          · intro w hSw; (try dsimp only at hSw); (try go_simp); ((try rw [if_pos (by omega)]); (try simp); (try (intro h9; omega)))
          try simp only [Act.put, List.setIfInBounds_toArray, List.set_cons_zero, List.set_cons_succ]
          refine wpAnyH_take (i := 11) (v := ?_) (by simp only [List.getElem?_toArray, List.getElem?_cons_succ, List.getElem?_cons_zero]; rfl) (by kernel_rfl) (by kernel_rfl) (by kernel_rfl) (fun _ _ _ h => h) (Or.inl ⟨by rfl, ?_⟩) (by assumption) ?_
          rotate_left 1
          · intro w hSw; (try dsimp only at hSw); go_simp; (try with_reducible rfl)
          try simp only [Act.put, List.setIfInBounds_toArray, List.set_cons_zero, List.set_cons_succ]
          refine wpAnyH_done (by kernel_rfl) ?_ _
          refine NoPanic.normal ?_
          go_wp2_with (rw [← HW1.out])
          go_roundg (Ps.left l.length (s.goes (ws ++ [(y, [])])))
          case measure => exact HL5.out
          case rel => exact ⟨_, _, _, _, _, HI5.out, rfl, SE3.out⟩
      · have LN := hid (LF2.out (some ⟨gl, kl + 1, none⟩) (fun _ => rfl))
        obtain ⟨W1, hW1⟩ : ∃ W1, W1 = (wr.setCell ⟨gw, ws.length * 2 + 1, none⟩ (.slice (some ⟨gl, kl + 1, none⟩) lf.length (cl - 1))).drew := ⟨_, rfl⟩
        have SE3 : Hid (Se w W1 p (.slice sg n cg) n (s.goes (ws ++ [(y, lf)])) mv rv pv (.slice (some ⟨gw, 0, none⟩) s.way.length cw) tv ov (k ++ [(.slice (some ⟨gl, kl + 1, none⟩) lf.length (cl - 1), r.2)])) := by
          have h5 := (SL.out _ LN.out).on (Below.refl _ _).drew
          rw [hW1]
          exact h5
        obtain ⟨gm, cm, hmv, _, hgms, hcm, _⟩ := SE3.out.row (i := 0) (by omega) rfl hzl
        obtain ⟨gp, cp, hpv, _, hgps, hcp, _⟩ := SE3.out.row (i := 2) (by omega) rfl hzl
        subst hmv
        subst hpv
        have c3 := SE3.out.cell
        have hp3 := SE3.out.size
        have hcm2 : W1.cell? ⟨gm, z, none⟩ = some (.int .i64 (s.met z)) := hcm
        have hcp2 : W1.cell? ⟨gp, z, none⟩ = some (.int .i64 (s.part z)) := hcp
        have HW1 := hid hW1
        have MZ : Hid (s.met z = 0 → _) := fun hm => KE.out.meet s ws y z lf SR.out HWA.out hm
        have PZ : Hid (s.met z ≠ 0 → s.part z ≠ 0 → _) := fun hm hp => KE.out.past s ws y z lf SR.out HWA.out hm hp
        have M1 := hid (fun hy h1 h2 => ME.out W1 (s.goes (ws ++ [(y, lf)])) z _ tv ov _ SE3.out hy h1 h2)
        have hwn2 : (s.goes (ws ++ [(y, lf)])).way.length ≤ n := by
          have h5 := HWL.out
          show (ws ++ [(y, lf)]).length ≤ n
          rw [List.length_append, List.length_singleton]
          omega
        clear hcm hcp hW1 SL LF2
        by_cases hmz : s.met z = 0
        · have hmb : (s.met z == 0) = true := by rw [hmz]; rfl
          obtain ⟨hI5, hl5⟩ := MZ.out hmz
          have HI5 := hid hI5
          have HL5 := hid hl5
          have M2 := hid (M1.out hzl hwn2 hon)
          clear hI5 hl5 M1 MZ PZ hmz
          go_wp2
          refine wp_region_noPanic ?_
          refine wp_region_held_drew (S := fun W => W.cell? ⟨p, 4, none⟩ = some (.slice (some ⟨gw, 0, none⟩) s.way.length cw)) (by kernel_rfl) (c0 4) (fun hHeld => ?_)
          refine wpAnyH_take (i := 0) (v := ?_) (by simp only [List.getElem?_toArray, List.getElem?_cons_zero]; rfl) (by kernel_rfl) (by kernel_rfl) (by kernel_rfl) (fun _ _ _ h => h) (Or.inl ⟨by rfl, ?_⟩) (by assumption) ?_
          rotate_left 1
          · intro w hSw; (try dsimp only at hSw); go_simp; (try with_reducible rfl)
          try simp only [Act.put, List.setIfInBounds_toArray, List.set_cons_zero, List.set_cons_succ]
          refine wpAnyH_take (i := 1) (v := ?_) (by simp only [List.getElem?_toArray, List.getElem?_cons_succ, List.getElem?_cons_zero]; rfl) (by kernel_rfl) (by kernel_rfl) (by kernel_rfl) (fun _ _ _ h => h) (Or.inl ⟨by rfl, ?_⟩) (by assumption) ?_
          rotate_left 1
          · intro w hSw; (try dsimp only at hSw); go_simp; (try with_reducible rfl)
          try simp only [Act.put, List.setIfInBounds_toArray, List.set_cons_zero, List.set_cons_succ]
          refine wpAnyH_take (i := 2) (v := ?_) (by simp only [List.getElem?_toArray, List.getElem?_cons_succ, List.getElem?_cons_zero]; rfl) (by kernel_rfl) (by kernel_rfl) (by kernel_rfl) (fun _ _ _ h => h) (Or.inl ⟨by rfl, ?_⟩) (by assumption) ?_
          rotate_left 1
          · intro w hSw; (try dsimp only at hSw); go_simp; (try with_reducible rfl)
          try simp only [Act.put, List.setIfInBounds_toArray, List.set_cons_zero, List.set_cons_succ]
          refine wpAnyH_take (i := 3) (v := ?_) (by simp only [List.getElem?_toArray, List.getElem?_cons_succ, List.getElem?_cons_zero]; rfl) (by kernel_rfl) (by kernel_rfl) (by kernel_rfl) (fun _ _ _ h => h) (Or.inl ⟨by rfl, ?_⟩) (by assumption) ?_
          rotate_left 1
          · intro w hSw; (try dsimp only at hSw); go_simp; (try with_reducible rfl)
          try simp only [Act.put, List.setIfInBounds_toArray, List.set_cons_zero, List.set_cons_succ]
          refine wpAnyH_take (i := 4) (v := ?_) (by simp only [List.getElem?_toArray, List.getElem?_cons_succ, List.getElem?_cons_zero]; rfl) (by kernel_rfl) (by kernel_rfl) (by kernel_rfl) (fun _ _ _ h => h) (Or.inl ⟨by rfl, ?_⟩) (by assumption) ?_
          rotate_left 1
          · intro w hSw; (try dsimp only at hSw); go_simp; (try with_reducible rfl)
          try simp only [Act.put, List.setIfInBounds_toArray, List.set_cons_zero, List.set_cons_succ]
          refine wpAnyH_take (i := 5) (v := ?_) (by simp only [List.getElem?_toArray, List.getElem?_cons_succ, List.getElem?_cons_zero]; rfl) (by kernel_rfl) (by kernel_rfl) (by kernel_rfl) (fun _ _ _ h => h) (Or.inl ⟨by rfl, ?_⟩) (by assumption) ?_
          rotate_left 1
          · intro w hSw; (try dsimp only at hSw); go_simp; (try with_reducible rfl)
          try simp only [Act.put, List.setIfInBounds_toArray, List.set_cons_zero, List.set_cons_succ]
          refine wpAnyH_take (i := 6) (v := ?_) (by simp only [List.getElem?_toArray, List.getElem?_cons_succ, List.getElem?_cons_zero]; rfl) (by kernel_rfl) (by kernel_rfl) (by kernel_rfl) (fun _ _ _ h => h) (Or.inl ⟨by rfl, ?_⟩) (by assumption) ?_
          rotate_left 1
          · intro w hSw; (try dsimp only at hSw); go_simp; (try with_reducible rfl)
          try simp only [Act.put, List.setIfInBounds_toArray, List.set_cons_zero, List.set_cons_succ]
          refine wpAnyH_take (i := 7) (v := ?_) (by simp only [List.getElem?_toArray, List.getElem?_cons_succ, List.getElem?_cons_zero]; rfl) (by kernel_rfl) (by kernel_rfl) (by kernel_rfl) (fun _ _ _ h => h) (Or.inl ⟨by rfl, ?_⟩) (by assumption) ?_
          rotate_left 1
          · intro w hSw; (try dsimp only at hSw); go_simp; (try with_reducible rfl)
          try simp only [Act.put, List.setIfInBounds_toArray, List.set_cons_zero, List.set_cons_succ]
          refine wpAnyH_take (i := 8) (v := ?_) (by simp only [List.getElem?_toArray, List.getElem?_cons_succ, List.getElem?_cons_zero]; rfl) (by kernel_rfl) (by kernel_rfl) (by kernel_rfl) (fun _ _ _ h => h) (Or.inl ⟨by rfl, ?_⟩) (by assumption) ?_
          rotate_left 1
          · intro w hSw; (try dsimp only at hSw); go_simp; (try with_reducible rfl)
          try simp only [Act.put, List.setIfInBounds_toArray, List.set_cons_zero, List.set_cons_succ]
          refine wpAnyH_take (i := 9) (v := .int .i64 (ws.length : Int)) (by simp only [List.getElem?_toArray, List.getElem?_cons_succ, List.getElem?_cons_zero]; rfl) (by kernel_rfl) (by kernel_rfl) (by kernel_rfl) (fun _ _ _ h => h) (Or.inl ⟨by rfl, ?_⟩) (by assumption) ?_
          · intro w hSw; (try dsimp only at hSw); (try go_simp); ((try rw [v1]))
          try simp only [Act.put, List.setIfInBounds_toArray, List.set_cons_zero, List.set_cons_succ]
          refine wpAnyH_take (i := 10) (v := .pointer (some ⟨gw, ws.length * 2, none⟩)) (by simp only [List.getElem?_toArray, List.getElem?_cons_succ, List.getElem?_cons_zero]; rfl) (by kernel_rfl) (by kernel_rfl) (by kernel_rfl) (fun _ _ _ h => h) (Or.inl ⟨by rfl, ?_⟩) (by assumption) ?_
          · intro w hSw; (try dsimp only at hSw); (try go_simp); ((try rw [if_pos (by omega)]); (try simp); (try (intro h9; omega)))
          try simp only [Act.put, List.setIfInBounds_toArray, List.set_cons_zero, List.set_cons_succ]
          refine wpAnyH_take (i := 11) (v := ?_) (by simp only [List.getElem?_toArray, List.getElem?_cons_succ, List.getElem?_cons_zero]; rfl) (by kernel_rfl) (by kernel_rfl) (by kernel_rfl) (fun _ _ _ h => h) (Or.inl ⟨by rfl, ?_⟩) (by assumption) ?_
          rotate_left 1
          · intro w hSw; (try dsimp only at hSw); go_simp; (try with_reducible rfl)
          try simp only [Act.put, List.setIfInBounds_toArray, List.set_cons_zero, List.set_cons_succ]
          refine wpAnyH_done (by kernel_rfl) ?_ _
          refine NoPanic.normal ?_
          go_wp2_with (first | (rw [← HW1.out]) | (go_at_call 36; refine Calls.mono M2.out ?_; rintro e w4 ⟨⟨v, rfl⟩, wv4, tv4, rs4, hs4⟩; have SE4 := hid hs4; clear hs4))
          go_roundg (Ps.left l.length ((s.goes (ws ++ [(y, lf)])).meet l z))
          case measure => exact HL5.out
          case rel => exact ⟨_, _, _, _, _, HI5.out, rfl, SE4.out⟩
        · have hpz := NA.out s ws y z lf SR.out HWA.out hmz
          have hmb : (s.met z == 0) = false := beq_eq_false_iff_ne.2 hmz
          have hpb : (s.part z == 0) = false := beq_eq_false_iff_ne.2 hpz
          obtain ⟨hI5, hl5⟩ := PZ.out hmz hpz
          have HI5 := hid hI5
          have HL5 := hid hl5
          clear hI5 hl5 M1 MZ PZ hmz hpz
          go_wp2
          refine wp_region_noPanic ?_
          refine wp_region_held_drew (S := fun W => W.cell? ⟨p, 4, none⟩ = some (.slice (some ⟨gw, 0, none⟩) s.way.length cw)) (by kernel_rfl) (c0 4) (fun hHeld => ?_)
          refine wpAnyH_take (i := 0) (v := ?_) (by simp only [List.getElem?_toArray, List.getElem?_cons_zero]; rfl) (by kernel_rfl) (by kernel_rfl) (by kernel_rfl) (fun _ _ _ h => h) (Or.inl ⟨by rfl, ?_⟩) (by assumption) ?_
          rotate_left 1
          · intro w hSw; (try dsimp only at hSw); go_simp; (try with_reducible rfl)
          try simp only [Act.put, List.setIfInBounds_toArray, List.set_cons_zero, List.set_cons_succ]
          refine wpAnyH_take (i := 1) (v := ?_) (by simp only [List.getElem?_toArray, List.getElem?_cons_succ, List.getElem?_cons_zero]; rfl) (by kernel_rfl) (by kernel_rfl) (by kernel_rfl) (fun _ _ _ h => h) (Or.inl ⟨by rfl, ?_⟩) (by assumption) ?_
          rotate_left 1
          · intro w hSw; (try dsimp only at hSw); go_simp; (try with_reducible rfl)
          try simp only [Act.put, List.setIfInBounds_toArray, List.set_cons_zero, List.set_cons_succ]
          refine wpAnyH_take (i := 2) (v := ?_) (by simp only [List.getElem?_toArray, List.getElem?_cons_succ, List.getElem?_cons_zero]; rfl) (by kernel_rfl) (by kernel_rfl) (by kernel_rfl) (fun _ _ _ h => h) (Or.inl ⟨by rfl, ?_⟩) (by assumption) ?_
          rotate_left 1
          · intro w hSw; (try dsimp only at hSw); go_simp; (try with_reducible rfl)
          try simp only [Act.put, List.setIfInBounds_toArray, List.set_cons_zero, List.set_cons_succ]
          refine wpAnyH_take (i := 3) (v := ?_) (by simp only [List.getElem?_toArray, List.getElem?_cons_succ, List.getElem?_cons_zero]; rfl) (by kernel_rfl) (by kernel_rfl) (by kernel_rfl) (fun _ _ _ h => h) (Or.inl ⟨by rfl, ?_⟩) (by assumption) ?_
          rotate_left 1
          · intro w hSw; (try dsimp only at hSw); go_simp; (try with_reducible rfl)
          try simp only [Act.put, List.setIfInBounds_toArray, List.set_cons_zero, List.set_cons_succ]
          refine wpAnyH_take (i := 4) (v := ?_) (by simp only [List.getElem?_toArray, List.getElem?_cons_succ, List.getElem?_cons_zero]; rfl) (by kernel_rfl) (by kernel_rfl) (by kernel_rfl) (fun _ _ _ h => h) (Or.inl ⟨by rfl, ?_⟩) (by assumption) ?_
          rotate_left 1
          · intro w hSw; (try dsimp only at hSw); go_simp; (try with_reducible rfl)
          try simp only [Act.put, List.setIfInBounds_toArray, List.set_cons_zero, List.set_cons_succ]
          refine wpAnyH_take (i := 5) (v := ?_) (by simp only [List.getElem?_toArray, List.getElem?_cons_succ, List.getElem?_cons_zero]; rfl) (by kernel_rfl) (by kernel_rfl) (by kernel_rfl) (fun _ _ _ h => h) (Or.inl ⟨by rfl, ?_⟩) (by assumption) ?_
          rotate_left 1
          · intro w hSw; (try dsimp only at hSw); go_simp; (try with_reducible rfl)
          try simp only [Act.put, List.setIfInBounds_toArray, List.set_cons_zero, List.set_cons_succ]
          refine wpAnyH_take (i := 6) (v := ?_) (by simp only [List.getElem?_toArray, List.getElem?_cons_succ, List.getElem?_cons_zero]; rfl) (by kernel_rfl) (by kernel_rfl) (by kernel_rfl) (fun _ _ _ h => h) (Or.inl ⟨by rfl, ?_⟩) (by assumption) ?_
          rotate_left 1
          · intro w hSw; (try dsimp only at hSw); go_simp; (try with_reducible rfl)
          try simp only [Act.put, List.setIfInBounds_toArray, List.set_cons_zero, List.set_cons_succ]
          refine wpAnyH_take (i := 7) (v := ?_) (by simp only [List.getElem?_toArray, List.getElem?_cons_succ, List.getElem?_cons_zero]; rfl) (by kernel_rfl) (by kernel_rfl) (by kernel_rfl) (fun _ _ _ h => h) (Or.inl ⟨by rfl, ?_⟩) (by assumption) ?_
          rotate_left 1
          · intro w hSw; (try dsimp only at hSw); go_simp; (try with_reducible rfl)
          try simp only [Act.put, List.setIfInBounds_toArray, List.set_cons_zero, List.set_cons_succ]
          refine wpAnyH_take (i := 8) (v := ?_) (by simp only [List.getElem?_toArray, List.getElem?_cons_succ, List.getElem?_cons_zero]; rfl) (by kernel_rfl) (by kernel_rfl) (by kernel_rfl) (fun _ _ _ h => h) (Or.inl ⟨by rfl, ?_⟩) (by assumption) ?_
          rotate_left 1
          · intro w hSw; (try dsimp only at hSw); go_simp; (try with_reducible rfl)
          try simp only [Act.put, List.setIfInBounds_toArray, List.set_cons_zero, List.set_cons_succ]
          refine wpAnyH_take (i := 9) (v := .int .i64 (ws.length : Int)) (by simp only [List.getElem?_toArray, List.getElem?_cons_succ, List.getElem?_cons_zero]; rfl) (by kernel_rfl) (by kernel_rfl) (by kernel_rfl) (fun _ _ _ h => h) (Or.inl ⟨by rfl, ?_⟩) (by assumption) ?_
          · intro w hSw; (try dsimp only at hSw); (try go_simp); ((try rw [v1]))
          try simp only [Act.put, List.setIfInBounds_toArray, List.set_cons_zero, List.set_cons_succ]
          refine wpAnyH_take (i := 10) (v := .pointer (some ⟨gw, ws.length * 2, none⟩)) (by simp only [List.getElem?_toArray, List.getElem?_cons_succ, List.getElem?_cons_zero]; rfl) (by kernel_rfl) (by kernel_rfl) (by kernel_rfl) (fun _ _ _ h => h) (Or.inl ⟨by rfl, ?_⟩) (by assumption) ?_
          · intro w hSw; (try dsimp only at hSw); (try go_simp); ((try rw [if_pos (by omega)]); (try simp); (try (intro h9; omega)))
          try simp only [Act.put, List.setIfInBounds_toArray, List.set_cons_zero, List.set_cons_succ]
          refine wpAnyH_take (i := 11) (v := ?_) (by simp only [List.getElem?_toArray, List.getElem?_cons_succ, List.getElem?_cons_zero]; rfl) (by kernel_rfl) (by kernel_rfl) (by kernel_rfl) (fun _ _ _ h => h) (Or.inl ⟨by rfl, ?_⟩) (by assumption) ?_
          rotate_left 1
          · intro w hSw; (try dsimp only at hSw); go_simp; (try with_reducible rfl)
          try simp only [Act.put, List.setIfInBounds_toArray, List.set_cons_zero, List.set_cons_succ]
          refine wpAnyH_done (by kernel_rfl) ?_ _
          refine NoPanic.normal ?_
          go_wp2_with (rw [← HW1.out])
          go_roundg (Ps.left l.length (s.goes (ws ++ [(y, lf)])))
          case measure => exact HL5.out
          case rel => exact ⟨_, _, _, _, _, HI5.out, rfl, SE3.out⟩
end Go.Proofs.YtfmmmhcpdinhgabGreatDoor
