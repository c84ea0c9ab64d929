/-
  The search of the program: back from a line.
-/
import Derived.Test.YtfmmmhcpdinhgaaDoorS5
import Derived.BigQuiet
namespace Go.Proofs.YtfmmmhcpdinhgaaDoor
open Go.RowKit Go.Deep PureNet ShfKit
set_option maxRecDepth 100000

theorem list_last {α : Type} (l : List α) (m : Nat) (h : l.length = m + 1) : ∃ k r, l = k ++ [r] ∧ k.length = m := by
  have hne : l ≠ [] := fun e => by rw [e] at h; simp at h
  exact ⟨l.dropLast, l.getLast hne, (List.dropLast_concat_getLast hne).symm, by rw [List.length_dropLast]; omega⟩
section
variable {w W W' : World} {p n : Nat} {gv mv rv pv wv tv ov : Value} {s : Ps} {rs : List (Value × Rw)}
theorem Se.lastWay {sw : Option Addr} {cw : Nat} {ws : List (Nat × List Nat)} {a : Nat × List Nat} (h : Se w W p gv n s mv rv pv (.slice sw s.way.length cw) tv ov rs) (hw : s.way = ws ++ [a]) :
    ∃ gw k r, sw = some ⟨gw, 0, none⟩ ∧ rs = k ++ [r] ∧ k.length = ws.length ∧ w.heap.size ≤ gw ∧ gw < W.heap.size ∧ W.cell? ⟨gw, ws.length * 2, none⟩ = some (.int .i64 (a.1 : Int)) ∧ W.cell? ⟨gw, ws.length * 2 + 1, none⟩ = some r.1 ∧ W.frozen? ⟨gw, ws.length * 2 + 1, none⟩ = false ∧ Lf r.1 r.2 a.2 ∧ s.way.length ≤ cw ∧ ∃ cs, W.heap[gw]? = some (.cells cs 100 (0, 0)) := by
  have hl : rs.length = ws.length + 1 := by rw [h.rsn, hw]; simp
  obtain ⟨k, r, hrs, hk⟩ := list_last rs ws.length hl
  have hst : stopsV s.way rs = stopsV ws k ++ [.int .i64 (a.1 : Int), r.1] := by rw [hw, hrs]; exact stopsV_snoc ws k a r hk
  have hsl := stopsV_len ws k hk
  have e0 : (stopsV s.way rs)[ws.length * 2]? = some (.int .i64 (a.1 : Int)) := by
    rw [hst, List.getElem?_append_right (by omega), hsl, Nat.sub_self]; rfl
  have e1 : (stopsV s.way rs)[ws.length * 2 + 1]? = some r.1 := by
    rw [hst, List.getElem?_append_right (by omega), hsl, Nat.add_sub_cancel_left]; rfl
  have ho := h.way
  rcases ho.2 with ⟨hv, h0⟩ | ⟨g, cap, cur, hv, hb, hr, hnc, _⟩
  · rw [hw] at h0; simp at h0
  · obtain ⟨g1, c1, hv1, _, hg1, hc1, _⟩ := own_cell ho e0
    obtain ⟨g2, c2, hv2, _, _, hc2, hf2⟩ := own_cell ho e1
    simp only [Value.slice.injEq] at hv hv1 hv2
    obtain ⟨e1, _, e3⟩ := hv
    rw [e1] at hv1 hv2
    simp only [Option.some.injEq, Addr.mk.injEq, and_true] at hv1 hv2
    obtain ⟨rfl, _⟩ := hv1
    obtain ⟨rfl, _⟩ := hv2
    exact ⟨g, k, r, e1, hrs, hk, hb, hg1, hc1, hc2, hf2, h.lf ws.length a r (by rw [hw]; simp) (by rw [hrs, ← hk]; simp), by rw [e3]; exact hnc, _, hr⟩
theorem Se.cutWay {sw : Option Addr} {cw : Nat} {ws : List (Nat × List Nat)} {a : Nat × List Nat} {k : List (Value × Rw)} {r : Value × Rw} (h : Se w W p gv n s mv rv pv (.slice sw s.way.length cw) tv ov rs) (hw : s.way = ws ++ [a]) (hrs : rs = k ++ [r]) (hk : k.length = ws.length) :
    Se w (W.setCell ⟨p, 4, none⟩ (.slice sw ws.length cw)) p gv n (s.goes ws) mv rv pv (.slice sw ws.length cw) tv ov k := by
  have k2 : Kp 78 W (W.setCell ⟨p, 4, none⟩ (.slice sw ws.length cw)) := Kp.setCell h.box _
  have hst : stopsV s.way rs = stopsV ws k ++ [.int .i64 (a.1 : Int), r.1] := by rw [hw, hrs]; exact stopsV_snoc ws k a r hk
  have hc := own_cut h.way (m := ws.length) (by rw [hw]; simp)
  rw [hst, show (stopsV ws k ++ [.int .i64 (a.1 : Int), r.1]).take (ws.length * 2) = stopsV ws k by rw [← stopsV_len ws k hk]; exact List.take_left' rfl] at hc
  refine ⟨h.below.setCell h.pb _, h.pb, row_set h.box, ?_, k2.own hc (by decide), hk, fun j b q hb hq => ?_⟩
  · have hF := Fam.take h.fam (5 + k.length)
    have e : ([(mv, n, rowF n s.met), (rv, n, rowF n s.reached), (pv, n, rowF n s.part), (tv, s.waiting.length, placesV s.waiting), (ov, s.out.length, placesV s.out)] ++ rs.map Prod.snd).take (5 + k.length) = [(mv, n, rowF n s.met), (rv, n, rowF n s.reached), (pv, n, rowF n s.part), (tv, s.waiting.length, placesV s.waiting), (ov, s.out.length, placesV s.out)] ++ k.map Prod.snd := by
      rw [hrs, List.map_append, ← List.append_assoc]
      exact List.take_left' (by simp; omega)
    rw [e] at hF
    exact k2.fam hF (by decide)
  · have hb : ws[j]? = some b := hb
    have hj := (List.getElem?_eq_some_iff.1 hb).1
    refine h.lf j b q (by rw [hw, List.getElem?_append_left hj]; exact hb) ?_
    rw [hrs, List.getElem?_append_left (by omega)]
    exact hq
end

set_option maxHeartbeats 2000000 in
theorem goBack_any (gv : Value) (n p x : Nat) (w W : World) (s : Ps) (mv rv pv wv tv ov : Value) (rs : List (Value × Rw)) (ws : List (Nat × List Nat)) (pre : List Nat) (hfew : n ≤ 65536) (hx : x < n) (hs : Se w W p gv n s mv rv pv wv tv ov rs) (ho : s.out.length + s.waiting.length ≤ n)
    (hway : s.way = ws ++ [(x, [])]) (hwn : s.way.length ≤ n) (hre : s.reached x = s.met x) (hw : s.waiting = pre ++ [x]) (hp : s.part x = 0) (hm : s.met x ≠ 0) :
    Calls Tryd.prog 71 #[.pointer (some ⟨p, 0, none⟩)] W fun e W' => (∃ v, e = .returned v) ∧ ∃ wv' tv' ov' rs', Se w W' p gv n ((s.goes ws).comeOut pre [] x) mv rv pv wv' tv' ov' rs' := by
  obtain ⟨sw, cw, rfl⟩ := hs.wv
  obtain ⟨gw, k, r, rfl, hrs, hk, hgw, hgws, a0, _, _, _, hcw, _⟩ := hs.lastWay hway
  have c0 := hs.cell
  have f0 := fun j => unfrozen_row hs.box j
  have hp0 := hs.size
  obtain ⟨W1, hW1⟩ : ∃ W1, W1 = W.setCell ⟨p, 4, none⟩ (.slice (some ⟨gw, 0, none⟩) ws.length cw) := ⟨_, rfl⟩
  have SE1 : Hid (Se w W1 p gv n (s.goes ws) mv rv pv (.slice (some ⟨gw, 0, none⟩) ws.length cw) tv ov k) := by rw [hW1]; exact hs.cutWay hway hrs hk
  obtain ⟨gr, cr, hrv, _, hgrs, hcr, _⟩ := SE1.out.row (i := 1) (by omega) rfl hx
  obtain ⟨gm, cm, hmv, _, hgms, hcm, _⟩ := SE1.out.row (i := 0) (by omega) rfl hx
  have CO : Hid (∀ Y, Below W1.heap.size W1 Y → _) := fun Y hY => comeOut_any gv n p x w Y (s.goes ws) mv rv pv _ tv ov k pre hfew hx (SE1.out.on hY) ho hw hp hm
  have hcr2 : W1.cell? ⟨gr, x, none⟩ = some (.int .i64 (s.met x)) := by rw [← hre]; exact hcr
  have hcm2 : W1.cell? ⟨gm, x, none⟩ = some (.int .i64 (s.met x)) := hcm
  have c1 := SE1.out.cell
  have hp1 := SE1.out.size
  have hwl : s.way.length = ws.length + 1 := by rw [hway]; simp
  have v1 : IntKind.i64.wrap ((s.way.length : Int) - 1) = (ws.length : Int) := by rw [IntKind.wrap_i64]; omega
  have v2 : (ws.length : Int) < (s.way.length : Int) := by omega
  have v3 : ws.length < s.way.length := by omega
  have v4 : ws.length ≤ cw := by omega
  subst hrv
  subst hmv
  have HW1 := hid hW1
  clear hs hway hrs hre hw hp hm hW1 hcr hcm
  go_enter Tryd.func71, Tryd.ntmps71
  go_wp2_with (first | (rw [← HW1.out]))
  refine wp_region_noPanic ?_
  refine wp_region_held_drew (S := fun W => W.cell? ⟨p, 2, none⟩ = some (.slice (some ⟨gr, 0, none⟩) n cr) ∧ W.cell? ⟨p, 1, none⟩ = some (.slice (some ⟨gm, 0, none⟩) n cm) ∧ W.cell? ⟨gr, x, none⟩ = some (.int .i64 (s.met x)) ∧ W.cell? ⟨gm, x, none⟩ = some (.int .i64 (s.met x))) (by kernel_rfl) ⟨c1 2, c1 1, hcr2, hcm2⟩ (fun hHeld => ?_)
  refine wpAnyH_take (i := 0) (v := ?_) (by simp only [List.getElem?_toArray, List.getElem?_cons_zero]; rfl) (by kernel_rfl) (by kernel_rfl) (by kernel_rfl) (fun _ _ _ h => h) (Or.inl ⟨by rfl, ?_⟩) (by assumption) ?_
  rotate_left 1
  · intro w hSw; (try dsimp only at hSw); go_simp; (try with_reducible rfl)
  try simp only [Act.put, List.setIfInBounds_toArray, List.set_cons_zero, List.set_cons_succ]
  refine wpAnyH_take (i := 1) (v := ?_) (by simp only [List.getElem?_toArray, List.getElem?_cons_succ, List.getElem?_cons_zero]; rfl) (by kernel_rfl) (by kernel_rfl) (by kernel_rfl) (fun _ _ _ h => h) (Or.inl ⟨by rfl, ?_⟩) (by assumption) ?_
  rotate_left 1
  · intro w hSw; (try dsimp only at hSw); go_simp; (try with_reducible rfl)
  try simp only [Act.put, List.setIfInBounds_toArray, List.set_cons_zero, List.set_cons_succ]
  refine wpAnyH_take (i := 2) (v := ?_) (by simp only [List.getElem?_toArray, List.getElem?_cons_succ, List.getElem?_cons_zero]; rfl) (by kernel_rfl) (by kernel_rfl) (by kernel_rfl) (fun _ _ _ h => h) (Or.inl ⟨by rfl, ?_⟩) (by assumption) ?_
  rotate_left 1
  · intro w hSw; (try dsimp only at hSw); go_simp; (try with_reducible rfl)
  try simp only [Act.put, List.setIfInBounds_toArray, List.set_cons_zero, List.set_cons_succ]
  refine wpAnyH_take (i := 3) (v := ?_) (by simp only [List.getElem?_toArray, List.getElem?_cons_succ, List.getElem?_cons_zero]; rfl) (by kernel_rfl) (by kernel_rfl) (by kernel_rfl) (fun _ _ _ h => h) (Or.inl ⟨by rfl, ?_⟩) (by assumption) ?_
  rotate_left 1
  · intro w hSw; (try dsimp only at hSw); go_simp; (try with_reducible rfl)
  try simp only [Act.put, List.setIfInBounds_toArray, List.set_cons_zero, List.set_cons_succ]
  refine wpAnyH_take (i := 4) (v := ?_) (by simp only [List.getElem?_toArray, List.getElem?_cons_succ, List.getElem?_cons_zero]; rfl) (by kernel_rfl) (by kernel_rfl) (by kernel_rfl) (fun _ _ _ h => h) (Or.inl ⟨by rfl, ?_⟩) (by assumption) ?_
  rotate_left 1
  · intro w hSw; (try dsimp only at hSw); go_simp; (try with_reducible rfl)
  try simp only [Act.put, List.setIfInBounds_toArray, List.set_cons_zero, List.set_cons_succ]
  refine wpAnyH_take (i := 5) (v := .pointer (some ⟨gr, x, none⟩)) (by simp only [List.getElem?_toArray, List.getElem?_cons_succ, List.getElem?_cons_zero]; rfl) (by kernel_rfl) (by kernel_rfl) (by kernel_rfl) (fun _ _ _ h => h) (Or.inl ⟨by rfl, ?_⟩) (by assumption) ?_
  · intro w hSw; (try dsimp only at hSw); (try go_simp); ((try rw [if_pos (by omega)]); (try simp); (try (intro h9; omega)))
  try simp only [Act.put, List.setIfInBounds_toArray, List.set_cons_zero, List.set_cons_succ]
  refine wpAnyH_take (i := 6) (v := ?_) (by simp only [List.getElem?_toArray, List.getElem?_cons_succ, List.getElem?_cons_zero]; rfl) (by kernel_rfl) (by kernel_rfl) (by kernel_rfl) (fun _ _ _ h => h) (Or.inl ⟨by rfl, ?_⟩) (by assumption) ?_
  rotate_left 1
  · intro w hSw; (try dsimp only at hSw); go_simp; (try with_reducible rfl)
  try simp only [Act.put, List.setIfInBounds_toArray, List.set_cons_zero, List.set_cons_succ]
  refine wpAnyH_take (i := 7) (v := ?_) (by simp only [List.getElem?_toArray, List.getElem?_cons_succ, List.getElem?_cons_zero]; rfl) (by kernel_rfl) (by kernel_rfl) (by kernel_rfl) (fun _ _ _ h => h) (Or.inl ⟨by rfl, ?_⟩) (by assumption) ?_
  rotate_left 1
  · intro w hSw; (try dsimp only at hSw); go_simp; (try with_reducible rfl)
  try simp only [Act.put, List.setIfInBounds_toArray, List.set_cons_zero, List.set_cons_succ]
  refine wpAnyH_take (i := 8) (v := ?_) (by simp only [List.getElem?_toArray, List.getElem?_cons_succ, List.getElem?_cons_zero]; rfl) (by kernel_rfl) (by kernel_rfl) (by kernel_rfl) (fun _ _ _ h => h) (Or.inl ⟨by rfl, ?_⟩) (by assumption) ?_
  rotate_left 1
  · intro w hSw; (try dsimp only at hSw); go_simp; (try with_reducible rfl)
  try simp only [Act.put, List.setIfInBounds_toArray, List.set_cons_zero, List.set_cons_succ]
  refine wpAnyH_take (i := 9) (v := ?_) (by simp only [List.getElem?_toArray, List.getElem?_cons_succ, List.getElem?_cons_zero]; rfl) (by kernel_rfl) (by kernel_rfl) (by kernel_rfl) (fun _ _ _ h => h) (Or.inl ⟨by rfl, ?_⟩) (by assumption) ?_
  rotate_left 1
  · intro w hSw; (try dsimp only at hSw); go_simp; (try with_reducible rfl)
  try simp only [Act.put, List.setIfInBounds_toArray, List.set_cons_zero, List.set_cons_succ]
  refine wpAnyH_take (i := 10) (v := ?_) (by simp only [List.getElem?_toArray, List.getElem?_cons_succ, List.getElem?_cons_zero]; rfl) (by kernel_rfl) (by kernel_rfl) (by kernel_rfl) (fun _ _ _ h => h) (Or.inl ⟨by rfl, ?_⟩) (by assumption) ?_
  rotate_left 1
  · intro w hSw; (try dsimp only at hSw); go_simp; (try with_reducible rfl)
  try simp only [Act.put, List.setIfInBounds_toArray, List.set_cons_zero, List.set_cons_succ]
  refine wpAnyH_take (i := 11) (v := ?_) (by simp only [List.getElem?_toArray, List.getElem?_cons_succ, List.getElem?_cons_zero]; rfl) (by kernel_rfl) (by kernel_rfl) (by kernel_rfl) (fun _ _ _ h => h) (Or.inl ⟨by rfl, ?_⟩) (by assumption) ?_
  rotate_left 1
  · intro w hSw; (try dsimp only at hSw); go_simp; (try with_reducible rfl)
  try simp only [Act.put, List.setIfInBounds_toArray, List.set_cons_zero, List.set_cons_succ]
  refine wpAnyH_take (i := 12) (v := .pointer (some ⟨gm, x, none⟩)) (by simp only [List.getElem?_toArray, List.getElem?_cons_succ, List.getElem?_cons_zero]; rfl) (by kernel_rfl) (by kernel_rfl) (by kernel_rfl) (fun _ _ _ h => h) (Or.inl ⟨by rfl, ?_⟩) (by assumption) ?_
  · intro w hSw; (try dsimp only at hSw); (try go_simp); ((try rw [if_pos (by omega)]); (try simp); (try (intro h9; omega)))
  try simp only [Act.put, List.setIfInBounds_toArray, List.set_cons_zero, List.set_cons_succ]
  refine wpAnyH_take (i := 13) (v := ?_) (by simp only [List.getElem?_toArray, List.getElem?_cons_succ, List.getElem?_cons_zero]; rfl) (by kernel_rfl) (by kernel_rfl) (by kernel_rfl) (fun _ _ _ h => h) (Or.inl ⟨by rfl, ?_⟩) (by assumption) ?_
  rotate_left 1
  · intro w hSw; (try dsimp only at hSw); go_simp; (try with_reducible rfl)
  try simp only [Act.put, List.setIfInBounds_toArray, List.set_cons_zero, List.set_cons_succ]
  refine wpAnyH_take (i := 14) (v := .bool true) (by simp only [List.getElem?_toArray, List.getElem?_cons_succ, List.getElem?_cons_zero]; rfl) (by kernel_rfl) (by kernel_rfl) (by kernel_rfl) (fun _ _ _ h => h) (Or.inl ⟨by rfl, ?_⟩) (by assumption) ?_
  · intro w hSw; (try dsimp only at hSw); (try go_simp); (try simp)
  try simp only [Act.put, List.setIfInBounds_toArray, List.set_cons_zero, List.set_cons_succ]
  refine wpAnyH_done (by kernel_rfl) ?_ _
  refine NoPanic.normal ?_
  go_wp2_with (first | (go_at_call 89; refine Calls.mono (CO.out _ (by exact (Below.refl _ _).drew)) ?_; rintro e w2 ⟨⟨v, rfl⟩, tv2, ov2, hs2⟩; have SE2 := hid hs2; clear hs2))
  exact bodyPost_ret (results_none rfl _ _ _) rfl ⟨⟨_, rfl⟩, _, _, _, _, SE2.out⟩
end Go.Proofs.YtfmmmhcpdinhgaaDoor
