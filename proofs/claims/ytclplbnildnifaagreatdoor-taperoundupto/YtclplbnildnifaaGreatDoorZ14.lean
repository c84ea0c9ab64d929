import Derived.OpenShut
import Derived.Deep.DeepHandedRow
import Derived.Test.YtclplbnildnifaaGreatDoorTie
import Derived.Test.YtclplbnildnifaaGreatDoorCards
import Derived.Test.YtclplbnildnifaaGreatDoorZ13
/-
  TapeRound (fn 4).
-/
namespace Go.Proofs.YtclplbnildnifaaGreatDoor
open Go.RowKit Go.Deep
set_option linter.unusedSimpArgs false
set_option linter.unusedVariables false

theorem box7 {w2 : World} {q : Nat} {t : TypeId} {u0 u1 u2 u3 u4 u5 u6 : Value} (hr : w2.heap[q]? = some (.cells #[u0, u1, u2, u3, u4, u5, u6] t (0, 0))) (v0 v1 v2 v3 v4 v5 v6 : Value) :
    ∃ W2, W2 = ((((((w2.setCell ⟨q, 0, none⟩ v0).setCell ⟨q, 1, none⟩ v1).setCell ⟨q, 2, none⟩ v2).setCell ⟨q, 3, none⟩ v3).setCell ⟨q, 4, none⟩ v4).setCell ⟨q, 5, none⟩ v5).setCell ⟨q, 6, none⟩ v6 ∧ W2.heap[q]? = some (.cells #[v0, v1, v2, v3, v4, v5, v6] t (0, 0)) ∧ Touch [q] w2 W2 := by
  refine ⟨_, rfl, ?_, ?_⟩
  · refine (heap_setCell_row (heap_setCell_row (heap_setCell_row (heap_setCell_row (heap_setCell_row (heap_setCell_row (heap_setCell_row hr 0 _) 1 _) 2 _) 3 _) 4 _) 5 _) 6 _).trans ?_
    simp
  · repeat' refine Touch.setCell ?_ (by simp) _
    exact Touch.refl _ _

set_option maxRecDepth 100000 in
set_option maxHeartbeats 4000000 in
theorem round_any {w : World} {E : Nat → Addr} {lo : Nat} (V : Env w lo E) (hlo : lo = w.heap.size) (size kind0 : Int) {sa : Option Addr} {l : List Rc} {c : Nat} (hin : RecsIn w lo sa l) (hs : smallR l) (hl : l.length ≤ 1048576) :
    Calls Tryz.prog 4 #[.int .i64 size, .int .i64 kind0, .slice sa l.length c] w fun e w' => e = .returned (.bool true) ∧ Touch [] w w' := by
  have HLO := hid hlo
  have HD := hid (desk_any V (Nat.le_of_eq hlo) size)
  have HIN := hid hin
  have HSM := hid hs
  have hgt : decide ((549755813888 : Int) < (l.length : Int)) = false := by simp; omega
  have hgt2 : ¬ (549755813888 : Int) < (l.length : Int) := by omega
  have h50 := Int.emod_nonneg kind0 (show (5 : Int) ≠ 0 by omega)
  have h51 := Int.emod_lt_of_pos kind0 (show (0 : Int) < 5 by omega)
  obtain ⟨kd, hkd⟩ : ∃ kd : Nat, kd = 1 + (kind0 % 5).toNat := ⟨_, rfl⟩
  have hki : kind0 % 5 = (kd : Int) - 1 := by omega
  have hkb : 1 ≤ kd ∧ kd ≤ 5 := by omega
  have HR5 := hid (fun W => rest_any kind0 5 (by omega) (by omega) W)
  rw [hki] at HR5
  have hw1 : IntKind.i64.wrap (1 + ((kd : Int) - 1)) = (kd : Int) := by rw [IntKind.wrap_i64]; omega
  obtain ⟨K, hKe⟩ : ∃ K : Nat, K = 1 + (size % 31).toNat := ⟨_, rfl⟩
  have hK : 1 ≤ K ∧ K ≤ 31 := by
    have h0 := Int.emod_nonneg size (show (31 : Int) ≠ 0 by omega)
    have h1 := Int.emod_lt_of_pos size (show (0 : Int) < 31 by omega)
    omega
  obtain ⟨B, hB⟩ : ∃ B : Nat, B = 32 + 32 * K := ⟨_, rfl⟩
  rw [← hKe, ← hB] at HD
  have HK := hid hK
  have HB := hid hB
  obtain ⟨M, hM⟩ : ∃ M, M = nBlocks K l.length := ⟨_, rfl⟩
  have HM := hid hM
  have hBb : B ≤ 1024 ∧ 64 ≤ B := by omega
  have hMb : M ≤ 1048576 := by
    rcases Nat.eq_zero_or_pos M with h | h
    · omega
    · have h1 := nBlocks_lt hK.1 (show M - 1 < nBlocks K l.length by omega)
      have h4 : (M - 1) * 1 ≤ (M - 1) * K := Nat.mul_le_mul_left _ hK.1
      omega
  have HMe : Hid (((l.length : Int) + (K : Int) - 1) / (K : Int) = (M : Int)) := by
    rw [hM]
    unfold nBlocks
    rw [Int.natCast_ediv]
    congr 1
    omega
  have HKB := hid hkb
  clear V hlo hin hs hB hKe hM h50 h51 hkd hki
  go_enter Tryz.func4, Tryz.ntmps4
  go_upto_region 8 with (first
    | (go_at_call 10; refine (HR5.out _).mono ?_; rintro e w1 ⟨rfl, hh⟩; have hh := hh.symm; subst hh)
    | (go_at_call 6; go_loud (refine HD.out.mono ?_; rintro e w1 ⟨b, kb, lb, F, rfl, hblo, hbl, ht1, hS, hdk, hkF, hkb, hF⟩; have HL : Hid (Calls Tryz.prog 7 #[ptr kb, .string nmA, .int .i64 (kd : Int), .slice sa l.length c] w1 fun e w' => e = .returned (.int .i64 0) ∧ Hom w' b (l.length + 3) kb K B (blocksOf kd K B l M) ⟨⟨sa, w⟩, []⟩ l (2 + (M : Int)) 0) := (by have hr0 := (HIN.out.touch ht1 (by simp)); rw [← hblo] at hr0; have hr1 : Keep w1 b.lo ⟨sa, w⟩ l := ⟨hr0, ht1, by have := HLO.out; show w.heap.size ≤ b.lo; omega⟩; have L := lay_any (kind := kd) hS hdk hkF hbl HB.out HK.out HKB.out.1 HKB.out.2 hl HSM.out (Idle.new K lb).leave hS.room (c := c) hr0; rw [← HM.out] at L; exact L.mono fun e w' ⟨e1, F', S', t', f⟩ => ⟨e1, F', _, S', (Idle.new K lb).back, Idle.peak_new K lb, hdk.touch t' (by simpa using hkF), fun hx => (by rcases f _ hx with h | h; exact hkF h; have := lt_of_block hdk; omega), (by have := HLO.out; omega), hr1.touch t' (fun y hy => hS.base y (by simpa using hy)), fun p hp => (by simp at hp)⟩); have HBL := hid hbl; clear hblo hbl ht1 hS hdk hkF hkb hF))
    | (go_at_call 7; refine HL.out.mono ?_; rintro e w2 ⟨rfl, hh⟩; have HH := hid hh; have HK8 := hid hh.kk; have HC18 := hid hh.counts_s; clear hh)
    | (go_at_call 8; refine HK8.out.mono ?_; rintro e w3 ⟨rfl, hh⟩; have hh := hh.symm; subst hh))
  have hC := tap_of (kind := kd) HBL.out HB.out HK.out HKB.out.1 HKB.out.2 HSM.out hl
  rw [← HM.out] at hC
  have hbsl : (blocksOf kd K B l M).length = M := blocksOf_length _ _ _ _ _
  rw [HMe.out]
  clear HL
  generalize blocksOf kd K B l M = bs at HH HC18 hC hbsl
  have HC := hid hC
  have HBS := hid hbsl
  rw [hbsl] at HC18
  clear hC
  go_upto_region 9 with (go_at_call 18; refine HC18.out.mono ?_; rintro e w4 ⟨rfl, hh⟩; have HH4 := hid hh; clear hh)
  obtain ⟨W5, hW5⟩ : ∃ W5, W5 = w4.alloc (.cells #[.int .i64 (2 + (M : Int)), .int .i64 0, .int .i64 (M : Int), .int .i64 0, .int .i64 0, .int .i64 (M : Int), .int .i64 (M : Int)] 47) := ⟨_, rfl⟩
  have h5 := HH4.out.lay (.cells #[.int .i64 (2 + (M : Int)), .int .i64 0, .int .i64 (M : Int), .int .i64 0, .int .i64 0, .int .i64 (M : Int), .int .i64 (M : Int)] 47)
  rw [← hW5] at h5 ⊢
  generalize w4.heap.size = cb at *
  have HH5 := hid h5.1
  have HCB := hid h5.2
  have q := cell_row (h5.1.own _ (List.mem_singleton.2 rfl))
  have q0 := q 0
  have q2 := q 2
  have q5 := q 5
  simp only [List.getElem?_toArray, List.getElem?_cons_zero, List.getElem?_cons_succ] at q0 q2 q5
  clear h5 hW5 q
  have HU := hid HH5.out.used_s
  go_upto_region 11 with (first
    | (go_at_call 15; refine HU.out.mono ?_; rintro e w6 ⟨rfl, hh⟩; have HH6 := hid hh; have HP6 := hid hh.peak_s; have HK6 := hid hh.kk; clear hh)
    | (go_at_call 19; refine HP6.out.mono ?_; rintro e w7 ⟨rfl, hh⟩; have hh := hh.symm; subst hh)
    | (go_at_call 8; refine HK6.out.mono ?_; rintro e w7 ⟨rfl, hh⟩; have hh := hh.symm; subst hh))
  clear q0 q2 q5
  have HFW := hid (forward_any (cp := c) HH6.out HC.out (by omega))
  go_upto_region 13 with (first
    | (go_at_call 20; refine HFW.out.mono ?_; rintro e w7 ⟨rfl, hh⟩; have HH7 := hid hh; have HBW := hid (backward_any (cp := c) hh HC.out (by omega)); clear hh)
    | (go_at_call 21; refine HBW.out.mono ?_; rintro e w8 ⟨rfl, hh⟩; have HH8 := hid hh; have HEN := hid (ends_any (cp := c) hh HC.out (by omega)); clear hh)
    | (go_at_call 22; refine HEN.out.mono ?_; rintro e w9 ⟨rfl, hh⟩; have HH9 := hid hh; have HRG := hid (ranged_any (cp := c) hh HC.out (by omega)); clear hh)
    | (go_at_call 23; refine HRG.out.mono ?_; rintro e w10 ⟨rfl, hh⟩; have HH10 := hid hh; clear hh))
  have h10 := HH10.out
  rw [HBS.out] at h10
  clear HH10 HRG HEN HBW HFW
  rcases (show (1 < M ∧ fewN M = 1) ∨ (¬ 1 < M ∧ fewN M = M) from by
    unfold fewN
    by_cases h1 : 1 < M
    · exact .inl ⟨h1, by rw [if_neg (by omega)]⟩
    · refine .inr ⟨h1, ?_⟩
      split <;> omega) with ⟨hM1, hf1⟩ | ⟨hM1, hf1⟩
  · have e1 : 2 + (M : Int) + (M : Int) + (M : Int) + 2 * ((fewN M : Nat) : Int) + (M : Int) = 2 + (M : Int) + (3 * (M : Int) + 2) := by rw [hf1]; omega
    have e2 : 0 + (M : Int) + (M : Int) + 2 * ((fewN M : Nat) : Int) + (M : Int) = 3 * (M : Int) + 2 := by rw [hf1]; omega
    rw [e1, e2] at h10
    have HC10 := hid h10.counts_s
    rw [HBS.out] at HC10
    clear e1 e2 hf1 h10
    go_upto_region 17 with (go_at_call 18; refine HC10.out.mono ?_; rintro e w11 ⟨rfl, hh⟩; have HH11 := hid hh; have hq := hh.own _ (List.mem_singleton.2 rfl); have HQ := hid hq; have u := (fun i => unfrozen_row hq i); have q := (fun i => cell_row hq i); clear hh hq)
    clear q u
    obtain ⟨W2, hW2, hq2, t2⟩ := box7 HQ.out (.int .i64 (2 + (M : Int) + (3 * (M : Int) + 2))) (.int .i64 (3 * (M : Int) + 2)) (.int .i64 (M : Int)) (.int .i64 0) (.int .i64 0) (.int .i64 (M : Int)) (.int .i64 (M : Int))
    rw [← hW2]
    have HH12 := hid (HH11.out.over HCB.out.1 HCB.out.2 t2)
    have q0 := cell_row hq2 0
    have q1 := cell_row hq2 1
    simp only [List.getElem?_toArray, List.getElem?_cons_zero, List.getElem?_cons_succ] at q0 q1
    clear hW2 hq2 t2
    have HU2 := hid HH12.out.used_s
    go_wp2_with (first
      | (go_at_call 15; refine HU2.out.mono ?_; rintro e w13 ⟨rfl, hh⟩; have HH13 := hid hh; have HP13 := hid hh.peak_s; have HK13 := hid hh.kk; clear hh)
      | (go_at_call 19; refine HP13.out.mono ?_; rintro e w14 ⟨rfl, hh⟩; have hh := hh.symm; subst hh)
      | (go_at_call 8; refine HK13.out.mono ?_; rintro e w14 ⟨rfl, hh⟩; have hh := hh.symm; subst hh))
    go_ret
    exact ⟨rfl, HH13.out.recs.t⟩
  · have e1 : 2 + (M : Int) + (M : Int) + (M : Int) + 2 * ((fewN M : Nat) : Int) + (M : Int) = 2 + (M : Int) + (3 * (M : Int) + 2 * (M : Int)) := by rw [hf1]; omega
    have e2 : 0 + (M : Int) + (M : Int) + 2 * ((fewN M : Nat) : Int) + (M : Int) = 3 * (M : Int) + 2 * (M : Int) := by rw [hf1]; omega
    rw [e1, e2] at h10
    have HC10 := hid h10.counts_s
    rw [HBS.out] at HC10
    clear e1 e2 hf1 h10
    go_upto_region 17 with (go_at_call 18; refine HC10.out.mono ?_; rintro e w11 ⟨rfl, hh⟩; have HH11 := hid hh; have hq := hh.own _ (List.mem_singleton.2 rfl); have HQ := hid hq; have u := (fun i => unfrozen_row hq i); have q := (fun i => cell_row hq i); clear hh hq)
    clear q u
    obtain ⟨W2, hW2, hq2, t2⟩ := box7 HQ.out (.int .i64 (2 + (M : Int) + (3 * (M : Int) + 2 * (M : Int)))) (.int .i64 (3 * (M : Int) + 2 * (M : Int))) (.int .i64 (M : Int)) (.int .i64 0) (.int .i64 0) (.int .i64 (M : Int)) (.int .i64 (M : Int))
    rw [← hW2]
    have HH12 := hid (HH11.out.over HCB.out.1 HCB.out.2 t2)
    have q0 := cell_row hq2 0
    have q1 := cell_row hq2 1
    simp only [List.getElem?_toArray, List.getElem?_cons_zero, List.getElem?_cons_succ] at q0 q1
    clear hW2 hq2 t2
    have HU2 := hid HH12.out.used_s
    go_wp2_with (first
      | (go_at_call 15; refine HU2.out.mono ?_; rintro e w13 ⟨rfl, hh⟩; have HH13 := hid hh; have HP13 := hid hh.peak_s; have HK13 := hid hh.kk; clear hh)
      | (go_at_call 19; refine HP13.out.mono ?_; rintro e w14 ⟨rfl, hh⟩; have hh := hh.symm; subst hh)
      | (go_at_call 8; refine HK13.out.mono ?_; rintro e w14 ⟨rfl, hh⟩; have hh := hh.symm; subst hh))
    go_ret
    exact ⟨rfl, HH13.out.recs.t⟩
end Go.Proofs.YtclplbnildnifaaGreatDoor
namespace Go.Proofs.YtclplbnildnifaaGreatDoor
open Go.ChangeShapes Go.WideShapes Go.ChangeAt Go.RowKit Go.Deep

set_option maxRecDepth 100000 in
/-- what the walk gives, for every argument within the bound and every world that holds the disk's errors. -/
theorem round2_contract (H : Type) (enc : TypeId × Value → H) (W : World) (base : Nat) (args : Array Value) (ds gs : List (DataW H)) (before : List MemPlace)
    (hval : ∀ (j : Nat) t v, Tryz.f4.params[j]? = some t → args[j]? = some v → Value.okWide Tryz.prog W .any base t v)
    (hW : DataW.Whole enc Tryz.prog Tryz.f4.params.toList Rows.tapeRoundSpec.vars false W args.toList ds gs before) (hk : Rows.uptoSmall H (ds ++ gs) = true) (hL : laidMetH Tryz.prog Rows.tapeRoundUptoRow.laid W) :
    Calls Tryz.prog 4 args W fun e W' => ∃ v, e = .returned v ∧ Rows.tapeRoundSpec.post enc Tryz.prog Tryz.f4 false true false false W args v W' := by
  have hW' := hW
  obtain ⟨p, q, hA0, hV, rfl, hfz, hnd⟩ := hW
  have hA : DataW.TrodAll enc Tryz.prog W 0 (fun _ => true) true Tryz.f4.params.toList args.toList ds p := hA0
  rw [Tryz.params4] at hA hval
  obtain ⟨v0, vs0, d0, ds0, p0, q0, hargs0, rfl, rfl, h0, r0⟩ := trodAll_cons hA
  obtain ⟨v1, vs1, d1, ds1, p1, q1, rfl, rfl, rfl, h1, r1⟩ := trodAll_cons r0
  obtain ⟨v2, vs2, d2, ds2, p2, q2, rfl, rfl, rfl, h2, r2⟩ := trodAll_cons r1
  obtain ⟨rfl, rfl, rfl⟩ := trodAll_nil r2
  obtain rfl : args = #[v0, v1, v2] := by cases args; simp_all
  obtain ⟨rfl, rfl⟩ := trodVars_none hV
  have hb := of_decide_eq_true hk
  simp only [List.append_nil, Rows.uptoBulkAll] at hb
  obtain ⟨size, rfl, rfl, rfl, wa⟩ := open_int Tryz.underlying3 (hval 0 3 v0 rfl rfl) h0
  obtain ⟨at_, rfl, rfl, rfl, wb⟩ := open_int Tryz.underlying3 (hval 1 3 v1 rfl rfl) h1
  clear hA0
  simp only [List.append_nil] at hW'
  have hlt1 : ∀ x ∈ p2, x.block < W.heap.size := fun x hx => by simpa using hW'.lt x (by simp [hx])
  obtain ⟨sa, ca, l, rfl, hin, hl, hs⟩ := open_recs (hval 2 22 v2 rfl rfl) h2 (by omega)
  rw [show Rows.tapeRoundUptoRow.laid = Rows.tapeBitsUptoRow.laid by kernel_rfl] at hL
  obtain ⟨E, hE⟩ := sents_of_laid hL
  refine (round_any hE rfl size at_ hin hs hl).mono fun e W' ⟨he, ht⟩ => ?_
  subst he
  have hnx : Below W.heap.size W W' := ht.below (Nat.le_refl _) (by simp)
  refine ⟨_, rfl, _, _, _, [], _, [], hW', ?_, trodAll_cons_mk (shut_int Tryz.underlying3 wa) (trodAll_cons_mk (shut_int Tryz.underlying3 wb) (trodAll_mk1 (Below.trod laidOut (by kernel_rfl) (of_decide_eq_true (by kernel_rfl)) h2 hnx hlt1))), rfl, hnx.frame _, fun h => by cases h⟩
  exact trodAll_mk1 (shut_bool Tryz.underlying4 _)

set_option maxRecDepth 100000 in
theorem round2_lifted (os : Os) (started : os.Started) (H : Type) (enc : TypeId × Value → H) (F : Stop.Interp) :
    ReturnsInHanded {} Tryz.checked os 4 .any ((Rows.OpenSpec.upto Rows.tapeRoundSpec).preRow enc Tryz.prog Tryz.f4 Rows.tapeRoundUptoRow.domain false Rows.tapeRoundUptoRow.laid) (((Rows.OpenSpec.upto Rows.tapeRoundSpec).at F).post enc Tryz.prog Tryz.f4 false true false false) := by
  obtain ⟨lw, hlw⟩ : ∃ lw : World, lw = (fun w0 : World => { w0 with heap := (((((((((((w0.heap.modify 10 fun
      | .cells _ t frozen => .cells #[.iface 320 (.pointer (some ⟨(World.holding Tryz.prog default ⟨#[], #[], []⟩).heap.size + 0, 0, none⟩))] t frozen
      | o => o).modify 0 fun
      | .cells _ t frozen => .cells #[.iface 320 (.pointer (some ⟨(World.holding Tryz.prog default ⟨#[], #[], []⟩).heap.size + 1, 0, none⟩))] t frozen
      | o => o).modify 1 fun
      | .cells _ t frozen => .cells #[.iface 320 (.pointer (some ⟨(World.holding Tryz.prog default ⟨#[], #[], []⟩).heap.size + 2, 0, none⟩))] t frozen
      | o => o).modify 2 fun
      | .cells _ t frozen => .cells #[.iface 320 (.pointer (some ⟨(World.holding Tryz.prog default ⟨#[], #[], []⟩).heap.size + 3, 0, none⟩))] t frozen
      | o => o).modify 3 fun
      | .cells _ t frozen => .cells #[.iface 320 (.pointer (some ⟨(World.holding Tryz.prog default ⟨#[], #[], []⟩).heap.size + 4, 0, none⟩))] t frozen
      | o => o).modify 4 fun
      | .cells _ t frozen => .cells #[.iface 320 (.pointer (some ⟨(World.holding Tryz.prog default ⟨#[], #[], []⟩).heap.size + 5, 0, none⟩))] t frozen
      | o => o).modify 5 fun
      | .cells _ t frozen => .cells #[.iface 320 (.pointer (some ⟨(World.holding Tryz.prog default ⟨#[], #[], []⟩).heap.size + 6, 0, none⟩))] t frozen
      | o => o).modify 6 fun
      | .cells _ t frozen => .cells #[.iface 320 (.pointer (some ⟨(World.holding Tryz.prog default ⟨#[], #[], []⟩).heap.size + 7, 0, none⟩))] t frozen
      | o => o).modify 7 fun
      | .cells _ t frozen => .cells #[.iface 320 (.pointer (some ⟨(World.holding Tryz.prog default ⟨#[], #[], []⟩).heap.size + 8, 0, none⟩))] t frozen
      | o => o).modify 8 fun
      | .cells _ t frozen => .cells #[.iface 320 (.pointer (some ⟨(World.holding Tryz.prog default ⟨#[], #[], []⟩).heap.size + 9, 0, none⟩))] t frozen
      | o => o).modify 9 fun
      | .cells _ t frozen => .cells #[.iface 320 (.pointer (some ⟨(World.holding Tryz.prog default ⟨#[], #[], []⟩).heap.size + 10, 0, none⟩))] t frozen
      | o => o) }) (World.holding Tryz.prog os ⟨#[.cells #[.string ⟨#[97, 32, 115, 101, 116, 117, 112, 32, 116, 104, 97, 116, 32, 109, 97, 121, 32, 110, 111, 116, 32, 98, 101]⟩] 342, .cells #[.string ⟨#[97, 32, 102, 97, 117, 108, 116, 32, 98, 101, 102, 97, 108, 108, 115, 32, 116, 104, 101, 32, 99, 97, 108, 108]⟩] 342, .cells #[.string ⟨#[116, 104, 101, 32, 112, 111, 119, 101, 114, 32, 105, 115, 32, 111, 102, 102]⟩] 342, .cells #[.string ⟨#[110, 111, 32, 110, 97, 109, 101]⟩] 342, .cells #[.string ⟨#[110, 111, 32, 102, 105, 108, 101, 32, 111, 102, 32, 116, 104, 97, 116, 32, 110, 97, 109, 101]⟩] 342, .cells #[.string ⟨#[97, 32, 102, 105, 108, 101, 32, 111, 102, 32, 116, 104, 97, 116, 32, 110, 97, 109, 101, 32, 97, 108, 114, 101, 97, 100, 121]⟩] 342, .cells #[.string ⟨#[116, 104, 101, 32, 102, 105, 108, 101, 32, 105, 115, 32, 115, 101, 97, 108, 101, 100]⟩] 342, .cells #[.string ⟨#[116, 104, 101, 32, 102, 105, 108, 101, 32, 105, 115, 32, 110, 111, 116, 32, 115, 101, 97, 108, 101, 100]⟩] 342, .cells #[.string ⟨#[110, 111, 32, 115, 117, 99, 104, 32, 98, 108, 111, 99, 107]⟩] 342, .cells #[.string ⟨#[110, 111, 32, 98, 108, 111, 99, 107, 32, 105, 115, 32, 102, 114, 101, 101]⟩] 342, .cells #[.string ⟨#[110, 111, 32, 115, 116, 97, 116, 101, 32, 111, 102, 32, 97, 32, 100, 105, 115, 107]⟩] 342], #[], []⟩) := ⟨_, rfl⟩
  have hos : lw.os = os := by rw [hlw]; rfl
  have hv : (lw.forCall (fun _ _ => 0) ⟨#[], #[.int .i64 0, .int .i64 0, .slice none 0 0], []⟩).variablesB Tryz.checked.prog = true := by rw [hlw]; kernel_rfl
  have hr : ((lw.forCall (fun _ _ => 0) ⟨#[], #[.int .i64 0, .int .i64 0, .slice none 0 0], []⟩).heap.toList.drop Tryz.checked.prog.globals.size).take ((begin Tryz.checked.prog (fun _ _ => 0) default).world.heap.size - Tryz.checked.prog.globals.size) = (begin Tryz.checked.prog (fun _ _ => 0) default).world.heap.toList.drop Tryz.checked.prog.globals.size := by rw [hlw]; kernel_rfl
  have hok : Input.okWideB Tryz.checked.prog (lw.forCall (fun _ _ => 0) ⟨#[], #[.int .i64 0, .int .i64 0, .slice none 0 0], []⟩) 4 ⟨#[], #[.int .i64 0, .int .i64 0, .slice none 0 0], []⟩ = true := by rw [hlw]; kernel_rfl
  have hx : DataW.whole enc Tryz.prog (lw.forCall (fun _ _ => 0) ⟨#[], #[.int .i64 0, .int .i64 0, .slice none 0 0], []⟩).memory Tryz.f4.params.toList Rows.tapeRoundSpec.vars false #[Value.int .i64 0, .int .i64 0, .slice none 0 0].toList 8 = some ([.lit (.int .i64 0), .lit (.int .i64 0), .nil], [], []) := by rw [hlw]; kernel_rfl
  have hlm : laidMet Tryz.prog Rows.tapeRoundUptoRow.laid (lw.forCall (fun _ _ => 0) ⟨#[], #[.int .i64 0, .int .i64 0, .slice none 0 0], []⟩).memory := by rw [hlw]; exact laidMet_of_run' 8 (by kernel_rfl) (by kernel_rfl)
  clear hlw
  refine returnsInHanded_of_row (C := Tryz.checked) (s := Rows.OpenSpec.upto Rows.tapeRoundSpec) own started (by kernel_rfl) Tryz.func4
    (witness_row_at (enc := enc) (C := Tryz.checked) false lw #[.int .i64 0, .int .i64 0, .slice none 0 0] hos hv hr hok
      (OpenSpec.preRow_of_cond 8 hx (by kernel_rfl) (fun k hk => by cases hk; kernel_rfl) (by kernel_rfl) hlm)) ?_
  intro W base args ds gs before hval hW _ hcond _ hL _ _
  exact round2_contract H enc W base args ds gs before hval hW (hcond _ rfl) hL

theorem round2_said : Rows.TapeRoundUptoSaid :=
  OpenClaim.holds_of_cond 4 Tryz.f4 rfl rfl rfl rfl rfl rfl rfl ⟨rfl, rfl, rfl, rfl, rfl⟩ rfl rfl rfl rfl rfl (by kernel_rfl) Tryz.func4 (by kernel_rfl)
    (of_decide_eq_true (by kernel_rfl)) (by unfold Func.isWrapper; first | (rw [if_pos (by decide +kernel)]; kernel_rfl) | (rw [if_neg (by decide +kernel)]; exact ⟨rfl, rfl⟩))
    (fun os started H enc _ F => by rw [OpenClaim.pre_eq_preRow]; exact round2_lifted os started H enc F)

/-- no parameter wants a stand-in. -/
theorem round2_plain (f : FuncId) (fn : Func) (hf : Tryz.pinned.checked.prog.funcNamed "strata/stratalaw04.TapeRound" = some f) (hfn : Tryz.pinned.checked.prog.funcs[f]? = some fn) :
    true = Tryz.pinned.checked.prog.looks [] ∧ ∀ (j : Nat) t, fn.params[j]? = some t → Tryz.pinned.checked.prog.wantsStandIn t = false := by
  obtain rfl : f = 4 := Option.some.inj ((show Tryz.prog.funcNamed "strata/stratalaw04.TapeRound" = some 4 by kernel_rfl).symm.trans hf) |>.symm
  obtain rfl : fn = Tryz.f4 := (Option.some.inj (Tryz.func4.symm.trans hfn)).symm
  refine ⟨by kernel_rfl, fun j t ht => ?_⟩
  rw [Tryz.params4] at ht
  have hm : t = 3 ∨ t = 22 := by
    have := Array.mem_of_getElem? ht
    simp only [List.mem_toArray, List.mem_cons, List.not_mem_nil, or_false] at this
    rcases this with h | h | h
    · exact .inl h
    · exact .inl h
    · exact .inr h
  rcases hm with rfl | rfl
  · exact (show Tryz.prog.wantsStandIn 3 = false by kernel_rfl)
  · exact (show Tryz.prog.wantsStandIn 22 = false by kernel_rfl)

theorem tapeRound_holds : Rows.TapeRoundUptoCardSaid :=
  Claim7.holds_tied_plain_at .later [] _ _ _ _ round2_said (fun _ h => by cases h) (by kernel_rfl) (fun _ h => by cases h) tapeRoundUpto_row_tie rfl ⟨rfl, rfl⟩ (by kernel_rfl) rfl round2_plain (by kernel_rfl)
#print axioms tapeRound_holds
end Go.Proofs.YtclplbnildnifaaGreatDoor
