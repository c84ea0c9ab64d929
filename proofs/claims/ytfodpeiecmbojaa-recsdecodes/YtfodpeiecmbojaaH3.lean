/-
  The document's own Decode of a block that is one; both packages read the same.
-/
import Derived.Test.YtfodpeiecmbojaaH2
import Derived.Test.YtfodpeiecmbojaaG7
namespace Go.Proofs.Ytfodpeiecmbojaa
open Go.RowKit Go.Deep PureCrc

set_option maxRecDepth 100000 in
set_option maxHeartbeats 2000000 in
theorem rdecode_ok (l : List Nat) (b o c : Nat) (w : World) (hr : Rd w b o l) (hbw : b < w.heap.size) (hb : ∀ x ∈ l, x < 256) (hc : l.length ≤ c)
    (h64 : 64 ≤ l.length) (hm : l.length ≤ 65536) (h32 : l.length % 32 = 0) (hp : num (PureCrc.cut l 8 8) < 9223372036854775808) (h1 : sumFits l) (h2 : Formed l) :
    Calls Try.prog 20 #[.int .i64 (l.getD 5 0 : Int), .int .i64 (num (PureCrc.cut l 8 8) : Int), .slice (some ⟨b, o, none⟩) l.length c] w fun e w' =>
      ∃ sv, e = .returned (.tuple #[sv, .int .i64 0]) ∧ OwnR w' w.heap.size sv (count l) (words (4 * count l) (l.drop 28)) ∧ Touch [] w w' := by
  obtain ⟨HF, HS, HG, HH, H8, H2r, c5, b5, s1l, _, cl2⟩ := asks l b o c 0 0 w hr hb hc h64 hm h32
  have hs : num (PureCrc.cut l (l.length - 4) 4) = crc (l.take (l.length - 4)) := by
    have := h1
    unfold sumFits at this
    rwa [drop_cut4 (by omega)] at this
  rw [← hs] at HS
  have hk5 := h2.kind
  have hn1 := h2.some
  have hn2 := h2.many
  obtain ⟨s1, hs1⟩ : ∃ s1, s1 = num (PureCrc.cut l (l.length - 4) 4) := ⟨_, rfl⟩
  obtain ⟨p8, hp8⟩ : ∃ p8, p8 = num (PureCrc.cut l 8 8) := ⟨_, rfl⟩
  obtain ⟨x5, hx5⟩ : ∃ x5, x5 = l.getD 5 0 := ⟨_, rfl⟩
  obtain ⟨n, hn⟩ : ∃ n, n = count l := ⟨_, rfl⟩
  rw [← hs1] at HG HS s1l
  rw [← hp8] at H8 hp ⊢
  rw [← hx5] at c5 b5 hk5 ⊢
  rw [← hn] at H2r hn1 hn2 cl2 ⊢
  obtain ⟨ws, hws⟩ : ∃ ws, ws = words (4 * n) (l.drop 28) := ⟨_, rfl⟩
  have hwl : ws.length = 4 * n := by rw [hws]; exact words_length _ _
  have HWD : Hid (∀ (t : Nat), t < 4 * n → ∀ W, Rd W b o l → ws[t]? = some (num (PureCrc.cut l (28 + 8 * t) 8)) ∧ Calls Try.prog 39 #[.slice (some ⟨b, o + (28 + 8 * t), none⟩) 8 (c - (28 + 8 * t))] W fun e w' => e = .returned (.int .u64 (num (PureCrc.cut l (28 + 8 * t) 8) : Int)) ∧ w' = W) := fun t ht W h => by
    constructor
    · rw [hws, words_get _ _ _ ht, List.drop_drop]
      rfl
    · have := rread_any (PureCrc.cut l (28 + 8 * t) 8) (by rw [cut_length (by omega)]; omega) (cut_lt hb) b (o + (28 + 8 * t)) (c - (28 + 8 * t)) W (h.cut (by omega))
      rwa [cut_length (by omega)] at this
  rw [← hws]
  have HRT : Hid (∀ W, Touch [] w W → Rd W b o l) := fun W h => hr.touch h hbw (by simp)
  have HWL := hid hwl
  have H2 := hid h2
  have hfn : fitN (l.length : Int) = ((l.length / 32 - 1 : Nat) : Int) := by unfold fitN; rw [if_pos (by omega)]; omega
  rw [hfn] at HF
  obtain ⟨f, hf⟩ : ∃ f, f = l.length / 32 - 1 := ⟨_, rfl⟩
  rw [← hf] at HF
  have hf0 : ¬ (f : Int) = 0 := by omega
  have hf1 : ((f : Int) == 0) = false := by simpa using hf0
  have k1 : ¬ (x5 : Int) < 1 := by omega
  have k2 : ¬ (x5 : Int) > 255 := by omega
  have hl4 : ((l.length : Int) - 4).toNat = l.length - 4 := by omega
  have hl5 : l.length - (l.length - 4) = 4 := by omega
  have HF := hid HF
  have HS := hid HS
  have HG := hid HG
  have HH := hid HH
  have H8 := hid H8
  have H2r := hid H2r
  clear hs hs1 hp8 hx5 hn hws hfn hf hr hb h1 h2 hwl
  go_enter Try.func20, Try.ntmps20
  go_wp2_with (first
    | (go_at_call 39; with_reducible refine H2r.out.mono ?_; rintro e w3 ⟨rfl, hh⟩; have hh := hh.symm; subst hh)
    | (go_at_call 39; with_reducible refine H8.out.mono ?_; rintro e w3 ⟨rfl, hh⟩; have hh := hh.symm; subst hh)
    | (go_at_call 40; with_reducible refine HH.out.mono ?_; rintro e w6 ⟨⟨t, rfl, ht⟩, hh⟩; have hh := hh.symm; subst hh; have ht2 : t = true := ht.2 H2.out; subst ht2; clear ht)
    | (go_at_call 39; with_reducible refine HG.out.mono ?_; rintro e w3 ⟨rfl, hh⟩; have hh := hh.symm; subst hh)
    | (go_at_call 22; with_reducible refine HS.out.mono ?_; rintro e w3 ⟨rfl, hh⟩; have hh := hh.symm; subst hh)
    | (go_at_call 17; with_reducible refine (HF.out _).mono ?_; rintro e w3 ⟨rfl, hh⟩; have hh := hh.symm; subst hh))
  clear HF HS HG HH H8 H2r H2 c5
  go_loopw [11, 12] (fun ov i W => ∃ k : Nat, k ≤ n ∧ i = .int .i64 k ∧ OwnR W w.heap.size ov k (ws.take (4 * k)) ∧ Below w.heap.size w W) (fun _ i _ => n - (intOf i).toNat)
  case atStart => exact ⟨0, Nat.zero_le _, rfl, World.ownsRow_nil _ _ _ _, Below.refl _ _⟩
  case round =>
    obtain ⟨k, hk, rfl, h1, h2⟩ := hrel
    have O1 := hid h1
    have B1 := hid h2
    clear h1 h2
    by_cases hlt : k < n
    · obtain ⟨q, hq⟩ : ∃ q, q = (ws.drop (4 * k)).take 4 := ⟨_, rfl⟩
      have hql : q.length = 4 * 1 := by rw [hq, List.length_take, List.length_drop, HWL.out]; omega
      have HQG : Hid (∀ j, j < 4 → q[j]? = ws[4 * k + j]?) := fun j hj => by
        rw [hq, List.getElem?_take_of_lt hj, List.getElem?_drop]
      have HQT : Hid (ws.take (4 * (k + 1)) = ws.take (4 * k) ++ q) := by
        show _ = _
        rw [hq, Nat.mul_succ, List.take_add]
      have rA : WRow (wr.alloc (.cells #[.int .u64 0, .int .u64 0, .int .u64 0, .int .u64 0] 28)) wr.heap.size (got q 1 0) := by
        have : got q 1 0 = [0, 0, 0, 0] := by simp [got, zeros]
        rw [this]
        exact heap_alloc_new wr _
      have tA : Touch [] wr (wr.alloc (.cells #[.int .u64 0, .int .u64 0, .int .u64 0, .int .u64 0] 28)) := (Touch.refl _ _).alloc _
      have RA := hid rA
      have TA := hid tA
      have HQL := hid hql
      have hlB := B1.out.size
      clear rA tA hq hql
      go_wp2_with fail
      generalize wr.alloc (.cells #[.int .u64 0, .int .u64 0, .int .u64 0, .int .u64 0] 28) = wA at RA TA ⊢
      go_loopw [14] (fun i W => ∃ j : Nat, j ≤ 4 ∧ i = .int .i64 j ∧ WRow W wr.heap.size (got q 1 j) ∧ Touch [] wr W) (fun i _ => 4 - (intOf i).toNat)
      case atStart => exact ⟨0, by omega, rfl, RA.out, TA.out⟩
      case round =>
        rename World => wr_1
        obtain ⟨j, hj, rfl, h1, h2⟩ := hrel
        by_cases hlt2 : j < 4
        · obtain ⟨A, hA⟩ : ∃ A, A = 28 + 32 * k + 8 * j := ⟨_, rfl⟩
          have hA2 : 28 + 8 * (4 * k + j) = A := by omega
          have hAN : A + 8 ≤ l.length := by omega
          have htn : 4 * k + j < 4 * n := by omega
          have hT : Touch [] w wr_1 := (Touch.of_below B1.out (Nat.le_refl _)).trans h2 (by simp)
          have hwd := HWD.out (4 * k + j) htn wr_1 (HRT.out _ hT)
          rw [hA2] at hwd
          obtain ⟨y, hy⟩ : ∃ y, y = num (PureCrc.cut l A 8) := ⟨_, rfl⟩
          rw [← hy] at hwd
          have hqj : q[j]? = some y := by rw [HQG.out j hlt2]; exact hwd.1
          obtain ⟨hjl, hje⟩ := List.getElem?_eq_some_iff.1 hqj
          have HGS := hid (show (got q 1 j).set j y = got q 1 (j + 1) by
            have := got_succ (n := 1) hjl HQL.out
            rwa [hje] at this)
          have HCW := hid hwd.2
          obtain ⟨z, hz⟩ : ∃ z, wr_1.cell? ⟨wr.heap.size, j, none⟩ = some z := by
            have := cell_row h1 j
            rw [wc_get, List.getElem?_eq_getElem (by rw [got_length (by rw [HQL.out]; omega) HQL.out]; omega)] at this
            exact ⟨_, this⟩
          have hf2 := unfrozen_row h1 j
          have G1 := hid h1
          have G2 := hid h2
          have hAi : 28 + 32 * (k : Int) + 8 * (j : Int) = (A : Int) := by omega
          have e8 : A + 8 - A = 8 := by omega
          clear hwd hqj hjl hje hy h1 h2 hA hA2 hT htn
          go_wp2_with (first
            | (go_at_call 39; with_reducible refine HCW.out.mono ?_; rintro e w3 ⟨rfl, hh⟩; have hh := hh.symm; subst hh))
          have t := WRow.set G1.out j y
          rw [HGS.out] at t
          exact ⟨⟨j + 1, hlt2, rfl, t, G2.out.setCell (.inr (Nat.le_refl _)) _⟩, by simp [intOf]; omega⟩
        · have e4 : j = 4 := by omega
          subst e4
          have hg4 : got q 1 4 = q := by
            unfold got
            rw [List.take_of_length_le (by have := HQL.out; omega)]
            simp [zeros]
          rw [hg4] at h1
          obtain ⟨y0, y1, y2, y3, hqe⟩ : ∃ y0 y1 y2 y3, q = [y0, y1, y2, y3] := by
            match q, HQL.out with
            | [y0, y1, y2, y3], _ => exact ⟨_, _, _, _, rfl⟩
          have d0 : wr_1.cell? ⟨wr.heap.size, 0, none⟩ = some (.int .u64 (y0 : Int)) := by rw [hqe] at h1; exact h1.wd 0 (by simp)
          have d1 : wr_1.cell? ⟨wr.heap.size, 1, none⟩ = some (.int .u64 (y1 : Int)) := by rw [hqe] at h1; exact h1.wd 1 (by simp)
          have d2 : wr_1.cell? ⟨wr.heap.size, 2, none⟩ = some (.int .u64 (y2 : Int)) := by rw [hqe] at h1; exact h1.wd 2 (by simp)
          have d3 : wr_1.cell? ⟨wr.heap.size, 3, none⟩ = some (.int .u64 (y3 : Int)) := by rw [hqe] at h1; exact h1.wd 3 (by simp)
          have O2 := hid ((O1.out.touch h2 (by simp)).alloc (.cells #[.int .u64 (y0 : Int), .int .u64 (y1 : Int), .int .u64 (y2 : Int), .int .u64 (y3 : Int)] 28))
          have B2 := hid (show Below w.heap.size w wr_1 from B1.out.trans (h2.below (by omega) (by simp)))
          have C2 := hid (cells4 wr_1 y0 y1 y2 y3)
          have HQE := hid hqe
          have hz2 : w.heap.size ≤ wr_1.heap.size := B2.out.size
          clear h1 h2 hg4 hqe
          go_wp2_with (first
            | (at_builtin; refine wpList_appR _ rfl _ _ rfl w.heap.size _ k (ws.take (4 * k)) ⟨wr_1.heap.size, 0, none⟩ [y0, y1, y2, y3] 1 1 rfl rfl rfl O2.out C2.out (by omega) (by omega) (by simp; omega) ?_; intro v2 w2 r1 r2; have O3 := hid r1; have B3 := hid ((B2.out.alloc hz2 _).trans r2); clear r1 r2))
          exact ⟨⟨k + 1, hlt, rfl, by rw [HQT.out, HQE.out]; exact O3.out, B3.out⟩, by simp [intOf]; omega⟩
    · have e : k = n := by omega
      subst e
      go_wp2_with fail
      go_ret2
      exact ⟨_, rfl, by have h := O1.out; rwa [← HWL.out, List.take_length] at h, Touch.of_below B1.out (Nat.le_refl _)⟩
end Go.Proofs.Ytfodpeiecmbojaa
