/-
  The landed program's writeClauses.
-/
import Derived.Test.YtdkboifpdodonaaDoorF4
namespace Go.Proofs.YtdkboifpdodonaaDoor
open Go.RowKit Go.Deep PureCnf
set_option maxRecDepth 100000

theorem isWr_new {w : World} : IsWr w.heap.size w.heap.size [] (w.alloc (Obj.cells #[.pointer none, .slice none 0 0] 88)) :=
  .inl ⟨Nat.le_refl _, .slice none 0 0, heap_alloc_new w _, ⟨by simp [Lib.byteCells], .inl ⟨rfl, by simp [Lib.byteCells]⟩⟩, by simp [Value.ownBlock]⟩
theorem isWr_size {B b : Nat} {T : List UInt8} {w : World} (h : IsWr B b T w) : b < w.heap.size := by
  rcases h with ⟨_, _, hk, _⟩ | ⟨_, _, hk, _⟩ <;> exact (Array.getElem?_eq_some_iff.1 hk).1
theorem add_add (a : Addr) (i j : Nat) : (a.add i).add j = a.add (i + j) := by
  unfold Addr.add
  by_cases hi : i = 0
  · subst hi; simp
  · by_cases hj : j = 0
    · subst hj; simp
    · rw [if_neg hj, if_neg hi, if_neg (by omega)]
      simp [Nat.add_assoc]
theorem itoa_nat (n : Nat) : Lib.itoa (n : Int) = Lib.decDigits n := Lib.itoa_nonneg n

set_option maxHeartbeats 4000000 in
theorem wclauses_ss (V : Int) (E L : List Int) (ae al : Addr) (ce cl : Nat) (w : World) (hT : Tab w) (hE : IntsAt w (some ae) E) (hL : IntsAt w (some al) L) (hcl : L.length ≤ cl) (h : formedB V E L = true) :
    Calls Tryd.prog 25 #[cnfV V (some ae) E.length ce (some al) L.length cl] w fun e w' => e = .returned (str (cnfT V E L)) ∧ Below w.heap.size w w' := by
  obtain ⟨⟨z1, z2, z3, z4⟩, hm, hlast, hlit⟩ := formed_parts h
  obtain ⟨v, hv⟩ : ∃ v : Nat, V = v := ⟨V.toNat, by omega⟩
  subst hv
  obtain ⟨WA, hWA⟩ : ∃ WA, WA = w.alloc (Obj.cells #[.int .i64 (v : Int), .slice (some ae) E.length ce, .slice (some al) L.length cl] 24) := ⟨_, rfl⟩
  have tA : Below w.heap.size w WA := by rw [hWA]; exact (Below.refl _ _).alloc (Nat.le_refl _) _
  have rA : WA.heap[w.heap.size]? = some (.cells #[.int .i64 (v : Int), .slice (some ae) E.length ce, .slice (some al) L.length cl] 24 (0, 0)) := by rw [hWA]; exact heap_alloc_new w _
  obtain ⟨WB, hWB⟩ : ∃ WB, WB = WA.alloc (Obj.cells #[.pointer none, .slice none 0 0] 88) := ⟨_, rfl⟩
  obtain ⟨b, hb⟩ : ∃ b, b = WA.heap.size := ⟨_, rfl⟩
  have hbn : w.heap.size < b := by rw [hb]; exact (Array.getElem?_eq_some_iff.1 rA).1
  have tB : Below b WA WB := by rw [hWB, hb]; exact (Below.refl _ _).alloc (Nat.le_refl _) _
  have hw0 : IsWr b b [] WB := by rw [hWB, hb]; exact isWr_new
  have hsB : b ≤ WB.heap.size := by rw [hWB, hb]; simp
  have hT' := hT
  have KEEP : Hid (∀ W, Below b WB W → W.heap[w.heap.size]? = some (.cells #[.int .i64 (v : Int), .slice (some ae) E.length ce, .slice (some al) L.length cl] 24 (0, 0)) ∧ Tab W ∧ IntsAt W (some ae) E ∧ IntsAt W (some al) L ∧ Below w.heap.size w W) := by
    intro W hW
    have t : Below b WA W := tB.trans hW
    have t2 : Below w.heap.size w W := tA.trans (t.mono (by omega))
    exact ⟨(t.block _ hbn).trans rA, hT.below t2, hE.below t2, hL.below t2, t2⟩
  have KS : Hid (∀ W, Below b WB W → W.cell? ⟨w.heap.size, 0, none⟩ = some (.int .i64 (v : Int)) ∧ W.cell? ⟨w.heap.size, 1, none⟩ = some (.slice (some ae) E.length ce)) := fun W hW => by
    have := (KEEP.out W hW).1
    exact ⟨by rw [cell_row this]; rfl, by rw [cell_row this]; rfl⟩
  have HW0 := hid hw0
  have HWA := hid hWA
  have HWB := hid hWB
  have HBB := hid hb
  have HM := hid hm
  have HLA := hid hlast
  have HLIT := hid hlit
  clear hWA hWB hb tA tB rA hT hT' hE hL hw0 h hm hlast hlit
  go_enter Tryd.func25, Tryd.ntmps25
  go_wp2_with (first | (rw [← HWA.out]) | (rw [← HWB.out]))
  rw [← HBB.out]
  refine wp_region_noPanic ?_
  refine wp_region_held_drew (S := fun W => W.cell? ⟨w.heap.size, 0, none⟩ = some (.int .i64 (v : Int)) ∧ W.cell? ⟨w.heap.size, 1, none⟩ = some (.slice (some ae) E.length ce)) (by kernel_rfl) (KS.out _ (Below.refl _ _).drew) (fun hHeld => ?_)
  refine wpAnyH_take (i := 0) (v := ?_) (by simp only [List.getElem?_toArray, List.getElem?_cons_zero]; rfl) (by kernel_rfl) (by kernel_rfl) (by kernel_rfl) (fun _ _ _ h => h) (Or.inl ⟨by rfl, ?_⟩) (by assumption) ?_
  rotate_left 1
  · intro w hSw; (try dsimp only at hSw); go_simp; (try with_reducible rfl)
  try simp only [Act.put, List.setIfInBounds_toArray, List.set_cons_zero, List.set_cons_succ]
  refine wpAnyH_take (i := 1) (v := ?_) (by simp only [List.getElem?_toArray, List.getElem?_cons_succ, List.getElem?_cons_zero]; rfl) (by kernel_rfl) (by kernel_rfl) (by kernel_rfl) (fun _ _ _ h => h) (Or.inl ⟨by rfl, ?_⟩) (by assumption) ?_
  rotate_left 1
  · intro w hSw; (try dsimp only at hSw); go_simp; (try with_reducible rfl)
  try simp only [Act.put, List.setIfInBounds_toArray, List.set_cons_zero, List.set_cons_succ]
  refine wpAnyH_take (i := 3) (v := ?_) (by simp only [List.getElem?_toArray, List.getElem?_cons_succ, List.getElem?_cons_zero]; rfl) (by kernel_rfl) (by kernel_rfl) (by kernel_rfl) (fun _ _ _ h => h) (Or.inl ⟨by rfl, ?_⟩) (by assumption) ?_
  rotate_left 1
  · intro w hSw; (try dsimp only at hSw); go_simp; (try with_reducible rfl)
  try simp only [Act.put, List.setIfInBounds_toArray, List.set_cons_zero, List.set_cons_succ]
  refine wpAnyH_take (i := 4) (v := ?_) (by simp only [List.getElem?_toArray, List.getElem?_cons_succ, List.getElem?_cons_zero]; rfl) (by kernel_rfl) (by kernel_rfl) (by kernel_rfl) (fun _ _ _ h => h) (Or.inl ⟨by rfl, ?_⟩) (by assumption) ?_
  rotate_left 1
  · intro w hSw; (try dsimp only at hSw); go_simp; (try with_reducible rfl)
  try simp only [Act.put, List.setIfInBounds_toArray, List.set_cons_zero, List.set_cons_succ]
  refine wpAnyH_take (i := 5) (v := ?_) (by simp only [List.getElem?_toArray, List.getElem?_cons_succ, List.getElem?_cons_zero]; rfl) (by kernel_rfl) (by kernel_rfl) (by kernel_rfl) (fun _ _ _ h => h) (Or.inl ⟨by rfl, ?_⟩) (by assumption) ?_
  rotate_left 1
  · intro w hSw; (try dsimp only at hSw); go_simp; (try with_reducible rfl)
  try simp only [Act.put, List.setIfInBounds_toArray, List.set_cons_zero, List.set_cons_succ]
  refine wpAnyH_ready (rs := [2]) (by kernel_rfl) (by simp) ?_
  refine AllReadyH.cons (by simp only [List.getElem?_toArray, List.getElem?_cons_succ, List.getElem?_cons_zero]; rfl) (fun K hK => ?_) AllReadyH.nil
  go_simp
  refine (itoa_any (v : Int) (by omega) (by omega) _ (KEEP.out _ (Below.refl _ _).drew).2.1).mono ?_
  rintro e1 w1 ⟨rfl, b1⟩
  have T1 := hid ((Below.refl b WB).drew.trans (b1.mono (by simpa using hsB)))
  have P1 := hid ((HW0.out.on (Below.refl _ _).drew).on b1)
  clear b1
  clear hHeld
  refine hK.out _ _ (KS.out _ T1.out) (fun hHeld => ?_)
  clear hK K
  try simp only [Act.put, List.setIfInBounds_toArray, List.set_cons_zero, List.set_cons_succ]
  refine wpAnyH_ready (rs := [6]) (by kernel_rfl) (by simp) ?_
  refine AllReadyH.cons (by simp only [List.getElem?_toArray, List.getElem?_cons_succ, List.getElem?_cons_zero]; rfl) (fun K hK => ?_) AllReadyH.nil
  go_simp
  refine (itoa_any (E.length : Int) (by omega) (by omega) _ (KEEP.out _ T1.out).2.1).mono ?_
  rintro e2 w2 ⟨rfl, b2⟩
  have hs1 := T1.out.size
  have T2 := hid (T1.out.trans (b2.mono (by omega)))
  have P2 := hid (P1.out.on b2)
  clear b2
  clear hHeld
  refine hK.out _ _ (KS.out _ T2.out) (fun hHeld => ?_)
  clear hK K
  try simp only [Act.put, List.setIfInBounds_toArray, List.set_cons_zero, List.set_cons_succ]
  refine wpAnyH_ready (rs := [7]) (by kernel_rfl) (by simp) ?_
  refine AllReadyH.cons (by simp only [List.getElem?_toArray, List.getElem?_cons_succ, List.getElem?_cons_zero]; rfl) (fun K hK => ?_) AllReadyH.nil
  go_simp
  obtain ⟨W3, hW3⟩ : ∃ W3, W3 = w2.alloc (Obj.cells #[.string ⟨#[112, 32, 99, 110, 102, 32]⟩, str (Lib.itoa (v : Int)), .string ⟨#[32]⟩, str (Lib.itoa (E.length : Int)), .string ⟨#[10]⟩] 9) := ⟨_, rfl⟩
  rw [← hW3]
  have t3 : Below w2.heap.size w2 W3 := by rw [hW3]; exact (Below.refl _ _).alloc (Nat.le_refl _) _
  have hs2 := T2.out.size
  have T3 := hid (T2.out.trans (t3.mono (by omega)))
  have P3 := hid (P2.out.on t3)
  have PT : Hid (Parts W3 w2.heap.size [[112, 32, 99, 110, 102, 32], Lib.itoa (v : Int), [32], Lib.itoa (E.length : Int), [10]]) := by rw [hW3]; exact heap_alloc_new w2 _
  have HG : Hid (w2.heap.size ≠ b) := by have h1 := P2.out; rcases h1 with ⟨_, _, hk, _⟩ | ⟨_, _, hk, _⟩ <;> (have := (Array.getElem?_eq_some_iff.1 hk).1; show _ ≠ _; omega)
  clear t3 hW3
  clear hHeld
  refine hK.out _ _ (KS.out _ T3.out) (fun hHeld => ?_)
  clear hK K
  try simp only [Act.put, List.setIfInBounds_toArray, List.set_cons_zero, List.set_cons_succ]
  refine wpAnyH_ready (rs := [8]) (by kernel_rfl) (by simp) ?_
  refine AllReadyH.cons (by simp only [List.getElem?_toArray, List.getElem?_cons_succ, List.getElem?_cons_zero]; rfl) (fun K hK => ?_) AllReadyH.nil
  go_simp
  have hl1 := Lib.itoa_length_le (v : Int) (by omega) (by omega)
  have hl2 := Lib.itoa_length_le (E.length : Int) (by omega) (by omega)
  have hs3 := T3.out.size
  refine (put_any b b w2.heap.size [] [[112, 32, 99, 110, 102, 32], Lib.itoa (v : Int), [32], Lib.itoa (E.length : Int), [10]] W3 P3.out PT.out HG.out (by simp; omega) (by simp) (by omega)).mono ?_
  rintro e4 W4 ⟨rfl, r1, r2, r3⟩
  have T4 := hid (T3.out.trans r2)
  have P4 : Hid (IsWr b b (headT v E.length) W4) := by
    have : ([] : List UInt8) ++ [[112, 32, 99, 110, 102, 32], Lib.itoa (v : Int), [32], Lib.itoa (E.length : Int), [10]].flatten = headT v E.length := by
      rw [itoa_nat, itoa_nat]; simp [headT]
    rw [this] at r1; exact r1
  have hH : (headT v E.length).length ≤ 100 := by unfold headT; rw [itoa_nat] at hl1 hl2; simp; omega
  clear r1 r2 r3 hl1 hl2
  clear hHeld
  refine hK.out _ _ (KS.out _ T4.out) (fun hHeld => ?_)
  clear hK K
  try simp only [Act.put, List.setIfInBounds_toArray, List.set_cons_zero, List.set_cons_succ]
  refine wpAnyH_done (by kernel_rfl) ?_ _
  refine NoPanic.normal ?_
  clear P1 P2 P3 PT HG T1 T2 T3 HW0 hHeld
  have c0 := fun j => cell_row (KEEP.out _ T4.out).1 j
  go_wp2_with fail
  clear c0
  go_loopw [4, 21] (fun fv iv W => ∃ k : Nat, iv = .int .i64 k ∧ k ≤ E.length ∧ fv = .int .i64 (lastOr 0 (E.take k)) ∧ Hid (IsWr b b (headT v E.length ++ bodyT L 0 (E.take k)) W ∧ Below b WB W ∧ (headT v E.length ++ bodyT L 0 (E.take k)).length ≤ 100 + 23 * (lastOr 0 (E.take k)).toNat + 2 * k)) (fun _ iv _ => E.length - (intOf iv).toNat)
  case atStart => exact ⟨0, rfl, Nat.zero_le _, rfl, by simpa [bodyT] using P4.out, T4.out, by simpa [bodyT, lastOr] using hH⟩
  case round =>
    obtain ⟨k, rfl, hk, rfl, HP⟩ := hrel
    obtain ⟨q1, q2, q3⟩ := HP.out
    by_cases hlt : k < E.length
    · obtain ⟨p, q, hp, hq, hpq, hqn⟩ := mono_nat HM.out HLA.out hlt
      obtain ⟨kr, kT, kE, kL, kB⟩ := KEEP.out _ q2
      obtain ⟨a, hse, ha, hr⟩ := kE.read hlt
      cases hse
      have c0 := fun j => cell_row kr j
      have c1 := hr wr (Below.refl _ _)
      have hbo := bodyT_on (L := L) hlt
      rw [hp] at q3 hbo ⊢
      rw [hq] at c1 hbo
      obtain ⟨T5, hT5⟩ : ∃ T5, T5 = headT v E.length ++ bodyT L 0 (E.take k) := ⟨_, rfl⟩
      rw [← hT5] at q1 q3
      have HBO : Hid (headT v E.length ++ bodyT L 0 (E.take (k + 1)) = T5 ++ (seg L p q ++ [48, 10])) := by
        show _ = _
        rw [hbo, ← List.append_assoc, ← hT5]; rfl
      have HLO : Hid (lastOr 0 (E.take (k + 1)) = (q : Int)) := by show _ = _; rw [take_snoc E k hlt, lastOr_snoc, hq]
      have Q1 := hid q1
      have Q2 := hid q2
      have Q3 : Hid (T5.length ≤ 100 + 23 * p + 2 * k) := by show _ ≤ _; simpa using q3
      have KL := hid kL
      have hqc : q ≤ cl := by omega
      clear q1 q2 q3 kr kT kE kL kB hr hbo hp hq hT5 HP P4 T4
      have HSEG0 : Hid (seg L p p = []) := seg_self L p
      by_cases hpc : cl = p
      · have hqp : p = q := by omega
        subst hqp
        have HQ : Hid (IsWr b b (T5 ++ seg L p p) wr ∧ Below b WB wr ∧ (T5 ++ seg L p p).length ≤ 100 + 23 * p + 2 * k) := by
          rw [HSEG0.out, List.append_nil]; exact ⟨Q1.out, Q2.out, Q3.out⟩
        subst hpc
        go_wp2_with fail
        go_loopw [31] (fun jv W => jv = .int .i64 0 ∧ W = wr) (fun _ _ => 0)
        case atStart => exact ⟨rfl, rfl⟩
        case round =>
          obtain ⟨rfl, hwr⟩ := hrel
          subst hwr
          obtain ⟨q5, q6, q7⟩ := HQ.out
          have hs6 := q6.size
          obtain ⟨W7, hW7⟩ : ∃ W7, W7 = wr.alloc (Obj.cells #[.string ⟨#[48, 10]⟩] 9) := ⟨_, rfl⟩
          have t7 : Below wr.heap.size wr W7 := by rw [hW7]; exact (Below.refl _ _).alloc (Nat.le_refl _) _
          have hne := isWr_size q5
          have T7 := hid (q6.trans (t7.mono (by omega)))
          have HPUT := hid (put_any b b wr.heap.size (T5 ++ seg L cl cl) [[48, 10]] W7 (q5.on t7) (by rw [hW7]; exact heap_alloc_new _ _) (by omega) (by simp at q7 ⊢; omega) (by simp) (by have := T7.out.size; omega))
          have HW7 := hid hW7
          have Q7 := hid q7
          clear hW7 t7 hne q5 q6 q7 HQ
          go_wp2_with (first | (rw [← HW7.out]) | (go_at_call 47; refine HPUT.out.mono ?_; rintro e8 W8 ⟨rfl, r1, r2, _⟩; have R1 := hid r1; have R2 := hid (T7.out.trans r2); clear r1 r2))
          go_roundw
          case rel =>
            refine ⟨k + 1, by go_num, hlt, by rw [HLO.out], by rw [HBO.out, ← List.append_assoc]; simpa using R1.out, R2.out, ?_⟩
            have := Q7.out
            rw [HBO.out, HLO.out]
            simp at this ⊢
            omega
          case measure => simp [intOf]; omega
      · have hpc2 : p < cl := by omega
        clear hpc
        go_wp2_with fail
        go_loopw [31] (fun jv W => ∃ j : Nat, jv = .int .i64 j ∧ j ≤ q - p ∧ Hid (IsWr b b (T5 ++ seg L p (p + j)) W ∧ Below b WB W ∧ (T5 ++ seg L p (p + j)).length ≤ 100 + 23 * (p + j) + 2 * k)) (fun jv _ => q - p - (intOf jv).toNat)
        case atStart => exact ⟨0, rfl, Nat.zero_le _, by rw [Nat.add_zero, HSEG0.out, List.append_nil]; exact ⟨Q1.out, Q2.out, Q3.out⟩⟩
        case round =>
          obtain ⟨j, rfl, hj, HQ⟩ := hrel
          obtain ⟨q5, q6, q7⟩ := HQ.out
          by_cases hjl : j < q - p
          · obtain ⟨_, kT, _, kL, _⟩ := KEEP.out _ q6
            have hpj : p + j < L.length := by omega
            obtain ⟨al', hsl, hal, hrl⟩ := kL.read hpj
            cases hsl
            have c2 := hrl _ (Below.refl _ _)
            have hlx := HLIT.out (p + j) hpj
            have hsg := seg_snoc (L := L) (i := p) (by omega) hpj
            obtain ⟨x, hx⟩ : ∃ x, x = L[p + j] := ⟨_, rfl⟩
            rw [← hx] at c2 hlx hsg
            rw [← add_add al p j] at c2
            have hil := Lib.itoa_length_le x (by omega) (by omega)
            have HIT := hid (itoa_any x (by omega) (by omega) wr kT)
            have HSG := hid hsg
            have Q5 := hid q5
            have Q6 := hid q6
            have Q7 := hid q7
            have hs6 := q6.size
            clear hx hsg q5 q6 q7 HQ kT kL hrl KL hlx
            go_wp2_with fail
            refine HIT.out.mono ?_
            rintro e5 w5 ⟨rfl, b5⟩
            have T5a := hid (Q6.out.trans (b5.mono (by omega)))
            have P5 := hid (Q5.out.on b5)
            have hs5 := b5.size
            have hn5 := isWr_size P5.out
            obtain ⟨W7, hW7⟩ : ∃ W7, W7 = w5.alloc (Obj.cells #[str (Lib.itoa x), .string ⟨#[32]⟩] 9) := ⟨_, rfl⟩
            have t7 : Below w5.heap.size w5 W7 := by rw [hW7]; exact (Below.refl _ _).alloc (Nat.le_refl _) _
            have T7 := hid (T5a.out.trans (t7.mono (by omega)))
            have HPUT := hid (put_any b b w5.heap.size (T5 ++ seg L p (p + j)) [Lib.itoa x, [32]] W7 (P5.out.on t7) (by rw [hW7]; exact heap_alloc_new _ _) (by omega) (by have := Q7.out; simp at this ⊢; omega) (by simp) (by have := T7.out.size; omega))
            have HW7 := hid hW7
            clear hW7 t7 b5 hn5
            go_wp2_with (first | (rw [← HW7.out]) | (go_at_call 47; refine HPUT.out.mono ?_; rintro e8 W8 ⟨rfl, r1, r2, _⟩; have R1 := hid r1; have R2 := hid (T7.out.trans r2); clear r1 r2))
            go_roundw
            case rel =>
              have e1 : T5 ++ seg L p (p + (j + 1)) = T5 ++ seg L p (p + j) ++ [Lib.itoa x, [32]].flatten := by
                rw [show p + (j + 1) = p + j + 1 by omega, HSG.out, List.append_assoc]
                simp [litT]
              refine ⟨j + 1, by go_num, hjl, by rw [e1]; exact R1.out, R2.out, ?_⟩
              have := Q7.out
              rw [e1, List.length_append]
              simp at this ⊢
              omega
            case measure => simp [intOf]; omega
          · obtain rfl : j = q - p := by omega
            rw [show p + (q - p) = q by omega] at HQ
            clear q5 q6 q7
            obtain ⟨q5, q6, q7⟩ := HQ.out
            have hs6 := q6.size
            obtain ⟨W7, hW7⟩ : ∃ W7, W7 = wr.alloc (Obj.cells #[.string ⟨#[48, 10]⟩] 9) := ⟨_, rfl⟩
            have t7 : Below wr.heap.size wr W7 := by rw [hW7]; exact (Below.refl _ _).alloc (Nat.le_refl _) _
            have hne := isWr_size q5
            have T7 := hid (q6.trans (t7.mono (by omega)))
            have HPUT := hid (put_any b b wr.heap.size (T5 ++ seg L p q) [[48, 10]] W7 (q5.on t7) (by rw [hW7]; exact heap_alloc_new _ _) (by omega) (by simp at q7 ⊢; omega) (by simp) (by have := T7.out.size; omega))
            have HW7 := hid hW7
            have Q7 := hid q7
            clear hW7 t7 hne q5 q6 q7 HQ
            go_wp2_with (first | (rw [← HW7.out]) | (go_at_call 47; refine HPUT.out.mono ?_; rintro e8 W8 ⟨rfl, r1, r2, _⟩; have R1 := hid r1; have R2 := hid (T7.out.trans r2); clear r1 r2))
            go_roundw
            case rel =>
              refine ⟨k + 1, by go_num, hlt, by rw [HLO.out], by rw [HBO.out, ← List.append_assoc]; simpa using R1.out, R2.out, ?_⟩
              have := Q7.out
              rw [HBO.out, HLO.out]
              simp at this ⊢
              omega
            case measure => simp [intOf]; omega
    · obtain rfl : k = E.length := by omega
      rw [List.take_length] at q1
      have hne : headT v E.length ++ bodyT L 0 E ≠ [] := by simp [headT]
      have HS := hid (string_any b b _ wr q1 hne)
      have HB9 := hid (KEEP.out _ q2).2.2.2.2
      have hsz := q2.size
      have HCT : Hid (headT v E.length ++ bodyT L 0 E = cnfT (v : Int) E L) := rfl
      clear q1 q2 q3 HP
      go_wp2_with (go_at_call 49; refine HS.out.mono ?_; rintro e9 w9 ⟨rfl, b9⟩; have HB10 := hid (HB9.out.trans (b9.mono (by omega))); clear b9)
      go_ret
      rw [← HCT.out]
      exact ⟨rfl, HB10.out⟩
set_option maxHeartbeats 4000000 in
theorem wclauses_sn (V : Int) (E L : List Int) (ae : Addr) (ce cl : Nat) (w : World) (hT : Tab w) (hE : IntsAt w (some ae) E) (hL : IntsAt w none L) (hcl : L.length ≤ cl) (h : formedB V E L = true) (hL0 : L.length = 0) :
    Calls Tryd.prog 25 #[cnfV V (some ae) E.length ce none L.length cl] w fun e w' => e = .returned (str (cnfT V E L)) ∧ Below w.heap.size w w' := by
  have HL0 := hid hL0
  clear hL0
  obtain ⟨⟨z1, z2, z3, z4⟩, hm, hlast, hlit⟩ := formed_parts h
  obtain ⟨v, hv⟩ : ∃ v : Nat, V = v := ⟨V.toNat, by omega⟩
  subst hv
  obtain ⟨WA, hWA⟩ : ∃ WA, WA = w.alloc (Obj.cells #[.int .i64 (v : Int), .slice (some ae) E.length ce, .slice none L.length cl] 24) := ⟨_, rfl⟩
  have tA : Below w.heap.size w WA := by rw [hWA]; exact (Below.refl _ _).alloc (Nat.le_refl _) _
  have rA : WA.heap[w.heap.size]? = some (.cells #[.int .i64 (v : Int), .slice (some ae) E.length ce, .slice none L.length cl] 24 (0, 0)) := by rw [hWA]; exact heap_alloc_new w _
  obtain ⟨WB, hWB⟩ : ∃ WB, WB = WA.alloc (Obj.cells #[.pointer none, .slice none 0 0] 88) := ⟨_, rfl⟩
  obtain ⟨b, hb⟩ : ∃ b, b = WA.heap.size := ⟨_, rfl⟩
  have hbn : w.heap.size < b := by rw [hb]; exact (Array.getElem?_eq_some_iff.1 rA).1
  have tB : Below b WA WB := by rw [hWB, hb]; exact (Below.refl _ _).alloc (Nat.le_refl _) _
  have hw0 : IsWr b b [] WB := by rw [hWB, hb]; exact isWr_new
  have hsB : b ≤ WB.heap.size := by rw [hWB, hb]; simp
  have hT' := hT
  have KEEP : Hid (∀ W, Below b WB W → W.heap[w.heap.size]? = some (.cells #[.int .i64 (v : Int), .slice (some ae) E.length ce, .slice none L.length cl] 24 (0, 0)) ∧ Tab W ∧ IntsAt W (some ae) E ∧ IntsAt W none L ∧ Below w.heap.size w W) := by
    intro W hW
    have t : Below b WA W := tB.trans hW
    have t2 : Below w.heap.size w W := tA.trans (t.mono (by omega))
    exact ⟨(t.block _ hbn).trans rA, hT.below t2, hE.below t2, hL.below t2, t2⟩
  have KS : Hid (∀ W, Below b WB W → W.cell? ⟨w.heap.size, 0, none⟩ = some (.int .i64 (v : Int)) ∧ W.cell? ⟨w.heap.size, 1, none⟩ = some (.slice (some ae) E.length ce)) := fun W hW => by
    have := (KEEP.out W hW).1
    exact ⟨by rw [cell_row this]; rfl, by rw [cell_row this]; rfl⟩
  have HW0 := hid hw0
  have HWA := hid hWA
  have HWB := hid hWB
  have HBB := hid hb
  have HM := hid hm
  have HLA := hid hlast
  have HLIT := hid hlit
  clear hWA hWB hb tA tB rA hT hT' hE hL hw0 h hm hlast hlit
  go_enter Tryd.func25, Tryd.ntmps25
  go_wp2_with (first | (rw [← HWA.out]) | (rw [← HWB.out]))
  rw [← HBB.out]
  refine wp_region_noPanic ?_
  refine wp_region_held_drew (S := fun W => W.cell? ⟨w.heap.size, 0, none⟩ = some (.int .i64 (v : Int)) ∧ W.cell? ⟨w.heap.size, 1, none⟩ = some (.slice (some ae) E.length ce)) (by kernel_rfl) (KS.out _ (Below.refl _ _).drew) (fun hHeld => ?_)
  refine wpAnyH_take (i := 0) (v := ?_) (by simp only [List.getElem?_toArray, List.getElem?_cons_zero]; rfl) (by kernel_rfl) (by kernel_rfl) (by kernel_rfl) (fun _ _ _ h => h) (Or.inl ⟨by rfl, ?_⟩) (by assumption) ?_
  rotate_left 1
  · intro w hSw; (try dsimp only at hSw); go_simp; (try with_reducible rfl)
  try simp only [Act.put, List.setIfInBounds_toArray, List.set_cons_zero, List.set_cons_succ]
  refine wpAnyH_take (i := 1) (v := ?_) (by simp only [List.getElem?_toArray, List.getElem?_cons_succ, List.getElem?_cons_zero]; rfl) (by kernel_rfl) (by kernel_rfl) (by kernel_rfl) (fun _ _ _ h => h) (Or.inl ⟨by rfl, ?_⟩) (by assumption) ?_
  rotate_left 1
  · intro w hSw; (try dsimp only at hSw); go_simp; (try with_reducible rfl)
  try simp only [Act.put, List.setIfInBounds_toArray, List.set_cons_zero, List.set_cons_succ]
  refine wpAnyH_take (i := 3) (v := ?_) (by simp only [List.getElem?_toArray, List.getElem?_cons_succ, List.getElem?_cons_zero]; rfl) (by kernel_rfl) (by kernel_rfl) (by kernel_rfl) (fun _ _ _ h => h) (Or.inl ⟨by rfl, ?_⟩) (by assumption) ?_
  rotate_left 1
  · intro w hSw; (try dsimp only at hSw); go_simp; (try with_reducible rfl)
  try simp only [Act.put, List.setIfInBounds_toArray, List.set_cons_zero, List.set_cons_succ]
  refine wpAnyH_take (i := 4) (v := ?_) (by simp only [List.getElem?_toArray, List.getElem?_cons_succ, List.getElem?_cons_zero]; rfl) (by kernel_rfl) (by kernel_rfl) (by kernel_rfl) (fun _ _ _ h => h) (Or.inl ⟨by rfl, ?_⟩) (by assumption) ?_
  rotate_left 1
  · intro w hSw; (try dsimp only at hSw); go_simp; (try with_reducible rfl)
  try simp only [Act.put, List.setIfInBounds_toArray, List.set_cons_zero, List.set_cons_succ]
  refine wpAnyH_take (i := 5) (v := ?_) (by simp only [List.getElem?_toArray, List.getElem?_cons_succ, List.getElem?_cons_zero]; rfl) (by kernel_rfl) (by kernel_rfl) (by kernel_rfl) (fun _ _ _ h => h) (Or.inl ⟨by rfl, ?_⟩) (by assumption) ?_
  rotate_left 1
  · intro w hSw; (try dsimp only at hSw); go_simp; (try with_reducible rfl)
  try simp only [Act.put, List.setIfInBounds_toArray, List.set_cons_zero, List.set_cons_succ]
  refine wpAnyH_ready (rs := [2]) (by kernel_rfl) (by simp) ?_
  refine AllReadyH.cons (by simp only [List.getElem?_toArray, List.getElem?_cons_succ, List.getElem?_cons_zero]; rfl) (fun K hK => ?_) AllReadyH.nil
  go_simp
  refine (itoa_any (v : Int) (by omega) (by omega) _ (KEEP.out _ (Below.refl _ _).drew).2.1).mono ?_
  rintro e1 w1 ⟨rfl, b1⟩
  have T1 := hid ((Below.refl b WB).drew.trans (b1.mono (by simpa using hsB)))
  have P1 := hid ((HW0.out.on (Below.refl _ _).drew).on b1)
  clear b1
  clear hHeld
  refine hK.out _ _ (KS.out _ T1.out) (fun hHeld => ?_)
  clear hK K
  try simp only [Act.put, List.setIfInBounds_toArray, List.set_cons_zero, List.set_cons_succ]
  refine wpAnyH_ready (rs := [6]) (by kernel_rfl) (by simp) ?_
  refine AllReadyH.cons (by simp only [List.getElem?_toArray, List.getElem?_cons_succ, List.getElem?_cons_zero]; rfl) (fun K hK => ?_) AllReadyH.nil
  go_simp
  refine (itoa_any (E.length : Int) (by omega) (by omega) _ (KEEP.out _ T1.out).2.1).mono ?_
  rintro e2 w2 ⟨rfl, b2⟩
  have hs1 := T1.out.size
  have T2 := hid (T1.out.trans (b2.mono (by omega)))
  have P2 := hid (P1.out.on b2)
  clear b2
  clear hHeld
  refine hK.out _ _ (KS.out _ T2.out) (fun hHeld => ?_)
  clear hK K
  try simp only [Act.put, List.setIfInBounds_toArray, List.set_cons_zero, List.set_cons_succ]
  refine wpAnyH_ready (rs := [7]) (by kernel_rfl) (by simp) ?_
  refine AllReadyH.cons (by simp only [List.getElem?_toArray, List.getElem?_cons_succ, List.getElem?_cons_zero]; rfl) (fun K hK => ?_) AllReadyH.nil
  go_simp
  obtain ⟨W3, hW3⟩ : ∃ W3, W3 = w2.alloc (Obj.cells #[.string ⟨#[112, 32, 99, 110, 102, 32]⟩, str (Lib.itoa (v : Int)), .string ⟨#[32]⟩, str (Lib.itoa (E.length : Int)), .string ⟨#[10]⟩] 9) := ⟨_, rfl⟩
  rw [← hW3]
  have t3 : Below w2.heap.size w2 W3 := by rw [hW3]; exact (Below.refl _ _).alloc (Nat.le_refl _) _
  have hs2 := T2.out.size
  have T3 := hid (T2.out.trans (t3.mono (by omega)))
  have P3 := hid (P2.out.on t3)
  have PT : Hid (Parts W3 w2.heap.size [[112, 32, 99, 110, 102, 32], Lib.itoa (v : Int), [32], Lib.itoa (E.length : Int), [10]]) := by rw [hW3]; exact heap_alloc_new w2 _
  have HG : Hid (w2.heap.size ≠ b) := by have h1 := P2.out; rcases h1 with ⟨_, _, hk, _⟩ | ⟨_, _, hk, _⟩ <;> (have := (Array.getElem?_eq_some_iff.1 hk).1; show _ ≠ _; omega)
  clear t3 hW3
  clear hHeld
  refine hK.out _ _ (KS.out _ T3.out) (fun hHeld => ?_)
  clear hK K
  try simp only [Act.put, List.setIfInBounds_toArray, List.set_cons_zero, List.set_cons_succ]
  refine wpAnyH_ready (rs := [8]) (by kernel_rfl) (by simp) ?_
  refine AllReadyH.cons (by simp only [List.getElem?_toArray, List.getElem?_cons_succ, List.getElem?_cons_zero]; rfl) (fun K hK => ?_) AllReadyH.nil
  go_simp
  have hl1 := Lib.itoa_length_le (v : Int) (by omega) (by omega)
  have hl2 := Lib.itoa_length_le (E.length : Int) (by omega) (by omega)
  have hs3 := T3.out.size
  refine (put_any b b w2.heap.size [] [[112, 32, 99, 110, 102, 32], Lib.itoa (v : Int), [32], Lib.itoa (E.length : Int), [10]] W3 P3.out PT.out HG.out (by simp; omega) (by simp) (by omega)).mono ?_
  rintro e4 W4 ⟨rfl, r1, r2, r3⟩
  have T4 := hid (T3.out.trans r2)
  have P4 : Hid (IsWr b b (headT v E.length) W4) := by
    have : ([] : List UInt8) ++ [[112, 32, 99, 110, 102, 32], Lib.itoa (v : Int), [32], Lib.itoa (E.length : Int), [10]].flatten = headT v E.length := by
      rw [itoa_nat, itoa_nat]; simp [headT]
    rw [this] at r1; exact r1
  have hH : (headT v E.length).length ≤ 100 := by unfold headT; rw [itoa_nat] at hl1 hl2; simp; omega
  clear r1 r2 r3 hl1 hl2
  clear hHeld
  refine hK.out _ _ (KS.out _ T4.out) (fun hHeld => ?_)
  clear hK K
  try simp only [Act.put, List.setIfInBounds_toArray, List.set_cons_zero, List.set_cons_succ]
  refine wpAnyH_done (by kernel_rfl) ?_ _
  refine NoPanic.normal ?_
  clear P1 P2 P3 PT HG T1 T2 T3 HW0 hHeld
  have c0 := fun j => cell_row (KEEP.out _ T4.out).1 j
  go_wp2_with fail
  clear c0
  go_loopw [4, 21] (fun fv iv W => ∃ k : Nat, iv = .int .i64 k ∧ k ≤ E.length ∧ fv = .int .i64 (lastOr 0 (E.take k)) ∧ Hid (IsWr b b (headT v E.length ++ bodyT L 0 (E.take k)) W ∧ Below b WB W ∧ (headT v E.length ++ bodyT L 0 (E.take k)).length ≤ 100 + 23 * (lastOr 0 (E.take k)).toNat + 2 * k)) (fun _ iv _ => E.length - (intOf iv).toNat)
  case atStart => exact ⟨0, rfl, Nat.zero_le _, rfl, by simpa [bodyT] using P4.out, T4.out, by simpa [bodyT, lastOr] using hH⟩
  case round =>
    obtain ⟨k, rfl, hk, rfl, HP⟩ := hrel
    obtain ⟨q1, q2, q3⟩ := HP.out
    by_cases hlt : k < E.length
    · obtain ⟨p, q, hp, hq, hpq, hqn⟩ := mono_nat HM.out HLA.out hlt
      obtain ⟨kr, kT, kE, kL, kB⟩ := KEEP.out _ q2
      obtain ⟨a, hse, ha, hr⟩ := kE.read hlt
      cases hse
      have c0 := fun j => cell_row kr j
      have c1 := hr wr (Below.refl _ _)
      have hbo := bodyT_on (L := L) hlt
      rw [hp] at q3 hbo ⊢
      rw [hq] at c1 hbo
      obtain ⟨T5, hT5⟩ : ∃ T5, T5 = headT v E.length ++ bodyT L 0 (E.take k) := ⟨_, rfl⟩
      rw [← hT5] at q1 q3
      have HBO : Hid (headT v E.length ++ bodyT L 0 (E.take (k + 1)) = T5 ++ (seg L p q ++ [48, 10])) := by
        show _ = _
        rw [hbo, ← List.append_assoc, ← hT5]; rfl
      have HLO : Hid (lastOr 0 (E.take (k + 1)) = (q : Int)) := by show _ = _; rw [take_snoc E k hlt, lastOr_snoc, hq]
      have Q1 := hid q1
      have Q2 := hid q2
      have Q3 : Hid (T5.length ≤ 100 + 23 * p + 2 * k) := by show _ ≤ _; simpa using q3
      have KL := hid kL
      have hqc : q ≤ cl := by omega
      clear q1 q2 q3 kr kT kE kL kB hr hbo hp hq hT5 HP P4 T4
      have HSEG0 : Hid (seg L p p = []) := seg_self L p
      by_cases hpc : cl = p
      · have hqp : p = q := by omega
        subst hqp
        have HQ : Hid (IsWr b b (T5 ++ seg L p p) wr ∧ Below b WB wr ∧ (T5 ++ seg L p p).length ≤ 100 + 23 * p + 2 * k) := by
          rw [HSEG0.out, List.append_nil]; exact ⟨Q1.out, Q2.out, Q3.out⟩
        subst hpc
        go_wp2_with fail
        go_loopw [31] (fun jv W => jv = .int .i64 0 ∧ W = wr) (fun _ _ => 0)
        case atStart => exact ⟨rfl, rfl⟩
        case round =>
          obtain ⟨rfl, hwr⟩ := hrel
          subst hwr
          obtain ⟨q5, q6, q7⟩ := HQ.out
          have hs6 := q6.size
          obtain ⟨W7, hW7⟩ : ∃ W7, W7 = wr.alloc (Obj.cells #[.string ⟨#[48, 10]⟩] 9) := ⟨_, rfl⟩
          have t7 : Below wr.heap.size wr W7 := by rw [hW7]; exact (Below.refl _ _).alloc (Nat.le_refl _) _
          have hne := isWr_size q5
          have T7 := hid (q6.trans (t7.mono (by omega)))
          have HPUT := hid (put_any b b wr.heap.size (T5 ++ seg L cl cl) [[48, 10]] W7 (q5.on t7) (by rw [hW7]; exact heap_alloc_new _ _) (by omega) (by simp at q7 ⊢; omega) (by simp) (by have := T7.out.size; omega))
          have HW7 := hid hW7
          have Q7 := hid q7
          clear hW7 t7 hne q5 q6 q7 HQ
          go_wp2_with (first | (rw [← HW7.out]) | (go_at_call 47; refine HPUT.out.mono ?_; rintro e8 W8 ⟨rfl, r1, r2, _⟩; have R1 := hid r1; have R2 := hid (T7.out.trans r2); clear r1 r2))
          go_roundw
          case rel =>
            refine ⟨k + 1, by go_num, hlt, by rw [HLO.out], by rw [HBO.out, ← List.append_assoc]; simpa using R1.out, R2.out, ?_⟩
            have := Q7.out
            rw [HBO.out, HLO.out]
            simp at this ⊢
            omega
          case measure => simp [intOf]; omega
      · have hpc2 : p < cl := by omega
        clear hpc
        go_wp2_with fail
        go_loopw [31] (fun jv W => ∃ j : Nat, jv = .int .i64 j ∧ j ≤ q - p ∧ Hid (IsWr b b (T5 ++ seg L p (p + j)) W ∧ Below b WB W ∧ (T5 ++ seg L p (p + j)).length ≤ 100 + 23 * (p + j) + 2 * k)) (fun jv _ => q - p - (intOf jv).toNat)
        case atStart => exact ⟨0, rfl, Nat.zero_le _, by rw [Nat.add_zero, HSEG0.out, List.append_nil]; exact ⟨Q1.out, Q2.out, Q3.out⟩⟩
        case round =>
          obtain ⟨j, rfl, hj, HQ⟩ := hrel
          obtain ⟨q5, q6, q7⟩ := HQ.out
          by_cases hjl : j < q - p
          · have := HL0.out
            omega
          · obtain rfl : j = q - p := by omega
            rw [show p + (q - p) = q by omega] at HQ
            clear q5 q6 q7
            obtain ⟨q5, q6, q7⟩ := HQ.out
            have hs6 := q6.size
            obtain ⟨W7, hW7⟩ : ∃ W7, W7 = wr.alloc (Obj.cells #[.string ⟨#[48, 10]⟩] 9) := ⟨_, rfl⟩
            have t7 : Below wr.heap.size wr W7 := by rw [hW7]; exact (Below.refl _ _).alloc (Nat.le_refl _) _
            have hne := isWr_size q5
            have T7 := hid (q6.trans (t7.mono (by omega)))
            have HPUT := hid (put_any b b wr.heap.size (T5 ++ seg L p q) [[48, 10]] W7 (q5.on t7) (by rw [hW7]; exact heap_alloc_new _ _) (by omega) (by simp at q7 ⊢; omega) (by simp) (by have := T7.out.size; omega))
            have HW7 := hid hW7
            have Q7 := hid q7
            clear hW7 t7 hne q5 q6 q7 HQ
            go_wp2_with (first | (rw [← HW7.out]) | (go_at_call 47; refine HPUT.out.mono ?_; rintro e8 W8 ⟨rfl, r1, r2, _⟩; have R1 := hid r1; have R2 := hid (T7.out.trans r2); clear r1 r2))
            go_roundw
            case rel =>
              refine ⟨k + 1, by go_num, hlt, by rw [HLO.out], by rw [HBO.out, ← List.append_assoc]; simpa using R1.out, R2.out, ?_⟩
              have := Q7.out
              rw [HBO.out, HLO.out]
              simp at this ⊢
              omega
            case measure => simp [intOf]; omega
    · obtain rfl : k = E.length := by omega
      rw [List.take_length] at q1
      have hne : headT v E.length ++ bodyT L 0 E ≠ [] := by simp [headT]
      have HS := hid (string_any b b _ wr q1 hne)
      have HB9 := hid (KEEP.out _ q2).2.2.2.2
      have hsz := q2.size
      have HCT : Hid (headT v E.length ++ bodyT L 0 E = cnfT (v : Int) E L) := rfl
      clear q1 q2 q3 HP
      go_wp2_with (go_at_call 49; refine HS.out.mono ?_; rintro e9 w9 ⟨rfl, b9⟩; have HB10 := hid (HB9.out.trans (b9.mono (by omega))); clear b9)
      go_ret
      rw [← HCT.out]
      exact ⟨rfl, HB10.out⟩
set_option maxHeartbeats 4000000 in
theorem wclauses_nn (V : Int) (E L : List Int) (se sl : Option Addr) (ce cl : Nat) (w : World) (hT : Tab w) (hE : IntsAt w se E) (hL : IntsAt w sl L) (_hcl : L.length ≤ cl) (h : formedB V E L = true) (hE0 : E.length = 0) :
    Calls Tryd.prog 25 #[cnfV V se E.length ce sl L.length cl] w fun e w' => e = .returned (str (cnfT V E L)) ∧ Below w.heap.size w w' := by
  have HE0 := hid hE0
  clear hE0
  obtain ⟨⟨z1, z2, z3, z4⟩, hm, hlast, hlit⟩ := formed_parts h
  obtain ⟨v, hv⟩ : ∃ v : Nat, V = v := ⟨V.toNat, by omega⟩
  subst hv
  obtain ⟨WA, hWA⟩ : ∃ WA, WA = w.alloc (Obj.cells #[.int .i64 (v : Int), .slice se E.length ce, .slice sl L.length cl] 24) := ⟨_, rfl⟩
  have tA : Below w.heap.size w WA := by rw [hWA]; exact (Below.refl _ _).alloc (Nat.le_refl _) _
  have rA : WA.heap[w.heap.size]? = some (.cells #[.int .i64 (v : Int), .slice se E.length ce, .slice sl L.length cl] 24 (0, 0)) := by rw [hWA]; exact heap_alloc_new w _
  obtain ⟨WB, hWB⟩ : ∃ WB, WB = WA.alloc (Obj.cells #[.pointer none, .slice none 0 0] 88) := ⟨_, rfl⟩
  obtain ⟨b, hb⟩ : ∃ b, b = WA.heap.size := ⟨_, rfl⟩
  have hbn : w.heap.size < b := by rw [hb]; exact (Array.getElem?_eq_some_iff.1 rA).1
  have tB : Below b WA WB := by rw [hWB, hb]; exact (Below.refl _ _).alloc (Nat.le_refl _) _
  have hw0 : IsWr b b [] WB := by rw [hWB, hb]; exact isWr_new
  have hsB : b ≤ WB.heap.size := by rw [hWB, hb]; simp
  have hT' := hT
  have KEEP : Hid (∀ W, Below b WB W → W.heap[w.heap.size]? = some (.cells #[.int .i64 (v : Int), .slice se E.length ce, .slice sl L.length cl] 24 (0, 0)) ∧ Tab W ∧ IntsAt W se E ∧ IntsAt W sl L ∧ Below w.heap.size w W) := by
    intro W hW
    have t : Below b WA W := tB.trans hW
    have t2 : Below w.heap.size w W := tA.trans (t.mono (by omega))
    exact ⟨(t.block _ hbn).trans rA, hT.below t2, hE.below t2, hL.below t2, t2⟩
  have KS : Hid (∀ W, Below b WB W → W.cell? ⟨w.heap.size, 0, none⟩ = some (.int .i64 (v : Int)) ∧ W.cell? ⟨w.heap.size, 1, none⟩ = some (.slice se E.length ce)) := fun W hW => by
    have := (KEEP.out W hW).1
    exact ⟨by rw [cell_row this]; rfl, by rw [cell_row this]; rfl⟩
  have HW0 := hid hw0
  have HWA := hid hWA
  have HWB := hid hWB
  have HBB := hid hb
  have HM := hid hm
  have HLA := hid hlast
  have HLIT := hid hlit
  clear hWA hWB hb tA tB rA hT hT' hE hL hw0 h hm hlast hlit
  go_enter Tryd.func25, Tryd.ntmps25
  go_wp2_with (first | (rw [← HWA.out]) | (rw [← HWB.out]))
  rw [← HBB.out]
  refine wp_region_noPanic ?_
  refine wp_region_held_drew (S := fun W => W.cell? ⟨w.heap.size, 0, none⟩ = some (.int .i64 (v : Int)) ∧ W.cell? ⟨w.heap.size, 1, none⟩ = some (.slice se E.length ce)) (by kernel_rfl) (KS.out _ (Below.refl _ _).drew) (fun hHeld => ?_)
  refine wpAnyH_take (i := 0) (v := ?_) (by simp only [List.getElem?_toArray, List.getElem?_cons_zero]; rfl) (by kernel_rfl) (by kernel_rfl) (by kernel_rfl) (fun _ _ _ h => h) (Or.inl ⟨by rfl, ?_⟩) (by assumption) ?_
  rotate_left 1
  · intro w hSw; (try dsimp only at hSw); go_simp; (try with_reducible rfl)
  try simp only [Act.put, List.setIfInBounds_toArray, List.set_cons_zero, List.set_cons_succ]
  refine wpAnyH_take (i := 1) (v := ?_) (by simp only [List.getElem?_toArray, List.getElem?_cons_succ, List.getElem?_cons_zero]; rfl) (by kernel_rfl) (by kernel_rfl) (by kernel_rfl) (fun _ _ _ h => h) (Or.inl ⟨by rfl, ?_⟩) (by assumption) ?_
  rotate_left 1
  · intro w hSw; (try dsimp only at hSw); go_simp; (try with_reducible rfl)
  try simp only [Act.put, List.setIfInBounds_toArray, List.set_cons_zero, List.set_cons_succ]
  refine wpAnyH_take (i := 3) (v := ?_) (by simp only [List.getElem?_toArray, List.getElem?_cons_succ, List.getElem?_cons_zero]; rfl) (by kernel_rfl) (by kernel_rfl) (by kernel_rfl) (fun _ _ _ h => h) (Or.inl ⟨by rfl, ?_⟩) (by assumption) ?_
  rotate_left 1
  · intro w hSw; (try dsimp only at hSw); go_simp; (try with_reducible rfl)
  try simp only [Act.put, List.setIfInBounds_toArray, List.set_cons_zero, List.set_cons_succ]
  refine wpAnyH_take (i := 4) (v := ?_) (by simp only [List.getElem?_toArray, List.getElem?_cons_succ, List.getElem?_cons_zero]; rfl) (by kernel_rfl) (by kernel_rfl) (by kernel_rfl) (fun _ _ _ h => h) (Or.inl ⟨by rfl, ?_⟩) (by assumption) ?_
  rotate_left 1
  · intro w hSw; (try dsimp only at hSw); go_simp; (try with_reducible rfl)
  try simp only [Act.put, List.setIfInBounds_toArray, List.set_cons_zero, List.set_cons_succ]
  refine wpAnyH_take (i := 5) (v := ?_) (by simp only [List.getElem?_toArray, List.getElem?_cons_succ, List.getElem?_cons_zero]; rfl) (by kernel_rfl) (by kernel_rfl) (by kernel_rfl) (fun _ _ _ h => h) (Or.inl ⟨by rfl, ?_⟩) (by assumption) ?_
  rotate_left 1
  · intro w hSw; (try dsimp only at hSw); go_simp; (try with_reducible rfl)
  try simp only [Act.put, List.setIfInBounds_toArray, List.set_cons_zero, List.set_cons_succ]
  refine wpAnyH_ready (rs := [2]) (by kernel_rfl) (by simp) ?_
  refine AllReadyH.cons (by simp only [List.getElem?_toArray, List.getElem?_cons_succ, List.getElem?_cons_zero]; rfl) (fun K hK => ?_) AllReadyH.nil
  go_simp
  refine (itoa_any (v : Int) (by omega) (by omega) _ (KEEP.out _ (Below.refl _ _).drew).2.1).mono ?_
  rintro e1 w1 ⟨rfl, b1⟩
  have T1 := hid ((Below.refl b WB).drew.trans (b1.mono (by simpa using hsB)))
  have P1 := hid ((HW0.out.on (Below.refl _ _).drew).on b1)
  clear b1
  clear hHeld
  refine hK.out _ _ (KS.out _ T1.out) (fun hHeld => ?_)
  clear hK K
  try simp only [Act.put, List.setIfInBounds_toArray, List.set_cons_zero, List.set_cons_succ]
  refine wpAnyH_ready (rs := [6]) (by kernel_rfl) (by simp) ?_
  refine AllReadyH.cons (by simp only [List.getElem?_toArray, List.getElem?_cons_succ, List.getElem?_cons_zero]; rfl) (fun K hK => ?_) AllReadyH.nil
  go_simp
  refine (itoa_any (E.length : Int) (by omega) (by omega) _ (KEEP.out _ T1.out).2.1).mono ?_
  rintro e2 w2 ⟨rfl, b2⟩
  have hs1 := T1.out.size
  have T2 := hid (T1.out.trans (b2.mono (by omega)))
  have P2 := hid (P1.out.on b2)
  clear b2
  clear hHeld
  refine hK.out _ _ (KS.out _ T2.out) (fun hHeld => ?_)
  clear hK K
  try simp only [Act.put, List.setIfInBounds_toArray, List.set_cons_zero, List.set_cons_succ]
  refine wpAnyH_ready (rs := [7]) (by kernel_rfl) (by simp) ?_
  refine AllReadyH.cons (by simp only [List.getElem?_toArray, List.getElem?_cons_succ, List.getElem?_cons_zero]; rfl) (fun K hK => ?_) AllReadyH.nil
  go_simp
  obtain ⟨W3, hW3⟩ : ∃ W3, W3 = w2.alloc (Obj.cells #[.string ⟨#[112, 32, 99, 110, 102, 32]⟩, str (Lib.itoa (v : Int)), .string ⟨#[32]⟩, str (Lib.itoa (E.length : Int)), .string ⟨#[10]⟩] 9) := ⟨_, rfl⟩
  rw [← hW3]
  have t3 : Below w2.heap.size w2 W3 := by rw [hW3]; exact (Below.refl _ _).alloc (Nat.le_refl _) _
  have hs2 := T2.out.size
  have T3 := hid (T2.out.trans (t3.mono (by omega)))
  have P3 := hid (P2.out.on t3)
  have PT : Hid (Parts W3 w2.heap.size [[112, 32, 99, 110, 102, 32], Lib.itoa (v : Int), [32], Lib.itoa (E.length : Int), [10]]) := by rw [hW3]; exact heap_alloc_new w2 _
  have HG : Hid (w2.heap.size ≠ b) := by have h1 := P2.out; rcases h1 with ⟨_, _, hk, _⟩ | ⟨_, _, hk, _⟩ <;> (have := (Array.getElem?_eq_some_iff.1 hk).1; show _ ≠ _; omega)
  clear t3 hW3
  clear hHeld
  refine hK.out _ _ (KS.out _ T3.out) (fun hHeld => ?_)
  clear hK K
  try simp only [Act.put, List.setIfInBounds_toArray, List.set_cons_zero, List.set_cons_succ]
  refine wpAnyH_ready (rs := [8]) (by kernel_rfl) (by simp) ?_
  refine AllReadyH.cons (by simp only [List.getElem?_toArray, List.getElem?_cons_succ, List.getElem?_cons_zero]; rfl) (fun K hK => ?_) AllReadyH.nil
  go_simp
  have hl1 := Lib.itoa_length_le (v : Int) (by omega) (by omega)
  have hl2 := Lib.itoa_length_le (E.length : Int) (by omega) (by omega)
  have hs3 := T3.out.size
  refine (put_any b b w2.heap.size [] [[112, 32, 99, 110, 102, 32], Lib.itoa (v : Int), [32], Lib.itoa (E.length : Int), [10]] W3 P3.out PT.out HG.out (by simp; omega) (by simp) (by omega)).mono ?_
  rintro e4 W4 ⟨rfl, r1, r2, r3⟩
  have T4 := hid (T3.out.trans r2)
  have P4 : Hid (IsWr b b (headT v E.length) W4) := by
    have : ([] : List UInt8) ++ [[112, 32, 99, 110, 102, 32], Lib.itoa (v : Int), [32], Lib.itoa (E.length : Int), [10]].flatten = headT v E.length := by
      rw [itoa_nat, itoa_nat]; simp [headT]
    rw [this] at r1; exact r1
  have hH : (headT v E.length).length ≤ 100 := by unfold headT; rw [itoa_nat] at hl1 hl2; simp; omega
  clear r1 r2 r3 hl1 hl2
  clear hHeld
  refine hK.out _ _ (KS.out _ T4.out) (fun hHeld => ?_)
  clear hK K
  try simp only [Act.put, List.setIfInBounds_toArray, List.set_cons_zero, List.set_cons_succ]
  refine wpAnyH_done (by kernel_rfl) ?_ _
  refine NoPanic.normal ?_
  clear P1 P2 P3 PT HG T1 T2 T3 HW0 hHeld
  have c0 := fun j => cell_row (KEEP.out _ T4.out).1 j
  go_wp2_with fail
  clear c0
  go_loopw [4, 21] (fun fv iv W => ∃ k : Nat, iv = .int .i64 k ∧ k ≤ E.length ∧ fv = .int .i64 (lastOr 0 (E.take k)) ∧ Hid (IsWr b b (headT v E.length ++ bodyT L 0 (E.take k)) W ∧ Below b WB W ∧ (headT v E.length ++ bodyT L 0 (E.take k)).length ≤ 100 + 23 * (lastOr 0 (E.take k)).toNat + 2 * k)) (fun _ iv _ => E.length - (intOf iv).toNat)
  case atStart => exact ⟨0, rfl, Nat.zero_le _, rfl, by simpa [bodyT] using P4.out, T4.out, by simpa [bodyT, lastOr] using hH⟩
  case round =>
    obtain ⟨k, rfl, hk, rfl, HP⟩ := hrel
    obtain ⟨q1, q2, q3⟩ := HP.out
    by_cases hlt : k < E.length
    · have := HE0.out
      omega
    · obtain rfl : k = E.length := by omega
      rw [List.take_length] at q1
      have hne : headT v E.length ++ bodyT L 0 E ≠ [] := by simp [headT]
      have HS := hid (string_any b b _ wr q1 hne)
      have HB9 := hid (KEEP.out _ q2).2.2.2.2
      have hsz := q2.size
      have HCT : Hid (headT v E.length ++ bodyT L 0 E = cnfT (v : Int) E L) := rfl
      clear q1 q2 q3 HP
      go_wp2_with (go_at_call 49; refine HS.out.mono ?_; rintro e9 w9 ⟨rfl, b9⟩; have HB10 := hid (HB9.out.trans (b9.mono (by omega))); clear b9)
      go_ret
      rw [← HCT.out]
      exact ⟨rfl, HB10.out⟩
theorem wclauses_any (V : Int) (E L : List Int) (se sl : Option Addr) (ce cl : Nat) (w : World) (hT : Tab w) (hE : IntsAt w se E) (hL : IntsAt w sl L) (hcl : L.length ≤ cl) (h : formedB V E L = true) :
    Calls Tryd.prog 25 #[cnfV V se E.length ce sl L.length cl] w fun e w' => e = .returned (str (cnfT V E L)) ∧ Below w.heap.size w w' := by
  by_cases hE0 : E.length = 0
  · exact wclauses_nn V E L se sl ce cl w hT hE hL hcl h hE0
  · obtain ⟨ae, rfl, _, _⟩ := hE.read (k := 0) (by omega)
    by_cases hL0 : L.length = 0
    · cases sl with
      | none => exact wclauses_sn V E L ae ce cl w hT hE hL hcl h hL0
      | some al => exact wclauses_ss V E L ae al ce cl w hT hE hL hcl h
    · obtain ⟨al, rfl, _, _⟩ := hL.read (k := 0) (by omega)
      exact wclauses_ss V E L ae al ce cl w hT hE hL hcl h
end Go.Proofs.YtdkboifpdodonaaDoor
