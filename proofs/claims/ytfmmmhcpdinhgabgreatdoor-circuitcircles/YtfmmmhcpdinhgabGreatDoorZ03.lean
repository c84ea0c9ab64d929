import Derived.Test.YtfmmmhcpdinhgabGreatDoorZ02
/-
  The reader's name, op; what words mean.
-/
namespace Go.Proofs.YtfmmmhcpdinhgabGreatDoor
open Go.RowKit Go.Deep PureNet PureRd
set_option maxRecDepth 100000

set_option maxHeartbeats 2000000 in
theorem name_any (B b : Nat) (text : List UInt8) (s : Rs) (x : Bx) (w : World) (h : Rt w B b text s x) :
    Calls Tryz.prog 49 #[.pointer (some ⟨b, 0, none⟩)] w fun e w' => e = .returned (.agg #[str (take s).1.1, .int .i64 ((take s).1.2 : Int)]) ∧ (∃ lf, Rt w' B b text (name nameL s).2 { x with lf := lf }) ∧ Below B w w' ∧ Oth 77 (some b) w w' := by
  obtain ⟨w0, hw0⟩ : ∃ w0, w0 = w.alloc (.cells #[.string ⟨#[]⟩, .int .i64 0] 74) := ⟨_, rfl⟩
  have BW : Hid (Below w.heap.size w w0) := by rw [hw0]; exact (Below.refl _ _).alloc (Nat.le_refl _) _
  have RN : Hid (w0.heap[w.heap.size]? = some (.cells #[.string ⟨#[]⟩, .int .i64 0] 74 (0, 0))) := by rw [hw0]; exact heap_alloc_new w _
  have TK := hid (take_any B b text s x w0 (h.on BW.out))
  have hbw : b < w.heap.size := (Array.getElem?_eq_some_iff.1 h.box).1
  have hB := h.base
  have hmx := h.mxl
  have HIN : Hid (InT text.length (take s).1) := take_in h.inl
  have hsm := h.small
  obtain ⟨ty, hty⟩ : ∃ ty, ty = (take s).1 := ⟨_, rfl⟩
  obtain ⟨s1, hs1⟩ : ∃ s1, s1 = (take s).2 := ⟨_, rfl⟩
  have NM : Hid ((name nameL s).2 = if nameL ty.1 then s1 else refuse s1 140 ty.2) := by
    show _ = _
    rw [hty, hs1]
    rfl
  rw [← hty, ← hs1] at TK
  rw [← hty] at HIN ⊢
  have hti : ty.2 + ty.1.length ≤ text.length := HIN.out
  have ISN : Hid (∀ W, Calls Tryz.prog 27 #[str ty.1] W fun e w' => e = .returned (.bool (nameL ty.1)) ∧ w' = W) := fun W => isName_any ⟨ty.1.toArray⟩ W (by show ty.1.toArray.size ≤ _; simp; omega)
  have RF : Hid (∀ W lf, Rt W B b text s1 { x with lf := lf } → Calls Tryz.prog 59 #[.pointer (some ⟨b, 0, none⟩), .int .i64 140, .int .i64 (ty.2 : Int)] W fun e w' => (∃ y, e = .returned y) ∧ Rt w' B b text (refuse s1 140 ty.2) { x with lf := lf } ∧ Below B W w' ∧ Oth 77 (some b) W w') := fun W lf hW => refuse_any B b text s1 _ 140 ty.2 W hW (by omega) (by decide)
  -- what is at the end
  have FIN : Hid (∀ (W3 W : World) (s3 : Rs) (lf : Value), Rt W3 B b text s3 { x with lf := lf } → Below B w W3 → Oth 77 (some b) w W3 → W3.heap[w.heap.size]? = some (.cells #[.string ⟨#[]⟩, .int .i64 0] 74 (0, 0)) → W = (W3.setCell ⟨w.heap.size, 0, none⟩ (str ty.1)).setCell ⟨w.heap.size, 1, none⟩ (.int .i64 (ty.2 : Int)) →
      W.cell? ⟨w.heap.size, 0, none⟩ = some (str ty.1) ∧ W.cell? ⟨w.heap.size, 1, none⟩ = some (.int .i64 (ty.2 : Int)) ∧ (∃ lf, Rt W B b text s3 { x with lf := lf }) ∧ Below B w W ∧ Oth 77 (some b) w W) := fun W3 W s3 lf hR hb ho hn hW => by
    have hrw : W.heap[w.heap.size]? = some (.cells #[str ty.1, .int .i64 (ty.2 : Int)] 74 (0, 0)) := by rw [hW, row_set (row_set hn)]; rfl
    have hsame : ∀ k, k ≠ w.heap.size → W.heap[k]? = W3.heap[k]? := fun k hk => by rw [hW, Below.heap_setCell _ _ _ _ hk, Below.heap_setCell _ _ _ _ hk]
    have hsz : W3.heap.size = W.heap.size := by rw [hW]; simp
    refine ⟨cell_row hrw 0, cell_row hrw 1, ⟨lf, hR.aside (k := w.heap.size) (by omega) (fun j o hj hne => (hsame j hne).trans hj) ⟨_, _, hn⟩ hmx⟩, ?_, fun k ob hk h1 h2 => (hsame k (by have := (Array.getElem?_eq_some_iff.1 hk).1; omega)).trans (ho k ob hk h1 h2)⟩
    rw [hW]
    exact (hb.setCell (p := ⟨w.heap.size, 0, none⟩) (by show B ≤ w.heap.size; omega) _).setCell (p := ⟨w.heap.size, 1, none⟩) (by show B ≤ w.heap.size; omega) _
  -- behind take
  have MID : Hid (∀ w1 lf, Rt w1 B b text s1 { x with lf := lf } → Below B w0 w1 → Oth 77 (some b) w0 w1 → ∀ w2, w2 = w1.alloc (.cells #[str ty.1, .int .i64 (ty.2 : Int)] 74) →
      Rt w2 B b text s1 { x with lf := lf } ∧ Below B w w2 ∧ Oth 77 (some b) w w2 ∧ w2.heap[w.heap.size]? = some (.cells #[.string ⟨#[]⟩, .int .i64 0] 74 (0, 0)) ∧ w2.heap[w1.heap.size]? = some (.cells #[str ty.1, .int .i64 (ty.2 : Int)] 74 (0, 0)) ∧ w1.heap.size ≠ b ∧ w1.heap.size ≠ w.heap.size) := fun w1 lf hR hb ho w2 h2 => by
    have b12 : Below w1.heap.size w1 w2 := by rw [h2]; exact (Below.refl _ _).alloc (Nat.le_refl _) _
    have hn1 := oth74 ho RN.out (by omega)
    have hl1 := (Array.getElem?_eq_some_iff.1 hn1).1
    have hs := hb.size
    have hs0 := BW.out.size
    refine ⟨hR.on b12, ((BW.out.mono (by omega)).trans hb).trans (b12.mono (by omega)), ((Oth.of_below BW.out).trans ho).trans (Oth.of_below b12), (b12.block _ hl1).trans hn1, by rw [h2]; exact heap_alloc_new w1 _, by omega, by omega⟩
  have HW0 := hid hw0
  clear h hw0 hty hs1 hsm hti HIN
  cases hnm : nameL ty.1
  · rw [hnm] at ISN NM
    simp only [Bool.false_eq_true, if_false] at NM
    go_enter Tryz.func49, Tryz.ntmps49
    go_wp2_with (first
      | (rw [← HW0.out]; clear HW0)
      | (have q := HW2; clear q; rw [← HW2.out]; clear HW2)
      | (have q := M1; clear q; go_at_call 59; refine (RF.out w2 lf M1.out).mono ?_; rintro e w3 ⟨⟨yy, rfl⟩, r3, b3, o3⟩; have R3 := hid r3; have B3 : Hid (Below B w w3) := M2.out.trans b3; have O3 : Hid (Oth 77 (some b) w w3) := M3.out.trans o3; have N3 := hid (oth74 o3 M4.out (by omega)); have D3 := oth74 o3 M5.out m6; have c0 := cell_row D3 0; have c1 := cell_row D3 1; have l5 := (Array.getElem?_eq_some_iff.1 D3).1; have n0 := cell_row N3.out 0; have n1 := cell_row N3.out 1; have f0 := unfrozen_row N3.out 0; have f1 := unfrozen_row N3.out 1; have l4 := (Array.getElem?_eq_some_iff.1 N3.out).1; clear r3 b3 o3 D3)
      | (go_at_call 75; refine TK.out.mono ?_; rintro e w1 ⟨rfl, ⟨lf, r1⟩, b1, o1⟩; obtain ⟨w2, hw2⟩ : ∃ w2, w2 = w1.alloc (.cells #[str ty.1, .int .i64 (ty.2 : Int)] 74) := ⟨_, rfl⟩; obtain ⟨m1, m2, m3, m4, m5, m6, m7⟩ := MID.out w1 lf r1 b1 o1 w2 hw2; have HW2 := hid hw2; have M1 := hid m1; have M2 := hid m2; have M3 := hid m3; have M4 := hid m4; have M5 := hid m5; have c0 := cell_row m5 0; have c1 := cell_row m5 1; have l5 := (Array.getElem?_eq_some_iff.1 m5).1; have n0 := cell_row m4 0; have n1 := cell_row m4 1; have f0 := unfrozen_row m4 0; have f1 := unfrozen_row m4 1; have l4 := (Array.getElem?_eq_some_iff.1 m4).1; clear hw2 m1 m2 m3 m4 m5 r1 b1 o1)
      | (go_at_call 27; refine (ISN.out _).mono ?_; rintro e w9 ⟨rfl, h9⟩; have h9 := h9.symm; subst h9))
    obtain ⟨g1, g2, g3⟩ := FIN.out w3 _ _ lf R3.out B3.out O3.out N3.out rfl
    refine bodyPost_ret (v := .agg #[str ty.1, .int .i64 (ty.2 : Int)]) (by simp [results, Tryz.results49, go_sem, g1, g2]) rfl ⟨rfl, ?_⟩
    rw [NM.out]
    exact g3
  · rw [hnm] at ISN NM
    simp only [if_true] at NM
    go_enter Tryz.func49, Tryz.ntmps49
    go_wp2_with (first
      | (rw [← HW0.out]; clear HW0)
      | (have q := HW2; clear q; rw [← HW2.out]; clear HW2)
      | (go_at_call 75; refine TK.out.mono ?_; rintro e w1 ⟨rfl, ⟨lf, r1⟩, b1, o1⟩; obtain ⟨w2, hw2⟩ : ∃ w2, w2 = w1.alloc (.cells #[str ty.1, .int .i64 (ty.2 : Int)] 74) := ⟨_, rfl⟩; obtain ⟨m1, m2, m3, m4, m5, m6, m7⟩ := MID.out w1 lf r1 b1 o1 w2 hw2; have HW2 := hid hw2; have M1 := hid m1; have M2 := hid m2; have M3 := hid m3; have M4 := hid m4; have M5 := hid m5; have c0 := cell_row m5 0; have c1 := cell_row m5 1; have l5 := (Array.getElem?_eq_some_iff.1 m5).1; have n0 := cell_row m4 0; have n1 := cell_row m4 1; have f0 := unfrozen_row m4 0; have f1 := unfrozen_row m4 1; have l4 := (Array.getElem?_eq_some_iff.1 m4).1; clear hw2 m1 m2 m3 m4 m5 r1 b1 o1)
      | (go_at_call 27; refine (ISN.out _).mono ?_; rintro e w9 ⟨rfl, h9⟩; have h9 := h9.symm; subst h9))
    obtain ⟨g1, g2, g3⟩ := FIN.out w2 _ _ lf M1.out M2.out M3.out M4.out rfl
    refine bodyPost_ret (v := .agg #[str ty.1, .int .i64 (ty.2 : Int)]) (by simp [results, Tryz.results49, go_sem, g1, g2]) rfl ⟨rfl, ?_⟩
    rw [NM.out]
    exact g3
end Go.Proofs.YtfmmmhcpdinhgabGreatDoor
/-
  The reader's namesOf.
-/
namespace Go.Proofs.YtfmmmhcpdinhgabGreatDoor
open Go.RowKit Go.Deep PureNet PureRd
set_option maxRecDepth 100000

theorem info74 : (Tryz.prog.info? 74).map (fun i => (i.zero, i.size, i.bytes)) = some (some (.agg #[.string ⟨#[]⟩, .int .i64 0]), 2, 24) := by kernel_rfl
theorem make_words (n : Nat) (hn : n ≤ 1000) (W : World) : (Instr.makeSlice 72 (.int .i64 (n : Int)) (.int .i64 (n : Int))).run Tryz.prog W = .ok (.slice (some ⟨W.heap.size, 0, none⟩) n n) (W.alloc (.cells (madeCells #[.string ⟨#[]⟩, .int .i64 0] (n * 2)) 74)) := by
  obtain ⟨i, hi, hz, hs, hb⟩ := info_parts info74
  have h := run_make (P := Tryz.prog) W 72 74 i _ Tryz.underlying72 hi hz .i64 .i64 (n : Int) (n : Int) (by omega) (Int.le_refl _) (by rw [hb]; omega) (by omega)
  rw [hs] at h
  simp only [Int.toNat_natCast] at h
  exact h
theorem namesOf_len (nm : List UInt8 → Bool) (n : Nat) (s : Rs) : (namesOf nm n s).1.length = n := by
  induction n with
  | zero => rfl
  | succ n ih => simp [namesOf, ih]
theorem namesOf_le (nm : List UInt8 → Bool) (N : Nat) (s : Rs) (h : ∀ y ∈ s.left, InT N y) : ∀ n, (∀ y ∈ (namesOf nm n s).2.left, InT N y) ∧ ∀ y ∈ (namesOf nm n s).1, InT N y := by
  have tl : ∀ s : Rs, (∀ y ∈ s.left, InT N y) → ∀ y ∈ (take s).2.left, InT N y := fun s h => by
    unfold take
    split
    · rename_i e
      intro y hy
      unfold refuse at hy
      split at hy <;> exact h y hy
    · rename_i z t e
      intro y hy
      exact h y (by rw [e]; exact List.mem_cons_of_mem _ hy)
  have nl : ∀ s : Rs, (∀ y ∈ s.left, InT N y) → ∀ y ∈ (name nm s).2.left, InT N y := fun s h => by
    unfold name
    dsimp only
    split
    · exact tl s h
    · intro y hy
      unfold refuse at hy
      split at hy <;> exact tl s h y hy
  intro n
  induction n with
  | zero => exact ⟨h, fun y hy => by simp [namesOf] at hy⟩
  | succ n ih =>
    refine ⟨nl _ ih.1, fun y hy => ?_⟩
    simp only [namesOf, List.mem_append, List.mem_singleton] at hy
    rcases hy with hy | rfl
    · exact ih.2 y hy
    · exact take_in ih.1

set_option maxHeartbeats 2000000 in
theorem namesOf_any (n : Nat) (hn : n ≤ 1000) (B b : Nat) (text : List UInt8) (s : Rs) (x : Bx) (w : World) (h : Rt w B b text s x) :
    Calls Tryz.prog 79 #[.pointer (some ⟨b, 0, none⟩), .int .i64 (n : Int)] w fun e w' => ∃ u cur, e = .returned (.slice (some ⟨u, 0, none⟩) n n) ∧ w.heap.size ≤ u ∧ w'.heap[u]? = some (.cells cur 74 (0, 0)) ∧ (∀ (j : Nat) (y : Wd), (namesOf nameL n s).1[j]? = some y → cur[j * 2]? = some (str y.1) ∧ cur[j * 2 + 1]? = some (.int .i64 (y.2 : Int))) ∧ (∃ lf, Rt w' B b text (namesOf nameL n s).2 { x with lf := lf }) ∧ Below B w w' ∧ Oth 77 (some b) w w' := by
  have mk := make_words n hn
  obtain ⟨w0, hw0⟩ : ∃ w0, w0 = w.alloc (.cells (madeCells #[.string ⟨#[]⟩, .int .i64 0] (n * 2)) 74) := ⟨_, rfl⟩
  have BW : Below w.heap.size w w0 := by rw [hw0]; exact (Below.refl _ _).alloc (Nat.le_refl _) _
  have hbw : b < w.heap.size := (Array.getElem?_eq_some_iff.1 h.box).1
  have hB := h.base
  have hmx := h.mxl
  have START : Hid (∃ cur lf, w0.heap[w.heap.size]? = some (.cells cur 74 (0, 0)) ∧ cur.size = n * 2 ∧ (∀ (j : Nat) (y : Wd), (namesOf nameL 0 s).1[j]? = some y → cur[j * 2]? = some (str y.1) ∧ cur[j * 2 + 1]? = some (.int .i64 (y.2 : Int))) ∧ Rt w0 B b text (namesOf nameL 0 s).2 { x with lf := lf } ∧ Below B w w0 ∧ Oth 77 (some b) w w0) :=
    ⟨_, x.lf, by rw [hw0]; exact heap_alloc_new w _, size_madeCells _ _, fun j y hy => by simp [namesOf] at hy, h.on BW, BW.mono (by omega), Oth.of_below BW⟩
  have NAM : Hid (∀ W i lf, Rt W B b text (namesOf nameL i s).2 { x with lf := lf } → Calls Tryz.prog 49 #[.pointer (some ⟨b, 0, none⟩)] W fun e w' => e = .returned (.agg #[str (name nameL (namesOf nameL i s).2).1.1, .int .i64 ((name nameL (namesOf nameL i s).2).1.2 : Int)]) ∧ (∃ lf, Rt w' B b text (namesOf nameL (i + 1) s).2 { x with lf := lf }) ∧ Below B W w' ∧ Oth 77 (some b) W w') := fun W i lf hR => name_any B b text _ { x with lf := lf } W hR
  have HW0 := hid hw0
  clear h BW hw0
  go_enter Tryz.func79, Tryz.ntmps79
  go_wp2_with (rw [← HW0.out])
  clear mk
  go_loopw [11] (fun iv W => ∃ i : Nat, i ≤ n ∧ iv = .int .i64 (i : Int) ∧ Hid (∃ cur lf, W.heap[w.heap.size]? = some (.cells cur 74 (0, 0)) ∧ cur.size = n * 2 ∧ (∀ (j : Nat) (y : Wd), (namesOf nameL i s).1[j]? = some y → cur[j * 2]? = some (str y.1) ∧ cur[j * 2 + 1]? = some (.int .i64 (y.2 : Int))) ∧ Rt W B b text (namesOf nameL i s).2 { x with lf := lf } ∧ Below B w W ∧ Oth 77 (some b) w W)) (fun iv _ => n - (intOf iv).toNat)
  case atStart => exact ⟨0, Nat.zero_le _, rfl, START.out⟩
  case round =>
    clear START
    obtain ⟨i, hi, rfl, HR⟩ := hrel
    obtain ⟨cur, lf, r1, r2, r3, r4, r5, r6⟩ := HR.out
    have R1 := hid r1
    have R2 := hid r2
    have R3 := hid r3
    have R5 := hid r5
    have R6 := hid r6
    by_cases hlt : i < n
    · have NI := hid (NAM.out wr i lf r4)
      obtain ⟨y, hy⟩ : ∃ y, y = (name nameL (namesOf nameL i s).2).1 := ⟨_, rfl⟩
      rw [← hy] at NI
      have STEP : Hid (∀ w2 lf2, Rt w2 B b text (namesOf nameL (i + 1) s).2 { x with lf := lf2 } → Below B wr w2 → Oth 77 (some b) wr w2 → (∃ z0 z1, w2.cell? ⟨w.heap.size, i * 2, none⟩ = some z0 ∧ w2.cell? ⟨w.heap.size, i * 2 + 1, none⟩ = some z1) ∧ (∀ j, w2.frozen? ⟨w.heap.size, j, none⟩ = false) ∧ w.heap.size < w2.heap.size ∧ ∀ W, W = (w2.setCell ⟨w.heap.size, i * 2, none⟩ (str y.1)).setCell ⟨w.heap.size, i * 2 + 1, none⟩ (.int .i64 (y.2 : Int)) → ∃ cur lf, W.heap[w.heap.size]? = some (.cells cur 74 (0, 0)) ∧ cur.size = n * 2 ∧ (∀ (j : Nat) (y : Wd), (namesOf nameL (i + 1) s).1[j]? = some y → cur[j * 2]? = some (str y.1) ∧ cur[j * 2 + 1]? = some (.int .i64 (y.2 : Int))) ∧ Rt W B b text (namesOf nameL (i + 1) s).2 { x with lf := lf } ∧ Below B w W ∧ Oth 77 (some b) w W) := fun w2 lf2 hR hb ho => by
        have hu := oth74 ho R1.out (by omega)
        have hsz := R2.out
        have hc : ∀ j, w2.cell? ⟨w.heap.size, j, none⟩ = cur[j]? := fun j => cell_row hu j
        refine ⟨⟨_, _, (hc _).trans (Array.getElem?_eq_getElem (by omega)), (hc _).trans (Array.getElem?_eq_getElem (by omega))⟩, fun j => unfrozen_row hu j, (Array.getElem?_eq_some_iff.1 hu).1, fun W hW => ?_⟩
        have hu2 : W.heap[w.heap.size]? = some (.cells ((cur.setIfInBounds (i * 2) (str y.1)).setIfInBounds (i * 2 + 1) (.int .i64 (y.2 : Int))) 74 (0, 0)) := by rw [hW, row_set (row_set hu)]
        have hsame : ∀ k, k ≠ w.heap.size → W.heap[k]? = w2.heap[k]? := fun k hk => by rw [hW, Below.heap_setCell _ _ _ _ hk, Below.heap_setCell _ _ _ _ hk]
        have hs2 : w2.heap.size = W.heap.size := by rw [hW]; simp
        refine ⟨_, lf2, hu2, by simpa using hsz, fun j z hz => ?_, hR.aside (k := w.heap.size) (by omega) (fun j o hj hne => (hsame j hne).trans hj) ⟨_, _, hu⟩ hmx, ?_, fun k ob hk h1 h2 => (hsame k (by have := (Array.getElem?_eq_some_iff.1 hk).1; omega)).trans ((R6.out.trans ho) k ob hk h1 h2)⟩
        · rw [show (namesOf nameL (i + 1) s).1 = (namesOf nameL i s).1 ++ [y] by rw [hy]; rfl] at hz
          have hl := namesOf_len nameL i s
          by_cases hj : j < i
          · rw [List.getElem?_append_left (by omega)] at hz
            have := R3.out j z hz
            rw [Array.getElem?_setIfInBounds_ne (by omega), Array.getElem?_setIfInBounds_ne (by omega), Array.getElem?_setIfInBounds_ne (by omega), Array.getElem?_setIfInBounds_ne (by omega)]
            exact this
          · rw [List.getElem?_append_right (by omega), hl] at hz
            have hj2 : j = i := by
              have := (List.getElem?_eq_some_iff.1 hz).1
              simp at this
              omega
            subst hj2
            simp at hz
            subst hz
            rw [Array.getElem?_setIfInBounds_ne (by omega)]
            constructor
            · rw [Array.getElem?_setIfInBounds_self_of_lt (by omega)]
            · rw [Array.getElem?_setIfInBounds_self_of_lt (by simp; omega)]
        · rw [hW]
          exact ((R5.out.trans hb).setCell (p := ⟨w.heap.size, i * 2, none⟩) (by show B ≤ w.heap.size; omega) _).setCell (p := ⟨w.heap.size, i * 2 + 1, none⟩) (by show B ≤ w.heap.size; omega) _
      clear HR r1 r2 r3 r4 r5 r6 hy
      go_wp2_with (go_at_call 49; refine NI.out.mono ?_; rintro e w2 ⟨rfl, ⟨lf2, k1⟩, k2, k3⟩; obtain ⟨⟨z0, z1, d0, d1⟩, d2, d3, fin⟩ := STEP.out w2 lf2 k1 k2 k3; have FN := hid fin; clear k1 k2 k3 fin)
      exact ⟨⟨i + 1, hlt, by go_num, FN.out _ rfl⟩, by simp [intOf] <;> omega⟩
    · have hie : i = n := by omega
      subst hie
      have FN : Hid (∃ u cur, Value.slice (some ⟨w.heap.size, 0, none⟩) i i = .slice (some ⟨u, 0, none⟩) i i ∧ w.heap.size ≤ u ∧ wr.heap[u]? = some (.cells cur 74 (0, 0)) ∧ (∀ (j : Nat) (y : Wd), (namesOf nameL i s).1[j]? = some y → cur[j * 2]? = some (str y.1) ∧ cur[j * 2 + 1]? = some (.int .i64 (y.2 : Int))) ∧ (∃ lf, Rt wr B b text (namesOf nameL i s).2 { x with lf := lf }) ∧ Below B w wr ∧ Oth 77 (some b) w wr) := ⟨_, cur, rfl, Nat.le_refl _, r1, r3, ⟨lf, r4⟩, r5, r6⟩
      clear HR r1 r2 r3 r4 r5 r6 R1 R2 R3 R5 R6
      obtain ⟨u, cur2, e2, f⟩ := FN.out
      have E2 := hid e2
      clear e2 FN
      go_wp2
      go_ret
      exact ⟨u, cur2, by rw [← E2.out]; rfl, f⟩
end Go.Proofs.YtfmmmhcpdinhgabGreatDoor
/-
  The reader in memory: a place, a name, a line more.
-/
namespace Go.Proofs.YtfmmmhcpdinhgabGreatDoor
open Go.RowKit Go.Deep PureNet PureRd Go.Maps Go.WideShapes
set_option maxRecDepth 100000

theorem info104 : (Tryz.prog.info? 104).map (fun i => (i.zero, i.size, i.bytes)) = some (some (.agg #[.int .i64 0, .string ⟨#[]⟩, .int .i64 0, .int .i64 0, .int .i64 0, .int .i64 0, .slice none 0 0]), 7, 80) := by kernel_rfl
theorem placeOf_push (s : Rs) (k : List UInt8) (p : Nat) (q : List UInt8) : placeOf { s with places := (k, p) :: s.places } q = if q = k then some p else placeOf s q := by
  unfold placeOf
  simp only [List.find?_cons]
  by_cases h : q = k
  · subst h; simp
  · have : (k == q) = false := by simpa using fun e => h e.symm
    rw [this, if_neg h]
/-- a map block turns, and no other. -/
theorem Rt.atMap {W W' : World} {B b : Nat} {text : List UInt8} {s : Rs} {x : Bx} (h : Rt W B b text s x) (hg : W.grownBy W' (some x.pm)) (k : List UInt8) (p n : Nat) (D : DataW Unit)
    (hD : W.ownsMap Tryz.prog 9 (plainElem Tryz.prog 3) x.pm n D) (hn : n ≤ s.places.length) (hv : ∀ q, has D (.string q) = (placeOf s q).isSome ∧ ∀ p z, placeOf s q = some p → D.atKey (.string q) z = .lit (.int .i64 (p : Int)))
    (hD' : W'.ownsMap Tryz.prog 9 (plainElem Tryz.prog 3) x.pm (n + 1) (D.put (.string k) (.lit (.int .i64 (p : Int))))) (hfew : s.places.length + 1 ≤ 1099511627776) : Rt W' B b text { s with places := (k, p) :: s.places } x := by
  obtain ⟨es, cl, hm, _⟩ := hD
  have cne : ∀ {j : Nat} {c : Array Value} {t : Nat} {fz : Nat × Nat}, W.heap[j]? = some (.cells c t fz) → some j ≠ some x.pm := fun hj e => by
    rw [Option.some.inj e, hm] at hj
    cases hj
  have keep : ∀ {j : Nat} {c : Array Value} {t : Nat} {fz : Nat × Nat}, W.heap[j]? = some (.cells c t fz) → W'.heap[j]? = some (.cells c t fz) := fun hj => (hg.block _ (Array.getElem?_eq_some_iff.1 hj).1 (cne hj)).trans hj
  have own : ∀ {e size n : Nat} {v : Value} {xs : List Value}, W.ownsRow B e size v n xs → W'.ownsRow B e size v n xs := fun ho => by
    refine ⟨ho.1, ?_⟩
    rcases ho.2 with hn | ⟨g, cap, cur, hv, hb, hr, rest⟩
    · exact .inl hn
    · exact .inr ⟨g, cap, cur, hv, hb, keep hr, rest⟩
  have wrow : ∀ {v : Value} {ws : List Wd}, WRow W x.mx v ws → WRow W' x.mx v ws := fun ⟨sa, c, hv, hc, hr⟩ => ⟨sa, c, hv, hc, fun h0 => by
    obtain ⟨g, o, cur, fz, e, hgM, hg, hx⟩ := hr h0
    exact ⟨g, o, cur, fz, e, hgM, keep hg, hx⟩⟩
  refine ⟨h.base, keep h.box, ?_, wrow h.left, own h.lines, h.many, fun i l u hl hu => wrow (h.uses i l u hl hu), ?_, own h.names, h.small, h.inl, h.inla, h.inn, h.inu, by simpa using hfew, h.fewL, h.fewN, h.fewO, h.flt, Nat.le_trans h.mxl hg.size, h.two, h.pmB⟩
  · rcases h.mode with hm | ⟨hm, m, n, D, e, ho, hD⟩
    · exact .inl hm
    · exact .inr ⟨hm, m, n, D, e, ho.kept hg (fun e2 => h.two m e (Option.some.inj e2)), hD⟩
  · have hD2 : IsMap D := World.ownsMap.isMap (w := W) (P := Tryz.prog) (k := 9) (R := plainElem Tryz.prog 3) (b := x.pm) (n := n) ⟨es, cl, hm, by assumption⟩
    refine ⟨n + 1, _, hD', by simpa using hn, fun q => ?_⟩
    rw [placeOf_push]
    by_cases hq : q = k
    · subst hq
      rw [if_pos rfl, has_put_same hD2 (by constructor)]
      exact ⟨rfl, fun p2 z e => by cases e; exact atKey_put_same hD2 (by constructor) _ _⟩
    · have hne : Lit.string q ≠ Lit.string k := fun e => hq (by simpa using e)
      rw [if_neg hq, has_put_other hne]
      exact ⟨(hv q).1, fun p2 z e => by rw [atKey_put_other hne]; exact (hv q).2 p2 z e⟩
/-- what is appended to a row of one type, and the box that shows it. -/
theorem Rt.pushName {W W' W2 : World} {B b : Nat} {text : List UInt8} {s : Rs} {x : Bx} (h : Rt W B b text s x) (ho : Oth 3 (some b) W W') (hs : W.heap.size ≤ W'.heap.size) (nv : Value) (a : Nat) (ha : a ≤ text.length) (hown : W'.ownsRow B 3 1 nv (s.names.length + 1) (nats s.names ++ [.int .i64 (a : Int)]))
    (hbox : W'.heap[b]? = some (.cells (boxV text { s with names := s.names ++ [a] } { x with nv := nv }) 77 (0, 0))) (hfew : s.names.length + 1 ≤ 1099511627776) (e : W2 = W') : Rt W2 B b text { s with names := s.names ++ [a] } { x with nv := nv } := by
  subst e
  have hb : ∀ (tt : Nat), tt ≠ 77 → ∀ k c fz, some b = some k → W.heap[k]? ≠ some (.cells c tt fz) := fun tt ht k c fz e h2 => by
    obtain rfl := Option.some.inj e
    rw [h.box] at h2
    simp only [Option.some.injEq, Obj.cells.injEq] at h2
    exact ht h2.2.1.symm
  refine ⟨h.base, hbox, h.mode.kept ho ⟨_, _, _, h.box⟩, h.left.kept ho (by decide) (hb 74 (by decide)), own_oth h.lines ho (by decide) (hb 104 (by decide)), h.many, fun i l u hl hu => (h.uses i l u hl hu).kept ho (by decide) (hb 74 (by decide)), h.places.kept ho ⟨_, _, _, h.box⟩, ?_, h.small, h.inl, h.inla, ?_, h.inu, h.few, h.fewL, by simpa using hfew, h.fewO, h.flt, Nat.le_trans h.mxl hs, h.two, h.pmB⟩
  · have e1 : nats (s.names ++ [a]) = nats s.names ++ [.int .i64 (a : Int)] := by simp [nats]
    have e2 : (s.names ++ [a]).length = s.names.length + 1 := by simp
    show W2.ownsRow B 3 1 nv (s.names ++ [a]).length (nats (s.names ++ [a]))
    rw [e1, e2]
    exact hown
  · intro y hy
    simp only [List.mem_append, List.mem_singleton] at hy
    rcases hy with hy | rfl
    · exact h.inn y hy
    · exact ha
theorem lnsV_push (l : List Ln) (us : List Value) (y : Ln) (u : Value) (h : us.length = l.length) : lnsV (l ++ [y]) (us ++ [u]) = lnsV l us ++ lnV y u := by
  unfold lnsV
  rw [List.zip_append (by omega)]
  simp
theorem Rt.pushLine {W W' W2 : World} {B b : Nat} {text : List UInt8} {s : Rs} {x : Bx} (h : Rt W B b text s x) (ho : Oth 104 (some b) W W') (hs : W.heap.size ≤ W'.heap.size) (ln : Value) (y : Ln) (u : Value) (mx : Nat) (hmx : x.mx ≤ mx) (hmx2 : mx ≤ W'.heap.size) (hy : ∀ z ∈ y.uses, InT text.length z) (hu : WRow W' mx u y.uses) (hown : W'.ownsRow B 104 7 ln (s.lines.length + 1) (lnsV s.lines x.us ++ lnV y u))
    (hbox : W'.heap[b]? = some (.cells (boxV text { s with lines := s.lines ++ [y] } { x with ln := ln, us := x.us ++ [u], mx := mx }) 77 (0, 0))) (hfew : s.lines.length + 1 ≤ 1099511627776) (e : W2 = W') : Rt W2 B b text { s with lines := s.lines ++ [y] } { x with ln := ln, us := x.us ++ [u], mx := mx } := by
  subst e
  have hb : ∀ (tt : Nat), tt ≠ 77 → ∀ k c fz, some b = some k → W.heap[k]? ≠ some (.cells c tt fz) := fun tt ht k c fz e h2 => by
    obtain rfl := Option.some.inj e
    rw [h.box] at h2
    simp only [Option.some.injEq, Obj.cells.injEq] at h2
    exact ht h2.2.1.symm
  have up : ∀ {v : Value} {ws : List Wd}, WRow W x.mx v ws → WRow W2 mx v ws := fun hw => by
    obtain ⟨sa, c, hv, hc, hr⟩ := hw.kept ho (by decide) (hb 74 (by decide))
    exact ⟨sa, c, hv, hc, fun h0 => by
      obtain ⟨g, o, cur, fz, e, hgM, hg, hx⟩ := hr h0
      exact ⟨g, o, cur, fz, e, by omega, hg, hx⟩⟩
  refine ⟨h.base, hbox, h.mode.kept ho ⟨_, _, _, h.box⟩, up h.left, ?_, by simp [h.many], fun i l v hl hv => ?_, h.places.kept ho ⟨_, _, _, h.box⟩, own_oth h.names ho (by decide) (hb 3 (by decide)), h.small, h.inl, h.inla, h.inn, ?_, h.few, by simpa using hfew, h.fewN, h.fewO, h.flt, hmx2, h.two, h.pmB⟩
  · show W2.ownsRow B 104 7 ln (s.lines ++ [y]).length (lnsV (s.lines ++ [y]) (x.us ++ [u]))
    rw [lnsV_push _ _ _ _ h.many, show (s.lines ++ [y]).length = s.lines.length + 1 by simp]
    exact hown
  · by_cases hi : i < s.lines.length
    · have hl2 : s.lines[i]? = some l := by
        have := hl
        simp only at this
        rwa [List.getElem?_append_left hi] at this
      have hv2 : x.us[i]? = some v := by
        have := hv
        simp only at this
        rwa [List.getElem?_append_left (by have := h.many; omega)] at this
      exact up (h.uses i l v hl2 hv2)
    · have hm := h.many
      have hl2 := hl
      have hv2 := hv
      simp only at hl2 hv2
      rw [List.getElem?_append_right (by omega)] at hl2 hv2
      have h0 : i - s.lines.length = 0 := by
        have := (List.getElem?_eq_some_iff.1 hl2).1
        simp at this
        omega
      rw [h0] at hl2
      rw [hm, h0] at hv2
      simp at hl2 hv2
      subst hl2 hv2
      exact hu
  · intro l hl z hz
    simp only [List.mem_append, List.mem_singleton] at hl
    rcases hl with hl | rfl
    · exact h.inu l hl z hz
    · exact hy z hz
end Go.Proofs.YtfmmmhcpdinhgabGreatDoor
/-
  The words of a line.
-/
namespace Go.Proofs.YtfmmmhcpdinhgabGreatDoor
open Go.RowKit Go.Deep PureNet PureRd
set_option maxRecDepth 100000

abbrev nb (c : UInt8) : Bool := !blankB c
theorem contains_blank (c : UInt8) : ([32, 9, 13] : List UInt8).contains c = blankB c := by
  simp [blankB, Bool.or_assoc]
  rfl
theorem index_blank : ∀ (r : List UInt8), (Lib.indexAny r [32, 9, 13] = -1 ∧ r.takeWhile nb = r) ∨ ∃ k : Nat, Lib.indexAny r [32, 9, 13] = (k : Int) ∧ k < r.length ∧ r.takeWhile nb = r.take k
  | [] => .inl ⟨rfl, rfl⟩
  | c :: t => by
    rw [Lib.indexAny, contains_blank]
    by_cases h : blankB c = true
    · refine .inr ⟨0, by rw [if_pos h]; rfl, by simp, ?_⟩
      simp [nb, h]
    · have h1 : blankB c = false := by simpa using h
      rw [if_neg h]
      rcases index_blank t with ⟨a, b⟩ | ⟨k, a, b, d⟩
      · refine .inl ⟨by rw [a]; rfl, ?_⟩
        rw [List.takeWhile_cons, if_pos (by simp [nb, h1]), b]
      · refine .inr ⟨k + 1, ?_, by simpa using b, ?_⟩
        · rw [a]
          have : ((k : Int) == -1) = false := by simp
          rw [this]
          simp
        · rw [List.takeWhile_cons, if_pos (by simp [nb, h1]), d]
          rfl
theorem trim_blank (l : List UInt8) : Lib.trimLeftS l [32, 9, 13] = l.dropWhile blankB := by
  unfold Lib.trimLeftS
  congr 1
  funext c
  exact contains_blank c
/-- no blank in front. -/
def Bare (r : List UInt8) : Prop := r = [] ∨ (r.takeWhile nb).length ≠ 0
theorem bare_drop (s : List UInt8) : Bare (s.dropWhile blankB) := by
  cases hd : s.dropWhile blankB with
  | nil => exact .inl rfl
  | cons a t =>
    right
    have : blankB a = false := by
      have := List.head?_dropWhile_not blankB s
      rw [hd] at this
      simpa using this
    simp [nb, this]
theorem wr_step (p n : Nat) (r : List UInt8) (h0 : r ≠ []) (hb : Bare r) : wr p n (r.length + 1) r = (r.takeWhile nb, p + (n - r.length)) :: wr p n (((r.drop (r.takeWhile nb).length).dropWhile blankB).length + 1) ((r.drop (r.takeWhile nb).length).dropWhile blankB) := by
  rw [wr, if_neg (by simpa using h0)]
  show (r.takeWhile nb, p + (n - r.length)) :: wr p n r.length ((r.drop (r.takeWhile nb).length).dropWhile blankB) = _
  congr 1
  have ht : (r.takeWhile nb).length ≠ 0 := by
    rcases hb with h | h
    · exact absurd h h0
    · exact h
  have h1 := drop_len (r.drop (r.takeWhile nb).length) blankB
  have h2 : (r.drop (r.takeWhile nb).length).length = r.length - (r.takeWhile nb).length := List.length_drop
  have h3 : (r.takeWhile nb).length ≤ r.length := (List.takeWhile_prefix _).length_le
  refine wr_fuel p n _ _ _ ?_ (by omega) (by omega)
  rcases bare_drop (r.drop (r.takeWhile nb).length) with h | h
  · exact .inr h
  · exact .inl h
theorem wr_len (p n : Nat) : ∀ (f : Nat) (r : List UInt8), (wr p n f r).length ≤ f
  | 0, r => by simp [wr]
  | f + 1, r => by
    rw [wr]
    split
    · simp
    · have := wr_len p n f ((r.drop (r.takeWhile nb).length).dropWhile blankB)
      simp only [List.length_cons]
      exact Nat.succ_le_succ this
def wdV (l : List Wd) : List Value := l.flatMap fun y => [str y.1, .int .i64 (y.2 : Int)]
theorem wdV_len (l : List Wd) : (wdV l).length = l.length * 2 := by
  induction l with
  | nil => rfl
  | cons a t ih => simp only [wdV, List.flatMap_cons, List.length_append, List.length_cons, List.length_nil] at ih ⊢; omega
theorem wdV_at (l : List Wd) (j : Nat) (y : Wd) (h : l[j]? = some y) : (wdV l)[j * 2]? = some (str y.1) ∧ (wdV l)[j * 2 + 1]? = some (.int .i64 (y.2 : Int)) := by
  induction l generalizing j with
  | nil => simp at h
  | cons a t ih =>
    have e : wdV (a :: t) = [str a.1, .int .i64 (a.2 : Int)] ++ wdV t := rfl
    rw [e]
    cases j with
    | zero => simp at h; subst h; exact ⟨rfl, rfl⟩
    | succ j =>
      have := ih j (by simpa using h)
      rw [show (j + 1) * 2 = j * 2 + 2 by omega, List.getElem?_append_right (by simp), List.getElem?_append_right (by simp)]
      simpa using this
theorem own_wrow {W : World} {B n : Nat} {v : Value} {ws : List Wd} (h : W.ownsRow B 74 2 v n (wdV ws)) : WRow W W.heap.size v ws := by
  have hn : ws.length = n := by have := h.1; rw [wdV_len] at this; omega
  rcases h.2 with ⟨hv, h0⟩ | ⟨g, cap, cur, hv, hb, hr, hnc, hcm, hcs, htk⟩
  · have : ws = [] := List.eq_nil_of_length_eq_zero (by omega)
    subst this
    rw [hv]
    exact WRow.nil _ _
  · refine ⟨_, cap, by rw [hn]; exact hv, by omega, fun _ => ⟨g, 0, cur, (0, 0), rfl, (Array.getElem?_eq_some_iff.1 hr).1, hr, fun j y hy => ?_⟩⟩
    obtain ⟨h1, h2⟩ := wdV_at ws j y hy
    rw [← htk] at h1 h2
    rw [List.getElem?_take] at h1 h2
    rw [Nat.zero_add]
    constructor
    · split at h1
      · simpa using h1
      · cases h1
    · split at h2
      · simpa using h2
      · cases h2

set_option maxHeartbeats 4000000 in
theorem words_any (l : List UInt8) (p : Nat) (w : World) (hl : l.length ≤ 1048576) (hp : p ≤ 1048576) (hasc : ∀ c ∈ l, c.toNat < 128) :
    Calls Tryz.prog 58 #[str l, .int .i64 (p : Int)] w fun e w' => ∃ v, e = .returned v ∧ WRow w' w'.heap.size v (wordsOf l p) ∧ Below w.heap.size w w' := by
  have CUT := hid (cut_any 35 ⟨l.toArray⟩ w (by show l.toArray.size ≤ _; simp; omega))
  obtain ⟨q, hq⟩ : ∃ q, q = cutHash l := ⟨_, rfl⟩
  have hql : q.length ≤ l.length := by rw [hq]; exact (List.takeWhile_prefix _).length_le
  have hqc : ∀ c ∈ q, c.toNat < 128 := fun c hc => hasc c (by rw [hq] at hc; exact (List.takeWhile_prefix _).subset hc)
  have CUT2 : Hid (Calls Tryz.prog 56 #[str l, .string ⟨#[35]⟩] w fun e w' => (∃ a b, e = .returned (.tuple #[str q, .string a, .bool b])) ∧ Below w.heap.size w w') := by rw [hq]; exact CUT.out
  have TRM : Hid (∀ (r : List UInt8) (W : World), Calls Tryz.prog 82 #[str r, .string ⟨#[32, 9, 13]⟩] W fun e w' => e = .returned (str (r.dropWhile blankB)) ∧ Below W.heap.size W w') := fun r W => by
    have h := Tryz.strings_TrimLeft_set ⟨r.toArray⟩ ⟨#[32, 9, 13]⟩ W (by decide) (by
      intro j b hb
      match j, hb with
      | 0, hb => cases hb; decide
      | 1, hb => cases hb; decide
      | 2, hb => cases hb; decide
      | (j + 3), hb => simp at hb)
    have e : Lib.trimLeftS r [32, 9, 13] = r.dropWhile blankB := trim_blank r
    rw [← e]
    exact h
  have IDX : Hid (∀ (r : List UInt8) (W : World), r.length ≤ 1048576 → (∀ c ∈ r, c.toNat < 128) → Calls Tryz.prog 83 #[str r, .string ⟨#[32, 9, 13]⟩] W fun e w' => e = .returned (.int .i64 (Lib.indexAny r [32, 9, 13])) ∧ Below W.heap.size W w') := fun r W h1 h2 =>
    Tryz.strings_IndexAny_laid ⟨r.toArray⟩ ⟨#[32, 9, 13]⟩ W (by show r.toArray.size < _; simp; omega) (by decide) (fun j b hb => h2 b (List.mem_of_getElem? hb)) (by
      intro j b hb
      match j, hb with
      | 0, hb => cases hb; decide
      | 1, hb => cases hb; decide
      | 2, hb => cases hb; decide
      | (j + 3), hb => simp at hb)
  have HWO : Hid (wordsOf l p = wr p q.length (q.length + 1) (q.dropWhile blankB)) := by show _ = _; rw [hq]; rfl
  have HQL := hid hql
  have HQC := hid hqc
  clear CUT hq hqc hasc
  go_enter Tryz.func58, Tryz.ntmps58
  go_wp2_with (first
    | (have z := B1; clear z; go_at_call 82; refine (TRM.out q _).mono ?_; rintro e w2 ⟨rfl, b2⟩; have B2 : Hid (Below w.heap.size w w2) := B1.out.trans (b2.mono B1.out.size); clear b2)
    | (go_at_call 56; refine CUT2.out.mono ?_; rintro e w1 ⟨⟨a, bb, rfl⟩, b1⟩; have B1 := hid b1; clear b1))
  have START : Hid (∃ acc r, str (q.dropWhile blankB) = str r ∧ Bare r ∧ r.length ≤ q.length ∧ (∀ c ∈ r, c.toNat < 128) ∧ acc ++ wr p q.length (r.length + 1) r = wordsOf l p ∧ Mk w w2 74 2 (.slice none 0 0) acc.length (wdV acc)) := by
    have hd := drop_len q blankB
    refine ⟨[], q.dropWhile blankB, rfl, bare_drop q, hd, fun c hc => HQC.out c ((List.dropWhile_suffix _).subset hc), ?_, (Mk.nil w 74 2).on B2.out⟩
    rw [HWO.out, List.nil_append]
    refine wr_fuel p _ _ _ _ ?_ (by omega) (by omega)
    rcases bare_drop q with h | h
    · exact .inr h
    · exact .inl h
  clear B1 B2 CUT2
  go_loopw [5, 6] (fun lv rv W => Hid (∃ acc r, rv = str r ∧ Bare r ∧ r.length ≤ q.length ∧ (∀ c ∈ r, c.toNat < 128) ∧ acc ++ wr p q.length (r.length + 1) r = wordsOf l p ∧ Mk w W 74 2 lv acc.length (wdV acc))) (fun lv rv _ => match rv with | .string s => s.size | _ => 0)
  case atStart => exact START.out
  case round =>
    clear START
    obtain ⟨WW, hWW⟩ : ∃ WW, WW = wr := ⟨_, rfl⟩
    rw [← hWW] at hrel ⊢
    clear hWW
    obtain ⟨acc, r, rfl, hbare, hrl, hrc, heq, hmk⟩ := hrel.out
    obtain ⟨sv, cv, rfl⟩ := own_shape hmk.own
    have MK := hid hmk
    by_cases hr0 : r = []
    · subst hr0
      have FN : Hid (WRow WW WW.heap.size (.slice sv acc.length cv) (wordsOf l p) ∧ Below w.heap.size w WW) := by
        refine ⟨?_, hmk.below⟩
        rw [← heq]
        have : PureRd.wr p q.length (([] : List UInt8).length + 1) [] = [] := rfl
        rw [this, List.append_nil]
        exact own_wrow hmk.own
      clear hrel hbare hrl hrc heq hmk MK
      go_wp2
      go_ret
      exact ⟨_, rfl, FN.out⟩
    · have e0 : (r == []) = false := by simpa using hr0
      have hrl2 : r.length ≤ 1048576 := by have := HQL.out; omega
      have IX := hid (IDX.out r · hrl2 hrc)
      have hal : acc.length ≤ 1048577 := by
        have h1 := congrArg List.length heq
        rw [List.length_append, HWO.out] at h1
        have h2 := wr_len p q.length (q.length + 1) (q.dropWhile blankB)
        have := HQL.out
        omega
      have hql2 : q.length ≤ 1048576 := by have := HQL.out; omega
      have WS := hid (wr_step p q.length r hr0 hbare)
      have HEQ := hid heq
      have HRC := hid hrc
      have hbare2 : (r.takeWhile nb).length ≠ 0 := by
        rcases hbare with h | h
        · exact absurd h hr0
        · exact h
      rcases index_blank r with ⟨hi, ht⟩ | ⟨k, hi, hk, ht⟩
      · rw [hi] at IX
        have HNX : Hid (∃ acc2 r2, [] = r2 ∧ Bare r2 ∧ r2.length ≤ q.length ∧ (∀ c ∈ r2, c.toNat < 128) ∧ acc2 ++ PureRd.wr p q.length (r2.length + 1) r2 = wordsOf l p ∧ acc2 = acc ++ [(r, p + (q.length - r.length))] ∧ r2.length < r.length) := by
          have e1 : (r.drop (r.takeWhile nb).length).dropWhile blankB = [] := by rw [ht]; simp
          have h1 := drop_len (r.drop (r.takeWhile nb).length) blankB
          have h2 : (r.drop (r.takeWhile nb).length).length = r.length - (r.takeWhile nb).length := List.length_drop
          have h3 : (r.takeWhile nb).length ≤ r.length := (List.takeWhile_prefix _).length_le
          rw [e1] at h1
          refine ⟨_, _, rfl, ?_, by omega, fun c hc => ?_, ?_, rfl, by omega⟩
          · rw [← e1]; exact bare_drop _
          · rw [← e1] at hc
            exact HRC.out c (List.drop_subset _ _ ((List.dropWhile_suffix _).subset hc))
          · rw [← HEQ.out, WS.out, e1, ht]
            simp
        have RL : Hid (r.length ≤ q.length) := hrl
        have EX1 : (⟨r.toArray⟩ : ByteArray).extract r.length r.length = ⟨#[]⟩ := by rw [Lib.extract_eq]; simp
        have TR0 := hid (TRM.out [] ·)
        clear hrel hbare hrc heq hmk hi ht hbare2 WS HEQ HRC
        go_wp2_with (first
          | (have z := M2; clear z; go_at_call 82; (try rw [EX1]); refine (TR0.out _).mono ?_; rintro e w3 ⟨rfl, b3⟩; have M3 := hid (M2.out.on b3); clear b3)
          | (at_builtin; refine mk_app rfl _ _ 72 _ 24 rfl Tryz.underlying72 info74 rfl (by decide) M1.out [str r, .int .i64 ((p : Int) + (q.length : Int) - (r.length : Int))] 74 _ rfl rfl rfl rfl (fun u hu => by simp at hu; rcases hu with rfl | rfl <;> rfl) (by omega) (by omega) ?_; intro s2 c2 w2 _ m2; have M2 := hid m2; clear m2)
          | (go_at_call 83; refine (IX.out _).mono ?_; rintro e w1 ⟨rfl, b1⟩; have M1 := hid (MK.out.on b1); clear b1))
        obtain ⟨acc2, r2, er2, f1, f2, f3, f4, rfl, f6⟩ := HNX.out
        refine ⟨⟨acc ++ [(r, p + (q.length - r.length))], [], rfl, by rw [er2]; exact f1, by rw [er2]; exact f2, by rw [er2]; exact f3, by rw [er2]; exact f4, ?_⟩, ?_⟩
        · have e1 : wdV (acc ++ [(r, p + (q.length - r.length))]) = wdV acc ++ [str (r), .int .i64 ((p : Int) + (q.length : Int) - (r.length : Int))] := by
            unfold wdV
            rw [List.flatMap_append]
            have : ((p + (q.length - r.length) : Nat) : Int) = (p : Int) + (q.length : Int) - (r.length : Int) := by have := RL.out; omega
            simp [this]
          rw [e1, List.length_append]
          exact M3.out
        · rw [← er2] at f6
          show ([]).toArray.size < r.toArray.size
          simpa using f6
      · rw [hi] at IX
        have HNX : Hid (∃ acc2 r2, (r.drop k).dropWhile blankB = r2 ∧ Bare r2 ∧ r2.length ≤ q.length ∧ (∀ c ∈ r2, c.toNat < 128) ∧ acc2 ++ PureRd.wr p q.length (r2.length + 1) r2 = wordsOf l p ∧ acc2 = acc ++ [(r.take k, p + (q.length - r.length))] ∧ r2.length < r.length) := by
          have e0 : (r.takeWhile nb).length = k := by rw [ht, List.length_take]; omega
          have e1 : (r.drop (r.takeWhile nb).length).dropWhile blankB = (r.drop k).dropWhile blankB := by rw [e0]
          have h1 := drop_len (r.drop (r.takeWhile nb).length) blankB
          have h2 : (r.drop (r.takeWhile nb).length).length = r.length - (r.takeWhile nb).length := List.length_drop
          have h3 : (r.takeWhile nb).length ≤ r.length := (List.takeWhile_prefix _).length_le
          rw [e1] at h1
          refine ⟨_, _, rfl, ?_, by omega, fun c hc => ?_, ?_, rfl, by omega⟩
          · rw [← e1]; exact bare_drop _
          · exact HRC.out c (List.drop_subset _ _ ((List.dropWhile_suffix _).subset hc))
          · rw [← HEQ.out, WS.out, e1, ht]
            simp
        have RL : Hid (r.length ≤ q.length) := hrl
        have EX2 : (⟨r.toArray⟩ : ByteArray).extract 0 k = ⟨(r.take k).toArray⟩ := by rw [Lib.extract_eq]; simp
        have EX3 : (⟨r.toArray⟩ : ByteArray).extract k r.length = ⟨(r.drop k).toArray⟩ := by rw [Lib.extract_eq]; simp; exact List.take_of_length_le (by simp)
        have EX4 : (r.take k).length = k := by rw [List.length_take]; omega
        have EX5 : min k r.length = k := by omega
        have TR0 := hid (TRM.out (r.drop k) ·)
        clear hrel hbare hrc heq hmk hi ht hbare2 WS HEQ HRC
        go_wp2_with (first
          | (have z := M2; clear z; go_at_call 82; refine (TR0.out _).mono ?_; rintro e w3 ⟨rfl, b3⟩; have M3 := hid (M2.out.on b3); clear b3)
          | (at_builtin; refine mk_app rfl _ _ 72 _ 24 rfl Tryz.underlying72 info74 rfl (by decide) M1.out [str (r.take k), .int .i64 ((p : Int) + (q.length : Int) - (r.length : Int))] 74 _ rfl rfl rfl rfl (fun u hu => by simp at hu; rcases hu with rfl | rfl <;> rfl) (by omega) (by omega) ?_; intro s2 c2 w2 _ m2; have M2 := hid m2; clear m2)
          | (go_at_call 83; refine (IX.out _).mono ?_; rintro e w1 ⟨rfl, b1⟩; have M1 := hid (MK.out.on b1); clear b1))
        obtain ⟨acc2, r2, er2, f1, f2, f3, f4, rfl, f6⟩ := HNX.out
        refine ⟨⟨acc ++ [(r.take k, p + (q.length - r.length))], (r.drop k).dropWhile blankB, rfl, by rw [er2]; exact f1, by rw [er2]; exact f2, by rw [er2]; exact f3, by rw [er2]; exact f4, ?_⟩, ?_⟩
        · have e1 : wdV (acc ++ [(r.take k, p + (q.length - r.length))]) = wdV acc ++ [str (r.take k), .int .i64 ((p : Int) + (q.length : Int) - (r.length : Int))] := by
            unfold wdV
            rw [List.flatMap_append]
            have : ((p + (q.length - r.length) : Nat) : Int) = (p : Int) + (q.length : Int) - (r.length : Int) := by have := RL.out; omega
            simp [this]
          rw [e1, List.length_append]
          exact M3.out
        · rw [← er2] at f6
          show ((r.drop k).dropWhile blankB).toArray.size < r.toArray.size
          simpa using f6
end Go.Proofs.YtfmmmhcpdinhgabGreatDoor
/-
  Lists that were handed out, and what is grown out of them: which blocks turn, which stay. For any program.
-/
namespace ShfKit
open Go Go.RowKit
set_option maxRecDepth 100000

section
variable {P : Program} {w w' W W' : World} {B B' e size n m : Nat} {v u : Value} {xs news A M : List Value}

theorem own_base (h : w.ownsRow B' e size v n xs) (hB : B ≤ B') : w.ownsRow B e size v n xs := by
  refine ⟨h.1, ?_⟩
  rcases h.2 with hn | ⟨g, cap, cur, hv, hb, rest⟩
  · exact .inl hn
  · exact .inr ⟨g, cap, cur, hv, Nat.le_trans hB hb, rest⟩
theorem own_block (h : w.ownsRow B e size v n xs) {g : Nat} (hg : v.ownBlock = some g) : B ≤ g ∧ g < w.heap.size := by
  rcases h.2 with ⟨hv, _⟩ | ⟨g', cap, cur, hv, hb, hr, _⟩
  · rw [hv] at hg; cases hg
  · rw [hv] at hg
    simp only [Value.ownBlock, Option.some.injEq] at hg
    subst hg
    exact ⟨hb, (Array.getElem?_eq_some_iff.1 hr).1⟩
theorem own_kept (h : w.ownsRow B e size v n xs) (hk : ∀ g, v.ownBlock = some g → w'.heap[g]? = w.heap[g]?) : w'.ownsRow B e size v n xs := by
  refine ⟨h.1, ?_⟩
  rcases h.2 with hn | ⟨g, cap, cur, hv, hb, hr, rest⟩
  · exact .inl hn
  · exact .inr ⟨g, cap, cur, hv, hb, (hk g (by rw [hv]; rfl)).trans hr, rest⟩

/-- append: where it stood, or in a block that is new. -/
theorem run_append_far (w : World) (B : Nat) (t ty e : TypeId) (i : TypeInfo) (z : Value) (size bytes : Nat) (ht : P.underlying t = some (.slice e)) (hi : P.info? e = some i) (hz : i.zero = some z)
    (hsize : i.size = size) (hby : i.bytes = bytes) (hzs : z.cells.size = size) (hsz : 0 < size)
    (v : Value) (n : Nat) (xs : List Value) (hown : w.ownsRow B e size v n xs)
    (a : Addr) (m c : Nat) (news : List Value) (hl : news.length = m * size) (hnews : ∀ j u, news[j]? = some u → w.cell? (a.add j) = some u) (h1 : ∀ u ∈ news, u.oneCell' = true)
    (h63 : n + m ≤ maxLen) (hbytes : (n + m) * bytes ≤ 140737488355328) (hbase : B ≤ w.heap.size) :
    ∃ v' w', (Builtin.append_ #[t, t] ty #[v, .slice (some a) m c]).run P w = .ok v' w' ∧ w'.ownsRow B e size v' (n + m) (xs ++ news) ∧
      ((v'.ownBlock = v.ownBlock ∧ w.grownBy w' v.ownBlock) ∨ ((∀ g, v'.ownBlock = some g → w.heap.size ≤ g) ∧ w.grownBy w' none)) := by
  rcases hown.2 with ⟨rfl, rfl⟩ | ⟨g, cap, cur, rfl, hb, hr, hnc, hcm, hcs, htk⟩
  · obtain rfl : xs = [] := List.eq_nil_of_length_eq_zero (by simpa using hown.1)
    obtain ⟨v', w', hrun, r1, r2, _⟩ := run_append_own (P := P) w w.heap.size t ty e i z size bytes ht hi hz hsize hby hzs hsz (.slice none 0 0) 0 [] (World.ownsRow_nil w _ e size) a m c news hl hnews h1 h63 hbytes (Nat.le_refl _)
    exact ⟨v', w', hrun, own_base r1 hbase, .inr ⟨fun g hg => (own_block r1 hg).1, r2⟩⟩
  · by_cases hroom : n + m ≤ cap
    · obtain ⟨w', hrun, r1, r2⟩ := run_append_own_spare (P := P) w B t ty e i size ht hi hsize g n cap xs hown a m c news hl hnews h1 hroom
      exact ⟨_, w', hrun, r1, .inl ⟨rfl, r2⟩⟩
    · have hold : ∀ j u, xs[j]? = some u → w.cell? ((⟨g, 0, none⟩ : Addr).add j) = some u := fun j u hj => by
        rw [Addr.add_lit, Nat.zero_add]
        have h1 : cur.toList[j]? = some u := by
          rw [← htk] at hj
          rw [List.getElem?_take] at hj
          split at hj
          · exact hj
          · cases hj
        simp [World.cell?, hr]
        simpa using h1
      obtain ⟨v', w', hrun, r1, r2⟩ := run_append_arg_grows (P := P) w t ty e i z size bytes ht hi hz hsize hby hzs hsz ⟨g, 0, none⟩ n cap xs hown.1 hold a m c news hl hnews (by omega) h63 hbytes
      exact ⟨v', w', hrun, own_base r1 hbase, .inr ⟨fun g hg => (own_block r1 hg).1, r2⟩⟩

/-- the same, for the walk. -/
theorem wpList_append_far {ops : Array Oper} {rest : List Oper} {o : Oper} {a : Act} {Q : Exit → Act → World → Prop} (w : World)
    (hg : o.guard = none) (s x : Operand) (t : TypeId) (hop : o.op = Op.call { callee := Callee.builtin Builtin.append, args := #[s, x], argTypes := #[t, t] })
    (B : Nat) (e : TypeId) (i : TypeInfo) (z : Value) (size bytes : Nat) (ht : P.underlying t = some (.slice e)) (hi : P.info? e = some i) (hz : i.zero = some z)
    (hsize : i.size = size) (hby : i.bytes = bytes) (hzs : z.cells.size = size) (hsz : 0 < size)
    (v : Value) (n : Nat) (xs : List Value) (hs : a.eval s = v) (hown : w.ownsRow B e size v n xs)
    (ad : Addr) (m c : Nat) (news : List Value) (hx : a.eval x = .slice (some ad) m c) (hl : news.length = m * size) (hnews : ∀ j u, news[j]? = some u → w.cell? (ad.add j) = some u) (h1 : ∀ u ∈ news, u.oneCell' = true)
    (h63 : n + m ≤ maxLen) (hbytes : (n + m) * bytes ≤ 140737488355328) (hbase : B ≤ w.heap.size)
    (hK : ∀ v' w', w'.ownsRow B e size v' (n + m) (xs ++ news) → ((v'.ownBlock = v.ownBlock ∧ w.grownBy w' v.ownBlock) ∨ ((∀ g, v'.ownBlock = some g → w.heap.size ≤ g) ∧ w.grownBy w' none)) → wpList P ops Q rest (a.put o.dst v') w') :
    wpList P ops Q (o :: rest) a w := by
  refine wpList_plain hg fun K hK' => ?_
  obtain ⟨v', w', hrun, r1, r2⟩ := run_append_far (P := P) w B t o.type e i z size bytes ht hi hz hsize hby hzs hsz v n xs hown ad m c news hl hnews h1 h63 hbytes hbase
  unfold Oper.wp
  simp [execOp, hop, resolve, invoke, builtin, hs, hx, hrun, Result.andThen]
  exact hK' _ _ (hK v' w' r1 r2)


end
end ShfKit
