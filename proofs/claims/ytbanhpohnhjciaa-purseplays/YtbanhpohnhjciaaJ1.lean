/-
  makes: a Part that is granted; makes whole.
-/
import Derived.Test.YtbanhpohnhjciaaI9
namespace Go.Proofs.Ytbanhpohnhjciaa
open Go.RowKit Go.MuLone

section
variable {w : World} {base n : Nat} {f : Nat → Nd} {i : Nat} {av bv : Value}

set_option maxHeartbeats 4000000 in
theorem makes_granted (M : Mem w base n f) (L : Laws n f) (l : LL w base n n f av bv) (hlo : base ≤ w.heap.size) (hn : n < 17592186044416) (hn0 : 0 < n) (o k m : Int) (hk : ¬ k = 1) (ho1 : -9223372036854775808 ≤ o) (ho2 : o ≤ 9223372036854775807)
    (he : leaveE (f (onN o n)).s m = 0) :
    Calls Try.prog 18 #[.agg #[.int .i64 o, .int .i64 k, .int .i64 m], av, bv] w fun e w' => ∃ av' bv', e = .returned (.tuple #[av', bv', .bool true]) ∧ Made w base n w' av' bv' := by
  have hk1 : (k == 1) = false := by simp [hk]
  obtain ⟨X, hX⟩ : ∃ X, X = w.alloc (.cells #[.int .i64 o, .int .i64 k, .int .i64 m] 29) := ⟨_, rfl⟩
  have hXr : X.heap[w.heap.size]? = some (.cells #[.int .i64 o, .int .i64 k, .int .i64 m] 29 (0, 0)) := by rw [hX]; exact heap_new w _
  have hXb : Below base w X := by rw [hX]; exact ((Touch.refl [] w).alloc _).below hlo (by simp)
  have MX : Mem X base n f := by rw [hX]; exact M.alloc _
  have lX : LL X base n n f av bv := by rw [hX]; exact l.alloc _
  have hloX : base ≤ X.heap.size := by rw [hX]; simp; omega
  obtain ⟨sa, ca, ea, hca, hga⟩ := owns_form l.a
  obtain ⟨sb, cb, eb, hcb, hgb⟩ := owns_form l.b
  obtain ⟨ga, rfl⟩ := hga hn0
  obtain ⟨gb, rfl⟩ := hgb hn0
  subst ea eb
  obtain ⟨hi, hi2⟩ := onN_lt o hn0
  obtain ⟨i, ei⟩ : ∃ i, i = onN o n := ⟨_, rfl⟩
  have H16 : Hid (∀ W, Calls Try.prog 16 #[.int .i64 o, .int .i64 (n : Nat)] W fun e w' => e = .returned (.int .i64 (i : Nat)) ∧ W = w') := hid fun W => by
    rw [ei]
    exact (on_any ho1 ho2 hn0 (by omega) W).mono fun _ _ x => ⟨x.1, x.2.symm⟩
  rw [← ei] at hi he
  have HCK := hid (fun (W : World) (F : List Nat) (t : Touch F X W) (hF : ∀ b ∈ F, InF n f b) => read_at MX lX hi hXr t hF)
  have hparts : (f i).s.parts < 4611686018427387904 := by
    have h1 := L.parts i hi
    have h2 := opens_le (kl f (f i).kids)
    have h3 := L.few i hi
    simp only [kl, List.length_map] at h2
    rw [h1]
    have : openCnt (kl f (f i).kids) ≤ (n : Int) := Int.le_trans h2 (by exact_mod_cast h3)
    omega
  have KP : Hid (∀ W, Touch [] X W → Calls Try.prog 15 #[ptr (f i).pb, .int .i64 m] W fun e w1 => ∃ q, e = .returned (.tuple #[ptr q, .int .i64 0]) ∧ Touch [(f i).pb, (f i).s.lb] X w1 ∧
      Calls Try.prog 30 #[ptr (f i).rb, .int .i64 m] w1.drew fun e w2 => e = .returned (.tuple #[ptr w1.heap.size, .int .i64 0]) ∧
        ∃ f', Mem w2 base (n + 1) f' ∧ Laws (n + 1) f' ∧ LL w2 base n (n + 1) f' (.slice (some ⟨ga, 0, none⟩) n ca) (.slice (some ⟨gb, 0, none⟩) n cb) ∧ Below base X w2 ∧ (f' n).pb = q ∧ (f' n).rb = w1.heap.size ∧ (∀ (x : Nat) (c : Array Value) (z : Nat × Nat), w1.heap[x]? = some (.cells c 29 z) → w2.heap[x]? = some (.cells c 29 z)) ∧ (∀ j, j < n → (f' j).rb = (f j).rb)) := hid fun W tW => by
    have MW := MX.keep tW (by simp)
    refine (part_any (MW.pur i hi) (MW.lock i hi) (MW.pl hi) (L.good i hi) m he hparts).mono ?_
    rintro _ w1 ⟨q, rfl, hq, h1, h2, h3, h4⟩
    have tt : Touch [(f i).pb, (f i).s.lb] X w1 := (tW.mono (by simp)).trans h4 (fun b hb => .inl hb)
    exact ⟨q, rfl, tt, made_part (w1 := w1.drew) MX L lX hloX hi hn he (by have := tW.size; omega) h1 h2 h3 tt.drew⟩
  have HIN : Hid (∀ b ∈ [(f i).pb, (f i).s.lb], InF n f b) := hid (by simp; exact ⟨InF.pp hi, InF.l hi⟩)
  obtain ⟨pb, epb⟩ : ∃ pb, pb = (f i).pb := ⟨_, rfl⟩
  obtain ⟨rb, erb⟩ : ∃ rb, rb = (f i).rb := ⟨_, rfl⟩
  obtain ⟨lb, elb⟩ : ∃ lb, lb = (f i).s.lb := ⟨_, rfl⟩
  simp only [← epb, ← erb, ← elb] at KP HIN HCK
  have HB0 := hid hXb
  have HT0 := hid ((Touch.refl [] X).drew)
  have iN : (i : Int) < (n : Int) := by omega
  have i0 : (0 : Int) ≤ (i : Int) := by omega
  have hneg : ¬ (i : Int) < 0 := by omega
  have hiN := hid hi
  have HER := hid erb
  clear M L l MX lX hXb hi hi2 he epb erb elb ei hk hparts
  go_enter Try.func18, Try.ntmps18
  go_wp2_with fail
  rw [← hX]
  clear hX hXr
  refine Calls.mono (H16.out _) ?_
  rintro _ _ ⟨rfl, rfl⟩
  obtain ⟨d0, d1, r0⟩ := HCK.out X [] (Touch.refl [] X) (by simp)
  have d2 := cell_row r0 2
  simp at d2
  clear r0
  go_wp2
  go_region_held3 (fun W => W.cell? ⟨ga, i, none⟩ = some (ptr pb) ∧ W.cell? ⟨gb, i, none⟩ = some (ptr rb) ∧ W.cell? ⟨w.heap.size, 2, none⟩ = some (.int .i64 m)) (go_keep)
    (first
      | (go_at_call 15; with_reducible refine Calls.mono (KP.out _ HT0.out) ?_; rintro _ w1 ⟨q, rfl, tt1, hN⟩; obtain ⟨c0, c1, r1⟩ := HCK.out w1 _ tt1 HIN.out; have c2 := cell_row r1 2; simp at c2; have HN := hid hN; have HR1 := hid r1; clear hN tt1 r1 d0 d1 d2))
  go_wp2
  go_region_held3 (fun W => W.cell? ⟨gb, i, none⟩ = some (ptr rb) ∧ W.cell? ⟨w.heap.size, 2, none⟩ = some (.int .i64 m)) (go_keep)
    (first
      | (go_at_call 30; with_reducible refine Calls.mono HN.out ?_; rintro _ w2 ⟨rfl, f', hm', hl', hll', hbw, e1, e2, hop, hrb⟩; have x2 := hop _ _ _ HR1.out; have y2 := cell_row x2 2; simp at y2; have y1 := own_cell hll'.b (range_get n _ hiN.out); rw [hrb i hiN.out, ← HER.out] at y1; have HM := hid hm'; have HLA := hid hl'; have HLL := hid hll'; have HB2 := hid hbw; have hs2 : base ≤ w2.heap.size := Nat.le_trans hloX hbw.size; clear hm' hl' hll' hbw hop hrb x2))
  clear c0 c1 c2 y1 y2
  go_wp2_with (first
    | (at_builtin; refine wpList_append_one _ Try.underlying40 info44 rfl rfl _ _ rfl base (.slice (some ⟨gb, 0, none⟩) n cb) n _ ⟨w4.heap.size, 0, none⟩ (ptr w1.heap.size) rfl rfl (owns_touch HA.out.b ((Touch.refl [] w4).alloc _) (by simp)) (cell_row (heap_new w4 _) 0) rfl hn (Nat.le_trans hs4 (by simp)) ?_; intro g2 cap2 w5 q1 q2 q3; rw [← e2] at q1; have k5 := appB' HA.out hs4 q1 q2 q3; have H5 := hid k5; clear q1 q2 q3 k5)
    | (at_builtin; refine wpList_append_one _ Try.underlying35 info24 rfl rfl _ _ rfl base (.slice (some ⟨ga, 0, none⟩) n ca) n _ ⟨w2.heap.size, 0, none⟩ (ptr q) rfl rfl (owns_touch HLL.out.a ((Touch.refl [] w2).alloc _) (by simp)) (cell_row (heap_new w2 _) 0) rfl hn (Nat.le_trans hs2 (by simp)) ?_; intro g1 cap1 w4 q1 q2 q3; rw [← e1] at q1; have k4 := appA' HM.out HLL.out hs2 q1 q2; have HA := hid k4.1; have HB4 := hid k4.2; have hs4 : base ≤ w4.heap.size := Nat.le_trans hs2 k4.2.size; clear q1 q2 q3 k4))
  go_ret3
  exact ⟨_, _, rfl, n + 1, f', Nat.le_refl _, H5.out.1, HLA.out, H5.out.2.1, ((HB0.out.trans HB2.out).trans HB4.out).trans H5.out.2.2⟩

theorem makes_any (M : Mem w base n f) (L : Laws n f) (l : LL w base n n f av bv) (hlo : base ≤ w.heap.size) (hn : n < 17592186044416) (o k m : Int) (ho1 : -9223372036854775808 ≤ o) (ho2 : o ≤ 9223372036854775807) (hm : m ≤ 9223372036854775807) :
    Calls Try.prog 18 #[.agg #[.int .i64 o, .int .i64 k, .int .i64 m], av, bv] w fun e w' => ∃ av' bv', e = .returned (.tuple #[av', bv', .bool true]) ∧ Made w base n w' av' bv' := by
  by_cases hk : k = 1
  · subst hk
    by_cases h0 : m < 0
    · exact makes_neg M L l hlo o m h0
    · exact makes_new M L l hlo hn o m (by omega) hm
  · by_cases hn0 : n = 0
    · subst hn0
      exact makes_none M L l hlo o k m hk
    · by_cases he : leaveE (f (onN o n)).s m = 0
      · exact makes_granted M L l hlo hn (by omega) o k m hk ho1 ho2 he
      · exact makes_refused M L l hlo hn (by omega) o k m hk ho1 ho2 he
end

end Go.Proofs.Ytbanhpohnhjciaa
