/-
  makes: Part of both sides.
-/
import Derived.Test.YtbanhpohnhjciaaI8
namespace Go.Proofs.Ytbanhpohnhjciaa
open Go.RowKit Go.MuLone

set_option maxHeartbeats 400000 in
theorem on_zero (k : Int) (w : World) : Calls Try.prog 16 #[.int .i64 k, .int .i64 0] w fun e w' => e = .returned (.int .i64 (-1)) ∧ w' = w := by
  go_enter Try.func16, Try.ntmps16
  go_wp2
  go_ret
  exact ⟨rfl, rfl⟩

section
variable {w : World} {base n : Nat} {f : Nat → Nd} {i : Nat} {av bv : Value}

set_option maxHeartbeats 1000000 in
theorem makes_none (M : Mem w base 0 f) (L : Laws 0 f) (l : LL w base 0 0 f av bv) (hlo : base ≤ w.heap.size) (o k m : Int) (hk : ¬ k = 1) :
    Calls Try.prog 18 #[.agg #[.int .i64 o, .int .i64 k, .int .i64 m], av, bv] w fun e w' => ∃ av' bv', e = .returned (.tuple #[av', bv', .bool true]) ∧ Made w base 0 w' av' bv' := by
  have HF : Hid (Made w base 0 (w.alloc (.cells #[.int .i64 o, .int .i64 k, .int .i64 m] 29)) av bv) := hid ⟨0, f, by omega, M.alloc _, L, l.alloc _, ((Touch.refl [] w).alloc _).below hlo (by simp)⟩
  have hk1 : (k == 1) = false := by simp [hk]
  obtain ⟨sa, ca, ea, hca, _⟩ := owns_form l.a
  obtain ⟨sb, cb, eb, hcb, _⟩ := owns_form l.b
  subst ea eb
  have H16 := hid (fun W => on_zero o W)
  clear M L l
  go_enter Try.func18, Try.ntmps18
  go_wp2_with (first
    | (go_at_call 16; with_reducible refine Calls.mono (H16.out _) ?_; rintro _ _ ⟨rfl, rfl⟩))
  go_ret3
  exact ⟨_, _, rfl, HF.out⟩

theorem Mem.drew (M : Mem w base n f) : Mem w.drew base n f := M.keep (F := []) (Touch.refl [] w).drew (by simp)
theorem LL.drew (l : LL w base n n f av bv) : LL w.drew base n n f av bv := l.keep (F := []) (Touch.refl [] w).drew (by simp) (by simp)

/-- What the law reads of the lists and of the step, at any later world. -/
theorem read_at {X : World} (MX : Mem X base n f) {ga gb ca cb x : Nat} (lX : LL X base n n f (.slice (some ⟨ga, 0, none⟩) n ca) (.slice (some ⟨gb, 0, none⟩) n cb)) (hi : i < n) {c : Array Value} (hx : X.heap[x]? = some (.cells c 29 (0, 0))) {W : World} {F : List Nat} (t : Touch F X W) (hF : ∀ b ∈ F, InF n f b) :
    W.cell? ⟨ga, i, none⟩ = some (ptr (f i).pb) ∧ W.cell? ⟨gb, i, none⟩ = some (ptr (f i).rb) ∧ W.heap[x]? = some (.cells c 29 (0, 0)) := by
  have l2 := lX.turn MX t hF
  refine ⟨own_cell l2.a (range_get n _ hi), own_cell l2.b (range_get n _ hi), (t.block x (lt_of_block hx) fun h => ?_).trans hx⟩
  obtain ⟨c', ty, hc, hty⟩ := MX.typed (hF x h)
  exact ne_type hc hx (by rcases hty with rfl | rfl | rfl <;> decide) rfl

set_option maxHeartbeats 4000000 in
theorem makes_refused (M : Mem w base n f) (L : Laws n f) (l : LL w base n n f av bv) (hlo : base ≤ w.heap.size) (hn : n < 17592186044416) (hn0 : 0 < n) (o k m : Int) (hk : ¬ k = 1) (ho1 : -9223372036854775808 ≤ o) (ho2 : o ≤ 9223372036854775807)
    (he : leaveE (f (onN o n)).s m ≠ 0) :
    Calls Try.prog 18 #[.agg #[.int .i64 o, .int .i64 k, .int .i64 m], av, bv] w fun e w' => ∃ av' bv', e = .returned (.tuple #[av', bv', .bool true]) ∧ Made w base n w' av' bv' := by
  have hk1 : (k == 1) = false := by simp [hk]
  obtain ⟨X, hX⟩ : ∃ X, X = w.alloc (.cells #[.int .i64 o, .int .i64 k, .int .i64 m] 29) := ⟨_, rfl⟩
  have hXr : X.heap[w.heap.size]? = some (.cells #[.int .i64 o, .int .i64 k, .int .i64 m] 29 (0, 0)) := by rw [hX]; exact heap_new w _
  have hXb : Below base w X := by rw [hX]; exact ((Touch.refl [] w).alloc _).below hlo (by simp)
  have MX : Mem X base n f := by rw [hX]; exact M.alloc _
  have lX : LL X base n n f av bv := by rw [hX]; exact l.alloc _
  have hloX : base ≤ X.heap.size := by rw [hX]; simp; omega
  obtain ⟨sa, ca, ea, hca, hga⟩ := owns_form l.a
  obtain ⟨sb, cb, eb, hcb, hgb⟩ := owns_form l.b
  obtain ⟨ga, rfl⟩ := hga hn0
  obtain ⟨gb, rfl⟩ := hgb hn0
  subst ea eb
  obtain ⟨hi, hi2⟩ := onN_lt o hn0
  obtain ⟨i, ei⟩ : ∃ i, i = onN o n := ⟨_, rfl⟩
  have H16 : Hid (∀ W, Calls Try.prog 16 #[.int .i64 o, .int .i64 (n : Nat)] W fun e w' => e = .returned (.int .i64 (i : Nat)) ∧ W = w') := hid fun W => by
    rw [ei]
    exact (on_any ho1 ho2 hn0 (by omega) W).mono fun _ _ x => ⟨x.1, x.2.symm⟩
  rw [← ei] at hi he
  have HCK := hid (fun (W : World) (F : List Nat) (t : Touch F X W) (hF : ∀ b ∈ F, InF n f b) => read_at MX lX hi hXr t hF)
  have KP : Hid (∀ W, Mem W base n f → Calls Try.prog 15 #[ptr (f i).pb, .int .i64 m] W fun e w' => e = .returned (.tuple #[.pointer none, .int .i64 (leaveE (f i).s m)]) ∧ Mem w' base n f ∧ Touch [(f i).pb, (f i).s.lb] W w') := hid fun W MW =>
    (part_refused (MW.pur i hi) (MW.lock i hi) (MW.pl hi) (L.good i hi) m he).mono fun _ _ ⟨h1, h2, h3, h4⟩ => ⟨h1, MW.askS hi h2 h3 h4, h4⟩
  have KR : Hid (∀ W, Mem W base n f → Calls Try.prog 30 #[ptr (f i).rb, .int .i64 m] W fun e w' => e = .returned (.tuple #[.pointer none, .int .i64 (leaveE (f i).s m)]) ∧ W = w') := hid fun W MW => by
    rw [L.leave hi m]
    exact (partR_refused (MW.ref L.ref hi (by omega)) (L.ref.lim i hi) (L.ref.top i hi) m (by rw [← L.leave hi m]; exact he)).mono fun _ _ x => ⟨x.1, x.2.symm⟩
  have HIN : Hid (∀ b ∈ [(f i).pb, (f i).s.lb], InF n f b) := hid (by simp; exact ⟨InF.pp hi, InF.l hi⟩)
  have HD : Hid (∀ W, Mem W base n f → LL W base n n f (.slice (some ⟨ga, 0, none⟩) n ca) (.slice (some ⟨gb, 0, none⟩) n cb) → Below base w W → Made w base n W (.slice (some ⟨ga, 0, none⟩) n ca) (.slice (some ⟨gb, 0, none⟩) n cb)) := hid fun W h1 h2 h3 => ⟨n, f, by omega, h1, L, h2, h3⟩
  have HLO : Hid (base ≤ (f i).pb ∧ base ≤ (f i).s.lb) := hid ⟨(MX.plo i hi).1, (MX.plo i hi).2.1⟩
  obtain ⟨x, ex⟩ : ∃ x, x = leaveE (f i).s m := ⟨_, rfl⟩
  rw [← ex] at KP KR
  obtain ⟨pb, epb⟩ : ∃ pb, pb = (f i).pb := ⟨_, rfl⟩
  obtain ⟨rb, erb⟩ : ∃ rb, rb = (f i).rb := ⟨_, rfl⟩
  obtain ⟨lb, elb⟩ : ∃ lb, lb = (f i).s.lb := ⟨_, rfl⟩
  simp only [← epb, ← erb, ← elb] at KP KR HIN HLO HCK
  have HMX := hid MX
  have HMd := hid MX.drew
  have HLX := hid lX
  have HB0 := hid hXb
  have iN : (i : Int) < (n : Int) := by omega
  have i0 : (0 : Int) ≤ (i : Int) := by omega
  have hneg : ¬ (i : Int) < 0 := by omega
  clear M L l MX lX hXb hi hi2 he ex epb erb elb ei hk
  go_enter Try.func18, Try.ntmps18
  go_wp2_with fail
  rw [← hX]
  clear hX hXr
  refine Calls.mono (H16.out _) ?_
  rintro _ _ ⟨rfl, rfl⟩
  obtain ⟨d0, d1, r0⟩ := HCK.out X [] (Touch.refl [] X) (by simp)
  have d2 := cell_row r0 2
  simp at d2
  clear r0
  go_wp2
  go_region_held3 (fun W => W.cell? ⟨ga, i, none⟩ = some (ptr pb) ∧ W.cell? ⟨gb, i, none⟩ = some (ptr rb) ∧ W.cell? ⟨w.heap.size, 2, none⟩ = some (.int .i64 m)) (go_keep)
    (first
      | (go_at_call 15; with_reducible refine Calls.mono (KP.out _ HMd.out) ?_; rintro _ w1 ⟨rfl, m1, t1⟩; have tt1 : Touch [pb, lb] X w1 := (Touch.refl _ X).drew.trans t1 (fun b hb => .inl hb); obtain ⟨c0, c1, r1⟩ := HCK.out w1 _ tt1 HIN.out; have c2 := cell_row r1 2; simp at c2; have M1 := hid m1; have T1 := hid tt1; clear m1 t1 tt1 r1 d0 d1 d2))
  have M1d := hid M1.out.drew
  go_wp2
  go_region_held3 (fun W => W.cell? ⟨ga, i, none⟩ = some (ptr pb) ∧ W.cell? ⟨gb, i, none⟩ = some (ptr rb) ∧ W.cell? ⟨w.heap.size, 2, none⟩ = some (.int .i64 m)) (go_keep)
    (first
      | (go_at_call 30; with_reducible refine Calls.mono (KR.out _ M1d.out) ?_; rintro _ _ ⟨rfl, rfl⟩))
  go_wp2
  go_ret3
  refine ⟨_, _, rfl, HD.out _ M1d.out ((HLX.out.turn HMX.out T1.out HIN.out).drew) (HB0.out.trans ((T1.out.below hloX ?_).drew))⟩
  simp
  exact HLO.out
end

end Go.Proofs.Ytbanhpohnhjciaa
