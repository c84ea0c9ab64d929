/-
  makes: New and Part of both sides, and the lists behind them.
-/
import Derived.Test.YtbanhpohnhjciaaI7
namespace Go.Proofs.Ytbanhpohnhjciaa
open Go.RowKit Go.MuLone

def Made (w : World) (base n : Nat) (w' : World) (av bv : Value) : Prop :=
  ∃ n' f', n' ≤ n + 1 ∧ Mem w' base n' f' ∧ Laws n' f' ∧ LL w' base n' n' f' av bv ∧ Below base w w'

section
variable {w : World} {base n : Nat} {f : Nat → Nd} {i : Nat} {av bv : Value}

theorem LL.alloc (l : LL w base n n f av bv) (O : Obj) : LL (w.alloc O) base n n f av bv := l.keep (F := []) ((Touch.refl [] w).alloc O) (by simp) (by simp)

set_option maxHeartbeats 1000000 in
theorem makes_neg (M : Mem w base n f) (L : Laws n f) (l : LL w base n n f av bv) (hlo : base ≤ w.heap.size) (o m : Int) (hm : m < 0) :
    Calls Try.prog 18 #[.agg #[.int .i64 o, .int .i64 1, .int .i64 m], av, bv] w fun e w' => ∃ av' bv', e = .returned (.tuple #[av', bv', .bool true]) ∧ Made w base n w' av' bv' := by
  have HF : Hid (Made w base n (w.alloc (.cells #[.int .i64 o, .int .i64 1, .int .i64 m] 29)) av bv) := hid ⟨n, f, by omega, M.alloc _, L, l.alloc _, ((Touch.refl [] w).alloc _).below hlo (by simp)⟩
  have H8 := hid (fun W => new_refused hm W)
  have H29 := hid (fun W => newR_refused hm W)
  clear M L l
  go_enter Try.func18, Try.ntmps18
  go_wp2_with (first
    | (go_at_call 29; with_reducible refine Calls.mono (H29.out _) ?_; rintro _ _ ⟨rfl, rfl⟩)
    | (go_at_call 8; with_reducible refine Calls.mono (H8.out _) ?_; rintro _ _ ⟨rfl, rfl⟩))
  go_ret3
  exact ⟨_, _, rfl, HF.out⟩

set_option maxHeartbeats 2000000 in
theorem makes_new (M : Mem w base n f) (L : Laws n f) (l : LL w base n n f av bv) (hlo : base ≤ w.heap.size) (hn : n < 17592186044416) (o m : Int) (h0 : 0 ≤ m) (h1 : m ≤ 9223372036854775807) :
    Calls Try.prog 18 #[.agg #[.int .i64 o, .int .i64 1, .int .i64 m], av, bv] w fun e w' => ∃ av' bv', e = .returned (.tuple #[av', bv', .bool true]) ∧ Made w base n w' av' bv' := by
  obtain ⟨X, hX⟩ : ∃ X, X = w.alloc (.cells #[.int .i64 o, .int .i64 1, .int .i64 m] 29) := ⟨_, rfl⟩
  have hXr : X.heap[w.heap.size]? = some (.cells #[.int .i64 o, .int .i64 1, .int .i64 m] 29 (0, 0)) := by rw [hX]; exact heap_new w _
  have hXb : Below base w X := by rw [hX]; exact ((Touch.refl [] w).alloc _).below hlo (by simp)
  have MX : Mem X base n f := by rw [hX]; exact M.alloc _
  have lX : LL X base n n f av bv := by rw [hX]; exact l.alloc _
  have hloX : base ≤ X.heap.size := by rw [hX]; simp; omega
  obtain ⟨sa, ca, ea, hca, _⟩ := owns_form l.a
  obtain ⟨sb, cb, eb, hcb, _⟩ := owns_form l.b
  subst ea eb
  have HMX := hid MX
  have HLX := hid lX
  have HL := hid L
  have HB0 := hid hXb
  have HXR := hid hXr
  have H8 := hid (fun W => new_any h0 W)
  have H29 := hid (fun W => newR_any h0 W)
  have d0 := cell_row hXr 1
  have d1 := cell_row hXr 2
  simp at d0 d1
  clear M L l MX lX hXb hXr
  go_enter Try.func18, Try.ntmps18
  go_wp2_with fail
  rw [← hX]
  clear hX d0 d1
  refine Calls.mono (H8.out _) ?_
  rintro _ w1 ⟨b, lb, rfl, hb, hl, hne, hp, hk, t1⟩
  have r1 : w1.heap[w.heap.size]? = some (.cells #[.int .i64 o, .int .i64 1, .int .i64 m] 29 (0, 0)) := (t1.block _ (lt_of_block HXR.out) (by simp)).trans HXR.out
  have c1 := cell_row r1 2
  simp at c1
  have Hb := hid hb
  have Hl := hid hl
  have Hp := hid hp
  have Hk := hid hk
  have T1 := hid t1
  clear hb hl hne hp hk t1 r1
  go_wp2_with (first
    | (at_builtin; refine wpList_append_one _ Try.underlying40 info44 rfl rfl _ _ rfl base (.slice sb n cb) n _ ⟨w4.heap.size, 0, none⟩ (ptr w1.heap.size) rfl rfl (owns_touch HA.out.b ((Touch.refl [] w4).alloc _) (by simp)) (cell_row (heap_new w4 _) 0) rfl hn (Nat.le_trans hs4 (by simp)) ?_; intro g2 cap2 w5 q1 q2 q3; rw [← e2] at q1; have k5 := appB' HA.out hs4 q1 q2 q3; have H5 := hid k5; clear q1 q2 q3 k5)
    | (at_builtin; refine wpList_append_one _ Try.underlying35 info24 rfl rfl _ _ rfl base (.slice sa n ca) n _ ⟨w2.heap.size, 0, none⟩ (ptr b) rfl rfl (owns_touch HLL.out.a ((Touch.refl [] w2).alloc _) (by simp)) (cell_row (heap_new w2 _) 0) rfl hn (Nat.le_trans hs2 (by simp)) ?_; intro g1 cap1 w4 q1 q2 q3; rw [← e1] at q1; have k4 := appA' HM.out HLL.out hs2 q1 q2; have HA := hid k4.1; have HB4 := hid k4.2; have hs4 : base ≤ w4.heap.size := Nat.le_trans hs2 k4.2.size; clear q1 q2 q3 k4)
    | (go_at_call 29; with_reducible refine Calls.mono (H29.out _) ?_; rintro _ w2 ⟨rfl, hr2, t2⟩; obtain ⟨f', hm', hl', hll', hbw, e1, e2⟩ := made_new HMX.out HL.out HLX.out hloX h0 h1 Hb.out Hl.out Hp.out Hk.out T1.out hr2 t2; have HM := hid hm'; have HLA := hid hl'; have HLL := hid hll'; have HB2 := hid hbw; have hs2 : base ≤ w2.heap.size := Nat.le_trans hloX hbw.size; clear hr2 t2 hm' hl' hll' hbw))
  go_ret3
  exact ⟨_, _, rfl, n + 1, f', Nat.le_refl _, H5.out.1, HLA.out, H5.out.2.1, ((HB0.out.trans HB2.out).trans HB4.out).trans H5.out.2.2⟩
end

end Go.Proofs.Ytbanhpohnhjciaa
