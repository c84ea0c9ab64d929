import Derived.Test.YtdkboifpdodonacGreatDoorZ13
set_option linter.unusedSimpArgs false
/-
 The landed reader: brackets, choices.
-/
namespace Go.Proofs.YtdkboifpdodonacGreatDoor
open Go.RowKit Go.Deep PureCnf PureForm PureRd
set_option maxRecDepth 100000

theorem live_pass {l : List UInt8} {q : Q} {k : Nat} (hk : k ≠ 17) (h : (q.pass l k).fault = none) : q.fault = none ∧ kindL (nextT l q.at_) = k ∧ (q.pass l k).at_ = (nextT l q.at_).end_ := by
 unfold Q.pass at h ⊢
 split
 ·next e =>
  obtain ⟨h1, h2⟩ := kind_live hk e
  refine ⟨h1, h2, ?_⟩
  unfold Q.adv
  rw [if_pos h1]
  rfl
 ·next e =>
  rw [if_neg e] at h
  unfold Q.ref at h
  split at h
  ·simp [Q.err] at h
  ·next x => exact absurd h x
theorem live_passN {l : List UInt8} {q : Q} (h : (q.passN l).fault = none) : q.fault = none ∧ (q.passN l).at_ = (nextT l q.at_).end_ := by
 unfold Q.passN at h ⊢
 split
 ·next e =>
  rw [if_pos e] at h
  split
  ·next e2 => rw [if_pos e2] at h; simp [Q.err] at h
  ·exact ⟨e, rfl⟩
 ·next e => rw [if_neg e] at h; exact absurd h e
theorem mu_less {W : World} {p : Nat} {s : ByteArray} {q q' : Q} (h : RM W p s q) (hq : q.fault = none) (h2 : q'.fault = none → q.at_ < q'.at_) : mu s q' < mu s q := by
 have hp := mu_pos h hq
 have hat := h.at_ hq
 unfold mu at hp ⊢
 rw [if_pos hq]
 split
 ·next hn => have := h2 hn; omega
 ·omega
theorem mu_entP {W : World} {p : Nat} {s : ByteArray} {q : Q} (h : RM W p s q) (hk : q.kind s.data.toList = 12) : mu s ((q.ent s.data.toList).pass s.data.toList 12) < mu s q := by
 obtain ⟨hq, ek⟩ := kind_live (by decide) hk
 refine mu_less h hq (fun hn => ?_)
 obtain ⟨h1, h2, h3⟩ := live_pass (by decide) hn
 rw [h3, (ent_at h1).1]
 exact (end_ge _ _ (kind_end hk (by decide) (by decide))).1
theorem mu_entN {W : World} {p : Nat} {s : ByteArray} {q : Q} {k : Nat} (h : RM W p s q) (hk : q.kind s.data.toList = k) (h17 : k ≠ 17) (h16 : k ≠ 16) : mu s ((q.ent s.data.toList).passN s.data.toList) < mu s q := by
 obtain ⟨hq, ek⟩ := kind_live h17 hk
 refine mu_less h hq (fun hn => ?_)
 obtain ⟨h1, h3⟩ := live_passN hn
 rw [h3, (ent_at h1).1]
 exact (end_ge _ _ (kind_end hk h17 h16)).1
theorem ent_bad {l : List UInt8} {q : Q} {k : Nat} (hk : q.kind l = k) (h17 : k ≠ 17) : (q.ent l).fault = none → (nextT l (q.ent l).at_).kind ≠ 1 := fun hn => by
 rw [(ent_at hn).1]; exact kind_bad hk h17
theorem ent_end {l : List UInt8} {q : Q} {k : Nat} (hk : q.kind l = k) (h17 : k ≠ 17) (h16 : k ≠ 16) : (q.ent l).fault = none → (nextT l (q.ent l).at_).kind ≠ 0 := fun hn => by
 rw [(ent_at hn).1]; exact kind_end hk h17 h16

set_option maxHeartbeats 2000000 in
theorem bracketed_any {n : Nat} (F : Reads n 36 (Pre0 1) 1) (W : World) (p : Nat) (s : ByteArray) (q : Q) (h : RM W p s q) (hn : mu s q ≤ n + 1) (hk : q.kind s.data.toList = 12) :
  Calls Tryz.prog 129 #[.pointer (some ⟨p, 0, none⟩)] W (Ans1 (Pre0 6) 6 W p s q) := by
 have HE := hid (enter_any h)
 have hmu := mu_entP h hk
 have m1 := mono_ent (l := s.data.toList) (q := q)
 have m2 : Mono s.data.toList 0 (q.ent s.data.toList) ((q.ent s.data.toList).pass s.data.toList 12) := mono_pass (by decide) (by decide)
 have HM := hid (m1.trans m2)
 have HF := hid F
 have HK := hid hk
 clear h F m1 m2 hk
 go_enter Tryz.func129, Tryz.ntmps129
 go_wp2_with (first | (go_at_call 120; refine HE.out.mono ?_; rintro e w1 ⟨rfl, r1, k1⟩; have H1 := hid (pass_any r1 12 (by decide)); have HK1 := hid k1; clear r1 k1 HE) | (have qq := H1; clear qq; go_at_call 37; refine H1.out.mono ?_; rintro e w2 ⟨rfl, r2, k2⟩; have H2 := hid (HF.out w2 p s _ r2 (by omega)); have HK2 := hid (HK1.out.trans k2); clear r2 k2 H1) | (go_at_call 36; refine H2.out.mono ?_; rintro e w3 ⟨v3, q3, rfl, i3, r3, l3, k3⟩; have H3 := hid (leave_any r3 (fun hx => by have := ((HM.out.trans l3.mono).live hx).1; omega)); have HI3 := hid i3; have HL3 := hid l3; have HK3 := hid (HK2.out.trans k3); clear r3 l3 k3 i3 H2) | (go_at_call 121; refine H3.out.mono ?_; rintro e w4 ⟨rfl, r4, k4⟩; have H4 := hid (pass_any r4 13 (by decide)); have HK4 := hid (HK3.out.trans k4); clear r4 k4 H3) | (go_at_call 37; refine H4.out.mono ?_; rintro e w5 ⟨rfl, r5, k5⟩; have HR5 := hid r5; have HK5 := hid (HK4.out.trans k5); clear r5 k5))
 go_ret
 exact ⟨v3, _, rfl, HI3.out, HR5.out, rel_bracket HK.out HL3.out, HK5.out⟩

/-! ### ite -/
theorem RM.aside {W : World} {p b : Nat} {s : ByteArray} {q : Q} (h : RM W p s q) (hb : p ≠ b) (h3 : 2 ≠ b) (h4 : 3 ≠ b) (j : Nat) (v : Value) : RM (W.setCell ⟨b, j, none⟩ v) p s q := by
 have hrow : ∀ {o : Obj} {k : Nat}, k ≠ b → W.heap[k]? = some o → (W.setCell ⟨b, j, none⟩ v).heap[k]? = some o := fun hk h => (Below.heap_setCell W _ _ _ (by simpa using hk)).trans h
 have cell : ∀ (k i : Nat) (u : Value), k ≠ b → W.cell? ⟨k, i, none⟩ = some u → (W.setCell ⟨b, j, none⟩ v).cell? ⟨k, i, none⟩ = some u := fun k i u hk hv => by
  rw [← hv]; exact World.cell?_of_block (Below.heap_setCell W _ _ _ (by simpa using hk))
 refine ⟨fun hq => ?_, fun f hf => ?_, h.at_, h.size, h.opn, h.made, ⟨fun c hc => cell 2 c _ h3 (h.tabs.1 c hc), fun i hi => ⟨cell 3 _ _ h4 (h.tabs.2 i hi).1, cell 3 _ _ h4 (h.tabs.2 i hi).2⟩⟩, h.h3, h.h4⟩
 ·obtain ⟨e, hr, r⟩ := h.live hq
  exact ⟨e, hrow hb hr, r⟩
 ·obtain ⟨e, o, m, h0, hr⟩ := h.dead f hf
  exact ⟨e, o, m, h0, hrow hb hr⟩
theorem Kr.aside {p b : Nat} {W W1 : World} (h : Kr p W W1) (hb : W.heap.size ≤ b) (j : Nat) (v : Value) : Kr p W (W1.setCell ⟨b, j, none⟩ v) :=
 h.onto ((Below.refl _ _).setCell (p := ⟨b, j, none⟩) hb _)
theorem kr_row {p b : Nat} {W W1 : World} {o : Obj} (h : Kr p W W1) (hr : W.heap[b]? = some o) (hb : b ≠ p) : W1.heap[b]? = some o := (h.block b (Array.getElem?_eq_some_iff.1 hr).1 hb).trans hr
theorem set3a {W : World} {b : Nat} {x0 x1 x2 : Value} {t : TypeId} (h : W.heap[b]? = some (.cells #[x0, x1, x2] t (0, 0))) (v : Value) : (W.setCell ⟨b, 0, none⟩ v).heap[b]? = some (.cells #[v, x1, x2] t (0, 0)) := by
 simp [World.setCell, Array.getElem?_modify, h]
theorem set3b {W : World} {b : Nat} {x0 x1 x2 : Value} {t : TypeId} (h : W.heap[b]? = some (.cells #[x0, x1, x2] t (0, 0))) (v : Value) : (W.setCell ⟨b, 1, none⟩ v).heap[b]? = some (.cells #[x0, v, x2] t (0, 0)) := by
 simp [World.setCell, Array.getElem?_modify, h]
theorem set3c {W : World} {b : Nat} {x0 x1 x2 : Value} {t : TypeId} (h : W.heap[b]? = some (.cells #[x0, x1, x2] t (0, 0))) (v : Value) : (W.setCell ⟨b, 2, none⟩ v).heap[b]? = some (.cells #[x0, x1, v] t (0, 0)) := by
 simp [World.setCell, Array.getElem?_modify, h]

set_option maxHeartbeats 4000000 in
theorem choice_any {n : Nat} (F : Reads n 36 (Pre0 1) 1) (W : World) (p : Nat) (s : ByteArray) (q : Q) (h : RM W p s q) (hn : mu s q ≤ n + 1) (hk : q.kind s.data.toList = 11) :
  Calls Tryz.prog 128 #[.pointer (some ⟨p, 0, none⟩)] W (Ans1 (Pre0 6) 6 W p s q) := by
 obtain ⟨WA, hWA⟩ : ∃ WA, WA = W.alloc (Obj.cells #[.nilIface, .nilIface, .nilIface] 96) := ⟨_, rfl⟩
 have hbA : Below W.heap.size W WA := by rw [hWA]; exact below_box _ _
 have rA : WA.heap[W.heap.size]? = some (.cells #[.nilIface, .nilIface, .nilIface] 96 (0, 0)) := by rw [hWA]; exact heap_alloc_new W _
 have hA := h.step hbA
 have hp := h.lt
 obtain ⟨t3, t4⟩ := tabs_lt h.tabs
 have pb : p ≠ W.heap.size := by omega
 have pb' : W.heap.size ≠ p := by omega
 have b3 : 2 ≠ W.heap.size := by omega
 have b4 : 3 ≠ W.heap.size := by omega
 have HE := hid (enter_any hA)
 have hmu := mu_entN h hk (by decide) (by decide)
 have m1 := mono_ent (l := s.data.toList) (q := q)
 have m2 : Mono s.data.toList 0 (q.ent s.data.toList) ((q.ent s.data.toList).passN s.data.toList) := mono_passN (ent_end hk (by decide) (by decide))
 have m3 : Mono s.data.toList 0 ((q.ent s.data.toList).passN s.data.toList) (((q.ent s.data.toList).passN s.data.toList).pass s.data.toList 12) := mono_pass (by decide) (by decide)
 have hmu2 := mu_mono m3
 have HM := hid ((m1.trans m2).trans m3)
 have HEB := hid (ent_bad hk (by decide))
 have HF := hid F
 have HK := hid hk
 have HWA := hid hWA
 have HRA := hid rA
 have HKA := hid (Kr.of_below (p := p) hbA)
 clear h F m1 m2 m3 hk hWA hA rA hbA
 go_enter Tryz.func128, Tryz.ntmps128
 go_wp2_with (first | (rw [← HWA.out]) | (go_at_call 120; refine HE.out.mono ?_; rintro e w1 ⟨rfl, r1, k1⟩; have H1 := hid (passN_any r1 HEB.out); have HK1 := hid (HKA.out.trans k1); have HR1 := hid (kr_row k1 HRA.out pb'); clear r1 k1 HE) | (go_at_call 74; refine H1.out.mono ?_; rintro e w2 ⟨rfl, r2, k2⟩; have H2 := hid (pass_any r2 12 (by decide)); have HK2 := hid (HK1.out.trans k2); have HR2 := hid (kr_row k2 HR1.out pb'); clear r2 k2 H1))
 refine H2.out.mono ?_
 rintro e w3 ⟨rfl, r3, k3⟩
 have H3 := hid (HF.out w3 p s _ r3 (by omega))
 have HK3 := hid (HK2.out.trans k3)
 have HR3 := hid (kr_row k3 HR2.out pb')
 clear r3 k3 H2
 go_wp2_with fail
 refine H3.out.mono ?_
 rintro e w4 ⟨v1, q1, rfl, i1, r4, l1, k4⟩
 have HI1 := hid i1
 have HL1 := hid l1
 have hmq1 := mu_mono l1.mono
 have rr4 := kr_row k4 HR3.out pb'
 have f4 := fun j => unfrozen_row rr4 j
 have c4 := fun j => cell_row rr4 j
 have HK4 := hid ((HK3.out.trans k4).aside (Nat.le_refl W.heap.size) 0 v1)
 have HR4 := hid (set3a rr4 v1)
 have H4 := hid (pass_any (r4.aside pb b3 b4 0 v1) 14 (by decide))
 have m4 : Mono s.data.toList 0 q1 (q1.pass s.data.toList 14) := mono_pass (by decide) (by decide)
 have hmq2 := mu_mono m4
 have HM2 := hid ((HM.out.trans l1.mono).trans m4)
 clear r4 k4 l1 rr4 H3 HK3 HR3 m4
 rcases i1 with rfl | ⟨x1, y1, rfl⟩
 all_goals
  go_wp2_with fail
  refine H4.out.mono ?_
  rintro e w5 ⟨rfl, r5, k5⟩
  have H5 := hid (HF.out w5 p s _ r5 (by omega))
  have HK5 := hid (HK4.out.trans k5)
  have HR5 := hid (kr_row k5 HR4.out pb')
  clear r5 k5 f4 c4 H4 HK4 HR4
  go_wp2_with fail
  refine H5.out.mono ?_
  rintro e w6 ⟨v2, q2, rfl, i2, r6, l2, k6⟩
  have HI2 := hid i2
  have HL2 := hid l2
  have hmq3 := mu_mono l2.mono
  have rr6 := kr_row k6 HR5.out pb'
  have f6 := fun j => unfrozen_row rr6 j
  have c6 := fun j => cell_row rr6 j
  have HK6 := hid ((HK5.out.trans k6).aside (Nat.le_refl W.heap.size) 1 v2)
  have HR6 := hid (set3b rr6 v2)
  have H6 := hid (pass_any (r6.aside pb b3 b4 1 v2) 14 (by decide))
  have m6 : Mono s.data.toList 0 q2 (q2.pass s.data.toList 14) := mono_pass (by decide) (by decide)
  have hmq4 := mu_mono m6
  have HM3 := hid ((HM2.out.trans l2.mono).trans m6)
  clear r6 k6 l2 rr6 H5 HK5 HR5 m6
  rcases i2 with rfl | ⟨x2, y2, rfl⟩
  all_goals
   go_wp2_with fail
   refine H6.out.mono ?_
   rintro e w7 ⟨rfl, r7, k7⟩
   have H7 := hid (HF.out w7 p s _ r7 (by omega))
   have HK7 := hid (HK6.out.trans k7)
   have HR7 := hid (kr_row k7 HR6.out pb')
   clear r7 k7 f6 c6 H6 HK6 HR6
   go_wp2_with fail
   refine H7.out.mono ?_
   rintro e w8 ⟨v3, q3, rfl, i3, r8, l3, k8⟩
   have HI3 := hid i3
   have HL3 := hid l3
   have rr8 := kr_row k8 HR7.out pb'
   have f8 := fun j => unfrozen_row rr8 j
   have c8 := fun j => cell_row rr8 j
   have HK8 := hid ((HK7.out.trans k8).aside (Nat.le_refl W.heap.size) 2 v3)
   have HR8 := hid (set3c rr8 v3)
   have H8 := hid (leave_any (r8.aside pb b3 b4 2 v3) (fun hx => by have := ((HM3.out.trans l3.mono).live hx).1; omega))
   clear r8 k8 l3 rr8 H7 HK7 HR7
   rcases i3 with rfl | ⟨x3, y3, rfl⟩
   all_goals
    go_wp2_with fail
    refine H8.out.mono ?_
    rintro e w9 ⟨rfl, r9, k9⟩
    have H9 := hid (pass_any r9 13 (by decide))
    have HK9 := hid (HK8.out.trans k9)
    have HR9 := hid (kr_row k9 HR8.out pb')
    clear r9 k9 f8 c8 H8 HK8 HR8
    go_wp2_with fail
    refine H9.out.mono ?_
    rintro e wz ⟨rfl, rz, kz⟩
    have HRZ := hid rz
    have HKZ := hid (HK9.out.trans kz)
    have cz := fun j => cell_row (kr_row kz HR9.out pb') j
    clear rz kz
    go_wp2_with fail
    go_ret
    exact ⟨_, _, rfl, .inr ⟨_, _, rfl⟩, HRZ.out, rel_ite HK.out HL1.out HL2.out HL3.out, HKZ.out⟩

end Go.Proofs.YtdkboifpdodonacGreatDoor
/-
 The landed reader: quantifiers, single operands; all rules.
-/
namespace Go.Proofs.YtdkboifpdodonacGreatDoor
open Go.RowKit Go.Deep PureCnf PureForm PureRd
set_option maxRecDepth 100000

def ReadsQ (n : Nat) : Prop := ∀ (W : World) (p : Nat) (s : ByteArray) (q : Q) (op : Nat), op = 4 ∨ op = 5 → RM W p s q → mu s q ≤ n → Calls Tryz.prog 122 #[.pointer (some ⟨p, 0, none⟩), .int .i64 (op : Int)] W (Ans1 (PreQ op) 1 W p s q)

set_option maxHeartbeats 4000000 in
theorem quantified_any {n : Nat} (F : Reads n 36 (Pre0 1) 1) (R : ReadsQ n) : ReadsQ (n + 1) := by
 intro W p s q op ho h hn
 obtain ⟨e, c, a, o, m, f1, f2, f3, hr, _⟩ := h.cells
 have c0 := fun j => cell_row hr j
 by_cases hk : q.kind s.data.toList = 2
 ·have hp := h.lt
  obtain ⟨t3, t4⟩ := tabs_lt h.tabs
  have pb : p ≠ W.heap.size := by omega
  have pb' : W.heap.size ≠ p := by omega
  have b3 : 2 ≠ W.heap.size := by omega
  have b4 : 3 ≠ W.heap.size := by omega
  obtain ⟨WA, hWA⟩ : ∃ WA, WA = W.alloc (Obj.cells #[.int .i64 op, .int .i64 (q.num s.data.toList), .nilIface] 92) := ⟨_, rfl⟩
  have hbA : Below W.heap.size W WA := by rw [hWA]; exact below_box _ _
  have rA : WA.heap[W.heap.size]? = some (.cells #[.int .i64 op, .int .i64 (q.num s.data.toList), .nilIface] 92 (0, 0)) := by rw [hWA]; exact heap_alloc_new W _
  have HE := hid (enter_any (h.step hbA))
  have hmu := mu_entN h hk (by decide) (by decide)
  have m1 := mono_ent (l := s.data.toList) (q := q)
  have m2 : Mono s.data.toList 0 (q.ent s.data.toList) ((q.ent s.data.toList).passN s.data.toList) := mono_passN (ent_end hk (by decide) (by decide))
  have HM := hid (m1.trans m2)
  have HEB := hid (ent_bad hk (by decide))
  have HF := hid F
  have HRQ := hid R
  have HK := hid hk
  have HO := hid ho
  have HWA := hid hWA
  have HRA := hid rA
  have HKA := hid (Kr.of_below (p := p) hbA)
  rw [hk] at c0
  obtain ⟨nn, hnn⟩ : ∃ nn, nn = q.num s.data.toList := ⟨_, rfl⟩
  rw [← hnn] at c0 HWA HRA
  have HNN := hid hnn
  clear h F R m1 m2 hk hWA rA hbA hr ho hnn
  go_enter Tryz.func122, Tryz.ntmps122
  go_wp2_with (first | (rw [← HWA.out]) | (go_at_call 120; refine HE.out.mono ?_; rintro e w1 ⟨rfl, r1, k1⟩; have H1 := hid (passN_any r1 HEB.out); have HK1 := hid (HKA.out.trans k1); have HR1 := hid (kr_row k1 HRA.out pb'); clear r1 k1 HE))
  refine H1.out.mono ?_
  rintro e w2 ⟨rfl, r2, k2⟩
  obtain ⟨e', c', a', o', m', g1, g2, g3, hr2, _⟩ := r2.cells
  have c2 := fun j => cell_row hr2 j
  have HK2 := hid (HK1.out.trans k2)
  have HR2 := hid (kr_row k2 HR1.out pb')
  have HQ2 := hid r2
  clear r2 k2 hr2 H1 HK1 HR1 HRA HKA
  by_cases hk2 : ((q.ent s.data.toList).passN s.data.toList).kind s.data.toList = 14
  ·rw [hk2] at c2
   have HA := hid (advance_any HQ2.out (fun _ => kind_bad hk2 (by decide)))
   have m3 : Mono s.data.toList 0 ((q.ent s.data.toList).passN s.data.toList) (((q.ent s.data.toList).passN s.data.toList).adv s.data.toList) := mono_adv (fun _ => kind_end hk2 (by decide) (by decide))
   have hmu3 := mu_mono m3
   have HM3 := hid (HM.out.trans m3)
   have HKK := hid hk2
   clear hk2 m3 HQ2
   go_wp2_with fail
   refine HA.out.mono ?_
   rintro e w3 ⟨rfl, r3, k3⟩
   have H3 := hid (HRQ.out w3 p s _ op HO.out r3 (by omega))
   have HK3 := hid (HK2.out.trans k3)
   have HR3 := hid (kr_row k3 HR2.out pb')
   clear r3 k3 HA
   go_wp2_with fail
   refine H3.out.mono ?_
   rintro e w4 ⟨v1, q1, rfl, i1, r4, l1, k4⟩
   have HL1 := hid l1
   have rr4 := kr_row k4 HR3.out pb'
   have f4 := fun j => unfrozen_row rr4 j
   have c4 := fun j => cell_row rr4 j
   have HK4 := hid ((HK3.out.trans k4).aside (Nat.le_refl W.heap.size) 2 v1)
   have HR4 := hid (set3c rr4 v1)
   have H4 := hid (leave_any (r4.aside pb b3 b4 2 v1) (fun hx => by have := ((HM3.out.trans l1.mono).live hx).1; omega))
   clear r4 k4 l1 rr4 H3 HK3 HR3
   rcases i1 with rfl | ⟨x1, y1, rfl⟩
   all_goals
    go_wp2_with fail
    refine H4.out.mono ?_
    rintro e wz ⟨rfl, rz, kz⟩
    have HRZ := hid rz
    have HKZ := hid (HK4.out.trans kz)
    have cz := fun j => cell_row (kr_row kz HR4.out pb') j
    clear rz kz c4 f4
    go_wp2_with fail
    go_ret
    exact ⟨_, _, rfl, .inr ⟨_, _, rfl⟩, HRZ.out, by rw [HNN.out]; exact relq_more HO.out HK.out HKK.out HL1.out, HKZ.out⟩
  ·have hne : (((((q.ent s.data.toList).passN s.data.toList).kind s.data.toList : Nat) : Int) == 14) = false := by simp; omega
   have HA := hid (pass_any HQ2.out 15 (by decide))
   have m3 : Mono s.data.toList 0 ((q.ent s.data.toList).passN s.data.toList) (((q.ent s.data.toList).passN s.data.toList).pass s.data.toList 15) := mono_pass (by decide) (by decide)
   have hmu3 := mu_mono m3
   have HM3 := hid (HM.out.trans m3)
   have HKK := hid hk2
   clear hk2 m3 HQ2
   go_wp2_with fail
   refine HA.out.mono ?_
   rintro e w3 ⟨rfl, r3, k3⟩
   have H3 := hid (HF.out w3 p s _ r3 (by omega))
   have HK3 := hid (HK2.out.trans k3)
   have HR3 := hid (kr_row k3 HR2.out pb')
   clear r3 k3 HA
   go_wp2_with fail
   refine H3.out.mono ?_
   rintro e w4 ⟨v1, q1, rfl, i1, r4, l1, k4⟩
   have HL1 := hid l1
   have rr4 := kr_row k4 HR3.out pb'
   have f4 := fun j => unfrozen_row rr4 j
   have c4 := fun j => cell_row rr4 j
   have HK4 := hid ((HK3.out.trans k4).aside (Nat.le_refl W.heap.size) 2 v1)
   have HR4 := hid (set3c rr4 v1)
   have H4 := hid (leave_any (r4.aside pb b3 b4 2 v1) (fun hx => by have := ((HM3.out.trans l1.mono).live hx).1; omega))
   clear r4 k4 l1 rr4 H3 HK3 HR3
   rcases i1 with rfl | ⟨x1, y1, rfl⟩
   all_goals
    go_wp2_with fail
    refine H4.out.mono ?_
    rintro e wz ⟨rfl, rz, kz⟩
    have HRZ := hid rz
    have HKZ := hid (HK4.out.trans kz)
    have cz := fun j => cell_row (kr_row kz HR4.out pb') j
    clear rz kz c4 f4
    go_wp2_with fail
    go_ret
    exact ⟨_, _, rfl, .inr ⟨_, _, rfl⟩, HRZ.out, by rw [HNN.out]; exact relq_last HO.out HK.out HKK.out HL1.out, HKZ.out⟩
 ·have hne : (((q.kind s.data.toList : Nat) : Int) != 2) = true := by simp; omega
  have HF := hid (refuse_any h 131 (by decide))
  have HL := hid (relq_none (l := s.data.toList) (op := op) .nilIface hk)
  clear h F R hk hr ho
  go_enter Tryz.func122, Tryz.ntmps122
  go_wp2_with (go_at_call 57; refine HF.out.mono ?_; rintro e w1 ⟨rfl, r1, k1⟩; have HR1 := hid r1; have HK1 := hid k1; clear r1 k1)
  go_ret
  exact ⟨_, _, rfl, .inl rfl, HR1.out, HL.out, HK1.out⟩

set_option maxHeartbeats 4000000 in
theorem primary_any {n : Nat} (F : Reads n 36 (Pre0 1) 1) (W : World) (p : Nat) (s : ByteArray) (q : Q) (h : RM W p s q) (hn : mu s q ≤ n + 1) (k3 : q.kind s.data.toList ≠ 3) (k4 : q.kind s.data.toList ≠ 4) (k5 : q.kind s.data.toList ≠ 5) :
  Calls Tryz.prog 123 #[.pointer (some ⟨p, 0, none⟩)] W (Ans1 (Pre0 6) 6 W p s q) := by
 obtain ⟨e, c, a, o, m, f1, f2, f3, hr, _⟩ := h.cells
 have c0 := fun j => cell_row hr j
 obtain ⟨nn, hnn⟩ : ∃ nn, nn = q.num s.data.toList := ⟨_, rfl⟩
 rw [← hnn] at c0
 have HNN := hid hnn
 clear hnn
 by_cases h1 : q.kind s.data.toList = 1
 ·have HP := hid (passN_any h (fun _ => kind_bad h1 (by decide)))
  have HL := hid (rel_leaf (kind_live (by decide) h1).1 (.inl h1) (.iface 139 (.agg #[.int .i64 nn])) (by rw [h1, HNN.out]; rfl))
  rw [h1] at c0
  clear h F hr h1 k3 k4 k5
  go_enter Tryz.func123, Tryz.ntmps123
  go_wp2_with (go_at_call 74; refine HP.out.mono ?_; rintro e w1 ⟨rfl, r1, k1⟩; have HR1 := hid r1; have HK1 := hid k1; clear r1 k1)
  go_ret
  exact ⟨_, _, rfl, .inr ⟨_, _, rfl⟩, HR1.out, HL.out, HK1.out⟩
 ·by_cases h2 : q.kind s.data.toList = 2
  ·have HP := hid (passN_any h (fun _ => kind_bad h2 (by decide)))
   have HL := hid (rel_leaf (kind_live (by decide) h2).1 (.inr h2) (.iface 141 (.agg #[.int .i64 nn])) (by rw [h2, HNN.out]; rfl))
   rw [h2] at c0
   clear h F hr h1 h2 k3 k4 k5
   go_enter Tryz.func123, Tryz.ntmps123
   go_wp2_with (go_at_call 74; refine HP.out.mono ?_; rintro e w1 ⟨rfl, r1, k1⟩; have HR1 := hid r1; have HK1 := hid k1; clear r1 k1)
   go_ret
   exact ⟨_, _, rfl, .inr ⟨_, _, rfl⟩, HR1.out, HL.out, HK1.out⟩
  ·by_cases h11 : q.kind s.data.toList = 11
   ·have HC := hid (choice_any F W p s q h hn h11)
    rw [h11] at c0
    clear h F hr h1 h2 h11 k3 k4 k5
    go_enter Tryz.func123, Tryz.ntmps123
    go_wp2_with (go_at_call 128; refine HC.out.mono ?_; rintro e w1 ⟨v1, q1, rfl, i1, r1, l1, k1⟩; have HI1 := hid i1; have HR1 := hid r1; have HL1 := hid l1; have HK1 := hid k1; clear r1 l1 k1 i1)
    go_ret
    exact ⟨_, _, rfl, HI1.out, HR1.out, HL1.out, HK1.out⟩
   ·by_cases h12 : q.kind s.data.toList = 12
    ·have HC := hid (bracketed_any F W p s q h hn h12)
     rw [h12] at c0
     clear h F hr h1 h2 h11 h12 k3 k4 k5
     go_enter Tryz.func123, Tryz.ntmps123
     go_wp2_with (go_at_call 129; refine HC.out.mono ?_; rintro e w1 ⟨v1, q1, rfl, i1, r1, l1, k1⟩; have HI1 := hid i1; have HR1 := hid r1; have HL1 := hid l1; have HK1 := hid k1; clear r1 l1 k1 i1)
     go_ret
     exact ⟨_, _, rfl, HI1.out, HR1.out, HL1.out, HK1.out⟩
    ·have HF := hid (refuse_any h 131 (by decide))
     have HL := hid (rel_none (l := s.data.toList) (q := q) .nilIface h1 h2 k3 k4 k5 h11 h12)
     obtain ⟨kk, hkk⟩ : ∃ kk : Int, kk = (q.kind s.data.toList : Int) := ⟨_, rfl⟩
     have e1 : (kk == 1) = false := by simp; omega
     have e2 : (kk == 2) = false := by simp; omega
     have e3 : (kk == 11) = false := by simp; omega
     have e4 : (kk == 12) = false := by simp; omega
     rw [← hkk] at c0
     clear h F hr h1 h2 h11 h12 k3 k4 k5 hkk
     go_enter Tryz.func123, Tryz.ntmps123
     go_wp2_with (go_at_call 57; refine HF.out.mono ?_; rintro e w1 ⟨rfl, r1, k1⟩; have HR1 := hid r1; have HK1 := hid k1; clear r1 k1)
     go_ret
     exact ⟨_, _, rfl, .inl rfl, HR1.out, HL.out, HK1.out⟩

end Go.Proofs.YtdkboifpdodonacGreatDoor
/-
 The landed reader: all rules, by induction.
-/
namespace Go.Proofs.YtdkboifpdodonacGreatDoor
open Go.RowKit Go.Deep PureCnf PureForm PureRd
set_option maxRecDepth 100000

set_option maxHeartbeats 1000000 in
theorem primary_dead (W : World) (p : Nat) (s : ByteArray) (q : Q) (h : RM W p s q) (f : Nat × Nat) (hq : q.fault = some f) :
  Calls Tryz.prog 123 #[.pointer (some ⟨p, 0, none⟩)] W (Ans1 (Pre0 6) 6 W p s q) := by
 obtain ⟨e, c, a, o, m, f1, f2, f3, hr, _⟩ := h.cells
 have c0 := fun j => cell_row hr j
 rw [kind_dead hq] at c0
 have HF := hid (refuse_any h 131 (by decide))
 have HL := hid (rel_none (l := s.data.toList) (q := q) .nilIface (by rw [kind_dead hq]; decide) (by rw [kind_dead hq]; decide) (by rw [kind_dead hq]; decide) (by rw [kind_dead hq]; decide) (by rw [kind_dead hq]; decide) (by rw [kind_dead hq]; decide) (by rw [kind_dead hq]; decide))
 clear h hr hq
 go_enter Tryz.func123, Tryz.ntmps123
 go_wp2_with (go_at_call 57; refine HF.out.mono ?_; rintro e w1 ⟨rfl, r1, k1⟩; have HR1 := hid r1; have HK1 := hid k1; clear r1 k1)
 go_ret
 exact ⟨_, _, rfl, .inl rfl, HR1.out, HL.out, HK1.out⟩
set_option maxHeartbeats 1000000 in
theorem quantified_dead (W : World) (p : Nat) (s : ByteArray) (q : Q) (op : Nat) (h : RM W p s q) (f : Nat × Nat) (hq : q.fault = some f) :
  Calls Tryz.prog 122 #[.pointer (some ⟨p, 0, none⟩), .int .i64 (op : Int)] W (Ans1 (PreQ op) 1 W p s q) := by
 obtain ⟨e, c, a, o, m, f1, f2, f3, hr, _⟩ := h.cells
 have c0 := fun j => cell_row hr j
 rw [kind_dead hq] at c0
 have HF := hid (refuse_any h 131 (by decide))
 have HL := hid (relq_none (l := s.data.toList) (q := q) (op := op) .nilIface (by rw [kind_dead hq]; decide))
 clear h hr hq
 go_enter Tryz.func122, Tryz.ntmps122
 go_wp2_with (go_at_call 57; refine HF.out.mono ?_; rintro e w1 ⟨rfl, r1, k1⟩; have HR1 := hid r1; have HK1 := hid k1; clear r1 k1)
 go_ret
 exact ⟨_, _, rfl, .inl rfl, HR1.out, HL.out, HK1.out⟩
set_option maxHeartbeats 1000000 in
theorem unary_dead (W : World) (p : Nat) (s : ByteArray) (q : Q) (h : RM W p s q) (f : Nat × Nat) (hq : q.fault = some f) :
  Calls Tryz.prog 118 #[.pointer (some ⟨p, 0, none⟩)] W (Ans1 (Pre0 6) 6 W p s q) := by
 obtain ⟨e, c, a, o, m, f1, f2, f3, hr, _⟩ := h.cells
 have c0 := fun j => cell_row hr j
 rw [kind_dead hq] at c0
 have HC := hid (primary_dead W p s q h f hq)
 clear h hr hq
 go_enter Tryz.func118, Tryz.ntmps118
 go_wp2_with (go_at_call 123; refine HC.out.mono ?_; rintro e w1 ⟨v1, q1, rfl, i1, r1, l1, k1⟩; have HI1 := hid i1; have HR1 := hid r1; have HL1 := hid l1; have HK1 := hid k1; clear r1 l1 k1 i1)
 go_ret
 exact ⟨_, _, rfl, HI1.out, HR1.out, HL1.out, HK1.out⟩

set_option maxHeartbeats 4000000 in
theorem unary_any {n : Nat} (F : Reads n 36 (Pre0 1) 1) (U : Reads n 118 (Pre0 6) 6) (R : ReadsQ n) : Reads (n + 1) 118 (Pre0 6) 6 := by
 intro W p s q h hn
 obtain ⟨e, c, a, o, m, f1, f2, f3, hr, _⟩ := h.cells
 have c0 := fun j => cell_row hr j
 by_cases h3 : q.kind s.data.toList = 3
 ·have HE := hid (enter_any h)
  have hmu := mu_entN h h3 (by decide) (by decide)
  have m1 := mono_ent (l := s.data.toList) (q := q)
  have m2 : Mono s.data.toList 0 (q.ent s.data.toList) ((q.ent s.data.toList).passN s.data.toList) := mono_passN (ent_end h3 (by decide) (by decide))
  have HM := hid (m1.trans m2)
  have HEB := hid (ent_bad h3 (by decide))
  have HU := hid U
  have HK := hid h3
  have hp := h.lt
  rw [h3] at c0
  clear h F U R m1 m2 h3 hr
  go_enter Tryz.func118, Tryz.ntmps118
  go_wp2_with (first | (go_at_call 120; refine HE.out.mono ?_; rintro e w1 ⟨rfl, r1, k1⟩; have H1 := hid (passN_any r1 HEB.out); have HK1 := hid k1; clear r1 k1 HE) | (go_at_call 74; refine H1.out.mono ?_; rintro e w2 ⟨rfl, r2, k2⟩; have H2 := hid (HU.out w2 p s _ r2 (by omega)); have HK2 := hid (HK1.out.trans k2); clear r2 k2 H1))
  refine H2.out.mono ?_
  rintro e w3 ⟨v3, q3, rfl, i3, r3, l3, k3⟩
  have HL3 := hid l3
  have HK3 := hid (HK2.out.trans k3)
  have hp3 := r3.lt
  have pb' : w3.heap.size ≠ p := by omega
  have hrow := heap_alloc_new w3 (Obj.cells #[v3] 90)
  have HRW := hid hrow
  have H3 := hid (leave_any (r3.step (below_box w3 (Obj.cells #[v3] 90))) (fun hx => by have := ((HM.out.trans l3.mono).live hx).1; omega))
  have HKA := hid (HK3.out.trans (Kr.of_below (below_box w3 (Obj.cells #[v3] 90))))
  clear r3 k3 l3 hrow
  rcases i3 with rfl | ⟨x3, y3, rfl⟩
  all_goals
   go_wp2_with fail
   refine H3.out.mono ?_
   rintro e wz ⟨rfl, rz, kz⟩
   have HRZ := hid rz
   have HKZ := hid (HKA.out.trans kz)
   have cz := fun j => cell_row (kr_row kz HRW.out pb') j
   clear rz kz
   go_wp2_with fail
   go_ret
   exact ⟨_, _, rfl, .inr ⟨_, _, rfl⟩, HRZ.out, rel_not HK.out HL3.out, HKZ.out⟩
 ·by_cases h45 : q.kind s.data.toList = 4 ∨ q.kind s.data.toList = 5
  ·have hb : (nextT s.data.toList q.at_).kind ≠ 1 ∧ (nextT s.data.toList q.at_).kind ≠ 0 ∧ q.fault = none := by
    rcases h45 with h | h
    ·exact ⟨kind_bad h (by decide), kind_end h (by decide) (by decide), (kind_live (by decide) h).1⟩
    ·exact ⟨kind_bad h (by decide), kind_end h (by decide) (by decide), (kind_live (by decide) h).1⟩
   have HA := hid (advance_any h (fun _ => hb.1))
   have hmu := mu_adv h hb.2.2 hb.2.1
   have HR := hid R
   have H45 := hid h45
   obtain ⟨op, hop⟩ : ∃ op, op = q.kind s.data.toList := ⟨_, rfl⟩
   rw [← hop] at c0 h45
   have HOP := hid hop
   clear h F U R hr h3 hb hop
   rcases h45 with rfl | rfl
   ·go_enter Tryz.func118, Tryz.ntmps118
    go_wp2_with (first | (go_at_call 35; refine HA.out.mono ?_; rintro e w1 ⟨rfl, r1, k1⟩; have H1 := hid (HR.out w1 p s _ 4 (.inl rfl) r1 (by omega)); have HK1 := hid k1; clear r1 k1 HA) | (go_at_call 122; refine H1.out.mono ?_; rintro e w2 ⟨v2, q2, rfl, i2, r2, l2, k2⟩; have HI2 := hid i2; have HR2 := hid r2; have HL2 := hid l2; have HK2 := hid (HK1.out.trans k2); clear r2 l2 k2 i2))
    go_ret
    refine ⟨_, _, rfl, HI2.out, HR2.out, rel_quant H45.out ?_, HK2.out⟩
    rw [← HOP.out]
    exact HL2.out
   ·go_enter Tryz.func118, Tryz.ntmps118
    go_wp2_with (first | (go_at_call 35; refine HA.out.mono ?_; rintro e w1 ⟨rfl, r1, k1⟩; have H1 := hid (HR.out w1 p s _ 5 (.inr rfl) r1 (by omega)); have HK1 := hid k1; clear r1 k1 HA) | (go_at_call 122; refine H1.out.mono ?_; rintro e w2 ⟨v2, q2, rfl, i2, r2, l2, k2⟩; have HI2 := hid i2; have HR2 := hid r2; have HL2 := hid l2; have HK2 := hid (HK1.out.trans k2); clear r2 l2 k2 i2))
    go_ret
    refine ⟨_, _, rfl, HI2.out, HR2.out, rel_quant H45.out ?_, HK2.out⟩
    rw [← HOP.out]
    exact HL2.out
  ·have k4 : q.kind s.data.toList ≠ 4 := fun x => h45 (.inl x)
   have k5 : q.kind s.data.toList ≠ 5 := fun x => h45 (.inr x)
   have HC := hid (primary_any F W p s q h hn h3 k4 k5)
   obtain ⟨kk, hkk⟩ : ∃ kk : Int, kk = (q.kind s.data.toList : Int) := ⟨_, rfl⟩
   have e1 : (kk == 3) = false := by simp; omega
   have e2 : (kk == 4) = false := by simp; omega
   have e3 : (kk == 5) = false := by simp; omega
   rw [← hkk] at c0
   clear h F U R hr h3 h45 k4 k5 hkk
   go_enter Tryz.func118, Tryz.ntmps118
   go_wp2_with (go_at_call 123; refine HC.out.mono ?_; rintro e w1 ⟨v1, q1, rfl, i1, r1, l1, k1⟩; have HI1 := hid i1; have HR1 := hid r1; have HL1 := hid l1; have HK1 := hid k1; clear r1 l1 k1 i1)
   go_ret
   exact ⟨_, _, rfl, HI1.out, HR1.out, HL1.out, HK1.out⟩

/-! ### all rules -/
theorem rules_of {n : Nat} (U : Reads n 118 (Pre0 6) 6) : Reads n 36 (Pre0 1) 1 := formula_any (imp_any (or_any (xor_any (and_any U))))
theorem mu_dead {W : World} {p : Nat} {s : ByteArray} {q : Q} (h : RM W p s q) (hm : mu s q ≤ 0) : ∃ f, q.fault = some f := by
 cases hq : q.fault with
 | none => have := mu_pos h hq; omega
 | some f => exact ⟨f, rfl⟩
theorem rules : ∀ n, Reads n 118 (Pre0 6) 6 ∧ ReadsQ n := by
 intro n
 induction n with
 | zero =>
  refine ⟨fun W p s q h hn => ?_, fun W p s q op _ h hn => ?_⟩
  ·obtain ⟨f, hf⟩ := mu_dead h hn
   exact unary_dead W p s q h f hf
  ·obtain ⟨f, hf⟩ := mu_dead h hn
   exact quantified_dead W p s q op h f hf
 | succ n ih => exact ⟨unary_any (rules_of ih.1) ih.1 ih.2, quantified_any (rules_of ih.1) ih.2⟩
theorem formula_all (W : World) (p : Nat) (s : ByteArray) (q : Q) (h : RM W p s q) : Calls Tryz.prog 36 #[.pointer (some ⟨p, 0, none⟩)] W (Ans1 (Pre0 1) 1 W p s q) :=
 rules_of (rules (mu s q)).1 W p s q h (Nat.le_refl _)

theorem below3 {w W : World} (h : Below w.heap.size w W) (v0 v1 v2 : Value) : Below w.heap.size w (((W.setCell ⟨w.heap.size, 0, none⟩ v0).setCell ⟨w.heap.size, 1, none⟩ v1).setCell ⟨w.heap.size, 2, none⟩ v2) :=
 ((h.setCell (p := ⟨w.heap.size, 0, none⟩) (Nat.le_refl _) _).setCell (p := ⟨w.heap.size, 1, none⟩) (Nat.le_refl _) _).setCell (p := ⟨w.heap.size, 2, none⟩) (Nat.le_refl _) _
/-! ### a text -/
def spV (l : List UInt8) (f : Nat × Nat) : Value := .agg #[.int .i64 f.1, .int .i64 ((spotN (l.take f.2)).1 : Nat), .int .i64 ((spotN (l.take f.2)).2 : Nat)]
set_option maxHeartbeats 4000000 in
theorem read_any (s : ByteArray) (w : World) (hs : s.size ≤ 1048576) (hT : Lib.Utf8Tabs 2 3 w) :
  Calls Tryz.prog 14 #[.string s] w fun e w' => ((∃ f, parseF s.data.toList = .error (f.1, some f.2) ∧ f.1 ≠ 0 ∧ e = .returned (.tuple #[.nilIface, spV s.data.toList f])) ∨ (∃ t, parseF s.data.toList = .ok t.post ∧ t.good ∧ e = .returned (.tuple #[tv t, .agg #[.int .i64 0, .int .i64 0, .int .i64 0]]))) ∧ Below w.heap.size w w' := by
 obtain ⟨t3, t4⟩ := tabs_lt hT
 obtain ⟨WB, hWB⟩ : ∃ WB, WB = w.alloc (Obj.cells #[.int .i64 0, .int .i64 0, .int .i64 0] 28) := ⟨_, rfl⟩
 obtain ⟨WA, hWA⟩ : ∃ WA, WA = WB.alloc (Obj.cells (rr s 0 0 0 0 0 0 0 0 0 0) 86) := ⟨_, rfl⟩
 have hbB : Below w.heap.size w WB := by rw [hWB]; exact below_box _ _
 have szB : WB.heap.size = w.heap.size + 1 := by rw [hWB]; simp
 have hbA : Below w.heap.size w WA := by rw [hWA]; exact hbB.alloc (by omega) _
 have rA : WA.heap[w.heap.size + 1]? = some (.cells (rr s ((0 : Nat) : Int) 0 0 0 0 ((0 : Nat) : Int) ((0 : Nat) : Int) 0 0 0) 86 (0, 0)) := by rw [hWA, ← szB]; exact heap_alloc_new WB _
 have rB : WA.heap[w.heap.size]? = some (.cells #[.int .i64 0, .int .i64 0, .int .i64 0] 28 (0, 0)) := by
  rw [hWA]
  exact (Below.heap_alloc _ _ _ (by omega)).trans (by rw [hWB]; exact heap_alloc_new w _)
 have HA := hid (advance_raw (w.heap.size + 1) s 0 0 0 0 0 0 0 WA rA (Nat.zero_le _) (by omega) (by omega) (by omega) (Utf8Tabs_below hT hbA) (by omega) (by omega))
 have hlen : s.data.toList.length = s.size := by simp
 have HWB := hid hWB
 have HWA := hid hWA
 have HRB := hid rB
 have HBA := hid hbA
 have pb : w.heap.size ≠ w.heap.size + 1 := by omega
 clear hWB hWA rA rB hbA hbB hT
 go_enter Tryz.func14, Tryz.ntmps14
 go_wp2_with (first | (rw [← HWB.out]) | (rw [← HWA.out]))
 refine HA.out.mono ?_
 rintro e w1 ⟨rfl, r1, k1⟩
 have HF := hid (formula_all w1 (w.heap.size + 1) s _ r1)
 have HK1 := hid k1
 clear r1 k1 HA
 go_wp2_with fail
 refine HF.out.mono ?_
 rintro e w2 ⟨v, q1, rfl, i2, r2, l2, k2⟩
 have HP := hid (pass_any r2 16 (by decide))
 have HRA := hid (read_all (by omega) l2)
 have HK2 := hid (HK1.out.trans k2)
 clear r2 l2 k2 HF
 go_wp2_with fail
 refine HP.out.mono ?_
 rintro e w3 ⟨rfl, r3, k3⟩
 have hk3 := HK2.out.trans k3
 have rb3 := kr_row hk3 HRB.out pb
 have cb := fun j => cell_row rb3 j
 have fb := fun j => unfrozen_row rb3 j
 have HB3 := hid (Kr.below HBA.out (Nat.le_refl _) (Nat.le_succ _) hk3)
 cases hq : (q1.pass s.data.toList 16).fault with
 | none =>
  obtain ⟨e', hr, _⟩ := r3.live hq
  obtain ⟨t, hv, ht, hpf⟩ := HRA.out.2 hq
  have c3 := fun j => cell_row hr j
  have HPF := hid hpf
  have HTG := hid ht
  have HTV := hid hv
  clear hr r3 k3 hk3 rb3 hpf ht hv hq HP
  go_wp2_with fail
  exact bodyPost_ret (v := .tuple #[v, .agg #[.int .i64 0, .int .i64 0, .int .i64 0]]) (by simp [results, Tryz.results14, go_sem, cb]) rfl ⟨.inr ⟨t, HPF.out, HTG.out, by rw [HTV.out]⟩, below3 HB3.out _ _ _⟩
 | some f =>
  obtain ⟨e', o, m, h0, hr⟩ := r3.dead f hq
  have hpf := HRA.out.1 f hq
  have c3 := fun j => cell_row hr j
  have HPF := hid hpf
  have H0 := hid h0
  have hz : ((f.1 : Int) != 0) = true := by simp; exact h0
  clear hr r3 k3 hk3 rb3 hpf hq HP h0
  go_wp2_with fail
  go_region_law (fail)
  all_goals
   go_wp2_with fail
   exact bodyPost_ret (v := .tuple #[.nilIface, spV s.data.toList f]) (by simp [results, Tryz.results14, go_sem, cb, spV]) rfl ⟨.inl ⟨f, HPF.out, H0.out, rfl⟩, below3 HB3.out.drew _ _ _⟩

end Go.Proofs.YtdkboifpdodonacGreatDoor
/-
 The landed program's list: a tree's nodes, each behind its operands.
-/
namespace Go.Proofs.YtdkboifpdodonacGreatDoor
open Go.RowKit Go.Deep PureCnf PureForm PureRd
set_option maxRecDepth 100000

def nd2 (x : Nd) : List Value := [.int .i64 x.1, .int .i64 x.2]
def ndL (l : List Nd) : List Value := l.flatMap nd2
theorem ndL_snoc (l : List Nd) (x : Nd) : ndL (l ++ [x]) = ndL l ++ nd2 x := by simp [ndL]
theorem info54 : (Tryz.prog.info? 44).map (fun i => (i.zero, i.size, i.bytes)) = some (some (.agg #[.int .i64 0, .int .i64 0]), 2, 16) := by kernel_rfl

/-! ### a node -/
abbrev nvV (a b : Int) : Value := .agg #[.int .i64 a, .int .i64 b]
theorem below2 {w W : World} {B b : Nat} (h : Below B w W) (hb : B ≤ b) (v0 v1 : Value) : Below B w ((W.setCell ⟨b, 0, none⟩ v0).setCell ⟨b, 1, none⟩ v1) :=
 (h.setCell (p := ⟨b, 0, none⟩) hb _).setCell (p := ⟨b, 1, none⟩) hb _
set_option maxHeartbeats 400000 in
theorem node_not (k : TypeId) (u : Value) (w : World) : Calls Tryz.prog 152 #[.agg #[.iface k u]] w fun e w' => e = .returned (nvV 3 0) ∧ Below w.heap.size w w' := by
 obtain ⟨WA, hWA⟩ : ∃ WA, WA = (w.alloc (Obj.cells #[.iface k u] 90)).alloc (Obj.cells #[.int .i64 0, .int .i64 0] 44) := ⟨_, rfl⟩
 have hB : Below w.heap.size w WA := by rw [hWA]; exact (below_box _ _).alloc (by simp) _
 have r0 : WA.heap[w.heap.size]? = some (.cells #[.iface k u] 90 (0, 0)) := by rw [hWA]; exact (Below.heap_alloc _ _ _ (by simp)).trans (heap_alloc_new w _)
 have r1 : WA.heap[w.heap.size + 1]? = some (.cells #[.int .i64 0, .int .i64 0] 44 (0, 0)) := by
  have := heap_alloc_new (w.alloc (Obj.cells #[.iface k u] 90)) (Obj.cells #[.int .i64 0, .int .i64 0] 44)
  rw [hWA]; simpa using this
 have c0 := fun j => cell_row r0 j
 have c1 := fun j => cell_row r1 j
 have f1 := fun j => unfrozen_row r1 j
 have HB := hid hB
 have HWA := hid hWA
 clear hWA hB r1 r0
 go_enter Tryz.func152, Tryz.ntmps152
 go_wp2_with (rw [← HWA.out])
 exact bodyPost_ret (v := nvV 3 0) (by simp [results, Tryz.results152, go_sem, c1]) rfl ⟨rfl, below2 HB.out (by omega) _ _⟩
set_option maxHeartbeats 400000 in
theorem node_quant (o n : Int) (k : TypeId) (u : Value) (w : World) : Calls Tryz.prog 153 #[.agg #[.int .i64 o, .int .i64 n, .iface k u]] w fun e w' => e = .returned (nvV o n) ∧ Below w.heap.size w w' := by
 obtain ⟨WA, hWA⟩ : ∃ WA, WA = (w.alloc (Obj.cells #[.int .i64 o, .int .i64 n, .iface k u] 92)).alloc (Obj.cells #[.int .i64 0, .int .i64 0] 44) := ⟨_, rfl⟩
 have hB : Below w.heap.size w WA := by rw [hWA]; exact (below_box _ _).alloc (by simp) _
 have r0 : WA.heap[w.heap.size]? = some (.cells #[.int .i64 o, .int .i64 n, .iface k u] 92 (0, 0)) := by rw [hWA]; exact (Below.heap_alloc _ _ _ (by simp)).trans (heap_alloc_new w _)
 have r1 : WA.heap[w.heap.size + 1]? = some (.cells #[.int .i64 0, .int .i64 0] 44 (0, 0)) := by
  have := heap_alloc_new (w.alloc (Obj.cells #[.int .i64 o, .int .i64 n, .iface k u] 92)) (Obj.cells #[.int .i64 0, .int .i64 0] 44)
  rw [hWA]; simpa using this
 have c0 := fun j => cell_row r0 j
 have c1 := fun j => cell_row r1 j
 have f1 := fun j => unfrozen_row r1 j
 have HB := hid hB
 have HWA := hid hWA
 clear hWA hB r1 r0
 go_enter Tryz.func153, Tryz.ntmps153
 go_wp2_with (rw [← HWA.out])
 exact bodyPost_ret (v := nvV o n) (by simp [results, Tryz.results153, go_sem, c1]) rfl ⟨rfl, below2 HB.out (by omega) _ _⟩
set_option maxHeartbeats 400000 in
theorem node_two (o : Int) (k k2 : TypeId) (u u2 : Value) (w : World) : Calls Tryz.prog 154 #[.agg #[.int .i64 o, .iface k u, .iface k2 u2]] w fun e w' => e = .returned (nvV o 0) ∧ Below w.heap.size w w' := by
 obtain ⟨WA, hWA⟩ : ∃ WA, WA = (w.alloc (Obj.cells #[.int .i64 o, .iface k u, .iface k2 u2] 94)).alloc (Obj.cells #[.int .i64 0, .int .i64 0] 44) := ⟨_, rfl⟩
 have hB : Below w.heap.size w WA := by rw [hWA]; exact (below_box _ _).alloc (by simp) _
 have r0 : WA.heap[w.heap.size]? = some (.cells #[.int .i64 o, .iface k u, .iface k2 u2] 94 (0, 0)) := by rw [hWA]; exact (Below.heap_alloc _ _ _ (by simp)).trans (heap_alloc_new w _)
 have r1 : WA.heap[w.heap.size + 1]? = some (.cells #[.int .i64 0, .int .i64 0] 44 (0, 0)) := by
  have := heap_alloc_new (w.alloc (Obj.cells #[.int .i64 o, .iface k u, .iface k2 u2] 94)) (Obj.cells #[.int .i64 0, .int .i64 0] 44)
  rw [hWA]; simpa using this
 have c0 := fun j => cell_row r0 j
 have c1 := fun j => cell_row r1 j
 have f1 := fun j => unfrozen_row r1 j
 have HB := hid hB
 have HWA := hid hWA
 clear hWA hB r1 r0
 go_enter Tryz.func154, Tryz.ntmps154
 go_wp2_with (rw [← HWA.out])
 exact bodyPost_ret (v := nvV o 0) (by simp [results, Tryz.results154, go_sem, c1]) rfl ⟨rfl, below2 HB.out (by omega) _ _⟩
set_option maxHeartbeats 400000 in
theorem node_ite (k k2 k3 : TypeId) (u u2 u3 : Value) (w : World) : Calls Tryz.prog 155 #[.agg #[.iface k u, .iface k2 u2, .iface k3 u3]] w fun e w' => e = .returned (nvV 11 0) ∧ Below w.heap.size w w' := by
 obtain ⟨WA, hWA⟩ : ∃ WA, WA = (w.alloc (Obj.cells #[.iface k u, .iface k2 u2, .iface k3 u3] 96)).alloc (Obj.cells #[.int .i64 0, .int .i64 0] 44) := ⟨_, rfl⟩
 have hB : Below w.heap.size w WA := by rw [hWA]; exact (below_box _ _).alloc (by simp) _
 have r0 : WA.heap[w.heap.size]? = some (.cells #[.iface k u, .iface k2 u2, .iface k3 u3] 96 (0, 0)) := by rw [hWA]; exact (Below.heap_alloc _ _ _ (by simp)).trans (heap_alloc_new w _)
 have r1 : WA.heap[w.heap.size + 1]? = some (.cells #[.int .i64 0, .int .i64 0] 44 (0, 0)) := by
  have := heap_alloc_new (w.alloc (Obj.cells #[.iface k u, .iface k2 u2, .iface k3 u3] 96)) (Obj.cells #[.int .i64 0, .int .i64 0] 44)
  rw [hWA]; simpa using this
 have c0 := fun j => cell_row r0 j
 have c1 := fun j => cell_row r1 j
 have f1 := fun j => unfrozen_row r1 j
 have HB := hid hB
 have HWA := hid hWA
 clear hWA hB r1 r0
 go_enter Tryz.func155, Tryz.ntmps155
 go_wp2_with (rw [← HWA.out])
 exact bodyPost_ret (v := nvV 11 0) (by simp [results, Tryz.results155, go_sem, c1]) rfl ⟨rfl, below2 HB.out (by omega) _ _⟩
set_option maxHeartbeats 400000 in
theorem node_const (n : Int) (w : World) : Calls Tryz.prog 157 #[.agg #[.int .i64 n]] w fun e w' => e = .returned (nvV 1 n) ∧ Below w.heap.size w w' := by
 obtain ⟨WA, hWA⟩ : ∃ WA, WA = (w.alloc (Obj.cells #[.int .i64 n] 139)).alloc (Obj.cells #[.int .i64 0, .int .i64 0] 44) := ⟨_, rfl⟩
 have hB : Below w.heap.size w WA := by rw [hWA]; exact (below_box _ _).alloc (by simp) _
 have r0 : WA.heap[w.heap.size]? = some (.cells #[.int .i64 n] 139 (0, 0)) := by rw [hWA]; exact (Below.heap_alloc _ _ _ (by simp)).trans (heap_alloc_new w _)
 have r1 : WA.heap[w.heap.size + 1]? = some (.cells #[.int .i64 0, .int .i64 0] 44 (0, 0)) := by
  have := heap_alloc_new (w.alloc (Obj.cells #[.int .i64 n] 139)) (Obj.cells #[.int .i64 0, .int .i64 0] 44)
  rw [hWA]; simpa using this
 have c0 := fun j => cell_row r0 j
 have c1 := fun j => cell_row r1 j
 have f1 := fun j => unfrozen_row r1 j
 have HB := hid hB
 have HWA := hid hWA
 clear hWA hB r1 r0
 go_enter Tryz.func157, Tryz.ntmps157
 go_wp2_with (rw [← HWA.out])
 exact bodyPost_ret (v := nvV 1 n) (by simp [results, Tryz.results157, go_sem, c1]) rfl ⟨rfl, below2 HB.out (by omega) _ _⟩
set_option maxHeartbeats 400000 in
theorem node_var (n : Int) (w : World) : Calls Tryz.prog 158 #[.agg #[.int .i64 n]] w fun e w' => e = .returned (nvV 2 n) ∧ Below w.heap.size w w' := by
 obtain ⟨WA, hWA⟩ : ∃ WA, WA = (w.alloc (Obj.cells #[.int .i64 n] 141)).alloc (Obj.cells #[.int .i64 0, .int .i64 0] 44) := ⟨_, rfl⟩
 have hB : Below w.heap.size w WA := by rw [hWA]; exact (below_box _ _).alloc (by simp) _
 have r0 : WA.heap[w.heap.size]? = some (.cells #[.int .i64 n] 141 (0, 0)) := by rw [hWA]; exact (Below.heap_alloc _ _ _ (by simp)).trans (heap_alloc_new w _)
 have r1 : WA.heap[w.heap.size + 1]? = some (.cells #[.int .i64 0, .int .i64 0] 44 (0, 0)) := by
  have := heap_alloc_new (w.alloc (Obj.cells #[.int .i64 n] 141)) (Obj.cells #[.int .i64 0, .int .i64 0] 44)
  rw [hWA]; simpa using this
 have c0 := fun j => cell_row r0 j
 have c1 := fun j => cell_row r1 j
 have f1 := fun j => unfrozen_row r1 j
 have HB := hid hB
 have HWA := hid hWA
 clear hWA hB r1 r0
 go_enter Tryz.func158, Tryz.ntmps158
 go_wp2_with (rw [← HWA.out])
 exact bodyPost_ret (v := nvV 2 n) (by simp [results, Tryz.results158, go_sem, c1]) rfl ⟨rfl, below2 HB.out (by omega) _ _⟩

/-! ### a list that grows -/
/-- only the list's own row has turned, and the list lies where it lay or in new memory. -/
structure LG (W w' : World) (v v' : Value) : Prop where
 grown : W.grownBy w' v.ownBlock
 own : v'.ownBlock = v.ownBlock ∨ ∃ g, v'.ownBlock = some g ∧ W.heap.size ≤ g
theorem grown_below {W w' : World} {r : Option Nat} (h : Below W.heap.size W w') : W.grownBy w' r := ⟨h.os, h.tape, h.output, h.size, fun k hk _ => h.block k hk⟩
theorem grown_trans {a b c : World} {r : Option Nat} {r2 : Option Nat} (h : a.grownBy b r) (g : b.grownBy c r2) (hr : r2 = r ∨ ∃ k, r2 = some k ∧ a.heap.size ≤ k) : a.grownBy c r :=
 ⟨g.os.trans h.os, g.tape.trans h.tape, g.output.trans h.output, Nat.le_trans h.size g.size, fun k hk hne => (g.block k (Nat.lt_of_lt_of_le hk h.size) (by
  rcases hr with hr | ⟨j, hr, hj⟩
  ·rw [hr]; exact hne
  ·rw [hr]; intro e; injection e with e; omega)).trans (h.block k hk hne)⟩
theorem LG.trans {a b c : World} {v v1 v2 : Value} (h : LG a b v v1) (g : LG b c v1 v2) : LG a c v v2 := by
 refine ⟨grown_trans h.grown g.grown h.own, ?_⟩
 rcases g.own with e | ⟨k, e, hk⟩
 ·rcases h.own with e2 | ⟨k, e2, hk⟩
  ·exact .inl (e.trans e2)
  ·exact .inr ⟨k, e.trans e2, hk⟩
 ·exact .inr ⟨k, e, Nat.le_trans h.grown.size hk⟩
theorem LG.front {a b c : World} {v v1 : Value} (h : Below a.heap.size a b) (g : LG b c v v1) : LG a c v v1 :=
 ⟨grown_trans (grown_below h) g.grown (.inl rfl), g.own.imp id (fun ⟨k, e, hk⟩ => ⟨k, e, Nat.le_trans h.size hk⟩)⟩

theorem run_append_nd (w : World) (base : Nat) (ty : TypeId) (v : Value) (l : List Nd) (hown : w.ownsRow base 44 2 v l.length (ndL l)) (ad : Nat) (x : Nd) (hy : w.heap[ad]? = some (.cells #[.int .i64 x.1, .int .i64 x.2] 44 (0, 0))) (hn : l.length ≤ 1099511627776) (hbase : base ≤ w.heap.size) :
  ∃ v' w', (Builtin.append_ #[23, 23] ty #[v, .slice (some ⟨ad, 0, none⟩) 1 1]).run Tryz.prog w = .ok v' w' ∧ w'.ownsRow base 44 2 v' (l ++ [x]).length (ndL (l ++ [x])) ∧ w.grownBy w' v.ownBlock ∧ (v'.ownBlock = v.ownBlock ∨ v'.ownBlock = some w.heap.size) := by
 obtain ⟨i, hi, hz0, hz1, hz2⟩ := info_parts info54
 have hnews : ∀ j y, (nd2 x)[j]? = some y → w.cell? ((⟨ad, 0, none⟩ : Addr).add j) = some y := by
  intro j y hj
  rw [add_zero_addr, cell_row hy]
  simpa [nd2] using hj
 have h1' : ∀ y ∈ nd2 x, y.oneCell' = true := by intro y hj; simp [nd2] at hj; rcases hj with rfl | rfl <;> rfl
 obtain ⟨v', w', hr, ho, hg, hnil⟩ := run_append_own (P := Tryz.prog) w base 23 ty 44 i _ 2 16 Tryz.underlying23 hi hz0 hz1 hz2 rfl (by decide) v l.length (ndL l) hown ⟨ad, 0, none⟩ 1 1 (nd2 x) rfl hnews h1' (by unfold maxLen; omega) (by omega) hbase
 refine ⟨v', w', hr, ?_, hg, ?_⟩
 ·rw [ndL_snoc, List.length_append]
  exact ho
 ·rcases hown.2 with ⟨rfl, h0⟩ | ⟨g, cap, cur, rfl, hbg, hgg, hnc, hcm, hcs, htake⟩
  ·have hx : l = [] := List.eq_nil_of_length_eq_zero h0
   subst hx
   have hr' := run_append_nil (P := Tryz.prog) w 23 ty 44 i _ Tryz.underlying23 hi hz0 ⟨ad, 0, none⟩ 1 1 (nd2 x) (by rw [hz1]; rfl) hnews (by omega) (by omega) (by rw [hz2]; omega)
   have e : (Builtin.append_ #[23, 23] ty #[.slice none 0 0, .slice (some ⟨ad, 0, none⟩) 1 1]).run Tryz.prog w = .ok v' w' := hr
   rw [e] at hr'
   simp only [Result.ok.injEq] at hr'
   right
   rw [hr'.1]
   rfl
  ·by_cases hroom : l.length + 1 ≤ cap
   ·have hr' := run_append_room (P := Tryz.prog) w 23 ty 44 i Tryz.underlying23 hi g l.length cap cur hgg ⟨ad, 0, none⟩ 1 1 (nd2 x) (by rw [hz1]; rfl) hnews h1' hroom (by rw [hz1, hcs]; simp [nd2]; omega)
    rw [hr] at hr'
    simp only [Result.ok.injEq] at hr'
    left
    rw [hr'.1]
    rfl
   ·have hr' := run_append_grow (P := Tryz.prog) w 23 ty 44 i _ Tryz.underlying23 hi hz0 ⟨g, 0, none⟩ l.length cap (ndL l) (by rw [hz1]; exact hown.1) (hown.cells (g := g) rfl) ⟨ad, 0, none⟩ 1 1 (nd2 x) (by rw [hz1]; rfl) hnews (by omega) (by omega) (by rw [hz2]; exact growslice_fits (by omega) (by omega))
    rw [hr] at hr'
    simp only [Result.ok.injEq] at hr'
    right
    rw [hr'.1]
    rfl
/-- append of one node, in a region of the text's order. -/
theorem app_node {ops : Array Oper} {rest : List Oper} {o : Oper} {a : Act} {Q : Exit → Act → World → Prop} {w : World} (hgd : o.guard = none) (sl x : Operand)
  (ho : o.op = .call { callee := .builtin .append, args := #[sl, x], argTypes := #[23, 23] }) (B : Nat) (v : Value) (L : List Nd) (y : Nd) (ad : Nat) (hs : a.eval sl = v) (hown : w.ownsRow B 44 2 v L.length (ndL L)) (hx : a.eval x = .slice (some ⟨ad, 0, none⟩) 1 1)
  (hy : w.heap[ad]? = some (.cells #[.int .i64 y.1, .int .i64 y.2] 44 (0, 0))) (hn : L.length ≤ 1099511627776) (hB : B ≤ w.heap.size)
  (h : ∀ v' w', w'.ownsRow B 44 2 v' (L ++ [y]).length (ndL (L ++ [y])) → LG w w' v v' → wpList Tryz.prog ops Q rest (a.put o.dst v') w') : wpList Tryz.prog ops Q (o :: rest) a w := by
 refine wpList_plain hgd fun K' hK' => ?_
 obtain ⟨v', w', hr, h1, h2, h3⟩ := run_append_nd w B o.type v L hown ad y hy hn hB
 unfold Oper.wp
 simp [execOp, ho, resolve, invoke, builtin, hs, hx, hr, Result.andThen]
 exact hK' _ _ (h v' w' h1 ⟨h2, h3.imp id (fun e => ⟨_, e, Nat.le_refl _⟩)⟩)

/-! ### the tree's nodes -/
/-- what list does of a tree. -/
def ListC (t : Tr) : Prop := ∀ (W : World) (B : Nat) (v : Value) (L : List Nd), W.ownsRow B 44 2 v L.length (ndL L) → B ≤ W.heap.size → L.length + t.post.length ≤ 1099511627776 →
 Calls Tryz.prog 15 #[v, tv t] W fun e w' => ∃ v', e = .returned v' ∧ w'.ownsRow B 44 2 v' (L ++ t.post).length (ndL (L ++ t.post)) ∧ LG W w' v v'

end Go.Proofs.YtdkboifpdodonacGreatDoor
