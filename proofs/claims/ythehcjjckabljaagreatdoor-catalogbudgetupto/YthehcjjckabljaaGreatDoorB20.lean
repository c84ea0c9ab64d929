import Derived.MapFrom
import Derived.Deep.LoopGhost
import Derived.Test.YthehcjjckabljaaGreatDoorB19
namespace Go.Proofs.YthehcjjckabljaaGreatDoor
open Go.RowKit Go.Deep
set_option maxRecDepth 100000
set_option linter.unusedSimpArgs false
set_option linter.unusedVariables false
attribute [local go_sem] Oper.semAt_some
section
variable {w X : World} {b : Bn} {n : Nat} {A : PubA} {x : ByteArray} {s : Pu.St} {F F' : List Nat} {kb wb g K : Nat} {t : Tbl} {gen : Nat} {so sr : Option Addr} {co cr : Nat} {wbx ebx b1 b2 L D : Nat} {rec : Loop} {j : Nat}
theorem WrJ.setE (I : WrJ w X b n A x s F kb wb g K t gen so sr co cr wbx ebx b1 b2 L D rec F' j) (hL : w.heap.size ≤ ebx) (hlo : b.lo ≤ ebx) (hne : ebx ∉ [wbx, b1, b2, L, D]) : WrJ w (X.setCell ⟨ebx, 0, none⟩ (.int .i64 0)) b n A x s F kb wb g K t gen so sr co cr wbx ebx b1 b2 L D rec F' j := by
 have q : Tc [ebx] X (X.setCell ⟨ebx, 0, none⟩ (.int .i64 0)) := (Tc.refl [ebx] X).setCell (by simp) _
 have ap := I.apart ebx (by simp)
 have h : ∀ y ∈ [wbx, b1, b2, L, D], y ∉ [ebx] := fun y hy hx => by simp at hx; subst hx; exact hne hy
 refine ⟨I.lay.touch q (fun y hy => by simp at hy; subst hy; exact ⟨ap.1, hlo, ap.2.1, ap.2.2, hL⟩), (q.block _ (ltB I.wv) (h _ (by simp))).trans I.wv, (sRw I.ev 0 _).trans (by simp), (q.block _ (ltB I.r1) (h _ (by simp))).trans I.r1, (q.block _ (ltB I.r2) (h _ (by simp))).trans I.r2, I.tbl.touch2 q (fun a ha hne hx => ?_) (fun a ha hne hx => ?_), (q.block _ (ltB I.l) (h _ (by simp))).trans I.l, (q.block _ (ltB I.d) (h _ (by simp))).trans I.d, I.apart, I.ho, I.hr⟩
 ·simp at hx; have := (I.ho a ha hne).2; omega
 ·simp at hx; have := (I.hr a ha hne).2; omega
end
section
variable {w : World} {b : Bn} {n : Nat} {A : PubA} {s : Pu.St} {F : List Nat} {kb K : Nat} {T : Int} {t : Tbl} {gen : Nat} {so sr : Option Addr} {co cr : Nat}
set_option maxHeartbeats 8000000 in
theorem write_ok (S : Std w b n A s F) (C : LayOk b A (bs (catN gen)) 5 K (recsN t gen)) (hn : n < 549755813888) (hk : DkA w kb b (K : Int) T) (hkF : kb ∉ F) (hT : Tabs w) (ht : TblAt w t so sr) (ho : ∀ a, so = some a → t.order ≠ [] → a.block ∉ F ∧ a.block < w.heap.size) (hr : ∀ a, sr = some a → t.rows ≠ [] → a.block ∉ F ∧ a.block < w.heap.size) (hl : Pu.leaveE s (K : Int) = 0) (hg : gen < 18446744073709551616) :
  Calls Tryz.prog 49 #[ptr kb, tblV t so sr co cr, .int .u64 (gen : Int)] w fun e w' => e = .returned (.int .i64 0) ∧
   Went w w' b (n + (recsN t gen).length + 3) (mkX A (bs (catN gen)) true (bkO 5 K A.B (recsN t gen) (nBk K (recsN t gen).length)) (2 + (nBk K (recsN t gen).length : Nat))) ((s.take (K : Int)).give (K : Int)) F [] := by
 have hroom := S.room
 have hFlt := S.lt
 have hklt := ltB hk
 have hKK := C.hK
 have HS := hid S
 have HC := hid C
 have HK := hid hk
 have HTB := hid hT
 have HTT := hid ht
 have HOO := hid (And.intro ho hr)
 have HNM := hid (fun W (tt : Tc [] w W) => Nm.name_any gen hg W (hT.quiet tt).tz)
 have HW : Hid (∀ W, Tc [] w W → Calls Tryz.prog 99 #[ptr kb, .string (bs (catN gen)), .int .i64 5] W fun e w' => ∃ wb g, e = .returned (.tuple #[ptr wb, .int .i64 0]) ∧ WentN W w' b (n + 1) (mkX A (bs (catN gen)) false [] 1) (s.take K) F [] [wb, g] ∧ wb ≠ g ∧ WrAt w' wb kb (bs (catN gen)) 5 [] 0 0 0 g K) := fun W tt => by
  have h := Write_ok (S.quiet tt) (by omega) (hk.touch tt (by simp)) hkF hKK (bs (catN gen)) 5 (hold_new C.new (by omega) hl) (by rw [tr_nil C.nil, create_x C.new])
  rw [tr_nil C.nil, create_x C.new] at h
  exact h
 clear S C hk hT ht ho hr
 refine (callsIn_wide (n := 5)).1 ?_
 refine callsIn_of_wp_marks Tryz.func49 rfl trivial (wpIn_wide.2 ?_)
 simp only [Tryz.ntmps49, List.size_toArray, List.length_cons, List.length_nil, Nat.reduceAdd, Nat.reduceSub, Array.replicate_succ, Array.replicate_zero, List.push_toArray, List.append_toArray, List.nil_append, List.cons_append]
 have hnq := nilq
 simp only [tblV] at *
 have HTa := hid ((Tc.refl [] w).alloc (.cells #[.int .i64 t.vars, .slice so t.order.length co, .slice sr t.rows.length cr, .int .i64 t.next, .int .u64 (t.nf : Int)] 26))
 have HRa := hid (heap_alloc_new w (.cells #[.int .i64 t.vars, .slice so t.order.length co, .slice sr t.rows.length cr, .int .i64 t.next, .int .u64 (t.nf : Int)] 26))
 go_upto_region 4 with (first
  |(go_at_call 99; refine (HW.out _ (HTa.out.trans HT1.out (by simp))).mono ?_; rintro e w2 ⟨wb, g, rfl, hw, hwg, hwr⟩; have HG := hid hw; have HWR := hid hwr; clear hw hwr)
  |(go_at_call 22; refine (HNM.out _ HTa.out).mono ?_; rintro e w1 ⟨rfl, hb1⟩; have HT1 := hid (Tc.of_below (F := []) hb1 (Nat.le_refl _)); clear hb1))
 obtain ⟨F1, S1, t1, f1, hN⟩ := HG.out
 obtain ⟨nw1, nw2, nw3⟩ := hN wb (by simp)
 obtain ⟨ng1, ng2, ng3⟩ := hN g (by simp)
 have hs1 := HT1.out.size
 have hs2 := t1.size
 obtain ⟨Wb, hWb⟩ : ∃ Wb, Wb = (w2.alloc (.cells #[ptr wb] 169)).alloc (.cells #[.int .i64 0] 46) := ⟨_, rfl⟩
 have tb : Tc [] w2 Wb := by rw [hWb]; exact ((Tc.refl [] w2).alloc _).alloc _
 have hsb : Wb.heap.size = w2.heap.size + 2 := by rw [hWb]; simp
 have hwv : Wb.heap[w2.heap.size]? = some (.cells #[ptr wb] 169 (0, 0)) := by rw [hWb]; exact (Below.heap_alloc _ _ _ (by simp)).trans (heap_alloc_new w2 _)
 have hev : Wb.heap[w2.heap.size + 1]? = some (.cells #[.int .i64 0] 46 (0, 0)) := by rw [hWb]; have := heap_alloc_new (w2.alloc (.cells #[ptr wb] 169)) (.cells #[.int .i64 0] 46); simpa using this
 rw [← hWb]
 clear hWb
 have hr0 := HRa.out
 have hl0 := ltB hr0
 have hr1 := (HT1.out.block _ hl0 (by simp)).trans hr0
 have hnF : w.heap.size ∉ F := fun h => by have := hFlt _ h; omega
 have hr2 := (t1.block _ (ltB hr1) (by simpa using hnF)).trans hr1
 have hrb := (tb.block _ (ltB hr2) (by simp)).trans hr2
 have hsa : (w.alloc (.cells #[.int .i64 t.vars, .slice so t.order.length co, .slice sr t.rows.length cr, .int .i64 t.next, .int .u64 (t.nf : Int)] 26)).heap.size = w.heap.size + 1 := by simp
 have crow := fun i => cRw hrb i
 have HRC := hid (records_any (w := Wb) t so sr co cr gen)
 have twb : Tc F w Wb := ((HTa.out.trans HT1.out (by simp)).mono (by simp)).trans (t1.trans tb (by simp)) (fun y hy => .inl (by simpa using hy))
 have HTWB := hid twb
 have HX := hid (And.intro S1 (And.intro f1 (And.intro nw1 ng1)))
 have HV := hid (And.intro hwv (And.intro hev hrb))
 have HTb := hid tb
 clear HRa HW HNM hr0 hl0 hr1 hr2 S1 f1 nw1 ng1 hwv hev hrb twb hN t1 tb HG
 simp only [tblV] at HRC
 go_wp2_with (go_at_call 100; refine HRC.out.mono ?_; rintro e w3 ⟨rfl, hw3⟩)
 obtain ⟨wbx, hwbx⟩ : ∃ y, y = w2.heap.size := ⟨_, rfl⟩
 obtain ⟨ebx, hebx⟩ : ∃ y, y = w2.heap.size + 1 := ⟨_, rfl⟩
 obtain ⟨b1, hb1⟩ : ∃ y, y = Wb.heap.size := ⟨_, rfl⟩
 obtain ⟨b2, hb2⟩ : ∃ y, y = Wb.heap.size + 1 := ⟨_, rfl⟩
 have hb1' : b1 = w2.heap.size + 2 := by omega
 have hb2' : b2 = w2.heap.size + 2 + 1 := by omega
 have h3s : w3.heap.size = Wb.heap.size + 2 := by rw [hw3]; simp
 have h31 : w3.heap[b1]? = some (.cells (tblC t so sr co cr) 26 (0, 0)) := by rw [hw3, hb1]; exact (Below.heap_alloc _ _ _ (by simp)).trans (heap_alloc_new Wb _)
 have h32 : w3.heap[b2]? = some (.cells #[.int .u64 (gen : Int)] 24 (0, 0)) := by rw [hw3, hb2]; have := heap_alloc_new (Wb.alloc (.cells (tblC t so sr co cr) 26)) (.cells #[.int .u64 (gen : Int)] 24); simpa using this
 have t3 : Tc [] Wb w3 := by rw [hw3]; exact ((Tc.refl [] Wb).alloc _).alloc _
 have T3 := hid t3
 have H3 := hid (And.intro h31 h32)
 rw [← hb2', ← hb1', ← hebx, ← hwbx, ← hw3]
 clear hb1' hb2'
 clear hw3 h31 h32 t3 crow HRC
 refine wp_range (m := 5) (gf := 147) (lb := #[ptr b1, ptr b2]) rfl (enters_of Tryz.func147 (by kernel_rfl) rfl) ?_
 intro q W1 hqt hqp hqa hqb hL hD tq hsz
 obtain ⟨L, hLe⟩ : ∃ L, L = w3.heap.size + 1 := ⟨_, rfl⟩
 obtain ⟨D, hDe⟩ : ∃ D, D = w3.heap.size := ⟨_, rfl⟩
 rw [← hLe] at hL ⊢
 rw [← hDe] at hD ⊢
 obtain ⟨S1, f1, nw1, ng1⟩ := HX.out
 obtain ⟨hwv, hev, hrb⟩ := HV.out
 obtain ⟨h31, h32⟩ := H3.out
 have q1 : Tc [] Wb W1 := T3.out.trans tq (by simp)
 have hFs1 := S1.lt
 have hboxes : ∀ y ∈ [wbx, ebx, b1, b2, L, D], w2.heap.size ≤ y := by
  intro y hy
  simp only [List.mem_cons, List.not_mem_nil, or_false] at hy
  omega
 have hwlt : wb < w2.heap.size := nw3
 have hglt : g < w2.heap.size := ng3
 have HJ0 : Hid (WrJ w W1 b n A (bs (catN gen)) s F kb wb g K t gen so sr co cr wbx ebx b1 b2 L D (q.at .ready none) F1 0) := by
  have hwr := HWR.out
  have hwv1 : W1.heap[wbx]? = some (.cells #[ptr wb] 169 (0, 0)) := by rw [hwbx]; exact (q1.block _ (ltB hwv) (by simp)).trans hwv
  have hev1 : W1.heap[ebx]? = some (.cells #[.int .i64 0] 46 (0, 0)) := by rw [hebx]; exact (q1.block _ (ltB hev) (by simp)).trans hev
  have q2 : Tc [] w2 W1 := by
   have := HTb.out
   exact this.trans q1 (by simp)
  refine ⟨⟨?_, HTWB.out.trans q1 (by simp), fun y hy => ?_, nw1, ng1, ?_, ?_⟩, hwv1, hev1, (tq.block _ (ltB h31) (by simp)).trans h31, (tq.block _ (ltB h32) (by simp)).trans h32, ?_, hL, hD, fun y hy => ?_, fun a ha hne => ⟨fun hx => ?_, (HOO.out.1 a ha hne).2⟩, fun a ha hne => ⟨fun hx => ?_, (HOO.out.2 a ha hne).2⟩⟩
  ·have := S1.quiet q2
   simpa [bkO] using this
  ·rcases f1 y hy with h | h
   ·exact .inl h
   ·exact .inr (by omega)
  ·have := hwr.row
   simpa [wrow] using (q2.block _ (ltB this) (by simp)).trans this
  ·obtain ⟨rest, h1, h2⟩ := hwr.list
   exact ⟨rest, by simpa [flatR] using (q2.block _ (ltB h1) (by simp)).trans h1, by simpa using h2⟩
  ·exact HTT.out.touch2 (HTWB.out.trans q1 (by simp)) (fun a ha hne => (HOO.out.1 a ha hne).1) (fun a ha hne => (HOO.out.2 a ha hne).1)
  ·have h := hboxes y hy
   exact ⟨fun hx => by have := hFs1 y hx; omega, by omega, by omega⟩
  ·rcases f1 _ hx with h | h
   ·exact (HOO.out.1 a ha hne).1 h
   ·have := (HOO.out.1 a ha hne).2; omega
  ·rcases f1 _ hx with h | h
   ·exact (HOO.out.2 a ha hne).1 h
   ·have := (HOO.out.2 a ha hne).2; omega
 have hwg' : w.heap.size ≤ wb ∧ w.heap.size ≤ g := by omega
 have hLw : w.heap.size ≤ L ∧ b.lo ≤ L := by omega
 have hLn : L ∉ [wbx, ebx, b1, b2, D] := by
  simp only [List.mem_cons, List.not_mem_nil, or_false]
  omega
 have hdis : ebx ≠ L ∧ ebx ≠ wbx ∧ ebx ≠ b1 ∧ ebx ≠ b2 ∧ ebx ≠ D ∧ D ≠ L := by omega
 have hbx : w.heap.size ≤ ebx ∧ b.lo ≤ ebx := by omega
 have HBX := hid hboxes
 have hDw : w.heap.size ≤ D ∧ b.lo ≤ D := by omega
 have HPUT : Hid (∀ X F' j, WrJ w X b n A (bs (catN gen)) s F kb wb g K t gen so sr co cr wbx ebx b1 b2 L D (q.at .busy none) F' j → (hj : j < (recsN t gen).length) → Calls Tryz.prog 101 #[ptr wb, Rc.val (recsN t gen)[j]] X fun e X' => e = .returned (.int .i64 0) ∧ ∃ F2, WrJ w X' b n A (bs (catN gen)) s F kb wb g K t gen so sr co cr wbx ebx b1 b2 L D (q.at .busy none) F2 (j + 1)) :=
  fun X F' j I hj => I.put HC.out hn HK.out hkF hj hwg'.1 hwg'.2 hwg hroom
 have HCLO : Hid (∀ X F' rec, WrJ w X b n A (bs (catN gen)) s F kb wb g K t gen so sr co cr wbx ebx b1 b2 L D rec F' (recsN t gen).length → Calls Tryz.prog 102 #[ptr wb] X fun e X' => e = .returned (.int .i64 0) ∧ Went X X' b (n + (recsN t gen).length + 3) (mkX A (bs (catN gen)) true (bkO 5 K A.B (recsN t gen) (nBk K (recsN t gen).length)) (2 + (nBk K (recsN t gen).length : Nat))) ((s.take (K : Int)).give (K : Int)) F' [wb]) :=
  fun X F' rec I => lay_closeX I.lay HC.out hn HK.out hkF hwg'.1 hwg'.2 hwg hroom
 have hEn : ebx ∉ [wbx, b1, b2, L, D] := by
  simp only [List.mem_cons, List.not_mem_nil, or_false]
  omega
 have HKE : Hid (∀ X F' rec X', WrJ w X b n A (bs (catN gen)) s F kb wb g K t gen so sr co cr wbx ebx b1 b2 L D rec F' (recsN t gen).length → ∀ {n' A' s'}, Went X X' b n' A' s' F' [wb] → X'.heap[ebx]? = some (.cells #[.int .i64 0] 46 (0, 0)) ∧ X'.heap[D]? = some (.deferred (some [])) ∧ ∃ F2, Std X' b n' A' s' F2 ∧ Tc F w X' ∧ (∀ y ∈ F2, y ∈ F ∨ w.heap.size ≤ y) ∧ ebx ∉ F2 ∧ D ∉ F2) := fun X F' rec X' I n' A' s' h => by
  obtain ⟨F2, S2, t2, f2⟩ := h
  have a1 := I.apart ebx (by simp)
  have a2 := I.apart D (by simp)
  have l1 := ltB I.ev
  have l2 := ltB I.d
  have nf : ∀ y, y ∉ F' → y < X.heap.size → y ∉ F2 := fun y h1 h2 hx => by
   rcases f2 y hx with h | h
   ·exact h1 h
   ·omega
  refine ⟨(t2.block _ l1 (by simp; exact ⟨a1.2.1, a1.1⟩)).trans I.ev, (t2.block _ l2 (by simp; exact ⟨a2.2.1, a2.1⟩)).trans I.d, F2, S2, I.lay.t.trans t2 (fun y hy => ?_), fun y hy => ?_, nf _ a1.1 l1, nf _ a2.1 l2⟩
  ·simp at hy
   rcases hy with rfl | hy
   ·exact .inr hwg'.1
   ·exact I.lay.f y hy
  ·rcases f2 y hy with h | h
   ·exact I.lay.f y h
   ·exact .inr (Nat.le_trans I.lay.t.size h)
 clear hLe hDe hsz hb1 hb2 hebx hwbx h3s hs1 hs2 hsb hsa hnF S1 f1 nw1 nw2 nw3 ng1 ng2 ng3 hwv hev hrb h31 h32 hFs1 hboxes hwlt hglt HWR HX HV H3 T3 HTb HTWB HT1 HTT hL hD tq q1 hFlt hklt
 refine (recs1_any (J := fun j X => ∃ F', WrJ w X b n A (bs (catN gen)) s F kb wb g K t gen so sr co cr wbx ebx b1 b2 L D (q.at .ready none) F' j) (St := fun _ => False) (t := t) (so := so) (sr := sr) (co := co) (cr := cr) (gen := gen) (fun j X ⟨F', I⟩ => ⟨I.r1, I.r2, I.tbl⟩) (fun j X X' ⟨F', I⟩ tt => ⟨F', I.quiet tt⟩) ⟨F1, HJ0.out⟩ ?_).mono ?_
 ·rintro m' j hj X ⟨F', I⟩
  have HI := hid I
  have HQB := hid hqb
  clear hqb HJ0
  refine yield_round I.l (by rw [hqp]; rfl) ?_
  rw [hqa, hqp, hqt]
  clear hqa hqp hqt I
  gi_wp2
  obtain ⟨X2, hX2⟩ : ∃ X2, X2 = X.alloc (.cells #[.int .u64 ((recsN t gen)[j].1 : Int), .int .u64 ((recsN t gen)[j].2.1 : Int), .int .u64 ((recsN t gen)[j].2.2.1 : Int), .int .u64 ((recsN t gen)[j].2.2.2 : Int)] 176) := ⟨_, rfl⟩
  have hr2 : X2.heap[X.heap.size]? = some (.cells #[.int .u64 ((recsN t gen)[j].1 : Int), .int .u64 ((recsN t gen)[j].2.1 : Int), .int .u64 ((recsN t gen)[j].2.2.1 : Int), .int .u64 ((recsN t gen)[j].2.2.2 : Int)] 176) := by rw [hX2]; exact heap_alloc_new X _
  have t2 : Tc [] X X2 := by rw [hX2]; exact (Tc.refl [] X).alloc _
  rw [← hX2]
  have hob := ltB HI.out.l
  have hnL : X.heap.size ≠ L := by omega
  have I2 := HI.out.quiet t2
  generalize X.heap.size = ob at *
  refine ⟨I2.l, ?_⟩
  obtain ⟨X3, hX3⟩ : ∃ X3, X3 = X2.putObj L (.loop (q.at .busy none)) := ⟨_, rfl⟩
  have I3 := I2.loop (rec' := q.at .busy none) hLw.1 hLw.2 hLn
  have hr30 : X3.heap[ob]? = X2.heap[ob]? := by rw [hX3]; exact World.putObj_heap_other hnL
  have hr3 := hr30.trans hr2
  clear hr30
  rw [← hX3] at I3 ⊢
  rw [HQB.out]
  have HP := hid (HPUT.out X3 F' j I3 hj)
  have q0 := cRw hr3 0
  have q1 := cRw hr3 1
  have q2 := cRw hr3 2
  have q3 := cRw hr3 3
  have qw := cRw I3.wv 0
  simp only [List.getElem?_toArray, List.getElem?_cons_zero, List.getElem?_cons_succ] at q0 q1 q2 q3 qw
  clear hX2 hX3 hr2 hr3 t2 I2 I3 hob hnL HPUT HCLO
  gi_wp2
  refine ⟨trivial, fun h => (by cases h), (CallsIn.inRound L (callsIn_wide.2 HP.out)).mono ?_⟩
  rintro e W4 ⟨rfl, F4, hI4⟩
  have HI4 := hid hI4
  clear hI4
  have qe := cRw HI4.out.ev 0
  have ue := uRw HI4.out.ev 0
  simp only [List.getElem?_toArray, List.getElem?_cons_zero, List.getElem?_cons_succ] at qe
  gi_wp2
  have I5 := HI4.out.setE hbx.1 hbx.2 hEn
  have I6 := I5.loop (rec' := q.at .ready none) hLw.1 hLw.2 hLn
  exact round_on (q := q) I5.l (.inl ⟨rfl, F4, I6⟩)
 ·rintro e W2 ⟨hv, hJ⟩
  obtain ⟨F2, I⟩ := hJ.resolve_right (fun h => h)
  refine ⟨hv, .ready, none, by simp, I.l, ?_⟩
  intro W3 hW3
  have I3 := I.loop (rec' := q.at .exhausted none) hLw.1 hLw.2 hLn
  rw [← hW3] at I3
  have HI := hid I3
  have HQ := hid (HCLO.out _ _ _ I3)
  have qw := cRw I3.wv 0
  simp only [List.getElem?_toArray, List.getElem?_cons_zero, List.getElem?_cons_succ] at qw
  clear hW3 I3 I hJ HJ0 HPUT HCLO hqt hqp hqa hqb
  dsimp only
  go_wp2_with (go_at_call 102; refine HQ.out.mono ?_; rintro e W4 ⟨rfl, hW4⟩; have H4 := hid hW4; clear hW4; have I4 := HKE.out _ _ _ _ HI.out H4.out; have qe := cRw I4.1 0; have ue := uRw I4.1 0; simp only [List.getElem?_toArray, List.getElem?_cons_zero, List.getElem?_cons_succ] at qe; have HD4 := hid I4; clear I4)
  obtain ⟨h1, h2, F9, S9, t9, f9, n9, m9⟩ := HD4.out
  have hD4 := (Below.heap_setCell W4 ⟨ebx, 0, none⟩ (.int .i64 0) D (fun h => hdis.2.2.2.2.1 h.symm)).trans h2
  refine ⟨by simp, .inl ⟨_, _, rfl, run_takeDeferred hD4, ?_⟩⟩
  refine ⟨.int .i64 0, by simp [results, Tryz.results49, go_sem], rfl, ?_⟩
  have tt : Tc [ebx, D] W4 ((W4.setCell ⟨ebx, 0, none⟩ (.int .i64 0)).putObj D (.deferred none)) := ((Tc.refl [ebx, D] W4).setCell (by simp) _).putObj _ (by simp)
  exact ⟨F9, S9.touch tt (fun y hy => by simp at hy; rcases hy with rfl | rfl; exact ⟨n9, hbx.2⟩; exact ⟨m9, hDw.2⟩), (t9.trans tt (fun y hy => by simp at hy; rcases hy with rfl | rfl; exact .inr hbx.1; exact .inr hDw.1)).mono (by simp), f9⟩
end
def tidyL (b : Bn) (kept : List (List UInt8)) : List ByteArray → PubA → Int × PubA
 | [], A => (0, A)
 | x :: r, A => if nm x ∈ kept then tidyL b kept r A else if (deleteB x (b.tr A) A).1 ≠ 0 then deleteB x (b.tr A) A else tidyL b kept r (deleteB x (b.tr A) A).2
def tidyB (b : Bn) (kept : List (List UInt8)) (A : PubA) : Int × PubA := tidyL b kept (namesA A) A
theorem tidyL_kept {b : Bn} {kept : List (List UInt8)} {x : ByteArray} {r : List ByteArray} {A : PubA} (h : nm x ∈ kept) : tidyL b kept (x :: r) A = tidyL b kept r A := by
 show (if nm x ∈ kept then tidyL b kept r A else _) = _
 rw [if_pos h]
theorem tidyL_bad {b : Bn} {kept : List (List UInt8)} {x : ByteArray} {r : List ByteArray} {A : PubA} (h : nm x ∉ kept) (h1 : (deleteB x (b.tr A) A).1 ≠ 0) : tidyL b kept (x :: r) A = deleteB x (b.tr A) A := by
 show (if nm x ∈ kept then tidyL b kept r A else if (deleteB x (b.tr A) A).1 ≠ 0 then deleteB x (b.tr A) A else tidyL b kept r (deleteB x (b.tr A) A).2) = _
 rw [if_neg h, if_pos h1]
theorem tidyL_on {b : Bn} {kept : List (List UInt8)} {x : ByteArray} {r : List ByteArray} {A : PubA} (h : nm x ∉ kept) (h1 : (deleteB x (b.tr A) A).1 = 0) : tidyL b kept (x :: r) A = tidyL b kept r (deleteB x (b.tr A) A).2 := by
 show (if nm x ∈ kept then tidyL b kept r A else if (deleteB x (b.tr A) A).1 ≠ 0 then deleteB x (b.tr A) A else tidyL b kept r (deleteB x (b.tr A) A).2) = _
 rw [if_neg h, if_neg (by simp [h1])]
theorem run_clear_map {w : World} {mb : Nat} {es : Array MapEntry} {clock : Nat} (hb : w.heap[mb]? = some (.map es clock)) (ty : TypeId) : (Builtin.clear_ #[89] ty #[.map (some mb)]).run Tryz.prog w = .ok (.tuple #[]) { w with heap := w.heap.setIfInBounds mb (.map #[] clock) } := by
 simp [Builtin.clear_, run_underlying Tryz.underlying89, MapKept.run_getObj_map hb, MapKept.run_setObj_map _ hb, Result.andThen]
theorem Tc.mapSet {w : World} {mb : Nat} (o : Obj) : Tc [mb] w { w with heap := w.heap.setIfInBounds mb o } :=
 ⟨rfl, rfl, rfl, by simp, fun k _ hk => by simp at hk; simp [Array.getElem?_setIfInBounds, Ne.symm hk]⟩
section
variable {w w' : World} {b : Bn} {n : Nat} {A A' : PubA} {s : Pu.St} {F : List Nat} {kb : Nat} {K T : Int} {mb : Nat} {l : List (List UInt8)}
theorem SeenAt.clear (h : SeenAt w mb l) : ∃ w2, (∀ ty, (Builtin.clear_ #[89] ty #[.map (some mb)]).run Tryz.prog w = .ok (.tuple #[]) w2) ∧ Tc [mb] w w2 := by
 obtain ⟨D, ⟨es, clock, hb, _⟩, _⟩ := h
 exact ⟨_, fun ty => run_clear_map hb ty, Tc.mapSet _⟩
theorem Went.mono_n {m : Nat} {G : List Nat} (h : Went w w' b n A s F G) (hn : n ≤ m) : Went w w' b m A s F G := by
 obtain ⟨F', S, t, f⟩ := h
 exact ⟨F', S.mono hn, t, f⟩
set_option maxHeartbeats 2000000 in
theorem tidy_any (S : Std w b n A s F) (hn : 2 * n < 1099511627776) (hk : DkA w kb b K T) (hkF : kb ∉ F) (hm : SeenAt w mb l) (hmF : mb ∉ F) (hml : b.lo ≤ mb) :
  Calls Tryz.prog 51 #[ptr kb, .map (some mb)] w fun e w' => e = .returned (.int .i64 (tidyB b l A).1) ∧ Went w w' b (n + (namesA A).length) (tidyB b l A).2 s F [mb] := by
 have HD := hid (fun W (t : Tc F w W) => Disk_any (hk.touch t hkF))
 have HN := hid (names_s S (by omega))
 have hl := names_len S
 have hf := names_few S
 have HS := hid S
 have HM := hid hm
 have HMF := hid hmF
 have HML := hid hml
 have HFL := hid S.lt
 have HR := hid (show tidyB b l A = tidyL b l (namesA A) A from rfl)
 clear S hk hkF hm hmF hml
 generalize namesA A = nl at *
 have HL1 := hid hl
 have HL2 := hid (show n + nl.length < 1099511627776 by omega)
 have HL3 := hid (show nl.length < 1099511627776 by omega)
 clear hl hf
 go_enter Tryz.func51, Tryz.ntmps51
 go_wp2_with (first
  |(go_at_call 21; refine HN.out.mono ?_; rintro e w1 ⟨sa, c, rfl, hs, hsl, ht⟩; have HST := hid hs; have HSL := hid hsl; have HT1 := hid ht; clear hs ht hsl)
  |(go_at_call 92; refine (HD.out w (Tc.refl _ _)).mono ?_; rintro e w1 ⟨rfl, hh⟩; have hh := hh.symm; subst hh))
 have HS1 := hid (HS.out.quiet HT1.out)
 go_loopw [14] (fun i W => ∃ k : Nat, k ≤ nl.length ∧ i = .int .i64 k ∧ ∃ A', tidyB b l A = tidyL b l (nl.drop k) A' ∧ Went w1 W b (n + k) A' s F []) (fun i _ => nl.length - (intOf i).toNat)
 case atStart => exact ⟨0, Nat.zero_le _, rfl, A, HR.out, Went.same HS1.out⟩
 case round =>
  obtain ⟨k, hk, rfl, A', heq, hW⟩ := hrel
  have HW := hid hW
  obtain ⟨F1, S1, t1, f1⟩ := hW
  have t1' : Tc F w1 wr := t1.mono (by simp)
  have hm1 := (HM.out.touch HT1.out (by simp)).touch t1' HMF.out
  have hst := HST.out.touch t1' (fun a ha hx => by have h1 := HSL.out a ha; have h2 := HFL.out _ hx; omega)
  have HEQ := hid heq
  have HS2 := hid S1
  have HM1 := hid hm1
  have HF1 := hid f1
  have HT := hid t1'
  have HTW := hid (Tc.trans (F := F) (HT1.out.mono (by simp)) t1' (fun y hy => .inl hy))
  clear heq S1 t1 f1 t1' hm1
  have hl3 := HL3.out
  by_cases hlt : k < nl.length
  ·obtain ⟨a, rfl, hab, hc⟩ := hst.at_ k hlt
   have hx := HL1.out nl[k] (List.getElem_mem _)
   have hd : nl.drop k = nl[k] :: nl.drop (k + 1) := List.drop_eq_getElem_cons hlt
   have HDR := hid hd
   have HKN := hid (show n + k < 1099511627776 by have := HL2.out; omega)
   generalize nl[k] = x at *
   have hlook := HM1.out.lookN hx
   have HX := hid hx
   clear hd hx hst hab
   by_cases hin : nm x ∈ l
   ·have HQ := hid (show tidyB b l A = tidyL b l (nl.drop (k + 1)) A' by rw [HEQ.out, HDR.out, tidyL_kept hin])
    rw [decide_eq_true hin] at hlook
    clear hin
    go_wp2_with fail
    refine ⟨⟨k + 1, hlt, rfl, A', HQ.out, ?_⟩, by simp [intOf]; omega⟩
    obtain ⟨F2, S2, t2, f2⟩ := HW.out
    exact ⟨F2, (S2.mono (by omega)).quiet ((Tc.refl [] _).alloc _), t2.alloc _, f2⟩
   ·rw [decide_eq_false hin] at hlook
    have HIN := hid hin
    clear hin
    have HX5 := hid (delete_s (HS2.out.quiet ((Tc.refl [] wr).alloc (.cells #[] 104))) HKN.out x)
    by_cases hz : (deleteB x (b.tr A') A').1 = 0
    ·have HQ := hid (show tidyB b l A = tidyL b l (nl.drop (k + 1)) (deleteB x (b.tr A') A').2 by rw [HEQ.out, HDR.out, tidyL_on HIN.out hz])
     rw [hz] at HX5
     generalize (deleteB x (b.tr A') A').2 = A2 at *
     clear hz
     go_wp2_with (first
      |(go_at_call 105; refine HX5.out.mono ?_; rintro e w5 ⟨rfl, hw5⟩; have HG5 := hid hw5; clear hw5)
      |(go_at_call 92; refine (HD.out _ (HTW.out.alloc _)).mono ?_; rintro e w4 ⟨rfl, hh⟩; have hh := hh.symm; subst hh))
     refine ⟨⟨k + 1, hlt, rfl, A2, HQ.out, ?_⟩, by simp [intOf]; omega⟩
     have h5 : Went wr w5 b (n + k + 1) A2 s _ [] := Went.pre ((Tc.refl [] wr).alloc _) HG5.out (by simp)
     exact Went.then (HT.out.mono (by simp)) HF1.out h5 (by simp)
    ·have HQ := hid (show tidyB b l A = deleteB x (b.tr A') A' by rw [HEQ.out, HDR.out, tidyL_bad HIN.out hz])
     generalize deleteB x (b.tr A') A' = de at *
     obtain ⟨d1, d2⟩ := de
     dsimp only at hz HX5
     go_wp2_with (first
      |(go_at_call 105; refine HX5.out.mono ?_; rintro e w5 ⟨rfl, hw5⟩; have HG5 := hid hw5; clear hw5)
      |(go_at_call 92; refine (HD.out _ (HTW.out.alloc _)).mono ?_; rintro e w4 ⟨rfl, hh⟩; have hh := hh.symm; subst hh))
     go_ret
     rw [HQ.out]
     refine ⟨rfl, ?_⟩
     have h5 : Went wr w5 b (n + k + 1) d2 s _ [] := Went.pre ((Tc.refl [] wr).alloc _) HG5.out (by simp)
     have h6 := Went.then (HT.out.mono (by simp)) HF1.out h5 (G := []) (by simp)
     exact (Went.pre HT1.out h6 (G' := [mb]) (by simp)).mono_n (by omega)
  ·obtain rfl : k = nl.length := by omega
   have HQ := hid (show tidyB b l A = (0, A') by rw [HEQ.out, List.drop_length]; rfl)
   obtain ⟨w2, hcl, ht2⟩ := HM1.out.clear
   clear hst
   have HT2 := hid ht2
   clear ht2
   go_wp2_with fail
   go_ret
   rw [HQ.out]
   refine ⟨rfl, ?_⟩
   have hmlt : mb < w1.heap.size := Nat.lt_of_lt_of_le HM.out.lt HT1.out.size
   obtain ⟨F2, S2, t2, f2⟩ := HW.out
   have hmF2 : mb ∉ F2 := fun hx => by rcases f2 _ hx with h | h; exact HMF.out h; omega
   have h3 : Went wr w2 b (n + nl.length) A' s F2 [mb] := ⟨F2, S2.touch HT2.out (by simp; exact ⟨hmF2, HML.out⟩), HT2.out.mono (by simp), fun y hy => .inl hy⟩
   have h4 : Went w1 w2 b (n + nl.length) A' s F [mb] := Went.then (t2.mono (by simp; intro y hy; exact .inr hy)) f2 h3 (fun y hy => .inl hy)
   exact Went.pre HT1.out h4 (fun y hy => .inl hy)
end
def refuseE (over : Bool) (t : Tbl) (gen : Nat) : Int := if fmB t = false then 170 else if gen = 18446744073709551615 then 7 else if over then 13 else 0
section
variable {w w' : World} {b : Bn} {n : Nat} {A : PubA} {s : Pu.St} {F : List Nat} {kb : Nat} {K T : Int} {t : Tbl} {so sr : Option Addr} {co cr : Nat} {gen : Nat}
theorem refusal_form (h : TblAt w t so sr) (hg : gen < 18446744073709551616) (hf : fmB t = false) (kv : Value) :
  Calls Tryz.prog 45 #[kv, tblV t so sr co cr, .int .u64 (gen : Int)] w fun e w' => e = .returned (.int .i64 170) ∧ Tc [] w w' := by
 have HF := hid (fun W (ht : Tc [] w W) => by have := formed_any (co := co) (cr := cr) (h.touch ht (by simp) (by simp)); rw [hf] at this; exact this)
 have HT0 := hid ((Tc.refl [] w).alloc (.cells #[.int .i64 t.vars, .slice so t.order.length co, .slice sr t.rows.length cr, .int .i64 t.next, .int .u64 (t.nf : Int)] 26))
 clear h hf
 simp only [tblV] at *
 go_enter Tryz.func45, Tryz.ntmps45
 go_wp2_with (go_at_call 11; refine (HF.out _ HT0.out).mono ?_; rintro e w1 ⟨rfl, ht1⟩; have HT1 := hid (HT0.out.trans ht1 (by simp)); clear ht1)
 go_ret
 exact ⟨rfl, HT1.out⟩
theorem refusal_last (h : TblAt w t so sr) (hf : fmB t = true) (kv : Value) :
  Calls Tryz.prog 45 #[kv, tblV t so sr co cr, .int .u64 18446744073709551615] w fun e w' => e = .returned (.int .i64 7) ∧ Tc [] w w' := by
 have HF := hid (fun W (ht : Tc [] w W) => by have := formed_any (co := co) (cr := cr) (h.touch ht (by simp) (by simp)); rw [hf] at this; exact this)
 have HT0 := hid ((Tc.refl [] w).alloc (.cells #[.int .i64 t.vars, .slice so t.order.length co, .slice sr t.rows.length cr, .int .i64 t.next, .int .u64 (t.nf : Int)] 26))
 clear h hf
 simp only [tblV] at *
 go_enter Tryz.func45, Tryz.ntmps45
 go_wp2_with (go_at_call 11; refine (HF.out _ HT0.out).mono ?_; rintro e w1 ⟨rfl, ht1⟩; have HT1 := hid (HT0.out.trans ht1 (by simp)); clear ht1)
 go_ret
 exact ⟨rfl, HT1.out⟩
theorem refusal_nil (h : TblAt w t so sr) (hg : gen < 18446744073709551615) (hf : fmB t = true) :
  Calls Tryz.prog 45 #[.pointer none, tblV t so sr co cr, .int .u64 (gen : Int)] w fun e w' => e = .returned (.int .i64 0) ∧ Tc [] w w' := by
 have HF := hid (fun W (ht : Tc [] w W) => by have := formed_any (co := co) (cr := cr) (h.touch ht (by simp) (by simp)); rw [hf] at this; exact this)
 have HT0 := hid ((Tc.refl [] w).alloc (.cells #[.int .i64 t.vars, .slice so t.order.length co, .slice sr t.rows.length cr, .int .i64 t.next, .int .u64 (t.nf : Int)] 26))
 have hne : ((gen : Int) == 18446744073709551615) = false := by simp; omega
 clear h hf hg
 simp only [tblV] at *
 go_enter Tryz.func45, Tryz.ntmps45
 go_wp2_with (go_at_call 11; refine (HF.out _ HT0.out).mono ?_; rintro e w1 ⟨rfl, ht1⟩; have HT1 := hid (HT0.out.trans ht1 (by simp)); clear ht1)
 go_ret
 exact ⟨rfl, HT1.out⟩
theorem refusal_desk (S : Std w b n A s F) (hn : n < 1099511627776) (hk : DkA w kb b K T) (hT : Tabs w) (h : TblAt w t so sr) (hg : gen < 18446744073709551615) (hf : fmB t = true) :
  Calls Tryz.prog 45 #[ptr kb, tblV t so sr co cr, .int .u64 (gen : Int)] w fun e w' => e = .returned (.int .i64 (refuseE (overA A gen) t gen)) ∧ Tc [] w w' := by
 have HR := hid (show refuseE (overA A gen) t gen = if overA A gen then 13 else 0 by unfold refuseE; rw [if_neg (by simp [hf]), if_neg (by omega)])
 have HF := hid (fun W (ht : Tc [] w W) => by have := formed_any (co := co) (cr := cr) (h.touch ht (by simp) (by simp)); rw [hf] at this; exact this)
 have HO := hid (fun W (ht : Tc [] w W) => overtaken_any (S.quiet ht) hn (hk.touch ht (by simp)) (hT.quiet ht) gen)
 have HT0 := hid ((Tc.refl [] w).alloc (.cells #[.int .i64 t.vars, .slice so t.order.length co, .slice sr t.rows.length cr, .int .i64 t.next, .int .u64 (t.nf : Int)] 26))
 have hne : ((gen : Int) == 18446744073709551615) = false := by simp; omega
 clear h hf hg S hk hT
 generalize refuseE (overA A gen) t gen = R at *
 generalize overA A gen = ov at *
 simp only [tblV] at *
 cases ov
 ·go_enter Tryz.func45, Tryz.ntmps45
  go_wp2_with (first
   |(go_at_call 91; refine (HO.out _ HT1.out).mono ?_; rintro e w2 ⟨rfl, ht2⟩; have HT2 := hid (HT1.out.trans ht2 (by simp)); clear ht2)
   |(go_at_call 11; refine (HF.out _ HT0.out).mono ?_; rintro e w1 ⟨rfl, ht1⟩; have HT1 := hid (HT0.out.trans ht1 (by simp)); clear ht1))
  go_ret
  exact ⟨by rw [HR.out]; rfl, HT2.out⟩
 ·go_enter Tryz.func45, Tryz.ntmps45
  go_wp2_with (first
   |(go_at_call 91; refine (HO.out _ HT1.out).mono ?_; rintro e w2 ⟨rfl, ht2⟩; have HT2 := hid (HT1.out.trans ht2 (by simp)); clear ht2)
   |(go_at_call 11; refine (HF.out _ HT0.out).mono ?_; rintro e w1 ⟨rfl, ht1⟩; have HT1 := hid (HT0.out.trans ht1 (by simp)); clear ht1))
  go_ret
  exact ⟨by rw [HR.out]; rfl, HT2.out⟩
end
structure Here (w W : World) (b : Bn) (n : Nat) (A : PubA) (s : Pu.St) (F F' : List Nat) : Prop where
 S : Std W b n A s F'
 t : Tc F w W
 f : ∀ y ∈ F', y ∈ F ∨ w.heap.size ≤ y
section
variable {w W W' : World} {b : Bn} {n n' : Nat} {A A' : PubA} {s s' : Pu.St} {F F' : List Nat}
theorem Here.start (S : Std w b n A s F) : Here w w b n A s F F := ⟨S, Tc.refl _ _, fun y hy => .inl hy⟩
theorem Here.quiet (h : Here w W b n A s F F') (t : Tc [] W W') : Here w W' b n A s F F' := ⟨h.S.quiet t, h.t.trans t (by simp), h.f⟩
theorem Here.went (h : Here w W b n A s F F') (g : Went W W' b n' A' s' F' []) : ∃ F2, Here w W' b n' A' s' F F2 ∧ Tc F' W W' ∧ ∀ y, y ∉ F' → y < W.heap.size → y ∉ F2 := by
 obtain ⟨F2, S2, t2, f2⟩ := g
 refine ⟨F2, ⟨S2, (h.t.trans t2 (fun y hy => h.f y (by simpa using hy))), fun y hy => ?_⟩, t2.mono (by simp), fun y h1 h2 hx => ?_⟩
 ·rcases f2 y hy with h1 | h1
  ·exact h.f y h1
  ·exact .inr (Nat.le_trans h.t.size h1)
 ·rcases f2 y hx with h3 | h3
  ·exact h1 h3
  ·omega
theorem Here.own {G : List Nat} (h : Here w W b n A s F F') (t : Tc G W W') (hlo : b.lo ≤ w.heap.size) (hG : ∀ y ∈ G, y ∉ F' ∧ w.heap.size ≤ y) : Here w W' b n A s F F' :=
 ⟨h.S.touch t (fun y hy => ⟨(hG y hy).1, by have := (hG y hy).2; omega⟩), h.t.trans t (fun y hy => .inr (hG y hy).2), h.f⟩
theorem Here.last {G : List Nat} (h : Here w W b n A s F F') (g : Went W W' b n' A' s' F' G) (hG : ∀ y ∈ G, w.heap.size ≤ y) : Went w W' b n' A' s' F [] :=
 Went.then (h.t.mono (by simp)) h.f g (fun y hy => .inr (hG y hy))
theorem Here.old (h : Here w W b n A s F F') {y : Nat} (h1 : y ∉ F) (h2 : y < w.heap.size) : y ∉ F' := fun hx => by
 rcases h.f y hx with h3 | h3
 ·exact h1 h3
 ·omega
end
theorem catN_sz (g : Nat) : (bs (catN g)).size ≤ 32 := by
 show (catN g).toArray.size ≤ 32
 rw [List.size_toArray]
 unfold catN
 simp [PureHex.hexW_len]
section
variable {w : World} {b : Bn} {n : Nat} {A : PubA} {s : Pu.St} {F : List Nat} {kb K : Nat} {T : Int} {t : Tbl} {gen : Nat} {so sr : Option Addr} {co cr : Nat}
def putA (A : PubA) (K : Nat) (t : Tbl) (g : Nat) : PubA := mkX A (bs (catN g)) true (bkO 5 K A.B (recsN t g) (nBk K (recsN t g).length)) (2 + (nBk K (recsN t g).length : Nat))
set_option maxHeartbeats 8000000 in
theorem commit_ok (S : Std w b n A s F) (C : LayOk b A (bs (catN (gen + 1))) 5 K (recsN t (gen + 1))) (hn : n < 274877906944) (hk : DkA w kb b (K : Int) T) (hkF : kb ∉ F) (hT : Tabs w) (h17 : 17 ≤ b.lo) (ht : TblAt w t so sr) (ho : ∀ a, so = some a → t.order ≠ [] → a.block ∉ F ∧ a.block < w.heap.size) (hr : ∀ a, sr = some a → t.rows ≠ [] → a.block ∉ F ∧ a.block < w.heap.size) (hfree : 64 * (K : Int) ≤ s.free) (hg : gen < 18446744073709551615) (hfb : fmB t = true) (hov : overA A gen = false) (hrd : readyE A (sortU (filesN t.rows)) [] = 0) :
  Calls Tryz.prog 19 #[ptr kb, tblV t so sr co cr, .int .u64 (gen : Int)] w fun e w' => e = .returned (.int .i64 (tidyB b (filesN t.rows ++ [catN (gen + 1)]) (putA A K t (gen + 1))).1) ∧
   Went w w' b (n + (recsN t (gen + 1)).length + 3 + (namesA (putA A K t (gen + 1))).length) (tidyB b (filesN t.rows ++ [catN (gen + 1)]) (putA A K t (gen + 1))).2 ((s.take (K : Int)).give (K : Int)) F [] := by
 have hroom := S.room
 have hFlt := S.lt
 have hklt := ltB hk
 have hKK := C.hK
 have hlen := C.len
 have hl := free_leave (s := s) (K := (K : Int)) (by omega) hfree
 have hwr : IntKind.u64.wrap ((gen : Int) + 1) = ((gen + 1 : Nat) : Int) := by rw [IntKind.wrap_u64]; omega
 have HRF := hid (fun W (tt : Tc [] w W) => (by
  have h := refusal_desk (co := co) (cr := cr) (S.quiet tt) (by omega) (hk.touch tt (by simp)) (hT.quiet tt) (ht.touch tt (by simp) (by simp)) hg hfb
  rw [hov] at h
  unfold refuseE at h
  rw [if_neg (by simp [hfb]), if_neg (by omega), if_neg (by simp)] at h
  exact h : Calls Tryz.prog 45 #[ptr kb, tblV t so sr co cr, .int .u64 (gen : Int)] W fun e w' => e = .returned (.int .i64 0) ∧ Tc [] W w'))
 have HFO := hid (fun W (tt : Tc [] w W) => filesOf_any (c := cr) (ht.rows.touch tt (by simp)) ht.rl (fun x hx => (ht.ri x hx).2) (hT.quiet tt))
 have HNM := hid (fun W (hT' : Tabs W) => Nm.name_any (gen + 1) (by omega) W hT'.tz)
 have HWH := hid (fun W F' (I : Here w W b n A s F F') (sa : Option Addr) (c : Nat) (hs : StrsAt W sa (sortU (filesN t.rows))) => (by
  have hkn : kb ∉ F' := I.old hkF hklt
  have h1 := sortU_len (filesN t.rows)
  have h2 : (filesN t.rows).length = t.rows.length := by unfold filesN; simp
  have h3 := ht.rl
  have h := whole_any (ci := c) (co := 0) (lo := []) I.S (by omega) (hk.touch I.t hkF) hkn (by omega) hs (StrsAt.nil _ none) (by omega) (by simp) 0
  rw [wholeE_ok C.new.on hrd hfree] at h
  exact h : Calls Tryz.prog 47 #[ptr kb, .int .i64 0, .slice sa (sortU (filesN t.rows)).length c, .slice none 0 0] W fun e w' => e = .returned (.int .i64 0) ∧ Went W w' b n A s F' []))
 have HWT := hid (fun W F' (I : Here w W b n A s F F') => (by
  have hkn : kb ∉ F' := I.old hkF hklt
  have hT' : Tabs W := hT.touch I.t (fun y hy => by have := S.base y hy; omega)
  exact write_ok (co := co) (cr := cr) I.S C (by omega) (hk.touch I.t hkF) hkn hT' (ht.touch2 I.t (fun a ha e => (ho a ha e).1) (fun a ha e => (hr a ha e).1)) (fun a ha e => ⟨I.old (ho a ha e).1 (ho a ha e).2, Nat.lt_of_lt_of_le (ho a ha e).2 I.t.size⟩) (fun a ha e => ⟨I.old (hr a ha e).1 (hr a ha e).2, Nat.lt_of_lt_of_le (hr a ha e).2 I.t.size⟩) hl (by omega)
   : Calls Tryz.prog 49 #[ptr kb, tblV t so sr co cr, .int .u64 ((gen + 1 : Nat) : Int)] W fun e w' => e = .returned (.int .i64 0) ∧ Went W w' b (n + (recsN t (gen + 1)).length + 3) (putA A K t (gen + 1)) ((s.take (K : Int)).give (K : Int)) F' []))
 have HTD := hid (fun W F' mb (I : Here w W b (n + (recsN t (gen + 1)).length + 3) (putA A K t (gen + 1)) ((s.take (K : Int)).give (K : Int)) F F') (hm : SeenAt W mb (filesN t.rows ++ [catN (gen + 1)])) (hmF : mb ∉ F') (hmw : w.heap.size ≤ mb) => (by
  have hkn : kb ∉ F' := I.old hkF hklt
  exact tidy_any I.S (by omega) (hk.touch I.t hkF) hkn hm hmF (by omega)
   : Calls Tryz.prog 51 #[ptr kb, .map (some mb)] W fun e w' => e = .returned (.int .i64 (tidyB b (filesN t.rows ++ [catN (gen + 1)]) (putA A K t (gen + 1))).1) ∧ Went W w' b (n + (recsN t (gen + 1)).length + 3 + (namesA (putA A K t (gen + 1))).length) (tidyB b (filesN t.rows ++ [catN (gen + 1)]) (putA A K t (gen + 1))).2 ((s.take (K : Int)).give (K : Int)) F' [mb]))
 have HTB : Hid (∀ W F', Tc F' w W → F' = F → Tabs W) := hid (fun W F' tt e => hT.touch tt (fun y hy => by subst e; have := S.base y hy; omega))
 have HS := hid S
 have HFL := hid (show (filesN t.rows).length ≤ 1099511627776 by have h3 := ht.rl; unfold filesN; rw [List.length_map]; omega)
 have hnF : w.heap.size ∉ F := fun h => by have := hFlt _ h; omega
 have HT0 := hid ((Tc.refl [] w).alloc (.cells #[.int .i64 t.vars, .slice so t.order.length co, .slice sr t.rows.length cr, .int .i64 t.next, .int .u64 (t.nf : Int)] 26))
 have HR0 := hid (heap_alloc_new w (.cells #[.int .i64 t.vars, .slice so t.order.length co, .slice sr t.rows.length cr, .int .i64 t.next, .int .u64 (t.nf : Int)] 26))
 clear S C hk hT ht ho hr hov hrd hfree hfb
 generalize (tidyB b (filesN t.rows ++ [catN (gen + 1)]) (putA A K t (gen + 1))).1 = r51 at *
 generalize (tidyB b (filesN t.rows ++ [catN (gen + 1)]) (putA A K t (gen + 1))).2 = A51 at *
 generalize n + (recsN t (gen + 1)).length + 3 + (namesA (putA A K t (gen + 1))).length = n51 at *
 generalize n + (recsN t (gen + 1)).length + 3 = n49 at *
 generalize putA A K t (gen + 1) = A49 at *
 simp only [tblV] at *
 go_enter Tryz.func19, Tryz.ntmps19
 go_wp2_with (go_at_call 45; refine (HRF.out _ HT0.out).mono ?_; rintro e w1 ⟨rfl, ht1⟩; have HT1 := hid (HT0.out.trans ht1 (by simp)); have HR1 := hid ((ht1.block _ (ltB HR0.out) (by simp)).trans HR0.out); clear ht1)
 rw [run_makeMap_n w1]
 obtain ⟨W2, hW2⟩ : ∃ W2, W2 = w1.alloc (.map #[] 0) := ⟨_, rfl⟩
 have t2 : Tc [] w1 W2 := by rw [hW2]; exact (Tc.refl [] w1).alloc _
 rw [← hW2]
 clear hW2
 have HT2 := hid (HT1.out.trans t2 (by simp))
 have HR2 := hid ((t2.block _ (ltB HR1.out) (by simp)).trans HR1.out)
 clear t2
 have c2 := fun i => cRw HR2.out i
 go_wp2_with (first
  |(go_at_call 51; refine (HTD.out _ _ _ HI8.out HM8.out HNF6.out hmw).mono ?_; rintro e w9 ⟨rfl, hw9⟩; have HW9 := hid (HI8.out.last hw9 (by simp; exact hmw)); clear hw9)
  |(go_at_call 50; refine (add_any (HM6.out.touch HT7.out (by simp)) HFL.out (x := bs (catN (gen + 1))) (catN_sz _)).mono ?_; rintro e w8 ⟨rfl, hs8, ht8⟩; have HM8 := hid hs8; have HI8 := hid ((HI6.out.quiet HT7.out).own ht8 hroom (by simp; exact ⟨HNF6.out, hmw⟩)); clear hs8 ht8)
  |(go_at_call 22; refine (HNM.out _ (HTB.out _ _ HI6.out.t rfl)).mono ?_; rintro e w7 ⟨rfl, hb7⟩; have HT7 := hid (Tc.of_below (F := []) hb7 (Nat.le_refl _)); clear hb7)
  |(go_at_call 49; refine (HWT.out _ _ HI5.out).mono ?_; rintro e w6 ⟨rfl, hw6⟩; obtain ⟨F6, hI6, tt6, n6⟩ := HI5.out.went hw6; have HI6 := hid hI6; have HM6 := hid (HM5.out.touch tt6 HNF5.out); have HNF6 := hid (n6 _ HNF5.out HM5.out.lt); clear hI6 tt6 n6 hw6)
  |(go_at_call 47; refine (HWH.out _ F ((Here.start HS.out).quiet HT4.out) _ _ HSR.out).mono ?_; rintro e w5 ⟨rfl, hw5⟩; obtain ⟨F5, hI5, tt5, n5⟩ := ((Here.start HS.out).quiet HT4.out).went hw5; have HI5 := hid hI5; have HM5 := hid (HM4.out.touch tt5 hmF); have HNF5 := hid (n5 _ hmF HM4.out.lt); have HR5 := hid ((tt5.block _ (ltB HR4.out) hnF).trans HR4.out); have c5 := (fun i => cRw HR5.out i); clear hI5 tt5 n5 hw5)
  |(go_at_call 48; refine (sorted_any HMB.out HFL.out).mono ?_; rintro e w4 ⟨sa, c, rfl, hsa, ht4⟩; have HSR := hid hsa; have HT4 := hid (HT3.out.trans ht4 (by simp)); have HM4 := hid (HMB.out.touch ht4 (by simp)); have HR4 := hid ((ht4.block _ (ltB HR3.out) (by simp)).trans HR3.out); clear hsa ht4)
  |(go_at_call 46; refine (HFO.out _ HT2.out).mono ?_; rintro e w3 ⟨mb, rfl, hmb, hsm, ht3⟩; have HMB := hid hsm; have HT3 := hid (HT2.out.trans ht3 (by simp)); have HR3 := hid ((ht3.block _ (ltB HR2.out) (by simp)).trans HR2.out); have hmw : w.heap.size ≤ mb := Nat.le_trans HT2.out.size hmb; have hmF : mb ∉ F := (fun h => by have := hFlt _ h; omega); clear hsm ht3))
 go_ret
 exact ⟨rfl, HW9.out⟩
end
section
variable {w w' : World} {E : Nat → Addr} {lo p mf mt : Nat} {D : DkC}
theorem fileOf_fin {B : Nat} {o : Obj} {w1 : World} {sv : Value} {bs : List Nat} {blocks : List (List UInt8)} (x : Bool) (hb : BkA w1 B sv bs blocks) (hf : FreshB (w.alloc o).heap.size sv bs) (ht : Below (w.alloc o).heap.size (w.alloc o) w1) :
  FileAt (w1.alloc (.cells #[.int .i64 (if x then 1 else 0), sv] 160)) B ⟨w1.heap.size, sv, bs⟩ ⟨x, blocks⟩ ∧ (∀ b ∈ (⟨w1.heap.size, sv, bs⟩ : Lay).foot, w.heap.size ≤ b) ∧ (⟨w1.heap.size, sv, bs⟩ : Lay).foot.Nodup ∧ ∀ o' : Obj, Below w.heap.size w (w1.alloc o') := by
 have hs : (w.alloc o).heap.size = w.heap.size + 1 := by simp
 have hs1 := ht.size
 have hk := hb.kept (w' := w1.alloc (.cells #[.int .i64 (if x then 1 else 0), sv] 160)) fun b hb' => Below.heap_alloc w1 _ b (by rcases hb' with h' | h'; exact hb.lt.1 b h'; exact hb.lt.2 b h')
 refine ⟨⟨heap_alloc_new w1 _, hk.own, hk.bytes⟩, fun b hb' => ?_, ?_, fun o' => ?_⟩
 ·simp only [Lay.foot, List.mem_cons, List.mem_append, Option.mem_toList] at hb'
  rcases hb' with rfl | h | h
  ·omega
  ·have := hf.1 b h; omega
  ·have := hf.2.1 b h; omega
 ·show (w1.heap.size :: (sv.ownBlock.toList ++ bs)).Nodup
  rw [List.nodup_cons]
  refine ⟨fun h => ?_, hf.2.2⟩
  rcases List.mem_append.1 h with h | h
  ·have := hb.lt.1 _ (by simpa using h); omega
  ·have := hb.lt.2 _ h; omega
 ·exact (((Below.refl _ w).alloc (Nat.le_refl _) o).trans (ht.mono (by omega))).alloc (by omega) _
theorem less_before : ∀ a b : List UInt8, Op.bytesLess a b = bytesBefore a b
 | [], [] => rfl
 | _ :: _, [] => rfl
 | [], _ :: _ => rfl
 | a :: x, b :: y => by simp only [Op.bytesLess, bytesBefore, less_before x y]
theorem behind {a b : List UInt8} (h : bytesBefore a b = true) : (Op.bytesLess b a || b == a) = false := by
 rw [less_before]
 have hne : b ≠ a := fun e => by subst e; rw [WideAt.bytes_irrefl] at h; cases h
 have h1 : bytesBefore b a = false := by
  cases hx : bytesBefore b a with
  | false => rfl
  | true =>
   have := WideShapes.bytes_trans _ _ _ h hx
   rw [WideAt.bytes_irrefl] at this
   cases this
 simp [h1, hne]
end
def lastN (l : List SFl) (k : Nat) : List UInt8 := match k with | 0 => [] | j + 1 => (l[j]?.map SFl.name).getD []
def usedN (l : List SFl) (k : Nat) : Nat := ((l.take k).map fun e => e.file.blocks.length).sum
theorem usedN_succ {l : List SFl} {k : Nat} {e : SFl} (h : l[k]? = some e) : usedN l (k + 1) = usedN l k + e.file.blocks.length := by
 unfold usedN
 obtain ⟨hk, rfl⟩ := List.getElem?_eq_some_iff.1 h
 rw [List.take_succ_eq_append_getElem hk, List.map_append, List.sum_append]
 simp only [List.map_cons, List.map_nil, List.sum_cons, List.sum_nil, Nat.add_zero]
theorem usedN_le (l : List SFl) (k : Nat) : usedN l k ≤ usedN l l.length := by
 unfold usedN
 rw [List.take_length]
 have h := congrArg (fun x => (x.map fun e : SFl => e.file.blocks.length).sum) (List.take_append_drop k l)
 simp only [List.map_append, List.sum_append] at h
 omega
structure GoodL (l : List SFl) : Prop where
 names : ∀ e ∈ l, nameB ⟨e.name.toArray⟩ = true
 rising : l.Pairwise fun a b => bytesBefore a.name b.name = true
 few : l.length ≤ 1099511627776
 blocks : usedN l l.length ≤ 1099511627776
theorem GoodL.one {l : List SFl} (h : GoodL l) {k : Nat} {e : SFl} (he : l[k]? = some e) : e.file.blocks.length ≤ 1099511627776 := by
 have h1 := usedN_succ he
 have h2 := usedN_le l (k + 1)
 have h3 := h.blocks
 omega
theorem GoodL.behind {l : List SFl} (h : GoodL l) {k : Nat} {e : SFl} (he : l[k]? = some e) : (Op.bytesLess e.name (lastN l k) || e.name == lastN l k) = false := by
 cases k with
 | zero =>
  have hn := h.names e (List.mem_of_getElem? he)
  have hne : e.name ≠ [] := by
   intro e1
   unfold nameB at hn
   simp at hn
   have := hn.1.1
   rw [show (⟨e.name.toArray⟩ : ByteArray).size = e.name.length from by show e.name.toArray.size = _; simp, e1] at this
   simp at this
  simp only [lastN]
  cases hx : e.name with
  | nil => exact absurd hx hne
  | cons a r => simp [Op.bytesLess]
 | succ j =>
  obtain ⟨hk, rfl⟩ := List.getElem?_eq_some_iff.1 he
  have hj : l[j]? = some (l[j]'(by omega)) := List.getElem?_eq_getElem (by omega)
  have hb := List.pairwise_iff_getElem.1 h.rising j (j + 1) (by omega) hk (by omega)
  have : lastN l (j + 1) = (l[j]'(by omega)).name := by simp [lastN, hj]
  rw [this]
  exact Go.Proofs.YthehcjjckabljaaGreatDoor.behind hb
section
variable {w w' : World} {E : Nat → Addr} {lo p mf mt : Nat} {D : DkC}
end
theorem insE_end {e : Ent} : ∀ {l : List Ent}, (∀ y ∈ l, bytesBefore y.name e.name = true) → insE e l = l ++ [e]
 | [], _ => rfl
 | y :: r, h => by
  have hy := h y (by simp)
  have hn : (Lit.string e.name).before (.string y.name) = false := by
   show bytesBefore e.name y.name = false
   cases hx : bytesBefore e.name y.name with
   | false => rfl
   | true =>
    have := WideShapes.bytes_trans _ _ _ hy hx
    rw [WideAt.bytes_irrefl] at this
    cases this
  unfold insE
  rw [hn]
  simp [insE_end (l := r) fun z hz => h z (by simp [hz])]
section
variable {w w' : World} {E : Nat → Addr} {lo p mf mt : Nat} {D : DkC}
theorem Rep.insertFile (R : Rep w lo p mf mt D) {e : Ent} (hs : e.name.length ≤ 32) (hfind : findE D.ents e.name = none) (ht : Tc [mf] w w') (hfresh : ∀ b ∈ e.lay.foot, w.heap.size ≤ b) (hlo : lo ≤ w.heap.size) (hnd : e.lay.foot.Nodup) (hat : FileAt w' D.B e.lay e.file)
  (hmap : w'.ownsMap Tryz.prog 9 ptrElem mf (D.ents.length + 1) ((mapOf D.ents).put (.string e.name) (.lit (.int .i64 e.lay.fb)))) : Rep w' lo p mf mt { D with ents := insE e D.ents } := by
 obtain ⟨n, hT⟩ := R.troubles
 have hne := R.p_ne
 have hperm := insE_perm e D.ents
 have hfoot : (DkC.foot { D with ents := insE e D.ents } p mf mt).Perm (e.lay.foot ++ D.foot p mf mt) := by
  simp only [DkC.foot]
  have h1 := hperm.flatMap_right fun e : Ent => e.lay.foot
  rw [List.flatMap_cons] at h1
  refine (((h1.cons mt).cons mf).cons p).trans ?_
  refine .trans (((List.perm_middle (a := mt)).symm.cons mf).cons p) ?_
  refine .trans ((List.perm_middle (a := mf)).symm.cons p) ?_
  exact (List.perm_middle (a := p)).symm
 have hold : ∀ b ∈ D.foot p mf mt, b ≠ mf → w'.heap[b]? = w.heap[b]? := fun b hb h => ht.block b (R.lt b hb) (by simp [h])
 refine ⟨(hold p (by simp [DkC.foot]) hne.2.1).trans R.row, ?_, ⟨n, ownsMap_kept hT (hold mt (by simp [DkC.foot]) hne.2.2.symm)⟩, ?_, ?_, ?_, ?_⟩
 ·rw [put_map hfind] at hmap
  show w'.ownsMap Tryz.prog 9 ptrElem mf (insE e D.ents).length _
  rw [hperm.length_eq]
  exact hmap
 ·intro x hx
  rcases List.mem_cons.1 (hperm.mem_iff.1 hx) with rfl | hx
  ·exact hat
  ·exact (R.each x hx).kept fun b hb => by
    have := R.ent_ne hx hb
    exact ht.block b this.2.2.2.1 (by simp [this.2.1])
 ·rw [hfoot.nodup_iff, List.nodup_append]
  exact ⟨hnd, R.apart, fun x hx y hy h => by have := hfresh x hx; have := R.lt y hy; omega⟩
 ·intro b hb
  rcases List.mem_append.1 (hfoot.mem_iff.1 hb) with hb | hb
  ·exact Nat.le_trans hlo (hfresh b hb)
  ·exact R.base b hb
 ·intro x hx
  rcases List.mem_cons.1 (hperm.mem_iff.1 hx) with rfl | hx
  ·exact hs
  ·exact R.names x hx
def mountA (B : Nat) (Bs : Int) (l : List SFl) (k : Nat) : PubA := ⟨B, Bs, true, (l.take k).map SFl.pub, ⟨0, 0, 0, 0, 0, usedN l k, usedN l k⟩⟩
theorem mount_arm {wr X wx : World} {a b c : Value} {t : TypeId} (R : Rep wr lo p mf mt D) (T : Tc [] wr X) (row : X.heap[wr.heap.size]? = some (.cells #[a, b, c] t (0, 0))) (hb : Below X.heap.size X wx) :
  Tc [] wr wx ∧ wx.heap[wr.heap.size]? = some (.cells #[a, b, c] t (0, 0)) ∧ wx.cell? ⟨p, 3, none⟩ = some (.map (some mf)) ∧ wx.cell? ⟨wr.heap.size, 0, none⟩ = some a ∧ wx.cell? ⟨wr.heap.size, 1, none⟩ = some b ∧ wx.cell? ⟨wr.heap.size, 2, none⟩ = some c := by
 have hr := (hb.block _ (ltB row)).trans row
 have hT : Tc [] wr wx := T.trans (Tc.of_below (F := []) hb (Nat.le_refl _)) (by simp)
 exact ⟨hT, hr, (hT.cell (p := ⟨p, 3, none⟩) (ltB R.row) (by simp)).trans (R.cell 3), cRw hr 0, cRw hr 1, cRw hr 2⟩
theorem mount_upd {wr wx : World} {a b c : Value} {t : TypeId} {s : List UInt8} (R : Rep wr lo p mf mt D) (T : Tc [] wr wx) (row : wx.heap[wr.heap.size]? = some (.cells #[a, b, c] t (0, 0))) (hn : D.ents.length ≤ 1099511627776) (hs : s.length ≤ 32) (fb : Nat) :
  ∃ wA, (Instr.mapUpdate 97 (.map (some mf)) (encStr s) (ptr fb)).run Tryz.prog wx = .ok () wA ∧ wA.ownsMap Tryz.prog 9 ptrElem mf (D.ents.length + 1) ((mapOf D.ents).put (.string s) (.lit (.int .i64 fb))) ∧ wx.grownBy wA (some mf) ∧
   wA.cell? ⟨p, 3, none⟩ = some (.map (some mf)) ∧ wA.cell? ⟨wr.heap.size, 0, none⟩ = some a ∧ wA.cell? ⟨wr.heap.size, 1, none⟩ = some b ∧ wA.cell? ⟨wr.heap.size, 2, none⟩ = some c := by
 have h1 := ownsMap_kept R.files (T.block mf R.files.lt (by simp))
 obtain ⟨wA, a1, a2, a3⟩ := file_store h1 hn (s := ⟨s.toArray⟩) (show s.toArray.size ≤ 32 by simpa using hs) fb
 have hl := R.files.lt
 have hr := (a3.block _ (ltB row) (by simp; omega)).trans row
 have hp : wx.cell? ⟨p, 3, none⟩ = some (.map (some mf)) := (T.cell (p := ⟨p, 3, none⟩) (ltB R.row) (by simp)).trans (R.cell 3)
 exact ⟨wA, a1, a2, a3, a3.cell hp (by simp [R.p_ne.2.1]), cRw hr 0, cRw hr 1, cRw hr 2⟩
end
section
variable {w w' : World} {E : Nat → Addr} {lo p mf mt : Nat} {D : DkC} {fv : Value} {l : List SFl}
theorem BkA.sliceL {B : Nat} {sv : Value} {bs : List Nat} {blocks : List (List UInt8)} (h : BkA w B sv bs blocks) : ∃ a c, sv = .slice a blocks.length c := by
 by_cases h0 : blocks.length = 0
 ·rw [h0]; exact h.slice0 h0
 ·obtain ⟨g, c, e⟩ := h.slice1 h0
  exact ⟨_, c, e⟩
theorem StateAt.sliceL {n B : Nat} {fv : Value} {l : List SFl} (h : StateAt w n B fv l) : ∃ a c, fv = .slice a l.length c := by
 by_cases h0 : l.length = 0
 ·rw [h0]; exact h.slice0 h0
 ·obtain ⟨g, c, e⟩ := h.slice1 h0
  exact ⟨_, c, e⟩
end
section
variable {w w' : World} {E : Nat → Addr} {lo p mf mt : Nat} {D : DkC}
structure Shows (w : World) (sa : Option Addr) (n c : Nat) (d : List UInt8) : Prop where
 len : d.length = n
 cap : n ≤ c
 at_ : 0 < n → ∃ a, sa = some a ∧ a.block < w.heap.size ∧ ∀ j v, (Lib.byteCells d)[j]? = some v → w.cell? (a.add j) = some v
 nil : sa = none → n = 0 ∧ c = 0
theorem shows_own {base n : Nat} {v : Value} {d : List UInt8} (h : w.ownsRow base 5 1 v n (Lib.byteCells d)) : ∃ sa c, v = .slice sa n c ∧ Shows w sa n c d ∧ ∀ a, sa = some a → base ≤ a.block := by
 have hl : d.length = n := by simpa [Lib.byteCells_length] using h.1
 rcases h.2 with ⟨rfl, rfl⟩ | ⟨g, cap, cur, rfl, hb, hg, hn, _⟩
 ·exact ⟨none, 0, rfl, ⟨hl, Nat.le_refl _, fun h => by omega, fun _ => ⟨rfl, rfl⟩⟩, by simp⟩
 ·refine ⟨some ⟨g, 0, none⟩, cap, rfl, ⟨hl, hn, fun _ => ⟨_, rfl, ltB hg, fun j v hv => h.cells (g := g) rfl j v hv⟩, by simp⟩, ?_⟩
  intro a ha
  simp at ha
  subst ha
  exact hb
end
section
variable {w w' : World}
theorem Shows.touch {sa : Option Addr} {n c : Nat} {d : List UInt8} {F : List Nat} (h : Shows w sa n c d) (ht : Tc F w w') (hF : ∀ a, sa = some a → a.block ∉ F) : Shows w' sa n c d :=
 ⟨h.len, h.cap, fun h0 => by
  obtain ⟨a, e, hl, hc⟩ := h.at_ h0
  exact ⟨a, e, by have := ht.size; omega, fun j v hv => by
   have h1 := hc j v hv
   have hb : (a.add j).block = a.block := by unfold Addr.add; split <;> rfl
   rw [ht.cell (by rw [hb]; exact hl) (by rw [hb]; exact hF a e)]
   exact h1⟩, h.nil⟩
theorem conv_shows {sa : Option Addr} {n c : Nat} {d : List UInt8} (h : Shows w sa n c d) : (convert 118 9 (.slice sa n c)).run Tryz.prog w = .ok (encStr d) w := by
 have hl := h.len
 subst hl
 cases sa with
 | none =>
  obtain ⟨e1, e2⟩ := h.nil rfl
  have : d = [] := List.eq_nil_of_length_eq_zero e1
  subst this
  subst e2
  rw [show ([] : List UInt8).length = 0 from rfl, run_convert_bytes_string w 118 9 5 none 0 0 Tryz.underlying118 Tryz.underlying5 Tryz.underlying9]
  simp [Conv.bytesToString, encStr]
  try rfl
 | some a =>
  refine run_convert_bytes_back (P := Tryz.prog) w 118 9 5 a c d Tryz.underlying118 Tryz.underlying5 Tryz.underlying9 (fun j hj => ?_)
  obtain ⟨a', e, _, hc⟩ := h.at_ (by omega)
  simp only [Option.some.injEq] at e
  subst e
  exact hc j _ (by simp [Lib.byteCells, List.getElem?_eq_getElem hj])
end
section
variable {w w' : World} {E : Nat → Addr} {lo p mf mt : Nat} {D : DkC}
structure BlocksSh (w : World) (sv : Value) (blocks : List (List UInt8)) : Prop where
 sl : ∃ a c, sv = .slice a blocks.length c
 at_ : ∀ i (hi : i < blocks.length), ∃ G gc xa xn xc, sv = .slice (some ⟨G, 0, none⟩) blocks.length gc ∧ w.cell? ⟨G, i, none⟩ = some (.slice xa xn xc) ∧ Shows w xa xn xc blocks[i]
theorem bytes_shows {b B : Nat} {bl : List UInt8} (h : BytesAt w b bl) (hl : bl.length = B) : Shows w (some ⟨b, 0, none⟩) B B bl := by
 subst hl
 refine ⟨rfl, Nat.le_refl _, fun _ => ⟨_, rfl, ltB h, fun j v hv => ?_⟩, fun e => by simp at e⟩
 exact bytes_src h j v hv
theorem BkA.sh {B : Nat} {sv : Value} {bs : List Nat} {blocks : List (List UInt8)} (h : BkA w B sv bs blocks) : BlocksSh w sv blocks := by
 refine ⟨h.sliceL, fun i hi => ?_⟩
 obtain ⟨g, cap, b, e, c, hl, hby, _⟩ := h.at hi
 exact ⟨g, cap, _, _, _, e, c, bytes_shows hby hl⟩
end
end Go.Proofs.YthehcjjckabljaaGreatDoor
