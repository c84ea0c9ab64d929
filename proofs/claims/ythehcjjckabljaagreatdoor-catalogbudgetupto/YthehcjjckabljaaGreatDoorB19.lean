import Derived.Shelf.RegionOpen
import Derived.Test.YthehcjjckabljaaGreatDoorB18
namespace Go.Proofs.YthehcjjckabljaaGreatDoor
open Go.RowKit Go.Deep
set_option maxRecDepth 100000
set_option linter.unusedSimpArgs false
set_option linter.unusedVariables false
attribute [local go_sem] Oper.semAt_some
theorem nilr1 (d : Nat) (l : Array Value) (W : World) : (Op.equalIn (d + 1) 188 (.func (.func 154) #[] l) .nilFunc).run Tryz.prog W = .ok false W := by
 simp [Op.equalIn, Sem.run_bind, underlying, go_sem, Tryz.underlying188, Result.andThen]
theorem nilr (l : Array Value) (W : World) : (binOp .eql 188 (.func (.func 154) #[] l) .nilFunc).run Tryz.prog W = .ok (.bool false) W := by
 have h : (Op.equal 188 (.func (.func 154) #[] l) .nilFunc).run Tryz.prog W = .ok false W := nilr1 9999 l W
 simp [binOp, go_sem, h]
theorem ready_rdX (A : PubA) (c : Int) (i o : List ByteArray) : readyE (rdX A c) i o = readyE A i o := by
 have h1 : ∀ x, lnB x (rdX A c) = lnB x A := fun x => rfl
 have h2 : ∀ x, makeE (rdX A c) x = makeE A x := fun x => rfl
 have h3 : ∀ x, readE (rdX A c) x = readE A x := fun x => rfl
 have h4 : ∀ (o : List ByteArray) (seen : List (List UInt8)), readyOut (rdX A c) seen o = readyOut A seen o := by
  intro o
  induction o with
  | nil => intro seen; rfl
  | cons x r ih => intro seen; simp only [readyOut, h2, ih]
 have h5 : ∀ (i : List ByteArray), readyIn (rdX A c) i = readyIn A i := by
  intro i
  induction i with
  | nil => rfl
  | cons x r ih => simp only [readyIn, h3, ih]
 unfold readyE
 rw [h4, h5]
 rfl
section
variable {w : World} {b : Bn} {n : Nat} {A : PubA} {s : Pu.St} {F : List Nat} {kb K : Nat} {T : Int} {t : Tbl} {gen : Nat} {bsl : List (List UInt8)}
set_option maxHeartbeats 8000000 in
theorem tell_ok (S : Std w b n A s F) (C : TapX b A (bs (catN gen)) K 5 bsl (recsN t gen)) (hn : n < 549755813888) (hk : DkA w kb b (K : Int) T) (hkF : kb ∉ F) (hlk : b.lo ≤ kb) (h17 : 17 ≤ b.lo) (hT : Tabs w) (hfb : fmB t = true) (hnum : t.Num) (hl : Pu.leaveE s (K : Int) = 0) (hg : gen < 18446744073709551616) (hrd : readyE A (sortU (filesN t.rows)) [] = 0) :
  Calls Tryz.prog 53 #[ptr kb, .int .u64 (gen : Int)] w fun e w' => ∃ v, e = .returned (.tuple #[v, .int .i64 0]) ∧ NewTbl w' w.heap.size t v ∧
   Went w w' b (n + bsl.length) (rdX A (bsl.length : Int)) ((s.take (K : Int)).give (K : Int)) F [] := by
 have hf := formed_is hfb
 have hroom := S.room
 have hFlt := S.lt
 have hklt := ltB hk
 have HS := hid S
 have HC := hid C
 have HK := hid hk
 have HTB := hid hT
 have HNM := hid (fun W (tt : Tc [] w W) => Nm.name_any gen hg W (hT.quiet tt).tz)
 have HAL := hid (fun (W : World) => all_any (W := W) (kb := kb) (x := bs (catN gen)) 5)
 have HF := hid (And.intro hf (And.intro hfb (And.intro hnum hrd)))
 clear S C hk hT hf hfb hnum hrd
 refine (callsIn_wide (n := 5)).1 ?_
 refine callsIn_of_wp_marks Tryz.func53 rfl trivial (wpIn_wide.2 ?_)
 simp only [Tryz.ntmps53, List.size_toArray, List.length_cons, List.length_nil, Nat.reduceAdd, Nat.reduceSub, Array.replicate_succ, Array.replicate_zero, List.push_toArray, List.append_toArray, List.nil_append, List.cons_append]
 have hnq := nilr
 go_upto_region 2 with fail
 obtain ⟨r4, hr4⟩ : ∃ y, y = w.heap.size := ⟨_, rfl⟩
 obtain ⟨r5, hr5⟩ : ∃ y, y = w.heap.size + 1 := ⟨_, rfl⟩
 obtain ⟨tb, htb⟩ : ∃ y, y = w.heap.size + 1 + 1 := ⟨_, rfl⟩
 obtain ⟨Wa, hWa⟩ : ∃ Wa, Wa = ((w.alloc (.cells zer5 26)).alloc (.cells #[.int .i64 0] 46)).alloc (.cells #[.slice none 0 0, .int .i64 0, .int .u64 0, .int .u64 0, .int .u64 0, .int .u64 0, .bool false] 186) := ⟨_, rfl⟩
 have ta : Tc [] w Wa := by rw [hWa]; exact (((Tc.refl [] w).alloc _).alloc _).alloc _
 have hsa : Wa.heap.size = w.heap.size + 3 := by rw [hWa]; simp
 have a4 : Wa.heap[r4]? = some (.cells zer5 26 (0, 0)) := by rw [hWa, hr4]; exact (Below.heap_alloc _ _ _ (by simp; omega)).trans ((Below.heap_alloc _ _ _ (by simp)).trans (heap_alloc_new w _))
 have a5 : Wa.heap[r5]? = some (.cells #[.int .i64 0] 46 (0, 0)) := by rw [hWa, hr5]; refine (Below.heap_alloc _ _ _ (by simp)).trans ?_; have := heap_alloc_new (w.alloc (.cells zer5 26)) (.cells #[.int .i64 0] 46); simpa using this
 have at_ : Wa.heap[tb]? = some (.cells #[.slice none 0 0, .int .i64 0, .int .u64 0, .int .u64 0, .int .u64 0, .int .u64 0, .bool false] 186 (0, 0)) := by rw [hWa, htb]; have := heap_alloc_new ((w.alloc (.cells zer5 26)).alloc (.cells #[.int .i64 0] 46)) (.cells #[.slice none 0 0, .int .i64 0, .int .u64 0, .int .u64 0, .int .u64 0, .int .u64 0, .bool false] 186); simpa using this
 rw [← hWa, ← htb, ← hr5, ← hr4]
 have HTa := hid ta
 have HA := hid (And.intro a4 (And.intro a5 at_))
 have HE := hid (And.intro hr4 (And.intro hr5 htb))
 have HSA := hid hsa
 clear hWa ta a4 a5 at_ hr4 hr5 htb hsa
 go_wp2_with (first
  |(go_at_call 108; refine (HAL.out w1).mono ?_; rintro e w2 ⟨b1, b2, b3, rfl, t2, d1, d2, d3, e1, e2, e3⟩; have HT2 := hid t2; have HB := hid (And.intro d1 (And.intro d2 d3)); clear t2 d1 d2 d3)
  |(go_at_call 22; refine (HNM.out _ HTa.out).mono ?_; rintro e w1 ⟨rfl, hb1⟩; have HT1 := hid (Tc.of_below (F := []) hb1 (Nat.le_refl _)); clear hb1))
 refine wp_range (m := 5) (gf := 154) (lb := #[ptr b1, ptr b2, ptr b3]) rfl (enters_of Tryz.func154 (by kernel_rfl) rfl) ?_
 intro q W1 hqt hqp hqa hqb hL hD tq hsz
 obtain ⟨L, hLe⟩ : ∃ L, L = w2.heap.size + 1 := ⟨_, rfl⟩
 obtain ⟨D, hDe⟩ : ∃ D, D = w2.heap.size := ⟨_, rfl⟩
 rw [← hLe] at hL ⊢
 rw [← hDe] at hD ⊢
 obtain ⟨hr4, hr5, htb⟩ := HE.out
 have hsa := HSA.out
 have t12 : Tc [] Wa w2 := HT1.out.trans HT2.out (by simp)
 have ta1 : Tc [] Wa W1 := t12.trans tq (by simp)
 have tw1 : Tc [] w W1 := HTa.out.trans ta1 (by simp)
 have hsz1 := t12.size
 have hsz2 := tq.size
 obtain ⟨a4, a5, at_⟩ := HA.out
 have hlt : ∀ y ∈ [tb, r4, r5, L, D], w.heap.size ≤ y ∧ y < W1.heap.size := by
  intro y hy
  simp only [List.mem_cons, List.not_mem_nil, or_false] at hy
  omega
 have hGF : ∀ y ∈ [tb, r4, r5, L, D], y ∉ F := fun y hy hx => by have := hFlt y hx; have := hlt y hy; omega
 have o0 : TeO b kb tb r4 r5 L D (q.at .ready none) (recsN t gen) [tb, r4, r5, L, D] 0 W1 := by
  refine ⟨⟨[], ⟨.slice none 0 0, (ta1.block _ (ltB at_) (by simp)).trans at_, World.ownsRow_nil _ _ _ _, rfl, by simp⟩, by simp, by simp⟩, (ta1.block _ (ltB a4) (by simp)).trans a4, (ta1.block _ (ltB a5) (by simp)).trans a5, hL, hD, fun y hy => ⟨(hlt y hy).2, ?_, ?_⟩⟩
  ·have := (hlt y hy).1; omega
  ·have := (hlt y hy).1; omega
 have hLn : L ∉ [tb, r4, r5, D] := by
  simp only [List.mem_cons, List.not_mem_nil, or_false]
  omega
 have htn : tb ∉ [r4, r5, L, D] := by
  simp only [List.mem_cons, List.not_mem_nil, or_false]
  omega
 have HO0 := hid o0
 obtain ⟨d1, d2, d3⟩ := HB.out
 have hok := recs_ok (recs_small (gen := gen) HF.out.2.2.1 hg (by have := HF.out.1.vars.2; omega))
 have HOK := hid hok
 have hww : W1.heap.size ≥ w.heap.size + 3 := by omega
 have hdis : L ≠ D ∧ r4 ≠ L ∧ r5 ≠ L ∧ tb ≠ L ∧ r4 ≠ D ∧ r5 ≠ D ∧ r4 ≠ r5 ∧ tb ≠ r4 ∧ tb ≠ r5 ∧ tb ≠ D := by omega
 have hbs : b.lo ≤ r4 ∧ b.lo ≤ r5 ∧ b.lo ≤ D ∧ b.lo ≤ L ∧ w.heap.size ≤ r4 ∧ w.heap.size ≤ r5 ∧ w.heap.size ≤ D ∧ w.heap.size ≤ L := by omega
 have HWT := hid tw1
 have hrw : r4 = w.heap.size := hr4
 have HR4 := hid hrw
 clear hrw hLe hDe hr4 hr5 htb hsa hsz hsz1 hsz2 e1 e2 e3
 refine (all1_ok (Ow := TeO b kb tb r4 r5 L D (q.at .ready none) (recsN t gen)) (G := [tb, r4, r5, L, D]) (HS.out.quiet tw1) hl (HK.out.touch tw1 (by simp)) hkF hlk HC.out hn TeO.ok o0 hGF ((tq.block _ (ltB d1) (by simp)).trans d1) ((tq.block _ (ltB d2) (by simp)).trans d2) ((tq.block _ (ltB d3) (by simp)).trans d3) ?_).mono ?_
 ·rintro m' j hj X G o
  have HO := hid o
  have HQB := hid hqb
  clear hqb HO0 o0 hok
  refine yield_round o.hl (by rw [hqp]; rfl) ?_
  rw [hqa, hqp, hqt]
  clear hqa hqp hqt o
  gi_wp2
  obtain ⟨X2, hX2⟩ : ∃ X2, X2 = X.alloc (.cells #[.int .u64 ((recsN t gen)[j].1 : Int), .int .u64 ((recsN t gen)[j].2.1 : Int), .int .u64 ((recsN t gen)[j].2.2.1 : Int), .int .u64 ((recsN t gen)[j].2.2.2 : Int)] 176) := ⟨_, rfl⟩
  have hr2 : X2.heap[X.heap.size]? = some (.cells #[.int .u64 ((recsN t gen)[j].1 : Int), .int .u64 ((recsN t gen)[j].2.1 : Int), .int .u64 ((recsN t gen)[j].2.2.1 : Int), .int .u64 ((recsN t gen)[j].2.2.2 : Int)] 176) := by rw [hX2]; exact heap_alloc_new X _
  have t2 : Tc [] X X2 := by rw [hX2]; exact (Tc.refl [] X).alloc _
  rw [← hX2]
  have hnL : X.heap.size ≠ L := by have := ltB HO.out.hl; omega
  have o2 := TeO.ok.kept _ _ _ _ _ HO.out t2 (by simp)
  generalize X.heap.size = ob at hnL hr2 ⊢
  refine ⟨o2.hl, ?_⟩
  obtain ⟨X3, hX3⟩ : ∃ X3, X3 = X2.putObj L (.loop (q.at .busy none)) := ⟨_, rfl⟩
  have o3 := o2.loop (rec' := q.at .busy none) hLn
  have hr30 : X3.heap[ob]? = X2.heap[ob]? := by rw [hX3]; exact World.putObj_heap_other hnL
  have hr3 := hr30.trans hr2
  have t3 : Tc [L] X2 X3 := by rw [hX3]; exact (Tc.refl [L] X2).putObj _ (by simp)
  rw [← hX3] at o3 ⊢
  rw [HQB.out]
  obtain ⟨gl, g1, g2, g3⟩ := o3.told
  have HP := hid (take_any g1 (Told.Ok.fold Told.Ok.new (fun r hr => HOK.out r (List.mem_of_mem_take hr))) (recsN t gen)[j])
  have q0 := cRw hr3 0
  have q1 := cRw hr3 1
  have q2 := cRw hr3 2
  have q3 := cRw hr3 3
  simp only [List.getElem?_toArray, List.getElem?_cons_zero, List.getElem?_cons_succ] at q0 q1 q2 q3
  have HT23 := hid (And.intro t2 t3)
  have HO3 := hid o3
  have HG1 := hid g1
  clear hX2 hX3 hr30 hr2 hr3 t2 t3 o2 o3 g1 g2 g3 hnL
  gi_wp2
  refine ⟨trivial, fun h => (by cases h), (CallsIn.inRound L (callsIn_wide.2 HP.out)).mono ?_⟩
  rintro e W4 ⟨rfl, hT4⟩
  have HT4 := hid hT4
  clear hT4
  gi_wp2
  obtain ⟨G2, k1, k2, k3⟩ := HO3.out.took hj HG1.out HT4.out (by have := ltB HO3.out.h4; omega) htn
  have k4 := k1.loop (rec' := q.at .ready none) hLn
  refine round_on (q := q) k1.hl ⟨rfl, ?_⟩
  intro G' o'
  obtain ⟨gA, u1, u2, _⟩ := HO.out.told
  obtain ⟨gB, v1, v2, _⟩ := o'.told
  obtain rfl : G = G' := by rw [u2, v2, u1.uniq v1]
  have hLG : L ∈ G := by rw [u2]; simp
  have tt : Tc G X (W4.putObj L (.loop (q.at .ready none))) := (((HT23.out.1.mono (by simp)).trans HT23.out.2 (fun y hy => by simp at hy; subst hy; exact .inl hLG)).trans k2 (fun y hy => .inl hy)).putObj _ (.inl hLG)
  refine ⟨G2, k4, tt, fun y hy => ?_⟩
  rcases k3 y hy with h | h
  ·exact .inl h
  ·exact .inr (Nat.le_trans (Nat.le_trans HT23.out.1.size HT23.out.2.size) h)
 ·rintro e W2 ⟨hv, hH⟩
  obtain ⟨G2, F2, S2, o2, hGF2, tW, hF2, hG2⟩ := hH.x
  refine ⟨hv, .ready, none, by simp, o2.hl, ?_⟩
  intro W3 hW3
  have o3 := o2.loop (rec' := q.at .exhausted none) hLn
  rw [← hW3] at o3
  have t3 : Tc [L] W2 W3 := by rw [hW3]; exact (Tc.refl [L] W2).putObj _ (by simp)
  obtain ⟨gl, g1, g2, g3⟩ := o3.told
  rw [List.take_length, told_all HF.out.1] at g1
  have hLG2 : L ∉ F2 := hGF2 L (by rw [g2]; simp)
  have S3 : Std W3 b (n + bsl.length) (rdX A (bsl.length : Int)) ((s.take (K : Int)).give (K : Int)) F2 := S2.touch t3 (fun y hy => by simp at hy; subst hy; exact ⟨hLG2, hbs.2.2.2.1⟩)
  have hkG : kb ∉ [tb, r4, r5, L, D] ++ F := fun hx => by
   rcases List.mem_append.1 hx with h | h
   ·have := hlt kb h; omega
   ·exact hkF h
  have k3 : DkA W3 kb b (K : Int) T := ((HK.out.touch HWT.out (by simp)).touch tW hkG).touch t3 (by simp; omega)
  have hTb3 : Tabs W3 := ((HTB.out.quiet HWT.out).touch tW (fun y hy => by
   rcases List.mem_append.1 hy with h | h
   ·have := hlt y h; omega
   ·have := HS.out.base y h; omega)).touch t3 (by simp; omega)
  have toldOk : (toldOf t gen).Ok := by rw [← told_all HF.out.1]; exact Told.Ok.fold Told.Ok.new HOK.out
  have hta := table_any g1 toldOk gen hg
  rw [told_tbl HF.out.1 HF.out.2.2.1, HF.out.2.1] at hta
  have HTA : Hid (Calls Tryz.prog 110 #[ptr tb, .int .u64 (gen : Int)] W3 fun e w' => ∃ so sr co cr, e = .returned (.tuple #[.agg #[.int .i64 t.vars, .slice so t.order.length co, .slice sr t.rows.length cr, .int .i64 t.next, .int .u64 (t.nf : Int)], .bool true]) ∧ TblAt w' t so sr ∧ (∀ a, so = some a → W3.heap.size ≤ a.block) ∧ (∀ a, sr = some a → W3.heap.size ≤ a.block) ∧ Tc [] W3 w') := hta.mono fun e w' ⟨v, e1, ⟨so, sr, co, cr, e2, h1, h2, h3⟩, h4⟩ => ⟨so, sr, co, cr, by rw [e1, e2]; rfl, h1, h2, h3, h4⟩
  clear hta
  have HO3 := hid o3
  have HS3 := hid S3
  have HK3 := hid k3
  have HTB3 := hid hTb3
  have HX := hid (And.intro hGF2 (And.intro tW (And.intro hF2 (And.intro hG2 (And.intro t3 hW3)))))
  clear hW3 t3 g1 g2 g3 hLG2 S3 k3 hTb3 toldOk o3 S2 o2 hGF2 tW hF2 hG2 hkG hH HO0 o0 hok hqt hqp hqa hqb
  dsimp only
  go_upto_region 9 with (go_at_call 110; refine HTA.out.mono ?_; rintro e W4 ⟨so, sr, co, cr, rfl, hN, hN1, hN2, hT4⟩; have HN := hid (And.intro hN (And.intro hN1 hN2)); have HT4 := hid hT4; clear hN hN1 hN2 hT4)
  obtain ⟨W5, hW5⟩ : ∃ W5, W5 = W4.alloc (.cells #[.int .i64 t.vars, .slice so t.order.length co, .slice sr t.rows.length cr, .int .i64 t.next, .int .u64 (t.nf : Int)] 26) := ⟨_, rfl⟩
  have t5 : Tc [] W4 W5 := by rw [hW5]; exact (Tc.refl [] W4).alloc _
  have h9 : W5.heap[W4.heap.size]? = some (.cells #[.int .i64 t.vars, .slice so t.order.length co, .slice sr t.rows.length cr, .int .i64 t.next, .int .u64 (t.nf : Int)] 26 (0, 0)) := by rw [hW5]; exact heap_alloc_new W4 _
  rw [← hW5]
  have hl9 := ltB h9
  have hs4 := HT4.out.size
  generalize hq9 : W4.heap.size = q9 at *
  have t35 : Tc [] W3 W5 := HT4.out.trans t5 (by simp)
  have HT35 := hid t35
  have HT45 := hid t5
  have HN5 := hid (HN.out.1.touch t5 (by simp) (by simp))
  have c9 := fun i => cRw h9 i
  have HFO := hid (fun W (tt : Tc [] W5 W) => filesOf_any (c := cr) (HN5.out.rows.touch tt (by simp)) HN5.out.rl (fun x hx => (HN5.out.ri x hx).2) (HTB3.out.quiet (t35.trans tt (by simp))))
  have HRY := hid (fun W (tt : Tc [] W3 W) (sa : Option Addr) (c : Nat) (hs : StrsAt W sa (sortU (filesN t.rows))) => Ready_any (ci := c) (so := none) (co := 0) (lo := []) (HS3.out.quiet tt) (by have := HC.out.few; omega) (HK3.out.touch tt (by simp)) hs (StrsAt.nil _ _) (by have h1 := sortU_len (filesN t.rows); have h2 := HF.out.1.rows; have h3 : (filesN t.rows).length = t.rows.length := (by simp [filesN]); omega) (by simp))
  rw [show (rdX A (bsl.length : Int)) = rdX A (bsl.length : Int) from rfl, ready_rdX, HF.out.2.2.2] at HRY
  have HSO := hid (fun W mb (h : SeenAt W mb (filesN t.rows)) => sorted_any h (by have h2 := HF.out.1.rows; have h3 : (filesN t.rows).length = t.rows.length := (by simp [filesN]); omega))
  have H9 := hid h9
  clear hW5 h9 t5 t35 HTA
  go_upto_region 11 with (first
   |(go_at_call 94; refine (HRY.out _ HT8.out _ _ HSA8.out).mono ?_; rintro e W8 ⟨rfl, ht8⟩; have HT9 := hid (HT8.out.trans ht8 (by simp)); have HT59 := hid (HT58.out.trans ht8 (by simp)); clear ht8; have c9 := fun i => cRw ((HT59.out.block q9 hl9 (by simp)).trans H9.out) i)
   |(go_at_call 48; refine (HSO.out _ _ HM7.out).mono ?_; rintro e W7 ⟨sa7, c7, rfl, hs7, ht7⟩; have HSA8 := hid hs7; have HT8 := hid (HT7.out.trans ht7 (by simp)); have HT58 := hid (HT57.out.trans ht7 (by simp)); clear hs7 ht7)
   |(go_at_call 46; refine (HFO.out _ (Tc.refl _ _)).mono ?_; rintro e W6 ⟨mb, rfl, -, hm, ht6⟩; have HM7 := hid hm; have HT7 := hid (HT35.out.trans ht6 (by simp)); have HT57 := hid ht6; clear hm ht6))
  have g4 := (HT9.out.block _ (ltB HO3.out.h4) (by simp)).trans HO3.out.h4
  have g5 := (HT9.out.block _ (ltB HO3.out.h5) (by simp)).trans HO3.out.h5
  have gD := (HT9.out.block _ (ltB HO3.out.hd) (by simp)).trans HO3.out.hd
  have c4 := fun i => cRw g4 i
  have u4 := fun i => uRw g4 i
  have H4 := hid g4
  have H5 := hid g5
  have HD := hid gD
  have hl5 := ltB g5
  have hlD := ltB gD
  obtain ⟨W9, e9, hr9, t9⟩ := box5 g4 (.int .i64 t.vars) (.slice so t.order.length co) (.slice sr t.rows.length cr) (.int .i64 t.next) (.int .u64 (t.nf : Int))
  have g59 := (t9.block _ hl5 (by simp; exact hdis.2.2.2.2.2.2.1.symm)).trans g5
  have gD9 := (t9.block _ hlD (by simp; exact fun h => hdis.2.2.2.2.1 h.symm)).trans gD
  have c5 := cRw g59 0
  have u5 := uRw g59 0
  simp only [List.getElem?_toArray, List.getElem?_cons_zero] at c5
  rw [e9] at c5 u5
  have HE9 := hid e9
  have H9r := hid hr9
  have HT89 := hid t9
  have HD9 := hid gD9
  have H59 := hid g59
  clear e9 hr9 t9 gD9 g59 g4 g5 gD
  clear hs4 hq9 hl9 hl5 hlD
  go_wp2_with fail
  rw [← HE9.out]
  have hD10 := (Below.heap_setCell W9 ⟨r5, 0, none⟩ (.int .i64 0) D (fun h => hdis.2.2.2.2.2.1 h.symm)).trans HD9.out
  refine ⟨by simp, .inl ⟨_, _, rfl, run_takeDeferred hD10, ?_⟩⟩
  have t10 : Tc [r5, D] W9 ((W9.setCell ⟨r5, 0, none⟩ (.int .i64 0)).putObj D (.deferred none)) := ((Tc.refl [r5, D] W9).setCell (by simp) _).putObj _ (by simp)
  have k4 := (t10.block _ (ltB H9r.out) (by simp; exact ⟨hdis.2.2.2.2.2.2.1, hdis.2.2.2.2.1⟩)).trans H9r.out
  have k5 : ((W9.setCell ⟨r5, 0, none⟩ (.int .i64 0)).putObj D (.deferred none)).heap[r5]? = some (.cells #[.int .i64 0] 46 (0, 0)) := (World.putObj_heap_other hdis.2.2.2.2.2.1).trans ((sRw H59.out 0 _).trans (by simp))
  generalize (W9.setCell ⟨r5, 0, none⟩ (.int .i64 0)).putObj D (.deferred none) = WE at *
  have q4 := fun i => cRw k4 i
  have q5 := cRw k5 0
  simp only [List.getElem?_toArray, List.getElem?_cons_zero] at q5
  refine ⟨.tuple #[tblV t so sr co cr, .int .i64 0], by simp [results, Tryz.results53, go_sem, q4, q5, tblV], ?_⟩
  obtain ⟨x1, x2, x3, x4, x5, x6⟩ := HX.out
  have tE : Tc [r4, r5, D] W8 WE := (HT89.out.mono (by simp)).trans t10 (fun y hy => .inl (by simp at hy ⊢; rcases hy with rfl | rfl <;> simp))
  have t3E : Tc [r4, r5, D] W3 WE := (HT9.out.mono (by simp)).trans tE (fun y hy => .inl hy)
  obtain ⟨gl, -, g2, -⟩ := HO3.out.told
  have hlt3 : r4 < W3.heap.size ∧ r5 < W3.heap.size ∧ D < W3.heap.size := ⟨ltB HO3.out.h4, ltB HO3.out.h5, ltB HO3.out.hd⟩
  have hw3 : w.heap.size ≤ W3.heap.size := by have := hbs.2.2.2.2.1; omega
  have tN : Tc [r4, r5, D] W4 WE := ((HT45.out.trans HT59.out (by simp)).mono (by simp)).trans tE (fun y hy => .inl hy)
  refine ⟨_, rfl, ⟨so, sr, co, cr, rfl, HN.out.1.touch tN (fun a ha hx => ?_) (fun a ha hx => ?_), fun a ha => Nat.le_trans hw3 (HN.out.2.1 a ha), fun a ha => Nat.le_trans hw3 (HN.out.2.2 a ha)⟩, F2, HS3.out.touch t3E (fun y hy => ?_), ?_, fun y hy => ?_⟩
  ·have := HN.out.2.1 a ha
   simp only [List.mem_cons, List.not_mem_nil, or_false] at hx
   omega
  ·have := HN.out.2.2 a ha
   simp only [List.mem_cons, List.not_mem_nil, or_false] at hx
   omega
  ·simp only [List.mem_cons, List.not_mem_nil, or_false] at hy
   rcases hy with rfl | rfl | rfl
   ·exact ⟨x1 _ (by rw [g2]; simp), hbs.1⟩
   ·exact ⟨x1 _ (by rw [g2]; simp), hbs.2.1⟩
   ·exact ⟨x1 _ (by rw [g2]; simp), hbs.2.2.1⟩
  ·refine (((HWT.out.mono (by simp)).trans x2 (fun y hy => ?_)).trans x5 (fun y hy => ?_)).trans t3E (fun y hy => ?_)
   ·rcases List.mem_append.1 hy with h | h
    ·exact .inr (hlt y h).1
    ·exact .inl (by simpa using h)
   ·simp at hy; subst hy; exact .inr hbs.2.2.2.2.2.2.2
   ·simp only [List.mem_cons, List.not_mem_nil, or_false] at hy
    right
    omega
  ·rcases x3 y hy with h | h
   ·exact .inl h
   ·exact .inr (Nat.le_trans HWT.out.size h)
end
theorem free_leave {s : Pu.St} {K : Int} (hK : 1 ≤ K) (h : 64 * K ≤ s.free) : Pu.leaveE s K = 0 := by
 unfold Pu.St.free at h
 unfold Pu.leaveE
 split at h
 ·omega
 ·next hc =>
  rw [if_neg hc, if_neg (by omega), if_neg (by omega)]
structure SameP (s s' : Pu.St) : Prop where
 limit : s'.limit = s.limit
 hand : s'.hand = s.hand
 lent : s'.lent = s.lent
 closed : s'.closed = s.closed
theorem SameP.trans {s s' s2 : Pu.St} (h : SameP s s') (k : SameP s' s2) : SameP s s2 := ⟨k.limit.trans h.limit, k.hand.trans h.hand, k.lent.trans h.lent, k.closed.trans h.closed⟩
theorem sameP_take {s : Pu.St} {K : Int} (hg : 0 ≤ s.hand) (hK : 0 ≤ K) (hc : s.closed = false) (h : Pu.leaveE s K = 0) : SameP s ((s.take K).give K) := by
 have e : s.take K = { s with hand := s.hand + K, peak := max s.peak (s.hand + K + s.lent) } := by unfold Pu.St.take; rw [if_pos h]
 rw [e]
 unfold Pu.St.give
 rw [if_pos (by unfold Pu.giveE; simp only [hc]; rw [if_neg (by simp), if_neg (by omega), if_neg (by omega)])]
 exact ⟨rfl, by show s.hand + K - K = s.hand; omega, rfl, rfl⟩
theorem SameP.free {s s' : Pu.St} (h : SameP s s') : s'.free = s.free := by
 unfold Pu.St.free
 rw [h.closed, h.hand, h.lent, h.limit]
theorem wholeE_ok {A : PubA} {s : Pu.St} {K : Int} {i o : List ByteArray} (h1 : A.on = true) (h2 : readyE A i o = 0) (h3 : 64 * K ≤ s.free) : wholeE A s K 0 i o = 0 := by
 unfold wholeE
 rw [if_neg (by simp [h1]), if_neg (by simp), if_neg (by simp [h2]), if_neg (by omega)]
theorem readyE_nil {A : PubA} (h : A.on = true) : readyE A [] [] = 0 := by
 unfold readyE
 rw [if_neg (by simp [h])]
 rfl
section
variable {w w1 w2 w3 : World} {b : Bn} {n m : Nat} {A A1 A2 : PubA} {s s1 s2 : Pu.St} {F F1 G : List Nat} {kb K : Nat} {T : Int} {t : Tbl} {gen : Nat} {bsl : List (List UInt8)}
set_option maxHeartbeats 8000000 in
theorem readC_ok (S : Std w b n A s F) (C : TapX b A (bs (catN gen)) K 5 bsl (recsN t gen)) (hn : n < 549755813888) (hk : DkA w kb b (K : Int) T) (hkF : kb ∉ F) (hlk : b.lo ≤ kb) (h17 : 17 ≤ b.lo) (hT : Tabs w) (hfb : fmB t = true) (hnum : t.Num) (hfree : 64 * (K : Int) ≤ s.free) (hg : gen < 18446744073709551616) (hg0 : gen ≠ 0) (hnew : newestA A = gen) (hrd : readyE A (sortU (filesN t.rows)) [] = 0) :
  Calls Tryz.prog 20 #[ptr kb] w fun e w' => ∃ v, e = .returned (.tuple #[v, .int .u64 (gen : Int), .int .i64 0]) ∧ NewTbl w' w.heap.size t v ∧
   Went w w' b (n + bsl.length) (rdX A (bsl.length : Int)) ((s.take (K : Int)).give (K : Int)) F [] := by
 have hroom := S.room
 have hFlt := S.lt
 have hklt := ltB hk
 have hKK := C.hK
 have hl := free_leave (s := s) (K := (K : Int)) (by omega) hfree
 have HW : Hid (∀ W, Tc [] w W → Calls Tryz.prog 47 #[ptr kb, .int .i64 0, .slice none 0 0, .slice none 0 0] W fun e w' => e = .returned (.int .i64 0) ∧ Went W w' b n A s F []) := fun W tt => by
  have h := whole_any (ci := 0) (co := 0) (li := []) (lo := []) (S.quiet tt) (by omega) (hk.touch tt (by simp)) hkF (by omega) (StrsAt.nil _ none) (StrsAt.nil _ none) (by simp) (by simp) 0
  rw [wholeE_ok C.has.on (readyE_nil C.has.on) hfree] at h
  exact h
 have HNW := hid (fun W F' (S' : Std W b n A s F') (k' : DkA W kb b (K : Int) T) (hT' : Tabs W) => newest_any S' (by omega) k' hT')
 rw [hnew] at HNW
 have HTL := hid (fun W F' (S' : Std W b n A s F') (k' : DkA W kb b (K : Int) T) (hkF' : kb ∉ F') (hT' : Tabs W) => tell_ok S' C hn k' hkF' hlk h17 hT' hfb hnum hl hg hrd)
 have HS := hid S
 have HK := hid hk
 have HTB := hid hT
 have hgi : ((gen : Int) == 0) = false := by simp; exact hg0
 have hgi2 : ¬ (gen : Int) = 0 := by omega
 have HT0 := hid ((Tc.refl [] w).alloc (.cells zer5 26))
 have HB0 := hid (heap_alloc_new w (.cells zer5 26))
 have HSB := hid S.base
 clear S C hk hT hnew hrd hfb hnum hg0
 go_enter Tryz.func20, Tryz.ntmps20
 go_upto_region 7 with (first
  |(go_at_call 52; refine (HNW.out _ _ HS1.out HK1.out HT1.out).mono ?_; rintro e w2 ⟨rfl, ht2⟩; have HT2 := hid ht2; clear ht2)
  |(go_at_call 47; refine (HW.out _ HT0.out).mono ?_; rintro e w1 ⟨rfl, hw1⟩; obtain ⟨F1, S1, t1, f1⟩ := hw1; have HS1 := hid S1; have hkF1 : kb ∉ F1 := (fun hx => by rcases f1 _ hx with h | h; exact hkF h; have := HT0.out.size; omega); have HK1 := hid ((HK.out.touch HT0.out (by simp)).touch t1 (by simpa using hkF)); have HT1 := hid ((HTB.out.quiet HT0.out).touch t1 (fun y hy => by have := HSB.out y (by simpa using hy); omega)); have HF1 := hid f1; have HTt1 := hid t1; clear S1 t1 f1))
 have HTE : Hid (Calls Tryz.prog 53 #[ptr kb, .int .u64 (gen : Int)] w2 fun e w' => ∃ so sr co cr, e = .returned (.tuple #[.agg #[.int .i64 t.vars, .slice so t.order.length co, .slice sr t.rows.length cr, .int .i64 t.next, .int .u64 (t.nf : Int)], .int .i64 0]) ∧ TblAt w' t so sr ∧ (∀ a, so = some a → w2.heap.size ≤ a.block) ∧ (∀ a, sr = some a → w2.heap.size ≤ a.block) ∧ Went w2 w' b (n + bsl.length) (rdX A (bsl.length : Int)) ((s.take (K : Int)).give (K : Int)) F1 []) :=
  (HTL.out w2 F1 (HS1.out.quiet HT2.out) (HK1.out.touch HT2.out (by simp)) hkF1 (HT1.out.quiet HT2.out)).mono fun e w' ⟨v, e1, ⟨so, sr, co, cr, e2, h1, h2, h3⟩, h4⟩ => ⟨so, sr, co, cr, by rw [e1, e2]; rfl, h1, h2, h3, h4⟩
 have hb1 := (HTt1.out.block _ (ltB HB0.out) (by simp; intro hx; have := hFlt _ hx; omega)).trans HB0.out
 have hb2 := (HT2.out.block _ (ltB hb1) (by simp)).trans hb1
 have hn1 : w.heap.size ∉ F1 := fun hx => by
  rcases HF1.out _ hx with h | h
  ·have := hFlt _ h; omega
  ·have := ltB HB0.out; omega
 have HB2 := hid hb2
 have hq0 : w.heap.size < w2.heap.size := ltB hb2
 clear hb1 hb2
 go_upto_region 10 with (go_at_call 53; refine HTE.out.mono ?_; rintro e w3 ⟨so, sr, co, cr, rfl, hN, hN1, hN2, hW3⟩; have HN := hid (And.intro hN (And.intro hN1 hN2)); have HW3 := hid hW3; clear hN hN1 hN2 hW3)
 obtain ⟨W4, hW4⟩ : ∃ W4, W4 = w3.alloc (.cells #[.int .i64 t.vars, .slice so t.order.length co, .slice sr t.rows.length cr, .int .i64 t.next, .int .u64 (t.nf : Int)] 26) := ⟨_, rfl⟩
 have t4 : Tc [] w3 W4 := by rw [hW4]; exact (Tc.refl [] w3).alloc _
 have h9 : W4.heap[w3.heap.size]? = some (.cells #[.int .i64 t.vars, .slice so t.order.length co, .slice sr t.rows.length cr, .int .i64 t.next, .int .u64 (t.nf : Int)] 26 (0, 0)) := by rw [hW4]; exact heap_alloc_new w3 _
 rw [← hW4]
 obtain ⟨F3, S3, t3, f3⟩ := HW3.out
 have hb3 := (t3.block _ (ltB HB2.out) (by simpa using hn1)).trans HB2.out
 have hb4 := (t4.block _ (ltB hb3) (by simp)).trans hb3
 have c9 := fun i => cRw h9 i
 have c4 := fun i => cRw hb4 i
 have u4 := fun i => uRw hb4 i
 obtain ⟨W5, e5, hr5, t5⟩ := box5 hb4 (.int .i64 t.vars) (.slice so t.order.length co) (.slice sr t.rows.length cr) (.int .i64 t.next) (.int .u64 (t.nf : Int))
 have HE5 := hid e5
 have H5 := hid hr5
 have HX := hid (And.intro S3 (And.intro t3 (And.intro f3 (And.intro t4 t5))))
 generalize w3.heap.size = q9 at *
 clear hW4 S3 t3 f3 t4 t5 e5 hr5 hb3 hb4 h9 HTE
 go_wp2_with fail
 rw [← HE5.out]
 have q5 := fun i => cRw H5.out i
 refine bodyPost_ret (v := .tuple #[tblV t so sr co cr, .int .u64 (gen : Int), .int .i64 0]) (by simp [results, Tryz.results20, go_sem, q5, tblV]) rfl ?_
 obtain ⟨S3, t3, f3, t4, t5⟩ := HX.out
 have hn3 : w.heap.size ∉ F3 := fun hx => by
  rcases f3 _ hx with h | h
  ·exact hn1 h
  ·omega
 have t45 : Tc [w.heap.size] _ W5 := (t4.mono (by simp)).trans t5 (fun y hy => .inl hy)
 have hlo := hroom
 have tw2 : Tc F w w2 := (HT0.out.mono (by simp)).trans (HTt1.out.trans HT2.out (by simp)) (fun y hy => .inl (by simpa using hy))
 refine ⟨_, rfl, ⟨so, sr, co, cr, rfl, HN.out.1.touch t45 (fun a ha hx => ?_) (fun a ha hx => ?_), fun a ha => Nat.le_trans (Nat.le_of_lt hq0) (HN.out.2.1 a ha), fun a ha => Nat.le_trans (Nat.le_of_lt hq0) (HN.out.2.2 a ha)⟩, F3, S3.touch t45 (fun y hy => ?_), ?_, fun y hy => ?_⟩
 ·have := HN.out.2.1 a ha
  simp at hx; omega
 ·have := HN.out.2.2 a ha
  simp at hx; omega
 ·simp at hy; subst hy; exact ⟨hn3, hlo⟩
 ·have f13 : ∀ y ∈ [] ++ F1, y ∈ F ∨ w.heap.size ≤ y := fun y hy => by
   rcases HF1.out y (by simpa using hy) with h | h
   ·exact .inl h
   ·exact .inr (Nat.le_trans HT0.out.size h)
  exact ((tw2.trans t3 f13).trans t45 (fun y hy => by simp at hy; subst hy; exact .inr (Nat.le_refl _))).mono (by simp)
 ·rcases f3 y hy with h | h
  ·rcases HF1.out y h with h | h
   ·exact .inl h
   ·exact .inr (Nat.le_trans HT0.out.size h)
  ·exact .inr (by omega)
end
theorem wpList_app (t : TypeId) (w : World) {ops : Array Oper} {rest : List Oper} {o : Oper} {a : Act} {Q : Exit → Act → World → Prop} (hgd : o.guard = none) (s x : Operand)
  (hop : o.op = Op.call { callee := Callee.builtin Builtin.append, args := #[s, x], argTypes := #[t, t] }) {sv xv v : Value} {w' : World} (hs : a.eval s = sv) (hx : a.eval x = xv) (hrun : (Builtin.append_ #[t, t] o.type #[sv, xv]).run Tryz.prog w = .ok v w')
  (hK : wpList Tryz.prog ops Q rest (a.put o.dst v) w') : wpList Tryz.prog ops Q (o :: rest) a w := by
 refine wpList_plain hgd fun K' hK' => ?_
 unfold Oper.wp
 simp [execOp, hop, resolve, invoke, builtin, hs, hx, hrun, Result.andThen]
 exact hK' _ _ hK
section
variable {w w' : World} {sa : Option Addr}
variable {t : Tbl} {so sr : Option Addr} {co cr : Nat}
end
theorem flatR_snoc (a : List Rc) (r : Rc) : flatR (a ++ [r]) = flatR a ++ [r.1, r.2.1, r.2.2.1, r.2.2.2] := by simp [flatR, Rc.words]
theorem part_snoc {l : List Rc} {q m k : Nat} {K : Nat} (hk : k < l.length) (he : k = q * K + m) : (l.drop (q * K)).take m ++ [l[k]] = (l.drop (q * K)).take (m + 1) := by
 subst he
 have h1 : m < (l.drop (q * K)).length := by rw [List.length_drop]; omega
 rw [List.take_succ_eq_append_getElem h1]
 simp
theorem div_next {k K : Nat} (hK : 1 ≤ K) (h : k % K + 1 < K) : (k + 1) / K = k / K ∧ (k + 1) % K = k % K + 1 := by
 have e := Nat.div_add_mod k K
 have h1 : k + 1 = (k % K + 1) + K * (k / K) := by omega
 constructor
 ·rw [h1, Nat.add_mul_div_left _ _ (by omega), Nat.div_eq_of_lt h]; omega
 ·rw [h1, Nat.add_mul_mod_self_left, Nat.mod_eq_of_lt h]
theorem div_full {k K : Nat} (hK : 1 ≤ K) (h : k % K + 1 = K) : (k + 1) / K = k / K + 1 ∧ (k + 1) % K = 0 := by
 have e := Nat.div_add_mod k K
 have h1 : k + 1 = K * (k / K + 1) := by rw [Nat.mul_succ]; omega
 constructor
 ·rw [h1, Nat.mul_div_cancel_left _ (by omega)]
 ·rw [h1, Nat.mul_mod_right]
theorem nBlocks_zero {K len : Nat} (hK : 1 ≤ K) (h : len % K = 0) : nBk K len = len / K := by
 unfold nBk
 have e := Nat.div_add_mod len K
 have h1 : len + K - 1 = (K - 1) + K * (len / K) := by omega
 rw [h1, Nat.add_mul_div_left _ _ (by omega), Nat.div_eq_of_lt (by omega)]
 omega
theorem nBlocks_rest {K len : Nat} (hK : 1 ≤ K) (h : len % K ≠ 0) : nBk K len = len / K + 1 := by
 unfold nBk
 have e := Nat.div_add_mod len K
 have hl := Nat.mod_lt len (show 0 < K by omega)
 have h1 : len + K - 1 = (len % K - 1) + K * (len / K + 1) := by rw [Nat.mul_succ]; omega
 rw [h1, Nat.add_mul_div_left _ _ (by omega), Nat.div_eq_of_lt (by omega)]
 omega
structure NewF (A : PubA) (x : ByteArray) : Prop where
 on : A.on = true
 name : nameB x = true
 none : findA A.files (nm x) = none
def mostX (A : PubA) (m : Nat) : Int := if m = 0 then A.c.most else max A.c.most (A.c.used + (m : Int))
def mkX (A : PubA) (x : ByteArray) (sealed : Bool) (bs : List (List UInt8)) (c : Int) : PubA :=
 { A with files := insA (nm x, ⟨sealed, bs⟩) A.files, c := { A.c with calls := A.c.calls + c, appends := A.c.appends + (bs.length : Int), used := A.c.used + (bs.length : Int), most := mostX A bs.length } }
theorem find_absent {k : List UInt8} : ∀ {l : List (List UInt8 × FlA)}, findA l k = none → ∀ e ∈ l, e.1 ≠ k
 | [], _, e, he => by cases he
 | a :: l, h, e, he => by
  by_cases ha : a.1 = k
  ·simp [findA, ha] at h
  ·have h' : findA l k = none := by simpa [findA, ha] using h
   rcases List.mem_cons.1 he with rfl | he
   ·exact ha
   ·exact find_absent h' e he
theorem find_ins {k : List UInt8} {f : FlA} : ∀ {l : List (List UInt8 × FlA)}, findA l k = none → findA (insA (k, f) l) k = some f
 | [], _ => by simp [insA, findA]
 | a :: l, h => by
  have ha := find_absent h a (by simp)
  have h' : findA l k = none := by simpa [findA, ha] using h
  unfold insA
  split
  ·simp [findA]
  ·have := find_ins (f := f) h'
   simpa [findA, ha] using this
theorem set_ins {k : List UInt8} {f f' : FlA} : ∀ {l : List (List UInt8 × FlA)}, findA l k = none → setA k f' (insA (k, f) l) = insA (k, f') l
 | [], _ => by simp [insA, setA]
 | a :: l, h => by
  have ha := find_absent h a (by simp)
  have h' : findA l k = none := by simpa [findA, ha] using h
  have h2 : setA k f' l = l := set_absent (find_absent h')
  have h3 : setA k f' (a :: l) = a :: l := set_absent (find_absent h)
  unfold insA
  split
  ·show (if k = k then (k, f') else (k, f)) :: setA k f' (a :: l) = (k, f') :: a :: l
   rw [if_pos rfl, h3]
  ·show (if a.1 = k then (a.1, f') else a) :: setA k f' (insA (k, f) l) = a :: insA (k, f') l
   rw [if_neg ha, set_ins h']
section
variable {A : PubA} {x : ByteArray} {bs : List (List UInt8)} {c : Int}
theorem create_x (h : NewF A x) : createB x noTr A = (0, mkX A x false [] 1) := by
 have e : createA x A = (0, mkX A x false [] 1) := by
  unfold createA
  rw [if_pos h.name, h.none]
  simp [mkX, mostX]
 unfold createB befX
 rw [if_pos h.on, e]
 simp
theorem append_x (h : NewF A x) {bl : List UInt8} (hl : bl.length = A.B) (hr : A.c.used + (bs.length : Int) < A.Bs) : appendB x bl noTr (mkX A x false bs c) = (0, mkX A x false (bs ++ [bl]) (c + 1)) := by
 have h1 : (mkX A x false bs c).on = true := h.on
 have h2 : findA (mkX A x false bs c).files (nm x) = some ⟨false, bs⟩ := find_ins h.none
 have e : appendA x bl (mkX A x false bs c) = (0, mkX A x false (bs ++ [bl]) (c + 1)) := by
  unfold appendA
  rw [if_pos h.name, h2]
  have h3 : ¬ (bl.length ≠ (mkX A x false bs c).B) := by simp [mkX, hl]
  have h4 : ¬ ((mkX A x false bs c).Bs ≤ (mkX A x false bs c).c.used) := by simp only [mkX]; omega
  simp only [Bool.false_eq_true, if_false, if_neg h3, if_neg h4]
  simp only [mkX, set_ins h.none, List.length_append, List.length_cons, List.length_nil]
  simp only [Prod.mk.injEq, true_and, PubA.mk.injEq, Cnt.mk.injEq, and_true]
  refine ⟨by omega, by omega, by omega, ?_⟩
  unfold mostX
  split <;> rename_i h0
  ·simp [h0]
  ·rw [if_neg (by omega)]
   omega
 unfold appendB befX
 rw [if_pos h1, e]
 simp
theorem seal_x (h : NewF A x) : sealB x noTr (mkX A x false bs c) = (0, mkX A x true bs (c + 1)) := by
 have h1 : (mkX A x false bs c).on = true := h.on
 have h2 : findA (mkX A x false bs c).files (nm x) = some ⟨false, bs⟩ := find_ins h.none
 have e : sealA x (mkX A x false bs c) = (0, mkX A x true bs (c + 1)) := by
  unfold sealA
  rw [if_pos h.name, h2]
  simp [mkX, set_ins h.none, Int.add_assoc]
 unfold sealB befX
 rw [if_pos h1, e]
 simp
theorem hold_new (h : NewF A x) {s : Pu.St} {K kind : Int} (hk : 1 ≤ kind ∧ kind ≤ 5) (hl : Pu.leaveE s K = 0) : holdE A s K kind [] [x] = 0 := by
 unfold holdE
 rw [if_neg (by omega)]
 have : readyE A [] [x] = 0 := by
  have hm : makeE A x = 0 := by
   have hle : lnB x A = (0, false, 12) := by
    unfold lnB lengthA
    rw [if_pos h.on, if_pos h.name, h.none]
   unfold makeE
   rw [hle]
   rfl
  unfold readyE
  rw [if_neg (by simp [h.on]), readyOut_cons hm (by simp)]
  simp [readyOut, readyIn]
 rw [this]
 simp [hl]
end
structure LayOk (b : Bn) (A : PubA) (x : ByteArray) (kind K : Nat) (l : List Rc) : Prop where
 nil : b.l = []
 new : NewF A x
 fit : Fits A K
 hK : 1 ≤ K ∧ K ≤ 2047
 k1 : 1 ≤ kind
 k2 : kind ≤ 5
 small : smallR l
 len : l.length ≤ 1048576
 space : A.c.used + (nBk K l.length : Nat) ≤ A.Bs
theorem LayOk.B {b : Bn} {A : PubA} {x : ByteArray} {kind K : Nat} {l : List Rc} (C : LayOk b A x kind K l) : A.B = 32 + 32 * K := by
 have h1 := C.fit.h64
 have h2 := C.fit.h32
 have h3 := C.fit.k
 omega
theorem fits_mkX {A : PubA} {K : Nat} (h : Fits A K) {x : ByteArray} {sl : Bool} {bs : List (List UInt8)} {c : Int} : Fits (mkX A x sl bs c) K := ⟨h.h64, h.hmax, h.h32, h.k⟩
structure LayX (w W : World) (b : Bn) (n : Nat) (A : PubA) (x : ByteArray) (s : Pu.St) (F F' : List Nat) (kb wb g kind K : Nat) (l : List Rc) (k : Nat) : Prop where
 S : Std W b (n + 1 + k) (mkX A x false (bkO kind K A.B l (k / K)) (1 + (k / K : Nat))) (s.take K) F'
 t : Tc F w W
 f : ∀ y ∈ F', y ∈ F ∨ w.heap.size ≤ y
 nw : wb ∉ F'
 ng : g ∉ F'
 row : W.heap[wb]? = some (.cells (wrow kb x kind g (k % K) K 0 (k / K) (k : Int)) 226 (0, 0))
 list : ∃ rest, Rx.WRow W g (flatR ((l.drop (k / K * K)).take (k % K)) ++ rest) ∧ rest.length + 4 * (k % K) = 4 * K
section
variable {w w' X X' : World} {b : Bn} {n : Nat} {A : PubA} {x : ByteArray} {s : Pu.St} {F F' G : List Nat} {kb wb g kind K : Nat} {T : Int} {l : List Rc} {j : Nat}
theorem LayX.touch (I : LayX w X b n A x s F F' kb wb g kind K l j) (q : Tc G X X') (hG : ∀ y ∈ G, y ∉ F' ∧ b.lo ≤ y ∧ y ≠ wb ∧ y ≠ g ∧ w.heap.size ≤ y) : LayX w X' b n A x s F F' kb wb g kind K l j := by
 obtain ⟨rest, h1, h2⟩ := I.list
 refine ⟨I.S.touch q (fun y hy => ⟨(hG y hy).1, (hG y hy).2.1⟩), I.t.trans q (fun y hy => .inr (hG y hy).2.2.2.2), I.f, I.nw, I.ng, (q.block wb (ltB I.row) (fun h => (hG _ h).2.2.1 rfl)).trans I.row, rest, (q.block g (ltB h1) (fun h => (hG _ h).2.2.2.1 rfl)).trans h1, h2⟩
set_option maxHeartbeats 1000000 in
theorem lay_stepX (I : LayX w X b n A x s F F' kb wb g kind K l j) (C : LayOk b A x kind K l) (hn : n < 549755813888) (hk : DkA w kb b (K : Int) T) (hkF : kb ∉ F) (hj : j < l.length) (hwb : w.heap.size ≤ wb) (hg : w.heap.size ≤ g) (hne : wb ≠ g) (hlo : b.lo ≤ w.heap.size) :
  Calls Tryz.prog 101 #[ptr wb, (l[j]).val] X fun e X' => e = .returned (.int .i64 0) ∧ ∃ F2, LayX w X' b n A x s F F2 kb wb g kind K l (j + 1) ∧ Tc (wb :: g :: F') X X' ∧ ∀ y ∈ F2, y ∈ F' ∨ X.heap.size ≤ y := by
 obtain ⟨S, t, f, n1, n2, row, rest, hws, hr⟩ := I
 have hkw := ltB hk
 have hkW := hk.touch t hkF
 have hK := C.hK
 have hB := C.B
 have hlen := C.len
 have hs := C.small
 have e := Nat.div_add_mod j K
 have hmod := Nat.mod_lt j (show 0 < K by omega)
 have he : j = j / K * K + j % K := by rw [Nat.mul_comm]; omega
 have hpl : ((l.drop (j / K * K)).take (j % K)).length = j % K := by rw [List.length_take, List.length_drop]; omega
 have hfl : (flatR ((l.drop (j / K * K)).take (j % K))).length = 4 * (j % K) := by rw [flatR_length, hpl]
 have hqk : j / K ≤ j := Nat.div_le_self j K
 have hkn : kb ∉ F' := fun hx => by
  rcases f _ hx with h | h
  ·exact hkF h
  ·omega
 have hts := t.size
 by_cases hm : j % K + 1 < K
 ·obtain ⟨d1, d2⟩ := div_next hK.1 hm
  have P := Put_room (x := x) (g := g) hkW row (by omega) hws (by omega) (by omega) hfl hr hm (show j < 1099511627776 by omega) l[j].1 l[j].2.1 l[j].2.2.1 l[j].2.2.2
  refine P.mono fun e w' ⟨e1, t1, r1, w1⟩ => ⟨e1, F', ?_, t1.mono (by simp), fun y hy => .inl hy⟩
  have hG : ∀ y ∈ [wb, g], y ∉ F' ∧ b.lo ≤ y := by
   intro y hy
   simp at hy
   rcases hy with rfl | rfl
   ·exact ⟨n1, by omega⟩
   ·exact ⟨n2, by omega⟩
  refine ⟨?_, t.trans t1 (fun y hy => by simp at hy; rcases hy with rfl | rfl <;> exact .inr (by omega)), f, n1, n2, ?_, rest.drop 4, ?_, ?_⟩
  ·rw [d1]
   exact (S.touch t1 hG).mono (by omega)
  ·rw [d1, d2]; exact r1
  ·rw [d1, d2, ← part_snoc hj he, flatR_snoc]; exact w1
  ·rw [d2, List.length_drop]; omega
 ·have hm' : j % K + 1 = K := by omega
  obtain ⟨d1, d2⟩ := div_full hK.1 hm'
  have hch : flatR ((l.drop (j / K * K)).take (j % K)) ++ [l[j].1, l[j].2.1, l[j].2.2.1, l[j].2.2.2] = flatR (chunk K (j / K) l) := by
   rw [← flatR_snoc, part_snoc hj he, hm']
   rfl
  have hcl : (chunk K (j / K) l).length = K := by
   unfold chunk
   rw [List.length_take, List.length_drop]
   omega
  have hel : (encU kind (j / K) (flatR (chunk K (j / K) l)) A.B).length = A.B := encU_length (by rw [flatR_length, hcl]; omega)
  have hnb : j / K < nBk K l.length := by
   have h1 := nBlocks_le (len := l.length) hK.1
   have h2 : j / K * K < nBk K l.length * K := by omega
   exact Nat.lt_of_mul_lt_mul_right h2
  have hsp := C.space
  have hap := append_x (bs := bkO kind K A.B l (j / K)) (c := 1 + (j / K : Nat)) C.new hel (by rw [blocksOf_length]; omega)
  have htr : b.tr (mkX A x false (bkO kind K A.B l (j / K)) (1 + (j / K : Nat))) = noTr := tr_nil C.nil _
  have hsm1 : ∀ y ∈ flatR ((l.drop (j / K * K)).take (j % K)), y < 18446744073709551616 := flatR_mem (fun r hr => List.mem_of_mem_drop (List.mem_of_mem_take hr)) hs
  have hsm2 : ∀ y ∈ flatR [l[j]], y < 18446744073709551616 := flatR_mem (fun r hr => by simp at hr; subst hr; exact List.getElem_mem hj) hs
  have hB2 : (mkX A x false (bkO kind K A.B l (j / K)) (1 + (j / K : Nat))).B = A.B := rfl
  have P := Put_full (x := x) (g := g) (K := K) (n := n + 1 + j) (T := T) (kb := kb) (wb := wb) (kind := kind) (blocks := j / K) (m := j % K) (count := j) (r0 := l[j].1) (r1 := l[j].2.1) (r2 := l[j].2.2.1) (r3 := l[j].2.2.2) (ws := flatR ((l.drop (j / K * K)).take (j % K))) (rest := rest) S (by omega)
   (fits_mkX C.fit) hkn n1 n2 (by omega) (by omega) C.k1 C.k2 (by omega) hsm1
   ⟨hsm2 _ (by simp [flatR, Rc.words]), hsm2 _ (by simp [flatR, Rc.words]), hsm2 _ (by simp [flatR, Rc.words]), hsm2 _ (by simp [flatR, Rc.words])⟩
   (by rw [hch, htr, hB2, hap]) hkW row (by omega) hws (by omega) (by omega) hfl hr hm' (by omega)
  rw [hch, htr, hB2, hap] at P
  refine P.mono fun e w' ⟨e1, hg1, r1, l', wl, hl'⟩ => ⟨e1, ?_⟩
  obtain ⟨F2, S2, t2, f2⟩ := hg1
  have q1 : ∀ y, y ∉ F' → y < X.heap.size → y ∉ F2 := fun y h1 h2 hx => by
   rcases f2 _ hx with h | h
   ·exact h1 h
   ·omega
  refine ⟨F2, ⟨?_, t.trans t2 (fun y hy => ?_), fun y hy => ?_, q1 wb n1 (ltB row), q1 g n2 (ltB hws), ?_, l', ?_, ?_⟩, t2.mono (by simp), f2⟩
  ·rw [d1, blocksOf_succ]
   have : ((1 : Int) + ((j / K + 1 : Nat) : Int)) = 1 + ((j / K : Nat) : Int) + 1 := by omega
   rw [this]
   exact S2.mono (by omega)
  ·rcases List.mem_append.1 hy with h | h
   ·simp at h; rcases h with rfl | rfl <;> exact .inr (by omega)
   ·exact f y h
  ·rcases f2 y hy with h | h
   ·exact f y h
   ·exact .inr (by omega)
  ·rw [d1, d2]; exact r1
  ·rw [d2]; simpa [flatR] using wl
  ·rw [d2]; omega
set_option maxHeartbeats 1000000 in
theorem lay_closeX (I : LayX w X b n A x s F F' kb wb g kind K l l.length) (C : LayOk b A x kind K l) (hn : n < 549755813888) (hk : DkA w kb b (K : Int) T) (hkF : kb ∉ F) (hwb : w.heap.size ≤ wb) (hg : w.heap.size ≤ g) (hne : wb ≠ g) (hlo : b.lo ≤ w.heap.size) :
  Calls Tryz.prog 102 #[ptr wb] X fun e X' => e = .returned (.int .i64 0) ∧ Went X X' b (n + l.length + 3) (mkX A x true (bkO kind K A.B l (nBk K l.length)) (2 + (nBk K l.length : Nat))) ((s.take K).give K) F' [wb] := by
 obtain ⟨S, t, f, n1, n2, row, rest, hws, hr⟩ := I
 have hkw := ltB hk
 have hkW := hk.touch t hkF
 have hK := C.hK
 have hB := C.B
 have hlen := C.len
 have hs := C.small
 have e := Nat.div_add_mod l.length K
 have hmod := Nat.mod_lt l.length (show 0 < K by omega)
 have hq : l.length / K ≤ l.length := Nat.div_le_self _ _
 have he : l.length = l.length / K * K + l.length % K := by rw [Nat.mul_comm]; omega
 have hkn : kb ∉ F' := fun hx => by
  rcases f _ hx with h | h
  ·exact hkF h
  ·omega
 have hts := t.size
 have fin : ∀ {w'' : World} {n1 : Nat} {A1 : PubA} {s1 : Pu.St}, n1 ≤ n + l.length + 3 → Went X w'' b n1 A1 s1 F' [wb] → Went X w'' b (n + l.length + 3) A1 s1 F' [wb] := fun hn ⟨F2, S2, t2, f2⟩ => ⟨F2, S2.mono hn, t2, f2⟩
 by_cases h0 : l.length % K = 0
 ·have hn := nBlocks_zero hK.1 h0
  rw [h0] at row
  have P := Close_empty S (by omega) hkW hkn row n1 (by omega) (by omega)
  rw [tr_nil C.nil, seal_x C.new] at P
  refine P.mono fun e w' ⟨e1, hg1⟩ => ⟨e1, ?_⟩
  rw [hn]
  have e2 : ((2 : Int) + ((l.length / K : Nat) : Int)) = 1 + ((l.length / K : Nat) : Int) + 1 := by omega
  rw [e2]
  exact fin (by omega) hg1
 ·have hn := nBlocks_rest hK.1 h0
  have hpl : ((l.drop (l.length / K * K)).take (l.length % K)).length = l.length % K := by rw [List.length_take, List.length_drop]; omega
  have hfl : (flatR ((l.drop (l.length / K * K)).take (l.length % K))).length = 4 * (l.length % K) := by rw [flatR_length, hpl]
  have hch : (l.drop (l.length / K * K)).take (l.length % K) = chunk K (l.length / K) l := by
   unfold chunk
   rw [List.take_of_length_le (by rw [List.length_drop]; omega), List.take_of_length_le (by rw [List.length_drop]; omega)]
  rw [hch] at hpl hfl hws
  have hel : (encU kind (l.length / K) (flatR (chunk K (l.length / K) l)) A.B).length = A.B := encU_length (by rw [hfl]; omega)
  have hsp := C.space
  have hap := append_x (bs := bkO kind K A.B l (l.length / K)) (c := 1 + (l.length / K : Nat)) C.new hel (by rw [blocksOf_length]; omega)
  have htr := tr_nil C.nil
  have hsm : ∀ y ∈ flatR (chunk K (l.length / K) l), y < 18446744073709551616 := flatR_mem (fun r hr => List.mem_of_mem_drop (List.mem_of_mem_take hr)) hs
  have hwd : Rx.Wd X g 0 (flatR (chunk K (l.length / K) l)) := fun i hi => by
   have := hws.wd i (by rw [List.length_append]; omega)
   rw [List.getElem_append_left hi] at this
   exact this
  have hB2 : (mkX A x false (bkO kind K A.B l (l.length / K)) (1 + (l.length / K : Nat))).B = A.B := rfl
  have P := Close_rest (x := x) (T := T) (kb := kb) (m := l.length % K) (kind := kind) (blocks := l.length / K) S (by omega) hkW hkn row n1 (by omega) (by omega) (fits_mkX C.fit) hwd (ltB hws) n2 (by omega) hfl (by omega) (by omega) hsm C.k1 C.k2 (by omega)
   (by rw [htr, hB2, hap])
  rw [htr, htr, hB2, hap, ← blocksOf_succ, seal_x C.new] at P
  refine P.mono fun e w' ⟨e1, hg1⟩ => ⟨e1, ?_⟩
  rw [hn]
  have e2 : ((2 : Int) + ((l.length / K + 1 : Nat) : Int)) = 1 + ((l.length / K : Nat) : Int) + 1 + 1 := by omega
  rw [e2]
  exact fin (by omega) hg1
end
attribute [local go_sem] Oper.semAt_some
theorem nilq1 (d : Nat) (l : Array Value) (W : World) : (Op.equalIn (d + 1) 173 (.func (.func 147) #[] l) .nilFunc).run Tryz.prog W = .ok false W := by
 simp [Op.equalIn, Sem.run_bind, underlying, go_sem, Tryz.underlying173, Result.andThen]
theorem nilq (l : Array Value) (W : World) : (binOp .eql 173 (.func (.func 147) #[] l) .nilFunc).run Tryz.prog W = .ok (.bool false) W := by
 have h : (Op.equal 173 (.func (.func 147) #[] l) .nilFunc).run Tryz.prog W = .ok false W := nilq1 9999 l W
 simp [binOp, go_sem, h]
theorem TblAt.touch2 {w w' : World} {t : Tbl} {so sr : Option Addr} {G : List Nat} (h : TblAt w t so sr) (ht : Tc G w w') (h1 : ∀ a, so = some a → t.order ≠ [] → a.block ∉ G) (h2 : ∀ a, sr = some a → t.rows ≠ [] → a.block ∉ G) : TblAt w' t so sr := by
 refine ⟨?_, ?_, h.ol, h.rl, h.vars, h.next, h.nf, h.oi, h.ri⟩
 ·by_cases e : t.order = []
  ·rw [e]; exact IntsAt.nil _ _
  ·exact h.ints.touch ht (fun a ha => h1 a ha e)
 ·by_cases e : t.rows = []
  ·rw [e]; exact RowsAt.nil _ _
  ·exact h.rows.touch ht (fun a ha => h2 a ha e)
structure WrJ (w X : World) (b : Bn) (n : Nat) (A : PubA) (x : ByteArray) (s : Pu.St) (F : List Nat) (kb wb g K : Nat) (t : Tbl) (gen : Nat) (so sr : Option Addr) (co cr : Nat) (wbx ebx b1 b2 L D : Nat) (rec : Loop) (F' : List Nat) (j : Nat) : Prop where
 lay : LayX w X b n A x s F F' kb wb g 5 K (recsN t gen) j
 wv : X.heap[wbx]? = some (.cells #[ptr wb] 169 (0, 0))
 ev : X.heap[ebx]? = some (.cells #[.int .i64 0] 46 (0, 0))
 r1 : X.heap[b1]? = some (.cells (tblC t so sr co cr) 26 (0, 0))
 r2 : X.heap[b2]? = some (.cells #[.int .u64 (gen : Int)] 24 (0, 0))
 tbl : TblAt X t so sr
 l : X.heap[L]? = some (.loop rec)
 d : X.heap[D]? = some (.deferred (some []))
 apart : ∀ y ∈ [wbx, ebx, b1, b2, L, D], y ∉ F' ∧ y ≠ wb ∧ y ≠ g
 ho : ∀ a, so = some a → t.order ≠ [] → a.block ∉ F' ∧ a.block < w.heap.size
 hr : ∀ a, sr = some a → t.rows ≠ [] → a.block ∉ F' ∧ a.block < w.heap.size
section
variable {w X X' : World} {b : Bn} {n : Nat} {A : PubA} {x : ByteArray} {s : Pu.St} {F F' F2 G : List Nat} {kb wb g K : Nat} {T : Int} {t : Tbl} {gen : Nat} {so sr : Option Addr} {co cr : Nat} {wbx ebx b1 b2 L D : Nat} {rec rec' : Loop} {j : Nat}
theorem WrJ.touch (I : WrJ w X b n A x s F kb wb g K t gen so sr co cr wbx ebx b1 b2 L D rec F' j) (q : Tc G X X') (hG : ∀ y ∈ G, y ∉ F' ∧ b.lo ≤ y ∧ y ≠ wb ∧ y ≠ g ∧ w.heap.size ≤ y ∧ y ∉ [wbx, ebx, b1, b2, L, D]) :
  WrJ w X' b n A x s F kb wb g K t gen so sr co cr wbx ebx b1 b2 L D rec F' j := by
 have h : ∀ y ∈ [wbx, ebx, b1, b2, L, D], y ∉ G := fun y hy hG' => (hG y hG').2.2.2.2.2 hy
 refine ⟨I.lay.touch q (fun y hy => ⟨(hG y hy).1, (hG y hy).2.1, (hG y hy).2.2.1, (hG y hy).2.2.2.1, (hG y hy).2.2.2.2.1⟩), (q.block _ (ltB I.wv) (h _ (by simp))).trans I.wv, (q.block _ (ltB I.ev) (h _ (by simp))).trans I.ev, (q.block _ (ltB I.r1) (h _ (by simp))).trans I.r1, (q.block _ (ltB I.r2) (h _ (by simp))).trans I.r2, I.tbl.touch2 q (fun a ha hne hx => ?_) (fun a ha hne hx => ?_), (q.block _ (ltB I.l) (h _ (by simp))).trans I.l, (q.block _ (ltB I.d) (h _ (by simp))).trans I.d, I.apart, I.ho, I.hr⟩
 ·have := (I.ho a ha hne).2; have := (hG _ hx).2.2.2.2.1; omega
 ·have := (I.hr a ha hne).2; have := (hG _ hx).2.2.2.2.1; omega
theorem WrJ.quiet (I : WrJ w X b n A x s F kb wb g K t gen so sr co cr wbx ebx b1 b2 L D rec F' j) (q : Tc [] X X') : WrJ w X' b n A x s F kb wb g K t gen so sr co cr wbx ebx b1 b2 L D rec F' j := I.touch q (by simp)
theorem WrJ.loop (I : WrJ w X b n A x s F kb wb g K t gen so sr co cr wbx ebx b1 b2 L D rec F' j) (hL : w.heap.size ≤ L) (hlo : b.lo ≤ L) (hne : L ∉ [wbx, ebx, b1, b2, D]) : WrJ w (X.putObj L (.loop rec')) b n A x s F kb wb g K t gen so sr co cr wbx ebx b1 b2 L D rec' F' j := by
 have q : Tc [L] X (X.putObj L (.loop rec')) := (Tc.refl [L] X).putObj _ (by simp)
 have ap := I.apart L (by simp)
 have h : ∀ y ∈ [wbx, ebx, b1, b2, D], y ∉ [L] := fun y hy hx => by simp at hx; subst hx; exact hne hy
 refine ⟨I.lay.touch q (fun y hy => by simp at hy; subst hy; exact ⟨ap.1, hlo, ap.2.1, ap.2.2, hL⟩), (q.block _ (ltB I.wv) (h _ (by simp))).trans I.wv, (q.block _ (ltB I.ev) (h _ (by simp))).trans I.ev, (q.block _ (ltB I.r1) (h _ (by simp))).trans I.r1, (q.block _ (ltB I.r2) (h _ (by simp))).trans I.r2, I.tbl.touch2 q (fun a ha hne hx => ?_) (fun a ha hne hx => ?_), World.putObj_heap_same (ltB I.l), (q.block _ (ltB I.d) (h _ (by simp))).trans I.d, I.apart, I.ho, I.hr⟩
 ·simp at hx; have := (I.ho a ha hne).2; omega
 ·simp at hx; have := (I.hr a ha hne).2; omega
theorem WrJ.put (I : WrJ w X b n A x s F kb wb g K t gen so sr co cr wbx ebx b1 b2 L D rec F' j) (C : LayOk b A x 5 K (recsN t gen)) (hn : n < 549755813888) (hk : DkA w kb b (K : Int) T) (hkF : kb ∉ F) (hj : j < (recsN t gen).length) (hwb : w.heap.size ≤ wb) (hg : w.heap.size ≤ g) (hne : wb ≠ g) (hlo : b.lo ≤ w.heap.size) :
  Calls Tryz.prog 101 #[ptr wb, Rc.val (recsN t gen)[j]] X fun e X' => e = .returned (.int .i64 0) ∧ ∃ F2, WrJ w X' b n A x s F kb wb g K t gen so sr co cr wbx ebx b1 b2 L D rec F2 (j + 1) := by
 refine (lay_stepX I.lay C hn hk hkF hj hwb hg hne hlo).mono fun e X' ⟨e1, F2, I2, q, f⟩ => ⟨e1, F2, ?_⟩
 have lt : ∀ y ∈ [wbx, ebx, b1, b2, L, D], y < X.heap.size := by
  intro y hy
  simp only [List.mem_cons, List.not_mem_nil, or_false] at hy
  rcases hy with rfl | rfl | rfl | rfl | rfl | rfl
  ·exact ltB I.wv
  ·exact ltB I.ev
  ·exact ltB I.r1
  ·exact ltB I.r2
  ·exact ltB I.l
  ·exact ltB I.d
 have h : ∀ y ∈ [wbx, ebx, b1, b2, L, D], y ∉ wb :: g :: F' := fun y hy hx => by
  have := I.apart y hy
  simp only [List.mem_cons] at hx
  rcases hx with h | h | h
  ·exact this.2.1 h
  ·exact this.2.2 h
  ·exact this.1 h
 have hlt := I.lay.t.size
 have nf : ∀ y, y ∉ F' → y < X.heap.size → y ∉ F2 := fun y h1 h2 hx => by
  rcases f y hx with h | h
  ·exact h1 h
  ·omega
 refine ⟨I2, (q.block _ (ltB I.wv) (h _ (by simp))).trans I.wv, (q.block _ (ltB I.ev) (h _ (by simp))).trans I.ev, (q.block _ (ltB I.r1) (h _ (by simp))).trans I.r1, (q.block _ (ltB I.r2) (h _ (by simp))).trans I.r2, I.tbl.touch2 q (fun a ha hne hx => ?_) (fun a ha hne hx => ?_), (q.block _ (ltB I.l) (h _ (by simp))).trans I.l, (q.block _ (ltB I.d) (h _ (by simp))).trans I.d, fun y hy => ⟨nf y (I.apart y hy).1 (lt y hy), (I.apart y hy).2⟩, fun a ha hne => ⟨nf _ (I.ho a ha hne).1 (by have := (I.ho a ha hne).2; omega), (I.ho a ha hne).2⟩, fun a ha hne => ⟨nf _ (I.hr a ha hne).1 (by have := (I.hr a ha hne).2; omega), (I.hr a ha hne).2⟩⟩
 ·have h2 := (I.ho a ha hne).2
  simp only [List.mem_cons] at hx
  rcases hx with h | h | h
  ·omega
  ·omega
  ·exact (I.ho a ha hne).1 h
 ·have h2 := (I.hr a ha hne).2
  simp only [List.mem_cons] at hx
  rcases hx with h | h | h
  ·omega
  ·omega
  ·exact (I.hr a ha hne).1 h
end
end Go.Proofs.YthehcjjckabljaaGreatDoor
