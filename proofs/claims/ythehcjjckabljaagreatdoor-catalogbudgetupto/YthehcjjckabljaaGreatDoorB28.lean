import Derived.Deep.RegionHeld3
import Derived.BigQuiet
import Derived.Test.YthehcjjckabljaaGreatDoorB27
namespace Go.Proofs.YthehcjjckabljaaGreatDoor
open Go.RowKit Go.Deep
set_option maxRecDepth 100000
set_option linter.unusedSimpArgs false
set_option linter.unusedVariables false
section
variable {w : World} {kv : Value} {c wr : Int} {Pr : World → World → Prop} {b : Bn} {n : Nat} {A : PubA} {s : Pu.St} {F : List Nat} {kb : Nat} {K T : Int} {t : Tbl} {so sr : Option Addr} {co cr gen : Nat}
set_option maxHeartbeats 4000000 in
theorem read_go (HW : Hid (∀ W, Tc [] w W → Calls Tryz.prog 47 #[kv, .int .i64 0, .slice none 0 0, .slice none 0 0] W fun e w' => e = .returned (.int .i64 c) ∧ Pr W w')) (HP : Hid (∀ W w', Pr W w' → w.heap.size < W.heap.size → w'.heap[w.heap.size]? = W.heap[w.heap.size]?)) (h0 : c ≠ 0) :
  Calls Tryz.prog 20 #[kv] w fun e w' => e = .returned (.tuple #[.agg zer5, .int .u64 0, .int .i64 c]) ∧ ∃ W w1, Tc [] w W ∧ w.heap.size < W.heap.size ∧ Pr W w1 ∧ Tc [w.heap.size] w1 w' := by
 have hc1 : (c == 0) = false := by simpa using h0
 have hc2 : ¬ c = 0 := h0
 have HT0 := hid ((Tc.refl [] w).alloc (.cells zer5 26))
 have HB0 := hid (heap_alloc_new w (.cells zer5 26))
 clear h0
 go_enter Tryz.func20, Tryz.ntmps20
 go_upto_region 3 with (go_at_call 47; refine (HW.out _ HT0.out).mono ?_; rintro e w1 ⟨rfl, hp⟩; have hb1 := (HP.out _ _ hp (ltB HB0.out)).trans HB0.out; have HPR := hid hp; clear hp)
 have u4 := fun i => uRw hb1 i
 have c4 := fun i => cRw hb1 i
 obtain ⟨W5, e5, hr5, t5⟩ := box5 hb1 (.int .i64 0) (.slice none 0 0) (.slice none 0 0) (.int .i64 0) (.int .u64 0)
 have HE5 := hid e5
 have H5 := hid hr5
 have HT5 := hid t5
 clear e5 hr5 t5 hb1
 go_wp2_with fail
 rw [← HE5.out]
 have q5 := fun i => cRw H5.out i
 exact bodyPost_ret (v := .tuple #[.agg zer5, .int .u64 0, .int .i64 c]) (by simp [results, Tryz.results20, go_sem, q5, zer5]) rfl ⟨rfl, _, _, HT0.out, ltB HB0.out, HPR.out, HT5.out⟩
set_option maxHeartbeats 4000000 in
theorem recover_go (HW : Hid (∀ W, Tc [] w W → Calls Tryz.prog 20 #[kv] W fun e w' => e = .returned (.tuple #[.agg zer5, .int .u64 0, .int .i64 c]) ∧ Pr W w')) (HP : Hid (∀ W w', Pr W w' → w.heap.size < W.heap.size → w'.heap[w.heap.size]? = W.heap[w.heap.size]? ∧ W.heap.size ≤ w'.heap.size)) (h0 : c ≠ 0) :
  Calls Tryz.prog 27 #[kv] w fun e w' => e = .returned (.tuple #[.agg zer5, .int .u64 0, .int .i64 c]) ∧ ∃ W w1, Tc [] w W ∧ w.heap.size < W.heap.size ∧ Pr W w1 ∧ Tc [w.heap.size] w1 w' := by
 have hc1 : (c == 0) = false := by simpa using h0
 have hc2 : ¬ c = 0 := h0
 have HT0 := hid ((Tc.refl [] w).alloc (.cells zer5 26))
 have HB0 := hid (heap_alloc_new w (.cells zer5 26))
 clear h0
 go_enter Tryz.func27, Tryz.ntmps27
 go_upto_region 2 with (go_at_call 20; refine (HW.out _ HT0.out).mono ?_; rintro e w1 ⟨rfl, hp⟩; have hb1 := (HP.out _ _ hp (ltB HB0.out)).1.trans HB0.out; have HPR := hid hp; clear hp)
 obtain ⟨W4, hW4⟩ : ∃ W4, W4 = w1.alloc (.cells zer5 26) := ⟨_, rfl⟩
 have t4 : Tc [] w1 W4 := by rw [hW4]; exact (Tc.refl [] w1).alloc _
 rw [← hW4]
 clear hW4
 have hb4 := (t4.block _ (ltB hb1) (by simp)).trans hb1
 have u4 := fun i => uRw hb4 i
 have c4 := fun i => cRw hb4 i
 obtain ⟨W5, e5, hr5, t5⟩ := box5 hb4 (.int .i64 0) (.slice none 0 0) (.slice none 0 0) (.int .i64 0) (.int .u64 0)
 have HE5 := hid e5
 have H5 := hid hr5
 have HT5 := hid ((t4.mono (by simp)).trans t5 (fun y hy => .inl hy))
 clear e5 hr5 t5 hb1 hb4 t4
 go_wp2_with fail
 rw [← HE5.out]
 have q5 := fun i => cRw H5.out i
 exact bodyPost_ret (v := .tuple #[.agg zer5, .int .u64 0, .int .i64 c]) (by simp [results, Tryz.results27, go_sem, q5, zer5]) rfl ⟨rfl, _, _, HT0.out, ltB HB0.out, HPR.out, HT5.out⟩
set_option maxHeartbeats 8000000 in
theorem commit_go (HRF : Hid (∀ W, Tc [] w W → Calls Tryz.prog 45 #[kv, tblV t so sr co cr, .int .u64 (gen : Int)] W fun e w' => e = .returned (.int .i64 wr) ∧ Tc [] W w'))
  (HWH : Hid (∀ W sa c' li, Tc [] w W → StrsAt W sa li → li = (if wr = 0 then sortU (filesN t.rows) else []) → Calls Tryz.prog 47 #[kv, .int .i64 wr, .slice sa li.length c', .slice none 0 0] W fun e w' => e = .returned (.int .i64 c) ∧ Pr W w'))
  (h0 : c ≠ 0) (ht : TblAt w t so sr) (hT : Tabs w) :
  Calls Tryz.prog 19 #[kv, tblV t so sr co cr, .int .u64 (gen : Int)] w fun e w' => e = .returned (.int .i64 c) ∧ ∃ W, Tc [] w W ∧ Pr W w' := by
 have hc1 : (c == 0) = false := by simpa using h0
 have hc2 : ¬ c = 0 := h0
 have HFO := hid (fun W (tt : Tc [] w W) => filesOf_any (c := cr) (ht.rows.touch tt (by simp)) ht.rl (fun x hx => (ht.ri x hx).2) (hT.quiet tt))
 have HFL := hid (show (filesN t.rows).length ≤ 1099511627776 by have h3 := ht.rl; unfold filesN; rw [List.length_map]; omega)
 have HT0 := hid ((Tc.refl [] w).alloc (.cells #[.int .i64 t.vars, .slice so t.order.length co, .slice sr t.rows.length cr, .int .i64 t.next, .int .u64 (t.nf : Int)] 26))
 have HR0 := hid (heap_alloc_new w (.cells #[.int .i64 t.vars, .slice so t.order.length co, .slice sr t.rows.length cr, .int .i64 t.next, .int .u64 (t.nf : Int)] 26))
 clear h0 ht hT
 simp only [tblV] at *
 go_enter Tryz.func19, Tryz.ntmps19
 go_wp2_with (go_at_call 45; refine (HRF.out _ HT0.out).mono ?_; rintro e w1 ⟨rfl, ht1⟩; have HT1 := hid (HT0.out.trans ht1 (by simp)); have HR1 := hid ((ht1.block _ (ltB HR0.out) (by simp)).trans HR0.out); clear ht1)
 rw [run_makeMap_n w1]
 obtain ⟨mb, hmb⟩ : ∃ mb, mb = w1.heap.size := ⟨_, rfl⟩
 have hm0 : SeenAt (w1.alloc (.map #[] 0)) mb [] := ⟨.map [], by rw [hmb]; exact empty_map _ _ _ _ (heap_alloc_new w1 _), fun k => by simp [Maps.has]⟩
 obtain ⟨W2, hW2⟩ : ∃ W2, W2 = w1.alloc (.map #[] 0) := ⟨_, rfl⟩
 have t2 : Tc [] w1 W2 := by rw [hW2]; exact (Tc.refl [] w1).alloc _
 rw [← hW2] at hm0
 rw [← hW2, ← hmb]
 clear hW2 hmb
 have HM0 := hid hm0
 have HT2 := hid (HT1.out.trans t2 (by simp))
 have HR2 := hid ((t2.block _ (ltB HR1.out) (by simp)).trans HR1.out)
 clear t2 hm0
 have c2 := fun i => cRw HR2.out i
 by_cases hw : wr = 0
 ·subst hw
  rw [if_pos rfl] at HWH
  go_wp2_with (first
   |(go_at_call 47; refine (HWH.out _ _ _ _ HT4.out HSR.out rfl).mono ?_; rintro e w5 ⟨rfl, hp5⟩; have HP5 := hid hp5; clear hp5)
   |(go_at_call 48; refine (sorted_any HMB.out HFL.out).mono ?_; rintro e w4 ⟨sa, c, rfl, hsa, ht4⟩; have HSR := hid hsa; have HT4 := hid (HT3.out.trans ht4 (by simp)); clear hsa ht4)
   |(go_at_call 46; refine (HFO.out _ HT2.out).mono ?_; rintro e w3 ⟨mb, rfl, hmb, hsm, ht3⟩; have HMB := hid hsm; have HT3 := hid (HT2.out.trans ht3 (by simp)); clear hsm ht3))
  go_ret
  exact ⟨rfl, _, HT4.out, HP5.out⟩
 ·rw [if_neg hw] at HWH
  have hw1 : (wr == 0) = false := by simpa using hw
  go_wp2_with (first
   |(go_at_call 47; refine (HWH.out _ _ _ _ HT4.out HSR.out (by simp [sortU, uniq])).mono ?_; rintro e w5 ⟨rfl, hp5⟩; have HP5 := hid hp5; clear hp5)
   |(go_at_call 48; refine (sorted_any HM0.out (by simp)).mono ?_; rintro e w4 ⟨sa, c, rfl, hsa, ht4⟩; have HSR := hid hsa; have HT4 := hid (HT2.out.trans ht4 (by simp)); clear hsa ht4))
  go_ret
  exact ⟨rfl, _, HT4.out, HP5.out⟩
theorem read_nil : Calls Tryz.prog 20 #[.pointer none] w fun e w' => e = .returned (.tuple #[.agg zer5, .int .u64 0, .int .i64 1]) ∧ Tc [] w w' :=
 (read_go (Pr := fun W w' => w' = W) (hid fun W _ => whole_nil 0 _ _ W) (hid fun W w' e _ => by rw [e]) (by decide)).mono fun e w' ⟨h1, W, w1, t1, hs, e1, t2⟩ => by
  subst e1
  exact ⟨h1, t1.trans t2 (fun y hy => by rw [List.mem_singleton] at hy; exact .inr (by omega))⟩
theorem recover_nil : Calls Tryz.prog 27 #[.pointer none] w fun e w' => e = .returned (.tuple #[.agg zer5, .int .u64 0, .int .i64 1]) ∧ Tc [] w w' :=
 (recover_go (Pr := fun W w' => Tc [] W w') (hid fun W _ => read_nil) (hid fun W w' tt hs => ⟨tt.block _ hs (by simp), tt.size⟩) (by decide)).mono fun e w' ⟨h1, W, w1, t1, hs, t3, t2⟩ =>
  ⟨h1, (t1.trans t3 (by simp)).trans t2 (fun y hy => by rw [List.mem_singleton] at hy; exact .inr (by omega))⟩
theorem refusal_non (h : TblAt w t so sr) (hg : gen < 18446744073709551616) : ∃ wr, ∀ W, Tc [] w W → Calls Tryz.prog 45 #[.pointer none, tblV t so sr co cr, .int .u64 (gen : Int)] W fun e w' => e = .returned (.int .i64 wr) ∧ Tc [] W w' := by
 cases hf : fmB t with
 | false => exact ⟨_, fun W tt => refusal_form (h.touch tt (by simp) (by simp)) hg hf _⟩
 | true =>
  by_cases hl : gen = 18446744073709551615
  ·subst hl
   exact ⟨_, fun W tt => refusal_last (h.touch tt (by simp) (by simp)) hf _⟩
  ·exact ⟨_, fun W tt => refusal_nil (h.touch tt (by simp) (by simp)) (by omega) hf⟩
theorem commit_nil (h : TblAt w t so sr) (hg : gen < 18446744073709551616) (hT : Tabs w) : Calls Tryz.prog 19 #[.pointer none, tblV t so sr co cr, .int .u64 (gen : Int)] w fun e w' => e = .returned (.int .i64 1) ∧ Tc [] w w' := by
 obtain ⟨wr, HR⟩ := refusal_non (co := co) (cr := cr) h hg
 exact (commit_go (Pr := fun W w' => w' = W) (hid HR) (hid fun W sa c' li _ _ _ => whole_nil wr _ _ W) (by decide) h hT).mono fun e w' ⟨h1, W, t1, e1⟩ => by
  subst e1
  exact ⟨h1, t1⟩
theorem refusal_all (S : Std w b n A s F) (hn : n < 1099511627776) (hk : DkA w kb b K T) (hT : Tabs w) (h : TblAt w t so sr) (hg : gen < 18446744073709551616) :
  Calls Tryz.prog 45 #[ptr kb, tblV t so sr co cr, .int .u64 (gen : Int)] w fun e w' => e = .returned (.int .i64 (refuseE (overA A gen) t gen)) ∧ Tc [] w w' := by
 cases hf : fmB t with
 | false =>
  have e : refuseE (overA A gen) t gen = 170 := by unfold refuseE; rw [if_pos hf]
  rw [e]
  exact refusal_form h hg hf _
 | true =>
  by_cases hl : gen = 18446744073709551615
  ·have e : refuseE (overA A gen) t gen = 7 := by unfold refuseE; rw [if_neg (by simp [hf]), if_pos hl]
   rw [e]
   subst hl
   exact refusal_last h hf _
  ·exact refusal_desk S hn hk hT h (by omega) hf
theorem Went.keeps {w' : World} {n' : Nat} {A' : PubA} {s' : Pu.St} {y : Nat} (h : Went w w' b n' A' s' F []) (hy : y < w.heap.size) (hF : y ∉ F) : w'.heap[y]? = w.heap[y]? := by
 obtain ⟨F1, S1, t1, f1⟩ := h
 exact t1.block y hy (by simpa using hF)
theorem read_no (S : Std w b n A s F) (hn : n < 1099511627776) (hk : DkA w kb b K T) (hkF : kb ∉ F) (hK : 0 ≤ K ∧ K ≤ 4096) (hc : wholeE A s K 0 [] [] = c) (h0 : c ≠ 0) :
  Calls Tryz.prog 20 #[ptr kb] w fun e w' => e = .returned (.tuple #[.agg zer5, .int .u64 0, .int .i64 c]) ∧ Went w w' b n A s F [] := by
 have hnF : w.heap.size ∉ F := fun h => by have := S.lt _ h; omega
 refine (read_go (kv := ptr kb) (Pr := fun W w' => Went W w' b n A s F []) (hid fun W tt => ?_) (hid fun W w' g hs => g.keeps hs hnF) h0).mono fun e w' ⟨h1, W, w1, t1, hs, g, t2⟩ => ⟨h1, ?_⟩
 ·have h := whole_any (ci := 0) (co := 0) (li := []) (lo := []) (S.quiet tt) hn (hk.touch tt (by simp)) hkF hK (StrsAt.nil _ none) (StrsAt.nil _ none) (by simp) (by simp) 0
  rw [hc] at h
  exact h
 ·obtain ⟨F1, S1, tt, f1⟩ := g
  have hn1 : w.heap.size ∉ F1 := fun hx => by
   rcases f1 _ hx with h | h
   ·exact hnF h
   ·omega
  refine ⟨F1, S1.touch t2 (fun y hy => ?_), by simpa using (((t1.mono (G := F) (by simp)).trans (show Tc F W w1 by simpa using tt) (fun y hy => .inl hy)).trans t2 (fun y hy => by rw [List.mem_singleton] at hy; exact .inr (by omega))), fun y hy => ?_⟩
  ·rw [List.mem_singleton] at hy
   subst hy
   exact ⟨hn1, S.room⟩
  ·rcases f1 y hy with h | h
   ·exact .inl h
   ·exact .inr (by omega)
theorem recover_no (S : Std w b n A s F) (hn : n < 1099511627776) (hk : DkA w kb b K T) (hkF : kb ∉ F) (hK : 0 ≤ K ∧ K ≤ 4096) (hc : wholeE A s K 0 [] [] = c) (h0 : c ≠ 0) :
  Calls Tryz.prog 27 #[ptr kb] w fun e w' => e = .returned (.tuple #[.agg zer5, .int .u64 0, .int .i64 c]) ∧ Went w w' b n A s F [] := by
 have hnF : w.heap.size ∉ F := fun h => by have := S.lt _ h; omega
 refine (recover_go (kv := ptr kb) (Pr := fun W w' => Went W w' b n A s F []) (hid fun W tt => read_no (S.quiet tt) hn (hk.touch tt (by simp)) hkF hK hc h0) (hid fun W w' g hs => ⟨g.keeps hs hnF, g.size⟩) h0).mono fun e w' ⟨h1, W, w1, t1, hs, g, t2⟩ => ⟨h1, ?_⟩
 obtain ⟨F1, S1, tt, f1⟩ := g
 have hn1 : w.heap.size ∉ F1 := fun hx => by
  rcases f1 _ hx with h | h
  ·exact hnF h
  ·omega
 refine ⟨F1, S1.touch t2 (fun y hy => ?_), by simpa using (((t1.mono (G := F) (by simp)).trans (show Tc F W w1 by simpa using tt) (fun y hy => .inl hy)).trans t2 (fun y hy => by rw [List.mem_singleton] at hy; exact .inr (by omega))), fun y hy => ?_⟩
 ·rw [List.mem_singleton] at hy
  subst hy
  exact ⟨hn1, S.room⟩
 ·rcases f1 y hy with h | h
  ·exact .inl h
  ·exact .inr (by omega)
def commitE (A : PubA) (s : Pu.St) (K : Int) (t : Tbl) (gen : Nat) : Int := wholeE A s K (refuseE (overA A gen) t gen) (if refuseE (overA A gen) t gen = 0 then sortU (filesN t.rows) else []) []
theorem commit_no (S : Std w b n A s F) (hn : n < 1099511627776) (hk : DkA w kb b K T) (hkF : kb ∉ F) (hK : 0 ≤ K ∧ K ≤ 4096) (hT : Tabs w) (h : TblAt w t so sr) (hg : gen < 18446744073709551616) (hc : commitE A s K t gen = c) (h0 : c ≠ 0) :
  Calls Tryz.prog 19 #[ptr kb, tblV t so sr co cr, .int .u64 (gen : Int)] w fun e w' => e = .returned (.int .i64 c) ∧ Went w w' b n A s F [] := by
 have hrl := h.rl
 refine (commit_go (kv := ptr kb) (Pr := fun W w' => Went W w' b n A s F []) (hid fun W tt => refusal_all (S.quiet tt) hn (hk.touch tt (by simp)) (hT.quiet tt) (h.touch tt (by simp) (by simp)) hg) (hid fun W sa c' li tt hs hl => ?_) h0 h hT).mono fun e w' ⟨h1, W, t1, g⟩ => ⟨h1, Went.pre t1 g (by simp)⟩
 have hll : li.length ≤ 1099511627776 := by
  rw [hl]
  split
  ·have := sortU_len (filesN t.rows)
   have h2 : (filesN t.rows).length = t.rows.length := by unfold filesN; simp
   omega
  ·simp
 have hw := whole_any (ci := c') (co := 0) (lo := []) (S.quiet tt) hn (hk.touch tt (by simp)) hkF hK hs (StrsAt.nil _ none) hll (by simp) (refuseE (overA A gen) t gen)
 unfold commitE at hc
 rw [← hl] at hc
 rw [hc] at hw
 exact hw
end
section
variable {w w' : World} {b : Bn} {n : Nat} {A : PubA} {s : Pu.St} {F : List Nat} {kb : Nat} {K T : Int}
theorem zero_add_nat (g k : Nat) : (⟨g, 0, none⟩ : Addr).add k = ⟨g, k, none⟩ := by unfold Addr.add; split <;> simp_all
theorem BkA.in_ {B : Nat} {sv : Value} {bs : List Nat} {blocks : List (List UInt8)} (h : BkA w B sv bs blocks) : BlIn w sv blocks := ⟨h.sliceL, fun i hi => by
 obtain ⟨G, gc, xa, xn, xc, e, c, hs⟩ := h.sh.at_ i hi
 exact ⟨⟨G, 0, none⟩, gc, xa, xn, xc, e, World.block_lt_of_cell? w ⟨G, i, none⟩ c, by rw [zero_add_nat]; exact c, hs⟩⟩
theorem StateAt.in_ {n B : Nat} {fv : Value} {l : List SFl} (h : StateAt w n B fv l) : StIn w fv l := ⟨h.sliceL, fun k e he => by
 have hk := (List.getElem?_eq_some_iff.1 he).1
 obtain ⟨g, c, hv⟩ := h.slice1 (by omega)
 obtain ⟨c0, c1, c2⟩ := h.cellsAt he hv
 refine ⟨⟨g, 0, none⟩, c, hv, World.block_lt_of_cell? w ⟨g, k * 3, none⟩ c0, ?_, ?_, ?_, (h.each e (List.mem_of_getElem? he)).in_⟩ <;> rw [zero_add_nat] <;> assumption⟩
theorem state_s (h : Std w b n A s F) (hn : n ≤ 1099511627776) : Calls Tryz.prog 32 #[ptr b.p] w fun e w' => ∃ fv l, e = .returned (.agg #[.int .i64 (A.B : Int), fv]) ∧ StIn w' fv l ∧ l.map SFl.pub = A.files ∧ Tc [] w w' := by
 obtain ⟨Fd, ⟨D, R, rfl, _⟩, _⟩ := h.disk
 exact (State_any R (h.inv.small hn)).mono fun e w' ⟨fv, l, e1, hs, hp, hb⟩ => ⟨fv, l, e1, hs.in_, hp, Tc.of_below (F := []) hb (Nat.le_refl _)⟩
theorem leave_ok {s : Pu.St} {k : Int} (h1 : 1 ≤ k) (h : k ≤ s.free) : Pu.leaveE s k = 0 := by
 unfold Pu.St.free at h
 unfold Pu.leaveE
 split at h
 ·omega
 ·next hc => rw [if_neg hc, if_neg (by omega), if_neg (by omega)]
theorem new_free {lim : Int} {lb : Nat} : (Pu.St.new lim lb).free = lim ∧ (Pu.St.new lim lb).closed = false ∧ (Pu.St.new lim lb).hand = 0 ∧ (Pu.St.new lim lb).lent = 0 ∧ (Pu.St.new lim lb).limit = lim := by
 refine ⟨?_, rfl, rfl, rfl, rfl⟩
 unfold Pu.St.free Pu.St.new
 simp
theorem take_new {lim k : Int} {lb : Nat} (h1 : 1 ≤ k) (h : k ≤ lim) : Pu.leaveE (.new lim lb) k = 0 ∧ ((Pu.St.new lim lb).take k).free = lim - k ∧ ((Pu.St.new lim lb).take k).hand + ((Pu.St.new lim lb).take k).lent = k := by
 have hl := leave_ok (s := .new lim lb) h1 (by rw [new_free.1]; exact h)
 have e : (Pu.St.new lim lb).take k = { Pu.St.new lim lb with hand := (Pu.St.new lim lb).hand + k, peak := max (Pu.St.new lim lb).peak ((Pu.St.new lim lb).hand + k + (Pu.St.new lim lb).lent) } := by unfold Pu.St.take; rw [if_pos hl]
 obtain ⟨_, h2, h3, h4, h5⟩ := new_free (lim := lim) (lb := lb)
 refine ⟨hl, ?_, ?_⟩
 ·rw [e]
  unfold Pu.St.free
  simp only [h2, h3, h4, h5]
  simp
 ·rw [e]
  simp only [h3, h4]
  omega
theorem whole_few {A : PubA} {s : Pu.St} {K : Int} (ho : A.on = true) (h : s.free < 64 * K) : wholeE A s K 0 [] [] = 2 := by
 unfold wholeE
 rw [if_neg (by simp [ho]), if_neg (by simp), if_neg (by simp [readyE_nil ho]), if_pos h]
theorem whole_off {A : PubA} {s : Pu.St} {K wr : Int} {i o : List ByteArray} (ho : A.on = false) : wholeE A s K wr i o = 10 := by
 unfold wholeE
 rw [if_pos ho]
theorem commit_few {A : PubA} {s : Pu.St} {K : Int} (ho : A.on = true) (h : s.free < 64 * K) {t : Tbl} {gen : Nat} {m : List Nat} (hm : FilesIs t.rows m) (hr : ∀ x ∈ t.rows, x.2 < 18446744073709551616) : commitE A s K t gen = if mayE A.files t gen m = 0 then 2 else mayE A.files t gen m := by
 rw [mayE_code ho hm.1 hm.2 hr]
 unfold commitE wholeE
 rw [if_neg (by simp [ho])]
 by_cases h1 : refuseE (overA A gen) t gen = 0
 ·simp only [h1, ne_eq, not_true_eq_false, if_false, if_true]
  by_cases h2 : readyE A (sortU (filesN t.rows)) [] = 0
  ·simp [h2, h]
  ·simp [h2]
 ·simp [h1]
theorem trsAt_one {w : World} {g : Nat} {x k y : Int} (h : w.heap[g]? = some (.cells #[.int .i64 x, .int .i64 k, .int .i64 y] 67 (0, 0))) (hx : (Lit.int .i64 x).wf = true) : TrsAt w (some ⟨g, 0, none⟩) [⟨x, k, y⟩] := by
 have c := cRw h
 have hg := ltB h
 refine ⟨fun q hq => ?_, fun q hq => ?_⟩
 ·obtain rfl : q = 0 := by simpa using hq
  exact ⟨⟨g, 0, none⟩, rfl, hg, by rw [zero_add_nat]; exact c 0, by rw [zero_add_nat]; exact c 1, by rw [zero_add_nat]; exact c 2⟩
 ·obtain rfl : q = 0 := by simpa using hq
  exact hx
theorem nameX : nameB ⟨#[120]⟩ = true := by decide
theorem thName_x (x : Thg) : thName x ≠ [120] := by
 unfold thName
 split
 ·intro h
  have := congrArg List.length h
  rw [catN_len] at this
  cases this
 ·split
  ·have : ∀ r, r < 10 → strayL r ≠ [120] := by
    intro r hr
    match r, hr with
    | 0, _ => decide
    | 1, _ => decide
    | 2, _ => decide
    | 3, _ => decide
    | 4, _ => decide
    | 5, _ => decide
    | 6, _ => decide
    | 7, _ => decide
    | 8, _ => decide
    | 9, _ => decide
   exact this _ (Nat.mod_lt _ (by decide))
  ·intro h
   have := congrArg List.length h
   rw [fileN_len] at this
   cases this
theorem create_cut {A : PubA} (ho : A.on = true) (hx : findA A.files [120] = none) : createB ⟨#[120]⟩ ⟨0, 2, 0⟩ A = (10, A.shut) := by
 have h1 : (createA ⟨#[120]⟩ A).1 = 0 := by
  unfold createA
  rw [if_pos nameX, show nm ⟨#[120]⟩ = [120] from rfl, hx]
  rfl
 unfold createB befX
 rw [if_pos ho, if_pos h1]
 simp
theorem shut_off (A : PubA) : A.shut.on = false ∧ A.shut.files = A.files ∧ A.shut.B = A.B := ⟨rfl, rfl, rfl⟩
end
structure Came (w : World) (E : Nat → Addr) (lo : Nat) (ta : Option Addr) (l : List ThI) : Prop where
 env : Env w lo E
 tabs : Tabs w
 low : 17 ≤ lo
 ths : ThsAt w ta l
 few : l.length ≤ 1000
theorem Came.touch {w w' : World} {E : Nat → Addr} {lo : Nat} {ta : Option Addr} {l : List ThI} (h : Came w E lo ta l) (t : Tc [] w w') : Came w' E lo ta l := ⟨h.env.touch t (by simp), h.tabs.quiet t, h.low, h.ths.touch t, h.few⟩
theorem Came.thg {w : World} {E : Nat → Addr} {lo : Nat} {ta : Option Addr} {l : List ThI} (h : Came w E lo ta l) : ∀ x ∈ l.map ThI.x, Few x := fun x hx => by
 obtain ⟨y, hy, rfl⟩ := List.mem_map.1 hx
 obtain ⟨k, hk, rfl⟩ := List.getElem_of_mem hy
 obtain ⟨a, _, _, _, _, _, _, _, _, _, _, _, ht, _⟩ := h.ths.at_ k hk
 exact ⟨ht.ol, ht.rl⟩
structure Sta (w : World) (B : Nat) (fv : Value) (D : List Nat) (l : List SFl) (L : List Thg) : Prop where
 st : StD w D fv l
 good : GoodP B (l.map SFl.pub)
 blk : 64 ≤ B ∧ B ≤ 65536 ∧ B % 32 = 0 ∧ B ≤ 1312
 of_ : ∀ p ∈ l.map SFl.pub, ∃ x ∈ L, p = thFile B x
theorem Sta.touch {w w' : World} {B : Nat} {fv : Value} {D : List Nat} {l : List SFl} {L : List Thg} (h : Sta w B fv D l L) (t : Tc [] w w') : Sta w' B fv D l L := ⟨h.st.touch t (fun y hy => by cases hy), h.good, h.blk, h.of_⟩
theorem Sta.names {w : World} {B : Nat} {fv : Value} {D : List Nat} {l : List SFl} {L : List Thg} (h : Sta w B fv D l L) : ∀ e ∈ l, e.name.length ≤ 32 := fun e he => by
 have h1 := h.good.name _ (List.mem_map.2 ⟨e, he, rfl⟩)
 unfold nameB at h1
 simp only [Bool.and_eq_true, decide_eq_true_eq] at h1
 have h2 := h1.1.2
 have h3 : (bs e.name).size = e.name.length := by show e.name.toArray.size = _; simp
 rw [show (bs (e.pub).1).size = e.name.length from h3] at h2
 exact h2
theorem Sta.blks {w : World} {B : Nat} {fv : Value} {D : List Nat} {l : List SFl} {L : List Thg} (h : Sta w B fv D l L) : l.length ≤ 1000 ∧ ∀ e ∈ l, e.file.blocks.length ≤ 2097153 ∧ ∀ d ∈ e.file.blocks, d.length = B :=
 ⟨by simpa using h.good.few, fun e he => h.good.size _ (List.mem_map.2 ⟨e, he, rfl⟩)⟩
section
variable {w : World} {E : Nat → Addr} {lo : Nat} {ta : Option Addr} {tc m : Nat} {l : List ThI} {n : Int}
theorem stateC (C : Came w E lo ta l) (hn : -9223372036854775808 ≤ n ∧ n < 9223372036854775808) (hm : l.length = min m 1000) (hmc : m ≤ tc) (hta : ta = none → m = 0 ∧ tc = 0) :
  Calls Tryz.prog 24 #[.agg #[.int .i64 n, .slice ta m tc]] w fun e w' => ∃ (B : Nat) (fa : Option Addr) (fc : Nat) (D : List Nat) (sl : List SFl), e = .returned (.agg #[.int .i64 (B : Int), .slice fa sl.length fc]) ∧ Sta w' B (.slice fa sl.length fc) D sl (l.map ThI.x) ∧ Tc [] w w' :=
 (stateW_any C.ths C.few hn hm hmc hta).mono fun e w' ⟨B, sl, D, fv, e1, hB, hst, hp, _, ht⟩ => by
  obtain ⟨fa, fc, e2⟩ := hst.sl
  have hlen := sortF_len sl
  subst e2
  refine ⟨B, fa, fc, D, sortF sl, e1, ⟨hst, GoodP.state ⟨hB.1, hB.2.2.1⟩ hp (by rw [List.length_map]; exact C.few) C.thg, hB, fun p hp2 => ?_⟩, ht⟩
  obtain ⟨e, he, rfl⟩ := List.mem_map.1 hp2
  apply (stP_of (B := B) (l := l.map ThI.x)).1
  rw [← hp]
  exact List.mem_map.2 ⟨e, sortF_mem.1 he, rfl⟩
end
section
variable {w : World} {E : Nat → Addr} {lo B : Nat} {fv : Value} {fa : Option Addr} {fc : Nat} {D : List Nat} {l : List SFl} {L : List Thg}
theorem copyC (h : Sta w B (.slice fa l.length fc) D l L) : Calls Tryz.prog 25 #[.agg #[.int .i64 (B : Int), .slice fa l.length fc]] w fun e w' => ∃ (ga : Option Addr) (gc : Nat) (D' : List Nat) (l' : List SFl), e = .returned (.agg #[.int .i64 (B : Int), .slice ga l'.length gc]) ∧ Sta w' B (.slice ga l'.length gc) D' l' L ∧ l'.map SFl.pub = l.map SFl.pub ∧ Tc [] w w' :=
 (copy_any h.st (by have := h.blks.1; omega) (fun e he => by have h9 := h.blks.2 e he; have hb := h.blk; exact ⟨by omega, fun d hd => by rw [h9.2 d hd]; omega⟩)).mono fun e w' ⟨l', D', fv', e1, hst, hp, _, ht⟩ => by
  obtain ⟨ga, gc, e2⟩ := hst.sl
  subst e2
  exact ⟨ga, gc, D', l', e1, ⟨hst, by rw [hp]; exact h.good, h.blk, by rw [hp]; exact h.of_⟩, hp, ht⟩
structure Bed (W0 w1 : World) (b : Bn) (kb K : Nat) (F : List Nat) (lb : Nat) (B x : Nat) (P : List (List UInt8 × FlA)) (A : PubA) : Prop where
 S : Std w1 b 2097153000 A (.new ((64 * K + x : Nat) : Int) lb) F
 dk : DkA w1 kb b (K : Int) 1
 kF : kb ∉ F
 new : ∀ y ∈ F, W0.heap.size ≤ y
 kn : W0.heap.size ≤ kb
 touch : Tc [] W0 w1
 files : A.files = P
 on : A.on = true
 calls : A.c = ⟨0, 0, 0, 0, 0, (total P : Int), (total P : Int)⟩
 blk : A.B = B
 fits : Fits A K
 hK : 1 ≤ K ∧ K ≤ 40
theorem openC (V : Env w lo E) (h : Sta w B (.slice fa l.length fc) D l L) {ta : Option Addr} {tc : Nat} {tl : List TrA} (htl : TrsAt w ta tl) (htn : tl.length ≤ 1099511627776) (x : Nat) (hx : x ≤ 1048576) :
  Calls Tryz.prog 14 #[.agg #[.int .i64 (B : Int), .slice fa l.length fc], .int .i64 (x : Int), .slice ta tl.length tc] w fun e w' => ∃ b kb lb F A, e = .returned (.tuple #[.agg #[ptr b.p, ptr b.q, ptr kb], .bool true]) ∧ b.lo = lo ∧ b.E = E ∧ b.l = tl ∧ Bed w w' b kb (B / 32 - 1) F lb B x (l.map SFl.pub) A := by
 obtain ⟨h1, h2, h3⟩ := h.good.mount ⟨h.blk.1, h.blk.2.1, h.blk.2.2.1⟩
 refine (open_ok (n := 2097153000) (tc := tc) V V.room h.st.in_ htl htn (by omega) h3 (by omega) h1 ⟨h.blk.1, h.blk.2.1, h.blk.2.2.1⟩ x hx).mono fun e w' ⟨b, kb, lb, F, e1, e2, e3, e4, ht, hS, hk, hkF, hk1, hk2, hF⟩ => ⟨b, kb, lb, F, mountA B 1099511627776 l l.length, e1, e2, e3, e4, ?_⟩
 have e1 : (mountA B 1099511627776 l l.length).files = l.map SFl.pub := by simp [mountA]
 have hb := h.blk
 exact ⟨hS, hk, hkF, hF, hk1, ht, e1, rfl, by rw [total_mount]; rfl, rfl, ⟨hb.1, hb.2.1, hb.2.2.1, rfl⟩, by omega⟩
end
open Go.ChangeShapes Go.WideShapes Go.ChangeAt Go.RowKit Go.Deep
theorem cells54 : Tryz.prog.cellsOf 116 = 9 := by kernel_rfl
theorem cells4 : Tryz.prog.cellsOf 4 = 1 := by kernel_rfl
theorem cells55 : Tryz.prog.cellsOf 55 = 1 := by kernel_rfl
theorem cells57 : Tryz.prog.cellsOf 57 = 2 := by kernel_rfl
section
variable {H : Type} {enc : TypeId × Value → H} {W : World} {spare : Nat → Bool} {held : Bool}
theorem open_tbv {n : Nat} {cs : List Value} {x : DataW H × List MemPlace} (h2 : DataW.trod enc Tryz.prog W 0 spare held n 26 cs = some x) (hk : Rows.uptoBulk x.1 ≤ 1048576) :
  ∃ r : TbI, cs = [.int .i64 r.t.vars, .slice r.so r.t.order.length r.co, .slice r.sr r.t.rows.length r.cr, .int .i64 r.t.next, .int .u64 (r.t.nf : Int)] ∧ TblAt W r.t r.so r.sr := by
 obtain ⟨xs, m, rfl, e2, hl, hxs, hall⟩ := DataW.trod_struct Tryz.underlying26 h2
 rw [cells26] at hl
 match cs, hl with
 | [v0, v1, v2, v3, v4], _ =>
 have f0 := hall 0 _ rfl
 have f1 := hall 1 _ rfl
 have f2 := hall 2 _ rfl
 have f3 := hall 3 _ rfl
 have f4 := hall 4 _ rfl
 simp [cells3, cells22, cells23, cells24] at f0 f1 f2 f3 f4
 have hx5 : xs.length = 5 := by simpa using hxs
 rw [List.getElem?_eq_getElem (by omega)] at f0 f1 f2 f3 f4
 subst e2
 simp only [Rows.uptoBulk] at hk
 have b1 := bulk_part (H := H) (d := (xs[1]'(by omega)).1) (l := xs.map (·.1)) (List.mem_map.2 ⟨_, List.getElem_mem _, rfl⟩)
 have b2 := bulk_part (H := H) (d := (xs[2]'(by omega)).1) (l := xs.map (·.1)) (List.mem_map.2 ⟨_, List.getElem_mem _, rfl⟩)
 obtain ⟨n0, q0, _, w0⟩ := DataW.trod_int Tryz.underlying3 f0
 obtain ⟨n3, q3, _, w3⟩ := DataW.trod_int Tryz.underlying3 f3
 obtain ⟨n4, q4, _, w4⟩ := DataW.trod_int Tryz.underlying24 f4
 obtain ⟨so, co, o, q1, ho, hol, hoi⟩ := open_nums f1 (by omega)
 obtain ⟨sr, cr, l, q2, hr, hrl, hri⟩ := open_rws f2 (by omega)
 simp at q0 q3 q4
 subst q0 q1 q2 q3 q4
 have w4 := u64_wf w4
 refine ⟨⟨⟨n0, o, l, n3, n4.toNat⟩, so, sr, co, cr⟩, ?_, ⟨ho, hr, hol, hrl, i64_rng w0, i64_rng w3, by show n4.toNat < _; omega, hoi, hri⟩⟩
 show _ = [Value.int .i64 n0, _, _, Value.int .i64 n3, Value.int .u64 ((n4.toNat : Nat) : Int)]
 rw [Int.toNat_of_nonneg w4.1]
theorem open_thc {n : Nat} {a : Addr} {cs : List Value} {x : DataW H × List MemPlace} (h1 : W.cells? 0 a 9 = some cs) (h2 : DataW.trod enc Tryz.prog W 0 spare held n 116 cs = some x) (hk : Rows.uptoBulk x.1 ≤ 1048576) :
  ∃ r : ThI, a.block < W.heap.size ∧ W.cell? a = some (.int .i64 r.x.kind) ∧ W.cell? ⟨a.block, a.off + 1, none⟩ = some (.int .u64 (r.x.n : Int)) ∧ W.cell? ⟨a.block, a.off + 2, none⟩ = some (.bool r.x.shut) ∧ W.cell? ⟨a.block, a.off + 3, none⟩ = some (.int .i64 r.x.t.vars) ∧ W.cell? ⟨a.block, a.off + 4, none⟩ = some (.slice r.so r.x.t.order.length r.co) ∧ W.cell? ⟨a.block, a.off + 5, none⟩ = some (.slice r.sr r.x.t.rows.length r.cr) ∧ W.cell? ⟨a.block, a.off + 6, none⟩ = some (.int .i64 r.x.t.next) ∧ W.cell? ⟨a.block, a.off + 7, none⟩ = some (.int .u64 (r.x.t.nf : Int)) ∧ W.cell? ⟨a.block, a.off + 8, none⟩ = some (.int .u64 (r.x.gen : Int)) ∧
   TblAt W r.x.t r.so r.sr ∧ r.x.n < 18446744073709551616 ∧ r.x.gen < 18446744073709551616 ∧ (-9223372036854775808 ≤ r.x.kind ∧ r.x.kind < 9223372036854775808) := by
 have hm : (List.range 9).mapM (fun i => W.cell? (a.add i)) = some cs := by
  simpa [World.cells?] using h1
 have g : ∀ i, i < 9 → W.cell? (a.add i) = cs[i]? := fun i hi => mapM_some_get hm i i (by simp [hi])
 obtain ⟨xs, m, rfl, e2, hl, hxs, hall⟩ := DataW.trod_struct Tryz.underlying116 h2
 rw [cells54] at hl
 match cs, hl with
 | [v0, v1, v2, v3, v4, v5, v6, v7, v8], _ =>
 have f0 := hall 0 _ rfl
 have f1 := hall 1 _ rfl
 have f2 := hall 2 _ rfl
 have f3 := hall 3 _ rfl
 have f4 := hall 4 _ rfl
 simp [cells3, cells4, cells26, cells24] at f0 f1 f2 f3 f4
 have hx5 : xs.length = 5 := by simpa using hxs
 rw [List.getElem?_eq_getElem (by omega)] at f0 f1 f2 f3 f4
 subst e2
 simp only [Rows.uptoBulk] at hk
 have b3 := bulk_part (H := H) (d := (xs[3]'(by omega)).1) (l := xs.map (·.1)) (List.mem_map.2 ⟨_, List.getElem_mem _, rfl⟩)
 obtain ⟨n0, q0, _, w0⟩ := DataW.trod_int Tryz.underlying3 f0
 obtain ⟨n1, q1, _, w1⟩ := DataW.trod_int Tryz.underlying24 f1
 obtain ⟨n2, q2, _⟩ := DataW.trod_bool Tryz.underlying4 f2
 obtain ⟨r, q3, ht⟩ := open_tbv f3 (by omega)
 obtain ⟨n4, q4, _, w4⟩ := DataW.trod_int Tryz.underlying24 f4
 simp at q0 q1 q2 q3 q4
 obtain ⟨p3, p4, p5, p6, p7⟩ := q3
 subst q0 q1 q2 p3 p4 p5 p6 p7 q4
 have w1 := u64_wf w1
 have w4 := u64_wf w4
 have g0 := g 0 (by omega)
 have g1 := g 1 (by omega)
 have g2 := g 2 (by omega)
 have g3 := g 3 (by omega)
 have g4 := g 4 (by omega)
 have g5 := g 5 (by omega)
 have g6 := g 6 (by omega)
 have g7 := g 7 (by omega)
 have g8 := g 8 (by omega)
 have hs1 := World.cell?_spot g0
 obtain ⟨b, off, spot⟩ := a
 have hsn : spot = none := by simpa [Addr.add] using hs1
 subst hsn
 rw [addC] at g0 g1 g2 g3 g4 g5 g6 g7 g8
 have hlt : b < W.heap.size := by simpa using World.block_lt_of_cell? W _ g0
 refine ⟨⟨⟨n0, n1.toNat, n2, r.t, n4.toNat⟩, r.so, r.sr, r.co, r.cr⟩, hlt, by simpa using g0, ?_, by simpa using g2, by simpa using g3, by simpa using g4, by simpa using g5, by simpa using g6, by simpa using g7, ?_, ht, by show n1.toNat < _; omega, by show n4.toNat < _; omega, i64_rng w0⟩
 ·show _ = some (Value.int .u64 ((n1.toNat : Nat) : Int))
  rw [Int.toNat_of_nonneg w1.1]
  simpa using g1
 ·show _ = some (Value.int .u64 ((n4.toNat : Nat) : Int))
  rw [Int.toNat_of_nonneg w4.1]
  simpa using g8
theorem open_ths {fuel : Nat} {v : Value} {x : DataW H × List MemPlace} (hf : DataW.trod enc Tryz.prog W 0 spare held fuel 55 [v] = some x) (hk : Rows.uptoBulk x.1 ≤ 1048576) :
  ∃ (sa : Option Addr) (ca : Nat) (l : List ThI), v = .slice sa l.length ca ∧ ThsAt W sa l ∧ l.length ≤ 1048576 ∧ l.length ≤ ca ∧ (sa = none → l.length = 0 ∧ ca = 0) := by
 rcases open_slice Tryz.underlying55 hf with ⟨hcs, hx⟩ | ⟨a, len, cap, m, n, D, Pl, hcs, _, hl, hm, hmm, hx, hall⟩
 ·simp at hcs
  subst hcs
  exact ⟨none, 0, [], rfl, ⟨fun k hk => by simp at hk⟩, Nat.zero_le _, Nat.le_refl _, fun _ => ⟨rfl, rfl⟩⟩
 ·simp at hcs
  subst hcs
  rw [cells54] at hx hall
  subst hx
  have hlm : len ≤ m := by rw [hmm]; split <;> omega
  have hb1 : Rows.uptoBulkAll ((List.range len).map D) ≤ 1048576 := by
   simp only [Rows.uptoBulk] at hk
   omega
  have hlen2 := bulk_length ((List.range len).map D)
  simp only [List.length_map, List.length_range] at hlen2
  have each : ∀ i, i < len → ∃ r : ThI, (a.add (i * 9)).block < W.heap.size ∧ W.cell? (a.add (i * 9)) = some (.int .i64 r.x.kind) ∧ W.cell? ⟨(a.add (i * 9)).block, (a.add (i * 9)).off + 1, none⟩ = some (.int .u64 (r.x.n : Int)) ∧ W.cell? ⟨(a.add (i * 9)).block, (a.add (i * 9)).off + 2, none⟩ = some (.bool r.x.shut) ∧ W.cell? ⟨(a.add (i * 9)).block, (a.add (i * 9)).off + 3, none⟩ = some (.int .i64 r.x.t.vars) ∧ W.cell? ⟨(a.add (i * 9)).block, (a.add (i * 9)).off + 4, none⟩ = some (.slice r.so r.x.t.order.length r.co) ∧ W.cell? ⟨(a.add (i * 9)).block, (a.add (i * 9)).off + 5, none⟩ = some (.slice r.sr r.x.t.rows.length r.cr) ∧ W.cell? ⟨(a.add (i * 9)).block, (a.add (i * 9)).off + 6, none⟩ = some (.int .i64 r.x.t.next) ∧ W.cell? ⟨(a.add (i * 9)).block, (a.add (i * 9)).off + 7, none⟩ = some (.int .u64 (r.x.t.nf : Int)) ∧ W.cell? ⟨(a.add (i * 9)).block, (a.add (i * 9)).off + 8, none⟩ = some (.int .u64 (r.x.gen : Int)) ∧
   TblAt W r.x.t r.so r.sr ∧ r.x.n < 18446744073709551616 ∧ r.x.gen < 18446744073709551616 ∧ (-9223372036854775808 ≤ r.x.kind ∧ r.x.kind < 9223372036854775808) := fun i hi => by
   obtain ⟨cs', h1, h2⟩ := hall i (by omega)
   have h3 := bulk_part (H := H) (d := D i) (l := (List.range len).map D) (List.mem_map.2 ⟨i, List.mem_range.2 hi, rfl⟩)
   exact open_thc h1 h2 (by show Rows.uptoBulk (D i) ≤ _; omega)
  haveI : Inhabited ThI := ⟨⟨⟨0, 0, false, ⟨0, [], [], 0, 0⟩, 0⟩, none, none, 0, 0⟩⟩
  obtain ⟨f, hf⟩ := choose_lt each
  have hlen : ((List.range len).map f).length = len := by simp
  refine ⟨some a, cap, (List.range len).map f, by rw [hlen], ⟨fun k hk => ?_⟩, by rw [hlen]; omega, by rw [hlen]; exact hl, fun h => by cases h⟩
  rw [hlen] at hk
  have h9 := hf k hk
  have e : ((List.range len).map f)[k]'(by rw [hlen]; exact hk) = f k := by simp
  rw [e]
  obtain ⟨h0, hr⟩ := h9
  rw [add_block] at h0
  exact ⟨a, rfl, h0, hr⟩
theorem ThsAt.first {sa : Option Addr} {l : List ThI} (h : ThsAt W sa l) (q : Nat) : ThsAt W sa (l.take q) := ⟨fun k hk => by
 have hk2 : k < l.length := by rw [List.length_take] at hk; omega
 have e : (l.take q)[k] = l[k] := List.getElem_take
 rw [e]
 exact h.at_ k hk2⟩
theorem open_wld {v : Value} {d : DataW H} {ps : List MemPlace} {base : Nat} (hval : Value.okWide Tryz.prog W .any base 57 v) (h : DataW.Trod enc Tryz.prog W 0 spare held 57 v d ps) (hk : Rows.uptoBulk d ≤ 1048576) :
  ∃ (n : Int) (sa : Option Addr) (m ca : Nat) (l : List ThI), v = .agg #[.int .i64 n, .slice sa m ca] ∧ ThsAt W sa l ∧ l.length = min m 1000 ∧ m ≤ ca ∧ (sa = none → m = 0 ∧ ca = 0) ∧ (-9223372036854775808 ≤ n ∧ n < 9223372036854775808) := by
 obtain ⟨cs, rfl, hcs⟩ := okWide_struct Tryz.underlying57 hval
 obtain ⟨fuel, hf⟩ := h
 obtain ⟨xs, k, rfl, hx, hl, hxs, hall⟩ := DataW.trod_struct Tryz.underlying57 hf
 rw [cells57] at hcs
 obtain ⟨v0, v1, rfl⟩ : ∃ v0 v1, cs = #[v0, v1] := by
  obtain ⟨l⟩ := cs
  match l, hcs with
  | [v0, v1], _ => exact ⟨v0, v1, rfl⟩
 have f0 := hall 0 _ rfl
 have f1 := hall 1 _ rfl
 simp [Value.cells, cells3, cells55] at f0 f1
 have hx2 : xs.length = 2 := by simpa using hxs
 rw [List.getElem?_eq_getElem (by omega)] at f0 f1
 obtain ⟨rfl, -⟩ := Prod.mk.inj hx
 simp only [Rows.uptoBulk] at hk
 have b1 := bulk_part (H := H) (d := (xs[1]'(by omega)).1) (l := xs.map (·.1)) (List.mem_map.2 ⟨_, List.getElem_mem _, rfl⟩)
 obtain ⟨n0, e0, _, w0⟩ := DataW.trod_int Tryz.underlying3 f0
 obtain ⟨sa, ca, l, e1, hin, _, hlc, hnil⟩ := open_ths f1 (by omega)
 simp at e0
 subst e0 e1
 refine ⟨n0, sa, l.length, ca, l.take 1000, rfl, hin.first 1000, by rw [List.length_take]; omega, hlc, hnil, i64_rng w0⟩
end
end Go.Proofs.YthehcjjckabljaaGreatDoor
