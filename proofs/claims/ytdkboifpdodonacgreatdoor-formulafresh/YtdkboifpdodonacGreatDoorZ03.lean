import Derived.Test.YtdkboifpdodonacGreatDoorZ02
set_option linter.unusedSimpArgs false
/-
 The law's nodesApart.
-/
namespace Go.Proofs.YtdkboifpdodonacGreatDoor
open Go.RowKit Go.Deep ShfKit
set_option maxRecDepth 100000

theorem info23 : (Tryz.prog.info? 23).map (fun i => (i.zero, i.size, i.bytes)) = some (some (.slice none 0 0), 1, 24) := by kernel_rfl
theorem info44 : (Tryz.prog.info? 44).map (fun i => (i.zero, i.size, i.bytes)) = some (some (.agg #[.int .i64 0, .int .i64 0]), 2, 16) := by kernel_rfl
theorem size44 : (Tryz.prog.info? 44).map (·.size) = some 2 := by kernel_rfl
theorem one_two (a b : Int) : (#[Value.int .i64 a, .int .i64 b] : Array Value).all (·.oneCell') = true := by
 rw [← Array.all_toList]
 rfl
theorem two_one (a b : Int) : ∀ u ∈ [Value.int .i64 a, .int .i64 b], u.oneCell' = true := fun u hu => by
 simp only [List.mem_cons, List.not_mem_nil, or_false] at hu
 rcases hu with rfl | rfl <;> rfl
theorem grown_two {w W W' : World} {b : Option Nat} (h : w.grownBy W b) (h2 : W.grownBy W' b) : w.grownBy W' b := ⟨h2.os.trans h.os, h2.tape.trans h.tape, h2.output.trans h.output, Nat.le_trans h.size h2.size, fun k hk hn => (h2.block k (Nat.lt_of_lt_of_le hk h.size) hn).trans (h.block k hk hn)⟩
theorem flat_len (f g : Nat → Int) (l : List Nat) : (l.flatMap fun k => [Value.int .i64 (f k), Value.int .i64 (g k)]).length = l.length * 2 := by
 induction l with
 | nil => rfl
 | cons a t ih => rw [List.flatMap_cons, List.length_append, ih, List.length_cons]; simp; omega
theorem flat_at0 (f g : Nat → Int) (l : List Nat) : ∀ k x, l[k]? = some x → (l.flatMap fun k => [Value.int .i64 (f k), Value.int .i64 (g k)])[k * 2]? = some (.int .i64 (f x)) := by
 induction l with
 | nil => intro k x h; simp at h
 | cons a t ih =>
  intro k x h
  rw [List.flatMap_cons]
  cases k with
  | zero => simp at h; subst h; rfl
  | succ k =>
   rw [List.getElem?_append_right (by simp; omega)]
   have : (k + 1) * 2 - [Value.int .i64 (f a), Value.int .i64 (g a)].length = k * 2 := by simp; omega
   rw [this]
   exact ih k x (by simpa using h)
theorem flat_at1 (f g : Nat → Int) (l : List Nat) : ∀ k x, l[k]? = some x → (l.flatMap fun k => [Value.int .i64 (f k), Value.int .i64 (g k)])[k * 2 + 1]? = some (.int .i64 (g x)) := by
 induction l with
 | nil => intro k x h; simp at h
 | cons a t ih =>
  intro k x h
  rw [List.flatMap_cons]
  cases k with
  | zero => simp at h; subst h; rfl
  | succ k =>
   rw [List.getElem?_append_right (by simp; omega)]
   have : (k + 1) * 2 + 1 - [Value.int .i64 (f a), Value.int .i64 (g a)].length = k * 2 + 1 := by simp; omega
   rw [this]
   exact ih k x (by simpa using h)
def mkN (i n : Nat) : List Value := (List.range n).flatMap fun (k : Nat) => [Value.int .i64 (1000000 * ((i : Int) + 1) + (k : Int)), Value.int .i64 (-(k : Int))]
def grN (i c : Nat) : List Value := (List.range c).flatMap fun (k : Nat) => [Value.int .i64 (-1000 * ((i : Int) + 1) - (k : Int)), Value.int .i64 5]
theorem mkN_len (i n : Nat) : (mkN i n).length = n * 2 := by unfold mkN; rw [flat_len (fun k => 1000000 * ((i : Int) + 1) + (k : Int)) (fun k => -(k : Int))]; simp
theorem mkN_at0 (i n k : Nat) (h : k < n) : (mkN i n)[k * 2]? = some (.int .i64 (1000000 * ((i : Int) + 1) + (k : Int))) := flat_at0 (fun k => 1000000 * ((i : Int) + 1) + (k : Int)) (fun k => -(k : Int)) (List.range n) k k (by simp [h])
theorem mkN_at1 (i n k : Nat) (h : k < n) : (mkN i n)[k * 2 + 1]? = some (.int .i64 (-(k : Int))) := flat_at1 (fun k => 1000000 * ((i : Int) + 1) + (k : Int)) (fun k => -(k : Int)) (List.range n) k k (by simp [h])
theorem grN_succ (i c : Nat) : grN i (c + 1) = grN i c ++ [.int .i64 (-1000 * ((i : Int) + 1) - (c : Int)), .int .i64 5] := by simp [grN, List.range_succ]
theorem grN_at0 (i c k : Nat) (h : k < c) : (grN i c)[k * 2]? = some (.int .i64 (-1000 * ((i : Int) + 1) - (k : Int))) := flat_at0 (fun k => -1000 * ((i : Int) + 1) - (k : Int)) (fun _ => 5) (List.range c) k k (by simp [h])
theorem grN_at1 (i c k : Nat) (h : k < c) : (grN i c)[k * 2 + 1]? = some (.int .i64 5) := flat_at1 (fun k => -1000 * ((i : Int) + 1) - (k : Int)) (fun _ => 5) (List.range c) k k (by simp [h])
/-- one more is marked. -/
theorem part_setN (i n k : Nat) (A : List Value) (hA : A.length = n * 2) (hk : k < n) : (((mkN i n).take (k * 2) ++ A.drop (k * 2)).set (k * 2) (.int .i64 (1000000 * ((i : Int) + 1) + (k : Int)))).set (k * 2 + 1) (.int .i64 (-(k : Int))) = (mkN i n).take ((k + 1) * 2) ++ A.drop ((k + 1) * 2) := by
 have hl : ((mkN i n).take (k * 2)).length = k * 2 := by rw [List.length_take, mkN_len]; omega
 have e2 : (k + 1) * 2 = k * 2 + 1 + 1 := by omega
 rw [e2, List.drop_eq_getElem_cons (show k * 2 < A.length by omega), List.drop_eq_getElem_cons (show k * 2 + 1 < A.length by omega), List.set_append_right _ _ (by omega), hl, Nat.sub_self, List.set_cons_zero, List.set_append_right _ _ (by omega), hl, show k * 2 + 1 - k * 2 = 1 by omega, List.set_cons_succ, List.set_cons_zero, List.take_add_one, List.take_add_one, mkN_at0 i n k hk, mkN_at1 i n k hk, List.append_assoc, List.append_assoc]
 rfl
/-- what the law's list of lists has in memory. -/
structure LaN (w W : World) (B ga : Nat) (D : List Rw) (mv : Value) (L : List Pr) (k : Nat) : Prop where
 ap : Ap W B 44 2 23 ga mv L k
 fr : Fr w W D mv L
 len : L.length = D.length
 hB : B ≤ w.heap.size
theorem LaN.below {w W W' : World} {B ga k : Nat} {D : List Rw} {mv : Value} {L : List Pr} (h : LaN w W B ga D mv L k) (hb : Below W.heap.size W W') : LaN w W' B ga D mv L k := ⟨h.ap.below hb, h.fr.below hb, h.len, h.hB⟩
theorem LaN.size {w W : World} {B ga k : Nat} {D : List Rw} {mv : Value} {L : List Pr} (h : LaN w W B ga D mv L k) : B ≤ W.heap.size := Nat.le_trans h.hB h.fr.b0.size
theorem LaN.cell {w W : World} {B ga k i : Nat} {D : List Rw} {mv : Value} {L : List Pr} {x : Pr} (h : LaN w W B ga D mv L k) (hx : L[i]? = some x) : W.cell? ⟨ga, i, none⟩ = some x.v := by
 rw [cell_row h.ap.all]
 simp [hx]
set_option maxHeartbeats 4000000 in
theorem nodes_apart (D : List Rw) (ga ca B : Nat) (w : World) (hA : Ap w B 44 2 23 ga (.slice none 0 0) (raws D) 0) (hB : B ≤ w.heap.size) (hN : D.length ≤ 6) (hn : ∀ d ∈ D, d.2.1 ≤ 4194304) :
  Calls Tryz.prog 11 #[.slice (some ⟨ga, 0, none⟩) D.length ca] w fun e W => e = .returned (.bool true) ∧ KeptD w W D := by
 obtain ⟨N, hNd⟩ : ∃ N, N = D.length := ⟨_, rfl⟩
 rw [← hNd] at hN ⊢
 have HN := hid hNd
 have HD := hid hn
 have ST : Hid (LaN w w B ga D (.slice none 0 0) (raws D) 0 ∧ Sh D (raws D) (P1 mkN 2 0 0)) := ⟨⟨hA, Fr.start w D, by simp [raws], hB⟩, P1.start D⟩
 have HDL : Hid (∀ d ∈ D, d.2.2.length = d.2.1 * 2) := fun d hd => by
  obtain ⟨j, hj⟩ := List.getElem?_of_mem hd
  have h1 := (hA.fam.pair j (prOf d.1 d.2.1 d.2.2) (by simp [raws, hj])).len
  exact h1
 clear hA hB hn hNd
 go_enter Tryz.func11, Tryz.ntmps11
 go_wp2_with fail
 go_loopw [3, 4, 5] (fun mv iv kv W => Hid (∃ (i : Nat) (L : List Pr), iv = .int .i64 (i : Int) ∧ i ≤ N ∧ LaN w W B ga D mv L i ∧ Sh D L (P1 mkN 2 i 0))) (fun _ iv _ _ => match iv with | .int _ i => N + 1 - i.toNat | _ => 0)
 case atStart => exact ⟨0, _, rfl, Nat.zero_le _, ST.out.1, ST.out.2⟩
 case round =>
  clear ST
  obtain ⟨W1, hW1⟩ : ∃ W1, W1 = wr := ⟨_, rfl⟩
  rw [← hW1] at hrel ⊢
  clear hW1
  obtain ⟨i, L, rfl, hin, hla, hsh⟩ := hrel.out
  clear hrel
  have LA := hid hla
  have SH := hid hsh
  obtain ⟨sm, cm, rfl⟩ := own_sh hla.ap.more
  have hil : i < N ∨ i = N := by omega
  rcases hil with hlt | hlt
  ·obtain ⟨d, hd⟩ : ∃ d, D[i]? = some d := ⟨_, List.getElem?_eq_getElem (by rw [← HN.out]; exact hlt)⟩
   have hdm := List.mem_of_getElem? hd
   have hdn := HD.out d hdm
   have HDI := hid hd
   obtain ⟨n, hnn⟩ : ∃ n, n = d.2.1 := ⟨_, rfl⟩
   have HNN := hid hnn
   obtain ⟨x0, hx0, hp0⟩ := hsh.get hd
   obtain ⟨sx, cx, hsx⟩ := (hla.ap.fam.pair i x0 hx0).shape
   have hxv : x0.v = d.1 := by rw [hp0.at_]; rfl
   have hxn : x0.n = d.2.1 := by rw [hp0.at_]; rfl
   rw [hxv, hxn, ← hnn] at hsx
   have HSX := hid hsx
   have hlt1 : (i : Int) < (N : Int) := by omega
   have V1 : Hid (IntKind.i64.wrap ((i : Int) + 1) = (i : Int) + 1) := by show _ = _; rw [IntKind.wrap_i64]; omega
   have V2 : Hid (IntKind.i64.wrap (1000000 * ((i : Int) + 1)) = 1000000 * ((i : Int) + 1)) := by show _ = _; rw [IntKind.wrap_i64]; omega
   have hga := hla.ap.lt
   rw [← hnn] at hdn
   clear hdm hxv hxn hsx hd hnn hx0 hp0 hla hsh
   go_wp2_with fail
   go_loopw [5] (fun kv W => Hid (∃ (k : Nat) (L2 : List Pr), kv = .int .i64 (k : Int) ∧ k ≤ n ∧ LaN w W B ga D (.slice sm i cm) L2 i ∧ Sh D L2 (P1 mkN 2 i k))) (fun kv _ => match kv with | .int _ k => n + 1 - k.toNat | _ => 0)
   case atStart => exact ⟨0, L, rfl, Nat.zero_le _, LA.out, SH.out⟩
   case round =>
    clear LA SH
    obtain ⟨W2, hW2⟩ : ∃ W2, W2 = wr := ⟨_, rfl⟩
    rw [← hW2] at hrel ⊢
    clear hW2
    obtain ⟨k, L2, rfl, hkn, hla, hsh⟩ := hrel.out
    clear hrel
    have LA := hid hla
    have SH := hid hsh
    obtain ⟨x, hx, hp⟩ := hsh.get HDI.out
    have hxe := hp.at_
    have hc0 := hla.cell hx
    rw [show x.v = d.1 by rw [hxe]; rfl, HSX.out] at hc0
    have hga2 := hla.ap.lt
    have hown := (hla.ap.fam.pair i x hx).own
    rw [hxe] at hown hx
    have hown' : W2.ownsRow B 44 2 d.1 d.2.1 ((mkN i d.2.1).take (k * 2) ++ d.2.2.drop (k * 2)) := hown
    have V3 : Hid (IntKind.i64.wrap ((k : Int) + 1) = (k : Int) + 1) := by show _ = _; rw [IntKind.wrap_i64]; omega
    have V4 : Hid (IntKind.i64.wrap (1000000 * ((i : Int) + 1) + (k : Int)) = 1000000 * ((i : Int) + 1) + (k : Int)) := by show _ = _; rw [IntKind.wrap_i64]; omega
    have hkl : k < n ∨ k = n := by omega
    rcases hkl with hklt | hklt
    ·have hlen : ((mkN i d.2.1).take (k * 2) ++ d.2.2.drop (k * 2)).length = n * 2 := by
      have h1 := HDL.out d (List.mem_of_getElem? HDI.out)
      have h2 := HNN.out
      rw [List.length_append, List.length_take, List.length_drop, mkN_len, h1]
      omega
     obtain ⟨z, hz⟩ : ∃ z, ((mkN i d.2.1).take (k * 2) ++ d.2.2.drop (k * 2))[k * 2]? = some z := ⟨_, List.getElem?_eq_getElem (by rw [hlen]; omega)⟩
     obtain ⟨z2, hz2⟩ : ∃ z, ((mkN i d.2.1).take (k * 2) ++ d.2.2.drop (k * 2))[k * 2 + 1]? = some z := ⟨_, List.getElem?_eq_getElem (by rw [hlen]; omega)⟩
     obtain ⟨g, c, hv, hgB, hgW, ck, fk⟩ := own_cell hown' hz
     obtain ⟨g2, c2, hv9, _, _, ck2, fk2⟩ := own_cell hown' hz2
     rw [hv] at hv9
     simp only [Value.slice.injEq, Option.some.injEq, Addr.mk.injEq, true_and, and_true] at hv9
     rw [← hv9.1] at ck2 fk2
     have hv2 := hv
     rw [HSX.out, ← HNN.out] at hv2
     simp only [Value.slice.injEq, true_and] at hv2
     obtain ⟨rfl, rfl⟩ := hv2
     obtain ⟨s1, s2⟩ := own_set hown' (j := k * 2) hv (.int .i64 (1000000 * ((i : Int) + 1) + (k : Int)))
     obtain ⟨s3, s4⟩ := own_set s1 (j := k * 2 + 1) hv (.int .i64 (-(k : Int)))
     have s5 := grown_two s2 s4
     rw [part_setN i d.2.1 k d.2.2 (HDL.out d (List.mem_of_getElem? HDI.out)) (by rw [← HNN.out]; exact hklt)] at s3
     have NX : Hid (LaN w ((W2.setCell ⟨g, k * 2, none⟩ (.int .i64 (1000000 * ((i : Int) + 1) + (k : Int)))).setCell ⟨g, k * 2 + 1, none⟩ (.int .i64 (-(k : Int)))) B ga D (.slice sm i cm) (L2.set i (prOf d.1 d.2.1 ((mkN i d.2.1).take ((k + 1) * 2) ++ d.2.2.drop ((k + 1) * 2)))) i ∧ Sh D (L2.set i (prOf d.1 d.2.1 ((mkN i d.2.1).take ((k + 1) * 2) ++ d.2.2.drop ((k + 1) * 2)))) (P1 mkN 2 i (k + 1))) :=
      ⟨⟨hla.ap.write hx s3 s5, hla.fr.write hx s5, by rw [List.length_set]; exact hla.len, hla.hB⟩, hsh.set HDI.out P1.mk_ (fun j d' x' hj h => h.other hj)⟩
     have TH : Hid (W2.there g (k * 2) 2) := fun j hj => by
      rcases (show j = 0 ∨ j = 1 by omega) with rfl | rfl
      ·exact ⟨by rw [Nat.add_zero, ck]; rfl, fk⟩
      ·exact ⟨by rw [ck2]; rfl, fk2⟩
     have V9 : Hid (IntKind.i64.wrap (-(k : Int)) = -(k : Int)) := by show _ = _; rw [IntKind.wrap_i64]; omega
     have hklt1 : (k : Int) < (n : Int) := by omega
     clear hla hsh hx hp hxe hown hown' hv s1 s2 s3 s4 s5 hlen hz hz2 hv9 ck ck2 fk fk2
     have v9 := V9.out
     have v1 := V1.out
     have v2 := V2.out
     have v3 := V3.out
     have v4 := V4.out
     go_wp2_with ((with_reducible show wpList _ _ _ (Oper.mk _ (Op.store 44 _ _) _ _ _ _ :: _) _ _); refine wpList_store_mid rfl 44 _ _ rfl g (k * 2) #[.int .i64 (1000000 * ((i : Int) + 1) + (k : Int)), .int .i64 (-(k : Int))] rfl rfl TH.out size44 (one_two _ _) ?_; rw [show W2.setCells g (k * 2) (#[.int .i64 (1000000 * ((i : Int) + 1) + (k : Int)), .int .i64 (-(k : Int))] : Array Value).toList = (W2.setCell ⟨g, k * 2, none⟩ (.int .i64 (1000000 * ((i : Int) + 1) + (k : Int)))).setCell ⟨g, k * 2 + 1, none⟩ (.int .i64 (-(k : Int))) from rfl])
     clear v1 v2 v3 v4 v9
     refine ⟨⟨k + 1, _, by go_num, by omega, NX.out.1, NX.out.2⟩, ?_⟩
     show n + 1 - ((k : Int) + 1).toNat < n + 1 - (k : Int).toNat
     omega
    ·have hklt1 : ¬ (k : Int) < (n : Int) := by omega
     have SH2 := hid (P1.next hsh HDI.out (by rw [hklt]; exact HNN.out) mkN_len (HDL.out d (List.mem_of_getElem? HDI.out)))
     have hxu : x.u = .slice sx n cx := by rw [hxe]; exact HSX.out
     have HX := hid hx
     have HXU := hid hxu
     have HXE := hid hxe
     clear hla hsh hp hown hown' hx hxe hxu SH V3 V4 hklt
     have v1 := V1.out
     go_wp2_with (at_builtin; refine wpl_one rfl _ _ 39 rfl B 23 _ 1 24 Tryz.underlying39 info23 rfl (by decide) (.slice sm i cm) i ((L2.take i).map Pr.u) rfl LA.out.ap.more [.slice sx n cx] 23 _ rfl rfl rfl (fun u hu => by simp at hu; subst hu; rfl) (by omega) (by omega) LA.out.size ?_; intro v8 w8 o8 f8; obtain ⟨sm8, cm8, rfl⟩ := own_sh o8; have LB := LA.out.below ((Below.refl _ _).alloc (Nat.le_refl _) (Obj.cells #[Value.slice sx n cx] 23)); have NX : Hid (LaN w w8 B ga D (.slice sm8 (i + 1) cm8) L2 (i + 1)) := ⟨LB.ap.push HX.out (by rw [show (prOf d.1 d.2.1 ((mkN i d.2.1).take (k * 2) ++ d.2.2.drop (k * 2))).u = .slice sx n cx from HSX.out]; exact o8) f8, LB.fr.push f8, LB.len, LB.hB⟩; clear o8 f8 LB)
     clear v1
     refine ⟨⟨i + 1, _, by go_num, by omega, NX.out, SH2.out⟩, ?_⟩
     show N + 1 - ((i : Int) + 1).toNat < N + 1 - (i : Int).toNat
     omega
  ·have hlt1 : ¬ (i : Int) < (N : Int) := by omega
   have SD : Hid (Sh D L (P2 mkN grN fun _ => 0)) := by
    have h1 := hsh
    rw [hlt, HN.out] at h1
    exact P1.done h1 (fun _ => rfl)
   have LD : Hid (LaN w W1 B ga D (.slice sm N cm) L N) := by
    have h1 := hla
    rw [hlt] at h1
    exact h1
   subst hlt
   clear hla hsh LA SH hin
   go_wp2_with fail
   go_loopw [6, 7] (fun kv iv W => Hid (∃ (k : Nat) (L2 : List Pr), kv = .int .i64 (k : Int) ∧ k ≤ 70 ∧ LaN w W B ga D (.slice sm i cm) L2 i ∧ Sh D L2 (P2 mkN grN fun _ => k))) (fun kv _ _ => match kv with | .int _ k => 70 + 1 - k.toNat | _ => 0)
   case atStart => exact ⟨0, L, rfl, Nat.zero_le _, LD.out, SD.out⟩
   case round =>
    clear LD SD hlt1
    obtain ⟨W2, hW2⟩ : ∃ W2, W2 = wr := ⟨_, rfl⟩
    rw [← hW2] at hrel ⊢
    clear hW2
    obtain ⟨k, L2, rfl, hkn, hla, hsh⟩ := hrel.out
    clear hrel
    have LA := hid hla
    have SH := hid hsh
    clear hla hsh
    have hkl : k < 70 ∨ k = 70 := by omega
    rcases hkl with hklt | hklt
    ·have hklt1 : (k : Int) < 70 := by omega
     have V1 : Hid (IntKind.i64.wrap ((k : Int) + 1) = (k : Int) + 1) := by show _ = _; rw [IntKind.wrap_i64]; omega
     go_wp2_with fail
     go_loopw [7] (fun iv W => Hid (∃ (q : Nat) (L3 : List Pr), iv = .int .i64 (q : Int) ∧ q ≤ i ∧ LaN w W B ga D (.slice sm i cm) L3 i ∧ Sh D L3 (P2 mkN grN fun j => if j < q then k + 1 else k))) (fun iv _ => match iv with | .int _ q => i + 1 - q.toNat | _ => 0)
     case atStart => exact ⟨0, L2, rfl, Nat.zero_le _, LA.out, P2.again SH.out (fun j _ => by rw [if_neg (Nat.not_lt_zero _)])⟩
     case round =>
      clear LA SH
      obtain ⟨W3, hW3⟩ : ∃ W3, W3 = wr := ⟨_, rfl⟩
      rw [← hW3] at hrel ⊢
      clear hW3
      obtain ⟨q, L3, rfl, hqn, hla, hsh⟩ := hrel.out
      clear hrel
      have LA := hid hla
      have SH := hid hsh
      have hql : q < i ∨ q = i := by omega
      rcases hql with hqlt | hqlt
      ·obtain ⟨d, hd⟩ : ∃ d, D[q]? = some d := ⟨_, List.getElem?_eq_getElem (by rw [← HN.out]; exact hqlt)⟩
       have hdn := HD.out d (List.mem_of_getElem? hd)
       obtain ⟨x, hx, hp⟩ := hsh.get hd
       have hm0 : ((L3.take i).map Pr.u)[q]? = some x.u := by
        rw [List.getElem?_map, List.getElem?_take_of_lt hqlt, hx]
        rfl
       obtain ⟨gm, c9, hmv, hgB, hgW, ck, _⟩ := own_cell hla.ap.more hm0
       simp only [Value.slice.injEq, true_and] at hmv
       obtain ⟨rfl, rfl⟩ := hmv
       have hown := (hla.ap.fam.pair q x hx).own
       obtain ⟨m, hm⟩ : ∃ m, m = x.m := ⟨_, rfl⟩
       have hm2 : m ≤ 4194374 := by
        have h1 := hp.m
        rw [if_neg (Nat.lt_irrefl _)] at h1
        omega
       rw [← hm] at hown
       obtain ⟨su, cu, hu⟩ := own_sh hown
       rw [hu] at ck
       have HX := hid hx
       have HP := hid hp
       have HDI := hid hd
       have HU := hid hu
       have HM := hid hm
       have HOW := hid hown
       have hqlt1 : (q : Int) < (i : Int) := by omega
       have V3 : Hid (IntKind.i64.wrap ((q : Int) + 1) = (q : Int) + 1) := by show _ = _; rw [IntKind.wrap_i64]; omega
       have V4 : Hid (IntKind.i64.wrap (-1000 * ((q : Int) + 1)) = -1000 * ((q : Int) + 1)) := by show _ = _; rw [IntKind.wrap_i64]; omega
       have V5 : Hid (IntKind.i64.wrap (-1000 * ((q : Int) + 1) - (k : Int)) = -1000 * ((q : Int) + 1) - (k : Int)) := by show _ = _; rw [IntKind.wrap_i64]; omega
       have HPO : Hid (∀ u', Sh D (L3.set q ⟨x.v, x.n, x.A, u', m + 1, x.M ++ [.int .i64 (-1000 * ((q : Int) + 1) - (k : Int)), .int .i64 5]⟩) (P2 mkN grN fun j => if j < q + 1 then k + 1 else k)) := fun u' => by
        have h := P2.one (u' := u') hsh hd hp (grN_succ q k)
        rw [← hm] at h
        exact h
       clear hla hsh hx hp hd hu hm hown hm0 hdn SH
       have v3 := V3.out
       have v4 := V4.out
       have v5 := V5.out
       go_wp2_with (first
        | (have q := HW8; clear q; rw [← HW8.out])
        | (at_builtin; refine wpl_one rfl _ _ 23 rfl B 44 _ 2 16 Tryz.underlying23 info44 rfl (by decide) (.slice su m cu) m x.M rfl (by have h := HOW.out; rw [HU.out] at h; exact h) [.int .i64 (-1000 * ((q : Int) + 1) - (k : Int)), .int .i64 5] 44 _ rfl rfl rfl (two_one _ _) (by clear v3 v4 v5; omega) (by clear v3 v4 v5; omega) LA.out.size ?_; intro v8 w8 o8 f8; obtain ⟨su8, cu8, rfl⟩ := own_sh o8; have LB := LA.out.below ((Below.refl _ _).alloc (Nat.le_refl _) (Obj.cells #[Value.int .i64 (-1000 * ((q : Int) + 1) - (k : Int)), .int .i64 5] 44)); rw [← HU.out] at f8; obtain ⟨W9, hW9⟩ : ∃ W9, W9 = w8.setCell ⟨gm, q, none⟩ (.slice su8 (m + 1) cu8) := ⟨_, rfl⟩; obtain ⟨a1, a2⟩ := LB.ap.grow (LB.len.symm ▸ HN.out) HX.out o8 f8 hW9; have a3 := LB.fr.grow (z := [.int .i64 (-1000 * ((q : Int) + 1) - (k : Int)), .int .i64 5]) (m' := m + 1) HX.out rfl f8 hW9; have NX : Hid (LaN w W9 B ga D (.slice (some ⟨gm, 0, none⟩) i cm) (L3.set q ⟨x.v, x.n, x.A, .slice su8 (m + 1) cu8, m + 1, x.M ++ [.int .i64 (-1000 * ((q : Int) + 1) - (k : Int)), .int .i64 5]⟩) i) := ⟨a2, a3, (by rw [List.length_set]; exact LB.len), LB.hB⟩; obtain ⟨_, _, hmv9, _, gW8, cW8, fW8⟩ := own_cell a1 (show (L3.map Pr.u)[q]? = some x.u from (by rw [List.getElem?_map, HX.out]; rfl)); simp only [Value.slice.injEq, Option.some.injEq, Addr.mk.injEq, true_and, and_true] at hmv9; rw [← hmv9.1] at gW8 cW8 fW8; have HW8 := hid hW9; clear o8 f8 LB a1 a2 a3 hmv9 hW9))
       clear v3 v4 v5
       refine ⟨⟨q + 1, _, by go_num, by omega, NX.out, HPO.out _⟩, ?_⟩
       show i + 1 - ((q : Int) + 1).toNat < i + 1 - (q : Int).toNat
       omega
      ·have hqlt1 : ¬ (q : Int) < (i : Int) := by omega
       have SH2 : Hid (Sh D L3 (P2 mkN grN fun _ => k + 1)) := P2.again hsh (fun j hj => by rw [if_pos (by rw [hqlt, HN.out]; exact hj)])
       clear hla hsh SH hqlt hqn
       have v1 := V1.out
       go_wp2_with fail
       clear v1
       refine ⟨⟨k + 1, _, by go_num, by omega, LA.out, SH2.out⟩, ?_⟩
       show 70 + 1 - ((k : Int) + 1).toNat < 70 + 1 - (k : Int).toNat
       omega
    ·have hklt1 : ¬ (k : Int) < 70 := by omega
     subst hklt
     clear hkn
     go_wp2_with fail
     go_loopw [8, 9, 10, 11] (fun iv _ _ _ W => Hid (∃ q : Nat, iv = .int .i64 (q : Int) ∧ q ≤ i ∧ LaN w W B ga D (.slice sm i cm) L2 i)) (fun iv _ _ _ _ => match iv with | .int _ q => i + 1 - q.toNat | _ => 0)
     case atStart => exact ⟨0, rfl, Nat.zero_le _, LA.out⟩
     case round =>
      clear LA hklt1
      obtain ⟨W3, hW3⟩ : ∃ W3, W3 = wr := ⟨_, rfl⟩
      rw [← hW3] at hrel ⊢
      clear hW3
      obtain ⟨q, rfl, hqn, hla⟩ := hrel.out
      clear hrel
      have LA := hid hla
      have hql : q < i ∨ q = i := by omega
      rcases hql with hqlt | hqlt
      ·obtain ⟨d, hd⟩ : ∃ d, D[q]? = some d := ⟨_, List.getElem?_eq_getElem (by rw [← HN.out]; exact hqlt)⟩
       have hdn := HD.out d (List.mem_of_getElem? hd)
       obtain ⟨x, hx, hp⟩ := SH.out.get hd
       have hm0 : ((L2.take i).map Pr.u)[q]? = some x.u := by
        rw [List.getElem?_map, List.getElem?_take_of_lt hqlt, hx]
        rfl
       obtain ⟨gm, c9, hmv, hgB, hgW, _, _⟩ := own_cell hla.ap.more hm0
       simp only [Value.slice.injEq, true_and] at hmv
       obtain ⟨rfl, rfl⟩ := hmv
       obtain ⟨n, hn⟩ : ∃ n, n = d.2.1 := ⟨_, rfl⟩
       have HX := hid hx
       have HP := hid hp
       have HM0 := hid hm0
       have hc0 := hla.cell hx
       have hga := hla.ap.lt
       obtain ⟨sx, cx, hsx⟩ := (hla.ap.fam.pair q x hx).shape
       rw [hp.n, ← hn] at hsx
       rw [hsx] at hc0
       have hqlt1 : (q : Int) < (i : Int) := by omega
       have hnb : n ≤ 4194304 := by omega
       have V3 : Hid (IntKind.i64.wrap ((q : Int) + 1) = (q : Int) + 1) := by show _ = _; rw [IntKind.wrap_i64]; omega
       have V4 : Hid (IntKind.i64.wrap (1000000 * ((q : Int) + 1)) = 1000000 * ((q : Int) + 1)) := by show _ = _; rw [IntKind.wrap_i64]; omega
       have V5 : Hid (IntKind.i64.wrap (-1000 * ((q : Int) + 1)) = -1000 * ((q : Int) + 1)) := by show _ = _; rw [IntKind.wrap_i64]; omega
       have HSX := hid hsx
       have HNN := hid hn
       clear hla hx hp hm0 hd hdn hsx hn
       go_wp2_with fail
       go_loopw [10] (fun kv W => Hid (∃ k : Nat, kv = .int .i64 (k : Int) ∧ k ≤ n ∧ LaN w W B ga D (.slice (some ⟨gm, 0, none⟩) i cm) L2 i)) (fun kv _ => match kv with | .int _ k => n + 1 - k.toNat | _ => 0)
       case atStart => exact ⟨0, rfl, Nat.zero_le _, LA.out⟩
       case round =>
        clear LA hc0 hga hgW
        obtain ⟨W4, hW4⟩ : ∃ W4, W4 = wr := ⟨_, rfl⟩
        rw [← hW4] at hrel ⊢
        clear hW4
        obtain ⟨k, rfl, hkn, hla⟩ := hrel.out
        clear hrel
        have LA := hid hla
        have hkl : k < n ∨ k = n := by omega
        rcases hkl with hklt | hklt
        ·obtain ⟨mki, hmki⟩ : ∃ mki : Int, mki = 1000000 * ((q : Int) + 1) + (k : Int) := ⟨_, rfl⟩
         obtain ⟨mkn, hmkn⟩ : ∃ mkn : Int, mkn = -(k : Int) := ⟨_, rfl⟩
         have hAk : x.A[k * 2]? = some (.int .i64 mki) := by rw [HP.out.A, ← HNN.out, mkN_at0 q n k hklt, hmki]
         have hAk2 : x.A[k * 2 + 1]? = some (.int .i64 mkn) := by rw [HP.out.A, ← HNN.out, mkN_at1 q n k hklt, hmkn]
         have hMk : x.M[k * 2]? = some (.int .i64 mki) := by
          rw [HP.out.M, List.getElem?_append_left (by rw [mkN_len, ← HNN.out]; omega), ← HNN.out, mkN_at0 q n k hklt, hmki]
         have hMk2 : x.M[k * 2 + 1]? = some (.int .i64 mkn) := by
          rw [HP.out.M, List.getElem?_append_left (by rw [mkN_len, ← HNN.out]; omega), ← HNN.out, mkN_at1 q n k hklt, hmkn]
         obtain ⟨g, c8, hv, _, hgl, e2⟩ := (hla.ap.fam.pair q x HX.out).rd (k * 2) (List.getElem?_eq_some_iff.1 hAk).1
         rw [(List.getElem?_eq_some_iff.1 hAk).2] at e2
         obtain ⟨g8, c9, hv8, _, _, e2b⟩ := (hla.ap.fam.pair q x HX.out).rd (k * 2 + 1) (List.getElem?_eq_some_iff.1 hAk2).1
         rw [(List.getElem?_eq_some_iff.1 hAk2).2] at e2b
         rw [hv] at hv8
         simp only [Value.slice.injEq, Option.some.injEq, Addr.mk.injEq, true_and, and_true] at hv8
         rw [← hv8.1] at e2b
         rw [HSX.out, HP.out.n, ← HNN.out] at hv
         simp only [Value.slice.injEq, true_and] at hv
         obtain ⟨rfl, rfl⟩ := hv
         obtain ⟨gu, cu, hu, _, hgul, e4, _⟩ := own_cell (hla.ap.fam.pair q x HX.out).own hMk
         obtain ⟨gu8, cu8, hu8, _, _, e4b, _⟩ := own_cell (hla.ap.fam.pair q x HX.out).own hMk2
         rw [hu] at hu8
         simp only [Value.slice.injEq, Option.some.injEq, Addr.mk.injEq, true_and, and_true] at hu8
         rw [← hu8.1] at e4b
         rw [HP.out.m, ← HNN.out] at hu
         have e1 := hla.cell HX.out
         rw [HSX.out] at e1
         obtain ⟨_, _, hmv9, _, hgml, e3, _⟩ := own_cell hla.ap.more HM0.out
         simp only [Value.slice.injEq, Option.some.injEq, Addr.mk.injEq, true_and, and_true] at hmv9
         rw [← hmv9.1] at hgml e3
         rw [hu] at e3
         have hga := hla.ap.lt
         have hklt1 : (k : Int) < (n : Int) := by omega
         have hklt2 : (k : Int) < (n : Int) + 70 := by omega
         have V6 : Hid (IntKind.i64.wrap (1000000 * ((q : Int) + 1) + (k : Int)) = mki) := by show _ = _; rw [hmki, IntKind.wrap_i64]; omega
         have V7 : Hid (IntKind.i64.wrap ((k : Int) + 1) = (k : Int) + 1) := by show _ = _; rw [IntKind.wrap_i64]; omega
         have LB := hid (hla.below (Below.refl _ _).drew)
         have V9 : Hid (IntKind.i64.wrap (-(k : Int)) = mkn) := by show _ = _; rw [hmkn, IntKind.wrap_i64]; omega
         clear hla hAk hMk hmv9 hmki hu hAk2 hMk2 hmkn hv8 hu8
         have v9 := V9.out
         have v3 := V3.out
         have v4 := V4.out
         have v6 := V6.out
         have v7 := V7.out
         go_upto_region 24 with fail
         refine wp_region_noPanic ?_
         refine wp_region_held_drew (S := fun W => W.cell? ⟨ga, q, none⟩ = some (.slice (some ⟨g, 0, none⟩) n cx) ∧ W.cell? ⟨g, k * 2, none⟩ = some (.int .i64 mki) ∧ W.cell? ⟨g, k * 2 + 1, none⟩ = some (.int .i64 mkn) ∧ W.cell? ⟨gm, q, none⟩ = some (.slice (some ⟨gu, 0, none⟩) (n + 70) cu) ∧ W.cell? ⟨gu, k * 2, none⟩ = some (.int .i64 mki) ∧ W.cell? ⟨gu, k * 2 + 1, none⟩ = some (.int .i64 mkn)) (by kernel_rfl) ⟨e1, e2, e2b, e3, e4, e4b⟩ (fun hHeld => ?_)
         refine wpAnyH_take (i := 0) (v := ?_) (by simp only [List.getElem?_toArray, List.getElem?_cons_zero]; rfl) (by kernel_rfl) (by kernel_rfl) (by kernel_rfl) (fun _ _ _ h => h) (Or.inl ⟨by rfl, ?_⟩) (by assumption) ?_
         rotate_left 1
         ·intro w hSw; (try dsimp only at hSw); go_simp; (try with_reducible rfl)
         try simp only [Act.put, List.setIfInBounds_toArray, List.set_cons_zero, List.set_cons_succ]
         refine wpAnyH_take (i := 1) (v := ?_) (by simp only [List.getElem?_toArray, List.getElem?_cons_succ, List.getElem?_cons_zero]; rfl) (by kernel_rfl) (by kernel_rfl) (by kernel_rfl) (fun _ _ _ h => h) (Or.inl ⟨by rfl, ?_⟩) (by assumption) ?_
         rotate_left 1
         ·intro w hSw; (try dsimp only at hSw); go_simp; (try with_reducible rfl)
         try simp only [Act.put, List.setIfInBounds_toArray, List.set_cons_zero, List.set_cons_succ]
         refine wpAnyH_take (i := 2) (v := ?_) (by simp only [List.getElem?_toArray, List.getElem?_cons_succ, List.getElem?_cons_zero]; rfl) (by kernel_rfl) (by kernel_rfl) (by kernel_rfl) (fun _ _ _ h => h) (Or.inl ⟨by rfl, ?_⟩) (by assumption) ?_
         rotate_left 1
         ·intro w hSw; (try dsimp only at hSw); go_simp; (try with_reducible rfl)
         try simp only [Act.put, List.setIfInBounds_toArray, List.set_cons_zero, List.set_cons_succ]
         refine wpAnyH_take (i := 3) (v := ?_) (by simp only [List.getElem?_toArray, List.getElem?_cons_succ, List.getElem?_cons_zero]; rfl) (by kernel_rfl) (by kernel_rfl) (by kernel_rfl) (fun _ _ _ h => h) (Or.inl ⟨by rfl, ?_⟩) (by assumption) ?_
         rotate_left 1
         ·intro w hSw; (try dsimp only at hSw); go_simp; (try with_reducible rfl)
         try simp only [Act.put, List.setIfInBounds_toArray, List.set_cons_zero, List.set_cons_succ]
         refine wpAnyH_take (i := 4) (v := ?_) (by simp only [List.getElem?_toArray, List.getElem?_cons_succ, List.getElem?_cons_zero]; rfl) (by kernel_rfl) (by kernel_rfl) (by kernel_rfl) (fun _ _ _ h => h) (Or.inl ⟨by rfl, ?_⟩) (by assumption) ?_
         rotate_left 1
         ·intro w hSw; (try dsimp only at hSw); go_simp; (try with_reducible rfl)
         try simp only [Act.put, List.setIfInBounds_toArray, List.set_cons_zero, List.set_cons_succ]
         refine wpAnyH_take (i := 5) (v := ?_) (by simp only [List.getElem?_toArray, List.getElem?_cons_succ, List.getElem?_cons_zero]; rfl) (by kernel_rfl) (by kernel_rfl) (by kernel_rfl) (fun _ _ _ h => h) (Or.inl ⟨by rfl, ?_⟩) (by assumption) ?_
         rotate_left 1
         ·intro w hSw; (try dsimp only at hSw); go_simp; (try with_reducible rfl)
         try simp only [Act.put, List.setIfInBounds_toArray, List.set_cons_zero, List.set_cons_succ]
         refine wpAnyH_take (i := 6) (v := ?_) (by simp only [List.getElem?_toArray, List.getElem?_cons_succ, List.getElem?_cons_zero]; rfl) (by kernel_rfl) (by kernel_rfl) (by kernel_rfl) (fun _ _ _ h => h) (Or.inl ⟨by rfl, ?_⟩) (by assumption) ?_
         rotate_left 1
         ·intro w hSw; (try dsimp only at hSw); go_simp; (try with_reducible rfl)
         try simp only [Act.put, List.setIfInBounds_toArray, List.set_cons_zero, List.set_cons_succ]
         refine wpAnyH_take (i := 7) (v := ?_) (by simp only [List.getElem?_toArray, List.getElem?_cons_succ, List.getElem?_cons_zero]; rfl) (by kernel_rfl) (by kernel_rfl) (by kernel_rfl) (fun _ _ _ h => h) (Or.inl ⟨by rfl, ?_⟩) (by assumption) ?_
         rotate_left 1
         ·intro w hSw; (try dsimp only at hSw); go_simp; (try with_reducible rfl)
         try simp only [Act.put, List.setIfInBounds_toArray, List.set_cons_zero, List.set_cons_succ]
         refine wpAnyH_take (i := 8) (v := ?_) (by simp only [List.getElem?_toArray, List.getElem?_cons_succ, List.getElem?_cons_zero]; rfl) (by kernel_rfl) (by kernel_rfl) (by kernel_rfl) (fun _ _ _ h => h) (Or.inl ⟨by rfl, ?_⟩) (by assumption) ?_
         rotate_left 1
         ·intro w hSw; (try dsimp only at hSw); go_simp; (try with_reducible rfl)
         try simp only [Act.put, List.setIfInBounds_toArray, List.set_cons_zero, List.set_cons_succ]
         refine wpAnyH_take (i := 9) (v := ?_) (by simp only [List.getElem?_toArray, List.getElem?_cons_succ, List.getElem?_cons_zero]; rfl) (by kernel_rfl) (by kernel_rfl) (by kernel_rfl) (fun _ _ _ h => h) (Or.inl ⟨by rfl, ?_⟩) (by assumption) ?_
         rotate_left 1
         ·intro w hSw; (try dsimp only at hSw); go_simp; (try with_reducible rfl)
         try simp only [Act.put, List.setIfInBounds_toArray, List.set_cons_zero, List.set_cons_succ]
         refine wpAnyH_take (i := 10) (v := ?_) (by simp only [List.getElem?_toArray, List.getElem?_cons_succ, List.getElem?_cons_zero]; rfl) (by kernel_rfl) (by kernel_rfl) (by kernel_rfl) (fun _ _ _ h => h) (Or.inl ⟨by rfl, ?_⟩) (by assumption) ?_
         rotate_left 1
         ·intro w hSw; (try dsimp only at hSw); go_simp; (try with_reducible rfl)
         try simp only [Act.put, List.setIfInBounds_toArray, List.set_cons_zero, List.set_cons_succ]
         refine wpAnyH_take (i := 11) (v := ?_) (by simp only [List.getElem?_toArray, List.getElem?_cons_succ, List.getElem?_cons_zero]; rfl) (by kernel_rfl) (by kernel_rfl) (by kernel_rfl) (fun _ _ _ h => h) (Or.inl ⟨by rfl, ?_⟩) (by assumption) ?_
         rotate_left 1
         ·intro w hSw; (try dsimp only at hSw); go_simp; (try with_reducible rfl)
         try simp only [Act.put, List.setIfInBounds_toArray, List.set_cons_zero, List.set_cons_succ]
         refine wpAnyH_take (i := 12) (v := ?_) (by simp only [List.getElem?_toArray, List.getElem?_cons_succ, List.getElem?_cons_zero]; rfl) (by kernel_rfl) (by kernel_rfl) (by kernel_rfl) (fun _ _ _ h => h) (Or.inl ⟨by rfl, ?_⟩) (by assumption) ?_
         rotate_left 1
         ·intro w hSw; (try dsimp only at hSw); go_simp; (try with_reducible rfl)
         try simp only [Act.put, List.setIfInBounds_toArray, List.set_cons_zero, List.set_cons_succ]
         refine wpAnyH_take (i := 13) (v := .bool false) (by simp only [List.getElem?_toArray, List.getElem?_cons_succ, List.getElem?_cons_zero]; rfl) (by kernel_rfl) (by kernel_rfl) (by kernel_rfl) (fun _ _ _ h => h) (Or.inl ⟨by rfl, ?_⟩) (by assumption) ?_
         ·intro w hSw; (try dsimp only at hSw); (try go_simp); (first | done | (with_reducible rfl) | simp)
         try simp only [Act.put, List.setIfInBounds_toArray, List.set_cons_zero, List.set_cons_succ]
         refine wpAnyH_take (i := 14) (v := .bool false) (by simp only [List.getElem?_toArray, List.getElem?_cons_succ, List.getElem?_cons_zero]; rfl) (by kernel_rfl) (by kernel_rfl) (by kernel_rfl) (fun _ _ _ h => h) (Or.inl ⟨by rfl, ?_⟩) (by assumption) ?_
         ·intro w hSw; (try dsimp only at hSw); (try go_simp); (first | done | (with_reducible rfl) | simp)
         try simp only [Act.put, List.setIfInBounds_toArray, List.set_cons_zero, List.set_cons_succ]
         refine wpAnyH_take (i := 15) (v := ?_) (by simp only [List.getElem?_toArray, List.getElem?_cons_succ, List.getElem?_cons_zero]; rfl) (by kernel_rfl) (by kernel_rfl) (by kernel_rfl) (fun _ _ _ h => h) (Or.inl ⟨by rfl, ?_⟩) (by assumption) ?_
         rotate_left 1
         ·intro w hSw; (try dsimp only at hSw); go_simp; (try with_reducible rfl)
         try simp only [Act.put, List.setIfInBounds_toArray, List.set_cons_zero, List.set_cons_succ]
         refine wpAnyH_take (i := 16) (v := ?_) (by simp only [List.getElem?_toArray, List.getElem?_cons_succ, List.getElem?_cons_zero]; rfl) (by kernel_rfl) (by kernel_rfl) (by kernel_rfl) (fun _ _ _ h => h) (Or.inl ⟨by rfl, ?_⟩) (by assumption) ?_
         rotate_left 1
         ·intro w hSw; (try dsimp only at hSw); go_simp; (try with_reducible rfl)
         try simp only [Act.put, List.setIfInBounds_toArray, List.set_cons_zero, List.set_cons_succ]
         refine wpAnyH_take (i := 17) (v := ?_) (by simp only [List.getElem?_toArray, List.getElem?_cons_succ, List.getElem?_cons_zero]; rfl) (by kernel_rfl) (by kernel_rfl) (by kernel_rfl) (fun _ _ _ h => h) (Or.inl ⟨by rfl, ?_⟩) (by assumption) ?_
         rotate_left 1
         ·intro w hSw; (try dsimp only at hSw); go_simp; (try with_reducible rfl)
         try simp only [Act.put, List.setIfInBounds_toArray, List.set_cons_zero, List.set_cons_succ]
         refine wpAnyH_take (i := 18) (v := ?_) (by simp only [List.getElem?_toArray, List.getElem?_cons_succ, List.getElem?_cons_zero]; rfl) (by kernel_rfl) (by kernel_rfl) (by kernel_rfl) (fun _ _ _ h => h) (Or.inl ⟨by rfl, ?_⟩) (by assumption) ?_
         rotate_left 1
         ·intro w hSw; (try dsimp only at hSw); go_simp; (try with_reducible rfl)
         try simp only [Act.put, List.setIfInBounds_toArray, List.set_cons_zero, List.set_cons_succ]
         refine wpAnyH_take (i := 19) (v := ?_) (by simp only [List.getElem?_toArray, List.getElem?_cons_succ, List.getElem?_cons_zero]; rfl) (by kernel_rfl) (by kernel_rfl) (by kernel_rfl) (fun _ _ _ h => h) (Or.inl ⟨by rfl, ?_⟩) (by assumption) ?_
         rotate_left 1
         ·intro w hSw; (try dsimp only at hSw); go_simp; (try with_reducible rfl)
         try simp only [Act.put, List.setIfInBounds_toArray, List.set_cons_zero, List.set_cons_succ]
         refine wpAnyH_take (i := 20) (v := ?_) (by simp only [List.getElem?_toArray, List.getElem?_cons_succ, List.getElem?_cons_zero]; rfl) (by kernel_rfl) (by kernel_rfl) (by kernel_rfl) (fun _ _ _ h => h) (Or.inl ⟨by rfl, ?_⟩) (by assumption) ?_
         rotate_left 1
         ·intro w hSw; (try dsimp only at hSw); go_simp; (try with_reducible rfl)
         try simp only [Act.put, List.setIfInBounds_toArray, List.set_cons_zero, List.set_cons_succ]
         refine wpAnyH_take (i := 21) (v := ?_) (by simp only [List.getElem?_toArray, List.getElem?_cons_succ, List.getElem?_cons_zero]; rfl) (by kernel_rfl) (by kernel_rfl) (by kernel_rfl) (fun _ _ _ h => h) (Or.inl ⟨by rfl, ?_⟩) (by assumption) ?_
         rotate_left 1
         ·intro w hSw; (try dsimp only at hSw); go_simp; (try with_reducible rfl)
         try simp only [Act.put, List.setIfInBounds_toArray, List.set_cons_zero, List.set_cons_succ]
         refine wpAnyH_take (i := 22) (v := ?_) (by simp only [List.getElem?_toArray, List.getElem?_cons_succ, List.getElem?_cons_zero]; rfl) (by kernel_rfl) (by kernel_rfl) (by kernel_rfl) (fun _ _ _ h => h) (Or.inl ⟨by rfl, ?_⟩) (by assumption) ?_
         rotate_left 1
         ·intro w hSw; (try dsimp only at hSw); go_simp; (try with_reducible rfl)
         try simp only [Act.put, List.setIfInBounds_toArray, List.set_cons_zero, List.set_cons_succ]
         refine wpAnyH_take (i := 23) (v := ?_) (by simp only [List.getElem?_toArray, List.getElem?_cons_succ, List.getElem?_cons_zero]; rfl) (by kernel_rfl) (by kernel_rfl) (by kernel_rfl) (fun _ _ _ h => h) (Or.inl ⟨by rfl, ?_⟩) (by assumption) ?_
         rotate_left 1
         ·intro w hSw; (try dsimp only at hSw); go_simp; (try with_reducible rfl)
         try simp only [Act.put, List.setIfInBounds_toArray, List.set_cons_zero, List.set_cons_succ]
         refine wpAnyH_take (i := 24) (v := ?_) (by simp only [List.getElem?_toArray, List.getElem?_cons_succ, List.getElem?_cons_zero]; rfl) (by kernel_rfl) (by kernel_rfl) (by kernel_rfl) (fun _ _ _ h => h) (Or.inl ⟨by rfl, ?_⟩) (by assumption) ?_
         rotate_left 1
         ·intro w hSw; (try dsimp only at hSw); go_simp; (try with_reducible rfl)
         try simp only [Act.put, List.setIfInBounds_toArray, List.set_cons_zero, List.set_cons_succ]
         refine wpAnyH_take (i := 25) (v := .bool false) (by simp only [List.getElem?_toArray, List.getElem?_cons_succ, List.getElem?_cons_zero]; rfl) (by kernel_rfl) (by kernel_rfl) (by kernel_rfl) (fun _ _ _ h => h) (Or.inl ⟨by rfl, ?_⟩) (by assumption) ?_
         ·intro w hSw; (try dsimp only at hSw); (try go_simp); (first | done | (with_reducible rfl) | simp)
         try simp only [Act.put, List.setIfInBounds_toArray, List.set_cons_zero, List.set_cons_succ]
         refine wpAnyH_take (i := 26) (v := .bool false) (by simp only [List.getElem?_toArray, List.getElem?_cons_succ, List.getElem?_cons_zero]; rfl) (by kernel_rfl) (by kernel_rfl) (by kernel_rfl) (fun _ _ _ h => h) (Or.inl ⟨by rfl, ?_⟩) (by assumption) ?_
         ·intro w hSw; (try dsimp only at hSw); (try go_simp); (first | done | (with_reducible rfl) | simp)
         try simp only [Act.put, List.setIfInBounds_toArray, List.set_cons_zero, List.set_cons_succ]
         refine wpAnyH_take (i := 27) (v := .bool false) (by simp only [List.getElem?_toArray, List.getElem?_cons_succ, List.getElem?_cons_zero]; rfl) (by kernel_rfl) (by kernel_rfl) (by kernel_rfl) (fun _ _ _ h => h) (Or.inl ⟨by rfl, ?_⟩) (by assumption) ?_
         ·intro w hSw; (try dsimp only at hSw); (try go_simp); (first | done | (with_reducible rfl) | simp)
         try simp only [Act.put, List.setIfInBounds_toArray, List.set_cons_zero, List.set_cons_succ]
         refine wpAnyH_take (i := 28) (v := ?_) (by simp only [List.getElem?_toArray, List.getElem?_cons_succ, List.getElem?_cons_zero]; rfl) (by kernel_rfl) (by kernel_rfl) (by kernel_rfl) (fun _ _ _ h => h) (Or.inl ⟨by rfl, ?_⟩) (by assumption) ?_
         rotate_left 1
         ·intro w hSw; (try dsimp only at hSw); go_simp; (try with_reducible rfl)
         try simp only [Act.put, List.setIfInBounds_toArray, List.set_cons_zero, List.set_cons_succ]
         refine wpAnyH_take (i := 29) (v := ?_) (by simp only [List.getElem?_toArray, List.getElem?_cons_succ, List.getElem?_cons_zero]; rfl) (by kernel_rfl) (by kernel_rfl) (by kernel_rfl) (fun _ _ _ h => h) (Or.inl ⟨by rfl, ?_⟩) (by assumption) ?_
         rotate_left 1
         ·intro w hSw; (try dsimp only at hSw); go_simp; (try with_reducible rfl)
         try simp only [Act.put, List.setIfInBounds_toArray, List.set_cons_zero, List.set_cons_succ]
         refine wpAnyH_take (i := 30) (v := ?_) (by simp only [List.getElem?_toArray, List.getElem?_cons_succ, List.getElem?_cons_zero]; rfl) (by kernel_rfl) (by kernel_rfl) (by kernel_rfl) (fun _ _ _ h => h) (Or.inl ⟨by rfl, ?_⟩) (by assumption) ?_
         rotate_left 1
         ·intro w hSw; (try dsimp only at hSw); go_simp; (try with_reducible rfl)
         try simp only [Act.put, List.setIfInBounds_toArray, List.set_cons_zero, List.set_cons_succ]
         refine wpAnyH_take (i := 31) (v := ?_) (by simp only [List.getElem?_toArray, List.getElem?_cons_succ, List.getElem?_cons_zero]; rfl) (by kernel_rfl) (by kernel_rfl) (by kernel_rfl) (fun _ _ _ h => h) (Or.inl ⟨by rfl, ?_⟩) (by assumption) ?_
         rotate_left 1
         ·intro w hSw; (try dsimp only at hSw); go_simp; (try with_reducible rfl)
         try simp only [Act.put, List.setIfInBounds_toArray, List.set_cons_zero, List.set_cons_succ]
         refine wpAnyH_take (i := 32) (v := ?_) (by simp only [List.getElem?_toArray, List.getElem?_cons_succ, List.getElem?_cons_zero]; rfl) (by kernel_rfl) (by kernel_rfl) (by kernel_rfl) (fun _ _ _ h => h) (Or.inl ⟨by rfl, ?_⟩) (by assumption) ?_
         rotate_left 1
         ·intro w hSw; (try dsimp only at hSw); go_simp; (try with_reducible rfl)
         try simp only [Act.put, List.setIfInBounds_toArray, List.set_cons_zero, List.set_cons_succ]
         refine wpAnyH_take (i := 33) (v := ?_) (by simp only [List.getElem?_toArray, List.getElem?_cons_succ, List.getElem?_cons_zero]; rfl) (by kernel_rfl) (by kernel_rfl) (by kernel_rfl) (fun _ _ _ h => h) (Or.inl ⟨by rfl, ?_⟩) (by assumption) ?_
         rotate_left 1
         ·intro w hSw; (try dsimp only at hSw); go_simp; (try with_reducible rfl)
         try simp only [Act.put, List.setIfInBounds_toArray, List.set_cons_zero, List.set_cons_succ]
         refine wpAnyH_take (i := 34) (v := ?_) (by simp only [List.getElem?_toArray, List.getElem?_cons_succ, List.getElem?_cons_zero]; rfl) (by kernel_rfl) (by kernel_rfl) (by kernel_rfl) (fun _ _ _ h => h) (Or.inl ⟨by rfl, ?_⟩) (by assumption) ?_
         rotate_left 1
         ·intro w hSw; (try dsimp only at hSw); go_simp; (try with_reducible rfl)
         try simp only [Act.put, List.setIfInBounds_toArray, List.set_cons_zero, List.set_cons_succ]
         refine wpAnyH_take (i := 35) (v := ?_) (by simp only [List.getElem?_toArray, List.getElem?_cons_succ, List.getElem?_cons_zero]; rfl) (by kernel_rfl) (by kernel_rfl) (by kernel_rfl) (fun _ _ _ h => h) (Or.inl ⟨by rfl, ?_⟩) (by assumption) ?_
         rotate_left 1
         ·intro w hSw; (try dsimp only at hSw); go_simp; (try with_reducible rfl)
         try simp only [Act.put, List.setIfInBounds_toArray, List.set_cons_zero, List.set_cons_succ]
         refine wpAnyH_take (i := 36) (v := ?_) (by simp only [List.getElem?_toArray, List.getElem?_cons_succ, List.getElem?_cons_zero]; rfl) (by kernel_rfl) (by kernel_rfl) (by kernel_rfl) (fun _ _ _ h => h) (Or.inl ⟨by rfl, ?_⟩) (by assumption) ?_
         rotate_left 1
         ·intro w hSw; (try dsimp only at hSw); go_simp; (try with_reducible rfl)
         try simp only [Act.put, List.setIfInBounds_toArray, List.set_cons_zero, List.set_cons_succ]
         refine wpAnyH_take (i := 37) (v := ?_) (by simp only [List.getElem?_toArray, List.getElem?_cons_succ, List.getElem?_cons_zero]; rfl) (by kernel_rfl) (by kernel_rfl) (by kernel_rfl) (fun _ _ _ h => h) (Or.inl ⟨by rfl, ?_⟩) (by assumption) ?_
         rotate_left 1
         ·intro w hSw; (try dsimp only at hSw); go_simp; (try with_reducible rfl)
         try simp only [Act.put, List.setIfInBounds_toArray, List.set_cons_zero, List.set_cons_succ]
         refine wpAnyH_take (i := 38) (v := ?_) (by simp only [List.getElem?_toArray, List.getElem?_cons_succ, List.getElem?_cons_zero]; rfl) (by kernel_rfl) (by kernel_rfl) (by kernel_rfl) (fun _ _ _ h => h) (Or.inl ⟨by rfl, ?_⟩) (by assumption) ?_
         rotate_left 1
         ·intro w hSw; (try dsimp only at hSw); go_simp; (try with_reducible rfl)
         try simp only [Act.put, List.setIfInBounds_toArray, List.set_cons_zero, List.set_cons_succ]
         refine wpAnyH_take (i := 39) (v := ?_) (by simp only [List.getElem?_toArray, List.getElem?_cons_succ, List.getElem?_cons_zero]; rfl) (by kernel_rfl) (by kernel_rfl) (by kernel_rfl) (fun _ _ _ h => h) (Or.inl ⟨by rfl, ?_⟩) (by assumption) ?_
         rotate_left 1
         ·intro w hSw; (try dsimp only at hSw); go_simp; (try with_reducible rfl)
         try simp only [Act.put, List.setIfInBounds_toArray, List.set_cons_zero, List.set_cons_succ]
         refine wpAnyH_take (i := 40) (v := ?_) (by simp only [List.getElem?_toArray, List.getElem?_cons_succ, List.getElem?_cons_zero]; rfl) (by kernel_rfl) (by kernel_rfl) (by kernel_rfl) (fun _ _ _ h => h) (Or.inl ⟨by rfl, ?_⟩) (by assumption) ?_
         rotate_left 1
         ·intro w hSw; (try dsimp only at hSw); go_simp; (try with_reducible rfl)
         try simp only [Act.put, List.setIfInBounds_toArray, List.set_cons_zero, List.set_cons_succ]
         refine wpAnyH_take (i := 41) (v := ?_) (by simp only [List.getElem?_toArray, List.getElem?_cons_succ, List.getElem?_cons_zero]; rfl) (by kernel_rfl) (by kernel_rfl) (by kernel_rfl) (fun _ _ _ h => h) (Or.inl ⟨by rfl, ?_⟩) (by assumption) ?_
         rotate_left 1
         ·intro w hSw; (try dsimp only at hSw); go_simp; (try with_reducible rfl)
         try simp only [Act.put, List.setIfInBounds_toArray, List.set_cons_zero, List.set_cons_succ]
         refine wpAnyH_take (i := 42) (v := .bool false) (by simp only [List.getElem?_toArray, List.getElem?_cons_succ, List.getElem?_cons_zero]; rfl) (by kernel_rfl) (by kernel_rfl) (by kernel_rfl) (fun _ _ _ h => h) (Or.inl ⟨by rfl, ?_⟩) (by assumption) ?_
         ·intro w hSw; (try dsimp only at hSw); (try go_simp); (first | done | (with_reducible rfl) | simp)
         try simp only [Act.put, List.setIfInBounds_toArray, List.set_cons_zero, List.set_cons_succ]
         refine wpAnyH_take (i := 43) (v := .bool false) (by simp only [List.getElem?_toArray, List.getElem?_cons_succ, List.getElem?_cons_zero]; rfl) (by kernel_rfl) (by kernel_rfl) (by kernel_rfl) (fun _ _ _ h => h) (Or.inl ⟨by rfl, ?_⟩) (by assumption) ?_
         ·intro w hSw; (try dsimp only at hSw); (try go_simp); (first | done | (with_reducible rfl) | simp)
         try simp only [Act.put, List.setIfInBounds_toArray, List.set_cons_zero, List.set_cons_succ]
         refine wpAnyH_done (by kernel_rfl) ?_ _
         refine NoPanic.normal ?_
         go_wp2_with fail
         clear v3 v4 v6 v7 v9
         refine ⟨⟨k + 1, by go_num, by omega, LB.out⟩, ?_⟩
         show n + 1 - ((k : Int) + 1).toNat < n + 1 - (k : Int).toNat
         omega
        ·have hklt1 : ¬ (k : Int) < (n : Int) := by omega
         clear hla hklt hkn
         go_wp2_with fail
         go_loopw [11] (fun kv W => Hid (∃ k : Nat, kv = .int .i64 (k : Int) ∧ k ≤ 70 ∧ LaN w W B ga D (.slice (some ⟨gm, 0, none⟩) i cm) L2 i)) (fun kv _ => match kv with | .int _ k => 70 + 1 - k.toNat | _ => 0)
         case atStart => exact ⟨0, rfl, Nat.zero_le _, LA.out⟩
         case round =>
          clear LA hklt1
          obtain ⟨W5, hW5⟩ : ∃ W5, W5 = wr := ⟨_, rfl⟩
          rw [← hW5] at hrel ⊢
          clear hW5
          obtain ⟨t, rfl, htn, hla⟩ := hrel.out
          clear hrel
          have LA := hid hla
          have htl : t < 70 ∨ t = 70 := by omega
          rcases htl with htlt | htlt
          ·obtain ⟨mki, hmki⟩ : ∃ mki : Int, mki = -1000 * ((q : Int) + 1) - (t : Int) := ⟨_, rfl⟩
           have hMk : x.M[(n + t) * 2]? = some (.int .i64 mki) := by
            rw [HP.out.M, List.getElem?_append_right (by rw [mkN_len, ← HNN.out]; omega), mkN_len, ← HNN.out, show (n + t) * 2 - n * 2 = t * 2 by omega, grN_at0 q 70 t htlt, hmki]
           have hMk2 : x.M[(n + t) * 2 + 1]? = some (.int .i64 5) := by
            rw [HP.out.M, List.getElem?_append_right (by rw [mkN_len, ← HNN.out]; omega), mkN_len, ← HNN.out, show (n + t) * 2 + 1 - n * 2 = t * 2 + 1 by omega, grN_at1 q 70 t htlt]
           obtain ⟨gu, cu, hu, _, hgul, e4, _⟩ := own_cell (hla.ap.fam.pair q x HX.out).own hMk
           obtain ⟨gu8, cu8, hu8, _, _, e4b, _⟩ := own_cell (hla.ap.fam.pair q x HX.out).own hMk2
           rw [hu] at hu8
           simp only [Value.slice.injEq, Option.some.injEq, Addr.mk.injEq, true_and, and_true] at hu8
           rw [← hu8.1] at e4b
           rw [HP.out.m, ← HNN.out] at hu
           obtain ⟨_, _, hmv9, _, hgml, e3, _⟩ := own_cell hla.ap.more HM0.out
           simp only [Value.slice.injEq, Option.some.injEq, Addr.mk.injEq, true_and, and_true] at hmv9
           rw [← hmv9.1] at hgml e3
           rw [hu] at e3
           have htlt1 : (t : Int) < 70 := by omega
           have b1 : (n : Int) + (t : Int) < (n : Int) + 70 := by omega
           have b2 : (0 : Int) ≤ (n : Int) + (t : Int) := by omega
           have b3 : ((n : Int) + (t : Int)).toNat = n + t := by omega
           have V6 : Hid (IntKind.i64.wrap (-1000 * ((q : Int) + 1) - (t : Int)) = mki) := by show _ = _; rw [hmki, IntKind.wrap_i64]; omega
           have V7 : Hid (IntKind.i64.wrap ((t : Int) + 1) = (t : Int) + 1) := by show _ = _; rw [IntKind.wrap_i64]; omega
           have V8 : Hid (IntKind.i64.wrap ((n : Int) + (t : Int)) = (n : Int) + (t : Int)) := by show _ = _; rw [IntKind.wrap_i64]; omega
           clear hla hMk hmv9 hmki hu hMk2 hu8
           have v3 := V3.out
           have v5 := V5.out
           have v6 := V6.out
           have v7 := V7.out
           have v8 := V8.out
           go_wp2_with fail
           clear v3 v5 v6 v7 v8
           refine ⟨⟨t + 1, by go_num, by omega, LA.out⟩, ?_⟩
           show 70 + 1 - ((t : Int) + 1).toNat < 70 + 1 - (t : Int).toNat
           omega
          ·have htlt1 : ¬ (t : Int) < 70 := by omega
           clear hla htlt htn
           have v3 := V3.out
           go_wp2_with fail
           clear v3
           refine ⟨⟨q + 1, by go_num, by omega, LA.out⟩, ?_⟩
           show i + 1 - ((q : Int) + 1).toNat < i + 1 - (q : Int).toNat
           omega
      ·have hqlt1 : ¬ (q : Int) < (i : Int) := by omega
       clear hla hqlt hqn
       go_wp2_with fail
       go_ret
       exact ⟨rfl, ⟨LA.out.fr.b0, LA.out.fr.kept⟩⟩
end Go.Proofs.YtdkboifpdodonacGreatDoor
/-
 Numbers as texts: plain mathematics.
-/
namespace PureCnf
open Go.Lib

def digB (c : UInt8) : Bool := decide (48 ≤ c.toNat ∧ c.toNat ≤ 57)
def valN (l : List UInt8) : Nat := l.foldl (fun a c => 10 * a + (c.toNat - 48)) 0
/-- digits without needless zeros. -/
def plainB (l : List UInt8) : Bool := decide (l ≠ []) && !(decide (1 < l.length) && decide (l.head? = some 48))
def numOk (l : List UInt8) : Bool := plainB l && l.all digB
def numB (l : List UInt8) (most : Nat) : Int := if numOk l = true ∧ valN l ≤ most then (valN l : Int) else -1

theorem valN_snoc (l : List UInt8) (c : UInt8) : valN (l ++ [c]) = 10 * valN l + (c.toNat - 48) := by simp [valN, List.foldl_append]
theorem fold_ge (a : Nat) (l : List UInt8) : a ≤ l.foldl (fun a c => 10 * a + (c.toNat - 48)) a := by
 induction l generalizing a with
 | nil => exact Nat.le_refl _
 | cons c t ih => exact Nat.le_trans (show a ≤ 10 * a + (c.toNat - 48) by omega) (ih _)
theorem valN_take_le (l : List UInt8) (k : Nat) : valN (l.take k) ≤ valN l := by
 have e : valN l = (l.drop k).foldl (fun a c => 10 * a + (c.toNat - 48)) (valN (l.take k)) := by
  conv => lhs; rw [← List.take_append_drop k l]
  rw [valN, List.foldl_append]; rfl
 rw [e]; exact fold_ge _ _
theorem numB_off {l : List UInt8} {most k : Nat} (hk : k < l.length) (h : digB l[k] = false) : numB l most = -1 := by
 have : l.all digB = false := by
  rw [Bool.eq_false_iff]; intro ha
  have := List.all_eq_true.1 ha _ (List.getElem_mem hk)
  rw [h] at this; cases this
 unfold numB numOk; rw [this]; simp
theorem numB_great {l : List UInt8} {most k : Nat} (h : most < valN (l.take k)) : numB l most = -1 := by
 have := valN_take_le l k
 unfold numB; rw [if_neg (by omega)]
theorem numB_plain {l : List UInt8} {most : Nat} (h : plainB l = false) : numB l most = -1 := by
 unfold numB numOk; rw [h]; simp
theorem numB_end {l : List UInt8} {most : Nat} (h1 : plainB l = true) (h2 : l.all digB = true) (h3 : valN l ≤ most) : numB l most = valN l := by
 unfold numB numOk; rw [h1, h2, if_pos ⟨rfl, h3⟩]
theorem numB_range (l : List UInt8) (most : Nat) : -1 ≤ numB l most ∧ numB l most ≤ most := by
 unfold numB; split <;> omega

/-! ### back -/
theorem digB_of {d : Nat} (h : d < 10) : digB (UInt8.ofNat (48 + d)) = true := by
 have : (UInt8.ofNat (48 + d)).toNat = 48 + d := by simp; omega
 unfold digB; rw [this]; simp; omega
theorem dec_all (n : Nat) : (decDigits n).all digB = true := by
 induction n using Nat.strongRecOn with
 | _ n ih =>
  rw [decDigits]
  split
  ·next h => simp only [List.all_cons, List.all_nil, digB_of h, Bool.and_self]
  ·next h => simp only [List.all_append, ih (n / 10) (by omega), List.all_cons, List.all_nil, digB_of (Nat.mod_lt n (by omega : 0 < 10)), Bool.and_self]
theorem dec_val (n : Nat) : valN (decDigits n) = n := by
 induction n using Nat.strongRecOn with
 | _ n ih =>
  rw [decDigits]
  split
  ·next h =>
   have : (UInt8.ofNat (48 + n)).toNat = 48 + n := by simp; omega
   simp only [valN, List.foldl_cons, List.foldl_nil, this]; omega
  ·next h =>
   have : (UInt8.ofNat (48 + n % 10)).toNat = 48 + n % 10 := by simp; omega
   rw [valN_snoc, ih (n / 10) (by omega), this]; omega
theorem dec_head (n : Nat) (h : 0 < n) : (decDigits n).head? ≠ some 48 := by
 induction n using Nat.strongRecOn with
 | _ n ih =>
  rw [decDigits]
  split
  ·next h10 =>
   intro he
   simp only [List.head?_cons, Option.some.injEq] at he
   have : (UInt8.ofNat (48 + n)).toNat = 48 + n := by simp; omega
   rw [he] at this
   simp at this
   omega
  ·next h10 =>
   have hp : 0 < n / 10 := by omega
   have i := ih (n / 10) (by omega) hp
   have hne : decDigits (n / 10) ≠ [] := by
    rw [decDigits]; split <;> simp
   obtain ⟨c, t, e⟩ := List.exists_cons_of_ne_nil hne
   rw [e] at i ⊢
   simpa using i
theorem dec_plain (n : Nat) : plainB (decDigits n) = true := by
 have hne : decDigits n ≠ [] := by rw [decDigits]; split <;> simp
 by_cases h : n < 10
 ·have : decDigits n = [UInt8.ofNat (48 + n)] := by rw [decDigits, dif_pos h]
  unfold plainB; rw [this]; simp
 ·have := dec_head n (by omega)
  unfold plainB; simp [hne, this]
theorem dec_num (n most : Nat) (h : n ≤ most) : numB (decDigits n) most = n := by
 rw [numB_end (dec_plain n) (dec_all n) (by rw [dec_val]; exact h), dec_val]
end PureCnf
