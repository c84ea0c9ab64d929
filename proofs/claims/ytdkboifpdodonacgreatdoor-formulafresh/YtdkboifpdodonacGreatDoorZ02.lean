import Derived.Test.YtdkboifpdodonacGreatDoorZ01
set_option linter.unusedSimpArgs false
/-
 The law's intsApart.
-/
namespace Go.Proofs.YtdkboifpdodonacGreatDoor
open Go.RowKit Go.Deep ShfKit
set_option maxRecDepth 100000

theorem info31 : (Tryz.prog.info? 31).map (fun i => (i.zero, i.size, i.bytes)) = some (some (.slice none 0 0), 1, 24) := by kernel_rfl
theorem own_sh {W : World} {B e size n : Nat} {v : Value} {xs : List Value} (h : W.ownsRow B e size v n xs) : ∃ sa c, v = .slice sa n c := by
 rcases h.2 with ⟨hv, h0⟩ | ⟨g, cap, cur, hv, _⟩
 ·exact ⟨none, 0, by rw [hv, h0]⟩
 ·exact ⟨_, _, hv⟩
/-- append of one, in the text's order, told where it lies. -/
theorem wpl_one {ops : Array Oper} {rest : List Oper} {o : Oper} {a : Act} {Q : Exit → Act → World → Prop} {W : World} (hg : o.guard = none) (s x : Operand) (t : TypeId) (hop : o.op = Op.call { callee := Callee.builtin Builtin.append, args := #[s, x], argTypes := #[t, t] })
  (B : Nat) (e : TypeId) (z : Value) (size bytes : Nat) (ht : Tryz.prog.underlying t = some (.slice e)) (hinf : (Tryz.prog.info? e).map (fun i => (i.zero, i.size, i.bytes)) = some (some z, size, bytes))
  (hzs : z.cells.size = size) (hsz : 0 < size) (v : Value) (n : Nat) (xs : List Value) (hs : a.eval s = v) (hown : W.ownsRow B e size v n xs) (news : List Value) (u : TypeId) (ad : Nat) (had : ad = W.heap.size) (hx : a.eval x = .slice (some ⟨ad, 0, none⟩) 1 1) (hl : news.length = size) (h1 : ∀ u ∈ news, u.oneCell' = true) (hn : n ≤ 1099511627776) (hby : (n + 1) * bytes ≤ 140737488355328) (hbase : B ≤ W.heap.size)
  (hK : ∀ v' w', w'.ownsRow B e size v' (n + 1) (xs ++ news) → ((v'.ownBlock = v.ownBlock ∧ (W.alloc (.cells news.toArray u)).grownBy w' v.ownBlock) ∨ ((∀ g, v'.ownBlock = some g → (W.alloc (.cells news.toArray u)).heap.size ≤ g) ∧ (W.alloc (.cells news.toArray u)).grownBy w' none)) → wpList Tryz.prog ops Q rest (a.put o.dst v') w') :
  wpList Tryz.prog ops Q (o :: rest) a (W.alloc (.cells news.toArray u)) := by
 subst had
 obtain ⟨i, hi, hz0, hz1, hz2⟩ := info_parts hinf
 exact wpList_append_far _ hg s x t hop B e i z size bytes ht hi hz0 hz1 hz2 hzs hsz v n xs hs (own_kept hown fun g hgv => Below.heap_alloc _ _ _ (own_block hown hgv).2) ⟨W.heap.size, 0, none⟩ 1 1 news hx (by rw [hl, Nat.one_mul]) (fun j u hu => by rw [add_zero_addr, cell_row (heap_alloc_new W _)]; simpa using hu) h1 (by unfold maxLen; omega) hby (by simp; omega) hK
def mkI (i n : Nat) : List Value := (List.range n).map fun (k : Nat) => Value.int .i64 (10000000 * ((i : Int) + 1) + (k : Int))
def grI (i c : Nat) : List Value := (List.range c).map fun (k : Nat) => Value.int .i64 (-1000 * ((i : Int) + 1) - (k : Int))
theorem mkI_len (i n : Nat) : (mkI i n).length = n * 1 := by simp [mkI]
theorem mkI_at (i n k : Nat) (h : k < n) : (mkI i n)[k]? = some (.int .i64 (10000000 * ((i : Int) + 1) + (k : Int))) := by simp [mkI, h]
theorem grI_succ (i c : Nat) : grI i (c + 1) = grI i c ++ [.int .i64 (-1000 * ((i : Int) + 1) - (c : Int))] := by simp [grI, List.range_succ]
theorem grI_at (i c k : Nat) (h : k < c) : (grI i c)[k]? = some (.int .i64 (-1000 * ((i : Int) + 1) - (k : Int))) := by simp [grI, h]
/-- one more is marked. -/
theorem part_set (i n k : Nat) (A : List Value) (hA : A.length = n * 1) (hk : k < n) : ((mkI i n).take (k * 1) ++ A.drop (k * 1)).set k (.int .i64 (10000000 * ((i : Int) + 1) + (k : Int))) = (mkI i n).take ((k + 1) * 1) ++ A.drop ((k + 1) * 1) := by
 rw [Nat.mul_one, Nat.mul_one] at *
 have hl : ((mkI i n).take k).length = k := by rw [List.length_take, mkI_len]; omega
 rw [List.set_append_right _ _ (by omega), hl, Nat.sub_self, List.drop_eq_getElem_cons (by omega), List.set_cons_zero, List.take_add_one, mkI_at i n k hk, List.append_assoc]
 rfl
/-- what the law's list of lists has in memory. -/
structure La (w W : World) (B ga : Nat) (D : List Rw) (mv : Value) (L : List Pr) (k : Nat) : Prop where
 ap : Ap W B 3 1 31 ga mv L k
 fr : Fr w W D mv L
 len : L.length = D.length
 hB : B ≤ w.heap.size
theorem La.below {w W W' : World} {B ga k : Nat} {D : List Rw} {mv : Value} {L : List Pr} (h : La w W B ga D mv L k) (hb : Below W.heap.size W W') : La w W' B ga D mv L k := ⟨h.ap.below hb, h.fr.below hb, h.len, h.hB⟩
theorem La.size {w W : World} {B ga k : Nat} {D : List Rw} {mv : Value} {L : List Pr} (h : La w W B ga D mv L k) : B ≤ W.heap.size := Nat.le_trans h.hB h.fr.b0.size
theorem La.cell {w W : World} {B ga k i : Nat} {D : List Rw} {mv : Value} {L : List Pr} {x : Pr} (h : La w W B ga D mv L k) (hx : L[i]? = some x) : W.cell? ⟨ga, i, none⟩ = some x.v := by
 rw [cell_row h.ap.all]
 simp [hx]
/-- only the lists' own blocks have turned. -/
def KeptD (w W : World) (D : List Rw) : Prop := Below 0 w W ∧ ∀ k, k < w.heap.size → (∀ d ∈ D, d.1.ownBlock ≠ some k) → W.heap[k]? = w.heap[k]?
set_option maxHeartbeats 4000000 in
theorem ints_apart (D : List Rw) (ga ca B : Nat) (w : World) (hA : Ap w B 3 1 31 ga (.slice none 0 0) (raws D) 0) (hB : B ≤ w.heap.size) (hN : D.length ≤ 6) (hn : ∀ d ∈ D, d.2.1 ≤ 4194304) :
  Calls Tryz.prog 12 #[.slice (some ⟨ga, 0, none⟩) D.length ca] w fun e W => e = .returned (.bool true) ∧ KeptD w W D := by
 obtain ⟨N, hNd⟩ : ∃ N, N = D.length := ⟨_, rfl⟩
 rw [← hNd] at hN ⊢
 have HN := hid hNd
 have HD := hid hn
 have ST : Hid (La w w B ga D (.slice none 0 0) (raws D) 0 ∧ Sh D (raws D) (P1 mkI 1 0 0)) := ⟨⟨hA, Fr.start w D, by simp [raws], hB⟩, P1.start D⟩
 have HDL : Hid (∀ d ∈ D, d.2.2.length = d.2.1 * 1) := fun d hd => by
  obtain ⟨j, hj⟩ := List.getElem?_of_mem hd
  have h1 := (hA.fam.pair j (prOf d.1 d.2.1 d.2.2) (by simp [raws, hj])).len
  exact h1
 clear hA hB hn hNd
 go_enter Tryz.func12, Tryz.ntmps12
 go_wp2_with fail
 go_loopw [3, 4, 5] (fun mv iv kv W => Hid (∃ (i : Nat) (L : List Pr), iv = .int .i64 (i : Int) ∧ i ≤ N ∧ La w W B ga D mv L i ∧ Sh D L (P1 mkI 1 i 0))) (fun _ iv _ _ => match iv with | .int _ i => N + 1 - i.toNat | _ => 0)
 case atStart => exact ⟨0, _, rfl, Nat.zero_le _, ST.out.1, ST.out.2⟩
 case round =>
  clear ST
  obtain ⟨W1, hW1⟩ : ∃ W1, W1 = wr := ⟨_, rfl⟩
  rw [← hW1] at hrel ⊢
  clear hW1
  obtain ⟨i, L, rfl, hin, hla, hsh⟩ := hrel.out
  clear hrel
  have LA := hid hla
  have SH := hid hsh
  obtain ⟨sm, cm, rfl⟩ := own_sh hla.ap.more
  have hil : i < N ∨ i = N := by omega
  rcases hil with hlt | hlt
  ·obtain ⟨d, hd⟩ : ∃ d, D[i]? = some d := ⟨_, List.getElem?_eq_getElem (by rw [← HN.out]; exact hlt)⟩
   have hdm := List.mem_of_getElem? hd
   have hdn := HD.out d hdm
   have HDI := hid hd
   obtain ⟨n, hnn⟩ : ∃ n, n = d.2.1 := ⟨_, rfl⟩
   have HNN := hid hnn
   obtain ⟨x0, hx0, hp0⟩ := hsh.get hd
   obtain ⟨sx, cx, hsx⟩ := (hla.ap.fam.pair i x0 hx0).shape
   have hxv : x0.v = d.1 := by rw [hp0.at_]; rfl
   have hxn : x0.n = d.2.1 := by rw [hp0.at_]; rfl
   rw [hxv, hxn, ← hnn] at hsx
   have HSX := hid hsx
   have hlt1 : (i : Int) < (N : Int) := by omega
   have V1 : Hid (IntKind.i64.wrap ((i : Int) + 1) = (i : Int) + 1) := by show _ = _; rw [IntKind.wrap_i64]; omega
   have V2 : Hid (IntKind.i64.wrap (10000000 * ((i : Int) + 1)) = 10000000 * ((i : Int) + 1)) := by show _ = _; rw [IntKind.wrap_i64]; omega
   have hga := hla.ap.lt
   rw [← hnn] at hdn
   clear hdm hxv hxn hsx hd hnn hx0 hp0 hla hsh
   go_wp2_with fail
   go_loopw [5] (fun kv W => Hid (∃ (k : Nat) (L2 : List Pr), kv = .int .i64 (k : Int) ∧ k ≤ n ∧ La w W B ga D (.slice sm i cm) L2 i ∧ Sh D L2 (P1 mkI 1 i k))) (fun kv _ => match kv with | .int _ k => n + 1 - k.toNat | _ => 0)
   case atStart => exact ⟨0, L, rfl, Nat.zero_le _, LA.out, SH.out⟩
   case round =>
    clear LA SH
    obtain ⟨W2, hW2⟩ : ∃ W2, W2 = wr := ⟨_, rfl⟩
    rw [← hW2] at hrel ⊢
    clear hW2
    obtain ⟨k, L2, rfl, hkn, hla, hsh⟩ := hrel.out
    clear hrel
    have LA := hid hla
    have SH := hid hsh
    obtain ⟨x, hx, hp⟩ := hsh.get HDI.out
    have hxe := hp.at_
    have hc0 := hla.cell hx
    rw [show x.v = d.1 by rw [hxe]; rfl, HSX.out] at hc0
    have hga2 := hla.ap.lt
    have hown := (hla.ap.fam.pair i x hx).own
    rw [hxe] at hown hx
    have hown' : W2.ownsRow B 3 1 d.1 d.2.1 ((mkI i d.2.1).take (k * 1) ++ d.2.2.drop (k * 1)) := hown
    have V3 : Hid (IntKind.i64.wrap ((k : Int) + 1) = (k : Int) + 1) := by show _ = _; rw [IntKind.wrap_i64]; omega
    have V4 : Hid (IntKind.i64.wrap (10000000 * ((i : Int) + 1) + (k : Int)) = 10000000 * ((i : Int) + 1) + (k : Int)) := by show _ = _; rw [IntKind.wrap_i64]; omega
    have hkl : k < n ∨ k = n := by omega
    rcases hkl with hklt | hklt
    ·have hlen : ((mkI i d.2.1).take (k * 1) ++ d.2.2.drop (k * 1)).length = n := by
      have h1 := HDL.out d (List.mem_of_getElem? HDI.out)
      have h2 := HNN.out
      rw [List.length_append, List.length_take, List.length_drop, mkI_len, h1]
      omega
     obtain ⟨z, hz⟩ : ∃ z, ((mkI i d.2.1).take (k * 1) ++ d.2.2.drop (k * 1))[k]? = some z := ⟨_, List.getElem?_eq_getElem (by rw [hlen]; exact hklt)⟩
     obtain ⟨g, c, hv, hgB, hgW, ck, fk⟩ := own_cell hown' hz
     have hv2 := hv
     rw [HSX.out, ← HNN.out] at hv2
     simp only [Value.slice.injEq, true_and] at hv2
     obtain ⟨rfl, rfl⟩ := hv2
     obtain ⟨s1, s2⟩ := own_set hown' (j := k) hv (.int .i64 (10000000 * ((i : Int) + 1) + (k : Int)))
     rw [part_set i d.2.1 k d.2.2 (HDL.out d (List.mem_of_getElem? HDI.out)) (by rw [← HNN.out]; exact hklt)] at s1
     have NX : Hid (La w (W2.setCell ⟨g, k, none⟩ (.int .i64 (10000000 * ((i : Int) + 1) + (k : Int)))) B ga D (.slice sm i cm) (L2.set i (prOf d.1 d.2.1 ((mkI i d.2.1).take ((k + 1) * 1) ++ d.2.2.drop ((k + 1) * 1)))) i ∧ Sh D (L2.set i (prOf d.1 d.2.1 ((mkI i d.2.1).take ((k + 1) * 1) ++ d.2.2.drop ((k + 1) * 1)))) (P1 mkI 1 i (k + 1))) :=
      ⟨⟨hla.ap.write hx s1 s2, hla.fr.write hx s2, by rw [List.length_set]; exact hla.len, hla.hB⟩, hsh.set HDI.out P1.mk_ (fun j d' x' hj h => h.other hj)⟩
     have hklt1 : (k : Int) < (n : Int) := by omega
     clear hla hsh hx hp hxe hown hown' hv s1 s2 hlen hz
     have v1 := V1.out
     have v2 := V2.out
     have v3 := V3.out
     have v4 := V4.out
     go_wp2_with fail
     clear v1 v2 v3 v4
     refine ⟨⟨k + 1, _, by go_num, by omega, NX.out.1, NX.out.2⟩, ?_⟩
     show n + 1 - ((k : Int) + 1).toNat < n + 1 - (k : Int).toNat
     omega
    ·have hklt1 : ¬ (k : Int) < (n : Int) := by omega
     have SH2 := hid (P1.next hsh HDI.out (by rw [hklt]; exact HNN.out) mkI_len (HDL.out d (List.mem_of_getElem? HDI.out)))
     have hxu : x.u = .slice sx n cx := by rw [hxe]; exact HSX.out
     have HX := hid hx
     have HXU := hid hxu
     have HXE := hid hxe
     clear hla hsh hp hown hown' hx hxe hxu SH V3 V4 hklt
     have v1 := V1.out
     go_wp2_with (at_builtin; refine wpl_one rfl _ _ 41 rfl B 31 _ 1 24 Tryz.underlying41 info31 rfl (by decide) (.slice sm i cm) i ((L2.take i).map Pr.u) rfl LA.out.ap.more [.slice sx n cx] 31 _ rfl rfl rfl (fun u hu => by simp at hu; subst hu; rfl) (by omega) (by omega) LA.out.size ?_; intro v8 w8 o8 f8; obtain ⟨sm8, cm8, rfl⟩ := own_sh o8; have LB := LA.out.below ((Below.refl _ _).alloc (Nat.le_refl _) (Obj.cells #[Value.slice sx n cx] 31)); have NX : Hid (La w w8 B ga D (.slice sm8 (i + 1) cm8) L2 (i + 1)) := ⟨LB.ap.push HX.out (by rw [show (prOf d.1 d.2.1 ((mkI i d.2.1).take (k * 1) ++ d.2.2.drop (k * 1))).u = .slice sx n cx from HSX.out]; exact o8) f8, LB.fr.push f8, LB.len, LB.hB⟩; clear o8 f8 LB)
     clear v1
     refine ⟨⟨i + 1, _, by go_num, by omega, NX.out, SH2.out⟩, ?_⟩
     show N + 1 - ((i : Int) + 1).toNat < N + 1 - (i : Int).toNat
     omega
  ·have hlt1 : ¬ (i : Int) < (N : Int) := by omega
   have SD : Hid (Sh D L (P2 mkI grI fun _ => 0)) := by
    have h1 := hsh
    rw [hlt, HN.out] at h1
    exact P1.done h1 (fun _ => rfl)
   have LD : Hid (La w W1 B ga D (.slice sm N cm) L N) := by
    have h1 := hla
    rw [hlt] at h1
    exact h1
   subst hlt
   clear hla hsh LA SH hin
   go_wp2_with fail
   go_loopw [6, 7] (fun kv iv W => Hid (∃ (k : Nat) (L2 : List Pr), kv = .int .i64 (k : Int) ∧ k ≤ 70 ∧ La w W B ga D (.slice sm i cm) L2 i ∧ Sh D L2 (P2 mkI grI fun _ => k))) (fun kv _ _ => match kv with | .int _ k => 70 + 1 - k.toNat | _ => 0)
   case atStart => exact ⟨0, L, rfl, Nat.zero_le _, LD.out, SD.out⟩
   case round =>
    clear LD SD hlt1
    obtain ⟨W2, hW2⟩ : ∃ W2, W2 = wr := ⟨_, rfl⟩
    rw [← hW2] at hrel ⊢
    clear hW2
    obtain ⟨k, L2, rfl, hkn, hla, hsh⟩ := hrel.out
    clear hrel
    have LA := hid hla
    have SH := hid hsh
    clear hla hsh
    have hkl : k < 70 ∨ k = 70 := by omega
    rcases hkl with hklt | hklt
    ·have hklt1 : (k : Int) < 70 := by omega
     have V1 : Hid (IntKind.i64.wrap ((k : Int) + 1) = (k : Int) + 1) := by show _ = _; rw [IntKind.wrap_i64]; omega
     go_wp2_with fail
     go_loopw [7] (fun iv W => Hid (∃ (q : Nat) (L3 : List Pr), iv = .int .i64 (q : Int) ∧ q ≤ i ∧ La w W B ga D (.slice sm i cm) L3 i ∧ Sh D L3 (P2 mkI grI fun j => if j < q then k + 1 else k))) (fun iv _ => match iv with | .int _ q => i + 1 - q.toNat | _ => 0)
     case atStart => exact ⟨0, L2, rfl, Nat.zero_le _, LA.out, P2.again SH.out (fun j _ => by rw [if_neg (Nat.not_lt_zero _)])⟩
     case round =>
      clear LA SH
      obtain ⟨W3, hW3⟩ : ∃ W3, W3 = wr := ⟨_, rfl⟩
      rw [← hW3] at hrel ⊢
      clear hW3
      obtain ⟨q, L3, rfl, hqn, hla, hsh⟩ := hrel.out
      clear hrel
      have LA := hid hla
      have SH := hid hsh
      have hql : q < i ∨ q = i := by omega
      rcases hql with hqlt | hqlt
      ·obtain ⟨d, hd⟩ : ∃ d, D[q]? = some d := ⟨_, List.getElem?_eq_getElem (by rw [← HN.out]; exact hqlt)⟩
       have hdn := HD.out d (List.mem_of_getElem? hd)
       obtain ⟨x, hx, hp⟩ := hsh.get hd
       have hm0 : ((L3.take i).map Pr.u)[q]? = some x.u := by
        rw [List.getElem?_map, List.getElem?_take_of_lt hqlt, hx]
        rfl
       obtain ⟨gm, c9, hmv, hgB, hgW, ck, _⟩ := own_cell hla.ap.more hm0
       simp only [Value.slice.injEq, true_and] at hmv
       obtain ⟨rfl, rfl⟩ := hmv
       have hown := (hla.ap.fam.pair q x hx).own
       obtain ⟨m, hm⟩ : ∃ m, m = x.m := ⟨_, rfl⟩
       have hm2 : m ≤ 4194374 := by
        have h1 := hp.m
        rw [if_neg (Nat.lt_irrefl _)] at h1
        omega
       rw [← hm] at hown
       obtain ⟨su, cu, hu⟩ := own_sh hown
       rw [hu] at ck
       have HX := hid hx
       have HP := hid hp
       have HDI := hid hd
       have HU := hid hu
       have HM := hid hm
       have HOW := hid hown
       have hqlt1 : (q : Int) < (i : Int) := by omega
       have V3 : Hid (IntKind.i64.wrap ((q : Int) + 1) = (q : Int) + 1) := by show _ = _; rw [IntKind.wrap_i64]; omega
       have V4 : Hid (IntKind.i64.wrap (-1000 * ((q : Int) + 1)) = -1000 * ((q : Int) + 1)) := by show _ = _; rw [IntKind.wrap_i64]; omega
       have V5 : Hid (IntKind.i64.wrap (-1000 * ((q : Int) + 1) - (k : Int)) = -1000 * ((q : Int) + 1) - (k : Int)) := by show _ = _; rw [IntKind.wrap_i64]; omega
       have HPO : Hid (∀ u', Sh D (L3.set q ⟨x.v, x.n, x.A, u', m + 1, x.M ++ [.int .i64 (-1000 * ((q : Int) + 1) - (k : Int))]⟩) (P2 mkI grI fun j => if j < q + 1 then k + 1 else k)) := fun u' => by
        have h := P2.one (u' := u') hsh hd hp (grI_succ q k)
        rw [← hm] at h
        exact h
       clear hla hsh hx hp hd hu hm hown hm0 hdn SH
       have v3 := V3.out
       have v4 := V4.out
       have v5 := V5.out
       go_wp2_with (first
        | (have q := HW8; clear q; rw [← HW8.out])
        | (at_builtin; refine wpl_one rfl _ _ 31 rfl B 3 _ 1 8 Tryz.underlying31 info3 rfl (by decide) (.slice su m cu) m x.M rfl (by have h := HOW.out; rw [HU.out] at h; exact h) [.int .i64 (-1000 * ((q : Int) + 1) - (k : Int))] 3 _ rfl rfl rfl (fun u hu => by simp at hu; subst hu; rfl) (by clear v3 v4 v5; omega) (by clear v3 v4 v5; omega) LA.out.size ?_; intro v8 w8 o8 f8; obtain ⟨su8, cu8, rfl⟩ := own_sh o8; have LB := LA.out.below ((Below.refl _ _).alloc (Nat.le_refl _) (Obj.cells #[Value.int .i64 (-1000 * ((q : Int) + 1) - (k : Int))] 3)); rw [← HU.out] at f8; obtain ⟨W9, hW9⟩ : ∃ W9, W9 = w8.setCell ⟨gm, q, none⟩ (.slice su8 (m + 1) cu8) := ⟨_, rfl⟩; obtain ⟨a1, a2⟩ := LB.ap.grow (LB.len.symm ▸ HN.out) HX.out o8 f8 hW9; have a3 := LB.fr.grow (z := [.int .i64 (-1000 * ((q : Int) + 1) - (k : Int))]) (m' := m + 1) HX.out rfl f8 hW9; have NX : Hid (La w W9 B ga D (.slice (some ⟨gm, 0, none⟩) i cm) (L3.set q ⟨x.v, x.n, x.A, .slice su8 (m + 1) cu8, m + 1, x.M ++ [.int .i64 (-1000 * ((q : Int) + 1) - (k : Int))]⟩) i) := ⟨a2, a3, (by rw [List.length_set]; exact LB.len), LB.hB⟩; obtain ⟨_, _, hmv9, _, gW8, cW8, fW8⟩ := own_cell a1 (show (L3.map Pr.u)[q]? = some x.u from (by rw [List.getElem?_map, HX.out]; rfl)); simp only [Value.slice.injEq, Option.some.injEq, Addr.mk.injEq, true_and, and_true] at hmv9; rw [← hmv9.1] at gW8 cW8 fW8; have HW8 := hid hW9; clear o8 f8 LB a1 a2 a3 hmv9 hW9))
       clear v3 v4 v5
       refine ⟨⟨q + 1, _, by go_num, by omega, NX.out, HPO.out _⟩, ?_⟩
       show i + 1 - ((q : Int) + 1).toNat < i + 1 - (q : Int).toNat
       omega
      ·have hqlt1 : ¬ (q : Int) < (i : Int) := by omega
       have SH2 : Hid (Sh D L3 (P2 mkI grI fun _ => k + 1)) := P2.again hsh (fun j hj => by rw [if_pos (by rw [hqlt, HN.out]; exact hj)])
       clear hla hsh SH hqlt hqn
       have v1 := V1.out
       go_wp2_with fail
       clear v1
       refine ⟨⟨k + 1, _, by go_num, by omega, LA.out, SH2.out⟩, ?_⟩
       show 70 + 1 - ((k : Int) + 1).toNat < 70 + 1 - (k : Int).toNat
       omega
    ·have hklt1 : ¬ (k : Int) < 70 := by omega
     subst hklt
     clear hkn
     go_wp2_with fail
     go_loopw [8, 9, 10, 11] (fun iv _ _ _ W => Hid (∃ q : Nat, iv = .int .i64 (q : Int) ∧ q ≤ i ∧ La w W B ga D (.slice sm i cm) L2 i)) (fun iv _ _ _ _ => match iv with | .int _ q => i + 1 - q.toNat | _ => 0)
     case atStart => exact ⟨0, rfl, Nat.zero_le _, LA.out⟩
     case round =>
      clear LA hklt1
      obtain ⟨W3, hW3⟩ : ∃ W3, W3 = wr := ⟨_, rfl⟩
      rw [← hW3] at hrel ⊢
      clear hW3
      obtain ⟨q, rfl, hqn, hla⟩ := hrel.out
      clear hrel
      have LA := hid hla
      have hql : q < i ∨ q = i := by omega
      rcases hql with hqlt | hqlt
      ·obtain ⟨d, hd⟩ : ∃ d, D[q]? = some d := ⟨_, List.getElem?_eq_getElem (by rw [← HN.out]; exact hqlt)⟩
       have hdn := HD.out d (List.mem_of_getElem? hd)
       obtain ⟨x, hx, hp⟩ := SH.out.get hd
       have hm0 : ((L2.take i).map Pr.u)[q]? = some x.u := by
        rw [List.getElem?_map, List.getElem?_take_of_lt hqlt, hx]
        rfl
       obtain ⟨gm, c9, hmv, hgB, hgW, _, _⟩ := own_cell hla.ap.more hm0
       simp only [Value.slice.injEq, true_and] at hmv
       obtain ⟨rfl, rfl⟩ := hmv
       obtain ⟨n, hn⟩ : ∃ n, n = d.2.1 := ⟨_, rfl⟩
       have HX := hid hx
       have HP := hid hp
       have HM0 := hid hm0
       have hc0 := hla.cell hx
       have hga := hla.ap.lt
       obtain ⟨sx, cx, hsx⟩ := (hla.ap.fam.pair q x hx).shape
       rw [hp.n, ← hn] at hsx
       rw [hsx] at hc0
       have hqlt1 : (q : Int) < (i : Int) := by omega
       have hnb : n ≤ 4194304 := by omega
       have V3 : Hid (IntKind.i64.wrap ((q : Int) + 1) = (q : Int) + 1) := by show _ = _; rw [IntKind.wrap_i64]; omega
       have V4 : Hid (IntKind.i64.wrap (10000000 * ((q : Int) + 1)) = 10000000 * ((q : Int) + 1)) := by show _ = _; rw [IntKind.wrap_i64]; omega
       have V5 : Hid (IntKind.i64.wrap (-1000 * ((q : Int) + 1)) = -1000 * ((q : Int) + 1)) := by show _ = _; rw [IntKind.wrap_i64]; omega
       have HSX := hid hsx
       have HNN := hid hn
       clear hla hx hp hm0 hd hdn hsx hn
       go_wp2_with fail
       go_loopw [10] (fun kv W => Hid (∃ k : Nat, kv = .int .i64 (k : Int) ∧ k ≤ n ∧ La w W B ga D (.slice (some ⟨gm, 0, none⟩) i cm) L2 i)) (fun kv _ => match kv with | .int _ k => n + 1 - k.toNat | _ => 0)
       case atStart => exact ⟨0, rfl, Nat.zero_le _, LA.out⟩
       case round =>
        clear LA hc0 hga hgW
        obtain ⟨W4, hW4⟩ : ∃ W4, W4 = wr := ⟨_, rfl⟩
        rw [← hW4] at hrel ⊢
        clear hW4
        obtain ⟨k, rfl, hkn, hla⟩ := hrel.out
        clear hrel
        have LA := hid hla
        have hkl : k < n ∨ k = n := by omega
        rcases hkl with hklt | hklt
        ·obtain ⟨mki, hmki⟩ : ∃ mki : Int, mki = 10000000 * ((q : Int) + 1) + (k : Int) := ⟨_, rfl⟩
         have hAk : x.A[k]? = some (.int .i64 mki) := by rw [HP.out.A, ← HNN.out, mkI_at q n k hklt, hmki]
         have hMk : x.M[k]? = some (.int .i64 mki) := by
          rw [HP.out.M, List.getElem?_append_left (by rw [mkI_len, ← HNN.out]; omega), ← HNN.out, mkI_at q n k hklt, hmki]
         obtain ⟨g, c8, hv, _, hgl, e2⟩ := (hla.ap.fam.pair q x HX.out).rd k (List.getElem?_eq_some_iff.1 hAk).1
         rw [(List.getElem?_eq_some_iff.1 hAk).2] at e2
         rw [HSX.out, HP.out.n, ← HNN.out] at hv
         simp only [Value.slice.injEq, true_and] at hv
         obtain ⟨rfl, rfl⟩ := hv
         obtain ⟨gu, cu, hu, _, hgul, e4, _⟩ := own_cell (hla.ap.fam.pair q x HX.out).own hMk
         rw [HP.out.m, ← HNN.out] at hu
         have e1 := hla.cell HX.out
         rw [HSX.out] at e1
         obtain ⟨_, _, hmv9, _, hgml, e3, _⟩ := own_cell hla.ap.more HM0.out
         simp only [Value.slice.injEq, Option.some.injEq, Addr.mk.injEq, true_and, and_true] at hmv9
         rw [← hmv9.1] at hgml e3
         rw [hu] at e3
         have hga := hla.ap.lt
         have hklt1 : (k : Int) < (n : Int) := by omega
         have hklt2 : (k : Int) < (n : Int) + 70 := by omega
         have V6 : Hid (IntKind.i64.wrap (10000000 * ((q : Int) + 1) + (k : Int)) = mki) := by show _ = _; rw [hmki, IntKind.wrap_i64]; omega
         have V7 : Hid (IntKind.i64.wrap ((k : Int) + 1) = (k : Int) + 1) := by show _ = _; rw [IntKind.wrap_i64]; omega
         have LB := hid (hla.below (Below.refl _ _).drew)
         clear hla hAk hMk hmv9 hmki hu
         have v3 := V3.out
         have v4 := V4.out
         have v6 := V6.out
         have v7 := V7.out
         go_upto_region 24 with fail
         refine wp_region_noPanic ?_
         refine wp_region_held_drew (S := fun W => W.cell? ⟨ga, q, none⟩ = some (.slice (some ⟨g, 0, none⟩) n cx) ∧ W.cell? ⟨g, k, none⟩ = some (.int .i64 mki) ∧ W.cell? ⟨gm, q, none⟩ = some (.slice (some ⟨gu, 0, none⟩) (n + 70) cu) ∧ W.cell? ⟨gu, k, none⟩ = some (.int .i64 mki)) (by kernel_rfl) ⟨e1, e2, e3, e4⟩ (fun hHeld => ?_)
         refine wpAnyH_take (i := 0) (v := ?_) (by simp only [List.getElem?_toArray, List.getElem?_cons_zero]; rfl) (by kernel_rfl) (by kernel_rfl) (by kernel_rfl) (fun _ _ _ h => h) (Or.inl ⟨by rfl, ?_⟩) (by assumption) ?_
         rotate_left 1
         ·intro w hSw; (try dsimp only at hSw); go_simp; (try with_reducible rfl)
         try simp only [Act.put, List.setIfInBounds_toArray, List.set_cons_zero, List.set_cons_succ]
         refine wpAnyH_take (i := 1) (v := ?_) (by simp only [List.getElem?_toArray, List.getElem?_cons_succ, List.getElem?_cons_zero]; rfl) (by kernel_rfl) (by kernel_rfl) (by kernel_rfl) (fun _ _ _ h => h) (Or.inl ⟨by rfl, ?_⟩) (by assumption) ?_
         rotate_left 1
         ·intro w hSw; (try dsimp only at hSw); go_simp; (try with_reducible rfl)
         try simp only [Act.put, List.setIfInBounds_toArray, List.set_cons_zero, List.set_cons_succ]
         refine wpAnyH_take (i := 2) (v := ?_) (by simp only [List.getElem?_toArray, List.getElem?_cons_succ, List.getElem?_cons_zero]; rfl) (by kernel_rfl) (by kernel_rfl) (by kernel_rfl) (fun _ _ _ h => h) (Or.inl ⟨by rfl, ?_⟩) (by assumption) ?_
         rotate_left 1
         ·intro w hSw; (try dsimp only at hSw); go_simp; (try with_reducible rfl)
         try simp only [Act.put, List.setIfInBounds_toArray, List.set_cons_zero, List.set_cons_succ]
         refine wpAnyH_take (i := 3) (v := ?_) (by simp only [List.getElem?_toArray, List.getElem?_cons_succ, List.getElem?_cons_zero]; rfl) (by kernel_rfl) (by kernel_rfl) (by kernel_rfl) (fun _ _ _ h => h) (Or.inl ⟨by rfl, ?_⟩) (by assumption) ?_
         rotate_left 1
         ·intro w hSw; (try dsimp only at hSw); go_simp; (try with_reducible rfl)
         try simp only [Act.put, List.setIfInBounds_toArray, List.set_cons_zero, List.set_cons_succ]
         refine wpAnyH_take (i := 4) (v := ?_) (by simp only [List.getElem?_toArray, List.getElem?_cons_succ, List.getElem?_cons_zero]; rfl) (by kernel_rfl) (by kernel_rfl) (by kernel_rfl) (fun _ _ _ h => h) (Or.inl ⟨by rfl, ?_⟩) (by assumption) ?_
         rotate_left 1
         ·intro w hSw; (try dsimp only at hSw); go_simp; (try with_reducible rfl)
         try simp only [Act.put, List.setIfInBounds_toArray, List.set_cons_zero, List.set_cons_succ]
         refine wpAnyH_take (i := 5) (v := ?_) (by simp only [List.getElem?_toArray, List.getElem?_cons_succ, List.getElem?_cons_zero]; rfl) (by kernel_rfl) (by kernel_rfl) (by kernel_rfl) (fun _ _ _ h => h) (Or.inl ⟨by rfl, ?_⟩) (by assumption) ?_
         rotate_left 1
         ·intro w hSw; (try dsimp only at hSw); go_simp; (try with_reducible rfl)
         try simp only [Act.put, List.setIfInBounds_toArray, List.set_cons_zero, List.set_cons_succ]
         refine wpAnyH_take (i := 6) (v := ?_) (by simp only [List.getElem?_toArray, List.getElem?_cons_succ, List.getElem?_cons_zero]; rfl) (by kernel_rfl) (by kernel_rfl) (by kernel_rfl) (fun _ _ _ h => h) (Or.inl ⟨by rfl, ?_⟩) (by assumption) ?_
         rotate_left 1
         ·intro w hSw; (try dsimp only at hSw); go_simp; (try with_reducible rfl)
         try simp only [Act.put, List.setIfInBounds_toArray, List.set_cons_zero, List.set_cons_succ]
         refine wpAnyH_take (i := 7) (v := ?_) (by simp only [List.getElem?_toArray, List.getElem?_cons_succ, List.getElem?_cons_zero]; rfl) (by kernel_rfl) (by kernel_rfl) (by kernel_rfl) (fun _ _ _ h => h) (Or.inl ⟨by rfl, ?_⟩) (by assumption) ?_
         rotate_left 1
         ·intro w hSw; (try dsimp only at hSw); go_simp; (try with_reducible rfl)
         try simp only [Act.put, List.setIfInBounds_toArray, List.set_cons_zero, List.set_cons_succ]
         refine wpAnyH_take (i := 8) (v := ?_) (by simp only [List.getElem?_toArray, List.getElem?_cons_succ, List.getElem?_cons_zero]; rfl) (by kernel_rfl) (by kernel_rfl) (by kernel_rfl) (fun _ _ _ h => h) (Or.inl ⟨by rfl, ?_⟩) (by assumption) ?_
         rotate_left 1
         ·intro w hSw; (try dsimp only at hSw); go_simp; (try with_reducible rfl)
         try simp only [Act.put, List.setIfInBounds_toArray, List.set_cons_zero, List.set_cons_succ]
         refine wpAnyH_take (i := 9) (v := ?_) (by simp only [List.getElem?_toArray, List.getElem?_cons_succ, List.getElem?_cons_zero]; rfl) (by kernel_rfl) (by kernel_rfl) (by kernel_rfl) (fun _ _ _ h => h) (Or.inl ⟨by rfl, ?_⟩) (by assumption) ?_
         rotate_left 1
         ·intro w hSw; (try dsimp only at hSw); go_simp; (try with_reducible rfl)
         try simp only [Act.put, List.setIfInBounds_toArray, List.set_cons_zero, List.set_cons_succ]
         refine wpAnyH_take (i := 10) (v := ?_) (by simp only [List.getElem?_toArray, List.getElem?_cons_succ, List.getElem?_cons_zero]; rfl) (by kernel_rfl) (by kernel_rfl) (by kernel_rfl) (fun _ _ _ h => h) (Or.inl ⟨by rfl, ?_⟩) (by assumption) ?_
         rotate_left 1
         ·intro w hSw; (try dsimp only at hSw); go_simp; (try with_reducible rfl)
         try simp only [Act.put, List.setIfInBounds_toArray, List.set_cons_zero, List.set_cons_succ]
         refine wpAnyH_take (i := 11) (v := ?_) (by simp only [List.getElem?_toArray, List.getElem?_cons_succ, List.getElem?_cons_zero]; rfl) (by kernel_rfl) (by kernel_rfl) (by kernel_rfl) (fun _ _ _ h => h) (Or.inl ⟨by rfl, ?_⟩) (by assumption) ?_
         rotate_left 1
         ·intro w hSw; (try dsimp only at hSw); go_simp; (try with_reducible rfl)
         try simp only [Act.put, List.setIfInBounds_toArray, List.set_cons_zero, List.set_cons_succ]
         refine wpAnyH_take (i := 12) (v := .bool false) (by simp only [List.getElem?_toArray, List.getElem?_cons_succ, List.getElem?_cons_zero]; rfl) (by kernel_rfl) (by kernel_rfl) (by kernel_rfl) (fun _ _ _ h => h) (Or.inl ⟨by rfl, ?_⟩) (by assumption) ?_
         ·intro w hSw; (try dsimp only at hSw); (try go_simp); (first | done | (with_reducible rfl) | simp)
         try simp only [Act.put, List.setIfInBounds_toArray, List.set_cons_zero, List.set_cons_succ]
         refine wpAnyH_take (i := 13) (v := .bool false) (by simp only [List.getElem?_toArray, List.getElem?_cons_succ, List.getElem?_cons_zero]; rfl) (by kernel_rfl) (by kernel_rfl) (by kernel_rfl) (fun _ _ _ h => h) (Or.inl ⟨by rfl, ?_⟩) (by assumption) ?_
         ·intro w hSw; (try dsimp only at hSw); (try go_simp); (first | done | (with_reducible rfl) | simp)
         try simp only [Act.put, List.setIfInBounds_toArray, List.set_cons_zero, List.set_cons_succ]
         refine wpAnyH_take (i := 14) (v := ?_) (by simp only [List.getElem?_toArray, List.getElem?_cons_succ, List.getElem?_cons_zero]; rfl) (by kernel_rfl) (by kernel_rfl) (by kernel_rfl) (fun _ _ _ h => h) (Or.inl ⟨by rfl, ?_⟩) (by assumption) ?_
         rotate_left 1
         ·intro w hSw; (try dsimp only at hSw); go_simp; (try with_reducible rfl)
         try simp only [Act.put, List.setIfInBounds_toArray, List.set_cons_zero, List.set_cons_succ]
         refine wpAnyH_take (i := 15) (v := ?_) (by simp only [List.getElem?_toArray, List.getElem?_cons_succ, List.getElem?_cons_zero]; rfl) (by kernel_rfl) (by kernel_rfl) (by kernel_rfl) (fun _ _ _ h => h) (Or.inl ⟨by rfl, ?_⟩) (by assumption) ?_
         rotate_left 1
         ·intro w hSw; (try dsimp only at hSw); go_simp; (try with_reducible rfl)
         try simp only [Act.put, List.setIfInBounds_toArray, List.set_cons_zero, List.set_cons_succ]
         refine wpAnyH_take (i := 16) (v := ?_) (by simp only [List.getElem?_toArray, List.getElem?_cons_succ, List.getElem?_cons_zero]; rfl) (by kernel_rfl) (by kernel_rfl) (by kernel_rfl) (fun _ _ _ h => h) (Or.inl ⟨by rfl, ?_⟩) (by assumption) ?_
         rotate_left 1
         ·intro w hSw; (try dsimp only at hSw); go_simp; (try with_reducible rfl)
         try simp only [Act.put, List.setIfInBounds_toArray, List.set_cons_zero, List.set_cons_succ]
         refine wpAnyH_take (i := 17) (v := ?_) (by simp only [List.getElem?_toArray, List.getElem?_cons_succ, List.getElem?_cons_zero]; rfl) (by kernel_rfl) (by kernel_rfl) (by kernel_rfl) (fun _ _ _ h => h) (Or.inl ⟨by rfl, ?_⟩) (by assumption) ?_
         rotate_left 1
         ·intro w hSw; (try dsimp only at hSw); go_simp; (try with_reducible rfl)
         try simp only [Act.put, List.setIfInBounds_toArray, List.set_cons_zero, List.set_cons_succ]
         refine wpAnyH_take (i := 18) (v := ?_) (by simp only [List.getElem?_toArray, List.getElem?_cons_succ, List.getElem?_cons_zero]; rfl) (by kernel_rfl) (by kernel_rfl) (by kernel_rfl) (fun _ _ _ h => h) (Or.inl ⟨by rfl, ?_⟩) (by assumption) ?_
         rotate_left 1
         ·intro w hSw; (try dsimp only at hSw); go_simp; (try with_reducible rfl)
         try simp only [Act.put, List.setIfInBounds_toArray, List.set_cons_zero, List.set_cons_succ]
         refine wpAnyH_take (i := 19) (v := ?_) (by simp only [List.getElem?_toArray, List.getElem?_cons_succ, List.getElem?_cons_zero]; rfl) (by kernel_rfl) (by kernel_rfl) (by kernel_rfl) (fun _ _ _ h => h) (Or.inl ⟨by rfl, ?_⟩) (by assumption) ?_
         rotate_left 1
         ·intro w hSw; (try dsimp only at hSw); go_simp; (try with_reducible rfl)
         try simp only [Act.put, List.setIfInBounds_toArray, List.set_cons_zero, List.set_cons_succ]
         refine wpAnyH_take (i := 20) (v := ?_) (by simp only [List.getElem?_toArray, List.getElem?_cons_succ, List.getElem?_cons_zero]; rfl) (by kernel_rfl) (by kernel_rfl) (by kernel_rfl) (fun _ _ _ h => h) (Or.inl ⟨by rfl, ?_⟩) (by assumption) ?_
         rotate_left 1
         ·intro w hSw; (try dsimp only at hSw); go_simp; (try with_reducible rfl)
         try simp only [Act.put, List.setIfInBounds_toArray, List.set_cons_zero, List.set_cons_succ]
         refine wpAnyH_take (i := 21) (v := ?_) (by simp only [List.getElem?_toArray, List.getElem?_cons_succ, List.getElem?_cons_zero]; rfl) (by kernel_rfl) (by kernel_rfl) (by kernel_rfl) (fun _ _ _ h => h) (Or.inl ⟨by rfl, ?_⟩) (by assumption) ?_
         rotate_left 1
         ·intro w hSw; (try dsimp only at hSw); go_simp; (try with_reducible rfl)
         try simp only [Act.put, List.setIfInBounds_toArray, List.set_cons_zero, List.set_cons_succ]
         refine wpAnyH_take (i := 22) (v := ?_) (by simp only [List.getElem?_toArray, List.getElem?_cons_succ, List.getElem?_cons_zero]; rfl) (by kernel_rfl) (by kernel_rfl) (by kernel_rfl) (fun _ _ _ h => h) (Or.inl ⟨by rfl, ?_⟩) (by assumption) ?_
         rotate_left 1
         ·intro w hSw; (try dsimp only at hSw); go_simp; (try with_reducible rfl)
         try simp only [Act.put, List.setIfInBounds_toArray, List.set_cons_zero, List.set_cons_succ]
         refine wpAnyH_take (i := 23) (v := ?_) (by simp only [List.getElem?_toArray, List.getElem?_cons_succ, List.getElem?_cons_zero]; rfl) (by kernel_rfl) (by kernel_rfl) (by kernel_rfl) (fun _ _ _ h => h) (Or.inl ⟨by rfl, ?_⟩) (by assumption) ?_
         rotate_left 1
         ·intro w hSw; (try dsimp only at hSw); go_simp; (try with_reducible rfl)
         try simp only [Act.put, List.setIfInBounds_toArray, List.set_cons_zero, List.set_cons_succ]
         refine wpAnyH_take (i := 24) (v := ?_) (by simp only [List.getElem?_toArray, List.getElem?_cons_succ, List.getElem?_cons_zero]; rfl) (by kernel_rfl) (by kernel_rfl) (by kernel_rfl) (fun _ _ _ h => h) (Or.inl ⟨by rfl, ?_⟩) (by assumption) ?_
         rotate_left 1
         ·intro w hSw; (try dsimp only at hSw); go_simp; (try with_reducible rfl)
         try simp only [Act.put, List.setIfInBounds_toArray, List.set_cons_zero, List.set_cons_succ]
         refine wpAnyH_take (i := 25) (v := ?_) (by simp only [List.getElem?_toArray, List.getElem?_cons_succ, List.getElem?_cons_zero]; rfl) (by kernel_rfl) (by kernel_rfl) (by kernel_rfl) (fun _ _ _ h => h) (Or.inl ⟨by rfl, ?_⟩) (by assumption) ?_
         rotate_left 1
         ·intro w hSw; (try dsimp only at hSw); go_simp; (try with_reducible rfl)
         try simp only [Act.put, List.setIfInBounds_toArray, List.set_cons_zero, List.set_cons_succ]
         refine wpAnyH_take (i := 26) (v := ?_) (by simp only [List.getElem?_toArray, List.getElem?_cons_succ, List.getElem?_cons_zero]; rfl) (by kernel_rfl) (by kernel_rfl) (by kernel_rfl) (fun _ _ _ h => h) (Or.inl ⟨by rfl, ?_⟩) (by assumption) ?_
         rotate_left 1
         ·intro w hSw; (try dsimp only at hSw); go_simp; (try with_reducible rfl)
         try simp only [Act.put, List.setIfInBounds_toArray, List.set_cons_zero, List.set_cons_succ]
         refine wpAnyH_take (i := 27) (v := ?_) (by simp only [List.getElem?_toArray, List.getElem?_cons_succ, List.getElem?_cons_zero]; rfl) (by kernel_rfl) (by kernel_rfl) (by kernel_rfl) (fun _ _ _ h => h) (Or.inl ⟨by rfl, ?_⟩) (by assumption) ?_
         rotate_left 1
         ·intro w hSw; (try dsimp only at hSw); go_simp; (try with_reducible rfl)
         try simp only [Act.put, List.setIfInBounds_toArray, List.set_cons_zero, List.set_cons_succ]
         refine wpAnyH_take (i := 28) (v := .bool false) (by simp only [List.getElem?_toArray, List.getElem?_cons_succ, List.getElem?_cons_zero]; rfl) (by kernel_rfl) (by kernel_rfl) (by kernel_rfl) (fun _ _ _ h => h) (Or.inl ⟨by rfl, ?_⟩) (by assumption) ?_
         ·intro w hSw; (try dsimp only at hSw); (try go_simp); (first | done | (with_reducible rfl) | simp)
         try simp only [Act.put, List.setIfInBounds_toArray, List.set_cons_zero, List.set_cons_succ]
         refine wpAnyH_take (i := 29) (v := .bool false) (by simp only [List.getElem?_toArray, List.getElem?_cons_succ, List.getElem?_cons_zero]; rfl) (by kernel_rfl) (by kernel_rfl) (by kernel_rfl) (fun _ _ _ h => h) (Or.inl ⟨by rfl, ?_⟩) (by assumption) ?_
         ·intro w hSw; (try dsimp only at hSw); (try go_simp); (first | done | (with_reducible rfl) | simp)
         try simp only [Act.put, List.setIfInBounds_toArray, List.set_cons_zero, List.set_cons_succ]
         refine wpAnyH_done (by kernel_rfl) ?_ _
         refine NoPanic.normal ?_
         go_wp2_with fail
         clear v3 v4 v6 v7
         refine ⟨⟨k + 1, by go_num, by omega, LB.out⟩, ?_⟩
         show n + 1 - ((k : Int) + 1).toNat < n + 1 - (k : Int).toNat
         omega
        ·have hklt1 : ¬ (k : Int) < (n : Int) := by omega
         clear hla hklt hkn
         go_wp2_with fail
         go_loopw [11] (fun kv W => Hid (∃ k : Nat, kv = .int .i64 (k : Int) ∧ k ≤ 70 ∧ La w W B ga D (.slice (some ⟨gm, 0, none⟩) i cm) L2 i)) (fun kv _ => match kv with | .int _ k => 70 + 1 - k.toNat | _ => 0)
         case atStart => exact ⟨0, rfl, Nat.zero_le _, LA.out⟩
         case round =>
          clear LA hklt1
          obtain ⟨W5, hW5⟩ : ∃ W5, W5 = wr := ⟨_, rfl⟩
          rw [← hW5] at hrel ⊢
          clear hW5
          obtain ⟨t, rfl, htn, hla⟩ := hrel.out
          clear hrel
          have LA := hid hla
          have htl : t < 70 ∨ t = 70 := by omega
          rcases htl with htlt | htlt
          ·obtain ⟨mki, hmki⟩ : ∃ mki : Int, mki = -1000 * ((q : Int) + 1) - (t : Int) := ⟨_, rfl⟩
           have hMk : x.M[n + t]? = some (.int .i64 mki) := by
            rw [HP.out.M, List.getElem?_append_right (by rw [mkI_len, ← HNN.out]; omega), mkI_len, ← HNN.out, show n + t - n * 1 = t by omega, grI_at q 70 t htlt, hmki]
           obtain ⟨gu, cu, hu, _, hgul, e4, _⟩ := own_cell (hla.ap.fam.pair q x HX.out).own hMk
           rw [HP.out.m, ← HNN.out] at hu
           obtain ⟨_, _, hmv9, _, hgml, e3, _⟩ := own_cell hla.ap.more HM0.out
           simp only [Value.slice.injEq, Option.some.injEq, Addr.mk.injEq, true_and, and_true] at hmv9
           rw [← hmv9.1] at hgml e3
           rw [hu] at e3
           have htlt1 : (t : Int) < 70 := by omega
           have b1 : (n : Int) + (t : Int) < (n : Int) + 70 := by omega
           have b2 : (0 : Int) ≤ (n : Int) + (t : Int) := by omega
           have b3 : ((n : Int) + (t : Int)).toNat = n + t := by omega
           have V6 : Hid (IntKind.i64.wrap (-1000 * ((q : Int) + 1) - (t : Int)) = mki) := by show _ = _; rw [hmki, IntKind.wrap_i64]; omega
           have V7 : Hid (IntKind.i64.wrap ((t : Int) + 1) = (t : Int) + 1) := by show _ = _; rw [IntKind.wrap_i64]; omega
           have V8 : Hid (IntKind.i64.wrap ((n : Int) + (t : Int)) = (n : Int) + (t : Int)) := by show _ = _; rw [IntKind.wrap_i64]; omega
           clear hla hMk hmv9 hmki hu
           have v3 := V3.out
           have v5 := V5.out
           have v6 := V6.out
           have v7 := V7.out
           have v8 := V8.out
           go_wp2_with fail
           clear v3 v5 v6 v7 v8
           refine ⟨⟨t + 1, by go_num, by omega, LA.out⟩, ?_⟩
           show 70 + 1 - ((t : Int) + 1).toNat < 70 + 1 - (t : Int).toNat
           omega
          ·have htlt1 : ¬ (t : Int) < 70 := by omega
           clear hla htlt htn
           have v3 := V3.out
           go_wp2_with fail
           clear v3
           refine ⟨⟨q + 1, by go_num, by omega, LA.out⟩, ?_⟩
           show i + 1 - ((q : Int) + 1).toNat < i + 1 - (q : Int).toNat
           omega
      ·have hqlt1 : ¬ (q : Int) < (i : Int) := by omega
       clear hla hqlt hqn
       go_wp2_with fail
       go_ret
       exact ⟨rfl, ⟨LA.out.fr.b0, LA.out.fr.kept⟩⟩
end Go.Proofs.YtdkboifpdodonacGreatDoor
