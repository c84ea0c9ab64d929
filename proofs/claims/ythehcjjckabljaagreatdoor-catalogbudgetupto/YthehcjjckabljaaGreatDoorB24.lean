import Derived.Deep.RegionHeld3
import Derived.Test.YthehcjjckabljaaGreatDoorB23
namespace Go.Proofs.YthehcjjckabljaaGreatDoor
open Go.RowKit Go.Deep
set_option maxRecDepth 100000
set_option linter.unusedSimpArgs false
set_option linter.unusedVariables false
def RwD (w : World) (D : List Nat) : Prop := ∀ y ∈ D, ∃ c ty fr, w.heap[y]? = some (.cells c ty fr) ∧ (ty = 118 ∨ ty = 5)
theorem RwD.lt {w : World} {D : List Nat} (h : RwD w D) : ∀ y ∈ D, y < w.heap.size := fun y hy => by
 obtain ⟨c, ty, fr, e, _⟩ := h y hy
 exact ltB e
theorem RwD.touch {w w' : World} {D G : List Nat} (h : RwD w D) (t : Tc G w w') (hG : ∀ y ∈ G, y ∉ D) : RwD w' D := fun y hy => by
 obtain ⟨c, ty, fr, e, e2⟩ := h y hy
 exact ⟨c, ty, fr, (t.block y (ltB e) (fun hx => hG _ hx hy)).trans e, e2⟩
theorem RwD.app {w : World} {D D' : List Nat} (h : RwD w D) (h' : RwD w D') : RwD w (D ++ D') := fun y hy => by
 rcases List.mem_append.1 hy with hy | hy
 ·exact h y hy
 ·exact h' y hy
def ByD (w : World) (D : List Nat) (sv : Value) (d : List UInt8) : Prop := ∃ xa xn xc, sv = .slice xa xn xc ∧ Shows w xa xn xc d ∧ (∀ a, xa = some a → 0 < xn → a.block ∈ D)
theorem ByD.touch {w w' : World} {D G : List Nat} {sv : Value} {d : List UInt8} (h : ByD w D sv d) (t : Tc G w w') (hG : ∀ y ∈ G, y ∉ D) : ByD w' D sv d := by
 obtain ⟨xa, xn, xc, rfl, hs, hd⟩ := h
 refine ⟨xa, xn, xc, rfl, ⟨hs.len, hs.cap, fun h0 => ?_, hs.nil⟩, hd⟩
 obtain ⟨a, e, hl, hc⟩ := hs.at_ h0
 have hn : a.block ∉ G := fun hx => hG _ hx (hd a e h0)
 exact ⟨a, e, Nat.lt_of_lt_of_le hl t.size, fun j v hv => (t.cell (by rw [add_block]; exact hl) (by rw [add_block]; exact hn)).trans (hc j v hv)⟩
theorem ByD.mono {w : World} {D D' : List Nat} {sv : Value} {d : List UInt8} (h : ByD w D sv d) (hD : ∀ y ∈ D, y ∈ D') : ByD w D' sv d := by
 obtain ⟨xa, xn, xc, e, hs, hd⟩ := h
 exact ⟨xa, xn, xc, e, hs, fun a ha h0 => hD _ (hd a ha h0)⟩
theorem bcl_bytes (d : List UInt8) : Rx.bcl (numsU d) = Lib.byteCells d := by
 unfold Rx.bcl numsU Lib.byteCells
 rw [List.map_map]
 rfl
theorem ByD.of_own {w : World} {base : Nat} {sv : Value} {d : List UInt8} (h : Rx.OwnB w base sv (numsU d)) : ∃ D, ByD w D sv d ∧ RwD w D ∧ ∀ y ∈ D, base ≤ y := by
 have h' : w.ownsRow base 5 1 sv d.length (Lib.byteCells d) := by
  have := h
  unfold Rx.OwnB at this
  rwa [bcl_bytes, numsU_length] at this
 obtain ⟨sa, c, rfl, hs, hb⟩ := shows_own h'
 rcases h'.2 with ⟨e, h0⟩ | ⟨g, cap, cur, e, hg1, hg2, _⟩
 ·have e1 : sa = none := by injection e
  subst e1
  exact ⟨[], ⟨none, _, _, rfl, hs, fun a ha => (by cases ha)⟩, fun y hy => (by cases hy), fun y hy => (by cases hy)⟩
 ·have e1 : sa = some ⟨g, 0, none⟩ := by injection e
  subst e1
  exact ⟨[g], ⟨_, _, _, rfl, hs, fun a ha _ => by cases ha; simp⟩, fun y hy => by simp at hy; subst hy; exact ⟨_, _, _, hg2, .inr rfl⟩, fun y hy => by simp at hy; subst hy; exact hg1⟩
def BlD (w : World) (D : List Nat) (v : Value) (bls : List (List UInt8)) : Prop := ∃ xa xc, v = .slice xa bls.length xc ∧ ∀ i (hi : i < bls.length), ∃ a sv, xa = some a ∧ a.block ∈ D ∧ a.block < w.heap.size ∧ w.cell? (a.add i) = some sv ∧ ByD w D sv bls[i]
theorem BlD.touch {w w' : World} {D G : List Nat} {v : Value} {bls : List (List UInt8)} (h : BlD w D v bls) (t : Tc G w w') (hG : ∀ y ∈ G, y ∉ D) : BlD w' D v bls := by
 obtain ⟨xa, xc, e, hb⟩ := h
 refine ⟨xa, xc, e, fun i hi => ?_⟩
 obtain ⟨a, sv, e1, hD, hl, hc, hs⟩ := hb i hi
 exact ⟨a, sv, e1, hD, Nat.lt_of_lt_of_le hl t.size, (t.cell (by rw [add_block]; exact hl) (by rw [add_block]; exact fun hx => hG _ hx hD)).trans hc, hs.touch t hG⟩
theorem BlD.mono {w : World} {D D' : List Nat} {v : Value} {bls : List (List UInt8)} (h : BlD w D v bls) (hD : ∀ y ∈ D, y ∈ D') : BlD w D' v bls := by
 obtain ⟨xa, xc, e, hb⟩ := h
 refine ⟨xa, xc, e, fun i hi => ?_⟩
 obtain ⟨a, sv, e1, hm, hl, hc, hs⟩ := hb i hi
 exact ⟨a, sv, e1, hD _ hm, hl, hc, hs.mono hD⟩
theorem BlD.in_ {w : World} {D : List Nat} {v : Value} {bls : List (List UInt8)} (h : BlD w D v bls) : BlIn w v bls := by
 obtain ⟨xa, xc, e, hb⟩ := h
 refine ⟨⟨xa, xc, e⟩, fun i hi => ?_⟩
 obtain ⟨a, sv, rfl, hD, hl, hc, ⟨ya, yn, yc, rfl, hs, _⟩⟩ := hb i hi
 exact ⟨a, xc, ya, yn, yc, e, hl, hc, hs⟩
structure BlO (w : World) (D : List Nat) (v : Value) (bls : List (List UInt8)) (svs : List Value) : Prop where
 own : w.ownsRow 0 118 1 v bls.length svs
 each : ∀ i (hi : i < bls.length), ∃ sv, svs[i]? = some sv ∧ ByD w D sv bls[i]
 rows : RwD w D
 apart : ∀ k, v.ownBlock = some k → k ∉ D
theorem BlO.nil (w : World) : BlO w [] (.slice none 0 0) [] [] := ⟨World.ownsRow_nil _ _ _ _, fun i hi => (by simp at hi), fun y hy => (by cases hy), fun k hk => (by simp [Value.ownBlock] at hk)⟩
theorem BlO.touch {w w' : World} {D G : List Nat} {v : Value} {bls : List (List UInt8)} {svs : List Value} (h : BlO w D v bls svs) (t : Tc G w w') (hG : ∀ y ∈ G, y ∉ D ∧ v.ownBlock ≠ some y) : BlO w' D v bls svs :=
 ⟨ownsRow_touch h.own t (fun x hx hg => (hG x hg).2 hx), fun i hi => by
  obtain ⟨sv, e, hs⟩ := h.each i hi
  exact ⟨sv, e, hs.touch t (fun y hy => (hG y hy).1)⟩, h.rows.touch t (fun y hy => (hG y hy).1), h.apart⟩
theorem BlO.snoc {w w' : World} {D D' : List Nat} {v v' : Value} {bls : List (List UInt8)} {svs : List Value} {sv : Value} {d : List UInt8} (h : BlO w D v bls svs) (hs : ByD w D' sv d) (hr : RwD w D') (hD : ∀ k, v.ownBlock = some k → k ∉ D')
  (ho : w'.ownsRow 0 118 1 v' (bls.length + 1) (svs ++ [sv])) (hg : w.grownBy w' v.ownBlock) (hn : v'.ownBlock = v.ownBlock ∨ v'.ownBlock = some w.heap.size) : BlO w' (D ++ D') v' (bls ++ [d]) (svs ++ [sv]) := by
 have hap : ∀ k, v.ownBlock = some k → k ∉ D ++ D' := fun k hk hx => by
  rcases List.mem_append.1 hx with hx | hx
  ·exact h.apart k hk hx
  ·exact hD k hk hx
 have hrw : RwD w (D ++ D') := h.rows.app hr
 have tt : Tc (v.ownBlock.toList) w w' := (Tc.refl _ w).grown hg (fun k hk => .inl (by rw [hk]; simp))
 have hG : ∀ y ∈ v.ownBlock.toList, y ∉ D ++ D' := fun y hy => hap y (by simpa using hy)
 have hlen : svs.length = bls.length := by have := h.own.1; omega
 refine ⟨by rw [List.length_append]; exact ho, fun i hi => ?_, hrw.touch tt hG, fun k hk hx => ?_⟩
 ·by_cases hlt : i < bls.length
  ·obtain ⟨s1, e1, hs1⟩ := h.each i hlt
   refine ⟨s1, by rw [List.getElem?_append_left (by omega)]; exact e1, ?_⟩
   rw [List.getElem_append_left hlt]
   exact (hs1.mono (fun y hy => List.mem_append_left _ hy)).touch tt hG
  ·have hii : i = bls.length := by rw [List.length_append] at hi; simp at hi; omega
   subst hii
   refine ⟨sv, by rw [List.getElem?_append_right (by omega)]; simp [hlen], ?_⟩
   have e : (bls ++ [d])[bls.length]'hi = d := by rw [List.getElem_append_right (by omega)]; simp
   rw [e]
   exact (hs.mono (fun y hy => List.mem_append_right _ hy)).touch tt hG
 ·rcases hn with e | e
  ·rw [e] at hk; exact hap k hk hx
  ·rw [e] at hk
   have := Option.some.inj hk
   have := hrw.lt k hx
   omega
theorem BlO.done {w : World} {D : List Nat} {v : Value} {bls : List (List UInt8)} {svs : List Value} (h : BlO w D v bls svs) : ∃ D', BlD w D' v bls ∧ RwD w D' ∧ ∀ y ∈ D', y ∈ D ∨ v.ownBlock = some y := by
 rcases h.own.2 with ⟨e, h0⟩ | ⟨g, cap, cur, e, hg1, hg2, _⟩
 ·refine ⟨D, ⟨none, 0, by rw [e, h0], fun i hi => by omega⟩, h.rows, fun y hy => .inl hy⟩
 ·refine ⟨g :: D, ⟨some ⟨g, 0, none⟩, cap, e, fun i hi => ?_⟩, fun y hy => ?_, fun y hy => ?_⟩
  ·obtain ⟨sv, e1, hs⟩ := h.each i hi
   exact ⟨_, sv, rfl, by simp, ltB hg2, h.own.cells (g := g) (by rw [e]; rfl) i sv e1, hs.mono (fun y hy => List.mem_cons_of_mem _ hy)⟩
  ·rcases List.mem_cons.1 hy with rfl | hy
   ·exact ⟨_, _, _, hg2, .inl rfl⟩
   ·exact h.rows y hy
  ·rcases List.mem_cons.1 hy with rfl | hy
   ·right; rw [e]; rfl
   ·exact .inl hy
theorem rec_words {w : World} {l : List Rc} {g cap : Nat} (h : w.ownsRow 0 176 4 (.slice (some ⟨g, 0, none⟩) l.length cap) l.length (recC l)) (p m : Nat) : Rx.Wd w g (p * 4) (flatR ((l.drop p).take m)) := fun i hi => by
 have hl := flatR_length ((l.drop p).take m)
 have h1 : (flatR l)[p * 4 + i]? = some (flatR ((l.drop p).take m))[i] := by
  have e : flatR l = flatR (l.take p) ++ flatR (l.drop p) := by
   conv => lhs; rw [← List.take_append_drop p l]
   unfold flatR
   rw [List.flatMap_append]
  have hp : p ≤ l.length := by
   rw [List.length_take, List.length_drop] at hl
   omega
  have hl2 : (flatR (l.take p)).length = p * 4 := by rw [flatR_length, List.length_take]; omega
  have e2 : flatR (l.drop p) = flatR ((l.drop p).take m) ++ flatR ((l.drop p).drop m) := by
   conv => lhs; rw [← List.take_append_drop m (l.drop p)]
   unfold flatR
   rw [List.flatMap_append]
  rw [e, List.getElem?_append_right (by omega), hl2, Nat.add_sub_cancel_left, e2, List.getElem?_append_left hi, List.getElem?_eq_getElem hi]
 have h2 := h.cells (g := g) rfl (p * 4 + i) (.int .u64 ((flatR ((l.drop p).take m))[i] : Int)) (by unfold recC; rw [List.getElem?_map, h1]; rfl)
 rw [addC, Nat.zero_add] at h2
 exact h2
section
variable {w : World} {l : List Rc} {kind B K : Nat} {v : Value}
def BkW (w W : World) (kind B K : Nat) (l : List Rc) (ov : Value) (j : Nat) : Prop := ∃ D svs, BlO W D ov (bkO kind K B l j) svs ∧ (∀ y ∈ D, w.heap.size ≤ y) ∧ (∀ k, ov.ownBlock = some k → w.heap.size ≤ k) ∧ Tc [] w W
set_option maxHeartbeats 8000000 in
theorem rblocks_any (h : w.ownsRow 0 176 4 v l.length (recC l)) (hne : l ≠ []) (hs : smallR l) (hl : l.length ≤ 4194304) (hB : 64 ≤ B ∧ B ≤ 65536 ∧ B % 32 = 0) (hK : K = B / 32 - 1) (hk1 : 1 ≤ kind) (hk2 : kind ≤ 5) :
  Calls Tryz.prog 114 #[.int .i64 (kind : Int), v, .int .i64 (B : Int)] w fun e w' => ∃ sv D, e = .returned sv ∧ BlD w' D sv (bkO kind K B l (nBk K l.length)) ∧ RwD w' D ∧ (∀ y ∈ D, w.heap.size ≤ y) ∧ Tc [] w w' := by
 have hK2 : 1 ≤ K ∧ K ≤ 2047 := by omega
 obtain ⟨g, cap, hv⟩ : ∃ g cap, v = .slice (some ⟨g, 0, none⟩) l.length cap := by
  rcases h.2 with ⟨_, h0⟩ | ⟨g, cap, cur, e, _⟩
  ·exact absurd (List.eq_nil_of_length_eq_zero h0) hne
  ·exact ⟨g, cap, e⟩
 subst hv
 have hcap : l.length ≤ cap ∧ g < w.heap.size := by
  rcases h.2 with ⟨e, _⟩ | ⟨g', cap', cur, e, _, hg, h1, _⟩
  ·cases e
  ·injection e with e1 e2 e3
   injection e1 with e4
   injection e4 with e5
   subst e5
   subst e3
   exact ⟨h1, ltB hg⟩
 have HF := hid (fun W => rfit_any hB.1 hB.2.1 hB.2.2 W)
 rw [← hK] at HF
 have HW := hid (fun W (tt : Tc [] w W) (p m : Nat) => (rec_words h p m).touch tt hcap.2 (by simp))
 have HB := hid hB
 have HK := hid hK
 have HS := hid hs
 have hKi : (0 : Int) < (K : Int) := by omega
 have hpos : 0 < l.length := List.length_pos_iff.2 hne
 clear h hB hK hs hne
 go_enter Tryz.func114, Tryz.ntmps114
 go_wp2_with (go_at_call 38; refine (HF.out _).mono ?_; rintro e w1 ⟨rfl, hh⟩; have hh := hh.symm; subst hh)
 go_loopw [8, 9] (fun ov i W => ∃ j p : Nat, p ≤ l.length + K ∧ i = .int .i64 p ∧ Hid (p = j * K) ∧ Hid (j ≤ nBk K l.length) ∧ Hid (BkW w W kind B K l ov j)) (fun _ i _ => l.length - (intOf i).toNat)
 case atStart => exact ⟨0, 0, Nat.zero_le _, rfl, hid (by simp), hid (Nat.zero_le _), hid ⟨[], [], BlO.nil _, by simp, by simp [Value.ownBlock], Tc.refl _ _⟩⟩
 case round =>
  obtain ⟨j, p, hp, rfl, HP, HJ, HBK⟩ := hrel
  obtain ⟨D, svs, hO, hD, hoD, ht⟩ := HBK.out
  obtain ⟨oa, oc, hov⟩ := oSC hO.own
  rw [blocksOf_length] at hov
  have HO := hid (And.intro hO (And.intro hD (And.intro hoD ht)))
  clear hO hD hoD ht
  by_cases hlt : p < l.length
  ·subst hov
   have hpi : (p : Int) < (l.length : Int) := by omega
   have hp0 : (0 : Int) ≤ (p : Int) := by omega
   have hw1 : IntKind.i64.wrap ((p : Int) + (K : Int)) = ((p + K : Nat) : Int) := by rw [IntKind.wrap_i64]; omega
   have hjl : j ≤ 4194304 := by have := HP.out; have : j * 1 ≤ j * K := Nat.mul_le_mul_left _ hK2.1; omega
   have hcap1 := hcap.1
   have hgs := hcap.2
   have hch : (chunk K j l).length = (min ((p : Int) + (K : Int)) (l.length : Int)).toNat - p := by
    unfold chunk
    rw [List.length_take, List.length_drop, ← HP.out]
    omega
   have hc1 : 1 ≤ (chunk K j l).length ∧ (chunk K j l).length ≤ K := by rw [hch]; omega
   have hch2 : chunk K j l = (l.drop p).take K := by unfold chunk; rw [HP.out]
   have hsm : ∀ x ∈ flatR (chunk K j l), x < 18446744073709551616 := flatR_mem (fun y hy => List.mem_of_mem_drop (List.mem_of_mem_take hy)) HS.out
   have HEN : Hid (∀ W, Tc [] w W → Calls Tryz.prog 70 #[.int .i64 (kind : Int), .int .i64 (j : Int), .slice (some ⟨g, p * 4, none⟩) ((min ((p : Int) + (K : Int)) (l.length : Int)).toNat - p) (cap - p), .int .i64 (B : Int)] W fun e w' => ∃ sa sc, e = .returned (.tuple #[.slice sa B sc, .int .i64 0]) ∧ Rx.OwnB w' W.heap.size (.slice sa B sc) (numsU (encU kind j (flatR (chunk K j l)) B)) ∧ Tc [] W w') := hid (fun W tt => by
    have hB := HB.out
    have hKo := HK.out
    have hfl := flatR_length (chunk K j l)
    have hlen : 32 + 8 * (flatR (chunk K j l)).length ≤ B := by omega
    have h := Rx.rencode_ok kind j ((chunk K j l).length) B (flatR (chunk K j l)) g (p * 4) (cap - p) W (by rw [hch2]; exact HW.out W tt p K) hfl (Nat.lt_of_lt_of_le hgs tt.size) hsm hk1 (by omega) (by omega) hB.1 hB.2.1 hB.2.2 hc1.1 (by omega)
    have e : numsU (encU kind j (flatR (chunk K j l)) B) = PureCrc.enc kind j (chunk K j l).length (flatR (chunk K j l)) B := by
     unfold encU
     rw [show (flatR (chunk K j l)).length / 4 = (chunk K j l).length by omega, nums_bytes (PureCrc.enc_lt (by omega))]
    have hel : (encU kind j (flatR (chunk K j l)) B).length = B := encU_length hlen
    rw [hch, ← hch, ← e] at h
    rw [hch] at h
    refine h.mono fun e w' ⟨sv, e1, ho, ht⟩ => ?_
    obtain ⟨sa, sc, rfl⟩ := oSC ho
    rw [numsU_length, hel] at e1
    rw [numsU_length, hel] at ho
    exact ⟨sa, sc, e1, ho, ht⟩)
   have HCH := hid (And.intro hch hch2)
   clear hch hch2 hsm hc1
   go_upto_region 7 with (go_at_call 70; refine (HEN.out _ HO.out.2.2.2).mono ?_; rintro e w5 ⟨sa, sc, rfl, hob, ht5⟩; have HOB := hid (And.intro hob ht5); clear hob ht5)
   obtain ⟨hob, ht5⟩ := HOB.out
   obtain ⟨hO, hD, hoD, ht⟩ := HO.out
   obtain ⟨D5, hby, hrw, hD5⟩ := ByD.of_own hob
   have hO5 := hO.touch ht5 (by simp)
   have hown := hO5.own
   rw [blocksOf_length] at hown
   have hcell := cRw (heap_alloc_new w5 (.cells #[.slice sa B sc] 118)) 0
   simp only [List.getElem?_toArray, List.getElem?_cons_zero] at hcell
   obtain ⟨v', w6, hrun, r1, r2, r3, r4⟩ := run_append_fresh (w5.alloc (.cells #[.slice sa B sc] 118)) 111 (.slice oa j oc) j svs (hown.alloc _) ⟨w5.heap.size, 0, none⟩ (.slice sa B sc) hcell rfl (by omega)
   have HR := hid (And.intro r1 (And.intro r2 r3))
   have HY := hid (And.intro hby (And.intro hrw hD5))
   clear hob ht5 hO hD hoD ht hby hrw hD5 hO5 hown hcell r1 r2 r3 r4
   go_wp2_with (at_builtin; refine wpList_app 111 _ rfl _ _ rfl rfl rfl hrun ?_)
   obtain ⟨r1, r2, r3⟩ := HR.out
   obtain ⟨hby, hrw, hD5⟩ := HY.out
   obtain ⟨hob, ht5⟩ := HOB.out
   obtain ⟨hO, hD, hoD, ht⟩ := HO.out
   have ta : Tc [] w5 (w5.alloc (.cells #[.slice sa B sc] 118)) := (Tc.refl [] w5).alloc _
   have hO6 := (hO.touch ht5 (by simp)).touch ta (by simp)
   have hlt : ∀ k, (Value.slice oa j oc).ownBlock = some k → k < wr.heap.size := fun k hk => (hO.own.lt k hk).2
   have hbl : bkO kind K B l (j + 1) = bkO kind K B l j ++ [encU kind j (flatR (chunk K j l)) B] := blocksOf_succ _ _ _ _ _
   have hO7 := hO6.snoc (hby.touch ta (by simp)) (hrw.touch ta (by simp)) (fun k hk hx => by have := hlt k hk; have := hD5 k hx; omega) (by rw [blocksOf_length]; exact r1) r2 r3
   rw [← hbl] at hO7
   have hp9 := HP.out
   refine ⟨⟨j + 1, p + K, by omega, rfl, hid (by rw [Nat.succ_mul, hp9]), hid ?_, hid ⟨_, _, hO7, fun y hy => ?_, fun k hk => ?_, ?_⟩⟩, by simp [intOf]; omega⟩
   ·have h1 := nBlocks_le (len := l.length) hK2.1
    rcases Nat.lt_or_ge j (nBk K l.length) with h2 | h2
    ·exact h2
    ·have := Nat.mul_le_mul_right K h2
     omega
   ·rcases List.mem_append.1 hy with h | h
    ·exact hD y h
    ·exact Nat.le_trans ht.size (hD5 y h)
   ·rcases r3 with h | h
    ·rw [h] at hk; exact hoD k hk
    ·rw [h] at hk
     have := Option.some.inj hk
     have := ht.size
     have := ht5.size
     have := ta.size
     omega
   ·have t6 : Tc ((Value.slice oa j oc).ownBlock.toList) (w5.alloc (.cells #[.slice sa B sc] 118)) w6 := (Tc.refl _ _).grown r2 (fun k hk => .inl (by rw [hk]; simp))
    exact ((ht.trans ht5 (by simp)).trans ta (by simp)).trans t6 (fun y hy => .inr (hoD y (by simpa using hy)))
  ·subst hov
   go_wp2_with fail
   go_ret
   obtain ⟨hO, hD, hoD, ht⟩ := HO.out
   have hj : j = nBk K l.length := by
    have h1 := HJ.out
    have h2 := HP.out
    rcases Nat.lt_or_ge j (nBk K l.length) with h3 | h3
    ·have := nBlocks_lt hK2.1 h3
     omega
    ·omega
   subst hj
   obtain ⟨D', h1, h2, h3⟩ := hO.done
   exact ⟨_, D', rfl, h1, h2, fun y hy => by
    rcases h3 y hy with h | h
    ·exact hD y h
    ·exact hoD y h, ht⟩
end
def strayA : Array Value := #[.string ⟨#[97]⟩, .string ⟨#[116, 109, 112, 45, 49]⟩, .string ⟨#[116, 109, 112, 45, 49, 55]⟩, .string ⟨#[99, 97, 116, 45]⟩, .string ⟨#[99, 97, 116, 45, 48, 48, 48, 48, 48, 48, 48, 48, 48, 48, 48, 48, 48, 48, 48, 48]⟩, .string ⟨#[100, 100, 45, 49]⟩, .string ⟨#[99, 97, 116, 45, 48, 48, 48, 48, 48, 48, 48, 48, 48, 48, 48, 48, 48, 48, 48, 48, 49]⟩, .string ⟨#[122, 46, 57]⟩, .string ⟨#[100, 100, 45, 48, 48, 48, 48, 48, 48, 48, 48, 48, 48, 48, 48, 48, 48, 48, 103]⟩, .string ⟨#[99, 97, 116, 45, 48, 48, 48, 48, 48, 48, 48, 48, 48, 48, 48, 48, 48, 48, 48, 120]⟩]
def strayL (r : Nat) : List UInt8 := match r with
 | 0 => [97] | 1 => [116, 109, 112, 45, 49] | 2 => [116, 109, 112, 45, 49, 55] | 3 => [99, 97, 116, 45] | 4 => [99, 97, 116, 45, 48, 48, 48, 48, 48, 48, 48, 48, 48, 48, 48, 48, 48, 48, 48, 48] | 5 => [100, 100, 45, 49] | 6 => [99, 97, 116, 45, 48, 48, 48, 48, 48, 48, 48, 48, 48, 48, 48, 48, 48, 48, 48, 48, 49] | 7 => [122, 46, 57] | 8 => [100, 100, 45, 48, 48, 48, 48, 48, 48, 48, 48, 48, 48, 48, 48, 48, 48, 48, 103] | _ => [99, 97, 116, 45, 48, 48, 48, 48, 48, 48, 48, 48, 48, 48, 48, 48, 48, 48, 48, 120]
theorem stray_get {r : Nat} (hr : r < 10) : strayA[r]? = some (.string (bs (strayL r))) := by
 match r, hr with
 | 0, _ => rfl
 | 1, _ => rfl
 | 2, _ => rfl
 | 3, _ => rfl
 | 4, _ => rfl
 | 5, _ => rfl
 | 6, _ => rfl
 | 7, _ => rfl
 | 8, _ => rfl
 | 9, _ => rfl
theorem stray_any {n : Nat} (hn : n < 18446744073709551616) (w : World) : Calls Tryz.prog 115 #[.int .u64 (n : Int)] w fun e w' => e = .returned (.string (bs (strayL (n % 10)))) ∧ Tc [] w w' := by
 have hr : n % 10 < 10 := Nat.mod_lt _ (by decide)
 have hm : (n : Int).tmod 10 = ((n % 10 : Nat) : Int) := by rw [Int.tmod_eq_emod_of_nonneg (by omega)]; omega
 obtain ⟨W, hW⟩ : ∃ W, W = w.alloc (.cells strayA 9) := ⟨_, rfl⟩
 have hb : W.heap[w.heap.size]? = some (.cells strayA 9 (0, 0)) := by rw [hW]; exact heap_alloc_new w _
 have ht : Tc [] w W := by rw [hW]; exact (Tc.refl [] w).alloc _
 have hc := cRw hb (n % 10)
 rw [stray_get hr] at hc
 have HW := hid hW
 have hri : ((n % 10 : Nat) : Int) < 10 := by omega
 generalize n % 10 = r at *
 generalize strayL r = x at *
 have HT := hid ht
 clear hb hW ht
 unfold strayA at HW
 go_enter Tryz.func115, Tryz.ntmps115
 go_upto_region 2 with fail
 rw [← HW.out]
 go_wp2_with fail
 go_ret
 exact ⟨rfl, HT.out⟩
theorem rfileS {u : Nat} (hu : u < 18446744073709551616) (W : World) : Calls Tryz.prog 62 #[.int .u64 (u : Int)] W fun e w' => e = .returned (.string (bs (fileN u))) ∧ Tc [] W w' :=
 (Nm.rfile_any u hu W).mono fun e w' ⟨e1, hb⟩ => ⟨by rw [e1]; exact congrArg _ (file_str u), Tc.of_below (F := []) hb (Nat.le_refl _)⟩
theorem rcatS {u : Nat} (hu : u < 18446744073709551616) (W : World) : Calls Tryz.prog 69 #[.int .u64 (u : Int)] W fun e w' => e = .returned (.string (bs (catN u))) ∧ Tc [] W w' :=
 (Nm.rname_any u hu W).mono fun e w' ⟨e1, hb⟩ => ⟨by rw [e1]; exact congrArg _ (cat_str u), Tc.of_below (F := []) hb (Nat.le_refl _)⟩
structure Thg where
 kind : Int
 n : Nat
 shut : Bool
 t : Tbl
 gen : Nat
def thgV (x : Thg) (so sr : Option Addr) (co cr : Nat) : Value := .agg #[.int .i64 x.kind, .int .u64 (x.n : Int), .bool x.shut, .int .i64 x.t.vars, .slice so x.t.order.length co, .slice sr x.t.rows.length cr, .int .i64 x.t.next, .int .u64 (x.t.nf : Int), .int .u64 (x.gen : Int)]
def thName (x : Thg) : List UInt8 := if x.kind = 2 ∨ x.kind = 4 ∨ x.kind = 5 then catN x.n else if x.kind = 3 then strayL (x.n % 10) else fileN x.n
def thBlocks (B : Nat) (x : Thg) : List (List UInt8) :=
 if x.kind = 2 then bkO 5 (B / 32 - 1) B (recsN x.t x.gen) (nBk (B / 32 - 1) (recsN x.t x.gen).length)
 else if x.kind = 4 then [List.replicate B 0] else [encU 2 0 [1, 2, 3, x.n] B]
def thFile (B : Nat) (x : Thg) : List UInt8 × FlA := (thName x, ⟨x.shut, thBlocks B x⟩)
theorem file_arm {w w' : World} {b T : Nat} {o : Array Value} {u1 u2 : Value} (c1 : w.cell? ⟨b, 1, none⟩ = some u1) (c2 : w.cell? ⟨b, 2, none⟩ = some u2) (t : Tc [] (w.alloc (.cells o T)).drew w') : (w'.cell? ⟨b, 1, none⟩ = some u1 ∧ w'.cell? ⟨b, 2, none⟩ = some u2) ∧ w'.heap[w.heap.size]? = some (.cells o T (0, 0)) ∧ Tc [] w w' :=
 have hl : b < w.heap.size := World.block_lt_of_cell? w _ c1
 have h1 : Tc [] w (w.alloc (.cells o T)).drew := ((Tc.refl [] w).alloc _).drew
 have h2 : (w.alloc (.cells o T)).drew.heap.size = w.heap.size + 1 := by simp
 have h3 := h1.trans t (by simp)
 ⟨⟨(h3.cell (p := ⟨b, 1, none⟩) hl (by simp)).trans c1, (h3.cell (p := ⟨b, 2, none⟩) hl (by simp)).trans c2⟩, (t.block _ (by omega) (by simp)).trans (heap_alloc_new w _), h3⟩
theorem file_arm0 {w w' : World} {b : Nat} {u1 u2 : Value} (c1 : w.cell? ⟨b, 1, none⟩ = some u1) (c2 : w.cell? ⟨b, 2, none⟩ = some u2) (t : Tc [] w.drew w') : (w'.cell? ⟨b, 1, none⟩ = some u1 ∧ w'.cell? ⟨b, 2, none⟩ = some u2) ∧ Tc [] w w' :=
 have hl : b < w.heap.size := World.block_lt_of_cell? w _ c1
 have h3 : Tc [] w w' := (Tc.refl [] w).drew.trans t (by simp)
 ⟨⟨(h3.cell (p := ⟨b, 1, none⟩) hl (by simp)).trans c1, (h3.cell (p := ⟨b, 2, none⟩) hl (by simp)).trans c2⟩, h3⟩
theorem ByD.of_row {W : World} {g : Nat} {d : List UInt8} (h : W.heap[g]? = some (.cells (Lib.byteCells d).toArray 5 (0, 0))) : ByD W [g] (.slice (some ⟨g, 0, none⟩) d.length d.length) d ∧ RwD W [g] := by
 refine ⟨⟨_, _, _, rfl, ⟨rfl, Nat.le_refl _, fun _ => ⟨_, rfl, ltB h, fun j v hj => ?_⟩, fun e => by cases e⟩, fun a ha _ => by cases ha; simp⟩, fun y hy => ?_⟩
 ·rw [azA, cRw h j]
  simpa using hj
 ·rw [List.mem_singleton] at hy
  subst hy
  exact ⟨_, _, _, h, .inr rfl⟩
theorem BlD.one {W : World} {D : List Nat} {g : Nat} {sv : Value} {d : List UInt8} (hs : ByD W D sv d) (hr : RwD W D) (h : W.heap[g]? = some (.cells #[sv] 118 (0, 0))) : BlD W (g :: D) (.slice (some ⟨g, 0, none⟩) 1 1) [d] ∧ RwD W (g :: D) := by
 refine ⟨⟨_, _, rfl, fun i hi => ?_⟩, fun y hy => ?_⟩
 ·have h0 : i = 0 := by simpa using hi
  subst h0
  exact ⟨_, sv, rfl, by simp, ltB h, by rw [azA, cRw h 0]; rfl, hs.mono (fun y hy => List.mem_cons_of_mem _ hy)⟩
 ·rcases List.mem_cons.1 hy with rfl | hy
  ·exact ⟨_, _, _, h, .inl rfl⟩
  ·exact hr y hy
structure FilW (w W : World) (th : Array Value) (bt bf : Nat) (nm : List UInt8) (shut : Bool) (sv : Value) : Prop where
 th : W.heap[bt]? = some (.cells th 116 (0, 0))
 res : W.heap[bt + 1]? = some (.cells #[.string ⟨#[]⟩, .bool false, .slice none 0 0] 113 (0, 0))
 row : W.heap[bf]? = some (.cells #[.string (bs nm), .bool shut, sv] 113 (0, 0))
 lo : bt + 2 ≤ bf
 base : w.heap.size = bt
 touch : Tc [] w W
theorem FilW.step {w W W' : World} {th : Array Value} {bt bf : Nat} {nm : List UInt8} {shut : Bool} {sv : Value} (h : FilW w W th bt bf nm shut sv) (t : Tc [] W W') : FilW w W' th bt bf nm shut sv :=
 ⟨(t.block _ (ltB h.th) (by simp)).trans h.th, (t.block _ (ltB h.res) (by simp)).trans h.res, (t.block _ (ltB h.row) (by simp)).trans h.row, h.lo, h.base, h.touch.trans t (by simp)⟩
theorem FilW.set0 {w W : World} {th : Array Value} {bt bf : Nat} {nm : List UInt8} {shut : Bool} {sv : Value} (h : FilW w W th bt bf nm shut sv) (nm' : List UInt8) : FilW w (W.setCell ⟨bf, 0, none⟩ (.string (bs nm'))) th bt bf nm' shut sv := by
 have h1 := h.lo
 have h2 := h.base
 exact ⟨(blk_setCell_other _ _ _ _ (by show bt ≠ bf; omega)).trans h.th, (blk_setCell_other _ _ _ _ (by show bt + 1 ≠ bf; omega)).trans h.res, Lib.heap_setCell_same h.row _, h.lo, h.base, h.touch.setCell (.inr (by show _ ≤ bf; omega)) _⟩
theorem FilW.set2 {w W : World} {th : Array Value} {bt bf : Nat} {nm : List UInt8} {shut : Bool} {sv : Value} (h : FilW w W th bt bf nm shut sv) (sv' : Value) : FilW w (W.setCell ⟨bf, 2, none⟩ sv') th bt bf nm shut sv' := by
 have h1 := h.lo
 have h2 := h.base
 exact ⟨(blk_setCell_other _ _ _ _ (by show bt ≠ bf; omega)).trans h.th, (blk_setCell_other _ _ _ _ (by show bt + 1 ≠ bf; omega)).trans h.res, Lib.heap_setCell_same h.row _, h.lo, h.base, h.touch.setCell (.inr (by show _ ≤ bf; omega)) _⟩
theorem FilW.set1 {w W : World} {th : Array Value} {bt bf : Nat} {nm : List UInt8} {shut : Bool} {sv : Value} (h : FilW w W th bt bf nm shut sv) (b : Bool) : FilW w (W.setCell ⟨bf, 1, none⟩ (.bool b)) th bt bf nm b sv := by
 have h1 := h.lo
 have h2 := h.base
 exact ⟨(blk_setCell_other _ _ _ _ (by show bt ≠ bf; omega)).trans h.th, (blk_setCell_other _ _ _ _ (by show bt + 1 ≠ bf; omega)).trans h.res, Lib.heap_setCell_same h.row _, h.lo, h.base, h.touch.setCell (.inr (by show _ ≤ bf; omega)) _⟩
theorem FilW.start {w W0 w2 : World} {th : Array Value} {bt : Nat} (h0 : W0.heap[bt + 1]? = some (.cells #[.string ⟨#[]⟩, .bool false, .slice none 0 0] 113 (0, 0)) ∧ W0.heap[bt]? = some (.cells th 116 (0, 0))) (t0 : Tc [] w W0) (hb : w.heap.size = bt) (t2 : Tc [] W0 w2) (nm : List UInt8) (shut : Bool) (sv : Value) :
  FilW w (w2.alloc (.cells #[.string (bs nm), .bool shut, sv] 113)) th bt w2.heap.size nm shut sv := by
 have h1 := ltB h0.1
 have t3 := t2.alloc (.cells #[.string (bs nm), .bool shut, sv] 113)
 have h2 := t2.size
 exact ⟨(t3.block _ (ltB h0.2) (by simp)).trans h0.2, (t3.block _ h1 (by simp)).trans h0.1, heap_alloc_new w2 _, by omega, hb, t0.trans t3 (by simp)⟩
theorem FilW.start2 {w W0 w2 : World} {th : Array Value} {bt : Nat} (h0 : W0.heap[bt + 1]? = some (.cells #[.string ⟨#[]⟩, .bool false, .slice none 0 0] 113 (0, 0)) ∧ W0.heap[bt]? = some (.cells th 116 (0, 0))) (t0 : Tc [] w W0) (hb : w.heap.size = bt) (t2 : Tc [] W0 w2) (hr : w2.heap[W0.heap.size]? = some (.cells #[.string ⟨#[]⟩, .bool false, .slice none 0 0] 113 (0, 0))) (nm : List UInt8) (shut : Bool) (sv : Value) :
  FilW w (((w2.setCell ⟨W0.heap.size, 0, none⟩ (.string (bs nm))).setCell ⟨W0.heap.size, 1, none⟩ (.bool shut)).setCell ⟨W0.heap.size, 2, none⟩ sv) th bt W0.heap.size nm shut sv := by
 have h1 := ltB h0.1
 exact (((⟨(t2.block _ (ltB h0.2) (by simp)).trans h0.2, (t2.block _ h1 (by simp)).trans h0.1, hr, by omega, hb, t0.trans t2 (by simp)⟩ : FilW w w2 th bt W0.heap.size [] false (.slice none 0 0)).set0 nm).set1 shut).set2 sv
def FilB (w W : World) (th : Array Value) (bt bf : Nat) (nm : List UInt8) (shut : Bool) (sv : Value) (bls : List (List UInt8)) : Prop := FilW w W th bt bf nm shut sv ∧ ∃ D, BlD W D sv bls ∧ RwD W D ∧ ∀ y ∈ D, w.heap.size ≤ y
theorem FilB.set0 {w W : World} {th : Array Value} {bt bf : Nat} {nm : List UInt8} {shut : Bool} {sv : Value} {bls : List (List UInt8)} (h : FilB w W th bt bf nm shut sv bls) (nm' : List UInt8) : FilB w (W.setCell ⟨bf, 0, none⟩ (.string (bs nm'))) th bt bf nm' shut sv bls := by
 obtain ⟨h, D, h1, h2, h3⟩ := h
 have t : Tc [bf] W (W.setCell ⟨bf, 0, none⟩ (.string (bs nm'))) := (Tc.refl _ W).setCell (.inl (by simp)) _
 have hn : ∀ y ∈ [bf], y ∉ D := fun y hy hx => by
  rw [List.mem_singleton] at hy
  subst hy
  obtain ⟨c, ty, fr, e, e2⟩ := h2 _ hx
  rw [h.row] at e
  cases e
  rcases e2 with e | e <;> cases e
 exact ⟨h.set0 nm', D, h1.touch t hn, h2.touch t hn, h3⟩
theorem FilB.set2 {w W : World} {th : Array Value} {bt bf : Nat} {nm : List UInt8} {shut : Bool} {sv sv' : Value} {bls : List (List UInt8)} {D : List Nat} (h : FilW w W th bt bf nm shut sv) (h1 : BlD W D sv' bls) (h2 : RwD W D) (h3 : ∀ y ∈ D, w.heap.size ≤ y) : FilB w (W.setCell ⟨bf, 2, none⟩ sv') th bt bf nm shut sv' bls := by
 have t : Tc [bf] W (W.setCell ⟨bf, 2, none⟩ sv') := (Tc.refl _ W).setCell (.inl (by simp)) _
 have hn : ∀ y ∈ [bf], y ∉ D := fun y hy hx => by
  rw [List.mem_singleton] at hy
  subst hy
  obtain ⟨c, ty, fr, e, e2⟩ := h2 _ hx
  rw [h.row] at e
  cases e
  rcases e2 with e | e <;> cases e
 exact ⟨h.set2 sv', D, h1.touch t hn, h2.touch t hn, h3⟩
theorem FilB.step {w W W' : World} {th : Array Value} {bt bf : Nat} {nm : List UInt8} {shut : Bool} {sv : Value} {bls : List (List UInt8)} (h : FilB w W th bt bf nm shut sv bls) (t : Tc [] W W') : FilB w W' th bt bf nm shut sv bls := by
 obtain ⟨h, D, h1, h2, h3⟩ := h
 exact ⟨h.step t, D, h1.touch t (by simp), h2.touch t (by simp), h3⟩
theorem FilB.fin {w W : World} {th : Array Value} {bt bf : Nat} {nm : List UInt8} {shut : Bool} {sv : Value} {bls : List (List UInt8)} (h : FilB w W th bt bf nm shut sv bls) :
  (((W.setCell ⟨bt + 1, 0, none⟩ (.string (bs nm))).setCell ⟨bt + 1, 1, none⟩ (.bool shut)).setCell ⟨bt + 1, 2, none⟩ sv).heap[bt + 1]? = some (.cells #[.string (bs nm), .bool shut, sv] 113 (0, 0)) ∧
  ∃ D, BlD (((W.setCell ⟨bt + 1, 0, none⟩ (.string (bs nm))).setCell ⟨bt + 1, 1, none⟩ (.bool shut)).setCell ⟨bt + 1, 2, none⟩ sv) D sv bls ∧ RwD (((W.setCell ⟨bt + 1, 0, none⟩ (.string (bs nm))).setCell ⟨bt + 1, 1, none⟩ (.bool shut)).setCell ⟨bt + 1, 2, none⟩ sv) D ∧ (∀ y ∈ D, w.heap.size ≤ y) ∧ Tc [] w (((W.setCell ⟨bt + 1, 0, none⟩ (.string (bs nm))).setCell ⟨bt + 1, 1, none⟩ (.bool shut)).setCell ⟨bt + 1, 2, none⟩ sv) := by
 obtain ⟨h, D, h1, h2, h3⟩ := h
 have hb := h.base
 refine ⟨Lib.heap_setCell_same (Lib.heap_setCell_same (Lib.heap_setCell_same h.res _) _) _, D, ?_⟩
 have t : Tc [bt + 1] W (((W.setCell ⟨bt + 1, 0, none⟩ (.string (bs nm))).setCell ⟨bt + 1, 1, none⟩ (.bool shut)).setCell ⟨bt + 1, 2, none⟩ sv) := (((Tc.refl _ W).setCell (.inl (by simp)) _).setCell (.inl (by simp)) _).setCell (.inl (by simp)) _
 have hn : ∀ y ∈ [bt + 1], y ∉ D := fun y hy hx => by
  rw [List.mem_singleton] at hy
  subst hy
  obtain ⟨c, ty, fr, e, e2⟩ := h2 _ hx
  rw [h.res] at e
  cases e
  rcases e2 with e | e <;> cases e
 exact ⟨h1.touch t hn, h2.touch t hn, h3, ((h.touch.setCell (.inr (by show _ ≤ bt + 1; omega)) _).setCell (.inr (by show _ ≤ bt + 1; omega)) _).setCell (.inr (by show _ ≤ bt + 1; omega)) _⟩
section
variable {w : World} {x : Thg} {so sr : Option Addr} {co cr B : Nat}
set_option maxHeartbeats 8000000 in
theorem file_any (h : TblAt w x.t so sr) (hn : x.n < 18446744073709551616) (hg : x.gen < 18446744073709551616) (hk : -9223372036854775808 ≤ x.kind ∧ x.kind < 9223372036854775808) (hB : 64 ≤ B ∧ B ≤ 65536 ∧ B % 32 = 0) :
  Calls Tryz.prog 58 #[thgV x so sr co cr, .int .i64 (B : Int)] w fun e w' => ∃ sv D, e = .returned (.agg #[.string (bs (thName x)), .bool x.shut, sv]) ∧ BlD w' D sv (thBlocks B x) ∧ RwD w' D ∧ (∀ y ∈ D, w.heap.size ≤ y) ∧ Tc [] w w' := by
 obtain ⟨kind, n, shut, t, gen⟩ := x
 dsimp only at h hn hg hk
 have HH := hid (fun W (tt : Tc [] w W) => h.touch tt (by simp) (by simp))
 have HF := hid (fun W => rfileS hn W)
 have HC := hid (fun W => rcatS hn W)
 have HS := hid (fun W => stray_any hn W)
 have HB := hid hB
 clear h hB
 simp only [thgV, tblV] at *
 go_enter Tryz.func58, Tryz.ntmps58
 go_upto_region 1 with fail
 obtain ⟨W1, hW1⟩ : ∃ W1, W1 = w.alloc (.cells #[.int .i64 kind, .int .u64 (n : Int), .bool shut, .int .i64 t.vars, .slice so t.order.length co, .slice sr t.rows.length cr, .int .i64 t.next, .int .u64 (t.nf : Int), .int .u64 (gen : Int)] 116) := ⟨_, rfl⟩
 have t1 : Tc [] w W1 := by rw [hW1]; exact (Tc.refl [] w).alloc _
 have r1 : W1.heap[w.heap.size]? = some (.cells #[.int .i64 kind, .int .u64 (n : Int), .bool shut, .int .i64 t.vars, .slice so t.order.length co, .slice sr t.rows.length cr, .int .i64 t.next, .int .u64 (t.nf : Int), .int .u64 (gen : Int)] 116 (0, 0)) := by rw [hW1]; exact heap_alloc_new w _
 have hz1 : W1.heap.size = w.heap.size + 1 := by rw [hW1]; simp
 rw [← hW1, ← hz1]
 clear hW1
 obtain ⟨W0, hW0⟩ : ∃ W0, W0 = W1.alloc (.cells #[.string ⟨#[]⟩, .bool false, .slice none 0 0] 113) := ⟨_, rfl⟩
 have t0 : Tc [] w W0 := by rw [hW0]; exact t1.alloc _
 have r0 : W0.heap[W1.heap.size]? = some (.cells #[.string ⟨#[]⟩, .bool false, .slice none 0 0] 113 (0, 0)) := by rw [hW0]; exact heap_alloc_new W1 _
 have h0 : W0.heap[w.heap.size]? = some (.cells #[.int .i64 kind, .int .u64 (n : Int), .bool shut, .int .i64 t.vars, .slice so t.order.length co, .slice sr t.rows.length cr, .int .i64 t.next, .int .u64 (t.nf : Int), .int .u64 (gen : Int)] 116 (0, 0)) := by rw [hW0]; exact (((Tc.refl [] W1).alloc _).block _ (by omega) (by simp)).trans r1
 rw [← hW0]
 clear hW0 t1 r1
 generalize hbt : w.heap.size = bt at *
 generalize hbr : W1.heap.size = br at *
 have HT0 := hid t0
 have HR := hid (And.intro r0 h0)
 have c1 := cRw h0 1
 have c2 := cRw h0 2
 have hnw1 := World.new_ne W0 ⟨bt, 1, none⟩ c1
 have hnw2 := World.new_ne W0 ⟨bt, 2, none⟩ c2
 clear t0 r0 h0
 subst hz1
 go_cut [5] (fun v W => ∃ bf, v = ptr bf ∧ Hid (FilW w W #[.int .i64 kind, .int .u64 (n : Int), .bool shut, .int .i64 t.vars, .slice so t.order.length co, .slice sr t.rows.length cr, .int .i64 t.next, .int .u64 (t.nf : Int), .int .u64 (gen : Int)] bt bf (fileN n) shut (.slice none 0 0)))
 case first =>
  go_region_held3 (fun W => W.cell? ⟨bt, 1, none⟩ = some (.int .u64 (n : Int)) ∧ W.cell? ⟨bt, 2, none⟩ = some (.bool shut)) (go_keep)
   (first | (go_at_call 62; refine (HF.out _).mono ?_; rintro e w2 ⟨rfl, ht2⟩; (first
    |(obtain ⟨⟨v1, v2⟩, t2⟩ := file_arm0 (w := W0) c1 c2 ht2; have HT2 := hid t2; clear ht2 t2)
    |(obtain ⟨⟨v1, v2⟩, r2, t2⟩ := file_arm (w := W0) c1 c2 ht2; have HT2 := hid t2; have HR2 := hid r2; have q0 := cRw r2 0; have q1 := cRw r2 1; have q2 := cRw r2 2; have z0 := uRw r2 0; have z1 := uRw r2 1; have z2 := uRw r2 2; clear ht2 r2 t2))))
  all_goals
   go_wp2_with fail
   go_meet
   first
    | exact ⟨_, rfl, hid (FilW.start HR.out HT0.out hbt HT2.out _ _ _)⟩
    | exact ⟨_, rfl, hid (FilW.start2 HR.out HT0.out hbt HT2.out HR2.out _ _ _)⟩
 case rest =>
  obtain ⟨bf, rfl, hw⟩ := hcut
  have HW := hid hw.out
  have HX : Hid (∀ W, Tc [] wc W → (∀ i, W.cell? ⟨bt, i, none⟩ = #[.int .i64 kind, .int .u64 (n : Int), .bool shut, .int .i64 t.vars, .slice so t.order.length co, .slice sr t.rows.length cr, .int .i64 t.next, .int .u64 (t.nf : Int), .int .u64 (gen : Int)][i]?) ∧ W.heap.size > bf) := hid (fun W tt => ⟨cRw (HW.out.step tt).th, Nat.lt_of_lt_of_le (ltB HW.out.row) tt.size⟩)
  have HEN : Hid (∀ W g, W.heap[g]? = some (.cells #[.int .u64 1, .int .u64 2, .int .u64 3, .int .u64 (n : Int)] 176 (0, 0)) → Calls Tryz.prog 70 #[.int .i64 2, .int .i64 0, .slice (some ⟨g, 0, none⟩) 1 1, .int .i64 (B : Int)] W fun e w' => ∃ xa xn xc D, e = .returned (.tuple #[.slice xa xn xc, .int .i64 0]) ∧ ByD w' D (.slice xa xn xc) (encU 2 0 [1, 2, 3, n] B) ∧ RwD w' D ∧ (∀ y ∈ D, W.heap.size ≤ y) ∧ Tc [] W w') := hid (fun W g hg => by
   have hB := HB.out
   have h := Rx.rencode_ok 2 0 1 B [1, 2, 3, n] g 0 1 W (fun i hi => by
    rw [cRw hg (0 + i)]
    match i, hi with
    | 0, _ => rfl
    | 1, _ => rfl
    | 2, _ => rfl
    | 3, _ => rfl) rfl (ltB hg) (fun x hx => by simp at hx; omega) (by omega) (by omega) (by omega) hB.1 hB.2.1 hB.2.2 (by omega) (by omega)
   have e : numsU (encU 2 0 [1, 2, 3, n] B) = PureCrc.enc 2 0 1 [1, 2, 3, n] B := by
    unfold encU
    rw [show [1, 2, 3, n].length / 4 = 1 by simp, nums_bytes (PureCrc.enc_lt (kind := 2) (by omega))]
   rw [← e] at h
   refine h.mono fun e w' ⟨sv, e1, ho, ht⟩ => ?_
   obtain ⟨D, h1, h2, h3⟩ := ByD.of_own ho
   obtain ⟨xa, xn, xc, rfl, _⟩ := id h1
   exact ⟨xa, xn, xc, D, e1, h1, h2, h3, ht⟩)
  clear hw HR HT0
  have hcb := (HX.out wc (Tc.refl _ _)).1
  go_upto_region 3 with (go_at_call 70; refine (HEN.out _ _ (heap_alloc_new wc _)).mono ?_; rintro e w3 ⟨xa, xn, xc, D3, rfl, hby, hrw, hD3, ht3⟩; have HBY := hid (And.intro hby (And.intro hrw (And.intro hD3 ht3))); clear hby hrw hD3 ht3)
  obtain ⟨hby, hrw, hD3, ht3⟩ := HBY.out
  have F3 := HW.out.step (((Tc.refl [] wc).alloc _).trans ht3 (by simp))
  have ta : Tc [] w3 (w3.alloc (.cells #[.slice xa xn xc] 118)) := (Tc.refl [] w3).alloc _
  have B3 := BlD.one (hby.touch ta (by simp)) (hrw.touch ta (by simp)) (heap_alloc_new w3 _)
  have q2 := cRw (F3.step ta).row 2
  have z2 := uRw (F3.step ta).row 2
  have hwsz := HW.out.touch.size
  have hsz3 := ht3.size
  have hal : (wc.alloc (.cells #[.int .u64 1, .int .u64 2, .int .u64 3, .int .u64 (n : Int)] 176)).heap.size = wc.heap.size + 1 := by simp
  have B4 := FilB.set2 (F3.step ta) B3.1 B3.2 (fun y hy => by
   rcases List.mem_cons.1 hy with rfl | hy
   ·omega
   ·have := hD3 y hy; omega)
  have HB4 := hid B4
  clear hby hrw hD3 ht3 F3 ta B3 B4 hwsz hsz3 hal HBY
  go_upto_region 4 with fail
  obtain ⟨W5, hW5⟩ : ∃ W5, W5 = (w3.alloc (.cells #[.slice xa xn xc] 118)).setCell ⟨bf, 2, none⟩ (.slice (some ⟨w3.heap.size, 0, none⟩) 1 1) := ⟨_, rfl⟩
  rw [← hW5] at HB4 ⊢
  clear hW5 q2 z2
  generalize w3.heap.size = g3 at *
  have cb5 := cRw HB4.out.1.th
  clear hcb HX HEN HW HF
  by_cases h2 : kind = 2
  ·subst h2
   go_upto_region 6 with fail
   go_upto_region 7 with (go_at_call 69; refine (HC.out _).mono ?_; rintro e w6 ⟨rfl, ht6⟩; have F6 := HB4.out.step ht6; have q0 := cRw F6.1.row 0; have z0 := uRw F6.1.row 0; have HB6 := hid (F6.set0 (catN n)); clear F6 ht6)
   obtain ⟨W6, hW6⟩ : ∃ W6, W6 = w6.setCell ⟨bf, 0, none⟩ (.string (bs (catN n))) := ⟨_, rfl⟩
   rw [← hW6] at HB6 ⊢
   clear hW6 q0 z0 cb5
   have cb6 := cRw HB6.out.1.th
   have HREC := hid (rrecs_any (co := co) (cr := cr) (HH.out W6 HB6.out.1.touch) hg)
   simp only [tblV] at HREC
   go_upto_region 8 with (go_at_call 68; refine HREC.out.mono ?_; rintro e w7 ⟨v7, rfl, ho7, ht7⟩; obtain ⟨va, vc, rfl⟩ := oSC ho7; have HO7 := hid (own_lower (b2 := 0) ho7 (Nat.zero_le _)); have HT7 := hid ht7; clear ho7 ht7)
   have hnum := (HH.out W6 HB6.out.1.touch).num
   have hol := (HH.out W6 HB6.out.1.touch).ol
   have hrl := (HH.out W6 HB6.out.1.touch).rl
   have HBK := hid (rblocks_any (kind := 5) (K := B / 32 - 1) HO7.out (by rw [recsN_eq]; simp) (recs_small hnum hg hol) (by rw [recsN_len]; omega) HB.out rfl (by omega) (by omega))
   clear hnum hol hrl
   go_upto_region 16 with (go_at_call 114; refine HBK.out.mono ?_; rintro e w8 ⟨sv, D, rfl, hbl, hrw, hD, ht8⟩; obtain ⟨xa', xc', rfl, hx9⟩ := id hbl; clear hx9; have F8 := (HB6.out.step HT7.out).step ht8; have q2 := cRw F8.1.row 2; have z2 := uRw F8.1.row 2; have HB8 := hid (FilB.set2 F8.1 hbl hrw (fun y hy => Nat.le_trans (HB6.out.step HT7.out).1.touch.size (hD y hy))); clear F8 hbl hrw hD ht8)
   obtain ⟨W8, hW8⟩ : ∃ W8, W8 = w8.setCell ⟨bf, 2, none⟩ (.slice xa' (bkO 5 (B / 32 - 1) B (recsN t gen) (nBk (B / 32 - 1) (recsN t gen).length)).length xc') := ⟨_, rfl⟩
   rw [← hW8] at HB8 ⊢
   clear hW8 q2 z2 cb6 HBK HREC HO7 HT7
   have c8 := cRw HB8.out.1.row
   have c9 := cRw HB8.out.1.res
   have u9 := uRw HB8.out.1.res
   go_wp2_with fail
   obtain ⟨f1, D, f2, f3, f4, f5⟩ := HB8.out.fin
   have g0 := cRw f1 0
   have g1 := cRw f1 1
   have g2 := cRw f1 2
   refine bodyPost_ret (v := .agg #[.string (bs (catN n)), .bool shut, .slice xa' (bkO 5 (B / 32 - 1) B (recsN t gen) (nBk (B / 32 - 1) (recsN t gen).length)).length xc']) (by simp [results, Tryz.results58, go_sem, g0, g1, g2]) rfl ⟨_, D, rfl, f2, f3, f4, f5⟩
  ·by_cases h3 : kind = 3
   ·subst h3
    go_upto_region 16 with (go_at_call 115; refine (HS.out _).mono ?_; rintro e w6 ⟨rfl, ht6⟩; have F6 := HB4.out.step ht6; have q0 := cRw F6.1.row 0; have z0 := uRw F6.1.row 0; have HB6 := hid (F6.set0 (strayL (n % 10))); clear F6 ht6)
    obtain ⟨W6, hW6⟩ : ∃ W6, W6 = w6.setCell ⟨bf, 0, none⟩ (.string (bs (strayL (n % 10)))) := ⟨_, rfl⟩
    rw [← hW6] at HB6 ⊢
    clear hW6 q0 z0 cb5
    have c8 := cRw HB6.out.1.row
    have c9 := cRw HB6.out.1.res
    have u9 := uRw HB6.out.1.res
    go_wp2_with fail
    obtain ⟨f1, D, f2, f3, f4, f5⟩ := HB6.out.fin
    have g0 := cRw f1 0
    have g1 := cRw f1 1
    have g2 := cRw f1 2
    refine bodyPost_ret (v := .agg #[.string (bs (strayL (n % 10))), .bool shut, .slice (some ⟨g3, 0, none⟩) 1 1]) (by simp [results, Tryz.results58, go_sem, g0, g1, g2]) rfl ⟨_, D, rfl, f2, f3, f4, f5⟩
   ·by_cases h4 : kind = 4
    ·subst h4
     go_upto_region 13 with (go_at_call 69; refine (HC.out _).mono ?_; rintro e w6 ⟨rfl, ht6⟩; have F6 := HB4.out.step ht6; have q0 := cRw F6.1.row 0; have z0 := uRw F6.1.row 0; have HB6 := hid (F6.set0 (catN n)); clear F6 ht6)
     obtain ⟨W6, hW6⟩ : ∃ W6, W6 = w6.setCell ⟨bf, 0, none⟩ (.string (bs (catN n))) := ⟨_, rfl⟩
     rw [← hW6] at HB6 ⊢
     clear hW6 q0 z0 cb5
     have cb6 := cRw HB6.out.1.row
     obtain ⟨M, hM⟩ : ∃ M, M = madeCells #[(Value.int .u8 0)] B := ⟨_, rfl⟩
     have hBb := HB.out
     have hmk : ∀ W : World, (Instr.makeSlice 118 (.int .i64 (B : Int)) (.int .i64 (B : Int))).run Tryz.prog W = .ok (.slice (some ⟨W.heap.size, 0, none⟩) B B) (W.alloc (.cells M 5)) := fun W => by
      have h := run_make_row' (P := Tryz.prog) 118 5 (.int .u8 0) 1 Tryz.underlying118 Tryz.info5 rfl .i64 .i64 B (by omega) (by omega) W
      rw [← hM] at h
      exact h
     have hMB : M = (Lib.byteCells (List.replicate B 0)).toArray := by
      rw [hM]
      apply Array.toList_inj.1
      rw [toList_madeCells_one]
      simp [Lib.byteCells]
     clear hM hBb
     have tm : Tc [] W6 (W6.alloc (.cells M 5)) := (Tc.refl [] W6).alloc _
     have hbr0 := ByD.of_row (W := W6.alloc (.cells M 5)) (g := W6.heap.size) (d := List.replicate B 0) (by rw [hMB]; exact heap_alloc_new W6 _)
     rw [List.length_replicate] at hbr0
     have ta := (Tc.refl [] (W6.alloc (.cells M 5))).alloc (.cells #[.slice (some ⟨W6.heap.size, 0, none⟩) B B] 118)
     have B9 := BlD.one (hbr0.1.touch ta (by simp)) (hbr0.2.touch ta (by simp)) (heap_alloc_new (W6.alloc (.cells M 5)) _)
     have F9 := (HB6.out.step tm).step ta
     have hws6 := HB6.out.1.touch.size
     have hs9 : (W6.alloc (.cells M 5)).heap.size = W6.heap.size + 1 := by simp
     have HB9 := hid (FilB.set2 F9.1 B9.1 B9.2 (fun y hy => by
      simp only [List.mem_cons, List.not_mem_nil, or_false] at hy
      rcases hy with rfl | rfl <;> omega))
     have q2 := cRw F9.1.row 2
     have z2 := uRw F9.1.row 2
     rw [hs9] at HB9
     clear tm hbr0 ta B9 F9 hws6 hs9 cb6 hMB
     go_upto_region 16 with fail
     obtain ⟨W9, hW9⟩ : ∃ W9, W9 = ((W6.alloc (.cells M 5)).alloc (.cells #[.slice (some ⟨W6.heap.size, 0, none⟩) B B] 118)).setCell ⟨bf, 2, none⟩ (.slice (some ⟨W6.heap.size + 1, 0, none⟩) 1 1) := ⟨_, rfl⟩
     rw [← hW9] at HB9 ⊢
     clear hW9 q2 z2 hmk
     generalize W6.heap.size + 1 = g9 at *
     have c8 := cRw HB9.out.1.row
     have c9 := cRw HB9.out.1.res
     have u9 := uRw HB9.out.1.res
     go_wp2_with fail
     obtain ⟨f1, D, f2, f3, f4, f5⟩ := HB9.out.fin
     have g0 := cRw f1 0
     have g1 := cRw f1 1
     have g2 := cRw f1 2
     refine bodyPost_ret (v := .agg #[.string (bs (catN n)), .bool shut, .slice (some ⟨g9, 0, none⟩) 1 1]) (by simp [results, Tryz.results58, go_sem, g0, g1, g2]) rfl ⟨_, D, rfl, f2, f3, f4, f5⟩
    ·by_cases h5 : kind = 5
     ·subst h5
      go_upto_region 16 with (go_at_call 69; refine (HC.out _).mono ?_; rintro e w6 ⟨rfl, ht6⟩; have F6 := HB4.out.step ht6; have q0 := cRw F6.1.row 0; have z0 := uRw F6.1.row 0; have HB6 := hid (F6.set0 (catN n)); clear F6 ht6)
      obtain ⟨W6, hW6⟩ : ∃ W6, W6 = w6.setCell ⟨bf, 0, none⟩ (.string (bs (catN n))) := ⟨_, rfl⟩
      rw [← hW6] at HB6 ⊢
      clear hW6 q0 z0 cb5
      have c8 := cRw HB6.out.1.row
      have c9 := cRw HB6.out.1.res
      have u9 := uRw HB6.out.1.res
      go_wp2_with fail
      obtain ⟨f1, D, f2, f3, f4, f5⟩ := HB6.out.fin
      have g0 := cRw f1 0
      have g1 := cRw f1 1
      have g2 := cRw f1 2
      refine bodyPost_ret (v := .agg #[.string (bs (catN n)), .bool shut, .slice (some ⟨g3, 0, none⟩) 1 1]) (by simp [results, Tryz.results58, go_sem, g0, g1, g2]) rfl ⟨_, D, rfl, f2, f3, f4, f5⟩
     ·have e1 : thName ⟨kind, n, shut, t, gen⟩ = fileN n := by simp [thName, h2, h3, h4, h5]
      have e2 : thBlocks B ⟨kind, n, shut, t, gen⟩ = [encU 2 0 [1, 2, 3, n] B] := by simp [thBlocks, h2, h4]
      go_upto_region 16 with fail
      have c8 := cRw HB4.out.1.row
      have c9 := cRw HB4.out.1.res
      have u9 := uRw HB4.out.1.res
      go_wp2_with fail
      obtain ⟨f1, D, f2, f3, f4, f5⟩ := HB4.out.fin
      have g0 := cRw f1 0
      have g1 := cRw f1 1
      have g2 := cRw f1 2
      refine bodyPost_ret (v := .agg #[.string (bs (fileN n)), .bool shut, .slice (some ⟨g3, 0, none⟩) 1 1]) (by simp [results, Tryz.results58, go_sem, g0, g1, g2]) rfl ⟨_, D, by rw [e1], by rw [e2]; exact f2, f3, f4, f5⟩
end
structure FsD (w : World) (D : List Nat) (l : List SFl) : Prop where
 each : ∀ e ∈ l, BlD w D e.sv e.file.blocks
 rows : RwD w D
theorem FsD.nil (w : World) : FsD w [] [] := ⟨fun e he => (by cases he), fun y hy => (by cases hy)⟩
theorem FsD.touch {w w' : World} {D G : List Nat} {l : List SFl} (h : FsD w D l) (t : Tc G w w') (hG : ∀ y ∈ G, y ∉ D) : FsD w' D l := ⟨fun e he => (h.each e he).touch t hG, h.rows.touch t hG⟩
theorem FsD.sub {w : World} {D : List Nat} {l m : List SFl} (h : FsD w D l) (hm : ∀ e ∈ m, e ∈ l) : FsD w D m := ⟨fun e he => h.each e (hm e he), h.rows⟩
theorem FsD.snoc {w : World} {D D' : List Nat} {l : List SFl} {e : SFl} (h : FsD w D l) (he : BlD w D' e.sv e.file.blocks) (hr : RwD w D') : FsD w (D ++ D') (l ++ [e]) := ⟨fun x hx => by
 rcases List.mem_append.1 hx with hx | hx
 ·exact (h.each x hx).mono (fun y hy => List.mem_append_left _ hy)
 ·rw [List.mem_singleton] at hx
  subst hx
  exact he.mono (fun y hy => List.mem_append_right _ hy), h.rows.app hr⟩
theorem RwD.apart {w : World} {D : List Nat} (h : RwD w D) {g : Nat} {c : Array Value} {ty : TypeId} (hg : w.heap[g]? = some (.cells c ty (0, 0))) (h1 : ty ≠ 118) (h2 : ty ≠ 5) : g ∉ D := fun hx => by
 obtain ⟨c', ty', fr', e, e2⟩ := h _ hx
 rw [hg] at e
 cases e
 rcases e2 with e | e
 ·exact h1 e
 ·exact h2 e
structure StD (w : World) (D : List Nat) (fv : Value) (l : List SFl) : Prop where
 sl : ∃ a c, fv = .slice a l.length c
 at_ : ∀ (k : Nat) (e : SFl), l[k]? = some e → ∃ a c, fv = .slice (some a) l.length c ∧ a.block ∈ D ∧ a.block < w.heap.size ∧ w.cell? (a.add (k * 3)) = some (encStr e.name) ∧ w.cell? ⟨(a.add (k * 3)).block, (a.add (k * 3)).off + 1, none⟩ = some (.bool e.file.shut) ∧ w.cell? ⟨(a.add (k * 3)).block, (a.add (k * 3)).off + 2, none⟩ = some e.sv ∧ BlD w D e.sv e.file.blocks
theorem StD.in_ {w : World} {D : List Nat} {fv : Value} {l : List SFl} (h : StD w D fv l) : StIn w fv l := ⟨h.sl, fun k e he => by
 obtain ⟨a, c, e1, hD, hl, c0, c1, c2, hb⟩ := h.at_ k e he
 exact ⟨a, c, e1, hl, c0, c1, c2, hb.in_⟩⟩
theorem StD.touch {w w' : World} {D G : List Nat} {fv : Value} {l : List SFl} (h : StD w D fv l) (t : Tc G w w') (hG : ∀ y ∈ G, y ∉ D) : StD w' D fv l := ⟨h.sl, fun k e he => by
 obtain ⟨a, c, e1, hD, hl, c0, c1, c2, hb⟩ := h.at_ k e he
 have hbk : (a.add (k * 3)).block = a.block := add_block a _
 have hn : a.block ∉ G := fun hx => hG _ hx hD
 have cc : ∀ q : Addr, q.block = a.block → w'.cell? q = w.cell? q := fun q hq => t.cell (by rw [hq]; exact hl) (by rw [hq]; exact hn)
 exact ⟨a, c, e1, hD, Nat.lt_of_lt_of_le hl t.size, (cc _ hbk).trans c0, (cc ⟨_, _ + 1, none⟩ hbk).trans c1, (cc ⟨_, _ + 2, none⟩ hbk).trans c2, hb.touch t hG⟩⟩
theorem flat_cells {l : List SFl} {k : Nat} {e : SFl} (h : l[k]? = some e) : (l.flatMap SFl.cells)[k * 3]? = some (encStr e.name) ∧ (l.flatMap SFl.cells)[k * 3 + 1]? = some (.bool e.file.shut) ∧ (l.flatMap SFl.cells)[k * 3 + 2]? = some e.sv := by
 induction l generalizing k with
 | nil => simp at h
 | cons x t ih =>
  match k, h with
  | 0, h =>
   simp at h
   subst h
   exact ⟨rfl, rfl, rfl⟩
  | k + 1, h =>
   have h' : t[k]? = some e := by simpa using h
   obtain ⟨h0, h1, h2⟩ := ih h'
   have hc : (List.flatMap SFl.cells (x :: t)) = SFl.cells x ++ List.flatMap SFl.cells t := rfl
   have hl : (SFl.cells x).length = 3 := rfl
   rw [hc]
   refine ⟨?_, ?_, ?_⟩
   ·rw [List.getElem?_append_right (by omega), hl, show (k + 1) * 3 - 3 = k * 3 by omega]; exact h0
   ·rw [List.getElem?_append_right (by omega), hl, show (k + 1) * 3 + 1 - 3 = k * 3 + 1 by omega]; exact h1
   ·rw [List.getElem?_append_right (by omega), hl, show (k + 1) * 3 + 2 - 3 = k * 3 + 2 by omega]; exact h2
theorem FsD.done {w : World} {D : List Nat} {base : Nat} {v : Value} {l : List SFl} (h : FsD w D l) (ho : w.ownsRow base 113 3 v l.length (l.flatMap SFl.cells)) : ∃ D', StD w D' v l ∧ (∀ y ∈ D', y < w.heap.size ∧ (y ∈ D ∨ v.ownBlock = some y)) := by
 rcases ho.2 with ⟨e, h0⟩ | ⟨g, cap, cur, e, hg1, hg2, _⟩
 ·refine ⟨D, ⟨⟨none, 0, by rw [e, h0]⟩, fun k e he => ?_⟩, fun y hy => ⟨h.rows.lt y hy, .inl hy⟩⟩
  have := List.getElem?_eq_some_iff.1 he
  obtain ⟨hk, _⟩ := this
  omega
 ·refine ⟨g :: D, ⟨⟨_, _, e⟩, fun k f hf => ?_⟩, fun y hy => ?_⟩
  ·obtain ⟨c0, c1, c2⟩ := flat_cells hf
   have hc : ∀ j u, (l.flatMap SFl.cells)[j]? = some u → w.cell? ⟨g, j, none⟩ = some u := fun j u hu => by
    have := ho.cells (g := g) (by rw [e]; rfl) j u hu
    rw [azA] at this
    exact this
   refine ⟨⟨g, 0, none⟩, cap, e, by simp, ltB hg2, ?_, ?_, ?_, (h.each f (List.mem_of_getElem? hf)).mono (fun y hy => List.mem_cons_of_mem _ hy)⟩
   ·rw [azA]; exact hc _ _ c0
   ·rw [azA]; exact hc _ _ c1
   ·rw [azA]; exact hc _ _ c2
  ·rcases List.mem_cons.1 hy with rfl | hy
   ·exact ⟨ltB hg2, .inr (by rw [e]; rfl)⟩
   ·exact ⟨h.rows.lt y hy, .inl hy⟩
theorem run_file (w : World) (ty : TypeId) (base : Nat) (v : Value) (n : Nat) (xs : List Value) (b : Nat) (c0 c1 c2 : Value) (hown : w.ownsRow base 113 3 v n xs) (hb : w.heap[b]? = some (.cells #[c0, c1, c2] 113 (0, 0))) (h0 : c0.oneCell' = true) (h1 : c1.oneCell' = true) (h2 : c2.oneCell' = true) (hn : n ≤ 1099511627776) (hbase : base ≤ w.heap.size) :
  ∃ v' w', (Builtin.append_ #[40, 40] ty #[v, .slice (some ⟨b, 0, none⟩) 1 1]).run Tryz.prog w = .ok v' w' ∧ w'.ownsRow base 113 3 v' (n + 1) (xs ++ [c0, c1, c2]) ∧ w.grownBy w' v.ownBlock ∧ Below base w w' := by
 obtain ⟨i, hi, hz0, hz1, hz2⟩ := info_parts Tryz.info113
 have hnews : ∀ j u, [c0, c1, c2][j]? = some u → w.cell? ((⟨b, 0, none⟩ : Addr).add j) = some u := by
  intro j u hu
  rw [azA, cRw hb j]
  simpa using hu
 obtain ⟨v', w', hrun, ho, hg, hx⟩ := run_append_own (P := Tryz.prog) w base 40 ty 113 i _ 3 48 Tryz.underlying40 hi hz0 hz1 hz2 rfl (by decide) v n xs hown ⟨b, 0, none⟩ 1 1 [c0, c1, c2] rfl hnews (by simp [h0, h1, h2]) (by unfold maxLen; omega) (by omega) hbase
 exact ⟨v', w', hrun, ho, hg, (Below.refl _ w).grown hg hbase (fun k hk => (hown.lt k hk).1)⟩
theorem wpList_file (w : World) {ops : Array Oper} {rest : List Oper} {o : Oper} {a : Act} {Q : Exit → Act → World → Prop} (hgd : o.guard = none) (s x : Operand)
  (hop : o.op = Op.call { callee := Callee.builtin Builtin.append, args := #[s, x], argTypes := #[40, 40] })
  (base : Nat) (v : Value) (n : Nat) (xs : List Value) (b : Nat) (c0 c1 c2 : Value) (hs : a.eval s = v) (hx : a.eval x = .slice (some ⟨b, 0, none⟩) 1 1) (hown : w.ownsRow base 113 3 v n xs) (hb : w.heap[b]? = some (.cells #[c0, c1, c2] 113 (0, 0))) (h0 : c0.oneCell' = true) (h1 : c1.oneCell' = true) (h2 : c2.oneCell' = true) (hn : n ≤ 1099511627776) (hbase : base ≤ w.heap.size)
  (hK : ∀ v' w', w'.ownsRow base 113 3 v' (n + 1) (xs ++ [c0, c1, c2]) → w.grownBy w' v.ownBlock → Below base w w' → wpList Tryz.prog ops Q rest (a.put o.dst v') w') : wpList Tryz.prog ops Q (o :: rest) a w := by
 refine wpList_plain hgd fun K' hK' => ?_
 obtain ⟨v', w', hrun, ho, hg, hy⟩ := run_file w o.type base v n xs b c0 c1 c2 hown hb h0 h1 h2 hn hbase
 unfold Oper.wp
 simp [execOp, hop, resolve, invoke, builtin, hs, hx, hrun, Result.andThen]
 exact hK' _ _ (hK v' w' ho hg hy)
end Go.Proofs.YthehcjjckabljaaGreatDoor
