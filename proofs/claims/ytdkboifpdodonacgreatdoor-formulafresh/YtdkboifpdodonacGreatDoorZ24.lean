import Derived.Test.YtdkboifpdodonacGreatDoorZ23
set_option linter.unusedSimpArgs false
/-
 The landed program's words.
-/
namespace Go.Proofs.YtdkboifpdodonacGreatDoor
open Go.RowKit Go.Deep PureCnf
set_option maxRecDepth 100000

theorem info58 : (Tryz.prog.info? 131).map (fun i => (i.zero, i.size, i.bytes)) = some (some (.agg #[.string ⟨#[]⟩, .int .i64 0]), 2, 24) := by kernel_rfl

def wc (p : Piece) : List Value := [str p.w, .int .i64 p.at_]
def wcs (l : List Piece) : List Value := l.flatMap wc

/-- the words are owned there, in a block from B on; since w nothing below B has turned. -/
structure Wds (w : World) (l : List Piece) (v : Value) (W : World) : Prop where
 own : W.ownsRow w.heap.size 131 2 v l.length (wcs l)
 below : Below w.heap.size w W

theorem app_word {ops : Array Oper} {rest : List Oper} {o : Oper} {a : Act} {Q : Exit → Act → World → Prop} {w0 : World} {cs : Array Value} (hgd : o.guard = none) (s x : Operand)
  (ho : o.op = .call { callee := .builtin .append, args := #[s, x], argTypes := #[104, 104] })
  (w : World) (v : Value) (l : List Piece) (p : Piece) (hcs : cs = (wc p).toArray) (hs : a.eval s = v) (hb : Wds w l v w0) (hx : a.eval x = .slice (some ⟨w0.heap.size, 0, none⟩) 1 1) (hlen : l.length ≤ 1099511627776)
  (h : ∀ v' w', Wds w (l ++ [p]) v' w' → wpList Tryz.prog ops Q rest (a.put o.dst v') w') : wpList Tryz.prog ops Q (o :: rest) a (w0.alloc (.cells cs 131)) := by
 obtain ⟨i, hi, hz0, hz1, hz2⟩ := info_parts info58
 subst hcs
 have hb' := hb.own.alloc (.cells (wc p).toArray 131)
 have hbb : Below w.heap.size w (w0.alloc (.cells (wc p).toArray 131)) := hb.below.alloc hb.below.size _
 refine wpList_append_own _ hgd s x 104 ho w.heap.size 131 i _ 2 24 Tryz.underlying104 hi hz0 hz1 hz2 rfl (by decide) v l.length (wcs l) hs hb' ⟨w0.heap.size, 0, none⟩ 1 1 (wc p) hx rfl ?_ ?_ (by unfold maxLen; omega) (by omega) hbb.size ?_
 ·intro j u hj
  rw [add_zero_addr, cell_row (heap_alloc_new w0 _)]
  simpa using hj
 ·intro u hu
  simp only [wc, List.mem_cons, List.not_mem_nil, or_false] at hu
  rcases hu with rfl | rfl <;> rfl
 ·intro v' w' ho' hg _
  refine h v' w' ⟨?_, hbb.grown hg hbb.size (fun k hk => (hb'.lt k hk).1)⟩
  have e : wcs (l ++ [p]) = wcs l ++ wc p := by simp [wcs]
  rw [e, List.length_append]
  exact ho'

theorem runB_list (X : List UInt8) (w : World) : Calls Tryz.prog 61 #[str X, .func (.func 62) #[] #[]] w fun e w' => e = .returned (str (X.takeWhile whB)) ∧ Below w.heap.size w w' := runB_any ⟨X.toArray⟩ w
theorem runN_list (X : List UInt8) (w : World) : Calls Tryz.prog 61 #[str X, .func (.func 64) #[] #[]] w fun e w' => e = .returned (str (X.takeWhile inkB)) ∧ Below w.heap.size w w' := runN_any ⟨X.toArray⟩ w
theorem prefix_list (X : List UInt8) (c : UInt8) (w : World) : Calls Tryz.prog 63 #[str X, .string ⟨#[c]⟩] w fun e w' => e = .returned (.bool (decide (X.head? = some c))) ∧ w' = w := prefix25 ⟨X.toArray⟩ c w
theorem cut_list (X : List UInt8) (n : Nat) : (⟨X.toArray⟩ : ByteArray).extract n X.length = ⟨(X.drop n).toArray⟩ := by
 rw [Lib.extract_eq]
 show (⟨((X.drop n).take (X.length - n)).toArray⟩ : ByteArray) = _
 rw [List.take_of_length_le (by simp)]

/-- a piece of the text, from k to e. -/
def cutL (l : List UInt8) (k e : Nat) : List UInt8 := (l.take e).drop k
theorem cutL_length {l : List UInt8} {k e : Nat} (he : e ≤ l.length) : (cutL l k e).length = e - k := by simp [cutL]; omega
theorem cutL_run {p : UInt8 → Bool} {l : List UInt8} {k e : Nat} : k + ((cutL l k e).takeWhile p).length = runW p l k e := rfl
theorem cutL_drop {p : UInt8 → Bool} {l : List UInt8} {k e : Nat} : (cutL l k e).drop ((cutL l k e).takeWhile p).length = cutL l (runW p l k e) e := by
 rw [← cutL_run]; unfold cutL; rw [List.drop_drop]
theorem cutL_head {l : List UInt8} {k e : Nat} (h : k < e) (he : e ≤ l.length) : (cutL l k e).head? = some (l[k]'(by omega)) := by
 unfold cutL; rw [drop_take h he]; rfl
theorem cutL_end {l : List UInt8} {k e : Nat} (h : ¬ k < e) (he : e ≤ l.length) : cutL l k e = [] := List.eq_nil_of_length_eq_zero (by rw [cutL_length he]; omega)
theorem cutL_word {l : List UInt8} {k e : Nat} (he : e ≤ l.length) : (cutL l k e).takeWhile inkB = (l.take (runW inkB l k e)).drop k := by
 have h1 : (cutL l k e).takeWhile inkB = (cutL l k e).take ((cutL l k e).takeWhile inkB).length := List.prefix_iff_eq_take.1 (List.takeWhile_prefix _)
 have h2 : ((cutL l k e).takeWhile inkB).length ≤ e - k := by
  have := (List.takeWhile_prefix inkB (l := cutL l k e)).length_le
  rwa [cutL_length he] at this
 rw [h1, ← cutL_run]
 generalize ((cutL l k e).takeWhile inkB).length = n at h2
 unfold cutL
 rw [List.drop_take, List.drop_take, List.take_take, Nat.min_eq_left h2, Nat.add_sub_cancel_left]

theorem Wds.nil {w W : World} (h : Below w.heap.size w W) : Wds w [] (.slice none 0 0) W := ⟨World.ownsRow_nil _ _ _ _, h⟩
def strLen : Value → Nat | .string s => s.size | _ => 0
theorem Wds.on {w W W' : World} {l : List Piece} {v : Value} (h : Wds w l v W) (hb : Below W.heap.size W W') : Wds w l v W' := ⟨ownsRow_below h.own hb, h.below.trans (hb.mono h.below.size)⟩

/-- a text cut off behind its first run, in the walk's own words. -/
theorem cut_run {p : UInt8 → Bool} {l : List UInt8} {k e : Nat} :
  (⟨(cutL l k e).toArray⟩ : ByteArray).extract ((cutL l k e).takeWhile p).length (cutL l k e).length = ⟨(cutL l (runW p l k e) e).toArray⟩ := by
 rw [cut_list, cutL_drop]

/-- a word begins there, or the line ends. -/
def Ink (l : List UInt8) (k e : Nat) : Prop := k < e → ∀ c, l[k]? = some c → inkB c = true
theorem ink_run {l : List UInt8} {i e : Nat} (he : e ≤ l.length) : Ink l (runW whB l i e) e := by
 intro h c hc
 have := runW_stop (p := whB) (i := i) he h
 rw [List.getElem?_eq_getElem (by omega)] at hc
 unfold inkB
 rw [← Option.some.inj hc, this]
 rfl

set_option maxHeartbeats 2000000 in
theorem words_any (l : List UInt8) (i e line : Nat) (w : World) (hi : i ≤ e) (he : e ≤ l.length) (hl : l.length ≤ 1099511627776) :
  Calls Tryz.prog 40 #[str (cutL l i e), .int .i64 (i : Int)] w fun x w' => ∃ v, x = .returned v ∧ Wds w (lineWords l i e line) v w' := by
 obtain ⟨k0, hk0⟩ : ∃ x, x = runW whB l i e := ⟨_, rfl⟩
 have g0 := runW_ge whB l i e
 have g1 := runW_le (p := whB) (l := l) (i := i) (e := e) hi
 have HC := cut_run (p := whB) (l := l) (k := i) (e := e)
 have HR := hid (runB_list (cutL l i e) w)
 rw [← hk0] at g0 g1 HC
 obtain ⟨T, hT⟩ : ∃ x, x = (cutL l i e).takeWhile whB := ⟨_, rfl⟩
 rw [← hT] at HR HC
 have hTl : T.length = k0 - i := by rw [hT, hk0, ← cutL_run]; omega
 have HLW : Hid (lineWords l i e line = if (cutL l k0 e).head? = some 99 then [] else wordsFrom l e line k0) := by
  show _ = _
  unfold lineWords
  rw [← hk0]
  by_cases hlt : k0 < e
  ·rw [cutL_head hlt he, List.getElem?_eq_getElem (by omega)]
   simp [hlt]
  ·rw [cutL_end hlt he]
   simp [hlt]
 have HINK : Hid (Ink l k0 e) := by rw [hk0]; exact ink_run he
 have hXl : (cutL l i e).length = e - i := cutL_length he
 obtain ⟨X, hX⟩ : ∃ x, x = cutL l i e := ⟨_, rfl⟩
 obtain ⟨Y, hY⟩ : ∃ x, x = cutL l k0 e := ⟨_, rfl⟩
 rw [← hX] at HR HC hXl ⊢
 rw [← hY] at HLW HC
 rw [hTl, hXl] at HC
 obtain ⟨n0, hn0⟩ : ∃ x, x = k0 - i := ⟨_, rfl⟩
 obtain ⟨m0, hm0⟩ : ∃ x, x = e - i := ⟨_, rfl⟩
 rw [← hn0] at hTl HC
 rw [← hm0] at hXl HC
 have hnm : n0 ≤ m0 := by omega
 have hm : m0 ≤ 1099511627776 := by omega
 have HPX := fun W => hid (prefix_list Y 99 W)
 have HY := hid hY
 have HM0 := hid hm0
 clear hk0 hX hT hY hn0 hm0
 cases hpx : decide (Y.head? = some 99) with
 | true =>
  have HE : Hid (lineWords l i e line = []) := by show _ = _; rw [HLW.out, if_pos (by simpa using hpx)]
  rw [hpx] at HPX
  clear hpx
  go_enter Tryz.func40, Tryz.ntmps40
  go_wp2_with fail
  refine HR.out.mono ?_
  rintro e1 w1 ⟨rfl, b1⟩
  have HB := hid b1
  clear b1
  go_wp2_with (go_at_call 63; refine (HPX _).out.mono ?_; rintro e w' ⟨rfl, rfl⟩)
  go_ret
  rw [HE.out]
  exact ⟨_, rfl, Wds.nil HB.out⟩
 | false =>
  have HE : Hid (lineWords l i e line = wordsFrom l e line k0) := by show _ = _; rw [HLW.out, if_neg (by simpa using hpx)]
  rw [hpx] at HPX
  clear hpx
  go_enter Tryz.func40, Tryz.ntmps40
  go_wp2_with fail
  refine HR.out.mono ?_
  rintro e1 w1 ⟨rfl, b1⟩
  have HB := hid b1
  clear b1
  go_wp2_with (go_at_call 63; refine (HPX _).out.mono ?_; rintro e w' ⟨rfl, rfl⟩)
  go_loopw [5, 6] (fun rest list W => ∃ (k : Nat) (done : List Piece), rest = str (cutL l k e) ∧ i ≤ k ∧ k ≤ e ∧ done.length ≤ k ∧ Hid (done ++ wordsFrom l e line k = wordsFrom l e line k0 ∧ Ink l k e ∧ Wds w done list W)) (fun rest _ _ => strLen rest)
  case atStart => exact ⟨k0, [], by rw [HY.out], g0, g1, Nat.zero_le _, rfl, HINK.out, Wds.nil HB.out⟩
  case round =>
   obtain ⟨k, done, rfl, hk0, hk, hdn, HP⟩ := hrel
   by_cases hlt : k < e
   ·obtain ⟨P1, P2, P3⟩ := HP.out
    have hkl : k < l.length := by omega
    have hink : inkB l[k] = true := P2 hlt _ (List.getElem?_eq_getElem hkl)
    have hwf := wordsFrom_cons (line := line) hlt he hink
    obtain ⟨q, hq⟩ : ∃ x, x = runW inkB l k e := ⟨_, rfl⟩
    obtain ⟨k2, hk2⟩ : ∃ x, x = runW whB l q e := ⟨_, rfl⟩
    have q0 : k < q := by
     rw [hq, runW_on hlt he hink]
     have := runW_ge inkB l (k + 1) e
     omega
    have q1 : q ≤ e := by rw [hq]; exact runW_le hk
    have k20 : q ≤ k2 := by rw [hk2]; exact runW_ge _ _ _ _
    have k21 : k2 ≤ e := by rw [hk2]; exact runW_le q1
    have HR1 := fun W => hid (runN_list (cutL l k e) W)
    have HR2 := fun W => hid (runB_list (cutL l q e) W)
    have HC1 := cut_run (p := inkB) (l := l) (k := k) (e := e)
    have HC2 := cut_run (p := whB) (l := l) (k := q) (e := e)
    have hT1 := cutL_word (k := k) he
    rw [← hq] at hwf HC1 hT1
    rw [← hk2] at hwf HC2
    obtain ⟨p, hp⟩ : ∃ p : Piece, p = ⟨(l.take q).drop k, k, line⟩ := ⟨_, rfl⟩
    rw [hT1] at HR1 HC1
    rw [← hp] at hwf
    obtain ⟨T, hT⟩ : ∃ x, x = (l.take q).drop k := ⟨_, rfl⟩
    rw [← hT] at HR1 HC1 hp
    have hTl : T.length = q - k := by rw [hT]; simp; omega
    obtain ⟨T2, hT2⟩ : ∃ x, x = (cutL l q e).takeWhile whB := ⟨_, rfl⟩
    have hT2l : T2.length = k2 - q := by rw [hT2, hk2, ← cutL_run]; omega
    rw [← hT2] at HC2
    simp only [← hT2] at HR2
    have hXl : (cutL l k e).length = e - k := cutL_length he
    have hYl : (cutL l q e).length = e - q := cutL_length he
    have HINK2 : Hid (Ink l k2 e) := by rw [hk2]; exact ink_run he
    obtain ⟨X, hX⟩ : ∃ x, x = cutL l k e := ⟨_, rfl⟩
    obtain ⟨Y, hY⟩ : ∃ x, x = cutL l q e := ⟨_, rfl⟩
    obtain ⟨Z, hZ⟩ : ∃ x, x = cutL l k2 e := ⟨_, rfl⟩
    simp only [← hX] at HR1 HC1 hXl ⊢
    simp only [← hY] at HR2 HC1 HC2 hYl
    rw [← hZ] at HC2
    have HZ := hid hZ
    have HWF : Hid ((done ++ [p]) ++ wordsFrom l e line k2 = wordsFrom l e line k0) := by
     show _ = _
     rw [← P1, hwf, List.append_assoc]; rfl
    have HW3 := hid P3
    have HPP := hid hp
    have hne : X.isEmpty = false := by cases X with | nil => simp at hXl; omega | cons _ _ => rfl
    rw [hTl, hXl] at HC1
    rw [hT2l, hYl] at HC2
    have HZL : Hid (Z.length < X.length) := by show _ < _; rw [hZ, hXl, cutL_length he]; omega
    clear hwf hq hk2 hp hT1 hT hT2 hX hY hZ P1 P2 P3 HP HE HB HINK HPX HLW hink
    go_wp2_with fail
    refine (HR1 _).out.mono ?_
    rintro e1 w2 ⟨rfl, b2⟩
    have HW4 := hid (HW3.out.on b2)
    clear b2 HW3
    have HCS : Hid (#[str T, Value.int .i64 ((i : Int) + (m0 : Int) - ((e - k : Nat) : Int))] = (wc p).toArray) := by
     show _ = _
     have := HM0.out
     rw [HPP.out, show ((i : Int) + (m0 : Int) - ((e - k : Nat) : Int)) = (k : Int) by omega]
     rfl
    go_wp2_with (at_builtin; refine app_word rfl _ _ rfl w u6 done p HCS.out rfl HW4.out rfl (by omega) ?_; intro v4 w4 r4; have R4 := hid r4; clear r4)
    refine (HR2 _).out.mono ?_
    rintro e1 w5 ⟨rfl, b5⟩
    have R5 := hid (R4.out.on b5)
    clear b5 R4
    go_wp2_with fail
    go_roundw
    case rel => exact ⟨k2, done ++ [p], by rw [← HZ.out], by omega, k21, by simp; omega, HWF.out, HINK2.out, R5.out⟩
    case measure => exact HZL.out
   ·have hX : cutL l k e = [] := cutL_end hlt he
    obtain ⟨P1, P2, P3⟩ := HP.out
    have HF : Hid (Wds w (lineWords l i e line) u6 wr) := by
     show Wds _ _ _ _
     rw [HE.out, ← P1, wordsFrom_nil hlt, List.append_nil]
     exact P3
    rw [hX]
    clear P1 P2 P3 HP hX
    go_wp2_with fail
    go_ret
    exact ⟨_, rfl, HF.out⟩
end Go.Proofs.YtdkboifpdodonacGreatDoor
/-
 Clauses in the making, as the landed program has them: a box of five cells; what its calls leave as it was.
-/
namespace Go.Proofs.YtdkboifpdodonacGreatDoor
open Go.RowKit Go.Deep PureCnf
set_option maxRecDepth 100000

/-- all but the box and rows of numbers stands as it stood. -/
structure Keep (b : Nat) (W W' : World) : Prop where
 size : W.heap.size ≤ W'.heap.size
 block : ∀ (k : Nat) (cs : Array Value) (t : TypeId) (fz : Nat × Nat), k ≠ b → t ≠ 3 → W.heap[k]? = some (.cells cs t fz) → W'.heap[k]? = some (.cells cs t fz)
theorem Keep.refl (b : Nat) (W : World) : Keep b W W := ⟨Nat.le_refl _, fun _ _ _ _ _ _ h => h⟩
theorem Keep.trans {b : Nat} {W W' W2 : World} (h : Keep b W W') (g : Keep b W' W2) : Keep b W W2 := ⟨Nat.le_trans h.size g.size, fun k cs t fz hk ht he => g.block k cs t fz hk ht (h.block k cs t fz hk ht he)⟩
theorem Keep.of_below {b : Nat} {W W' : World} (h : Below W.heap.size W W') : Keep b W W' := ⟨h.size, fun k _ _ _ _ _ he => (h.block k (Array.getElem?_eq_some_iff.1 he).1).trans he⟩
theorem Keep.set {b i : Nat} {W : World} {v : Value} : Keep b W (W.setCell ⟨b, i, none⟩ v) := ⟨by simp, fun _ _ _ _ hk _ he => (Below.heap_setCell W _ _ _ (by simpa using hk)).trans he⟩
theorem Keep.grown {b base n : Nat} {W W' : World} {v : Value} {xs : List Value} (h : W.grownBy W' v.ownBlock) (hs : W.heap.size ≤ W'.heap.size) (ho : W.ownsRow base 3 1 v n xs) : Keep b W W' := by
 refine ⟨hs, fun k cs t fz hk ht he => ?_⟩
 rw [← he]
 refine h.block k (Array.getElem?_eq_some_iff.1 he).1 (fun e => ?_)
 obtain ⟨c, fz', hc⟩ := Lib.ownsRow_kind ho k e.symm
 rw [he] at hc
 simp at hc
 exact ht hc.2.1

/-- words that lie there. -/
abbrev WRow (W : World) (B : Nat) (v : Value) (l : List Piece) : Prop := W.ownsRow B 131 2 v l.length (wcs l)
theorem WRow.keep {W W' : World} {b B : Nat} {v : Value} {l : List Piece} (h : WRow W B v l) (hk : Keep b W W') (hb : b < B) : WRow W' B v l := by
 refine ⟨h.1, ?_⟩
 rcases h.2 with hn | ⟨g, cap, cur, hv, hB, hg, rest⟩
 ·exact .inl hn
 ·exact .inr ⟨g, cap, cur, hv, hB, hk.block g _ _ _ (by omega) (by decide) hg, rest⟩
theorem WRow.form {W : World} {B : Nat} {v : Value} {l : List Piece} (h : WRow W B v l) : ∃ sa c, v = .slice sa l.length c := by
 rcases h.2 with ⟨hv, h0⟩ | ⟨g, cap, cur, hv, _⟩
 ·exact ⟨none, 0, by rw [hv, h0]⟩
 ·exact ⟨_, _, hv⟩
theorem wcs_at (l : List Piece) (k : Nat) (h : k < l.length) : (wcs l)[k * 2]? = some (str l[k].w) ∧ (wcs l)[k * 2 + 1]? = some (.int .i64 (l[k].at_ : Int)) := by
 induction l generalizing k with
 | nil => simp at h
 | cons p t ih =>
  have e : wcs (p :: t) = [str p.w, .int .i64 (p.at_ : Int)] ++ wcs t := rfl
  cases k with
  | zero => rw [e]; exact ⟨rfl, rfl⟩
  | succ k =>
   have := ih k (by simpa using h)
   rw [e, List.getElem?_append_right (by simp; omega), List.getElem?_append_right (by simp; omega)]
   simp only [List.length_cons, List.length_nil, List.getElem_cons_succ]
   rw [show (k + 1) * 2 - (0 + 1 + 1) = k * 2 by omega, show (k + 1) * 2 + 1 - (0 + 1 + 1) = k * 2 + 1 by omega]
   exact this
theorem WRow.read {W : World} {B : Nat} {v : Value} {l : List Piece} (h : WRow W B v l) {k : Nat} (hk : k < l.length) :
  ∃ g c, v = .slice (some ⟨g, 0, none⟩) l.length c ∧ B ≤ g ∧ W.cell? ⟨g, k * 2, none⟩ = some (str l[k].w) ∧ W.cell? ⟨g, k * 2 + 1, none⟩ = some (.int .i64 (l[k].at_ : Int)) := by
 rcases h.2 with ⟨hv, h0⟩ | ⟨g, cap, cur, hv, hB, _⟩
 ·omega
 ·have h' : W.ownsRow B 131 2 (.slice (some ⟨g, 0, none⟩) l.length cap) l.length (wcs l) := by rw [← hv]; exact h
  have := wcs_at l k hk
  exact ⟨g, cap, hv, hB, by rw [h'.cellAt (k * 2) (by omega)]; exact this.1, by rw [h'.cellAt (k * 2 + 1) (by omega)]; exact this.2⟩

/-- clauses in the making: their box at b; the lists lie behind it. -/
structure Cl (w0 W : World) (b : Nat) (V : Int) (E L : List Int) (ve vl : Value) (bg : Bool) (C : Int) : Prop where
 row : W.heap[b]? = some (.cells #[.int .i64 V, ve, vl, .bool bg, .int .i64 C] 99 (0, 0))
 oe : W.ownsRow (b + 1) 3 1 ve E.length (ci E)
 ol : W.ownsRow (b + 1) 3 1 vl L.length (ci L)
 apart : ve.ownBlock = none ∨ ve.ownBlock ≠ vl.ownBlock
 below : Below b w0 W

theorem Cl.size {w0 W : World} {b : Nat} {V C : Int} {E L : List Int} {ve vl : Value} {bg : Bool} (h : Cl w0 W b V E L ve vl bg C) : b + 1 ≤ W.heap.size := (Array.getElem?_eq_some_iff.1 h.row).1
theorem Cl.on {w0 W W' : World} {b : Nat} {V C : Int} {E L : List Int} {ve vl : Value} {bg : Bool} (h : Cl w0 W b V E L ve vl bg C) (hb : Below W.heap.size W W') : Cl w0 W' b V E L ve vl bg C :=
 ⟨(hb.block _ h.size).trans h.row, ownsRow_below h.oe hb, ownsRow_below h.ol hb, h.apart, h.below.trans (hb.mono (by have := h.size; omega))⟩
theorem Cl.setV {w0 W : World} {b : Nat} {V C : Int} {E L : List Int} {ve vl : Value} {bg : Bool} (h : Cl w0 W b V E L ve vl bg C) (x : Int) : Cl w0 (W.setCell ⟨b, 0, none⟩ (.int .i64 x)) b x E L ve vl bg C := by
 refine ⟨?_, ownsRow_store h.oe (by omega), ownsRow_store h.ol (by omega), h.apart, h.below.setCell (by simp) _⟩
 have hb := h.size
 simp [World.setCell, Array.getElem?_modify, h.row]
theorem Cl.setB {w0 W : World} {b : Nat} {V C : Int} {E L : List Int} {ve vl : Value} {bg : Bool} (h : Cl w0 W b V E L ve vl bg C) (x : Bool) : Cl w0 (W.setCell ⟨b, 3, none⟩ (.bool x)) b V E L ve vl x C := by
 refine ⟨?_, ownsRow_store h.oe (by omega), ownsRow_store h.ol (by omega), h.apart, h.below.setCell (by simp) _⟩
 have hb := h.size
 simp [World.setCell, Array.getElem?_modify, h.row]
theorem Cl.setC {w0 W : World} {b : Nat} {V C : Int} {E L : List Int} {ve vl : Value} {bg : Bool} (h : Cl w0 W b V E L ve vl bg C) (x : Int) : Cl w0 (W.setCell ⟨b, 4, none⟩ (.int .i64 x)) b V E L ve vl bg x := by
 refine ⟨?_, ownsRow_store h.oe (by omega), ownsRow_store h.ol (by omega), h.apart, h.below.setCell (by simp) _⟩
 have hb := h.size
 simp [World.setCell, Array.getElem?_modify, h.row]

/-- the Ends grow. -/
theorem Cl.ends {w0 W : World} {b : Nat} {V C : Int} {E L : List Int} {ve vl : Value} {bg : Bool} (h : Cl w0 W b V E L ve vl bg C) {W' : World} {ve' : Value} {x : Int}
  (ho : W'.ownsRow (b + 1) 3 1 ve' (E ++ [x]).length (ci (E ++ [x]))) (hg : W.grownBy W' ve.ownBlock) (hf : ve'.ownBlock = ve.ownBlock ∨ ve'.ownBlock = some W.heap.size) : Cl w0 (W'.setCell ⟨b, 1, none⟩ ve') b V (E ++ [x]) L ve' vl bg C := by
 have hs := h.size
 have hvl : W'.ownsRow (b + 1) 3 1 vl L.length (ci L) := h.ol.kept hg (by
  rcases h.apart with ha | ha
  ·rw [ha]; cases vl.ownBlock <;> simp
  ·exact .inr (Ne.symm ha))
 have hrow : W'.heap[b]? = some (.cells #[.int .i64 V, ve, vl, .bool bg, .int .i64 C] 99 (0, 0)) := by
  rw [← h.row]
  refine hg.block b hs (fun e => ?_)
  have := (h.oe.lt b e.symm).1
  omega
 refine ⟨?_, ownsRow_store ho (by omega), ownsRow_store hvl (by omega), ?_, ?_⟩
 ·have hb := (Array.getElem?_eq_some_iff.1 hrow).1
  simp [World.setCell, Array.getElem?_modify, hrow]
 ·rcases hf with hf | hf
  ·rw [hf]; exact h.apart
  ·right
   rw [hf]
   intro e
   have := (h.ol.lt _ e.symm).2
   omega
 ·exact (h.below.grown hg (by omega) (fun k hk => by have := (h.oe.lt k hk).1; omega)).setCell (by simp) _
/-- the Lits grow. -/
theorem Cl.lits {w0 W : World} {b : Nat} {V C : Int} {E L : List Int} {ve vl : Value} {bg : Bool} (h : Cl w0 W b V E L ve vl bg C) {W' : World} {vl' : Value} {x : Int}
  (ho : W'.ownsRow (b + 1) 3 1 vl' (L ++ [x]).length (ci (L ++ [x]))) (hg : W.grownBy W' vl.ownBlock) (hf : vl'.ownBlock = vl.ownBlock ∨ vl'.ownBlock = some W.heap.size) : Cl w0 (W'.setCell ⟨b, 2, none⟩ vl') b V E (L ++ [x]) ve vl' bg C := by
 have hs := h.size
 have hve : W'.ownsRow (b + 1) 3 1 ve E.length (ci E) := h.oe.kept hg (by
  rcases h.apart with ha | ha
  ·exact .inl ha
  ·exact .inr ha)
 have hrow : W'.heap[b]? = some (.cells #[.int .i64 V, ve, vl, .bool bg, .int .i64 C] 99 (0, 0)) := by
  rw [← h.row]
  refine hg.block b hs (fun e => ?_)
  have := (h.ol.lt b e.symm).1
  omega
 refine ⟨?_, ownsRow_store hve (by omega), ownsRow_store ho (by omega), ?_, ?_⟩
 ·have hb := (Array.getElem?_eq_some_iff.1 hrow).1
  simp [World.setCell, Array.getElem?_modify, hrow]
 ·rcases hf with hf | hf
  ·rw [hf]; exact h.apart
  ·rw [hf]
   cases hv : ve.ownBlock with
   | none => exact .inl rfl
   | some k =>
    right
    intro e
    have := (h.oe.lt k hv).2
    simp at e
    omega
 ·exact (h.below.grown hg (by omega) (fun k hk => by have := (h.ol.lt k hk).1; omega)).setCell (by simp) _
theorem Cl.alloc {w0 W : World} {b : Nat} {V C : Int} {E L : List Int} {ve vl : Value} {bg : Bool} (h : Cl w0 W b V E L ve vl bg C) (o : Obj) : Cl w0 (W.alloc o) b V E L ve vl bg C := h.on ((Below.refl _ _).alloc (Nat.le_refl _) o)
theorem Cl.forms {w0 W : World} {b : Nat} {V C : Int} {E L : List Int} {ve vl : Value} {bg : Bool} (h : Cl w0 W b V E L ve vl bg C) : (∃ sa c, ve = .slice sa E.length c ∧ E.length ≤ c) ∧ ∃ sa c, vl = .slice sa L.length c ∧ L.length ≤ c := by
 constructor
 ·rcases h.oe.2 with ⟨hv, h0⟩ | ⟨g, cap, cur, hv, _, _, hn, _⟩
  ·exact ⟨none, 0, by rw [hv, h0], by omega⟩
  ·exact ⟨_, _, hv, hn⟩
 ·rcases h.ol.2 with ⟨hv, h0⟩ | ⟨g, cap, cur, hv, _, _, hn, _⟩
  ·exact ⟨none, 0, by rw [hv, h0], by omega⟩
  ·exact ⟨_, _, hv, hn⟩
end Go.Proofs.YtdkboifpdodonacGreatDoor
/-
 The landed program's headWord.
-/
namespace Go.Proofs.YtdkboifpdodonacGreatDoor
open Go.RowKit Go.Deep PureCnf
set_option maxRecDepth 100000

/-- what a word of the head is refused with. -/
def hwE (i : Nat) (X : List UInt8) : Int := if i = 0 then (if X = [112] then 0 else 135) else if i = 1 then (if X = [99, 110, 102] then 0 else 135) else if i = 2 ∨ i = 3 then amtE X 65536 else 135
def hwV (i : Nat) (X : List UInt8) (V : Int) : Int := if i = 2 then amtV X 65536 else V
def hwC (i : Nat) (X : List UInt8) (C : Int) : Int := if i = 3 then amtV X 65536 else C

theorem amount_list (X : List UInt8) (w : World) (hs : X.length ≤ 1099511627776) :
  Calls Tryz.prog 106 #[str X, .int .i64 65536] w fun e w' => e = .returned (.tuple #[.int .i64 (amtV X 65536), .int .i64 (amtE X 65536)]) ∧ Below w.heap.size w w' := amount_any ⟨X.toArray⟩ 65536 w (show X.toArray.size ≤ _ by simpa using hs)

set_option maxHeartbeats 1000000 in
theorem headWord_any {w0 W : World} {b : Nat} {V C : Int} {E L : List Int} {ve vl : Value} {bg : Bool} (h : Cl w0 W b V E L ve vl bg C) (i : Nat) (X : List UInt8) (hX : X.length ≤ 1099511627776) (hi : i ≤ 1099511627776) :
  Calls Tryz.prog 77 #[.pointer (some ⟨b, 0, none⟩), .int .i64 (i : Int), str X] W fun e W' => e = .returned (.int .i64 (hwE i X)) ∧ Cl w0 W' b (hwV i X V) E L ve vl bg (hwC i X C) ∧ Keep b W W' := by
 have HCL := hid h
 rcases (show i = 0 ∨ i = 1 ∨ i = 2 ∨ i = 3 ∨ 4 ≤ i by omega) with rfl | rfl | rfl | rfl | h4
 ·by_cases hx : X = [112]
  ·subst hx
   clear h
   go_enter Tryz.func77, Tryz.ntmps77
   go_wp2
   go_ret
   exact ⟨rfl, HCL.out, Keep.refl _ _⟩
  ·have HE : Hid (hwE 0 X = 135) := by show _ = _; unfold hwE; rw [if_pos rfl, if_neg hx]
   have hx2 : (X == [112]) = false := by simpa using hx
   clear h hx
   go_enter Tryz.func77, Tryz.ntmps77
   go_wp2
   go_ret
   exact ⟨by rw [HE.out]; rfl, HCL.out, Keep.refl _ _⟩
 ·by_cases hx : X = [99, 110, 102]
  ·subst hx
   clear h
   go_enter Tryz.func77, Tryz.ntmps77
   go_wp2
   go_ret
   exact ⟨rfl, HCL.out, Keep.refl _ _⟩
  ·have HE : Hid (hwE 1 X = 135) := by show _ = _; unfold hwE; rw [if_neg (by decide), if_pos rfl, if_neg hx]
   have hx2 : (X == [99, 110, 102]) = false := by simpa using hx
   clear h hx
   go_enter Tryz.func77, Tryz.ntmps77
   go_wp2
   go_ret
   exact ⟨by rw [HE.out]; rfl, HCL.out, Keep.refl _ _⟩
 ·have HA := hid (amount_list X W hX)
  clear h
  go_enter Tryz.func77, Tryz.ntmps77
  go_wp2_with fail
  refine HA.out.mono ?_
  rintro e w1 ⟨rfl, b1⟩
  have cl1 := HCL.out.on b1
  have c0 := fun j => cell_row cl1.row j
  have f0 := fun j => unfrozen_row cl1.row j
  have CL1 := hid cl1
  have HB1 := hid b1
  clear cl1 b1
  go_wp2
  go_ret
  exact ⟨rfl, CL1.out.setV _, (Keep.of_below HB1.out).trans Keep.set⟩
 ·have HA := hid (amount_list X W hX)
  clear h
  go_enter Tryz.func77, Tryz.ntmps77
  go_wp2_with fail
  refine HA.out.mono ?_
  rintro e w1 ⟨rfl, b1⟩
  have cl1 := HCL.out.on b1
  have c0 := fun j => cell_row cl1.row j
  have f0 := fun j => unfrozen_row cl1.row j
  have CL1 := hid cl1
  have HB1 := hid b1
  clear cl1 b1
  go_wp2
  go_ret
  exact ⟨rfl, CL1.out.setC _, (Keep.of_below HB1.out).trans Keep.set⟩
 ·have HE : Hid (hwE i X = 135 ∧ hwV i X V = V ∧ hwC i X C = C) := by
   show _ ∧ _
   unfold hwE hwV hwC
   rw [if_neg (by omega), if_neg (by omega), if_neg (by omega), if_neg (by omega), if_neg (by omega)]
   exact ⟨rfl, rfl, rfl⟩
  have g0 : ((i : Int) == 0) = false := by simp; omega
  have g1 : ((i : Int) == 1) = false := by simp; omega
  have g2 : ((i : Int) == 2) = false := by simp; omega
  have g3 : ((i : Int) == 3) = false := by simp; omega
  clear h
  go_enter Tryz.func77, Tryz.ntmps77
  go_wp2
  go_ret
  rw [HE.out.2.1, HE.out.2.2]
  exact ⟨by rw [HE.out.1]; rfl, HCL.out, Keep.refl _ _⟩

/-! ### head -/
/-- the first word of the head that is refused, from place i on. -/
def hrun : Nat → List Piece → Option (Int × Nat)
 | _, [] => none
 | i, p :: t => if hwE i p.w ≠ 0 then some (hwE i p.w, p.at_) else hrun (i + 1) t
/-- what is read of the first j words. -/
def hV (l : List Piece) (j : Nat) : Int := match l[2]? with | some p => if 2 < j then amtV p.w 65536 else 0 | none => 0
def hC (l : List Piece) (j : Nat) : Int := match l[3]? with | some p => if 3 < j then amtV p.w 65536 else 0 | none => 0
def hEnd (l : List Piece) : Nat := match l[l.length - 1]? with | some p => p.at_ + p.w.length | none => 0
def hOut (l : List Piece) : Int × Nat := match hrun 0 l with | some f => f | none => if l.length < 4 then (135, hEnd l) else (0, 0)

theorem hrun_drop {l : List Piece} {i j : Nat} (h : j < l.length) : hrun i (l.drop j) = if hwE i l[j].w ≠ 0 then some (hwE i l[j].w, l[j].at_) else hrun (i + 1) (l.drop (j + 1)) := by
 rw [List.drop_eq_getElem_cons h, hrun]
theorem hV_zero (l : List Piece) : hV l 0 = 0 := by unfold hV; split <;> rfl
theorem hC_zero (l : List Piece) : hC l 0 = 0 := by unfold hC; split <;> rfl
theorem hV_succ {l : List Piece} {j : Nat} (h : j < l.length) : hV l (j + 1) = hwV j l[j].w (hV l j) := by
 unfold hV hwV
 by_cases h2 : j = 2
 ·subst h2
  rw [List.getElem?_eq_getElem h]
  simp
 ·rw [if_neg h2]
  split
  ·by_cases h3 : 2 < j
   ·rw [if_pos h3, if_pos (by omega)]
   ·rw [if_neg h3, if_neg (by omega)]
  ·rfl
theorem hC_succ {l : List Piece} {j : Nat} (h : j < l.length) : hC l (j + 1) = hwC j l[j].w (hC l j) := by
 unfold hC hwC
 by_cases h2 : j = 3
 ·subst h2
  rw [List.getElem?_eq_getElem h]
  simp
 ·rw [if_neg h2]
  split
  ·by_cases h3 : 3 < j
   ·rw [if_pos h3, if_pos (by omega)]
   ·rw [if_neg h3, if_neg (by omega)]
  ·rfl

set_option maxHeartbeats 2000000 in
theorem head21_any {w0 W : World} {b B : Nat} {E L : List Int} {ve vl v : Value} {bg : Bool} (l : List Piece) (h : Cl w0 W b 0 E L ve vl bg 0) (hl : WRow W B v l) (hB : b < B) (hn : l.length ≤ 1099511627776) (h0 : 0 < l.length)
  (hw : ∀ p ∈ l, p.at_ + p.w.length ≤ 1099511627776) :
  Calls Tryz.prog 59 #[.pointer (some ⟨b, 0, none⟩), v] W fun e W' => e = .returned (.tuple #[.int .i64 (hOut l).1, .int .i64 ((hOut l).2 : Int)]) ∧
   ∃ V C, Cl w0 W' b V E L ve vl bg C ∧ ((hOut l).1 = 0 → V = hV l l.length ∧ C = hC l l.length) := by
 obtain ⟨sa, ca, rfl⟩ := hl.form
 have HH : Hid (hrun 0 l = hrun 0 (l.drop 0)) := rfl
 have HCL := hid h
 have HWR := hid hl
 clear h hl
 go_enter Tryz.func59, Tryz.ntmps59
 go_wp2_with fail
 go_loopw [12] (fun iv W1 => ∃ j : Nat, iv = .int .i64 j ∧ j ≤ l.length ∧ Hid (hrun 0 l = hrun j (l.drop j) ∧ Cl w0 W1 b (hV l j) E L ve vl bg (hC l j) ∧ WRow W1 B (.slice sa l.length ca) l)) (fun iv _ => l.length - (intOf iv).toNat)
 case atStart => exact ⟨0, rfl, Nat.zero_le _, HH.out, by rw [hV_zero, hC_zero]; exact HCL.out, HWR.out⟩
 case round =>
  obtain ⟨j, rfl, hj, HP⟩ := hrel
  by_cases hlt : j < l.length
  ·obtain ⟨P1, P2, P3⟩ := HP.out
   obtain ⟨g, c, hv, hg, c0, c1⟩ := P3.read hlt
   simp only [Value.slice.injEq, true_and] at hv
   obtain ⟨rfl, rfl⟩ := hv
   have hpw := hw _ (List.getElem_mem hlt)
   obtain ⟨X, hX⟩ : ∃ x, x = l[j].w := ⟨_, rfl⟩
   obtain ⟨at_, hat⟩ : ∃ x, x = l[j].at_ := ⟨_, rfl⟩
   have hdr := hrun_drop (i := j) hlt
   have hv1 := hV_succ hlt
   have hc1 := hC_succ hlt
   rw [← hX, ← hat] at hdr hpw
   rw [← hX] at hv1 hc1 c0
   rw [← hat] at c1
   obtain ⟨WA, hWA⟩ : ∃ x, x = wr.alloc (Obj.cells #[.string ⟨X.toArray⟩, .int .i64 (at_ : Int)] 131) := ⟨_, rfl⟩
   have tA : Below wr.heap.size wr WA := by rw [hWA]; exact (Below.refl _ _).alloc (Nat.le_refl _) _
   have rA : WA.heap[wr.heap.size]? = some (.cells #[.string ⟨X.toArray⟩, .int .i64 (at_ : Int)] 131 (0, 0)) := by rw [hWA]; exact heap_alloc_new wr _
   have cA := fun k => cell_row rA k
   have HHW := hid (headWord_any (P2.on tA) j X (by omega) (by omega))
   have hbs := P2.size
   have HRA := hid rA
   have HWR2 := hid (P3.keep (Keep.of_below tA) hB)
   have HWA := hid hWA
   have HPP := hid P1
   have HDR := hid hdr
   have HV1 := hid hv1
   have HC1 := hid hc1
   clear hX hat hdr hv1 hc1 P1 P2 P3 HP rA tA hWA HH HCL HWR
   go_wp2_with (rw [← HWA.out])
   refine HHW.out.mono ?_
   rintro e1 w2 ⟨rfl, cl2, kp⟩
   have r2 := kp.block _ _ _ _ (show wr.heap.size ≠ b by omega) (by decide) HRA.out
   have HWR3 := hid (HWR2.out.keep kp hB)
   have CL2 := hid cl2
   have c2 := fun k => cell_row r2 k
   clear r2 kp cl2 HWR2 cA
   cases he : decide (hwE j X = 0) with
   | true =>
    have he0 : hwE j X = 0 := by simpa using he
    have HD2 : Hid (hrun 0 l = hrun (j + 1) (l.drop (j + 1))) := by
     show _ = _
     rw [HPP.out, HDR.out, if_neg (by simpa using he0)]
    rw [he0]
    clear he he0
    go_wp2_with fail
    go_roundw
    case rel => exact ⟨j + 1, by go_num, hlt, HD2.out, by rw [HV1.out, HC1.out]; exact CL2.out, HWR3.out⟩
    case measure => simp [intOf]; omega
   | false =>
    have he0 : ¬ hwE j X = 0 := by simpa using he
    have HO : Hid (hOut l = (hwE j X, at_)) := by
     show _ = _
     unfold hOut
     rw [HPP.out, HDR.out, if_pos he0]
    obtain ⟨z, hz⟩ : ∃ z, z = hwE j X := ⟨_, rfl⟩
    rw [← hz] at HO he0 ⊢
    have he1 : (z != 0) = true := by simpa using he0
    have HNZ := hid he0
    clear he hz he0
    go_wp2_with fail
    go_quiet (fail)
    go_wp2_with fail
    go_ret2
    rw [HO.out]
    exact ⟨rfl, _, _, CL2.out.on (Below.drewN' (Below.refl _ _) _), fun h => absurd h HNZ.out⟩
  ·obtain ⟨P1, P2, P3⟩ := HP.out
   obtain rfl : j = l.length := by omega
   have HP1 : Hid (hrun 0 l = none) := by
    show _ = _
    rw [P1, List.drop_length, hrun]
   by_cases h4 : l.length < 4
   ·have HO : Hid (hOut l = (135, hEnd l)) := by
     show _ = _
     unfold hOut
     rw [HP1.out]
     simp only [if_pos h4]
    obtain ⟨g, c, hv, hg, c0, c1⟩ := P3.read (k := l.length - 1) (by omega)
    simp only [Value.slice.injEq, true_and] at hv
    obtain ⟨rfl, rfl⟩ := hv
    have hpw := hw _ (List.getElem_mem (show l.length - 1 < l.length by omega))
    have HE : Hid (hEnd l = l[l.length - 1].at_ + l[l.length - 1].w.length) := by
     show _ = _
     unfold hEnd
     rw [List.getElem?_eq_getElem (by omega)]
    obtain ⟨X, hX⟩ : ∃ x, x = l[l.length - 1].w := ⟨_, rfl⟩
    obtain ⟨at_, hat⟩ : ∃ x, x = l[l.length - 1].at_ := ⟨_, rfl⟩
    rw [← hX, ← hat] at HE hpw
    rw [← hX] at c0
    rw [← hat] at c1
    obtain ⟨WA, hWA⟩ : ∃ x, x = wr.alloc (Obj.cells #[.string ⟨X.toArray⟩, .int .i64 (at_ : Int)] 131) := ⟨_, rfl⟩
    have tA : Below wr.heap.size wr WA := by rw [hWA]; exact (Below.refl _ _).alloc (Nat.le_refl _) _
    have rA : WA.heap[wr.heap.size]? = some (.cells #[.string ⟨X.toArray⟩, .int .i64 (at_ : Int)] 131 (0, 0)) := by rw [hWA]; exact heap_alloc_new wr _
    have cA := fun k => cell_row rA k
    have CL2 := hid (P2.on tA)
    have HWA := hid hWA
    have hwr : IntKind.i64.wrap ((at_ : Int) + (X.length : Int)) = (at_ : Int) + (X.length : Int) := (IntWalk.i64_left _).trans <| IntWalk.wrap64_in _ ⟨by omega, by omega⟩
    clear hX hat P1 P2 P3 HP rA tA hWA HH HCL HWR
    go_wp2_with (rw [← HWA.out])
    try rw [← HWA.out]
    go_quiet (fail)
    go_wp2_with fail
    go_ret2
    rw [HO.out, HE.out]
    exact ⟨rfl, _, _, CL2.out.on (Below.drewN' (Below.refl _ _) _), fun h => absurd h (by simp)⟩
   ·have HO : Hid (hOut l = (0, 0)) := by
     show _ = _
     unfold hOut
     rw [HP1.out]
     simp only [if_neg h4]
    have HCL2 := hid P2
    clear P1 P2 P3 HP
    go_wp2_with fail
    go_ret2
    rw [HO.out]
    exact ⟨rfl, _, _, HCL2.out, fun _ => ⟨rfl, rfl⟩⟩
end Go.Proofs.YtdkboifpdodonacGreatDoor
