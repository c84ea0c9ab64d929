/-
  The landed program's words.
-/
import Derived.Test.YtdkboifpdodonaaDoorD4
import Derived.Test.YtdkboifpdodonaaDoorB0
namespace Go.Proofs.YtdkboifpdodonaaDoor
open Go.RowKit Go.Deep PureCnf
set_option maxRecDepth 100000

theorem info58 : (Tryd.prog.info? 140).map (fun i => (i.zero, i.size, i.bytes)) = some (some (.agg #[.string ⟨#[]⟩, .int .i64 0]), 2, 24) := by kernel_rfl

def wc (p : Piece) : List Value := [str p.w, .int .i64 p.at_]
def wcs (l : List Piece) : List Value := l.flatMap wc
theorem wcs_length (l : List Piece) : (wcs l).length = l.length * 2 := by
  induction l with
  | nil => rfl
  | cons p t ih => simp only [wcs, List.flatMap_cons, List.length_append, List.length_cons] at ih ⊢; simp only [wc, List.length_cons, List.length_nil]; omega

/-- the words are owned there, in a block from B on; since w nothing below B has turned. -/
structure Wds (w : World) (l : List Piece) (v : Value) (W : World) : Prop where
  own : W.ownsRow w.heap.size 140 2 v l.length (wcs l)
  below : Below w.heap.size w W

theorem app_word {ops : Array Oper} {rest : List Oper} {o : Oper} {a : Act} {Q : Exit → Act → World → Prop} {w0 : World} {cs : Array Value} (hgd : o.guard = none) (s x : Operand)
    (ho : o.op = .call { callee := .builtin .append, args := #[s, x], argTypes := #[98, 98] })
    (w : World) (v : Value) (l : List Piece) (p : Piece) (hcs : cs = (wc p).toArray) (hs : a.eval s = v) (hb : Wds w l v w0) (hx : a.eval x = .slice (some ⟨w0.heap.size, 0, none⟩) 1 1) (hlen : l.length ≤ 1099511627776)
    (h : ∀ v' w', Wds w (l ++ [p]) v' w' → wpList Tryd.prog ops Q rest (a.put o.dst v') w') : wpList Tryd.prog ops Q (o :: rest) a (w0.alloc (.cells cs 140)) := by
  obtain ⟨i, hi, hz0, hz1, hz2⟩ := info_parts info58
  subst hcs
  have hb' := hb.own.alloc (.cells (wc p).toArray 140)
  have hbb : Below w.heap.size w (w0.alloc (.cells (wc p).toArray 140)) := hb.below.alloc hb.below.size _
  refine wpList_append_own _ hgd s x 98 ho w.heap.size 140 i _ 2 24 Tryd.underlying98 hi hz0 hz1 hz2 rfl (by decide) v l.length (wcs l) hs hb' ⟨w0.heap.size, 0, none⟩ 1 1 (wc p) hx rfl ?_ ?_ (by unfold maxLen; omega) (by omega) hbb.size ?_
  · intro j u hj
    rw [add_zero_addr, cell_row (heap_alloc_new w0 _)]
    simpa using hj
  · intro u hu
    simp only [wc, List.mem_cons, List.not_mem_nil, or_false] at hu
    rcases hu with rfl | rfl <;> rfl
  · intro v' w' ho' hg _
    refine h v' w' ⟨?_, hbb.grown hg hbb.size (fun k hk => (hb'.lt k hk).1)⟩
    have e : wcs (l ++ [p]) = wcs l ++ wc p := by simp [wcs]
    rw [e, List.length_append]
    exact ho'

theorem runB_list (X : List UInt8) (w : World) : Calls Tryd.prog 75 #[str X, .func (.func 76) #[] #[]] w fun e w' => e = .returned (str (X.takeWhile whB)) ∧ Below w.heap.size w w' := runB_any ⟨X.toArray⟩ w
theorem runN_list (X : List UInt8) (w : World) : Calls Tryd.prog 75 #[str X, .func (.func 78) #[] #[]] w fun e w' => e = .returned (str (X.takeWhile inkB)) ∧ Below w.heap.size w w' := runN_any ⟨X.toArray⟩ w
theorem prefix_list (X : List UInt8) (c : UInt8) (w : World) : Calls Tryd.prog 77 #[str X, .string ⟨#[c]⟩] w fun e w' => e = .returned (.bool (decide (X.head? = some c))) ∧ w' = w := prefix25 ⟨X.toArray⟩ c w
theorem cut_list (X : List UInt8) (n : Nat) : (⟨X.toArray⟩ : ByteArray).extract n X.length = ⟨(X.drop n).toArray⟩ := by
  rw [Lib.extract_eq]
  show (⟨((X.drop n).take (X.length - n)).toArray⟩ : ByteArray) = _
  rw [List.take_of_length_le (by simp)]

/-- a piece of the text, from k to e. -/
def cutL (l : List UInt8) (k e : Nat) : List UInt8 := (l.take e).drop k
theorem cutL_length {l : List UInt8} {k e : Nat} (he : e ≤ l.length) : (cutL l k e).length = e - k := by simp [cutL]; omega
theorem cutL_run {p : UInt8 → Bool} {l : List UInt8} {k e : Nat} : k + ((cutL l k e).takeWhile p).length = runW p l k e := rfl
theorem cutL_drop {p : UInt8 → Bool} {l : List UInt8} {k e : Nat} : (cutL l k e).drop ((cutL l k e).takeWhile p).length = cutL l (runW p l k e) e := by
  rw [← cutL_run]; unfold cutL; rw [List.drop_drop]
theorem cutL_head {l : List UInt8} {k e : Nat} (h : k < e) (he : e ≤ l.length) : (cutL l k e).head? = some (l[k]'(by omega)) := by
  unfold cutL; rw [drop_take h he]; rfl
theorem cutL_end {l : List UInt8} {k e : Nat} (h : ¬ k < e) (he : e ≤ l.length) : cutL l k e = [] := List.eq_nil_of_length_eq_zero (by rw [cutL_length he]; omega)
theorem cutL_word {l : List UInt8} {k e : Nat} (he : e ≤ l.length) : (cutL l k e).takeWhile inkB = (l.take (runW inkB l k e)).drop k := by
  have h1 : (cutL l k e).takeWhile inkB = (cutL l k e).take ((cutL l k e).takeWhile inkB).length := List.prefix_iff_eq_take.1 (List.takeWhile_prefix _)
  have h2 : ((cutL l k e).takeWhile inkB).length ≤ e - k := by
    have := (List.takeWhile_prefix inkB (l := cutL l k e)).length_le
    rwa [cutL_length he] at this
  rw [h1, ← cutL_run]
  generalize ((cutL l k e).takeWhile inkB).length = n at h2
  unfold cutL
  rw [List.drop_take, List.drop_take, List.take_take, Nat.min_eq_left h2, Nat.add_sub_cancel_left]

theorem Wds.nil {w W : World} (h : Below w.heap.size w W) : Wds w [] (.slice none 0 0) W := ⟨World.ownsRow_nil _ _ _ _, h⟩
def strLen : Value → Nat | .string s => s.size | _ => 0
theorem strLen_str (X : List UInt8) : strLen (str X) = X.length := rfl
theorem Wds.on {w W W' : World} {l : List Piece} {v : Value} (h : Wds w l v W) (hb : Below W.heap.size W W') : Wds w l v W' := ⟨ownsRow_below h.own hb, h.below.trans (hb.mono h.below.size)⟩

/-- a text cut off behind its first run, in the walk's own words. -/
theorem cut_run {p : UInt8 → Bool} {l : List UInt8} {k e : Nat} :
    (⟨(cutL l k e).toArray⟩ : ByteArray).extract ((cutL l k e).takeWhile p).length (cutL l k e).length = ⟨(cutL l (runW p l k e) e).toArray⟩ := by
  rw [cut_list, cutL_drop]

/-- a word begins there, or the line ends. -/
def Ink (l : List UInt8) (k e : Nat) : Prop := k < e → ∀ c, l[k]? = some c → inkB c = true
theorem ink_run {l : List UInt8} {i e : Nat} (he : e ≤ l.length) : Ink l (runW whB l i e) e := by
  intro h c hc
  have := runW_stop (p := whB) (i := i) he h
  rw [List.getElem?_eq_getElem (by omega)] at hc
  unfold inkB
  rw [← Option.some.inj hc, this]
  rfl

set_option maxHeartbeats 2000000 in
theorem words_any (l : List UInt8) (i e line : Nat) (w : World) (hi : i ≤ e) (he : e ≤ l.length) (hl : l.length ≤ 1099511627776) :
    Calls Tryd.prog 53 #[str (cutL l i e), .int .i64 (i : Int)] w fun x w' => ∃ v, x = .returned v ∧ Wds w (lineWords l i e line) v w' := by
  obtain ⟨k0, hk0⟩ : ∃ x, x = runW whB l i e := ⟨_, rfl⟩
  have g0 := runW_ge whB l i e
  have g1 := runW_le (p := whB) (l := l) (i := i) (e := e) hi
  have HC := cut_run (p := whB) (l := l) (k := i) (e := e)
  have HR := hid (runB_list (cutL l i e) w)
  rw [← hk0] at g0 g1 HC
  obtain ⟨T, hT⟩ : ∃ x, x = (cutL l i e).takeWhile whB := ⟨_, rfl⟩
  rw [← hT] at HR HC
  have hTl : T.length = k0 - i := by rw [hT, hk0, ← cutL_run]; omega
  have HLW : Hid (lineWords l i e line = if (cutL l k0 e).head? = some 99 then [] else wordsFrom l e line k0) := by
    show _ = _
    unfold lineWords
    rw [← hk0]
    by_cases hlt : k0 < e
    · rw [cutL_head hlt he, List.getElem?_eq_getElem (by omega)]
      simp [hlt]
    · rw [cutL_end hlt he]
      simp [hlt]
  have HINK : Hid (Ink l k0 e) := by rw [hk0]; exact ink_run he
  have hXl : (cutL l i e).length = e - i := cutL_length he
  obtain ⟨X, hX⟩ : ∃ x, x = cutL l i e := ⟨_, rfl⟩
  obtain ⟨Y, hY⟩ : ∃ x, x = cutL l k0 e := ⟨_, rfl⟩
  rw [← hX] at HR HC hXl ⊢
  rw [← hY] at HLW HC
  rw [hTl, hXl] at HC
  obtain ⟨n0, hn0⟩ : ∃ x, x = k0 - i := ⟨_, rfl⟩
  obtain ⟨m0, hm0⟩ : ∃ x, x = e - i := ⟨_, rfl⟩
  rw [← hn0] at hTl HC
  rw [← hm0] at hXl HC
  have hnm : n0 ≤ m0 := by omega
  have hm : m0 ≤ 1099511627776 := by omega
  have HPX := fun W => hid (prefix_list Y 99 W)
  have HY := hid hY
  have HM0 := hid hm0
  clear hk0 hX hT hY hn0 hm0
  cases hpx : decide (Y.head? = some 99) with
  | true =>
    have HE : Hid (lineWords l i e line = []) := by show _ = _; rw [HLW.out, if_pos (by simpa using hpx)]
    rw [hpx] at HPX
    clear hpx
    go_enter Tryd.func53, Tryd.ntmps53
    go_wp2_with fail
    refine HR.out.mono ?_
    rintro e1 w1 ⟨rfl, b1⟩
    have HB := hid b1
    clear b1
    go_wp2_with (go_at_call 77; refine (HPX _).out.mono ?_; rintro e w' ⟨rfl, rfl⟩)
    go_ret
    rw [HE.out]
    exact ⟨_, rfl, Wds.nil HB.out⟩
  | false =>
    have HE : Hid (lineWords l i e line = wordsFrom l e line k0) := by show _ = _; rw [HLW.out, if_neg (by simpa using hpx)]
    rw [hpx] at HPX
    clear hpx
    go_enter Tryd.func53, Tryd.ntmps53
    go_wp2_with fail
    refine HR.out.mono ?_
    rintro e1 w1 ⟨rfl, b1⟩
    have HB := hid b1
    clear b1
    go_wp2_with (go_at_call 77; refine (HPX _).out.mono ?_; rintro e w' ⟨rfl, rfl⟩)
    go_loopw [5, 6] (fun rest list W => ∃ (k : Nat) (done : List Piece), rest = str (cutL l k e) ∧ i ≤ k ∧ k ≤ e ∧ done.length ≤ k ∧ Hid (done ++ wordsFrom l e line k = wordsFrom l e line k0 ∧ Ink l k e ∧ Wds w done list W)) (fun rest _ _ => strLen rest)
    case atStart => exact ⟨k0, [], by rw [HY.out], g0, g1, Nat.zero_le _, rfl, HINK.out, Wds.nil HB.out⟩
    case round =>
      obtain ⟨k, done, rfl, hk0, hk, hdn, HP⟩ := hrel
      by_cases hlt : k < e
      · obtain ⟨P1, P2, P3⟩ := HP.out
        have hkl : k < l.length := by omega
        have hink : inkB l[k] = true := P2 hlt _ (List.getElem?_eq_getElem hkl)
        have hwf := wordsFrom_cons (line := line) hlt he hink
        obtain ⟨q, hq⟩ : ∃ x, x = runW inkB l k e := ⟨_, rfl⟩
        obtain ⟨k2, hk2⟩ : ∃ x, x = runW whB l q e := ⟨_, rfl⟩
        have q0 : k < q := by
          rw [hq, runW_on hlt he hink]
          have := runW_ge inkB l (k + 1) e
          omega
        have q1 : q ≤ e := by rw [hq]; exact runW_le hk
        have k20 : q ≤ k2 := by rw [hk2]; exact runW_ge _ _ _ _
        have k21 : k2 ≤ e := by rw [hk2]; exact runW_le q1
        have HR1 := fun W => hid (runN_list (cutL l k e) W)
        have HR2 := fun W => hid (runB_list (cutL l q e) W)
        have HC1 := cut_run (p := inkB) (l := l) (k := k) (e := e)
        have HC2 := cut_run (p := whB) (l := l) (k := q) (e := e)
        have hT1 := cutL_word (k := k) he
        rw [← hq] at hwf HC1 hT1
        rw [← hk2] at hwf HC2
        obtain ⟨p, hp⟩ : ∃ p : Piece, p = ⟨(l.take q).drop k, k, line⟩ := ⟨_, rfl⟩
        rw [hT1] at HR1 HC1
        rw [← hp] at hwf
        obtain ⟨T, hT⟩ : ∃ x, x = (l.take q).drop k := ⟨_, rfl⟩
        rw [← hT] at HR1 HC1 hp
        have hTl : T.length = q - k := by rw [hT]; simp; omega
        obtain ⟨T2, hT2⟩ : ∃ x, x = (cutL l q e).takeWhile whB := ⟨_, rfl⟩
        have hT2l : T2.length = k2 - q := by rw [hT2, hk2, ← cutL_run]; omega
        rw [← hT2] at HC2
        simp only [← hT2] at HR2
        have hXl : (cutL l k e).length = e - k := cutL_length he
        have hYl : (cutL l q e).length = e - q := cutL_length he
        have HINK2 : Hid (Ink l k2 e) := by rw [hk2]; exact ink_run he
        obtain ⟨X, hX⟩ : ∃ x, x = cutL l k e := ⟨_, rfl⟩
        obtain ⟨Y, hY⟩ : ∃ x, x = cutL l q e := ⟨_, rfl⟩
        obtain ⟨Z, hZ⟩ : ∃ x, x = cutL l k2 e := ⟨_, rfl⟩
        simp only [← hX] at HR1 HC1 hXl ⊢
        simp only [← hY] at HR2 HC1 HC2 hYl
        rw [← hZ] at HC2
        have HZ := hid hZ
        have HWF : Hid ((done ++ [p]) ++ wordsFrom l e line k2 = wordsFrom l e line k0) := by
          show _ = _
          rw [← P1, hwf, List.append_assoc]; rfl
        have HW3 := hid P3
        have HPP := hid hp
        have hne : X.isEmpty = false := by cases X with | nil => simp at hXl; omega | cons _ _ => rfl
        rw [hTl, hXl] at HC1
        rw [hT2l, hYl] at HC2
        have HZL : Hid (Z.length < X.length) := by show _ < _; rw [hZ, hXl, cutL_length he]; omega
        clear hwf hq hk2 hp hT1 hT hT2 hX hY hZ P1 P2 P3 HP HE HB HINK HPX HLW hink
        go_wp2_with fail
        refine (HR1 _).out.mono ?_
        rintro e1 w2 ⟨rfl, b2⟩
        have HW4 := hid (HW3.out.on b2)
        clear b2 HW3
        have HCS : Hid (#[str T, Value.int .i64 ((i : Int) + (m0 : Int) - ((e - k : Nat) : Int))] = (wc p).toArray) := by
          show _ = _
          have := HM0.out
          rw [HPP.out, show ((i : Int) + (m0 : Int) - ((e - k : Nat) : Int)) = (k : Int) by omega]
          rfl
        go_wp2_with (at_builtin; refine app_word rfl _ _ rfl w u6 done p HCS.out rfl HW4.out rfl (by omega) ?_; intro v4 w4 r4; have R4 := hid r4; clear r4)
        refine (HR2 _).out.mono ?_
        rintro e1 w5 ⟨rfl, b5⟩
        have R5 := hid (R4.out.on b5)
        clear b5 R4
        go_wp2_with fail
        go_roundw
        case rel => exact ⟨k2, done ++ [p], by rw [← HZ.out], by omega, k21, by simp; omega, HWF.out, HINK2.out, R5.out⟩
        case measure => exact HZL.out
      · have hX : cutL l k e = [] := cutL_end hlt he
        obtain ⟨P1, P2, P3⟩ := HP.out
        have HF : Hid (Wds w (lineWords l i e line) u6 wr) := by
          show Wds _ _ _ _
          rw [HE.out, ← P1, wordsFrom_nil hlt, List.append_nil]
          exact P3
        rw [hX]
        clear P1 P2 P3 HP hX
        go_wp2_with fail
        go_ret
        exact ⟨_, rfl, HF.out⟩
end Go.Proofs.YtdkboifpdodonaaDoor
