import Derived.Test.YtdkboifpdodonabGreatDoorZ06
set_option linter.unusedSimpArgs false
/-
  The document's own operand, over a contract of tree.
-/
namespace Go.Proofs.YtdkboifpdodonabGreatDoor.Doc
open Go.RowKit Go.Deep PureCnf PureForm
set_option maxRecDepth 100000

/-- what printing a subtree at i does, for pages of this list. -/
def Prints (g i : Nat) (w0 : World) (B b : Nat) (fv gv : Value) (last : Bool) (D : List UInt8) (need : Nat) : Prop :=
  ∀ (wk W : World) (bv : Value) (T : List UInt8) (deep most : Nat), Pg wk w0 W B b fv gv bv T deep most → deep ≤ most → T.length + D.length ≤ 1073741824 → deep + need ≤ 1048576 →
    Calls Tryz.prog g #[.pointer (some ⟨b, 0, none⟩), .int .i64 (i : Int), .bool last] W fun e W' => e = .returned (.tuple #[]) ∧ ∃ bv', Pg wk w0 W' B b fv gv bv' (T ++ D) deep (max most (deep + need))

set_option maxHeartbeats 1000000 in
set_option maxRecDepth 100000 in
theorem operand_any {wk w0 W : World} {B b i : Nat} {f : List Nd} {sa : Option Addr} {ca : Nat} {gv bv : Value} {T D : List UInt8} {deep most need : Nat} (br last : Bool) (hi : i < f.length) (hw : w0.heap.size = B) (hf : NodesAt w0 sa f)
    (HT : Prints 69 i w0 B b (.slice sa f.length ca) gv (brk br last f[i].1 || last) D need) (h : Pg wk w0 W B b (.slice sa f.length ca) gv bv T deep most) (hdm : deep ≤ most) (hT0 : T.length + (if brk br last f[i].1 = true then 40 :: D ++ [41] else D).length ≤ 1073741824) (hd0 : deep + wrapN (brk br last f[i].1) need ≤ 1048576) :
    Calls Tryz.prog 48 #[.pointer (some ⟨b, 0, none⟩), .int .i64 (i : Int), .bool br, .bool last] W fun e W' => e = .returned (.tuple #[]) ∧ ∃ bv', Pg wk w0 W' B b (.slice sa f.length ca) gv bv' (T ++ (if brk br last f[i].1 = true then 40 :: D ++ [41] else D)) deep (max most (deep + wrapN (brk br last f[i].1) need)) := by
  obtain ⟨gf, of, rfl, hg, a0, a1⟩ := hf.at_ i hi
  have p0 := below_cell h.below (by rw [← hw]; exact hg) a0
  obtain ⟨x, hx⟩ : ∃ x, x = f[i].1 := ⟨_, rfl⟩
  rw [← hx] at p0 HT hT0 hd0 ⊢
  have c0 := fun j => cell_row h.row j
  have hb := h.size
  have H := hid h
  have HTT := hid HT
  clear a0 a1 hx h HT hf hw hg
  cases hbk : brk br last x with
  | false =>
    rw [hbk] at HTT
    have hT : T.length + D.length ≤ 1073741824 := by simpa [hbk] using hT0
    have hd : deep + need ≤ 1048576 := by simpa [hbk, wrapN] using hd0
    clear hT0 hd0
    have HC := hid (HTT.out wk W bv T deep most H.out hdm (by omega) (by omega))
    simp only [Bool.false_or] at HC
    simp only [wrapN, if_neg (show ¬ (false = true) by decide)]
    have hbr : br = false := by cases br <;> simp_all [brk]
    subst hbr
    by_cases h45 : x = 4 ∨ x = 5
    · have hla : last = true := by
        rcases h45 with rfl | rfl <;> cases last <;> simp_all [brk, isQ]
      subst hla
      clear hbk HTT
      rcases h45 with rfl | rfl
      all_goals
        go_enter Tryz.func48, Tryz.ntmps48
        go_wp2_with (go_at_call 69; refine HC.out.mono ?_; rintro e w1 ⟨rfl, bv1, m1⟩; have M1 := hid m1; clear m1)
        exact bodyPost_ret (v := .tuple #[]) (by simp [results, Tryz.results48]) rfl ⟨rfl, _, M1.out⟩
    · have b4 : (x == 4) = false := by rw [beq_eq_false_iff_ne]; omega
      have b5 : (x == 5) = false := by rw [beq_eq_false_iff_ne]; omega
      clear hbk HTT h45
      cases last
      all_goals
        go_enter Tryz.func48, Tryz.ntmps48
        go_wp2_with (go_at_call 69; refine HC.out.mono ?_; rintro e w1 ⟨rfl, bv1, m1⟩; have M1 := hid m1; clear m1)
        exact bodyPost_ret (v := .tuple #[]) (by simp [results, Tryz.results48]) rfl ⟨rfl, _, M1.out⟩
  | true =>
    rw [hbk] at HTT
    have hT : T.length + D.length + 2 ≤ 1073741824 := by simp [hbk] at hT0; omega
    have hd : deep + need + 1 ≤ 1048576 := by simp [hbk, wrapN] at hd0; omega
    clear hT0 hd0
    simp only [wrapN, if_true]
    simp only [Bool.true_or] at HTT
    have fin : ∀ (W4 : World) (bv4 : Value), Pg wk w0 W4 B b (.slice (some ⟨gf, of, none⟩) f.length ca) gv bv4 (T ++ [40] ++ D ++ [41]) (deep + 1) (max (max most (deep + 1)) (deep + 1 + need)) → Pg wk w0 (W4.setCell ⟨b, 3, none⟩ (.int .i64 (deep : Int))) B b (.slice (some ⟨gf, of, none⟩) f.length ca) gv bv4 (T ++ (40 :: D ++ [41])) deep (max most (deep + (need + 1))) := fun W4 bv4 hp => by
      have := hp.setDeep deep
      rw [show T ++ (40 :: D ++ [41]) = T ++ [40] ++ D ++ [41] by simp, show max most (deep + (need + 1)) = max (max most (deep + 1)) (deep + 1 + need) by omega]
      exact this
    have HFIN := hid fin
    clear fin
    have hcase : br = true ∨ (br = false ∧ last = false ∧ (x = 4 ∨ x = 5)) := by
      cases br with
      | true => exact .inl rfl
      | false => right; cases last <;> simp_all [brk, isQ]
    rcases hcase with rfl | ⟨rfl, rfl, h45⟩
    · clear hbk
      by_cases h4 : x = 4
      · subst h4
        cases last
        all_goals
          go_enter Tryz.func48, Tryz.ntmps48
          go_wp2_with (first
            | (have q := M3; clear q; go_at_call 71; refine (put_any M3.out [41] (by simp; omega)).mono ?_; rintro e w4 ⟨rfl, bv4, m4⟩; have c4 := fun j => cell_row m4.row j; have f4 := fun j => unfrozen_row m4.row j; have hb4 := m4.size; have M4 := hid m4; clear m4)
            | (have q := M2; clear q; go_at_call 69; refine (HTT.out _ _ _ _ _ _ M2.out (by omega) (by simp; omega) (by omega)).mono ?_; rintro e w3 ⟨rfl, bv3, m3⟩; have M3 := hid m3; clear m3)
            | (have q := M1; clear q; go_at_call 71; refine (put_any M1.out [40] (by simp; omega)).mono ?_; rintro e w2 ⟨rfl, bv2, m2⟩; have M2 := hid m2; clear m2)
            | (go_at_call 70; refine (popens_any H.out (by omega)).mono ?_; rintro e w1 ⟨rfl, m1⟩; have M1 := hid m1; clear m1))
          go_end0
          exact ⟨rfl, _, HFIN.out _ _ M4.out⟩
      · have b4 : (x == 4) = false := by rw [beq_eq_false_iff_ne]; exact h4
        by_cases h5 : x = 5
        · subst h5
          cases last
          all_goals
            go_enter Tryz.func48, Tryz.ntmps48
            go_wp2_with (first
              | (have q := M3; clear q; go_at_call 71; refine (put_any M3.out [41] (by simp; omega)).mono ?_; rintro e w4 ⟨rfl, bv4, m4⟩; have c4 := fun j => cell_row m4.row j; have f4 := fun j => unfrozen_row m4.row j; have hb4 := m4.size; have M4 := hid m4; clear m4)
              | (have q := M2; clear q; go_at_call 69; refine (HTT.out _ _ _ _ _ _ M2.out (by omega) (by simp; omega) (by omega)).mono ?_; rintro e w3 ⟨rfl, bv3, m3⟩; have M3 := hid m3; clear m3)
              | (have q := M1; clear q; go_at_call 71; refine (put_any M1.out [40] (by simp; omega)).mono ?_; rintro e w2 ⟨rfl, bv2, m2⟩; have M2 := hid m2; clear m2)
              | (go_at_call 70; refine (popens_any H.out (by omega)).mono ?_; rintro e w1 ⟨rfl, m1⟩; have M1 := hid m1; clear m1))
            go_end0
            exact ⟨rfl, _, HFIN.out _ _ M4.out⟩
        · have b5 : (x == 5) = false := by rw [beq_eq_false_iff_ne]; exact h5
          clear h4 h5
          cases last
          all_goals
            go_enter Tryz.func48, Tryz.ntmps48
            go_wp2_with (first
              | (have q := M3; clear q; go_at_call 71; refine (put_any M3.out [41] (by simp; omega)).mono ?_; rintro e w4 ⟨rfl, bv4, m4⟩; have c4 := fun j => cell_row m4.row j; have f4 := fun j => unfrozen_row m4.row j; have hb4 := m4.size; have M4 := hid m4; clear m4)
              | (have q := M2; clear q; go_at_call 69; refine (HTT.out _ _ _ _ _ _ M2.out (by omega) (by simp; omega) (by omega)).mono ?_; rintro e w3 ⟨rfl, bv3, m3⟩; have M3 := hid m3; clear m3)
              | (have q := M1; clear q; go_at_call 71; refine (put_any M1.out [40] (by simp; omega)).mono ?_; rintro e w2 ⟨rfl, bv2, m2⟩; have M2 := hid m2; clear m2)
              | (go_at_call 70; refine (popens_any H.out (by omega)).mono ?_; rintro e w1 ⟨rfl, m1⟩; have M1 := hid m1; clear m1))
            go_end0
            exact ⟨rfl, _, HFIN.out _ _ M4.out⟩
    · clear hbk
      rcases h45 with rfl | rfl
      all_goals
        go_enter Tryz.func48, Tryz.ntmps48
        go_wp2_with (first
          | (have q := M3; clear q; go_at_call 71; refine (put_any M3.out [41] (by simp; omega)).mono ?_; rintro e w4 ⟨rfl, bv4, m4⟩; have c4 := fun j => cell_row m4.row j; have f4 := fun j => unfrozen_row m4.row j; have hb4 := m4.size; have M4 := hid m4; clear m4)
          | (have q := M2; clear q; go_at_call 69; refine (HTT.out _ _ _ _ _ _ M2.out (by omega) (by simp; omega) (by omega)).mono ?_; rintro e w3 ⟨rfl, bv3, m3⟩; have M3 := hid m3; clear m3)
          | (have q := M1; clear q; go_at_call 71; refine (put_any M1.out [40] (by simp; omega)).mono ?_; rintro e w2 ⟨rfl, bv2, m2⟩; have M2 := hid m2; clear m2)
          | (go_at_call 70; refine (popens_any H.out (by omega)).mono ?_; rintro e w1 ⟨rfl, m1⟩; have M1 := hid m1; clear m1))
        go_end0
        exact ⟨rfl, _, HFIN.out _ _ M4.out⟩
end Go.Proofs.YtdkboifpdodonabGreatDoor.Doc
/-
  Where a subtree lies in a list, with its starts: plain mathematics.
-/
namespace Go.Proofs.YtdkboifpdodonabGreatDoor.Doc
open PureCnf PureForm
set_option maxRecDepth 100000

structure Sub (f : List Nd) (fr : List Nat) (s : Nat) (t : Tr) : Prop where
  nodes : ∀ k, k < t.post.length → f[s + k]? = t.post[k]?
  starts : ∀ k, k < t.post.length → fr[s + k]? = (fromT t s)[k]?

theorem post_root (t : Tr) : t.post[t.post.length - 1]? = some t.root := by
  have key : ∀ (l : List Nd) (x : Nd) (n : Nat), n = l.length + 1 → (l ++ [x])[n - 1]? = some x := by
    intro l x n h; subst h; simp
  cases t using Tr.cas with
  | lf x => rfl
  | un x a => rw [Tr.post_un]; exact key a.post x _ (by rw [List.length_append]; rfl)
  | bi x a b => rw [Tr.post_bi]; exact key (a.post ++ b.post) x _ (by rw [List.length_append]; rfl)
  | te x a b c => rw [Tr.post_te]; exact key (a.post ++ b.post ++ c.post) x _ (by rw [List.length_append]; rfl)

section
variable {f : List Nd} {fr : List Nat} {s : Nat}
theorem Sub.root {t : Tr} (h : Sub f fr s t) : f[s + t.post.length - 1]? = some t.root := by
  have hp := post_pos t
  rw [show s + t.post.length - 1 = s + (t.post.length - 1) by omega, h.nodes _ (by omega)]
  exact post_root t
theorem Sub.start {t : Tr} (h : Sub f fr s t) : fr[s + t.post.length - 1]? = some s := by
  have hp := post_pos t
  rw [show s + t.post.length - 1 = s + (t.post.length - 1) by omega, h.starts _ (by omega)]
  exact fromT_last t s
theorem Sub.part {t a : Tr} {m : Nat} {p q : List Nd} {g g' : List Nat} (h : Sub f fr s t) (hp : t.post = p ++ a.post ++ q) (hf : fromT t s = g ++ fromT a (s + m) ++ g') (hm : p.length = m) (hg : g.length = m) : Sub f fr (s + m) a := by
  have hl : t.post.length = m + a.post.length + q.length := by rw [hp]; simp [hm]; omega
  refine ⟨fun k hk => ?_, fun k hk => ?_⟩
  · rw [show s + m + k = s + (m + k) by omega, h.nodes (m + k) (by omega), hp, List.append_assoc, List.getElem?_append_right (by omega), hm, List.getElem?_append_left (by omega)]
    congr 1
    omega
  · rw [show s + m + k = s + (m + k) by omega, h.starts (m + k) (by omega), hf, List.append_assoc, List.getElem?_append_right (by omega), hg, List.getElem?_append_left (by rw [fromT_len]; omega)]
    congr 1
    omega
theorem Sub.un {x : Nd} {a : Tr} (h : Sub f fr s (.un x a)) : Sub f fr s a :=
  h.part (m := 0) (p := []) (q := [x]) (g := []) (g' := [s]) (by simp [Tr.post_lf, Tr.post_un, Tr.post_bi, Tr.post_te]) (by simp [fromT_lf, fromT_un, fromT_bi, fromT_te]) rfl rfl
theorem Sub.bi1 {x : Nd} {a b : Tr} (h : Sub f fr s (.bi x a b)) : Sub f fr s a :=
  h.part (m := 0) (p := []) (q := b.post ++ [x]) (g := []) (g' := fromT b (s + a.post.length) ++ [s]) (by simp [Tr.post_lf, Tr.post_un, Tr.post_bi, Tr.post_te]) (by simp [fromT_lf, fromT_un, fromT_bi, fromT_te]) rfl rfl
theorem Sub.bi2 {x : Nd} {a b : Tr} (h : Sub f fr s (.bi x a b)) : Sub f fr (s + a.post.length) b :=
  h.part (p := a.post) (q := [x]) (g := fromT a s) (g' := [s]) (by simp [Tr.post_lf, Tr.post_un, Tr.post_bi, Tr.post_te]) (by simp [fromT_lf, fromT_un, fromT_bi, fromT_te]) rfl (fromT_len a s)
theorem Sub.te1 {x : Nd} {a b c : Tr} (h : Sub f fr s (.te x a b c)) : Sub f fr s a :=
  h.part (m := 0) (p := []) (q := b.post ++ c.post ++ [x]) (g := []) (g' := fromT b (s + a.post.length) ++ fromT c (s + a.post.length + b.post.length) ++ [s]) (by simp [Tr.post_lf, Tr.post_un, Tr.post_bi, Tr.post_te]) (by simp [fromT_lf, fromT_un, fromT_bi, fromT_te]) rfl rfl
theorem Sub.te2 {x : Nd} {a b c : Tr} (h : Sub f fr s (.te x a b c)) : Sub f fr (s + a.post.length) b :=
  h.part (p := a.post) (q := c.post ++ [x]) (g := fromT a s) (g' := fromT c (s + a.post.length + b.post.length) ++ [s]) (by simp [Tr.post_lf, Tr.post_un, Tr.post_bi, Tr.post_te]) (by simp [fromT_lf, fromT_un, fromT_bi, fromT_te]) rfl (fromT_len a s)
theorem Sub.te3 {x : Nd} {a b c : Tr} (h : Sub f fr s (.te x a b c)) : Sub f fr (s + a.post.length + b.post.length) c := by
  have := h.part (a := c) (m := a.post.length + b.post.length) (p := a.post ++ b.post) (q := [x]) (g := fromT a s ++ fromT b (s + a.post.length)) (g' := [s]) (by simp [Tr.post_lf, Tr.post_un, Tr.post_bi, Tr.post_te]) (by simp [fromT_lf, fromT_un, fromT_bi, fromT_te, Nat.add_assoc]) (by simp) (by simp [fromT_len])
  rwa [← Nat.add_assoc] at this
theorem Sub.whole {t : Tr} (h : treeOf f = some t) : Sub f (fromT t 0) 0 t := by
  obtain ⟨_, hp⟩ := treeOf_some h
  subst hp
  exact ⟨fun k _ => by rw [Nat.zero_add], fun k _ => by rw [Nat.zero_add]⟩
theorem Sub.len {t : Tr} (h : Sub f fr s t) : s + t.post.length ≤ f.length := by
  have := (List.getElem?_eq_some_iff.1 h.root).1
  have := post_pos t
  omega
end
theorem text_wrap (b : Bool) (l : List PureForm.Item) : textOf (wrapI b l) = if b = true then 40 :: textOf l ++ [41] else textOf l := by
  unfold wrapI
  split
  · simp [textOf, openI, closeI]
  · rfl
end Go.Proofs.YtdkboifpdodonabGreatDoor.Doc
/-
  The document's own tree, case by case.
-/
namespace Go.Proofs.YtdkboifpdodonabGreatDoor.Doc
open Go.RowKit Go.Deep PureCnf PureForm
set_option maxRecDepth 100000

theorem Pg.on {wk w0 W W' : World} {B b : Nat} {fv gv bv : Value} {T : List UInt8} {deep most : Nat} (h : Pg wk w0 W B b fv gv bv T deep most) (hb : Below W.heap.size W W') : Pg wk w0 W' B b fv gv bv T deep most := by
  have hs := h.size
  have hB := h.hB
  refine ⟨(hb.block _ hs).trans h.row, ⟨h.own.1, ?_⟩, hB, h.below.trans (hb.mono (by omega)), fun k cs t fz e ht hk => ?_⟩
  rotate_left
  · have e2 := h.kept k cs t fz e ht hk
    exact (hb.block _ (Array.getElem?_eq_some_iff.1 e2).1).trans e2
  rcases h.own.2 with hn | ⟨g, cap, cur, fz, hv, hB, hg, rest⟩
  · exact .inl hn
  · exact .inr ⟨g, cap, cur, fz, hv, hB, (hb.block _ (Array.getElem?_eq_some_iff.1 hg).1).trans hg, rest⟩

/-- the list and its starts lie below the page. -/
structure Ctx (w0 : World) (B : Nat) (f : List Nd) (fr : List Nat) (sa : Option Addr) (gb : Nat) : Prop where
  hw : w0.heap.size = B
  hf : NodesAt w0 sa f
  hg : w0.heap[gb]? = some (.cells (cn fr).toArray 3 (0, 0))
  len : fr.length = f.length
  few : f.length ≤ 65536

/-- what printing an operand at i does. -/
def Opr (i : Nat) (w0 : World) (B b : Nat) (fv gv : Value) (br last : Bool) (D : List UInt8) (need : Nat) : Prop :=
  ∀ (wk W : World) (bv : Value) (T : List UInt8) (deep most : Nat), Pg wk w0 W B b fv gv bv T deep most → deep ≤ most → T.length + D.length ≤ 1073741824 → deep + need ≤ 1048576 →
    Calls Tryz.prog 48 #[.pointer (some ⟨b, 0, none⟩), .int .i64 (i : Int), .bool br, .bool last] W fun e W' => e = .returned (.tuple #[]) ∧ ∃ bv', Pg wk w0 W' B b fv gv bv' (T ++ D) deep (max most (deep + need))

section
variable {w0 : World} {B b : Nat} {f : List Nd} {fr : List Nat} {sa : Option Addr} {ca gb : Nat}
theorem opr_of (c : Ctx w0 B f fr sa gb) {s : Nat} {a : Tr} (h : Sub f fr s a) {gv : Value} (br last : Bool)
    (HT : Prints 69 (s + a.post.length - 1) w0 B b (.slice sa f.length ca) gv (brk br last a.root.1 || last) (textOf (a.its 0 (brk br last a.root.1 || last))) (a.need (brk br last a.root.1 || last))) :
    Opr (s + a.post.length - 1) w0 B b (.slice sa f.length ca) gv br last (textOf (wrapI (brk br last a.root.1) (a.its 0 (brk br last a.root.1 || last)))) (wrapN (brk br last a.root.1) (a.need (brk br last a.root.1 || last))) := by
  intro wk W bv T deep most hp hdm hT hd
  obtain ⟨hi, hr⟩ := List.getElem?_eq_some_iff.1 h.root
  have hr1 : f[s + a.post.length - 1].1 = a.root.1 := by rw [hr]
  rw [text_wrap] at hT ⊢
  have := operand_any (ca := ca) br last hi c.hw c.hf (by rw [hr1]; exact HT) hp hdm (by rw [hr1]; exact hT) (by rw [hr1]; exact hd)
  rw [hr1] at this
  exact this

/-- the node at i, in a world that only grew beyond the list. -/
theorem Ctx.node (c : Ctx w0 B f fr sa gb) {W : World} (hb : Below B w0 W) {i : Nat} {x : Nd} (hi : f[i]? = some x) : ∃ gf of, sa = some ⟨gf, of, none⟩ ∧ gf < B ∧ W.cell? ⟨gf, of + i * 2, none⟩ = some (.int .i64 x.1) ∧ W.cell? ⟨gf, of + i * 2 + 1, none⟩ = some (.int .i64 x.2) := by
  obtain ⟨hl, rfl⟩ := List.getElem?_eq_some_iff.1 hi
  obtain ⟨gf, of, e, hg, a0, a1⟩ := c.hf.at_ i hl
  exact ⟨gf, of, e, by rw [← c.hw]; exact hg, below_cell hb (by rw [← c.hw]; exact hg) a0, below_cell hb (by rw [← c.hw]; exact hg) a1⟩
theorem Ctx.start (c : Ctx w0 B f fr sa gb) {W : World} (hb : Below B w0 W) {i s : Nat} (hi : fr[i]? = some s) : W.cell? ⟨gb, i, none⟩ = some (.int .i64 (s : Int)) := by
  have hs := (Array.getElem?_eq_some_iff.1 c.hg).1
  have hr : W.heap[gb]? = some (.cells (cn fr).toArray 3 (0, 0)) := (hb.block gb (by rw [← c.hw]; exact hs)).trans c.hg
  rw [cell_row hr]
  simp only [cn, List.getElem?_toArray, List.getElem?_map, hi]
  rfl

theorem Pg.re {wk w0 W : World} {B b : Nat} {fv gv bv : Value} {T : List UInt8} {deep most : Nat} (h : Pg wk w0 W B b fv gv bv T deep most) : Pg W w0 W B b fv gv bv T deep most := ⟨h.row, h.own, h.hB, h.below, Kept.refl _ _⟩
theorem Pg.back {wk w0 W W' : World} {B b : Nat} {fv gv bv bv' : Value} {T T' : List UInt8} {deep most deep' most' : Nat} (h : Pg wk w0 W B b fv gv bv T deep most) (h2 : Pg W w0 W' B b fv gv bv' T' deep' most') : Pg wk w0 W' B b fv gv bv' T' deep' most' := ⟨h2.row, h2.own, h2.hB, h2.below, h.kept.trans h2.kept⟩
theorem put_cat {wk w0 W : World} {B b : Nat} {fv gv bv : Value} {T : List UInt8} {deep most : Nat} (h : Pg wk w0 W B b fv gv bv T deep most) (a D : List UInt8) (hl : T.length + (a ++ D).length ≤ 140737488355328) :
    Calls Tryz.prog 71 #[.pointer (some ⟨b, 0, none⟩), .string ((⟨a.toArray⟩ : ByteArray) ++ ⟨D.toArray⟩)] W fun e W' => e = .returned (.tuple #[]) ∧ ∃ bv', Pg wk w0 W' B b fv gv bv' (T ++ (a ++ D)) deep most := by
  rw [str_add]
  exact put_any h (a ++ D) hl
theorem Pg.to {wk w0 W : World} {fv gv bv : Value} {T T' : List UInt8} {deep m m' : Nat} (h : Pg wk w0 W B b fv gv bv T deep m) (e1 : T' = T) (e : m' = m) : Pg wk w0 W B b fv gv bv T' deep m' := by rw [e, e1]; exact h
theorem Pg.most {wk w0 W : World} {fv gv bv : Value} {T : List UInt8} {deep m m' : Nat} (h : Pg wk w0 W B b fv gv bv T deep m) (e : m' = m) : Pg wk w0 W B b fv gv bv T deep m' := by rw [e]; exact h

set_option maxHeartbeats 1000000 in
set_option maxRecDepth 100000 in
theorem tree_const (c : Ctx w0 B f fr sa gb) {gv : Value} {i : Nat} {v : Int} (hi : f[i]? = some (1, v)) (hv : v = 0 ∨ v = 1) (last : Bool) : Prints 69 i w0 B b (.slice sa f.length ca) gv last (constI v).1 0 := by
  intro wk W bv T deep most h hdm hT hd
  obtain ⟨gf, of, rfl, hgf, p0, p1⟩ := c.node h.below hi
  have hlt := (List.getElem?_eq_some_iff.1 hi).1
  have hfew := c.few
  have c0 := fun j => cell_row h.row j
  have hb := h.size
  have H := hid (fun o => h.on ((Below.refl _ _).alloc (Nat.le_refl _) o))
  have HM : Hid (max most (deep + 0) = most) := by show _ = _; omega
  have HT := hid hT
  clear h hi c hd hdm hT
  rcases hv with rfl | rfl
  · go_enter Tryz.func69, Tryz.ntmps69
    go_wp2_with (go_at_call 71; refine (put_any (H.out _) (constI 0).1 (by have := HT.out; omega)).mono ?_; rintro e w1 ⟨rfl, bv1, m1⟩; have M1 := hid m1; clear m1)
    go_end0
    exact ⟨rfl, _, M1.out.most HM.out⟩
  · go_enter Tryz.func69, Tryz.ntmps69
    go_wp2_with (go_at_call 71; refine (put_any (H.out _) (constI 1).1 (by have := HT.out; omega)).mono ?_; rintro e w1 ⟨rfl, bv1, m1⟩; have M1 := hid m1; clear m1)
    go_end0
    exact ⟨rfl, _, M1.out.most HM.out⟩

set_option maxHeartbeats 1000000 in
set_option maxRecDepth 100000 in
theorem tree_var (c : Ctx w0 B f fr sa gb) {gv : Value} {i v : Nat} (hi : f[i]? = some (2, (v : Int))) (hv : v < 65536) (last : Bool) : Prints 69 i w0 B b (.slice sa f.length ca) gv last (varI (v : Int)).1 0 := by
  intro wk W bv T deep most h hdm hT hd
  obtain ⟨gf, of, rfl, hgf, p0, p1⟩ := c.node h.below hi
  have hlt := (List.getElem?_eq_some_iff.1 hi).1
  have hfew := c.few
  have c0 := fun j => cell_row h.row j
  have hb := h.size
  have H := hid (fun o => h.on ((Below.refl _ _).alloc (Nat.le_refl _) o))
  have HM : Hid (max most (deep + 0) = most) := by show _ = _; omega
  have HT := hid hT
  have HD := hid (fun W => decimal_any v W (by omega))
  have hl := dec_len_le v (by omega)
  clear h hi c hd hdm hT
  go_enter Tryz.func69, Tryz.ntmps69
  go_wp2_with (first
    | (have q := M1; clear q; go_at_call 71; refine (put_cat M1.out [120] (Lib.decDigits v) (by have := HT.out; simp [varI] at this ⊢; omega)).mono ?_; rintro e w2 ⟨rfl, bv2, m2⟩; have M2 := hid m2; clear m2)
    | (go_at_call 82; refine (HD.out _).mono ?_; rintro e w1 ⟨rfl, b1⟩; have M1 := hid ((H.out _).on b1); clear b1))
  go_end0
  exact ⟨rfl, _, M2.out.most HM.out⟩

set_option maxHeartbeats 1000000 in
set_option maxRecDepth 100000 in
theorem tree_not (c : Ctx w0 B f fr sa gb) {gv : Value} {i : Nat} {r : Int} {D : List UInt8} {need : Nat} (hi : f[i + 1]? = some (3, 0)) (hr : ∃ v, f[i]? = some (r, v)) (last : Bool)
    (HO : Opr i w0 B b (.slice sa f.length ca) gv (two r) last D need) : Prints 69 (i + 1) w0 B b (.slice sa f.length ca) gv last (33 :: D) (need + 1) := by
  intro wk W bv T deep most h hdm hT hd
  obtain ⟨v, hr⟩ := hr
  obtain ⟨gf, of, rfl, hgf, p0, p1⟩ := c.node h.below hi
  have hlt := (List.getElem?_eq_some_iff.1 hi).1
  have hfew := c.few
  have c0 := fun j => cell_row h.row j
  have hb := h.size
  have HON := hid (fun o => h.on ((Below.refl _ _).alloc (Nat.le_refl _) o))
  have HQ : Hid (∀ (W : World), Below B w0 W → W.cell? ⟨gf, of + i * 2, none⟩ = some (.int .i64 r)) := fun W hW => by
    obtain ⟨g2, o2, e, _, q0, q1⟩ := c.node hW hr
    simp only [Option.some.injEq, Addr.mk.injEq, and_true] at e
    obtain ⟨rfl, rfl⟩ := e
    exact q0
  have HT := hid hT
  have HW := hid (fun W => two_any r W)
  have HO := hid HO
  have e1 : ((i + 1 : Nat) : Int) - 1 = (i : Int) := by omega
  clear h hi c hr hT
  go_enter Tryz.func69, Tryz.ntmps69
  go_wp2_with (first
    | (have q := M2; clear q; go_at_call 48; refine (HO.out _ _ _ _ _ _ M2.out (by omega) (by have := HT.out; simp at this ⊢; omega) (by omega)).mono ?_; rintro e w3 ⟨rfl, bv3, m3⟩; have c3 := fun j => cell_row m3.row j; have f3 := fun j => unfrozen_row m3.row j; have hb3 := m3.size; have M3 := hid m3; clear m3)
    | (have q := M2; clear q; go_at_call 83; refine (HW.out _).mono ?_; rintro e w9 ⟨rfl, hw9⟩; rw [hw9]; clear hw9 w9)
    | (have q := M1; clear q; go_at_call 71; refine (put_any M1.out [33] (by have := HT.out; simp at this ⊢; omega)).mono ?_; rintro e w2 ⟨rfl, bv2, m2⟩; have c2 := fun j => cell_row m2.row j; have hb2 := m2.size; have q2 := HQ.out w2 m2.below; have M2 := hid m2; clear m2)
    | (go_at_call 70; refine (popens_any (HON.out _) (by omega)).mono ?_; rintro e w1 ⟨rfl, m1⟩; have M1 := hid m1; clear m1))
  go_end0
  refine ⟨rfl, bv3, ?_⟩
  have := M3.out.setDeep deep
  rw [show T ++ (33 :: D) = T ++ [33] ++ D by simp, show max most (deep + (need + 1)) = max (max most (deep + 1)) (deep + 1 + need) by omega]
  exact this

set_option maxHeartbeats 1000000 in
set_option maxRecDepth 100000 in
theorem tree_bi (c : Ctx w0 B f fr sa gb) {m k : Nat} {op ra rb : Int} {Da Db : List UInt8} {na nb : Nat} (hi : f[m + 1]? = some (op, 0)) (ho : two op = true) (hm : ∃ v, f[m]? = some (rb, v)) (hk : ∃ v, f[k]? = some (ra, v)) (hs : fr[m]? = some (k + 1)) (last : Bool)
    (HA : Opr k w0 B b (.slice sa f.length ca) (.slice (some ⟨gb, 0, none⟩) f.length f.length) (firstB op ra) false Da na)
    (HB : Opr m w0 B b (.slice sa f.length ca) (.slice (some ⟨gb, 0, none⟩) f.length f.length) (secondB op rb) last Db nb) :
    Prints 69 (m + 1) w0 B b (.slice sa f.length ca) (.slice (some ⟨gb, 0, none⟩) f.length f.length) last (Da ++ ((signI op).1 ++ Db)) (max na nb) := by
  intro wk W bv T deep most h hdm hT hd
  obtain ⟨vb, hm⟩ := hm
  obtain ⟨va, hk⟩ := hk
  obtain ⟨gf, of, rfl, hgf, p0, p1⟩ := c.node h.below hi
  have hlt := (List.getElem?_eq_some_iff.1 hi).1
  have hkl := (List.getElem?_eq_some_iff.1 hk).1
  have hm0 : (0 : Int) ≤ (m : Int) := by omega
  have hml : (m : Int) < (f.length : Int) := by omega
  have hfew := c.few
  have hwr : IntKind.i64.wrap ((m : Int) + 1 - 1) = (m : Int) := ((IntWalk.i64_left _).trans <| IntWalk.wrap64_in _ ⟨by omega, by omega⟩).trans (by omega)
  have hwr2 : IntKind.i64.wrap (m : Int) = (m : Int) := ((IntWalk.i64_left _).trans <| IntWalk.wrap64_in _ ⟨by omega, by omega⟩)
  have c0 := fun j => cell_row h.row j
  have hb := h.size
  have hgf : gf < W.heap.size := by have := h.hB; omega
  have hgb : gb < W.heap.size := by have := (Array.getElem?_eq_some_iff.1 c.hg).1; rw [c.hw] at this; have := h.hB; omega
  have H := hid h
  have HON := hid (fun o => (h.on ((Below.refl _ _).alloc (Nat.le_refl _) o)).re)
  have HCA : Hid (∀ (W : World), Below B w0 W → W.cell? ⟨gf, of + k * 2, none⟩ = some (.int .i64 ra)) := fun W hW => by
    obtain ⟨g2, o2, e, _, q0, q1⟩ := c.node hW hk
    simp only [Option.some.injEq, Addr.mk.injEq, and_true] at e
    obtain ⟨rfl, rfl⟩ := e
    exact q0
  have HCB : Hid (∀ (W : World), Below B w0 W → W.cell? ⟨gf, of + m * 2, none⟩ = some (.int .i64 rb)) := fun W hW => by
    obtain ⟨g2, o2, e, _, q0, q1⟩ := c.node hW hm
    simp only [Option.some.injEq, Addr.mk.injEq, and_true] at e
    obtain ⟨rfl, rfl⟩ := e
    exact q0
  have qa := HCA.out W h.below
  have h0 := h.on ((Below.refl _ _).alloc (Nat.le_refl _) (Obj.cells #[.int .i64 op, .int .i64 0] 49))
  have qs := c.start h.below hs
  have HX : Hid (∀ {W4 : World} {bv4 : Value} {T4 : List UInt8} {d4 m4 : Nat}, Pg (W.alloc (Obj.cells #[.int .i64 op, .int .i64 0] 49)) w0 W4 B b (.slice (some ⟨gf, of, none⟩) f.length ca) (.slice (some ⟨gb, 0, none⟩) f.length f.length) bv4 T4 d4 m4 → W4.heap[W.heap.size]? = some (Obj.cells #[.int .i64 op, .int .i64 0] 49)) := fun {W4 bv4 T4 d4 m4} h4 => h4.kept _ _ _ _ (heap_alloc_new W _) (by decide) (by omega)
  have HT := hid hT
  have HTW : Hid (∀ W, Calls Tryz.prog 83 #[.int .i64 op] W fun e w' => e = .returned (.bool true) ∧ w' = W) := fun W => by have := two_any op W; rwa [ho] at this
  have HF := hid (fun W => first_any op ra ho W)
  have HSE := hid (fun W => second_any op rb ho W)
  have HSG := hid (fun W => sign_any op ho W)
  have HAA := hid HA
  have HBB := hid HB
  have b1 : (op == 1) = false := by rcases two_cases ho with rfl | rfl | rfl | rfl | rfl <;> rfl
  have b2 : (op == 2) = false := by rcases two_cases ho with rfl | rfl | rfl | rfl | rfl <;> rfl
  have b3 : (op == 3) = false := by rcases two_cases ho with rfl | rfl | rfl | rfl | rfl <;> rfl
  clear h hi c hm hk hs hT HA HB ho
  go_enter Tryz.func69, Tryz.ntmps69
  have M1 := hid (HON.out (Obj.cells #[.int .i64 op, .int .i64 0] 49))
  go_wp2_with (go_at_call 83; refine (HTW.out _).mono ?_; rintro e w9 ⟨rfl, hw9⟩; rw [hw9]; clear hw9 w9)
  have x1 := fun j => cell_row (HX.out M1.out) j
  have HB0 := hid (h0 : Pg wk w0 (W.alloc (Obj.cells #[.int .i64 op, .int .i64 0] 49)) B b (.slice (some ⟨gf, of, none⟩) f.length ca) (.slice (some ⟨gb, 0, none⟩) f.length f.length) bv T deep most)
  clear h0 c0 p0 p1 qa qs hb hgf hgb HON
  generalize W.alloc (Obj.cells #[.int .i64 op, .int .i64 0] 49) = W1 at *
  generalize W.heap.size = xb at *
  have c1 := fun j => cell_row M1.out.row j
  have q1 := HCA.out W1 M1.out.below
  go_region_held3 (fun W' => W'.cell? ⟨xb, 0, none⟩ = some (.int .i64 op) ∧ W'.cell? ⟨b, 0, none⟩ = some (.slice (some ⟨gf, of, none⟩) f.length ca) ∧ W'.cell? ⟨gf, of + k * 2, none⟩ = some (.int .i64 ra)) (go_keep)
    (first
      | (go_at_call 48; refine Calls.mono (HAA.out _ _ _ _ _ _ (M1.out.drewN 1) hdm (by have := HT.out; simp at this ⊢; omega) (by omega)) ?_; rintro e w2 ⟨rfl, bv2, m2⟩; have x2 := fun j => cell_row (HX.out m2) j; have c2 := fun j => cell_row m2.row j; have q2 := HCB.out w2 m2.below; have q2a := HCA.out w2 m2.below; have M2 := hid m2; clear m2 x1 c1 q1)
      | (go_at_call 84; refine (HF.out _).mono ?_; rintro e w9 ⟨rfl, hw9⟩; rw [hw9]; clear hw9 w9))
  go_wp2_with (first
    | (go_at_call 71; refine (put_any M2.out (signI op).1 (by have := HT.out; simp at this ⊢; omega)).mono ?_; rintro e w3 ⟨rfl, bv3, m3⟩; have x3 := fun j => cell_row (HX.out m3) j; have c3 := fun j => cell_row m3.row j; have q3 := HCB.out w3 m3.below; have M3 := hid m3; clear m3 x2 c2 q2)
    | (go_at_call 85; refine (HSG.out _).mono ?_; rintro e w9 ⟨rfl, hw9⟩; rw [hw9]; clear hw9 w9))
  go_region_held3 (fun W' => W'.cell? ⟨xb, 0, none⟩ = some (.int .i64 op) ∧ W'.cell? ⟨b, 0, none⟩ = some (.slice (some ⟨gf, of, none⟩) f.length ca) ∧ W'.cell? ⟨gf, of + m * 2, none⟩ = some (.int .i64 rb)) (go_keep)
    (first
      | (go_at_call 48; refine Calls.mono (HBB.out _ _ _ _ _ _ (M3.out.drewN 1) (by omega) (by have := HT.out; simp at this ⊢; omega) (by omega)) ?_; rintro e w4 ⟨rfl, bv4, m4⟩; have x4 := fun j => cell_row (HX.out m4) j; have c4 := fun j => cell_row m4.row j; have q4 := HCB.out w4 m4.below; have M4 := hid m4; clear m4 x3 c3 q3)
      | (go_at_call 86; refine (HSE.out _).mono ?_; rintro e w9 ⟨rfl, hw9⟩; rw [hw9]; clear hw9 w9))
  go_end0
  refine ⟨rfl, bv4, ?_⟩
  have := HB0.out.back M4.out
  rw [show T ++ (Da ++ ((signI op).1 ++ Db)) = T ++ Da ++ (signI op).1 ++ Db by simp, show max most (deep + max na nb) = max (max most (deep + na)) (deep + nb) by omega]
  exact this

set_option maxHeartbeats 1000000 in
set_option maxRecDepth 100000 in
theorem tree_te (c : Ctx w0 B f fr sa gb) {m k l : Nat} {Da Db Dc : List UInt8} {na nb nc : Nat} (hi : f[m + 1]? = some (11, 0)) (hm : m < f.length) (hk : k < f.length) (hl : l < f.length) (hs : fr[m]? = some (k + 1)) (ht : fr[k]? = some (l + 1)) (last : Bool)
    (HA : Opr l w0 B b (.slice sa f.length ca) (.slice (some ⟨gb, 0, none⟩) f.length f.length) false true Da na)
    (HB : Opr k w0 B b (.slice sa f.length ca) (.slice (some ⟨gb, 0, none⟩) f.length f.length) false true Db nb)
    (HC : Opr m w0 B b (.slice sa f.length ca) (.slice (some ⟨gb, 0, none⟩) f.length f.length) false true Dc nc) :
    Prints 69 (m + 1) w0 B b (.slice sa f.length ca) (.slice (some ⟨gb, 0, none⟩) f.length f.length) last ([105, 116, 101, 40] ++ (Da ++ ([44, 32] ++ (Db ++ ([44, 32] ++ (Dc ++ [41])))))) (max (max na nb) nc + 1) := by
  intro wk W bv T deep most h hdm hT hd
  obtain ⟨gf, of, rfl, hgf, p0, p1⟩ := c.node h.below hi
  have hlt := (List.getElem?_eq_some_iff.1 hi).1
  have hfew := c.few
  have c0 := fun j => cell_row h.row j
  have hb := h.size
  have hgf : gf < W.heap.size := by have := h.hB; omega
  have hgb : gb < W.heap.size := by have := (Array.getElem?_eq_some_iff.1 c.hg).1; rw [c.hw] at this; have := h.hB; omega
  have HON := hid (fun o => h.on ((Below.refl _ _).alloc (Nat.le_refl _) o))
  have qs := c.start h.below hs
  have qt := c.start h.below ht
  have HT := hid hT
  have HAA := hid HA
  have HBB := hid HB
  have HCC := hid HC
  have HTW : Hid (∀ W, Calls Tryz.prog 83 #[.int .i64 11] W fun e w' => e = .returned (.bool false) ∧ w' = W) := fun W => two_any 11 W
  clear h hi c hs ht hT HA HB HC
  go_enter Tryz.func69, Tryz.ntmps69
  go_wp2_with (first
    | (have q := M8; clear q; fail)
    | (have q := M7; clear q; go_at_call 71; refine (put_any M7.out [41] (by have := HT.out; simp at this ⊢; omega)).mono ?_; rintro e w8 ⟨rfl, bv8, m8⟩; have c8 := fun j => cell_row m8.row j; have f8 := fun j => unfrozen_row m8.row j; have hb8 := m8.size; have M8 := hid m8; clear m8)
    | (have q := M6; clear q; go_at_call 48; refine (HCC.out _ _ _ _ _ _ M6.out (by omega) (by have := HT.out; simp at this ⊢; omega) (by omega)).mono ?_; rintro e w7 ⟨rfl, bv7, m7⟩; have M7 := hid m7; clear m7)
    | (have q := M5; clear q; go_at_call 71; refine (put_any M5.out [44, 32] (by have := HT.out; simp at this ⊢; omega)).mono ?_; rintro e w6 ⟨rfl, bv6, m6⟩; have M6 := hid m6; clear m6)
    | (have q := M4; clear q; go_at_call 48; refine (HBB.out _ _ _ _ _ _ M4.out (by omega) (by have := HT.out; simp at this ⊢; omega) (by omega)).mono ?_; rintro e w5 ⟨rfl, bv5, m5⟩; have M5 := hid m5; clear m5)
    | (have q := M3; clear q; go_at_call 71; refine (put_any M3.out [44, 32] (by have := HT.out; simp at this ⊢; omega)).mono ?_; rintro e w4 ⟨rfl, bv4, m4⟩; have M4 := hid m4; clear m4)
    | (have q := M2; clear q; go_at_call 48; refine (HAA.out _ _ _ _ _ _ M2.out (by omega) (by have := HT.out; simp at this ⊢; omega) (by omega)).mono ?_; rintro e w3 ⟨rfl, bv3, m3⟩; have M3 := hid m3; clear m3)
    | (have q := M1; clear q; go_at_call 71; refine (put_any M1.out [105, 116, 101, 40] (by have := HT.out; simp at this ⊢; omega)).mono ?_; rintro e w2 ⟨rfl, bv2, m2⟩; have M2 := hid m2; clear m2)
    | (go_at_call 70; refine (popens_any (HON.out _) (by omega)).mono ?_; rintro e w1 ⟨rfl, m1⟩; have M1 := hid m1; clear m1)
    | (go_at_call 83; refine (HTW.out _).mono ?_; rintro e w9 ⟨rfl, hw9⟩; rw [hw9]; clear hw9 w9))
  go_end0
  exact ⟨rfl, bv8, (M8.out.setDeep deep).to (by simp) (by omega)⟩

set_option maxHeartbeats 1000000 in
set_option maxRecDepth 100000 in
theorem tree_qu (c : Ctx w0 B f fr sa gb) {gv : Value} {i : Nat} {q v : Int} {D : List UInt8} {need : Nat} (hi : f[i]? = some (q, v)) (hq : isQ q = true) (last : Bool)
    (HQ : ∀ (wk W : World) (bv : Value) (T : List UInt8) (deep most : Nat), Pg wk w0 W B b (.slice sa f.length ca) gv bv T deep most → deep ≤ most → T.length + D.length ≤ 1073741824 → deep + need ≤ 1048576 →
      Calls Tryz.prog 87 #[.pointer (some ⟨b, 0, none⟩), .int .i64 (i : Int)] W fun e W' => e = .returned (.tuple #[]) ∧ ∃ bv', Pg wk w0 W' B b (.slice sa f.length ca) gv bv' (T ++ D) deep (max most (deep + need))) :
    Prints 69 i w0 B b (.slice sa f.length ca) gv last D need := by
  intro wk W bv T deep most h hdm hT hd
  obtain ⟨gf, of, rfl, hgf, p0, p1⟩ := c.node h.below hi
  have hlt := (List.getElem?_eq_some_iff.1 hi).1
  have hfew := c.few
  have c0 := fun j => cell_row h.row j
  have hb := h.size
  have HON := hid (fun o => h.on ((Below.refl _ _).alloc (Nat.le_refl _) o))
  have HTW : Hid (∀ W, Calls Tryz.prog 83 #[.int .i64 q] W fun e w' => e = .returned (.bool false) ∧ w' = W) := fun W => by
    have := two_any q W
    rwa [show two q = false by cases h2 : two q with
      | false => rfl
      | true => rcases two_cases h2 with rfl | rfl | rfl | rfl | rfl <;> cases hq] at this
  have HQQ := hid HQ
  have hq' : q = 4 ∨ q = 5 := of_decide_eq_true hq
  clear h hi c HQ hq
  rcases hq' with rfl | rfl
  all_goals
    go_enter Tryz.func69, Tryz.ntmps69
    go_wp2_with (first
      | (go_at_call 87; refine (HQQ.out _ _ _ _ _ _ (HON.out _) hdm hT hd).mono ?_; rintro e w1 ⟨rfl, bv1, m1⟩; have M1 := hid m1; clear m1)
      | (go_at_call 83; refine (HTW.out _).mono ?_; rintro e w9 ⟨rfl, hw9⟩; rw [hw9]; clear hw9 w9))
    go_end0
    exact ⟨rfl, bv1, M1.out⟩
end
end Go.Proofs.YtdkboifpdodonabGreatDoor.Doc
/-
  The document's own quantifier.
-/
namespace Go.Proofs.YtdkboifpdodonabGreatDoor.Doc
open Go.RowKit Go.Deep PureCnf PureForm
set_option maxRecDepth 100000

section
variable {w0 : World} {B b : Nat} {f : List Nd} {fr : List Nat} {sa : Option Addr} {ca gb : Nat}

set_option maxHeartbeats 1000000 in
set_option maxRecDepth 100000 in
theorem quant_any (c : Ctx w0 B f fr sa gb) {gv : Value} {s : Nat} {q v : Int} {a : Tr} (ht : Sub f fr s (.un (q, v) a)) (hg : (Tr.un (q, v) a).good) (hq : isQ q = true)
    (IH : ∀ t' : Tr, t'.post.length ≤ a.post.length → t'.good → Sub f fr s t' → Prints 69 (s + t'.post.length - 1) w0 B b (.slice sa f.length ca) gv true (textOf (t'.its 0 true)) (t'.need true))
    (wk W : World) (bv : Value) (T : List UInt8) (deep most : Nat) (h : Pg wk w0 W B b (.slice sa f.length ca) gv bv T deep most) (hdm : deep ≤ most) (hT : T.length + (textOf ((Tr.un (q, v) a).its 0 true)).length ≤ 1073741824) (hd : deep + (a.need true + 1) ≤ 1048576) :
    Calls Tryz.prog 87 #[.pointer (some ⟨b, 0, none⟩), .int .i64 ((s + a.post.length : Nat) : Int)] W fun e W' => e = .returned (.tuple #[]) ∧ ∃ bv', Pg wk w0 W' B b (.slice sa f.length ca) gv bv' (T ++ textOf ((Tr.un (q, v) a).its 0 true)) deep (max most (deep + (a.need true + 1))) := by
  have hroot := ht.root
  rw [show s + (Tr.un (q, v) a).post.length - 1 = s + a.post.length by simp [Tr.post_lf, Tr.post_un, Tr.post_bi, Tr.post_te]] at hroot
  simp only [Tr.root_lf, Tr.root_un, Tr.root_bi, Tr.root_te] at hroot
  obtain ⟨gf, of, rfl, hgf, p0, p1⟩ := c.node h.below hroot
  have hlt := (List.getElem?_eq_some_iff.1 hroot).1
  have hfew := c.few
  have c0 := fun j => cell_row h.row j
  have hb := h.size
  have H := hid h
  have HT := hid hT
  have HIH := hid IH
  have HG := hid hg
  have HC := hid c
  have HSB := hid ht
  have HQ := hid hq
  have hq' : q = 4 ∨ q = 5 := of_decide_eq_true hq
  clear h c hroot hg ht hT IH hq
  obtain ⟨i, hi⟩ : ∃ i, i = s + a.post.length := ⟨_, rfl⟩
  rw [← hi] at p0 p1 hlt ⊢
  have HI := hid hi
  clear hi
  rcases hq' with rfl | rfl
  · have HD0 : Hid (textOf ((Tr.un (4, v) a).its 0 true) = [101, 120, 105, 115, 116, 115, 32] ++ textOf (varI v :: a.its 4 true)) := by show _ = _; rfl
    have hTl := HT.out
    rw [HD0.out] at hTl
    simp only [List.length_append, List.length_cons, List.length_nil] at hTl
    go_enter Tryz.func87, Tryz.ntmps87
    go_wp2_with (go_at_call 71; refine (put_any H.out [101, 120, 105, 115, 116, 115, 32] (by simp; omega)).mono ?_; rintro e w1 ⟨rfl, bv1, m1⟩; have M1 := hid m1; clear m1)
    clear p0 p1 c0 hb
    go_loopw [1, 5] (fun iv nv W' => ∃ (v' : Nat) (a' : Tr) (n mn : Nat) (bv' : Value) (P : List UInt8), iv = .int .i64 ((s + a'.post.length : Nat) : Int) ∧ nv = .int .i64 (n : Int) ∧ v' < 65536 ∧ n + a'.need true = a.need true ∧ deep + n ≤ mn ∧ a'.post.length ≤ a.post.length ∧ Hid (a'.good ∧ Sub f fr s (.un (4, (v' : Int)) a') ∧ Pg wk w0 W' B b (.slice (some ⟨gf, of, none⟩) f.length ca) gv bv' P (deep + n) mn ∧ P ++ textOf (varI (v' : Int) :: a'.its 4 true) = T ++ textOf ((Tr.un (4, v) a).its 0 true) ∧ max mn (deep + (a.need true + 1)) = max most (deep + (a.need true + 1)))) (fun iv _ _ => (intOf iv).toNat)
    case atStart =>
      obtain ⟨vn, rfl⟩ : ∃ vn : Nat, v = vn := ⟨v.toNat, by rcases HG.out.1 with h | h <;> simp at h <;> omega⟩
      exact ⟨vn, a, 0, most, bv1, _, by rw [HI.out], rfl, by rcases HG.out.1 with h | h <;> simp at h <;> omega, by omega, by omega, Nat.le_refl _, HG.out.2, HSB.out, M1.out, by rw [HD0.out]; simp, rfl⟩
    case round =>
      clear M1 H
      obtain ⟨v', a', n, mn, bv', P, rfl, rfl, hv, hn, hmn, hle, HR⟩ := hrel
      obtain ⟨r1, r2, r3, r4, r5⟩ := HR.out
      have hr2 : f[s + a'.post.length]? = some (4, (v' : Int)) := by
        have := r2.root
        rwa [show s + (Tr.un (4, (v' : Int)) a').post.length - 1 = s + a'.post.length by simp [Tr.post_lf, Tr.post_un, Tr.post_bi, Tr.post_te]] at this
      obtain ⟨gf', of', e1, _, k0, k1⟩ := HC.out.node r3.below hr2
      simp only [Option.some.injEq, Addr.mk.injEq, and_true] at e1
      obtain ⟨rfl, rfl⟩ := e1
      have hlt' := (List.getElem?_eq_some_iff.1 hr2).1
      have hpos := post_pos a'
      obtain ⟨j, hj⟩ : ∃ j, s + a'.post.length = j + 1 := ⟨s + a'.post.length - 1, by omega⟩
      have hr3 : f[j]? = some a'.root := by
        have := r2.un.root
        rwa [show s + a'.post.length - 1 = j by omega] at this
      have hjl := (List.getElem?_eq_some_iff.1 hr3).1
      have HRT : Hid (∀ W, Below B w0 W → W.cell? ⟨gf, of + j * 2, none⟩ = some (.int .i64 a'.root.1)) := fun W hW => by
        obtain ⟨g2, o2, e, _, q0, q1⟩ := HC.out.node hW hr3
        simp only [Option.some.injEq, Addr.mk.injEq, and_true] at e
        obtain ⟨rfl, rfl⟩ := e
        exact q0
      have HV : Hid (∀ W, Below B w0 W → W.cell? ⟨gf, of + (j + 1) * 2 + 1, none⟩ = some (.int .i64 (v' : Int))) := fun W hW => by
        obtain ⟨g2, o2, e, _, q0, q1⟩ := HC.out.node hW hr2
        simp only [Option.some.injEq, Addr.mk.injEq, and_true] at e
        obtain ⟨rfl, rfl⟩ := e
        rw [hj] at q1
        exact q1
      have HGA := hid r1
      have HS := hid r2
      have HP := hid r3
      have HE := hid r4
      have HX := hid r5
      have hPl : P.length + (varI (v' : Int)).1.length + (textOf (a'.its 4 true)).length ≤ 1073741824 := by
        have := congrArg List.length r4
        rw [textOf_cons] at this
        simp only [List.length_append] at this
        have h2 := HT.out
        omega
      have hdl : (varI (v' : Int)).1.length = 1 + (Lib.decDigits v').length := by simp [varI]; omega
      have HDC := hid (fun W => decimal_any v' W (by omega))
      obtain ⟨root, hroot⟩ : ∃ r, r = a'.root.1 := ⟨_, rfl⟩
      rw [← hroot] at HRT
      have HJ := hid hj
      have hjf : j + 1 < f.length := by omega
      rw [hj]
      have hnI : deep + n + a'.need true + 1 ≤ 1048576 := by omega
      clear r1 r2 r3 r4 r5 hr2 hr3 k0 k1 HR hj
      by_cases hrq : root = 4
      · subst hrq
        obtain ⟨x, a2, rfl⟩ : ∃ x a2, a' = .un x a2 := by
          cases a' using Tr.cas with
          | un x a2 => exact ⟨x, a2, rfl⟩
          | lf x =>
            have hr : x.1 = 4 := hroot.symm
            rcases HGA.out with h | h <;> omega
          | bi x p q =>
            have hr : x.1 = 4 := hroot.symm
            have := HGA.out.1.1
            rw [hr] at this
            cases this
          | te x p q r =>
            have hr : x.1 = 4 := hroot.symm
            have := HGA.out.1.1
            omega
        obtain ⟨xo, xv⟩ := x
        have hxo : xo = 4 := hroot.symm
        subst hxo
        obtain ⟨vn, rfl⟩ : ∃ vn : Nat, xv = vn := ⟨xv.toNat, by rcases HGA.out.1 with h | h <;> simp at h <;> omega⟩
        have hvn : vn < 65536 := by rcases HGA.out.1 with h | h <;> simp at h <;> omega
        have hnd : (Tr.un (4, (vn : Int)) a2).need true = a2.need true + 1 := by (first | rw [Tr.need_un, if_pos (by simp [isQ])] | rw [Tr.need_bi, if_pos (by simp [isQ])] | rw [Tr.need_te, if_pos (by simp [isQ])] | rw [Tr.need_lf, if_pos (by simp [isQ])])
        rw [hnd] at hn hnI
        have HIT : Hid ((Tr.un (4, (vn : Int)) a2).its 4 true = commaI :: varI (vn : Int) :: a2.its 4 true) := by show _ = _; rfl
        have HAL : Hid (a2.post.length ≤ a.post.length ∧ s + a2.post.length = j) := by
          have := HJ.out
          simp only [Tr.post_lf, Tr.post_un, Tr.post_bi, Tr.post_te, List.length_append, List.length_cons, List.length_nil] at this hle
          exact ⟨by omega, by omega⟩
        have HPL := hid hPl
        rw [HIT.out, textOf_cons] at hPl
        simp only [List.length_append, commaI, List.length_cons, List.length_nil] at hPl
        have c0 := fun j => cell_row HP.out.row j
        have hb := HP.out.size
        clear hroot hnd hle
        go_wp2_with (first
          | (have q := M2; clear q; go_at_call 71; refine (put_any M2.out [44, 32] (by simp [varI] at hPl ⊢; omega)).mono ?_; rintro e w3 ⟨rfl, bv3, m3⟩; have M3 := hid m3; clear m3)
          | (have q := M11; clear q; go_at_call 71; refine (put_cat M11.out [120] (Lib.decDigits v') (by simp; omega)).mono ?_; rintro e w2 ⟨rfl, bv2, m2⟩; have c2 := fun j => cell_row m2.row j; have hb2 := m2.size; have q2 := HRT.out w2 m2.below; have M2 := hid m2; clear m2)
          | (have q := M1; clear q; go_at_call 82; refine (HDC.out _).mono ?_; rintro e w11 ⟨rfl, b11⟩; have M11 := hid (M1.out.on b11); clear b11)
          | (go_at_call 70; refine (popens_any HP.out (by omega)).mono ?_; rintro e w1 ⟨rfl, m1⟩; have c1 := fun j => cell_row m1.row j; have hb1 := m1.size; have q1 := HV.out w1 m1.below; have M1 := hid m1; clear m1))
        refine ⟨⟨vn, a2, n + 1, _, bv3, _, ?_, ?_, hvn, by omega, ?_, HAL.out.1, (HGA.out.2), HS.out.un, M3.out, ?_, ?_⟩, ?_⟩
        · rw [HAL.out.2]
        · exact congrArg (Value.int .i64) (by omega)
        · omega
        · rw [← HE.out, HIT.out]
          simp [textOf, varI, commaI]
        · have := HX.out
          omega
        · simp [intOf]
      · have HIT : Hid (a'.its 4 true = colonI :: a'.its 0 true) := its_sep a' 4 (by decide) (by rw [← hroot]; exact hrq) true
        have HOP : Hid (Opr j w0 B b (.slice (some ⟨gf, of, none⟩) f.length ca) gv false true (textOf (a'.its 0 true)) (a'.need true)) := by
          have hP := HIH.out a' hle HGA.out HS.out.un
          have hb0 : brk false true a'.root.1 = false := by simp [brk]
          have := opr_of (ca := ca) (b := b) (gv := gv) HC.out HS.out.un false true (by rw [hb0]; exact hP)
          rw [show s + a'.post.length - 1 = j by have := HJ.out; omega, hb0] at this
          exact this
        rw [HIT.out, textOf_cons] at hPl
        simp only [List.length_append, colonI, List.length_cons, List.length_nil] at hPl
        have c0 := fun j => cell_row HP.out.row j
        have hb := HP.out.size
        clear hroot
        go_wp2_with (first
          | (have q := M3; clear q; go_at_call 48; refine (HOP.out _ _ _ _ _ _ M3.out (by omega) (by simp [varI] at hPl ⊢; omega) (by omega)).mono ?_; rintro e w4 ⟨rfl, bv4, m4⟩; have c4 := fun j => cell_row m4.row j; have f4 := fun j => unfrozen_row m4.row j; have hb4 := m4.size; have M4 := hid m4; clear m4)
          | (have q := M2; clear q; go_at_call 71; refine (put_any M2.out [58, 32] (by simp [varI] at hPl ⊢; omega)).mono ?_; rintro e w3 ⟨rfl, bv3, m3⟩; have M3 := hid m3; clear m3)
          | (have q := M11; clear q; go_at_call 71; refine (put_cat M11.out [120] (Lib.decDigits v') (by simp; omega)).mono ?_; rintro e w2 ⟨rfl, bv2, m2⟩; have c2 := fun j => cell_row m2.row j; have hb2 := m2.size; have q2 := HRT.out w2 m2.below; have M2 := hid m2; clear m2)
          | (have q := M1; clear q; go_at_call 82; refine (HDC.out _).mono ?_; rintro e w11 ⟨rfl, b11⟩; have M11 := hid (M1.out.on b11); clear b11)
          | (go_at_call 70; refine (popens_any HP.out (by omega)).mono ?_; rintro e w1 ⟨rfl, m1⟩; have c1 := fun j => cell_row m1.row j; have hb1 := m1.size; have q1 := HV.out w1 m1.below; have M1 := hid m1; clear m1))
        go_end0
        refine ⟨rfl, bv4, ?_⟩
        have hM := (M4.out.setDeep deep).to (T' := T ++ textOf ((Tr.un (4, v) a).its 0 true)) (m' := max most (deep + (a.need true + 1))) (by rw [← HE.out, HIT.out]; simp [textOf, varI, colonI]) (by have := HX.out; omega)
        rw [show ((deep : Int) + (n : Int) + 1 - ((n : Int) + 1)) = (deep : Int) by omega]
        exact hM
  · have HD0 : Hid (textOf ((Tr.un (5, v) a).its 0 true) = [102, 111, 114, 97, 108, 108, 32] ++ textOf (varI v :: a.its 5 true)) := by show _ = _; rfl
    have hTl := HT.out
    rw [HD0.out] at hTl
    simp only [List.length_append, List.length_cons, List.length_nil] at hTl
    go_enter Tryz.func87, Tryz.ntmps87
    go_wp2_with (go_at_call 71; refine (put_any H.out [102, 111, 114, 97, 108, 108, 32] (by simp; omega)).mono ?_; rintro e w1 ⟨rfl, bv1, m1⟩; have M1 := hid m1; clear m1)
    clear p0 p1 c0 hb
    go_loopw [1, 5] (fun iv nv W' => ∃ (v' : Nat) (a' : Tr) (n mn : Nat) (bv' : Value) (P : List UInt8), iv = .int .i64 ((s + a'.post.length : Nat) : Int) ∧ nv = .int .i64 (n : Int) ∧ v' < 65536 ∧ n + a'.need true = a.need true ∧ deep + n ≤ mn ∧ a'.post.length ≤ a.post.length ∧ Hid (a'.good ∧ Sub f fr s (.un (5, (v' : Int)) a') ∧ Pg wk w0 W' B b (.slice (some ⟨gf, of, none⟩) f.length ca) gv bv' P (deep + n) mn ∧ P ++ textOf (varI (v' : Int) :: a'.its 5 true) = T ++ textOf ((Tr.un (5, v) a).its 0 true) ∧ max mn (deep + (a.need true + 1)) = max most (deep + (a.need true + 1)))) (fun iv _ _ => (intOf iv).toNat)
    case atStart =>
      obtain ⟨vn, rfl⟩ : ∃ vn : Nat, v = vn := ⟨v.toNat, by rcases HG.out.1 with h | h <;> simp at h <;> omega⟩
      exact ⟨vn, a, 0, most, bv1, _, by rw [HI.out], rfl, by rcases HG.out.1 with h | h <;> simp at h <;> omega, by omega, by omega, Nat.le_refl _, HG.out.2, HSB.out, M1.out, by rw [HD0.out]; simp, rfl⟩
    case round =>
      clear M1 H
      obtain ⟨v', a', n, mn, bv', P, rfl, rfl, hv, hn, hmn, hle, HR⟩ := hrel
      obtain ⟨r1, r2, r3, r4, r5⟩ := HR.out
      have hr2 : f[s + a'.post.length]? = some (5, (v' : Int)) := by
        have := r2.root
        rwa [show s + (Tr.un (5, (v' : Int)) a').post.length - 1 = s + a'.post.length by simp [Tr.post_lf, Tr.post_un, Tr.post_bi, Tr.post_te]] at this
      obtain ⟨gf', of', e1, _, k0, k1⟩ := HC.out.node r3.below hr2
      simp only [Option.some.injEq, Addr.mk.injEq, and_true] at e1
      obtain ⟨rfl, rfl⟩ := e1
      have hlt' := (List.getElem?_eq_some_iff.1 hr2).1
      have hpos := post_pos a'
      obtain ⟨j, hj⟩ : ∃ j, s + a'.post.length = j + 1 := ⟨s + a'.post.length - 1, by omega⟩
      have hr3 : f[j]? = some a'.root := by
        have := r2.un.root
        rwa [show s + a'.post.length - 1 = j by omega] at this
      have hjl := (List.getElem?_eq_some_iff.1 hr3).1
      have HRT : Hid (∀ W, Below B w0 W → W.cell? ⟨gf, of + j * 2, none⟩ = some (.int .i64 a'.root.1)) := fun W hW => by
        obtain ⟨g2, o2, e, _, q0, q1⟩ := HC.out.node hW hr3
        simp only [Option.some.injEq, Addr.mk.injEq, and_true] at e
        obtain ⟨rfl, rfl⟩ := e
        exact q0
      have HV : Hid (∀ W, Below B w0 W → W.cell? ⟨gf, of + (j + 1) * 2 + 1, none⟩ = some (.int .i64 (v' : Int))) := fun W hW => by
        obtain ⟨g2, o2, e, _, q0, q1⟩ := HC.out.node hW hr2
        simp only [Option.some.injEq, Addr.mk.injEq, and_true] at e
        obtain ⟨rfl, rfl⟩ := e
        rw [hj] at q1
        exact q1
      have HGA := hid r1
      have HS := hid r2
      have HP := hid r3
      have HE := hid r4
      have HX := hid r5
      have hPl : P.length + (varI (v' : Int)).1.length + (textOf (a'.its 5 true)).length ≤ 1073741824 := by
        have := congrArg List.length r4
        rw [textOf_cons] at this
        simp only [List.length_append] at this
        have h2 := HT.out
        omega
      have hdl : (varI (v' : Int)).1.length = 1 + (Lib.decDigits v').length := by simp [varI]; omega
      have HDC := hid (fun W => decimal_any v' W (by omega))
      obtain ⟨root, hroot⟩ : ∃ r, r = a'.root.1 := ⟨_, rfl⟩
      rw [← hroot] at HRT
      have HJ := hid hj
      have hjf : j + 1 < f.length := by omega
      rw [hj]
      have hnI : deep + n + a'.need true + 1 ≤ 1048576 := by omega
      clear r1 r2 r3 r4 r5 hr2 hr3 k0 k1 HR hj
      by_cases hrq : root = 5
      · subst hrq
        obtain ⟨x, a2, rfl⟩ : ∃ x a2, a' = .un x a2 := by
          cases a' using Tr.cas with
          | un x a2 => exact ⟨x, a2, rfl⟩
          | lf x =>
            have hr : x.1 = 5 := hroot.symm
            rcases HGA.out with h | h <;> omega
          | bi x p q =>
            have hr : x.1 = 5 := hroot.symm
            have := HGA.out.1.1
            rw [hr] at this
            cases this
          | te x p q r =>
            have hr : x.1 = 5 := hroot.symm
            have := HGA.out.1.1
            omega
        obtain ⟨xo, xv⟩ := x
        have hxo : xo = 5 := hroot.symm
        subst hxo
        obtain ⟨vn, rfl⟩ : ∃ vn : Nat, xv = vn := ⟨xv.toNat, by rcases HGA.out.1 with h | h <;> simp at h <;> omega⟩
        have hvn : vn < 65536 := by rcases HGA.out.1 with h | h <;> simp at h <;> omega
        have hnd : (Tr.un (5, (vn : Int)) a2).need true = a2.need true + 1 := by (first | rw [Tr.need_un, if_pos (by simp [isQ])] | rw [Tr.need_bi, if_pos (by simp [isQ])] | rw [Tr.need_te, if_pos (by simp [isQ])] | rw [Tr.need_lf, if_pos (by simp [isQ])])
        rw [hnd] at hn hnI
        have HIT : Hid ((Tr.un (5, (vn : Int)) a2).its 5 true = commaI :: varI (vn : Int) :: a2.its 5 true) := by show _ = _; rfl
        have HAL : Hid (a2.post.length ≤ a.post.length ∧ s + a2.post.length = j) := by
          have := HJ.out
          simp only [Tr.post_lf, Tr.post_un, Tr.post_bi, Tr.post_te, List.length_append, List.length_cons, List.length_nil] at this hle
          exact ⟨by omega, by omega⟩
        have HPL := hid hPl
        rw [HIT.out, textOf_cons] at hPl
        simp only [List.length_append, commaI, List.length_cons, List.length_nil] at hPl
        have c0 := fun j => cell_row HP.out.row j
        have hb := HP.out.size
        clear hroot hnd hle
        go_wp2_with (first
          | (have q := M2; clear q; go_at_call 71; refine (put_any M2.out [44, 32] (by simp [varI] at hPl ⊢; omega)).mono ?_; rintro e w3 ⟨rfl, bv3, m3⟩; have M3 := hid m3; clear m3)
          | (have q := M11; clear q; go_at_call 71; refine (put_cat M11.out [120] (Lib.decDigits v') (by simp; omega)).mono ?_; rintro e w2 ⟨rfl, bv2, m2⟩; have c2 := fun j => cell_row m2.row j; have hb2 := m2.size; have q2 := HRT.out w2 m2.below; have M2 := hid m2; clear m2)
          | (have q := M1; clear q; go_at_call 82; refine (HDC.out _).mono ?_; rintro e w11 ⟨rfl, b11⟩; have M11 := hid (M1.out.on b11); clear b11)
          | (go_at_call 70; refine (popens_any HP.out (by omega)).mono ?_; rintro e w1 ⟨rfl, m1⟩; have c1 := fun j => cell_row m1.row j; have hb1 := m1.size; have q1 := HV.out w1 m1.below; have M1 := hid m1; clear m1))
        refine ⟨⟨vn, a2, n + 1, _, bv3, _, ?_, ?_, hvn, by omega, ?_, HAL.out.1, (HGA.out.2), HS.out.un, M3.out, ?_, ?_⟩, ?_⟩
        · rw [HAL.out.2]
        · exact congrArg (Value.int .i64) (by omega)
        · omega
        · rw [← HE.out, HIT.out]
          simp [textOf, varI, commaI]
        · have := HX.out
          omega
        · simp [intOf]
      · have HIT : Hid (a'.its 5 true = colonI :: a'.its 0 true) := its_sep a' 5 (by decide) (by rw [← hroot]; exact hrq) true
        have HOP : Hid (Opr j w0 B b (.slice (some ⟨gf, of, none⟩) f.length ca) gv false true (textOf (a'.its 0 true)) (a'.need true)) := by
          have hP := HIH.out a' hle HGA.out HS.out.un
          have hb0 : brk false true a'.root.1 = false := by simp [brk]
          have := opr_of (ca := ca) (b := b) (gv := gv) HC.out HS.out.un false true (by rw [hb0]; exact hP)
          rw [show s + a'.post.length - 1 = j by have := HJ.out; omega, hb0] at this
          exact this
        rw [HIT.out, textOf_cons] at hPl
        simp only [List.length_append, colonI, List.length_cons, List.length_nil] at hPl
        have c0 := fun j => cell_row HP.out.row j
        have hb := HP.out.size
        clear hroot
        go_wp2_with (first
          | (have q := M3; clear q; go_at_call 48; refine (HOP.out _ _ _ _ _ _ M3.out (by omega) (by simp [varI] at hPl ⊢; omega) (by omega)).mono ?_; rintro e w4 ⟨rfl, bv4, m4⟩; have c4 := fun j => cell_row m4.row j; have f4 := fun j => unfrozen_row m4.row j; have hb4 := m4.size; have M4 := hid m4; clear m4)
          | (have q := M2; clear q; go_at_call 71; refine (put_any M2.out [58, 32] (by simp [varI] at hPl ⊢; omega)).mono ?_; rintro e w3 ⟨rfl, bv3, m3⟩; have M3 := hid m3; clear m3)
          | (have q := M11; clear q; go_at_call 71; refine (put_cat M11.out [120] (Lib.decDigits v') (by simp; omega)).mono ?_; rintro e w2 ⟨rfl, bv2, m2⟩; have c2 := fun j => cell_row m2.row j; have hb2 := m2.size; have q2 := HRT.out w2 m2.below; have M2 := hid m2; clear m2)
          | (have q := M1; clear q; go_at_call 82; refine (HDC.out _).mono ?_; rintro e w11 ⟨rfl, b11⟩; have M11 := hid (M1.out.on b11); clear b11)
          | (go_at_call 70; refine (popens_any HP.out (by omega)).mono ?_; rintro e w1 ⟨rfl, m1⟩; have c1 := fun j => cell_row m1.row j; have hb1 := m1.size; have q1 := HV.out w1 m1.below; have M1 := hid m1; clear m1))
        go_end0
        refine ⟨rfl, bv4, ?_⟩
        have hM := (M4.out.setDeep deep).to (T' := T ++ textOf ((Tr.un (5, v) a).its 0 true)) (m' := max most (deep + (a.need true + 1))) (by rw [← HE.out, HIT.out]; simp [textOf, varI, colonI]) (by have := HX.out; omega)
        rw [show ((deep : Int) + (n : Int) + 1 - ((n : Int) + 1)) = (deep : Int) by omega]
        exact hM
end
end Go.Proofs.YtdkboifpdodonabGreatDoor.Doc
