import Derived.Test.YtdkboifpdodonabGreatDoorZ14
set_option linter.unusedSimpArgs false
/-
  The document's world of an assignment: says.
-/
namespace Go.Proofs.YtdkboifpdodonabGreatDoor.Doc
open Go.RowKit Go.Deep PureCnf PureForm
set_option maxRecDepth 100000

theorem upd_upd (e : Int → Bool) (v : Int) (a b : Bool) : upd (upd e v a) v b = upd e v b := by
  funext x; unfold upd; split <;> simp_all
theorem upd_same (e : Int → Bool) (v : Int) : upd e v (e v) = e := by
  funext x; unfold upd; split <;> simp_all
theorem bitsE_at (L : List Bool) (v : Nat) : bitsE L (v : Int) = L.getD v false := by simp [bitsE]
theorem bitsE_get {L : List Bool} {v : Nat} (h : v < L.length) : bitsE L (v : Int) = L[v] := by
  rw [bitsE_at]; simp [List.getD, List.getElem?_eq_getElem h]
theorem bitsE_off {L : List Bool} {v : Nat} (h : L.length ≤ v) : bitsE L (v : Int) = false := by
  rw [bitsE_at]; simp [List.getD, List.getElem?_eq_none h]
theorem bitsE_set1 {L : List Bool} {v : Nat} (h : v < L.length) (b : Bool) : bitsE (L.set v b) = upd (bitsE L) (v : Int) b := by
  refine bitsE_set L v b _ (by simp; omega) fun k hk => ?_
  have hk' : k < L.length := by simpa using hk
  rw [List.getElem_set]
  by_cases hkv : k = v
  · subst hkv; simp
  · rw [if_neg (by omega), if_neg hkv]
    simp [List.getD, List.getElem?_eq_getElem hk']
theorem bitsE_snoc (L : List Bool) : bitsE (L ++ [false]) = bitsE L := by
  funext x
  unfold bitsE
  congr 1
  simp only [List.getD]
  by_cases h : x.toNat < L.length
  · rw [List.getElem?_append_left h]
  · rw [List.getElem?_append_right (by omega), List.getElem?_eq_none (show L.length ≤ x.toNat by omega)]
    by_cases h0 : x.toNat - L.length = 0
    · rw [h0]; rfl
    · rw [List.getElem?_eq_none (by simp; omega)]

/-- truths as cells. -/
def bo (l : List Bool) : List Value := l.map Value.bool
/-- what is no list of truths and not the world stays. -/
def KeptB (b : Nat) (wk W : World) : Prop := ∀ (k : Nat) (cs : Array Value) (t : Nat) (fz : Nat × Nat), wk.heap[k]? = some (.cells cs t fz) → t ≠ 4 → k ≠ b → W.heap[k]? = some (.cells cs t fz)
theorem KeptB.refl (b : Nat) (w : World) : KeptB b w w := fun _ _ _ _ h _ _ => h
theorem KeptB.trans {b : Nat} {w1 w2 w3 : World} (h1 : KeptB b w1 w2) (h2 : KeptB b w2 w3) : KeptB b w1 w3 := fun k cs t fz h ht hk => h2 k cs t fz (h1 k cs t fz h ht hk) ht hk

structure Wd (wk w0 W : World) (B b : Nat) (fv gv bv : Value) (L : List Bool) : Prop where
  row : W.heap[b]? = some (.cells #[fv, gv, bv] 94 (0, 0))
  own : W.ownsRow B 4 1 bv L.length (bo L)
  hB : B ≤ b
  below : Below B w0 W
  kept : KeptB b wk W

theorem info4 : (Tryz.prog.info? 4).map (fun i => (i.zero, i.size, i.bytes)) = some (some (.bool false), 1, 1) := by kernel_rfl
section
variable {wk w0 W W' : World} {B b : Nat} {fv gv bv : Value} {L : List Bool}
theorem Wd.size (h : Wd wk w0 W B b fv gv bv L) : b < W.heap.size := (Array.getElem?_eq_some_iff.1 h.row).1
theorem Wd.drewN (h : Wd wk w0 W B b fv gv bv L) (n : Nat) : Wd wk w0 (W.drewN n) B b fv gv bv L := ⟨h.row, h.own, h.hB, below_drewN h.below n, h.kept⟩
theorem Wd.re (h : Wd wk w0 W B b fv gv bv L) : Wd W w0 W B b fv gv bv L := ⟨h.row, h.own, h.hB, h.below, KeptB.refl _ _⟩
theorem Wd.back {bv' : Value} {L' : List Bool} (h : Wd wk w0 W B b fv gv bv L) (h2 : Wd W w0 W' B b fv gv bv' L') : Wd wk w0 W' B b fv gv bv' L' := ⟨h2.row, h2.own, h2.hB, h2.below, h.kept.trans h2.kept⟩
theorem Wd.on (h : Wd wk w0 W B b fv gv bv L) (hb : Below W.heap.size W W') : Wd wk w0 W' B b fv gv bv L := by
  have hs := h.size
  have hB := h.hB
  refine ⟨(hb.block _ hs).trans h.row, ownsRow_below h.own hb, hB, h.below.trans (hb.mono (by omega)), fun k cs t fz e ht hk => ?_⟩
  have e2 := h.kept k cs t fz e ht hk
  exact (hb.block _ (Array.getElem?_eq_some_iff.1 e2).1).trans e2
/-- where the truths lie. -/
theorem Wd.at_ (h : Wd wk w0 W B b fv gv bv L) (h0 : 0 < L.length) : ∃ g cap, bv = .slice (some ⟨g, 0, none⟩) L.length cap ∧ L.length ≤ cap ∧ g < W.heap.size ∧ B ≤ g ∧ g ≠ b ∧ (∀ j, W.frozen? ⟨g, j, none⟩ = false) ∧ ∀ k (hk : k < L.length), W.cell? ⟨g, k, none⟩ = some (.bool L[k]) := by
  rcases h.own.2 with ⟨_, h1⟩ | ⟨g, cap, cur, hv, hB, hg, hk, hc, hs, ht⟩
  · omega
  · refine ⟨g, cap, hv, hk, (Array.getElem?_eq_some_iff.1 hg).1, hB, ?_, fun j => unfrozen_row hg j, fun k hk => ?_⟩
    · intro e
      rw [e, h.row] at hg
      simp at hg
    · rw [cell_row hg]
      have e : (cur.toList.take (L.length * 1))[k]? = (bo L)[k]? := by rw [ht]
      rw [List.getElem?_take_of_lt (by omega)] at e
      simp only [bo, List.getElem?_map, List.getElem?_eq_getElem hk, Option.map_some] at e
      simpa using e
/-- a truth is set. -/
theorem Wd.put {g cap n : Nat} (h : Wd wk w0 W B b fv gv (.slice (some ⟨g, 0, none⟩) n cap) L) (k : Nat) (u : Bool) : Wd wk w0 (W.setCell ⟨g, k, none⟩ (.bool u)) B b fv gv (.slice (some ⟨g, 0, none⟩) n cap) (L.set k u) := by
  rcases h.own.2 with ⟨h1, _⟩ | ⟨g', cap', cur, hv, hB, hg, hn, hc, hs, ht⟩
  · simp at h1
  · simp only [Value.slice.injEq, Option.some.injEq, Addr.mk.injEq, and_true] at hv
    obtain ⟨rfl, rfl, rfl⟩ := hv
    have hgb : g ≠ b := by
      intro e
      rw [e, h.row] at hg
      simp at hg
    refine ⟨(Below.heap_setCell W _ _ _ (by simpa using hgb.symm)).trans h.row, ⟨by simp [bo], .inr ⟨g, cap, cur.setIfInBounds k (.bool u), by simp, hB, row_set hg, by simpa using hn, hc, by simpa using hs, ?_⟩⟩, h.hB, h.below.setCell hB _, fun k' cs t fz e ht' hk' => ?_⟩
    · have e1 := congrArg (fun l => l.set k (Value.bool u)) ht
      simp only [List.take_set, Array.toList_setIfInBounds, List.length_set] at e1 ⊢
      rw [e1]
      simp [bo]
    · have e2 := h.kept k' cs t fz e ht' hk'
      refine (Below.heap_setCell W _ _ _ ?_).trans e2
      intro e3
      have e4 : k' = g := e3
      rw [e4, hg] at e2
      simp at e2
      exact ht' e2.2.1.symm

/-- a truth more, in the own row; then the field. -/
theorem Wd.grow {x : Bool} {bv' : Value} (h : Wd wk w0 W B b fv gv bv L) (ho : W'.ownsRow B 4 1 bv' (L.length + 1) (bo L ++ [.bool x])) (hg : W.grownBy W' bv.ownBlock) :
    W'.heap[b]? = some (.cells #[fv, gv, bv] 94 (0, 0)) ∧ Wd wk w0 (W'.setCell ⟨b, 2, none⟩ bv') B b fv gv bv' (L ++ [x]) := by
  have hne : bv.ownBlock ≠ some b := fun e => by
    obtain ⟨c, fz, hc⟩ := Lib.ownsRow_kind h.own b e
    rw [h.row] at hc
    simp at hc
  have hrow : W'.heap[b]? = some (.cells #[fv, gv, bv] 94 (0, 0)) := (hg.block b h.size (Ne.symm hne)).trans h.row
  have hne' : bv'.ownBlock ≠ some b := fun e => by
    obtain ⟨c, fz, hc⟩ := Lib.ownsRow_kind ho b e
    rw [hrow] at hc
    simp at hc
  refine ⟨hrow, ⟨by have := row_set (i := 2) (u := bv') hrow; simpa using this, ?_, h.hB, ?_, fun k cs t fz e ht hk => ?_⟩⟩
  · have e : bo (L ++ [x]) = bo L ++ [.bool x] := by simp [bo]
    rw [e, List.length_append]
    exact ownsRow_setCell_other ho (by simpa using hne') _
  · exact (h.below.grown hg (by have := h.size; have := h.hB; omega) (fun j hj => (h.own.lt j hj).1)).setCell h.hB _
  · have e2 := h.kept k cs t fz e ht hk
    refine (Below.heap_setCell W' _ _ _ (by simpa using hk)).trans ((hg.block k (Array.getElem?_eq_some_iff.1 e2).1 ?_).trans e2)
    intro e3
    obtain ⟨c, fz', hc⟩ := Lib.ownsRow_kind h.own k e3.symm
    rw [e2] at hc
    simp at hc
    exact ht hc.2.1
theorem app_bit {ops : Array Oper} {rest : List Oper} {o : Oper} {a : Act} {Q : Exit → Act → World → Prop} (hgd : o.guard = none) (sl y : Operand)
    (ho : o.op = .call { callee := .builtin .append, args := #[sl, y], argTypes := #[41, 41] }) (h : Wd wk w0 W B b fv gv bv L) (x : Bool) (ad : Nat) (had : ad = W.heap.size) (hs : a.eval sl = bv) (hx : a.eval y = .slice (some ⟨ad, 0, none⟩) 1 1) (hl : L.length ≤ 1099511627776)
    (hK : ∀ sx cx w', w'.heap[b]? = some (.cells #[fv, gv, bv] 94 (0, 0)) → Wd wk w0 (w'.setCell ⟨b, 2, none⟩ (.slice sx (L.length + 1) cx)) B b fv gv (.slice sx (L.length + 1) cx) (L ++ [x]) → wpList Tryz.prog ops Q rest (a.put o.dst (.slice sx (L.length + 1) cx)) w') :
    wpList Tryz.prog ops Q (o :: rest) a (W.alloc (.cells #[.bool x] 4)) := by
  subst had
  have hfb := h.size
  have h2 := h.on ((Below.refl _ _).alloc (Nat.le_refl _) (Obj.cells #[.bool x] 4))
  refine app_one hgd sl y 41 4 _ 1 1 ho Tryz.underlying41 info4 rfl (by decide) (by decide) B L.length bv (bo L) [.bool x] ⟨W.heap.size, 0, none⟩ hs h2.own hx rfl (fun j u hu => by rw [add_zero_addr, cell_row (heap_alloc_new W _)]; simpa using hu) (fun u hu => by simp at hu; subst hu; rfl) hl (by have := h.hB; simp; omega) ?_
  intro v4 w4 o4 g4
  obtain ⟨sx, cx, rfl⟩ := own_shape o4
  obtain ⟨r1, m1⟩ := h2.grow o4 g4
  exact hK sx cx w4 r1 m1

set_option maxHeartbeats 1000000 in
set_option maxRecDepth 100000 in
theorem says_any (h : Wd wk w0 W B b fv gv bv L) (v : Nat) (hv : v < 65536) (hL : L.length ≤ 140737488351232) :
    Calls Tryz.prog 67 #[.pointer (some ⟨b, 0, none⟩), .int .i64 (v : Int)] W fun e W' => e = .returned (.bool (bitsE L (v : Int))) ∧ Wd wk w0 W' B b fv gv bv L := by
  have c0 := fun j => cell_row h.row j
  have hb := h.size
  by_cases hlt : v < L.length
  · obtain ⟨g, cap, rfl, hc, hg, _, _, _, hcell⟩ := h.at_ (by omega)
    have cv := hcell v hlt
    have HB := hid (bitsE_get hlt)
    have H := hid h
    obtain ⟨x, hx⟩ : ∃ x, x = L[v] := ⟨_, rfl⟩
    rw [← hx] at cv HB
    have hI : (v : Int) < (L.length : Int) := by omega
    clear h hcell hx
    go_enter Tryz.func67, Tryz.ntmps67
    go_wp2
    go_ret
    rw [HB.out]
    exact ⟨rfl, H.out⟩
  · have HB := hid (bitsE_off (L := L) (v := v) (by omega))
    obtain ⟨sx, cx, rfl⟩ := own_shape h.own
    have H := hid h
    have hI : ¬ (v : Int) < (L.length : Int) := by omega
    clear h
    go_enter Tryz.func67, Tryz.ntmps67
    go_wp2
    go_ret
    rw [HB.out]
    exact ⟨rfl, H.out⟩
end
end Go.Proofs.YtdkboifpdodonabGreatDoor.Doc
/-
  The document's own tries, over a contract of truth.
-/
namespace Go.Proofs.YtdkboifpdodonabGreatDoor.Doc
open Go.RowKit Go.Deep PureCnf PureForm
set_option maxRecDepth 100000

/-- what asking for the truth of a subtree at i does. -/
def TruC (g i : Nat) (w0 : World) (B b : Nat) (fv gv : Value) (F : (Int → Bool) → Bool) : Prop :=
  ∀ (wk W : World) (bv : Value) (L : List Bool), Wd wk w0 W B b fv gv bv L → L.length ≤ 140737488351232 →
    Calls Tryz.prog g #[.pointer (some ⟨b, 0, none⟩), .int .i64 (i : Int)] W fun e W' => e = .returned (.bool (F (bitsE L))) ∧ ∃ bv' L', Wd wk w0 W' B b fv gv bv' L' ∧ bitsE L' = bitsE L ∧ L.length ≤ L'.length ∧ L'.length ≤ 140737488351232

/-- how many truths there are, off the world. -/
def bitsAt (b : Nat) (W : World) : Nat := match W.cell? ⟨b, 2, none⟩ with
  | some (.slice _ n _) => n
  | _ => 0
theorem Wd.count {wk w0 W : World} {B b : Nat} {fv gv bv : Value} {L : List Bool} (h : Wd wk w0 W B b fv gv bv L) : bitsAt b W = L.length := by
  obtain ⟨sx, cx, rfl⟩ := own_shape h.own
  unfold bitsAt
  rw [cell_row h.row]
  rfl

section
variable {w0 : World} {B b : Nat} {f : List Nd} {fr : List Nat} {sa : Option Addr} {ca gb : Nat}

set_option maxHeartbeats 1000000 in
set_option maxRecDepth 100000 in
theorem tries_any (c : Ctx w0 B f fr sa gb) {gv : Value} {i v : Nat} {q : Int} (hi : f[i + 1]? = some (q, (v : Int))) (hq : isQ q = true) (hv : v < 65536) (F : (Int → Bool) → Bool)
    (HT : TruC 47 i w0 B b (.slice sa f.length ca) gv F) : TruC 68 (i + 1) w0 B b (.slice sa f.length ca) gv (fun e => if q = 4 then (F (upd e v false) || F (upd e v true)) else (F (upd e v false) && F (upd e v true))) := by
  intro wk W bv L h hL
  have HN : Hid (∀ W, Below B w0 W → ∃ gf of, sa = some ⟨gf, of, none⟩ ∧ gf < B ∧ W.cell? ⟨gf, of + (i + 1) * 2, none⟩ = some (.int .i64 q) ∧ W.cell? ⟨gf, of + (i + 1) * 2 + 1, none⟩ = some (.int .i64 (v : Int))) := fun W hW => c.node hW hi
  obtain ⟨gf, of, rfl, hgf, p0, p1⟩ := HN.out W h.below
  have HCELL : Hid (∀ W, Below B w0 W → W.cell? ⟨gf, of + (i + 1) * 2, none⟩ = some (.int .i64 q)) := fun W hW => by
    obtain ⟨g2, o2, e, _, q0, q1⟩ := HN.out W hW
    simp only [Option.some.injEq, Addr.mk.injEq, and_true] at e
    obtain ⟨rfl, rfl⟩ := e
    exact q0
  have hlt := (List.getElem?_eq_some_iff.1 hi).1
  have hfew := c.few
  have c0 := fun j => cell_row h.row j
  have hb := h.size
  have H := hid h
  have HTT := hid HT
  have hq' : q = 4 ∨ q = 5 := of_decide_eq_true hq
  clear h hi c HT HN hq
  go_enter Tryz.func68, Tryz.ntmps68
  go_wp2
  clear c0 hb p0 p1
  go_loopw [] (fun W' => ∃ (bv' : Value) (L1 : List Bool), L.length ≤ L1.length ∧ L1.length ≤ 140737488351232 ∧ Hid (Wd wk w0 W' B b (.slice (some ⟨gf, of, none⟩) f.length ca) gv bv' L1 ∧ bitsE L1 = bitsE L)) (fun W' => 65536 - bitsAt b W')
  case atStart => exact ⟨bv, L, Nat.le_refl _, hL, H.out, rfl⟩
  case round =>
    clear H
    obtain ⟨bv1, L1, hl1, hl2, HR⟩ := hrel
    obtain ⟨r1, r2⟩ := HR.out
    obtain ⟨sx, cx, rfl⟩ := own_shape r1.own
    have c1 := fun j => cell_row r1.row j
    have hb1 := r1.size
    have HW := hid r1
    have HE := hid r2
    clear HR r1 r2
    by_cases hle : (L1.length : Int) ≤ (v : Int)
    · have HCN := hid HW.out.count
      go_wp2_with (at_builtin; refine app_bit rfl _ _ rfl HW.out false _ rfl rfl rfl (by omega) ?_; intro s2 c2 w2 r2 m2; have c2' := fun j => cell_row r2 j; have f2' := fun j => unfrozen_row r2 j; have hb2 := (Array.getElem?_eq_some_iff.1 r2).1; have M2 := hid m2; clear r2 m2)
      refine ⟨⟨_, _, _, _, _, _, _, _, _, _, _, _, _, _, _, _, ⟨_, L1 ++ [false], by simp; omega, by simp; omega, M2.out, by rw [bitsE_snoc]; exact HE.out⟩, rfl⟩, ?_⟩
      rw [M2.out.count, HCN.out]
      simp
      omega
    · obtain ⟨g, cap, hsl, hcap, hg, hBg, hgb, hfz, hcell⟩ := HW.out.at_ (by omega)
      simp only [Value.slice.injEq, true_and] at hsl
      obtain ⟨rfl, rfl⟩ := hsl
      have hvl : v < L1.length := by omega
      have cv := hcell v hvl
      have fv' := hfz v
      have HWAS : Hid (L1[v] = bitsE L (v : Int)) := by show _ = _; rw [← bitsE_get hvl, HE.out]
      obtain ⟨was, hwas⟩ : ∃ x, x = L1[v] := ⟨_, rfl⟩
      rw [← hwas] at cv HWAS
      have HP := hid (HW.out.put v false)
      clear hcell hfz hwas
      go_wp2_with fail
      refine (HTT.out _ _ _ _ HP.out (by simp; omega)).mono ?_
      rintro e w2 ⟨rfl, bv2, L2, m2, e2, l2, u2⟩
      rw [List.length_set] at l2
      have HE2 : Hid (bitsE L2 = upd (bitsE L) (v : Int) false) := by show _ = _; rw [e2, bitsE_set1 hvl, HE.out]
      obtain ⟨g2, cap2, rfl, hcap2, hg2, hBg2, hgb2, hfz2, hcell2⟩ := m2.at_ (by omega)
      have hvl2 : v < L2.length := by omega
      have cv2 := hcell2 v hvl2
      have fv2 := hfz2 v
      have c2 := fun j => cell_row m2.row j
      have hb2 := m2.size
      have HP2 := hid (m2.put v true)
      have HF1 : Hid (F (bitsE (L1.set v false)) = F (upd (bitsE L) (v : Int) false)) := by show _ = _; rw [bitsE_set1 hvl, HE.out]
      rw [HF1.out]
      clear m2 e2 hcell2 hfz2 hg c1 hb1 cv fv' hBg hgb HP hcap
      go_wp2_with fail
      refine (HTT.out _ _ _ _ HP2.out (by simp; omega)).mono ?_
      rintro e w3 ⟨rfl, bv3, L3, m3, e3, l3, u3⟩
      rw [List.length_set] at l3
      have HE3 : Hid (bitsE L3 = upd (bitsE L) (v : Int) true) := by show _ = _; rw [e3, bitsE_set1 hvl2, HE2.out, upd_upd]
      obtain ⟨g3, cap3, rfl, hcap3, hg3, hBg3, hgb3, hfz3, hcell3⟩ := m3.at_ (by omega)
      have hvl3 : v < L3.length := by omega
      have cv3 := hcell3 v hvl3
      have fv3 := hfz3 v
      have c3 := fun j => cell_row m3.row j
      have hb3 := m3.size
      have HP3 := hid (m3.put v was)
      have q3 := HCELL.out _ HP3.out.below
      have HF2 : Hid (F (bitsE (L2.set v true)) = F (upd (bitsE L) (v : Int) true)) := by show _ = _; rw [bitsE_set1 hvl2, HE2.out, upd_upd]
      have HE4 : Hid (bitsE (L3.set v was) = bitsE L) := by show _ = _; rw [bitsE_set1 hvl3, HE3.out, upd_upd, HWAS.out, upd_same]
      rw [HF2.out]
      clear m3 e3 hcell3 hfz3 hg2 c2 hb2 cv2 fv2 hBg2 hgb2 HP2 hcap2
      obtain ⟨x1, hx1⟩ : ∃ x, x = F (upd (bitsE L) (v : Int) false) := ⟨_, rfl⟩
      obtain ⟨x2, hx2⟩ : ∃ x, x = F (upd (bitsE L) (v : Int) true) := ⟨_, rfl⟩
      rw [← hx1, ← hx2]
      have HX1 := hid hx1
      have HX2 := hid hx2
      clear hx1 hx2 HF1 HF2
      rcases hq' with rfl | rfl
      · cases x1 <;> cases x2
        all_goals
          go_wp2
          go_ret
          exact ⟨by simp only [← HX1.out, ← HX2.out]; rfl, _, _, HP3.out, HE4.out, by simp; omega, by simp; omega⟩
      · cases x1 <;> cases x2
        all_goals
          go_wp2
          go_ret
          exact ⟨by simp only [← HX1.out, ← HX2.out]; rfl, _, _, HP3.out, HE4.out, by simp; omega, by simp; omega⟩
end
end Go.Proofs.YtdkboifpdodonabGreatDoor.Doc
/-
  The document's own truth, case by case, and whole.
-/
namespace Go.Proofs.YtdkboifpdodonabGreatDoor.Doc
open Go.RowKit Go.Deep PureCnf PureForm
set_option maxRecDepth 100000

section
variable {w0 : World} {B b : Nat} {f : List Nd} {fr : List Nat} {sa : Option Addr} {ca gb : Nat}

set_option maxHeartbeats 1000000 in
set_option maxRecDepth 100000 in
theorem truth_const (c : Ctx w0 B f fr sa gb) {gv : Value} {i : Nat} {v : Int} (hi : f[i]? = some (1, v)) (hv : v = 0 ∨ v = 1) : TruC 47 i w0 B b (.slice sa f.length ca) gv (fun _ => v == 1) := by
  intro wk W bv L h hL
  obtain ⟨gf, of, rfl, hgf, p0, p1⟩ := c.node h.below hi
  have hlt := (List.getElem?_eq_some_iff.1 hi).1
  have hfew := c.few
  have c0 := fun j => cell_row h.row j
  have hb := h.size
  have H := hid (fun o => h.on ((Below.refl _ _).alloc (Nat.le_refl _) o))
  clear h hi c
  rcases hv with rfl | rfl
  all_goals
    go_enter Tryz.func47, Tryz.ntmps47
    go_wp2
    go_ret
    exact ⟨rfl, _, _, H.out _, rfl, Nat.le_refl _, hL⟩

set_option maxHeartbeats 1000000 in
set_option maxRecDepth 100000 in
theorem truth_var (c : Ctx w0 B f fr sa gb) {gv : Value} {i v : Nat} (hi : f[i]? = some (2, (v : Int))) (hv : v < 65536) : TruC 47 i w0 B b (.slice sa f.length ca) gv (fun e => e (v : Int)) := by
  intro wk W bv L h hL
  obtain ⟨gf, of, rfl, hgf, p0, p1⟩ := c.node h.below hi
  have hlt := (List.getElem?_eq_some_iff.1 hi).1
  have hfew := c.few
  have c0 := fun j => cell_row h.row j
  have hb := h.size
  have H := hid (fun o => says_any (h.on ((Below.refl _ _).alloc (Nat.le_refl _) o)) v hv hL)
  clear h hi c
  go_enter Tryz.func47, Tryz.ntmps47
  go_wp2_with (go_at_call 67; refine (H.out _).mono ?_; rintro e w1 ⟨rfl, m1⟩; have M1 := hid m1; clear m1)
  go_ret
  exact ⟨rfl, _, _, M1.out, rfl, Nat.le_refl _, hL⟩

set_option maxHeartbeats 1000000 in
set_option maxRecDepth 100000 in
theorem truth_not (c : Ctx w0 B f fr sa gb) {gv : Value} {i : Nat} {F : (Int → Bool) → Bool} (hi : f[i + 1]? = some (3, 0)) (HT : TruC 47 i w0 B b (.slice sa f.length ca) gv F) : TruC 47 (i + 1) w0 B b (.slice sa f.length ca) gv (fun e => !F e) := by
  intro wk W bv L h hL
  obtain ⟨gf, of, rfl, hgf, p0, p1⟩ := c.node h.below hi
  have hlt := (List.getElem?_eq_some_iff.1 hi).1
  have hfew := c.few
  have c0 := fun j => cell_row h.row j
  have hb := h.size
  have H := hid (fun o => HT _ _ _ _ (h.on ((Below.refl _ _).alloc (Nat.le_refl _) o)) hL)
  clear h hi c HT
  go_enter Tryz.func47, Tryz.ntmps47
  go_wp2_with (go_at_call 47; refine (H.out _).mono ?_; rintro e w1 ⟨rfl, bv1, L1, m1⟩; have M1 := hid m1; clear m1)
  go_ret
  exact ⟨rfl, _, _, M1.out⟩

set_option maxHeartbeats 1000000 in
set_option maxRecDepth 100000 in
theorem truth_qu (c : Ctx w0 B f fr sa gb) {gv : Value} {i : Nat} {q v : Int} {F : (Int → Bool) → Bool} (hi : f[i]? = some (q, v)) (hq : isQ q = true) (HT : TruC 68 i w0 B b (.slice sa f.length ca) gv F) : TruC 47 i w0 B b (.slice sa f.length ca) gv F := by
  intro wk W bv L h hL
  obtain ⟨gf, of, rfl, hgf, p0, p1⟩ := c.node h.below hi
  have hlt := (List.getElem?_eq_some_iff.1 hi).1
  have hfew := c.few
  have c0 := fun j => cell_row h.row j
  have hb := h.size
  have H := hid (fun o => HT _ _ _ _ (h.on ((Below.refl _ _).alloc (Nat.le_refl _) o)) hL)
  have hq' : q = 4 ∨ q = 5 := of_decide_eq_true hq
  clear h hi c HT hq
  rcases hq' with rfl | rfl
  all_goals
    go_enter Tryz.func47, Tryz.ntmps47
    go_wp2_with (go_at_call 68; refine (H.out _).mono ?_; rintro e w1 ⟨rfl, bv1, L1, m1⟩; have M1 := hid m1; clear m1)
    go_ret
    exact ⟨rfl, _, _, M1.out⟩

set_option maxHeartbeats 1000000 in
set_option maxRecDepth 100000 in
theorem truth_te (c : Ctx w0 B f fr sa gb) {m k l : Nat} {Fa Fb Fc : (Int → Bool) → Bool} (hi : f[m + 1]? = some (11, 0)) (hs : fr[m]? = some (k + 1)) (ht : fr[k]? = some (l + 1)) (hk : k < f.length) (hl : l < f.length)
    (HA : TruC 47 l w0 B b (.slice sa f.length ca) (.slice (some ⟨gb, 0, none⟩) f.length f.length) Fa) (HB : TruC 47 k w0 B b (.slice sa f.length ca) (.slice (some ⟨gb, 0, none⟩) f.length f.length) Fb) (HC : TruC 47 m w0 B b (.slice sa f.length ca) (.slice (some ⟨gb, 0, none⟩) f.length f.length) Fc) :
    TruC 47 (m + 1) w0 B b (.slice sa f.length ca) (.slice (some ⟨gb, 0, none⟩) f.length f.length) (fun e => if Fa e = true then Fb e else Fc e) := by
  intro wk W bv L h hL
  obtain ⟨gf, of, rfl, hgf, p0, p1⟩ := c.node h.below hi
  have hlt := (List.getElem?_eq_some_iff.1 hi).1
  have hfew := c.few
  have c0 := fun j => cell_row h.row j
  have hb := h.size
  have hgf : gf < W.heap.size := by have := h.hB; omega
  have hgb : gb < W.heap.size := by have := (Array.getElem?_eq_some_iff.1 c.hg).1; rw [c.hw] at this; have := h.hB; omega
  have qs := c.start h.below hs
  have qt := c.start h.below ht
  have H := hid (fun o => HA _ _ _ _ (h.on ((Below.refl _ _).alloc (Nat.le_refl _) o)) hL)
  have HBB := hid HB
  have HCC := hid HC
  clear h hi c HA HB HC hs ht
  cases hx : Fa (bitsE L) with
  | true =>
    rw [hx] at H
    simp only [hx, if_true]
    clear hx
    go_enter Tryz.func47, Tryz.ntmps47
    go_wp2_with (first
      | (have q := M1; clear q; go_at_call 47; refine (HBB.out _ _ _ _ M1.out.1 M1.out.2.2.2).mono ?_; rintro e w2 ⟨rfl, bv2, L2, m2⟩; rw [M1.out.2.1]; have M2 := hid m2; clear m2)
      | (go_at_call 47; refine (H.out _).mono ?_; rintro e w1 ⟨rfl, bv1, L1, m1⟩; have M1 := hid m1; clear m1))
    go_ret
    obtain ⟨a1, a2, a3, a4⟩ := M2.out
    rw [M1.out.2.1] at a2
    exact ⟨rfl, _, _, a1, a2, by have := M1.out.2.2.1; omega, a4⟩
  | false =>
    rw [hx] at H
    simp only [hx, Bool.false_eq_true, if_false]
    clear hx
    go_enter Tryz.func47, Tryz.ntmps47
    go_wp2_with (first
      | (have q := M1; clear q; go_at_call 47; refine (HCC.out _ _ _ _ M1.out.1 M1.out.2.2.2).mono ?_; rintro e w2 ⟨rfl, bv2, L2, m2⟩; rw [M1.out.2.1]; have M2 := hid m2; clear m2)
      | (go_at_call 47; refine (H.out _).mono ?_; rintro e w1 ⟨rfl, bv1, L1, m1⟩; have M1 := hid m1; clear m1))
    go_ret
    obtain ⟨a1, a2, a3, a4⟩ := M2.out
    rw [M1.out.2.1] at a2
    exact ⟨rfl, _, _, a1, a2, by have := M1.out.2.2.1; omega, a4⟩

set_option maxHeartbeats 1000000 in
set_option maxRecDepth 100000 in
theorem truth_bi (c : Ctx w0 B f fr sa gb) {m k : Nat} {op : Int} {Fa Fb : (Int → Bool) → Bool} (hi : f[m + 1]? = some (op, 0)) (ho : two op = true) (hs : fr[m]? = some (k + 1)) (hk : k < f.length)
    (HA : TruC 47 k w0 B b (.slice sa f.length ca) (.slice (some ⟨gb, 0, none⟩) f.length f.length) Fa) (HB : TruC 47 m w0 B b (.slice sa f.length ca) (.slice (some ⟨gb, 0, none⟩) f.length f.length) Fb) :
    TruC 47 (m + 1) w0 B b (.slice sa f.length ca) (.slice (some ⟨gb, 0, none⟩) f.length f.length) (fun e => if op = 6 then (Fa e && Fb e) else if op = 7 then (Fa e || Fb e) else if op = 8 then (Fa e != Fb e) else if op = 9 then (!Fa e || Fb e) else (Fa e == Fb e)) := by
  intro wk W bv L h hL
  obtain ⟨gf, of, rfl, hgf, p0, p1⟩ := c.node h.below hi
  have hlt := (List.getElem?_eq_some_iff.1 hi).1
  have hfew := c.few
  have c0 := fun j => cell_row h.row j
  have hb := h.size
  have hgf : gf < W.heap.size := by have := h.hB; omega
  have hgb : gb < W.heap.size := by have := (Array.getElem?_eq_some_iff.1 c.hg).1; rw [c.hw] at this; have := h.hB; omega
  have h0 := fun o => h.on ((Below.refl W.heap.size W).alloc (Nat.le_refl _) o)
  have H0 := hid h0
  have H := hid (fun o => HB _ _ _ _ (h0 o).re hL)
  have HAA := hid HA
  have HST : Hid (∀ W, Below B w0 W → W.cell? ⟨gb, m, none⟩ = some (.int .i64 ((k + 1 : Nat) : Int))) := fun W hW => c.start hW hs
  have HX : Hid (∀ {W4 : World} {bv4 : Value} {L4 : List Bool}, Wd (W.alloc (Obj.cells #[.int .i64 op, .int .i64 0] 49)) w0 W4 B b (.slice (some ⟨gf, of, none⟩) f.length ca) (.slice (some ⟨gb, 0, none⟩) f.length f.length) bv4 L4 → W4.heap[W.heap.size]? = some (Obj.cells #[.int .i64 op, .int .i64 0] 49)) := fun {W4 bv4 L4} h4 => h4.kept _ _ _ _ (heap_alloc_new W _) (by decide) (by omega)
  clear h hi c HA HB hs h0
  obtain ⟨x, hx⟩ : ∃ x, x = Fb (bitsE L) := ⟨_, rfl⟩
  obtain ⟨y, hy⟩ : ∃ y, y = Fa (bitsE L) := ⟨_, rfl⟩
  rw [← hx] at H
  simp only [← hx, ← hy]
  have HY := hid hy
  clear hx hy
  have fin : ∀ (w2 : World) (bv2 : Value) (L1 L2 : List Bool), (bitsE L1 = bitsE L ∧ L.length ≤ L1.length) → (Wd (W.alloc (Obj.cells #[.int .i64 op, .int .i64 0] 49)) w0 w2 B b (.slice (some ⟨gf, of, none⟩) f.length ca) (.slice (some ⟨gb, 0, none⟩) f.length f.length) bv2 L2 ∧ bitsE L2 = bitsE L1 ∧ L1.length ≤ L2.length ∧ L2.length ≤ 140737488351232) → ∃ bv' L', Wd wk w0 w2 B b (.slice (some ⟨gf, of, none⟩) f.length ca) (.slice (some ⟨gb, 0, none⟩) f.length f.length) bv' L' ∧ bitsE L' = bitsE L ∧ L.length ≤ L'.length ∧ L'.length ≤ 140737488351232 := fun w2 bv2 L1 L2 g1 g2 =>
    ⟨bv2, L2, (H0.out _).back g2.1, g2.2.1.trans g1.1, by omega, g2.2.2.2⟩
  have HFIN := hid fin
  clear fin
  rcases two_cases ho with rfl | rfl | rfl | rfl | rfl
  all_goals
    cases x <;> cases y
    all_goals
      go_enter Tryz.func47, Tryz.ntmps47
      go_wp2_with (first
        | (have q := M1; clear q; go_at_call 47; refine (HAA.out _ _ _ _ M1.out.1 M1.out.2.2.2).mono ?_; rintro e w2 ⟨rfl, bv2, L2, m2⟩; rw [M1.out.2.1, ← HY.out]; have x2 := fun j => cell_row (HX.out m2.1) j; have M2 := hid m2; clear m2)
        | (go_at_call 47; refine (H.out _).mono ?_; rintro e w1 ⟨rfl, bv1, L1, m1⟩; have x1 := fun j => cell_row (HX.out m1.1) j; have c1 := fun j => cell_row m1.1.row j; have hb1 := m1.1.size; have q1 := HST.out w1 m1.1.below; have M1 := hid m1; clear m1))
      go_ret
      exact ⟨rfl, HFIN.out _ _ _ _ ⟨M1.out.2.1, M1.out.2.2.1⟩ M2.out⟩

theorem truth_all (c : Ctx w0 B f fr sa gb) : ∀ (n : Nat) (t : Tr) (s : Nat), t.post.length ≤ n → t.good → Sub f fr s t → TruC 47 (s + t.post.length - 1) w0 B b (.slice sa f.length ca) (.slice (some ⟨gb, 0, none⟩) f.length f.length) t.says := by
  intro n
  induction n with
  | zero => intro t s h; have := post_pos t; omega
  | succ n ih =>
    intro t s hn hg hs
    have hr := hs.root
    cases t using Tr.cas with
    | lf x =>
      obtain ⟨o, v⟩ := x
      rcases hg with ⟨h1, h2⟩ | ⟨h1, h2, h3⟩
      · simp only at h1 h2
        subst h1
        have := truth_const (b := b) (ca := ca) (gv := .slice (some ⟨gb, 0, none⟩) f.length f.length) c hr h2
        exact this
      · simp only at h1 h2 h3
        subst h1
        obtain ⟨vn, rfl⟩ : ∃ vn : Nat, v = vn := ⟨v.toNat, by omega⟩
        have := truth_var (b := b) (ca := ca) (gv := .slice (some ⟨gb, 0, none⟩) f.length f.length) c hr (by omega)
        exact this
    | un x a =>
      obtain ⟨o, v⟩ := x
      have hpa := post_pos a
      have hl : (Tr.un (o, v) a).post.length = a.post.length + 1 := by simp [Tr.post_lf, Tr.post_un, Tr.post_bi, Tr.post_te]
      rw [hl] at hn hr ⊢
      obtain ⟨hx, ha⟩ := hg
      obtain ⟨i, hi⟩ : ∃ i, s + a.post.length = i + 1 := ⟨s + a.post.length - 1, by omega⟩
      have hA := ih a s (by omega) ha hs.un
      rw [show s + a.post.length - 1 = i by omega] at hA
      rw [show s + (a.post.length + 1) - 1 = i + 1 by omega] at hr ⊢
      cases hq : isQ o with
      | true =>
        obtain ⟨vn, rfl⟩ : ∃ vn : Nat, v = vn := ⟨v.toNat, by rcases hx with h | h <;> simp at h <;> omega⟩
        have hvn : vn < 65536 := by rcases hx with h | h <;> simp at h <;> omega
        have h1 := truth_qu c hr hq (tries_any c hr hq hvn _ hA)
        have hq' : o = 4 ∨ o = 5 := of_decide_eq_true hq
        rcases hq' with rfl | rfl
        · exact h1
        · exact h1
      | false =>
        have hx' : o = 3 ∧ v = 0 := by
          rcases hx with h | h
          · exact h
          · simp only [hq] at h; cases h.1
        obtain ⟨rfl, rfl⟩ := hx'
        exact truth_not c hr hA
    | bi x a b' =>
      obtain ⟨o, v⟩ := x
      have hpa := post_pos a
      have hpb := post_pos b'
      have hl : (Tr.bi (o, v) a b').post.length = a.post.length + b'.post.length + 1 := by simp [Tr.post_lf, Tr.post_un, Tr.post_bi, Tr.post_te]; omega
      rw [hl] at hn hr ⊢
      obtain ⟨⟨h2, hv⟩, ha, hb⟩ := hg
      have hv' : v = 0 := hv
      subst hv'
      obtain ⟨k, hk⟩ : ∃ k, s + a.post.length = k + 1 := ⟨s + a.post.length - 1, by omega⟩
      obtain ⟨m, hm⟩ : ∃ m, s + a.post.length + b'.post.length = m + 1 := ⟨s + a.post.length + b'.post.length - 1, by omega⟩
      have hA := ih a s (by omega) ha hs.bi1
      have hB := ih b' _ (by omega) hb hs.bi2
      have hra := hs.bi1.len
      have hst := hs.bi2.start
      rw [show s + a.post.length - 1 = k by omega] at hA
      rw [show s + a.post.length + b'.post.length - 1 = m by omega] at hB hst
      rw [hk] at hst
      rw [show s + (a.post.length + b'.post.length + 1) - 1 = m + 1 by omega] at hr ⊢
      exact truth_bi c hr h2 hst (by omega) hA hB
    | te x a b' d =>
      obtain ⟨o, v⟩ := x
      have hpa := post_pos a
      have hpb := post_pos b'
      have hpd := post_pos d
      have hl : (Tr.te (o, v) a b' d).post.length = a.post.length + b'.post.length + d.post.length + 1 := by simp [Tr.post_lf, Tr.post_un, Tr.post_bi, Tr.post_te]; omega
      rw [hl] at hn hr ⊢
      obtain ⟨⟨h2, hv⟩, ha, hb, hd⟩ := hg
      have h2' : o = 11 := h2
      have hv' : v = 0 := hv
      subst hv' h2'
      obtain ⟨l, hl⟩ : ∃ l, s + a.post.length = l + 1 := ⟨s + a.post.length - 1, by omega⟩
      obtain ⟨k, hk⟩ : ∃ k, s + a.post.length + b'.post.length = k + 1 := ⟨s + a.post.length + b'.post.length - 1, by omega⟩
      obtain ⟨m, hm⟩ : ∃ m, s + a.post.length + b'.post.length + d.post.length = m + 1 := ⟨s + a.post.length + b'.post.length + d.post.length - 1, by omega⟩
      have hA := ih a s (by omega) ha hs.te1
      have hB := ih b' _ (by omega) hb hs.te2
      have hD := ih d _ (by omega) hd hs.te3
      have hra := hs.te1.len
      have hrb := hs.te2.len
      have hst := hs.te3.start
      have hst2 := hs.te2.start
      rw [show s + a.post.length - 1 = l by omega] at hA
      rw [show s + a.post.length + b'.post.length - 1 = k by omega] at hB hst2
      rw [show s + a.post.length + b'.post.length + d.post.length - 1 = m by omega] at hD hst
      rw [hk] at hst
      rw [hl] at hst2
      rw [show s + (a.post.length + b'.post.length + d.post.length + 1) - 1 = m + 1 by omega] at hr ⊢
      exact truth_te c hr hst hst2 (by omega) (by omega) hA hB hD
end
end Go.Proofs.YtdkboifpdodonabGreatDoor.Doc
/-
  The document's own within.
-/
namespace Go.Proofs.YtdkboifpdodonabGreatDoor.Doc
open Go.RowKit Go.Deep PureCnf PureForm
set_option maxRecDepth 100000

/-- of each node of a tree how many quantifiers stand within one another there. -/
def winT : Tr → List Nat := Tr.fold (fun x => [(Tr.lf x).within]) (fun x a i => i ++ [(Tr.un x a).within]) (fun x a b i j => i ++ j ++ [(Tr.bi x a b).within]) (fun x a b c i j k => i ++ j ++ k ++ [(Tr.te x a b c).within])
theorem winT_lf (x : Nd) : winT (.lf x) = [(Tr.lf x).within] := rfl
theorem winT_un (x : Nd) (a : Tr) : winT (.un x a) = winT a ++ [(Tr.un x a).within] := rfl
theorem winT_bi (x : Nd) (a b : Tr) : winT (.bi x a b) = winT a ++ winT b ++ [(Tr.bi x a b).within] := rfl
theorem winT_te (x : Nd) (a b c : Tr) : winT (.te x a b c) = winT a ++ winT b ++ winT c ++ [(Tr.te x a b c).within] := rfl
theorem winT_len (t : Tr) : (winT t).length = t.post.length := by
  induction t using Tr.ind with
  | lf x => rfl
  | un x a ih => simp [winT_lf, winT_un, winT_bi, winT_te, Tr.post_lf, Tr.post_un, Tr.post_bi, Tr.post_te, ih]
  | bi x a b iha ihb => simp [winT_lf, winT_un, winT_bi, winT_te, Tr.post_lf, Tr.post_un, Tr.post_bi, Tr.post_te, iha, ihb]
  | te x a b c iha ihb ihc => simp [winT_lf, winT_un, winT_bi, winT_te, Tr.post_lf, Tr.post_un, Tr.post_bi, Tr.post_te, iha, ihb, ihc]
theorem winT_last (t : Tr) : (winT t)[t.post.length - 1]? = some t.within := by
  have key : ∀ (l : List Nat) (x n : Nat), n = l.length + 1 → (l ++ [x])[n - 1]? = some x := by
    intro l x n h; subst h; simp
  cases t using Tr.cas with
  | lf x => rfl
  | un x a => rw [winT_un]; exact key (winT a) _ _ (by rw [Tr.post_un, List.length_append, winT_len]; rfl)
  | bi x a b => rw [winT_bi]; exact key (winT a ++ winT b) _ _ (by rw [Tr.post_bi, List.length_append, List.length_append, List.length_append, winT_len, winT_len]; rfl)
  | te x a b c => rw [winT_te]; exact key (winT a ++ winT b ++ winT c) _ _ (by rw [Tr.post_te, List.length_append, List.length_append, List.length_append, List.length_append, List.length_append, winT_len, winT_len, winT_len]; rfl)
/-- a subtree with its starts and its numbers. -/
structure SubW (f : List Nd) (fr wn : List Nat) (s : Nat) (t : Tr) : Prop where
  sub : Sub f fr s t
  wins : ∀ k, k < t.post.length → wn[s + k]? = (winT t)[k]?
  good : t.good
section
variable {f : List Nd} {fr wn : List Nat} {s : Nat}
theorem SubW.win {t : Tr} (h : SubW f fr wn s t) : wn[s + t.post.length - 1]? = some t.within := by
  have hp := post_pos t
  rw [show s + t.post.length - 1 = s + (t.post.length - 1) by omega, h.wins _ (by omega)]
  exact winT_last t
theorem SubW.part {t a : Tr} {m : Nat} {g g' : List Nat} (h : SubW f fr wn s t) (ha : Sub f fr (s + m) a) (hf : winT t = g ++ winT a ++ g') (hg : g.length = m) (hl : m + a.post.length ≤ t.post.length) (hga : a.good) : SubW f fr wn (s + m) a := by
  refine ⟨ha, fun k hk => ?_, hga⟩
  rw [show s + m + k = s + (m + k) by omega, h.wins (m + k) (by omega), hf, List.append_assoc, List.getElem?_append_right (by omega), hg, List.getElem?_append_left (by rw [winT_len]; omega)]
  congr 1
  omega
theorem SubW.un {x : Nd} {a : Tr} (h : SubW f fr wn s (.un x a)) : SubW f fr wn s a :=
  h.part (m := 0) (g := []) (g' := [(Tr.un x a).within]) h.sub.un (by simp [winT_lf, winT_un, winT_bi, winT_te]) rfl (by simp [Tr.post_lf, Tr.post_un, Tr.post_bi, Tr.post_te]) h.good.2
theorem SubW.bi1 {x : Nd} {a b : Tr} (h : SubW f fr wn s (.bi x a b)) : SubW f fr wn s a :=
  h.part (m := 0) (g := []) (g' := winT b ++ [(Tr.bi x a b).within]) h.sub.bi1 (by simp [winT_lf, winT_un, winT_bi, winT_te]) rfl (by simp [Tr.post_lf, Tr.post_un, Tr.post_bi, Tr.post_te]) h.good.2.1
theorem SubW.bi2 {x : Nd} {a b : Tr} (h : SubW f fr wn s (.bi x a b)) : SubW f fr wn (s + a.post.length) b :=
  h.part (g := winT a) (g' := [(Tr.bi x a b).within]) h.sub.bi2 (by simp [winT_lf, winT_un, winT_bi, winT_te]) (winT_len a) (by simp [Tr.post_lf, Tr.post_un, Tr.post_bi, Tr.post_te] <;> omega) h.good.2.2
theorem SubW.te1 {x : Nd} {a b c : Tr} (h : SubW f fr wn s (.te x a b c)) : SubW f fr wn s a :=
  h.part (m := 0) (g := []) (g' := winT b ++ winT c ++ [(Tr.te x a b c).within]) h.sub.te1 (by simp [winT_lf, winT_un, winT_bi, winT_te]) rfl (by simp [Tr.post_lf, Tr.post_un, Tr.post_bi, Tr.post_te]) h.good.2.1
theorem SubW.te2 {x : Nd} {a b c : Tr} (h : SubW f fr wn s (.te x a b c)) : SubW f fr wn (s + a.post.length) b :=
  h.part (g := winT a) (g' := winT c ++ [(Tr.te x a b c).within]) h.sub.te2 (by simp [winT_lf, winT_un, winT_bi, winT_te]) (winT_len a) (by simp [Tr.post_lf, Tr.post_un, Tr.post_bi, Tr.post_te] <;> omega) h.good.2.2.1
theorem SubW.te3 {x : Nd} {a b c : Tr} (h : SubW f fr wn s (.te x a b c)) : SubW f fr wn (s + a.post.length + b.post.length) c := by
  have h3 := h.sub.te3
  rw [Nat.add_assoc] at h3 ⊢
  exact h.part (g := winT a ++ winT b) (g' := [(Tr.te x a b c).within]) h3 (by simp [winT_lf, winT_un, winT_bi, winT_te]) (by simp [winT_len]) (by simp [Tr.post_lf, Tr.post_un, Tr.post_bi, Tr.post_te] <;> omega) h.good.2.2.2
/-- each place is the root of a subtree. -/
theorem SubW.find (t : Tr) : ∀ s, SubW f fr wn s t → ∀ i, s ≤ i → i < s + t.post.length → ∃ s' u, SubW f fr wn s' u ∧ s' + u.post.length = i + 1 := by
  induction t using Tr.ind with
  | lf x => intro s h i h1 h2; simp [Tr.post_lf, Tr.post_un, Tr.post_bi, Tr.post_te] at h2; exact ⟨s, _, h, by simp [Tr.post_lf, Tr.post_un, Tr.post_bi, Tr.post_te]; omega⟩
  | un x a ih =>
    intro s h i h1 h2
    simp [Tr.post_lf, Tr.post_un, Tr.post_bi, Tr.post_te] at h2
    by_cases hi : i < s + a.post.length
    · exact ih s h.un i h1 hi
    · exact ⟨s, _, h, by simp [Tr.post_lf, Tr.post_un, Tr.post_bi, Tr.post_te]; omega⟩
  | bi x a b iha ihb =>
    intro s h i h1 h2
    simp [Tr.post_lf, Tr.post_un, Tr.post_bi, Tr.post_te] at h2
    by_cases hi : i < s + a.post.length
    · exact iha s h.bi1 i h1 hi
    · by_cases hj : i < s + a.post.length + b.post.length
      · exact ihb _ h.bi2 i (by omega) hj
      · exact ⟨s, _, h, by simp [Tr.post_lf, Tr.post_un, Tr.post_bi, Tr.post_te]; omega⟩
  | te x a b c iha ihb ihc =>
    intro s h i h1 h2
    simp [Tr.post_lf, Tr.post_un, Tr.post_bi, Tr.post_te] at h2
    by_cases hi : i < s + a.post.length
    · exact iha s h.te1 i h1 hi
    · by_cases hj : i < s + a.post.length + b.post.length
      · exact ihb _ h.te2 i (by omega) hj
      · by_cases hk : i < s + a.post.length + b.post.length + c.post.length
        · exact ihc _ h.te3 i (by omega) hk
        · exact ⟨s, _, h, by simp [Tr.post_lf, Tr.post_un, Tr.post_bi, Tr.post_te]; omega⟩
end
/-- where the operand ahead of these ends. -/
def nextK (s : Nat) : List (Nat × Nat) → Nat
  | (y, _) :: _ => y + 1
  | [] => s
/-- the operands' roots, the last first, with their numbers. -/
def Chain (fr wn : List Nat) (i s : Nat) : List (Nat × Nat) → Prop
  | [] => True
  | (x, v) :: r => x < i ∧ wn[x]? = some v ∧ fr[x]? = some (nextK s r) ∧ Chain fr wn i s r
def most (m : Nat) (l : List (Nat × Nat)) : Nat := l.foldl (fun a p => max a p.2) m
/-- what there is at a place. -/
structure Kids (f : List Nd) (fr wn : List Nat) (i s : Nat) (x : Nd) (r : List (Nat × Nat)) : Prop where
  node : f[i]? = some x
  arity : arityI x.1 = (r.length : Int)
  few : r.length ≤ 3
  chain : Chain fr wn i s r
  head : ∀ y v t, r = (y, v) :: t → y + 1 = i
  win : wn[i]? = some (most 0 r + if x.1 = 4 ∨ x.1 = 5 then 1 else 0)
theorem kids_of {f : List Nd} {fr wn : List Nat} {s i : Nat} {t : Tr} (h : SubW f fr wn s t) (hi : s + t.post.length = i + 1) : ∃ r, Kids f fr wn i s t.root r := by
  have hn := h.sub.root
  have hw := h.win
  rw [show s + t.post.length - 1 = i by omega] at hn hw
  have hg := h.good
  cases t using Tr.cas with
  | lf x =>
    obtain ⟨o, v⟩ := x
    have ho : o = 1 ∨ o = 2 := by rcases hg with h | h <;> simp at h <;> omega
    refine ⟨[], hn, ?_, by simp, trivial, (fun _ _ _ e => by cases e), ?_⟩
    · show arityI o = 0
      unfold arityI; rw [if_pos ho]
    · rw [hw]
      show some (Tr.within _) = some (most 0 [] + if o = 4 ∨ o = 5 then 1 else 0)
      rw [if_neg (by omega)]
      rfl
  | un x a =>
    obtain ⟨o, v⟩ := x
    have hpa := post_pos a
    simp only [Tr.post_lf, Tr.post_un, Tr.post_bi, Tr.post_te, List.length_append, List.length_cons, List.length_nil] at hi
    have ho : 3 ≤ o ∧ o ≤ 5 := by
      rcases hg.1 with h | h
      · simp at h; omega
      · have := of_decide_eq_true h.1
        simp at this; omega
    refine ⟨[(i - 1, a.within)], hn, ?_, by simp, ⟨by omega, ?_, ?_, trivial⟩, (fun y v t e => by cases e; omega), ?_⟩
    · show arityI o = 1
      unfold arityI; rw [if_neg (by omega), if_pos ho]
    · have := h.un.win
      rwa [show s + a.post.length - 1 = i - 1 by omega] at this
    · have := h.sub.un.start
      rw [show s + a.post.length - 1 = i - 1 by omega] at this
      exact this
    · rw [hw]
      show some (Tr.within _) = some (max 0 a.within + if o = 4 ∨ o = 5 then 1 else 0)
      (first | rw [Tr.within_un] | rw [Tr.within_bi] | rw [Tr.within_te] | rw [Tr.within_lf])
      by_cases hq : o = 4 ∨ o = 5
      · rw [if_pos hq, if_pos (by simpa [isQ] using hq)]; simp
      · rw [if_neg hq, if_neg (by simpa [isQ] using hq)]; simp
  | bi x a b =>
    obtain ⟨o, v⟩ := x
    have hpa := post_pos a
    have hpb := post_pos b
    simp only [Tr.post_lf, Tr.post_un, Tr.post_bi, Tr.post_te, List.length_append, List.length_cons, List.length_nil] at hi
    have ho : 6 ≤ o ∧ o ≤ 10 := of_decide_eq_true hg.1.1
    refine ⟨[(i - 1, b.within), (s + a.post.length - 1, a.within)], hn, ?_, by simp, ⟨by omega, ?_, ?_, by omega, h.bi1.win, h.sub.bi1.start, trivial⟩, (fun y v t e => by cases e; omega), ?_⟩
    · show arityI o = 2
      unfold arityI; rw [if_neg (by omega), if_neg (by omega), if_pos ho]
    · have := h.bi2.win
      rwa [show s + a.post.length + b.post.length - 1 = i - 1 by omega] at this
    · have := h.sub.bi2.start
      rw [show s + a.post.length + b.post.length - 1 = i - 1 by omega] at this
      rw [this]
      show some _ = some (s + a.post.length - 1 + 1)
      congr 1
      omega
    · rw [hw]
      show some (Tr.within _) = some (max (max 0 b.within) a.within + if o = 4 ∨ o = 5 then 1 else 0)
      (first | rw [Tr.within_un, if_neg (by omega)] | rw [Tr.within_bi, if_neg (by omega)] | rw [Tr.within_te, if_neg (by omega)] | rw [Tr.within_lf, if_neg (by omega)])
      congr 1
      omega
  | te x a b c =>
    obtain ⟨o, v⟩ := x
    have hpa := post_pos a
    have hpb := post_pos b
    have hpc := post_pos c
    simp only [Tr.post_lf, Tr.post_un, Tr.post_bi, Tr.post_te, List.length_append, List.length_cons, List.length_nil] at hi
    have ho : o = 11 := hg.1.1
    refine ⟨[(i - 1, c.within), (s + a.post.length + b.post.length - 1, b.within), (s + a.post.length - 1, a.within)], hn, ?_, by simp, ⟨by omega, ?_, ?_, by omega, h.te2.win, ?_, by omega, h.te1.win, h.sub.te1.start, trivial⟩, (fun y v t e => by cases e; omega), ?_⟩
    · show arityI o = 3
      unfold arityI; rw [if_neg (by omega), if_neg (by omega), if_neg (by omega), if_pos ho]
    · have := h.te3.win
      rwa [show s + a.post.length + b.post.length + c.post.length - 1 = i - 1 by omega] at this
    · have := h.sub.te3.start
      rw [show s + a.post.length + b.post.length + c.post.length - 1 = i - 1 by omega] at this
      rw [this]
      show some _ = some (s + a.post.length + b.post.length - 1 + 1)
      congr 1
      omega
    · have := h.sub.te2.start
      rw [this]
      show some _ = some (s + a.post.length - 1 + 1)
      congr 1
      omega
    · rw [hw]
      show some (Tr.within _) = some (max (max (max 0 c.within) b.within) a.within + if o = 4 ∨ o = 5 then 1 else 0)
      (first | rw [Tr.within_un, if_neg (by omega)] | rw [Tr.within_bi, if_neg (by omega)] | rw [Tr.within_te, if_neg (by omega)] | rw [Tr.within_lf, if_neg (by omega)])
      congr 1
      omega
end Go.Proofs.YtdkboifpdodonabGreatDoor.Doc
/-
  The document's own within: the walk.
-/
namespace Go.Proofs.YtdkboifpdodonabGreatDoor.Doc
open Go.RowKit Go.Deep PureCnf PureForm
set_option maxRecDepth 100000

theorem Stg.drewN {w W : World} {fb n : Nat} {F R : List Nat} {rv : Value} (h : Stg w W fb n F R rv) (k : Nat) : Stg w (W.drewN k) fb n F R rv := ⟨h.row, h.own, below_drewN h.below k⟩
theorem Stg.pad {w W : World} {fb n : Nat} {F R : List Nat} {rv : Value} (h : Stg w W fb n F R rv) (hlt : F.length < n) : Stg w W fb n (F ++ [0]) R rv := by
  refine ⟨?_, h.own, h.below⟩
  rw [h.row]
  obtain ⟨m, hm⟩ : ∃ m, n - F.length = m + 1 := ⟨n - F.length - 1, by omega⟩
  have h2 : n - (F ++ [0]).length = m := by simp; omega
  rw [hm, h2, List.replicate_succ]
  simp

theorem within_le (t : Tr) : t.within ≤ t.post.length := by
  induction t using Tr.ind with
  | lf x => simp [Tr.within_lf, Tr.within_un, Tr.within_bi, Tr.within_te]
  | un x a ih => simp only [Tr.within_lf, Tr.within_un, Tr.within_bi, Tr.within_te, Tr.post_lf, Tr.post_un, Tr.post_bi, Tr.post_te, List.length_append, List.length_cons, List.length_nil]; split <;> omega
  | bi x a b iha ihb => simp only [Tr.within_lf, Tr.within_un, Tr.within_bi, Tr.within_te, Tr.post_lf, Tr.post_un, Tr.post_bi, Tr.post_te, List.length_append, List.length_cons, List.length_nil]; omega
  | te x a b c iha ihb ihc => simp only [Tr.within_lf, Tr.within_un, Tr.within_bi, Tr.within_te, Tr.post_lf, Tr.post_un, Tr.post_bi, Tr.post_te, List.length_append, List.length_cons, List.length_nil]; omega
theorem le_most (l : List (Nat × Nat)) : ∀ m, m ≤ most m l := by
  induction l with
  | nil => intro m; exact Nat.le_refl _
  | cons p r ih =>
    intro m
    have : most m (p :: r) = most (max m p.2) r := rfl
    rw [this]
    have := ih (max m p.2)
    omega
theorem most_cons (m y v : Nat) (r : List (Nat × Nat)) : most m ((y, v) :: r) = most (max m v) r := rfl

set_option maxHeartbeats 2000000 in
set_option maxRecDepth 100000 in
theorem within_any (f : List Nd) (sa : Option Addr) (ca gb : Nat) (w : World) (t : Tr) (ht : treeOf f = some t) (hf : NodesAt w sa f) (hg : w.heap[gb]? = some (.cells (cn (fromT t 0)).toArray 3 (0, 0))) (hl : f.length ≤ 65536) :
    Calls Tryz.prog 46 #[.slice sa f.length ca, .slice (some ⟨gb, 0, none⟩) f.length f.length] w fun e w' => e = .returned (.int .i64 (t.within : Int)) ∧ Below w.heap.size w w' := by
  obtain ⟨hgd, hp⟩ := treeOf_some ht
  have hpl : t.post.length = f.length := by rw [hp]
  have hpos := post_pos t
  have hwl : (winT t).length = f.length := by rw [winT_len, hpl]
  have hmk : ∀ W : World, (Instr.makeSlice 36 (.int .i64 (f.length : Int)) (.int .i64 (f.length : Int))).run Tryz.prog W = .ok (.slice (some ⟨W.heap.size, 0, none⟩) f.length f.length) (W.alloc (.cells (cn (List.replicate f.length 0)).toArray 3)) := fun W => by
    have := run_make_row' (P := Tryz.prog) 36 3 (.int .i64 0) 8 Tryz.underlying36 info3 rfl .i64 .i64 f.length (by omega) (by omega) W
    rwa [made_zeros] at this
  have HST0 : Hid (Stg w (w.alloc (.cells (cn (List.replicate f.length 0)).toArray 3)) w.heap.size f.length ((winT t).take 0) [] (.slice none 0 0)) := ⟨by rw [heap_alloc_new]; simp, World.ownsRow_nil _ _ _ _, (Below.refl _ _).alloc (Nat.le_refl _) _⟩
  have hgl : gb < w.heap.size := (Array.getElem?_eq_some_iff.1 hg).1
  have HSW : Hid (SubW f (fromT t 0) (winT t) 0 t) := ⟨Sub.whole ht, fun k _ => by rw [Nat.zero_add], hgd⟩
  have HWIN : Hid ((winT t)[f.length - 1]? = some t.within) := by show _ = _; rw [← hpl]; exact winT_last t
  have HF := hid hf
  have HG := hid hg
  have HWL := hid hwl
  have HPL := hid hpl
  have hnp : 0 < f.length := by omega
  clear ht hf hg hp hgd hwl hpl hpos
  go_enter Tryz.func46, Tryz.ntmps46
  go_wp2
  go_loopw [6] (fun iv W => ∃ i : Nat, i ≤ f.length ∧ iv = .int .i64 (i : Int) ∧ Hid (Stg w W w.heap.size f.length ((winT t).take i) [] (.slice none 0 0))) (fun iv _ => f.length - (intOf iv).toNat)
  case atStart => exact ⟨0, Nat.zero_le _, rfl, HST0.out⟩
  case round =>
    clear HST0 hmk
    obtain ⟨i, hi, rfl, HS⟩ := hrel
    by_cases hlt : i < f.length
    · obtain ⟨s, u, hu, hsu⟩ := SubW.find t 0 HSW.out i (Nat.zero_le _) (by rw [HPL.out]; omega)
      obtain ⟨r, K⟩ := kids_of hu hsu
      obtain ⟨x, hx⟩ : ∃ x, x = u.root := ⟨_, rfl⟩
      rw [← hx] at K
      have hsi : s ≤ i := by have := post_pos u; omega
      have htot : most 0 r ≤ 65536 := by
        have h1 := hu.win
        rw [show s + u.post.length - 1 = i by omega, K.win] at h1
        simp only [Option.some.injEq] at h1
        have h2 := within_le u
        have h3 := hu.sub.len
        omega
      have HTOT := hid htot
      clear hu hsu hx htot
      have hfx := K.node
      obtain ⟨_, hfx'⟩ := List.getElem?_eq_some_iff.1 hfx
      obtain ⟨gf, of, rfl, hgf, a0, a1⟩ := HF.out.at_ i hlt
      rw [hfx'] at a0
      have HA0 : Hid (∀ W, Below w.heap.size w W → W.cell? ⟨gf, of + i * 2, none⟩ = some (.int .i64 x.1)) := fun W hW => below_cell hW hgf a0
      have p0 := HA0.out _ HS.out.below
      have HAR := hid (fun W => arity_any x.1 W)
      rw [K.arity] at HAR
      have HK := hid K
      have htl : ((winT t).take i).length = i := by simp [HWL.out]; omega
      have HTL := hid htl
      have HS1 := hid (HS.out.pad (by rw [htl]; exact hlt))
      have HDD : Hid (∀ (W : World) (m : Nat), Stg w W w.heap.size f.length ((winT t).take i ++ [m]) [] (.slice none 0 0) → W.cell? ⟨w.heap.size, i, none⟩ = some (.int .i64 (m : Int))) := fun W m h => h.cell (by rw [List.getElem?_append_right (by rw [HTL.out]; exact Nat.le_refl _), HTL.out]; simp)
      have HDK : Hid (∀ (W : World) (m y v : Nat), Stg w W w.heap.size f.length ((winT t).take i ++ [m]) [] (.slice none 0 0) → y < i → (winT t)[y]? = some v → W.cell? ⟨w.heap.size, y, none⟩ = some (.int .i64 (v : Int))) := fun W m y v h hy e => h.cell (by rw [List.getElem?_append_left (by rw [HTL.out]; exact hy), List.getElem?_take_of_lt hy]; exact e)
      have HFR : Hid (∀ (W : World) (y v : Nat), Below w.heap.size w W → (fromT t 0)[y]? = some v → W.cell? ⟨gb, y, none⟩ = some (.int .i64 (v : Int))) := fun W y v hW e => by
        have hr := (hW.block gb hgl).trans HG.out
        rw [cell_row hr]
        simp only [cn, List.getElem?_toArray, List.getElem?_map, e]
        rfl
      obtain ⟨xo, xv⟩ := x
      simp only at HAR p0 HA0
      clear K htl hfx hfx' a0 a1
      go_wp2_with (go_at_call 66; refine (HAR.out _).mono ?_; rintro e w9 ⟨rfl, hw9⟩; rw [hw9]; clear hw9 w9)
      go_loopw [7, 8] (fun kv jv W => ∃ (rest : List (Nat × Nat)) (m : Nat) (kI : Int), kv = .int .i64 kI ∧ jv = .int .i64 (rest.length : Int) ∧ rest.length ≤ 3 ∧ (∀ y v r', rest = (y, v) :: r' → kI = (y : Int)) ∧ Hid (Chain (fromT t 0) (winT t) i s rest ∧ most m rest = most 0 r ∧ Stg w W w.heap.size f.length ((winT t).take i ++ [m]) [] (.slice none 0 0))) (fun _ jv _ => (intOf jv).toNat)
      case atStart => exact ⟨r, 0, (i : Int) - 1, rfl, rfl, HK.out.few, fun y v r' e => by have := HK.out.head y v r' e; omega, HK.out.chain, rfl, HS1.out⟩
      case round =>
        clear HS HS1 HAR p0
        obtain ⟨rest, m, kI, rfl, rfl, hr3, hkI, HR⟩ := hrel
        obtain ⟨hch, hmo, hst⟩ := HR.out
        have HCH := hid hch
        have HMO := hid hmo
        have HS2 := hid hst
        have d0 := HDD.out _ _ hst
        have p1 := HA0.out _ hst.below
        have f0 := fun j => unfrozen_row hst.row j
        have hsz := (Array.getElem?_eq_some_iff.1 hst.row).1
        have hm : m ≤ 65536 := by have := le_most rest m; have := HTOT.out; omega
        clear HR hch hmo hst
        cases rest with
        | nil =>
          have htm : m = most 0 r := HMO.out
          have HW : Hid ((winT t).take (i + 1) = (winT t).take i ++ [m + if xo = 4 ∨ xo = 5 then 1 else 0]) := by
            have h1 := HK.out.win
            rw [← htm] at h1
            show _ = _
            rw [List.take_add_one, h1]
            rfl
          have HAG : Hid (∀ x : Nat, Stg w (wr.setCell ⟨w.heap.size, i, none⟩ (.int .i64 (x : Int))) w.heap.size f.length ((winT t).take i ++ [x]) [] (.slice none 0 0)) := fun x => by
            have h1 := HS2.out.again x
            rwa [HTL.out] at h1
          clear hkI htm
          by_cases h4 : xo = 4
          · subst h4
            have HW2 : Hid ((winT t).take (i + 1) = (winT t).take i ++ [m + 1]) := by show _ = _; rw [HW.out, if_pos (by omega)]
            go_wp2
            have h1 := HAG.out (m + 1)
            rw [show ((m + 1 : Nat) : Int) = (m : Int) + 1 by omega] at h1
            exact ⟨⟨i + 1, hlt, by go_num, by show Stg _ _ _ _ _ _ _; rw [HW2.out]; exact h1⟩, by simp [intOf]; omega⟩
          · have b4 : (xo == 4) = false := by rw [beq_eq_false_iff_ne]; exact h4
            by_cases h5 : xo = 5
            · subst h5
              have HW2 : Hid ((winT t).take (i + 1) = (winT t).take i ++ [m + 1]) := by show _ = _; rw [HW.out, if_pos (by omega)]
              go_wp2
              have h1 := HAG.out (m + 1)
              rw [show ((m + 1 : Nat) : Int) = (m : Int) + 1 by omega] at h1
              exact ⟨⟨i + 1, hlt, by go_num, by show Stg _ _ _ _ _ _ _; rw [HW2.out]; exact h1⟩, by simp [intOf]; omega⟩
            · have b5 : (xo == 5) = false := by rw [beq_eq_false_iff_ne]; exact h5
              have HW2 : Hid ((winT t).take (i + 1) = (winT t).take i ++ [m]) := by show _ = _; rw [HW.out, if_neg (by omega)]; simp
              clear h4 h5
              go_wp2
              exact ⟨⟨i + 1, hlt, by go_num, by show Stg _ _ _ _ _ _ _; rw [HW2.out]; exact HS2.out⟩, by simp [intOf]; omega⟩
        | cons z r' =>
          obtain ⟨y, v⟩ := z
          obtain rfl : kI = (y : Int) := hkI y v r' rfl
          obtain ⟨hy, hv, hfy, hch'⟩ := HCH.out
          obtain ⟨nx, hnx⟩ : ∃ nx, nx = nextK s r' := ⟨_, rfl⟩
          rw [← hnx] at hfy
          have dy := HDK.out _ _ _ _ HS2.out hy hv
          have fy := HFR.out _ _ _ HS2.out.below hfy
          have HNX := hid hnx
          have HC' := hid hch'
          have hlen : ((r'.length + 1 : Nat) : Int) = (r'.length : Int) + 1 := by omega
          clear hkI hv hfy hch' hnx
          simp only [List.length_cons] at hr3 ⊢
          have hne : gb ≠ w.heap.size := by omega
          have hnxi : nx ≤ i := by
            rw [HNX.out]
            cases r' with
            | nil => exact hsi
            | cons z q => obtain ⟨y2, v2⟩ := z; have := HC'.out.1; show y2 + 1 ≤ i; omega
          have HHD : Hid (∀ y v q, r' = (y, v) :: q → (nx : Int) - 1 = (y : Int)) := fun y v q e => by rw [HNX.out, e]; show ((y + 1 : Nat) : Int) - 1 = y; omega
          have HAG : Hid (∀ x : Nat, Stg w ((wr.setCell ⟨w.heap.size, i, none⟩ (.int .i64 (x : Int))).drew) w.heap.size f.length ((winT t).take i ++ [x]) [] (.slice none 0 0)) := fun x => by
            have h1 := HS2.out.again x
            rw [HTL.out] at h1
            exact h1.drewN 1
          have hvm : v ≤ 65536 := by
            have h1 := HMO.out
            rw [most_cons] at h1
            have := le_most r' (max m v)
            have := HTOT.out
            omega
          rcases Nat.lt_trichotomy m v with hmv | hmv | hmv
          · have HM2 : Hid (most v r' = most 0 r) := by show _ = _; rw [← HMO.out, most_cons, Nat.max_eq_right (by omega)]
            have hmx : max (m : Int) (v : Int) = (v : Int) := by omega
            go_wp2
            go_region
            go_wp2
            exact ⟨⟨r', v, (nx : Int) - 1, by go_num, rfl, by omega, HHD.out, HC'.out, HM2.out, HAG.out v⟩, by simp [intOf]⟩
          · subst hmv
            have HM2 : Hid (most m r' = most 0 r) := by show _ = _; rw [← HMO.out, most_cons, Nat.max_self]
            go_wp2
            go_region
            go_wp2
            exact ⟨⟨r', m, (nx : Int) - 1, by go_num, rfl, by omega, HHD.out, HC'.out, HM2.out, HAG.out m⟩, by simp [intOf]⟩
          · have HM2 : Hid (most m r' = most 0 r) := by show _ = _; rw [← HMO.out, most_cons, Nat.max_eq_left (by omega)]
            have hmx : max (m : Int) (v : Int) = (m : Int) := by omega
            go_wp2
            go_region
            go_wp2
            exact ⟨⟨r', m, (nx : Int) - 1, by go_num, rfl, by omega, HHD.out, HC'.out, HM2.out, HAG.out m⟩, by simp [intOf]⟩
    · have hin : i = f.length := by omega
      have HB := hid HS.out.below
      have hcell := HS.out.cell (k := f.length - 1) (b := t.within) (by rw [hin, List.getElem?_take_of_lt (by omega)]; exact HWIN.out)
      obtain ⟨n, hn⟩ : ∃ n, f.length = n + 1 := ⟨f.length - 1, by omega⟩
      rw [show f.length - 1 = n by omega] at hcell
      have HN := hid hn
      have hnI : (f.length : Int) - 1 = (n : Int) := by omega
      clear hn HS
      go_wp2
      go_ret
      exact ⟨rfl, HB.out⟩
end Go.Proofs.YtdkboifpdodonabGreatDoor.Doc
