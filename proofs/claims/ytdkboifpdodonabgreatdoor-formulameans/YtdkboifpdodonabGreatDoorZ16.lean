import Derived.Test.YtdkboifpdodonabGreatDoorZ15
set_option linter.unusedSimpArgs false
/-
  The document's own Eval.
-/
namespace Go.Proofs.YtdkboifpdodonabGreatDoor.Doc
open Go.RowKit Go.Deep PureCnf PureForm
set_option maxRecDepth 100000

/-- truths that can be read there. -/
structure BitsAt (W : World) (sb : Option Addr) (L : List Bool) : Prop where
  at_ : ∀ k (hk : k < L.length), ∃ g o, sb = some ⟨g, o, none⟩ ∧ g < W.heap.size ∧ W.cell? ⟨g, o + k, none⟩ = some (.bool L[k])
theorem BitsAt.below {w W : World} {sb : Option Addr} {L : List Bool} (h : BitsAt w sb L) (hb : Below w.heap.size w W) : BitsAt W sb L := ⟨fun k hk => by
  obtain ⟨g, o, e, hg, c0⟩ := h.at_ k hk
  exact ⟨g, o, e, Nat.lt_of_lt_of_le hg hb.size, below_cell hb hg c0⟩⟩
/-- what Eval answers. -/
def evalV (r : Except Nat Bool) : Value := match r with
  | .ok b => .tuple #[.bool b, .int .i64 0]
  | .error n => .tuple #[.bool false, .int .i64 (n : Int)]
def EvalC (g : Nat) : Prop := ∀ (f : List Nd) (sa : Option Addr) (ca : Nat) (L : List Bool) (sb : Option Addr) (cb : Nat) (w : World), NodesAt w sa f → BitsAt w sb L → f.length ≤ 9223372036854775807 → L.length ≤ 140737488351232 →
  Calls Tryz.prog g #[.slice sa f.length ca, .slice sb L.length cb] w fun e w' => e = .returned (evalV (evalF f L)) ∧ Below w.heap.size w w'

/-- the append of one truth in a drawn region, whatever the length. -/
theorem step_bit {ops : Array Oper} {o : Oper} {a : Act} {w : World} {K : Act → World → Prop} {Q : Exit → Act → World → Prop} {X : Prop} (hgd : o.guard = none) (sl x : Operand)
    (ho : o.op = .call { callee := .builtin .append, args := #[sl, x], argTypes := #[41, 41] }) (B n : Nat) (v : Value) (xs news : List Value) (ad : Addr) (hs : a.eval sl = v) (hown : w.ownsRow B 4 1 v n xs) (hx : a.eval x = .slice (some ad) 1 1)
    (hl : news.length = 1) (hnews : ∀ j u, news[j]? = some u → w.cell? (ad.add j) = some u) (h1 : ∀ u ∈ news, u.oneCell' = true) (hn : n ≤ 140737488351232) (hB : B ≤ w.heap.size)
    (h : ∀ v' w', w'.ownsRow B 4 1 v' (n + 1) (xs ++ news) → w.grownBy w' v.ownBlock → K (a.put o.dst v') w') : if Region.wanted o (yielded ops a.tmps) = true then Oper.wp Tryz.prog o a w K Q else X := by
  have hw : Region.wanted o (yielded ops a.tmps) = true := by simp [Region.wanted, hgd]
  rw [if_pos hw]
  obtain ⟨i, hi, hz0, hz1, hz2⟩ := info_parts info4
  obtain ⟨v', w', hr, h2, h3, _⟩ := run_append_own (P := Tryz.prog) w B 41 o.type 4 i _ 1 1 Tryz.underlying41 hi hz0 hz1 hz2 rfl (by decide) v n xs hown ad 1 1 news (by rw [hl]) hnews h1 (by unfold maxLen; omega) (by omega) hB
  unfold Oper.wp execOp
  simp only [ho, resolve, invoke, builtin, Sem.run_bind, Sem.run_pure, Result.andThen_ok, List.map_toArray, List.map_cons, List.map_nil, hs, hx, hr]
  exact h v' w' h2 h3

set_option maxHeartbeats 2000000 in
set_option maxRecDepth 100000 in
theorem eval_any : EvalC 19 := by
  intro f sa ca L sb cb w hf hb hl hL
  have HF := hid (formed_any f sa ca w hf hl)
  cases hfm : formedF f with
  | false =>
    rw [hfm] at HF
    have HE := hid (evalF_no (l := L) hfm)
    clear hf hb hfm
    go_enter Tryz.func19, Tryz.ntmps19
    go_wp2_with (go_at_call 21; refine HF.out.mono ?_; rintro e w1 ⟨rfl, b1⟩; have B1 := hid b1; clear b1)
    exact bodyPost_ret (v := .tuple #[.bool false, .int .i64 134]) (by simp [results, Tryz.results19, go_sem]) rfl ⟨by rw [HE.out]; rfl, B1.out⟩
  | true =>
    rw [hfm] at HF
    obtain ⟨t, ht, hlen⟩ : ∃ t, treeOf f = some t ∧ f.length ≤ 65536 := by
      unfold formedF at hfm
      split at hfm
      · next t ht => exact ⟨t, ht, (of_decide_eq_true hfm).1⟩
      · cases hfm
    obtain ⟨hgd, hp⟩ := treeOf_some ht
    have hpl : t.post.length = f.length := by rw [hp]
    have hpos := post_pos t
    have HS : Hid (∀ W, Below w.heap.size w W → Calls Tryz.prog 45 #[.slice sa f.length ca] W fun e w' => (e = .returned (.tuple #[.slice (some ⟨W.heap.size, 0, none⟩) f.length f.length, .bool true]) ∧ w'.heap[W.heap.size]? = some (.cells (cn (fromT t 0)).toArray 3 (0, 0))) ∧ Below W.heap.size W w') := fun W hW => by
      refine (starts_small f sa ca W (hf.below hW) (by omega) hlen).mono ?_
      rintro e w' ⟨h, hb⟩
      unfold Started at h
      rw [ht] at h
      exact ⟨h, hb⟩
    have HWI : Hid (∀ W gb, Below w.heap.size w W → W.heap[gb]? = some (.cells (cn (fromT t 0)).toArray 3 (0, 0)) → Calls Tryz.prog 46 #[.slice sa f.length ca, .slice (some ⟨gb, 0, none⟩) f.length f.length] W fun e w' => e = .returned (.int .i64 (t.within : Int)) ∧ Below W.heap.size W w') := fun W gb hW hr => within_any f sa ca gb W t ht (hf.below hW) hr hlen
    have hwl := within_le t
    by_cases h8 : 8 < (t.within : Int)
    · have HE := hid (evalF_many (l := L) ht hfm (by omega))
      clear hf hb hfm ht hgd hp hpl hpos
      go_enter Tryz.func19, Tryz.ntmps19
      go_wp2_with (first
        | (have q := B2; clear q; go_at_call 46; refine (HWI.out _ _ B2.out R2.out).mono ?_; rintro e w3 ⟨rfl, b3⟩; have B3 := hid (B2.out.trans (b3.mono B2.out.size)); clear b3)
        | (have q := B1; clear q; go_at_call 45; refine (HS.out _ B1.out).mono ?_; rintro e w2 ⟨⟨rfl, r2⟩, b2⟩; have R2 := hid r2; have B2 := hid (B1.out.trans (b2.mono B1.out.size)); clear b2 r2)
        | (go_at_call 21; refine HF.out.mono ?_; rintro e w1 ⟨rfl, b1⟩; have B1 := hid b1; clear b1))
      exact bodyPost_ret (v := .tuple #[.bool false, .int .i64 8]) (by simp [results, Tryz.results19, go_sem]) rfl ⟨by rw [HE.out]; rfl, B3.out⟩
    · have HE := hid (evalF_of (l := L) ht hfm (by omega))
      obtain ⟨m, hm⟩ : ∃ m, f.length = m + 1 := ⟨f.length - 1, by omega⟩
      have HM := hid hm
      have HPL := hid hpl
      have HSUB := hid (Sub.whole ht)
      have HNA := hid hf
      have HBA := hid hb
      have HG := hid hgd
      clear hf hb hfm ht hgd hp hpl hpos hm
      go_enter Tryz.func19, Tryz.ntmps19
      go_wp2_with (first
        | (have q := B2; clear q; go_at_call 46; refine (HWI.out _ _ B2.out R2.out).mono ?_; rintro e w3 ⟨rfl, b3⟩; have R3 := hid ((b3.block _ (Array.getElem?_eq_some_iff.1 R2.out).1).trans R2.out); have B3 := hid (B2.out.trans (b3.mono B2.out.size)); clear b3)
        | (have q := B1; clear q; go_at_call 45; refine (HS.out _ B1.out).mono ?_; rintro e w2 ⟨⟨rfl, r2⟩, b2⟩; have R2 := hid r2; have B2 := hid (B1.out.trans (b2.mono B1.out.size)); clear b2 r2)
        | (go_at_call 21; refine HF.out.mono ?_; rintro e w1 ⟨rfl, b1⟩; have B1 := hid b1; clear b1))
      have M0 : Hid (Wd w3 w3 (w3.alloc (Obj.cells #[.slice sa f.length ca, .slice (some ⟨w1.heap.size, 0, none⟩) f.length f.length, .slice none 0 0] 94)) w3.heap.size w3.heap.size (.slice sa f.length ca) (.slice (some ⟨w1.heap.size, 0, none⟩) f.length f.length) (.slice none 0 0) (L.take 0)) :=
        ⟨heap_alloc_new w3 _, by rw [List.take_zero]; exact World.ownsRow_nil _ _ _ _, Nat.le_refl _, (Below.refl _ _).alloc (Nat.le_refl _) _, fun k cs t fz e _ _ => (((Below.refl w3.heap.size w3).alloc (Nat.le_refl _) _).block k (Array.getElem?_eq_some_iff.1 e).1).trans e⟩
      go_loopw [11] (fun iv W => ∃ (i : Nat) (bv : Value), i ≤ L.length ∧ iv = .int .i64 (i : Int) ∧ Hid (Wd w3 w3 W w3.heap.size w3.heap.size (.slice sa f.length ca) (.slice (some ⟨w1.heap.size, 0, none⟩) f.length f.length) bv (L.take i))) (fun iv _ => L.length - (intOf iv).toNat)
      case atStart => exact ⟨0, _, Nat.zero_le _, rfl, M0.out⟩
      case round =>
        clear M0
        obtain ⟨i, bv, hi, rfl, HR⟩ := hrel
        have hwd := HR.out
        have hlt' : (L.take i).length = i := by simp; omega
        by_cases hlt : i < L.length
        · obtain ⟨gx, ox, rfl, hgx, a0⟩ := HBA.out.at_ i hlt
          have hbw : Below w.heap.size w wr := B3.out.trans (hwd.below.mono B3.out.size)
          have cx := below_cell hbw hgx a0
          have hgx2 : gx < wr.heap.size := Nat.lt_of_lt_of_le hgx hbw.size
          obtain ⟨x, hx⟩ : ∃ x, x = L[i] := ⟨_, rfl⟩
          rw [← hx] at cx
          have HT : Hid (L.take (i + 1) = L.take i ++ [x]) := by show _ = _; rw [hx, List.take_succ_eq_append_getElem hlt]
          obtain ⟨P, hP⟩ : ∃ P, P = L.take i := ⟨_, rfl⟩
          rw [← hP] at HT hwd hlt' HR
          obtain ⟨sx, cx', rfl⟩ := own_shape hwd.own
          have c0 := fun j => cell_row hwd.row j
          have hb0 := hwd.size
          have HLT := hid hlt'
          clear hx a0 hbw hwd hlt' hP
          have R := hid ((HR.out.on ((Below.refl _ _).alloc (Nat.le_refl _) (Obj.cells #[.bool x] 4))).drewN 1)
          have N : Hid ((wr.alloc (Obj.cells #[.bool x] 4)).drew.heap[wr.heap.size]? = some (Obj.cells #[.bool x] 4)) := heap_alloc_new wr _
          go_wp2
          go_region_law (refine step_bit rfl _ _ rfl w3.heap.size P.length (.slice sx P.length cx') (bo P) [.bool x] ⟨wr.heap.size, 0, none⟩ rfl R.out.own rfl rfl (fun j u hu => by rw [add_zero_addr, cell_row N.out]; simpa using hu) (fun u hu => by simp at hu; subst hu; rfl) (by rw [HLT.out]; omega) (by have := R.out.size; exact Nat.le_of_lt this) ?_; intro v5 w5 o5 g5; obtain ⟨s2, c2, rfl⟩ := own_shape o5; obtain ⟨r5, m5⟩ := R.out.grow o5 g5; have c5 := fun j => cell_row r5 j; have f5 := fun j => unfrozen_row r5 j; have hb5 := (Array.getElem?_eq_some_iff.1 r5).1; have M5 := hid m5; clear o5 g5 r5 m5)
          all_goals go_wp2
          all_goals exact ⟨⟨i + 1, _, hlt, by go_num, by show Wd _ _ _ _ _ _ _ _ _; rw [HT.out]; exact M5.out⟩, by simp [intOf]; omega⟩
        · have hin : i = L.length := by omega
          have c0 := fun j => cell_row hwd.row j
          have hb0 := hwd.size
          have HWD : Hid (Wd w3 w3 wr w3.heap.size w3.heap.size (.slice sa f.length ca) (.slice (some ⟨w1.heap.size, 0, none⟩) f.length f.length) bv L) := by
            have := hwd
            rwa [hin, List.take_length] at this
          have HTC : Hid (Calls Tryz.prog 47 #[.pointer (some ⟨w3.heap.size, 0, none⟩), .int .i64 ((f.length : Int) - 1)] wr fun e W' => e = .returned (.bool (t.says (bitsE L))) ∧ Below w.heap.size w W') := by
            have c : Ctx w3 w3.heap.size f (fromT t 0) sa w1.heap.size := ⟨rfl, HNA.out.below B3.out, R3.out, by rw [fromT_len]; exact HPL.out, hlen⟩
            have h1 := truth_all (b := w3.heap.size) (ca := ca) c _ t 0 (Nat.le_refl _) HG.out HSUB.out w3 wr bv L HWD.out hL
            rw [show ((0 + t.post.length - 1 : Nat) : Int) = (f.length : Int) - 1 by have := HPL.out; have := HM.out; omega] at h1
            refine h1.mono ?_
            rintro e W' ⟨he, bv', L', hw', _⟩
            exact ⟨he, B3.out.trans (hw'.below.mono B3.out.size)⟩
          clear HR hwd hlt'
          go_wp2_with (go_at_call 47; refine HTC.out.mono ?_; rintro e w5 ⟨rfl, b5⟩; have B5 := hid b5; clear b5)
          exact bodyPost_ret (v := .tuple #[.bool (t.says (bitsE L)), .int .i64 0]) (by simp [results, Tryz.results19, go_sem]) rfl ⟨by rw [HE.out]; rfl, B5.out⟩
end Go.Proofs.YtdkboifpdodonabGreatDoor.Doc
/-
  The rows of this seat: truths that came in.
-/

namespace Go.Proofs.YtdkboifpdodonabGreatDoor
open Go.ChangeShapes Go.WideShapes Go.ChangeAt Go.RowKit Go.Deep PureCnf PureForm

theorem cells4 : Tryz.prog.cellsOf 4 = 1 := by kernel_rfl
theorem bytes4 : Tryz.prog.bytesOf 4 = 1 := by kernel_rfl
theorem i64_wf {n : Int} (h : (Lit.int .i64 n).wf = true) : -9223372036854775808 ≤ n ∧ n ≤ 9223372036854775807 := by
  have e1 : IntKind.i64.min = -9223372036854775808 := rfl
  have e2 : IntKind.i64.max = 9223372036854775807 := rfl
  simpa [Lit.wf, e1, e2] using h
section
variable {H : Type} {enc : TypeId × Value → H} {W : World} {spare : Nat → Bool} {held : Bool}
set_option maxRecDepth 100000 in
/-- truths that came in. -/
theorem open_bits {v : Value} {d : DataW H} {ps : List MemPlace} {base : Nat} (hval : Value.okWide Tryz.prog W .any base 41 v) (h : DataW.Trod enc Tryz.prog W 0 spare held 41 v d ps) :
    ∃ (sa : Option Addr) (ca : Nat) (l : List Bool), v = .slice sa l.length ca ∧ Doc.BitsAt W sa l ∧ (sa = none → ca = 0) ∧
      ∀ {ts : List TypeId} {ds : List (DataW H)} {j : Nat}, (DataW.weightsEach Tryz.prog ts ds).all (· ≤ reachBytes) = true → ts[j]? = some 41 → ds[j]? = some d → l.length ≤ 140737488351232 := by
  obtain ⟨a0, len, cap, rfl⟩ := okWide_slice Tryz.underlying41 hval
  obtain ⟨fuel, hf⟩ := h
  rcases open_slice Tryz.underlying41 hf with ⟨hcs, hx⟩ | ⟨a, len', cap', m, n', D, Pl, hcs, _, hl, hm, hmm, hx, hall⟩
  · simp [Value.cells] at hcs
    obtain ⟨rfl, rfl, rfl⟩ := hcs
    exact ⟨none, 0, [], rfl, ⟨fun k hk => by simp at hk⟩, fun _ => rfl, fun _ _ _ => Nat.zero_le _⟩
  · simp [Value.cells] at hcs
    obtain ⟨rfl, rfl, rfl⟩ := hcs
    rw [cells4] at hx hall
    obtain ⟨rfl, -⟩ := Prod.mk.inj hx
    have hlm : len ≤ m := by rw [hmm]; split <;> omega
    have each : ∀ i, i < len → ∃ b : Bool, W.cell? (a.add i) = some (.bool b) := fun i hi => by
      obtain ⟨cs', h1, h2⟩ := hall i (by omega)
      obtain ⟨b, rfl, _⟩ := DataW.trod_bool Tryz.underlying4 h2
      rw [Nat.mul_one] at h1
      have hm1 : (List.range 1).mapM (fun q => W.cell? ((a.add i).add q)) = some [.bool b] := by simpa [World.cells?] using h1
      have := mapM_some_get hm1 0 0 (by simp)
      refine ⟨b, ?_⟩
      have e0 : (a.add i).add 0 = a.add i := by simp [Addr.add]
      rw [e0] at this
      simpa using this
    obtain ⟨f, hf⟩ := choose_lt each
    have hlen : ((List.range len).map f).length = len := by simp
    refine ⟨some a, cap, (List.range len).map f, by rw [hlen], ⟨fun k hk => ?_⟩, (fun e => by cases e), fun {ts ds j} hsz ht hd => ?_⟩
    · rw [hlen] at hk
      have hs0 := World.cell?_spot (hf 0 (by omega))
      obtain ⟨b, off, spot⟩ := a
      obtain rfl : spot = none := by simpa [Addr.add] using hs0
      have c0 := hf k hk
      rw [Doc.add_plainN] at c0
      exact ⟨b, off, rfl, World.block_lt_of_cell? W _ c0, by simpa using c0⟩
    · rw [hlen]
      have hr : reachBytes = 140737488351232 := by decide
      have hw : (((List.range len).map D).length + ((List.range (m - len)).map fun i => D (len + i)).length) * 1 ∈ (DataW.slice ((List.range len).map D) ((List.range (m - len)).map fun i => D (len + i))).weights Tryz.prog 41 := by
        simp [DataW.weights, Tryz.underlying41, bytes4]
      have := List.all_eq_true.1 hsz _ (DataW.weights_mem_each ht hd _ hw)
      have h3 : (((List.range len).map D).length + ((List.range (m - len)).map fun i => D (len + i)).length) * 1 ≤ reachBytes := by simpa using this
      simp only [List.length_map, List.length_range] at h3
      omega
end
end Go.Proofs.YtdkboifpdodonabGreatDoor
/-
  What a formula says hangs on the variables that it names: plain mathematics.
-/
namespace PureForm
open PureCnf Go.Lib

/-- the variables of a list lie below n. -/
def Und (n : Nat) (f : List Nd) : Prop := ∀ x ∈ f, (x.1 = 2 ∨ x.1 = 4 ∨ x.1 = 5) → 0 ≤ x.2 ∧ x.2 < (n : Int)
theorem Und.sub {n : Nat} {f g : List Nd} (h : Und n f) (hs : ∀ x ∈ g, x ∈ f) : Und n g := fun x hx => h x (hs x hx)
theorem upd_cong {n : Nat} {e e' : Int → Bool} (h : ∀ v : Int, 0 ≤ v → v < n → e v = e' v) (u : Int) (b : Bool) : ∀ v : Int, 0 ≤ v → v < n → upd e u b v = upd e' u b v := by
  intro v h0 h1
  unfold upd
  split
  · rfl
  · exact h v h0 h1
theorem says_cong (n : Nat) (t : Tr) : t.good → Und n t.post → ∀ (e e' : Int → Bool), (∀ v : Int, 0 ≤ v → v < n → e v = e' v) → t.says e = t.says e' := by
  induction t using Tr.ind with
  | lf x =>
    intro hg hn e e' h
    simp only [Tr.says_lf, Tr.says_un, Tr.says_bi, Tr.says_te]
    by_cases h1 : x.1 = 1
    · rw [if_pos h1, if_pos h1]
    · rw [if_neg h1, if_neg h1]
      have h2 : x.1 = 2 := by
        rcases hg with hg | hg
        · exact absurd hg.1 h1
        · exact hg.1
      have := hn x (by simp [Tr.post_lf, Tr.post_un, Tr.post_bi, Tr.post_te]) (.inl h2)
      exact h x.2 this.1 this.2
  | un x a ih =>
    intro hg hn e e' h
    have hga : a.good := hg.2
    have ha := ih hga (hn.sub (by intro y hy; simp [Tr.post_lf, Tr.post_un, Tr.post_bi, Tr.post_te, hy]))
    simp only [Tr.says_lf, Tr.says_un, Tr.says_bi, Tr.says_te]
    rw [ha e e' h, ha _ _ (upd_cong h x.2 false), ha _ _ (upd_cong h x.2 true)]
  | bi x a b iha ihb =>
    intro hg hn e e' h
    have hga : a.good := hg.2.1
    have hgb : b.good := hg.2.2
    have ha := iha hga (hn.sub (by intro y hy; simp [Tr.post_lf, Tr.post_un, Tr.post_bi, Tr.post_te, hy]))
    have hb := ihb hgb (hn.sub (by intro y hy; simp [Tr.post_lf, Tr.post_un, Tr.post_bi, Tr.post_te, hy]))
    simp only [Tr.says_lf, Tr.says_un, Tr.says_bi, Tr.says_te]
    rw [ha e e' h, hb e e' h]
  | te x a b c iha ihb ihc =>
    intro hg hn e e' h
    have hga : a.good := hg.2.1
    have hgb : b.good := hg.2.2.1
    have hgc : c.good := hg.2.2.2
    have ha := iha hga (hn.sub (by intro y hy; simp [Tr.post_lf, Tr.post_un, Tr.post_bi, Tr.post_te, hy]))
    have hb := ihb hgb (hn.sub (by intro y hy; simp [Tr.post_lf, Tr.post_un, Tr.post_bi, Tr.post_te, hy]))
    have hc := ihc hgc (hn.sub (by intro y hy; simp [Tr.post_lf, Tr.post_un, Tr.post_bi, Tr.post_te, hy]))
    simp only [Tr.says_lf, Tr.says_un, Tr.says_bi, Tr.says_te]
    rw [ha e e' h, hb e e' h, hc e e' h]

theorem within_post (t : Tr) : t.within ≤ t.post.length := by
  induction t using Tr.ind with
  | lf x => simp [Tr.within_lf, Tr.within_un, Tr.within_bi, Tr.within_te, Tr.post_lf, Tr.post_un, Tr.post_bi, Tr.post_te]
  | un x a ih =>
    simp only [Tr.within_lf, Tr.within_un, Tr.within_bi, Tr.within_te, Tr.post_lf, Tr.post_un, Tr.post_bi, Tr.post_te, List.length_append, List.length_cons, List.length_nil]
    split <;> omega
  | bi x a b iha ihb =>
    simp only [Tr.within_lf, Tr.within_un, Tr.within_bi, Tr.within_te, Tr.post_lf, Tr.post_un, Tr.post_bi, Tr.post_te, List.length_append, List.length_cons, List.length_nil]
    omega
  | te x a b c iha ihb ihc =>
    simp only [Tr.within_lf, Tr.within_un, Tr.within_bi, Tr.within_te, Tr.post_lf, Tr.post_un, Tr.post_bi, Tr.post_te, List.length_append, List.length_cons, List.length_nil]
    omega
/-- the first n truths of a list, false behind its end. -/
def padB (n : Nat) (L : List Bool) : List Bool := L.take n ++ List.replicate (n - L.length) false
theorem padB_len (n : Nat) (L : List Bool) : (padB n L).length = n := by
  unfold padB
  simp
  omega
theorem padB_bits (n : Nat) (L : List Bool) (v : Int) (h0 : 0 ≤ v) (h1 : v < n) : bitsE (padB n L) v = bitsE L v := by
  unfold bitsE padB
  congr 1
  simp only [List.getD]
  by_cases h : v.toNat < L.length
  · rw [List.getElem?_append_left (by simp; omega), List.getElem?_take_of_lt (by omega)]
  · rw [List.getElem?_append_right (by simp; omega), List.getElem?_eq_none (show L.length ≤ v.toNat by omega), List.getElem?_replicate]
    split <;> rfl
end PureForm
/-
  The landed program's vars.
-/
namespace Go.Proofs.YtdkboifpdodonabGreatDoor
open Go.RowKit Go.Deep PureCnf PureForm
set_option maxRecDepth 100000

/-- one more than the greatest variable. -/
def varN (m : Nat) (x : Nd) : Nat := if x.1 = 2 ∨ x.1 = 4 ∨ x.1 = 5 then max m (x.2.toNat + 1) else m
def varsN (f : List Nd) : Nat := f.foldl varN 0

theorem good_nodes (t : Tr) : t.good → ∀ x ∈ t.post, (x.1 = 2 ∨ x.1 = 4 ∨ x.1 = 5) → 0 ≤ x.2 ∧ x.2 < 65536 := by
  induction t using Tr.ind with
  | lf x =>
    intro h y hy hv
    simp [Tr.post_lf, Tr.post_un, Tr.post_bi, Tr.post_te] at hy
    subst hy
    rcases h with h | h
    · omega
    · exact h.2
  | un x a ih =>
    rintro ⟨hx, ha⟩ y hy hv
    have ha : a.good := ha
    simp [Tr.post_lf, Tr.post_un, Tr.post_bi, Tr.post_te] at hy
    rcases hy with hy | rfl
    · exact ih ha y hy hv
    · rcases hx with h | h
      · omega
      · exact h.2
  | bi x a b iha ihb =>
    rintro ⟨hx, ha, hb⟩ y hy hv
    have ha : a.good := ha
    have hb : b.good := hb
    simp [Tr.post_lf, Tr.post_un, Tr.post_bi, Tr.post_te] at hy
    rcases hy with hy | hy | rfl
    · exact iha ha y hy hv
    · exact ihb hb y hy hv
    · have := of_decide_eq_true hx.1
      omega
  | te x a b c iha ihb ihc =>
    rintro ⟨hx, ha, hb, hc⟩ y hy hv
    have ha : a.good := ha
    have hb : b.good := hb
    have hc : c.good := hc
    simp [Tr.post_lf, Tr.post_un, Tr.post_bi, Tr.post_te] at hy
    rcases hy with hy | hy | hy | rfl
    · exact iha ha y hy hv
    · exact ihb hb y hy hv
    · exact ihc hc y hy hv
    · omega

def namesB (o : Int) : Bool := decide (o = 2 ∨ o = 4 ∨ o = 5)
theorem names_any (o : Int) (w : World) : Calls Tryz.prog 62 #[.int .i64 o] w fun e w' => e = .returned (.bool (namesB o)) ∧ w' = w := by
  unfold namesB
  by_cases h : o = 2 ∨ o = 4 ∨ o = 5
  · rw [decide_eq_true h]
    rcases h with rfl | rfl | rfl
    all_goals
      go_enter Tryz.func62, Tryz.ntmps62
      go_wp2
      go_ret
      exact ⟨rfl, rfl⟩
  · rw [decide_eq_false h]
    have b2 : (o == 2) = false := by rw [beq_eq_false_iff_ne]; omega
    have b4 : (o == 4) = false := by rw [beq_eq_false_iff_ne]; omega
    have b5 : (o == 5) = false := by rw [beq_eq_false_iff_ne]; omega
    go_enter Tryz.func62, Tryz.ntmps62
    go_wp2
    go_ret
    exact ⟨rfl, rfl⟩

set_option maxHeartbeats 2000000 in
theorem vars_walk (f : List Nd) (sa : Option Addr) (ca : Nat) (w : World) (hf : NodesAt w sa f) (hl : f.length ≤ 65536)
    (hg : ∀ k (hk : k < f.length), (f[k].1 = 2 ∨ f[k].1 = 4 ∨ f[k].1 = 5) → 0 ≤ f[k].2 ∧ f[k].2 < 65536) :
    Calls Tryz.prog 43 #[.slice sa f.length ca] w fun e w' => e = .returned (.int .i64 (varsN f : Int)) ∧ Below w.heap.size w w' := by
  have HF := hid hf
  have HGN := hid hg
  clear hf hg
  go_enter Tryz.func43, Tryz.ntmps43
  go_wp2
  go_loopw [3, 8] (fun nv iv W => ∃ i m : Nat, i ≤ f.length ∧ iv = .int .i64 (i : Int) ∧ nv = .int .i64 (m : Int) ∧ m ≤ 65536 ∧ Hid (m = (f.take i).foldl varN 0 ∧ Below w.heap.size w W)) (fun _ iv _ => f.length - (intOf iv).toNat)
  case atStart => exact ⟨0, 0, Nat.zero_le _, rfl, rfl, by omega, by simp, Below.refl _ _⟩
  case round =>
    obtain ⟨i, m, hi, rfl, rfl, hm, HR⟩ := hrel
    obtain ⟨r1, r2⟩ := HR.out
    have HM := hid r1
    have HW := hid r2
    clear HR r1 r2
    by_cases hlt : i < f.length
    · obtain ⟨g, o, rfl, hg, d0, d1⟩ := HF.out.at_ i hlt
      have hgn := HGN.out i hlt
      obtain ⟨x, hx⟩ : ∃ x, x = f[i] := ⟨_, rfl⟩
      rw [← hx] at d0 d1 hgn
      have c0 := below_cell HW.out hg d0
      have c1 := below_cell HW.out hg d1
      have HT : Hid ((f.take (i + 1)).foldl varN 0 = varN m x) := by
        show _ = _
        rw [List.take_succ_eq_append_getElem hlt, List.foldl_append, ← HM.out, ← hx]
        rfl
      obtain ⟨xo, xv⟩ := x
      simp only at c0 c1 hgn
      obtain ⟨WA, hWA⟩ : ∃ W, W = wr.alloc (Obj.cells #[.int .i64 xo, .int .i64 xv] 49) := ⟨_, rfl⟩
      have tA : Below wr.heap.size wr WA := by rw [hWA]; exact (Below.refl _ _).alloc (Nat.le_refl _) _
      have rA : WA.heap[wr.heap.size]? = some (.cells #[.int .i64 xo, .int .i64 xv] 49 (0, 0)) := by rw [hWA]; exact heap_alloc_new wr _
      have cA := fun k => cell_row rA k
      have HNM := hid (names_any xo WA)
      have HWA := hid hWA
      have HTA := hid tA
      clear hx d0 d1 hWA tA rA
      by_cases hv : xo = 2 ∨ xo = 4 ∨ xo = 5
      · obtain ⟨g0, g1⟩ := hgn hv
        obtain ⟨vn, rfl⟩ : ∃ vn : Nat, xv = vn := ⟨xv.toNat, by omega⟩
        obtain ⟨mm, hmm⟩ : ∃ mm, mm = max m (vn + 1) := ⟨_, rfl⟩
        have HT2 : Hid ((f.take (i + 1)).foldl varN 0 = mm) := by
          show _ = _
          rw [HT.out, hmm]
          unfold varN
          rw [if_pos hv]
          simp
        have hb : namesB xo = true := decide_eq_true hv
        rw [hb] at HNM
        have hle : mm ≤ 65536 := by omega
        have HMM := hid hmm
        have ew : wrap64 ((vn : Int) + 1) = ((vn + 1 : Nat) : Int) := by rw [IntWalk.wrap64_in _ ⟨by omega, by omega⟩]; omega
        clear hgn HT hb hv hmm
        go_wp2_with (first | (rw [← HWA.out]) | (go_at_call 62; refine HNM.out.mono ?_; rintro e w2 ⟨rfl, rfl⟩))
        go_roundw
        case rel => exact ⟨i + 1, mm, hlt, by go_num, congrArg (Value.int .i64) (by have := HMM.out; first | omega | (split <;> omega)), hle, HT2.out.symm, HW.out.trans (HTA.out.mono HW.out.size)⟩
        case measure => simp [intOf]; omega
      · have HT2 : Hid ((f.take (i + 1)).foldl varN 0 = m) := by
          show _ = _
          rw [HT.out]
          unfold varN
          rw [if_neg hv]
        have hb : namesB xo = false := decide_eq_false hv
        rw [hb] at HNM
        clear hgn HT hb hv
        go_wp2_with (first | (rw [← HWA.out]) | (go_at_call 62; refine HNM.out.mono ?_; rintro e w2 ⟨rfl, rfl⟩))
        go_roundw
        case rel => exact ⟨i + 1, m, hlt, by go_num, rfl, hm, HT2.out.symm, HW.out.trans (HTA.out.mono HW.out.size)⟩
        case measure => simp [intOf]; omega
    · have hin : i = f.length := by omega
      have HE : Hid (m = varsN f) := by show _ = _; rw [HM.out, hin, List.take_length]; rfl
      clear HM
      go_wp2
      go_ret
      rw [← HE.out]
      exact ⟨rfl, HW.out⟩

theorem varN_le (m : Nat) (x : Nd) : m ≤ varN m x := by unfold varN; split <;> omega
theorem fold_le (f : List Nd) : ∀ m, m ≤ f.foldl varN m := by
  induction f with
  | nil => intro m; exact Nat.le_refl _
  | cons y l ih => intro m; exact Nat.le_trans (varN_le m y) (ih _)
theorem fold_names (f : List Nd) : ∀ m, ∀ x ∈ f, (x.1 = 2 ∨ x.1 = 4 ∨ x.1 = 5) → x.2.toNat + 1 ≤ f.foldl varN m := by
  induction f with
  | nil => intro m x hx; simp at hx
  | cons y l ih =>
    intro m x hx hv
    rw [List.foldl_cons]
    rcases List.mem_cons.1 hx with rfl | hx
    · refine Nat.le_trans ?_ (fold_le l _)
      unfold varN
      rw [if_pos hv]
      omega
    · exact ih _ x hx hv
theorem fold_few (f : List Nd) (hg : ∀ x ∈ f, (x.1 = 2 ∨ x.1 = 4 ∨ x.1 = 5) → 0 ≤ x.2 ∧ x.2 < 65536) : ∀ m, m ≤ 65536 → f.foldl varN m ≤ 65536 := by
  induction f with
  | nil => intro m hm; exact hm
  | cons y l ih =>
    intro m hm
    rw [List.foldl_cons]
    refine ih (fun x hx => hg x (List.mem_cons_of_mem _ hx)) _ ?_
    unfold varN
    split
    · next h => have := hg y (by simp) h; omega
    · exact hm
/-- the variables of a formed list lie below what vars answers. -/
theorem vars_und {f : List Nd} {t : Tr} (ht : treeOf f = some t) : Und (varsN f) f ∧ varsN f ≤ 65536 := by
  obtain ⟨hg, hp⟩ := treeOf_some ht
  have h : ∀ x ∈ f, (x.1 = 2 ∨ x.1 = 4 ∨ x.1 = 5) → 0 ≤ x.2 ∧ x.2 < 65536 := fun x hx hv => good_nodes t hg x (by rw [hp]; exact hx) hv
  refine ⟨fun x hx hv => ⟨(h x hx hv).1, ?_⟩, fold_few f h 0 (by omega)⟩
  have h1 := fold_names f 0 x hx hv
  have h2 := (h x hx hv).1
  unfold varsN
  omega
end Go.Proofs.YtdkboifpdodonabGreatDoor
/-
  The landed program's nested: how many quantifiers stand within one another.
-/
namespace Go.Proofs.YtdkboifpdodonabGreatDoor
open Go.RowKit Go.Deep PureCnf PureForm
set_option maxRecDepth 100000

def NesC (t : Tr) : Prop := ∀ w : World, Calls Tryz.prog 42 #[tv t] w fun e w' => e = .returned (.int .i64 (t.within : Nat)) ∧ Below w.heap.size w w'

set_option maxHeartbeats 1000000 in
theorem ns_leaf (k : TypeId) (h1 : k ≠ 120) (h2 : k ≠ 122) (h3 : k ≠ 124) (h4 : k ≠ 126) (v : Value) (w : World) :
    Calls Tryz.prog 42 #[.iface k v] w fun e w' => e = .returned (.int .i64 0) ∧ Below w.heap.size w w' := by
  have m1 := fun x W => ta120_miss k h1 v x W
  have m2 := fun x W => ta122_miss k h2 v x W
  have m3 := fun x W => ta124_miss k h3 v x W
  have m4 := fun x W => ta126_miss k h4 v x W
  clear h1 h2 h3 h4
  go_enter Tryz.func42, Tryz.ntmps42
  go_wp2
  go_ret
  exact ⟨rfl, Below.refl _ _⟩

set_option maxHeartbeats 1000000 in
theorem ns_not (a : Tr) (m : Nat) (hm : m = a.within) (HA : NesC a) (w : World) :
    Calls Tryz.prog 42 #[.iface 120 (.agg #[tv a])] w fun e w' => e = .returned (.int .i64 (m : Nat)) ∧ Below w.heap.size w w' := by
  have HN := fun W => hid (HA W)
  simp only [← hm] at HN
  obtain ⟨k, u, e⟩ := tv_form a
  rw [e]
  simp only [e] at HN
  have m1 := fun x W => ta120_hit (.agg #[.iface k u]) x W
  obtain ⟨WA, hWA⟩ : ∃ WA, WA = w.alloc (Obj.cells #[.iface k u] 120) := ⟨_, rfl⟩
  have hB : Below w.heap.size w WA := by rw [hWA]; exact below_box _ _
  have r0 : WA.heap[w.heap.size]? = some (.cells #[.iface k u] 120 (0, 0)) := by rw [hWA]; exact heap_alloc_new w _
  have c0 := fun j => cell_row r0 j
  have HWA := hid hWA
  have HB := hid hB
  clear hWA hB r0 hm e HA
  go_enter Tryz.func42, Tryz.ntmps42
  go_wp2_with (first | (rw [← HWA.out]) | (go_at_call 42; refine (HN _).out.mono ?_; rintro e w1 ⟨rfl, b1⟩; have HB1 := hid (HB.out.trans (b1.mono HB.out.size)); clear b1))
  go_ret
  exact ⟨rfl, HB1.out⟩

set_option maxHeartbeats 1000000 in
theorem ns_quant (o n : Int) (a : Tr) (m : Nat) (hm : m = a.within) (hl : m ≤ 900000) (HA : NesC a) (w : World) :
    Calls Tryz.prog 42 #[.iface 122 (.agg #[.int .i64 o, .int .i64 n, tv a])] w fun e w' => e = .returned (.int .i64 ((m + 1 : Nat) : Int)) ∧ Below w.heap.size w w' := by
  have HN := fun W => hid (HA W)
  simp only [← hm] at HN
  obtain ⟨k, u, e⟩ := tv_form a
  rw [e]
  simp only [e] at HN
  have m1 := fun x W => ta120_miss 122 (by decide) (.agg #[.int .i64 o, .int .i64 n, .iface k u]) x W
  have m2 := fun x W => ta122_hit (.agg #[.int .i64 o, .int .i64 n, .iface k u]) x W
  obtain ⟨WA, hWA⟩ : ∃ WA, WA = w.alloc (Obj.cells #[.int .i64 o, .int .i64 n, .iface k u] 122) := ⟨_, rfl⟩
  have hB : Below w.heap.size w WA := by rw [hWA]; exact below_box _ _
  have r0 : WA.heap[w.heap.size]? = some (.cells #[.int .i64 o, .int .i64 n, .iface k u] 122 (0, 0)) := by rw [hWA]; exact heap_alloc_new w _
  have c0 := fun j => cell_row r0 j
  have HWA := hid hWA
  have HB := hid hB
  clear hWA hB r0 hm e HA
  go_enter Tryz.func42, Tryz.ntmps42
  go_wp2_with (first | (rw [← HWA.out]) | (go_at_call 42; refine (HN _).out.mono ?_; rintro e w1 ⟨rfl, b1⟩; have HB1 := hid (HB.out.trans (b1.mono HB.out.size)); clear b1))
  go_ret
  refine ⟨?_, HB1.out⟩
  rw [show (1 : Int) + (m : Int) = ((m + 1 : Nat) : Int) by omega]
  rfl

set_option maxHeartbeats 2000000 in
theorem ns_two (o : Int) (a b : Tr) (HA : NesC a) (HBB : NesC b) (r : Nat) (hr : r = max a.within b.within) (w : World) :
    Calls Tryz.prog 42 #[.iface 124 (.agg #[.int .i64 o, tv a, tv b])] w fun e w' => e = .returned (.int .i64 (r : Nat)) ∧ Below w.heap.size w w' := by
  have HNA := fun W => hid (HA W)
  have HNB := fun W => hid (HBB W)
  obtain ⟨m, hm⟩ : ∃ m, m = a.within := ⟨_, rfl⟩
  obtain ⟨n, hnn⟩ : ∃ n, n = b.within := ⟨_, rfl⟩
  simp only [← hm] at HNA
  simp only [← hnn] at HNB
  have HG : Hid (r = max m n) := by show _ = _; rw [hr, hm, hnn]
  obtain ⟨k, u, e⟩ := tv_form a
  obtain ⟨k2, u2, e'⟩ := tv_form b
  rw [e, e']
  simp only [e] at HNA
  simp only [e'] at HNB
  have m1 := fun x W => ta120_miss 124 (by decide) (.agg #[.int .i64 o, .iface k u, .iface k2 u2]) x W
  have m2 := fun x W => ta122_miss 124 (by decide) (.agg #[.int .i64 o, .iface k u, .iface k2 u2]) x W
  have m3 := fun x W => ta124_hit (.agg #[.int .i64 o, .iface k u, .iface k2 u2]) x W
  obtain ⟨WA, hWA⟩ : ∃ WA, WA = w.alloc (Obj.cells #[.int .i64 o, .iface k u, .iface k2 u2] 124) := ⟨_, rfl⟩
  have hB : Below w.heap.size w WA := by rw [hWA]; exact below_box _ _
  have r0 : WA.heap[w.heap.size]? = some (.cells #[.int .i64 o, .iface k u, .iface k2 u2] 124 (0, 0)) := by rw [hWA]; exact heap_alloc_new w _
  have KP : Hid (∀ W, Below WA.heap.size WA W → W.cell? ⟨w.heap.size, 1, none⟩ = some (.iface k u) ∧ W.cell? ⟨w.heap.size, 2, none⟩ = some (.iface k2 u2)) := fun W hW => by
    have q2 := (hW.block _ (Array.getElem?_eq_some_iff.1 r0).1).trans r0
    exact ⟨cell_row q2 1, cell_row q2 2⟩
  obtain ⟨d1, d2⟩ := KP.out WA (Below.refl _ _)
  have HWA := hid hWA
  have HB := hid hB
  clear hWA hB r0 hm hnn hr e e' HA HBB
  go_enter Tryz.func42, Tryz.ntmps42
  go_wp2_with (rw [← HWA.out])
  go_region_held3 (fun W => W.cell? ⟨w.heap.size, 1, none⟩ = some (.iface k u) ∧ W.cell? ⟨w.heap.size, 2, none⟩ = some (.iface k2 u2)) (go_keep) (first
    | (have q := B2; clear q; go_at_call 42; refine (HNB _).out.mono ?_; rintro e w3 ⟨rfl, b3⟩; have B3 := hid (B2.out.trans (b3.mono B2.out.size)); obtain ⟨f1, f2⟩ := KP.out w3 B3.out; clear b3)
    | (go_at_call 42; refine (HNA _).out.mono ?_; rintro e w2 ⟨rfl, b2⟩; have B2 : Hid (Below WA.heap.size WA w2) := ((Below.refl _ _).drew.trans b2); obtain ⟨e1, e2⟩ := KP.out w2 B2.out; clear b2))
  all_goals go_wp2
  all_goals go_ret
  all_goals
    rw [HG.out]
    refine ⟨?_, HB.out.trans (B3.out.mono HB.out.size)⟩
    first
      | (rw [show max m n = n from Nat.max_eq_right (by omega)]; rfl)
      | (rw [show max m n = m from Nat.max_eq_left (by omega)]; rfl)
      | exact congrArg (fun z : Int => Ending.returned (Value.int .i64 z)) (show max (m : Int) (n : Int) = ((max m n : Nat) : Int) by omega)
      | exact congrArg (fun z : Int => Ending.returned (Value.int .i64 z)) (show max (m : Int) (n : Int) = ((max m n : Nat) : Int) by omega)

set_option maxHeartbeats 2000000 in
theorem ns_three (a b c : Tr) (HA : NesC a) (HBB : NesC b) (HC : NesC c) (r : Nat) (hr : r = max (max a.within b.within) c.within) (w : World) :
    Calls Tryz.prog 42 #[.iface 126 (.agg #[tv a, tv b, tv c])] w fun e w' => e = .returned (.int .i64 (r : Nat)) ∧ Below w.heap.size w w' := by
  have HNA := fun W => hid (HA W)
  have HNB := fun W => hid (HBB W)
  have HNC := fun W => hid (HC W)
  obtain ⟨m, hm⟩ : ∃ m, m = a.within := ⟨_, rfl⟩
  obtain ⟨n, hnn⟩ : ∃ n, n = b.within := ⟨_, rfl⟩
  obtain ⟨p, hp⟩ : ∃ p, p = c.within := ⟨_, rfl⟩
  simp only [← hm] at HNA
  simp only [← hnn] at HNB
  simp only [← hp] at HNC
  rw [← hm, ← hnn, ← hp] at hr
  have mx := fun W => run_max3 W #[3, 3, 3] 3 m n p r hr
  obtain ⟨k, u, e⟩ := tv_form a
  obtain ⟨k2, u2, e'⟩ := tv_form b
  obtain ⟨k3, u3, e''⟩ := tv_form c
  rw [e, e', e'']
  simp only [e] at HNA
  simp only [e'] at HNB
  simp only [e''] at HNC
  have m1 := fun x W => ta120_miss 126 (by decide) (.agg #[.iface k u, .iface k2 u2, .iface k3 u3]) x W
  have m2 := fun x W => ta122_miss 126 (by decide) (.agg #[.iface k u, .iface k2 u2, .iface k3 u3]) x W
  have m3 := fun x W => ta124_miss 126 (by decide) (.agg #[.iface k u, .iface k2 u2, .iface k3 u3]) x W
  have m4 := fun x W => ta126_hit (.agg #[.iface k u, .iface k2 u2, .iface k3 u3]) x W
  obtain ⟨WA, hWA⟩ : ∃ WA, WA = w.alloc (Obj.cells #[.iface k u, .iface k2 u2, .iface k3 u3] 126) := ⟨_, rfl⟩
  have hB : Below w.heap.size w WA := by rw [hWA]; exact below_box _ _
  have r0 : WA.heap[w.heap.size]? = some (.cells #[.iface k u, .iface k2 u2, .iface k3 u3] 126 (0, 0)) := by rw [hWA]; exact heap_alloc_new w _
  have KP : Hid (∀ W, Below WA.heap.size WA W → W.cell? ⟨w.heap.size, 0, none⟩ = some (.iface k u) ∧ W.cell? ⟨w.heap.size, 1, none⟩ = some (.iface k2 u2) ∧ W.cell? ⟨w.heap.size, 2, none⟩ = some (.iface k3 u3)) := fun W hW => by
    have q2 := (hW.block _ (Array.getElem?_eq_some_iff.1 r0).1).trans r0
    exact ⟨cell_row q2 0, cell_row q2 1, cell_row q2 2⟩
  obtain ⟨d1, d2, d3⟩ := KP.out WA (Below.refl _ _)
  have HWA := hid hWA
  have HB := hid hB
  clear hWA hB r0 hm hnn hp hr e e' e'' HA HBB HC
  go_enter Tryz.func42, Tryz.ntmps42
  go_wp2_with (rw [← HWA.out])
  go_region_held3 (fun W => W.cell? ⟨w.heap.size, 0, none⟩ = some (.iface k u) ∧ W.cell? ⟨w.heap.size, 1, none⟩ = some (.iface k2 u2) ∧ W.cell? ⟨w.heap.size, 2, none⟩ = some (.iface k3 u3)) (go_keep) (first
    | (have q := B3; clear q; go_at_call 42; refine (HNC _).out.mono ?_; rintro e w4 ⟨rfl, b4⟩; have B4 := hid (B3.out.trans (b4.mono B3.out.size)); obtain ⟨g1, g2, g3⟩ := KP.out w4 B4.out; clear b4)
    | (have q := B2; clear q; go_at_call 42; refine (HNB _).out.mono ?_; rintro e w3 ⟨rfl, b3⟩; have B3 := hid (B2.out.trans (b3.mono B2.out.size)); obtain ⟨f1, f2, f3⟩ := KP.out w3 B3.out; clear b3)
    | (go_at_call 42; refine (HNA _).out.mono ?_; rintro e w2 ⟨rfl, b2⟩; have B2 : Hid (Below WA.heap.size WA w2) := ((Below.refl _ _).drew.trans b2); obtain ⟨e1, e2, e3⟩ := KP.out w2 B2.out; clear b2))
  all_goals go_wp2
  all_goals go_ret
  all_goals exact ⟨rfl, HB.out.trans (B4.out.mono HB.out.size)⟩

theorem nested_any (t : Tr) : t.good → t.post.length ≤ 900000 → NesC t := by
  induction t using Tr.ind with
  | lf x =>
    obtain ⟨o, n⟩ := x
    intro ht _ w
    rcases ht with ⟨h1, _⟩ | ⟨h1, _⟩
    · simp only at h1
      subst h1
      exact ns_leaf 133 (by decide) (by decide) (by decide) (by decide) _ w
    · simp only at h1
      subst h1
      exact ns_leaf 135 (by decide) (by decide) (by decide) (by decide) _ w
  | un x a iha =>
    obtain ⟨o, n⟩ := x
    intro ht hl w
    obtain ⟨hx, ha⟩ : ((o = 3 ∧ n = 0) ∨ (isQ o = true ∧ 0 ≤ n ∧ n < 65536)) ∧ a.good := ht
    have hl2 : a.post.length ≤ 900000 := by simp only [Tr.post_lf, Tr.post_un, Tr.post_bi, Tr.post_te, List.length_append, List.length_cons, List.length_nil] at hl; omega
    have hw := within_post a
    rcases hx with ⟨h1, h2⟩ | ⟨h1, _⟩
    · subst h1 h2
      exact ns_not a _ rfl (iha ha hl2) w
    · have h45 : o = 4 ∨ o = 5 := by simpa [isQ] using h1
      have e1 : tv (.un (o, n) a) = .iface 122 (.agg #[.int .i64 o, .int .i64 n, tv a]) := by (first | rw [tv_un, if_neg (by simp; omega)] | rw [tv_bi, if_neg (by simp; omega)] | rw [tv_te, if_neg (by simp; omega)] | rw [tv_lf, if_neg (by simp; omega)])
      have e2 : (Tr.un (o, n) a).within = a.within + 1 := by (first | rw [Tr.within_un, if_pos (by exact h1)] | rw [Tr.within_bi, if_pos (by exact h1)] | rw [Tr.within_te, if_pos (by exact h1)] | rw [Tr.within_lf, if_pos (by exact h1)])
      rw [e1, e2]
      exact ns_quant o n a _ rfl (by omega) (iha ha hl2) w
  | bi x a b iha ihb =>
    obtain ⟨o, n⟩ := x
    intro ht hl w
    obtain ⟨⟨h1, h2⟩, ha, hb⟩ : (two o = true ∧ n = 0) ∧ a.good ∧ b.good := ht
    have hl2 : a.post.length + b.post.length ≤ 900000 := by simp only [Tr.post_lf, Tr.post_un, Tr.post_bi, Tr.post_te, List.length_append, List.length_cons, List.length_nil] at hl; omega
    exact ns_two o a b (iha ha (by omega)) (ihb hb (by omega)) _ rfl w
  | te x a b c iha ihb ihc =>
    obtain ⟨o, n⟩ := x
    intro ht hl w
    obtain ⟨⟨h1, h2⟩, ha, hb, hc⟩ : (o = 11 ∧ n = 0) ∧ a.good ∧ b.good ∧ c.good := ht
    have hl2 : a.post.length + b.post.length + c.post.length ≤ 900000 := by simp only [Tr.post_lf, Tr.post_un, Tr.post_bi, Tr.post_te, List.length_append, List.length_cons, List.length_nil] at hl; omega
    exact ns_three a b c (iha ha (by omega)) (ihb hb (by omega)) (ihc hc (by omega)) _ rfl w

end Go.Proofs.YtdkboifpdodonabGreatDoor
/-
  The landed program's assignment: what a tree says of it.
-/
namespace Go.Proofs.YtdkboifpdodonabGreatDoor
open Go.RowKit Go.Deep PureCnf PureForm
set_option maxRecDepth 100000

/-- truths as cells. -/
def bz (l : List Bool) : List Value := l.map Value.bool
theorem bz_set {W : World} {g : Nat} {L : List Bool} (h : W.heap[g]? = some (.cells (bz L).toArray 4 (0, 0))) (v : Nat) (b : Bool) : (W.setCell ⟨g, v, none⟩ (.bool b)).heap[g]? = some (.cells (bz (L.set v b)).toArray 4 (0, 0)) := by
  have e : (bz L).toArray.setIfInBounds v (.bool b) = (bz (L.set v b)).toArray := by
    unfold bz
    rw [List.setIfInBounds_toArray, List.map_set]
  rw [← e]
  have hb := (Array.getElem?_eq_some_iff.1 h).1
  simp [World.setCell, Array.getElem?_modify, h]
theorem bz_cell {W : World} {g : Nat} {L : List Bool} (h : W.heap[g]? = some (.cells (bz L).toArray 4 (0, 0))) {v : Nat} (hv : v < L.length) : W.cell? ⟨g, v, none⟩ = some (.bool L[v]) := by
  rw [cell_row h]
  simp [bz, hv]
theorem set_set_get {L : List Bool} {v : Nat} (hv : v < L.length) : ((L.set v false).set v true).set v L[v] = L := by simp
theorem bitsE_put {L : List Bool} {v : Nat} (h : v < L.length) (b : Bool) : bitsE (L.set v b) = upd (bitsE L) (v : Int) b := by
  refine bitsE_set L v b _ (by simp; omega) fun k hk => ?_
  have hk' : k < L.length := by simpa using hk
  rw [List.getElem_set]
  by_cases hkv : k = v
  · subst hkv; simp
  · rw [if_neg (by omega), if_neg hkv]
    simp [List.getD, List.getElem?_eq_getElem hk']
theorem bitsE_is {L : List Bool} {v : Nat} (h : v < L.length) : bitsE L (v : Int) = L[v] := by
  simp [bitsE, List.getD, List.getElem?_eq_getElem h]

/-- but for one block a world has only grown. -/
theorem gr_below {W w' : World} {r : Option Nat} (h : Below W.heap.size W w') : W.grownBy w' r := ⟨h.os, h.tape, h.output, h.size, fun k hk _ => h.block k hk⟩
theorem gr_trans {a b c : World} {r : Option Nat} (h : a.grownBy b r) (g : b.grownBy c r) : a.grownBy c r :=
  ⟨g.os.trans h.os, g.tape.trans h.tape, g.output.trans h.output, Nat.le_trans h.size g.size, fun k hk hne => (g.block k (Nat.lt_of_lt_of_le hk h.size) hne).trans (h.block k hk hne)⟩
theorem gr_set (W : World) (g i : Nat) (u : Value) : W.grownBy (W.setCell ⟨g, i, none⟩ u) (some g) :=
  ⟨rfl, rfl, rfl, by simp, fun k _ hne => Below.heap_setCell W _ _ _ (by intro e; exact hne (by rw [show k = g from e]))⟩
theorem gr_back {a b : World} {g : Nat} (h : a.grownBy b (some g)) (hg : b.heap[g]? = a.heap[g]?) : Below a.heap.size a b :=
  ⟨h.os, h.tape, h.output, h.size, fun k hk => by
    by_cases e : k = g
    · subst e; exact hg
    · exact h.block k hk (fun e2 => e (Option.some.inj e2))⟩

/-- what a tree says of an assignment in memory. -/
def OfC (t : Tr) : Prop := ∀ (g : Nat) (L : List Bool) (w : World), w.heap[g]? = some (.cells (bz L).toArray 4 (0, 0)) → Und L.length t.post →
  Calls Tryz.prog 44 #[.slice (some ⟨g, 0, none⟩) L.length L.length, tv t] w fun e w' => e = .returned (.bool (t.says (bitsE L))) ∧ Below w.heap.size w w'

set_option maxHeartbeats 2000000 in
theorem tried_any (o : Int) (hq : o = 4 ∨ o = 5) (a : Tr) (HA : OfC a) (g : Nat) (L : List Bool) (w : World) (hr : w.heap[g]? = some (.cells (bz L).toArray 4 (0, 0))) (v : Nat) (hv : v < L.length) (hu : Und L.length a.post) :
    Calls Tryz.prog 63 #[.slice (some ⟨g, 0, none⟩) L.length L.length, .agg #[.int .i64 o, .int .i64 (v : Int), tv a]] w fun e w' =>
      e = .returned (.bool (if o = 4 then (a.says (upd (bitsE L) (v : Int) false) || a.says (upd (bitsE L) (v : Int) true)) else (a.says (upd (bitsE L) (v : Int) false) && a.says (upd (bitsE L) (v : Int) true)))) ∧ Below w.heap.size w w' := by
  obtain ⟨k, u, e⟩ := tv_form a
  have HT : Hid (∀ (L' : List Bool) (W : World), L'.length = L.length → W.heap[g]? = some (.cells (bz L').toArray 4 (0, 0)) → Calls Tryz.prog 44 #[.slice (some ⟨g, 0, none⟩) L.length L.length, .iface k u] W fun e w' => e = .returned (.bool (a.says (bitsE L'))) ∧ Below W.heap.size W w') := fun L' W h1 h2 => by
    have := HA g L' W h2 (by rw [h1]; exact hu)
    rw [e, h1] at this
    exact this
  rw [e]
  obtain ⟨WA, hWA⟩ : ∃ WA, WA = w.alloc (Obj.cells #[.int .i64 o, .int .i64 (v : Int), .iface k u] 122) := ⟨_, rfl⟩
  have hB : Below w.heap.size w WA := by rw [hWA]; exact below_box _ _
  have r0 : WA.heap[w.heap.size]? = some (.cells #[.int .i64 o, .int .i64 (v : Int), .iface k u] 122 (0, 0)) := by rw [hWA]; exact heap_alloc_new w _
  have hgl : g < w.heap.size := (Array.getElem?_eq_some_iff.1 hr).1
  have hne : g ≠ w.heap.size := by omega
  have hne' : w.heap.size ≠ g := by omega
  have rA : WA.heap[g]? = some (.cells (bz L).toArray 4 (0, 0)) := (hB.block g hgl).trans hr
  have cv := bz_cell rA hv
  have fv := unfrozen_row rA v
  have c0 := fun j => cell_row r0 j
  have hgA : g < WA.heap.size := Nat.lt_of_lt_of_le hgl hB.size
  obtain ⟨x, hx⟩ : ∃ x, x = L[v] := ⟨_, rfl⟩
  rw [← hx] at cv
  have HX := hid hx
  have G0 := hid (gr_below (r := some g) hB)
  have HR := hid hr
  have HWA := hid hWA
  have RA := hid rA
  have R0 := hid r0
  have hvI : (v : Int) < (L.length : Int) := by omega
  clear hWA hB r0 rA hx hr e HA hu
  go_enter Tryz.func63, Tryz.ntmps63
  go_wp2_with (rw [← HWA.out])
  have R1 := hid (bz_set RA.out v false)
  have G1 := hid (gr_trans G0.out (gr_set WA g v (.bool false)))
  have P1 : Hid ((WA.setCell ⟨g, v, none⟩ (.bool false)).heap[w.heap.size]? = some (.cells #[.int .i64 o, .int .i64 (v : Int), .iface k u] 122 (0, 0))) := (Below.heap_setCell WA _ _ _ hne').trans R0.out
  refine (HT.out (L.set v false) _ (by simp) R1.out).mono ?_
  rintro e w2 ⟨rfl, b2⟩
  have r2 := (b2.block g (Array.getElem?_eq_some_iff.1 R1.out).1).trans R1.out
  have p2 := (b2.block w.heap.size (Array.getElem?_eq_some_iff.1 P1.out).1).trans P1.out
  have G2 := hid (gr_trans G1.out (gr_below b2))
  have cv2 := bz_cell r2 (v := v) (by simpa using hv)
  have fv2 := unfrozen_row r2 v
  have c2 := fun j => cell_row p2 j
  have hg2 := (Array.getElem?_eq_some_iff.1 r2).1
  have R2 := hid r2
  have P2 := hid p2
  have HF1 : Hid (a.says (bitsE (L.set v false)) = a.says (upd (bitsE L) (v : Int) false)) := by show _ = _; rw [bitsE_put hv]
  rw [HF1.out]
  clear r2 p2 b2 cv fv c0 hgA
  go_wp2_with fail
  have R3 := hid (bz_set R2.out v true)
  have G3 := hid (gr_trans G2.out (gr_set w2 g v (.bool true)))
  have P3 : Hid ((w2.setCell ⟨g, v, none⟩ (.bool true)).heap[w.heap.size]? = some (.cells #[.int .i64 o, .int .i64 (v : Int), .iface k u] 122 (0, 0))) := (Below.heap_setCell w2 _ _ _ hne').trans P2.out
  refine (HT.out ((L.set v false).set v true) _ (by simp) R3.out).mono ?_
  rintro e w4 ⟨rfl, b4⟩
  have r4 := (b4.block g (Array.getElem?_eq_some_iff.1 R3.out).1).trans R3.out
  have p4 := (b4.block w.heap.size (Array.getElem?_eq_some_iff.1 P3.out).1).trans P3.out
  have G4 := hid (gr_trans G3.out (gr_below b4))
  have cv4 := bz_cell r4 (v := v) (by simpa using hv)
  have fv4 := unfrozen_row r4 v
  have c4 := fun j => cell_row p4 j
  have hg4 := (Array.getElem?_eq_some_iff.1 r4).1
  have R4 := hid r4
  have HF2 : Hid (a.says (bitsE ((L.set v false).set v true)) = a.says (upd (bitsE L) (v : Int) true)) := by show _ = _; rw [List.set_set, bitsE_put hv]
  rw [HF2.out]
  have FIN : Hid (Below w.heap.size w (w4.setCell ⟨g, v, none⟩ (.bool x))) := by
    refine gr_back (gr_trans G4.out (gr_set w4 g v (.bool x))) ?_
    rw [HR.out, bz_set R4.out v x, HX.out, set_set_get hv]
  clear r4 p4 b4 cv2 fv2 c2 hg2
  obtain ⟨x1, hx1⟩ : ∃ x, x = a.says (upd (bitsE L) (v : Int) false) := ⟨_, rfl⟩
  obtain ⟨x2, hx2⟩ : ∃ x, x = a.says (upd (bitsE L) (v : Int) true) := ⟨_, rfl⟩
  rw [← hx1, ← hx2]
  have HX1 := hid hx1
  have HX2 := hid hx2
  clear hx1 hx2 HF1 HF2 HT
  rcases hq with rfl | rfl
  · cases x1 <;> cases x2
    all_goals
      go_wp2
      go_ret
      exact ⟨by simp only [← HX1.out, ← HX2.out]; rfl, FIN.out⟩
  · cases x1 <;> cases x2
    all_goals
      go_wp2
      go_ret
      exact ⟨by simp only [← HX1.out, ← HX2.out]; rfl, FIN.out⟩

/-- two operands under an operator. -/
def opB (o : Int) (p q : Bool) : Bool := if o = 6 then (p && q) else if o = 7 then (p || q) else if o = 8 then (p != q) else if o = 9 then (!p || q) else (p == q)
set_option maxHeartbeats 2000000 in
theorem joined_any (o : Int) (ho : two o = true) (a b : Tr) (HA : OfC a) (HBB : OfC b) (g : Nat) (L : List Bool) (w : World) (hr : w.heap[g]? = some (.cells (bz L).toArray 4 (0, 0))) (hua : Und L.length a.post) (hub : Und L.length b.post) :
    Calls Tryz.prog 64 #[.slice (some ⟨g, 0, none⟩) L.length L.length, .agg #[.int .i64 o, tv a, tv b]] w fun e w' => e = .returned (.bool (opB o (a.says (bitsE L)) (b.says (bitsE L)))) ∧ Below w.heap.size w w' := by
  obtain ⟨x1, hx1⟩ : ∃ x, x = a.says (bitsE L) := ⟨_, rfl⟩
  obtain ⟨x2, hx2⟩ : ∃ x, x = b.says (bitsE L) := ⟨_, rfl⟩
  have hgl : g < w.heap.size := (Array.getElem?_eq_some_iff.1 hr).1
  have HNA : Hid (∀ W, Below w.heap.size w W → Calls Tryz.prog 44 #[.slice (some ⟨g, 0, none⟩) L.length L.length, tv a] W fun e w' => e = .returned (.bool x1) ∧ Below W.heap.size W w') := fun W hW => by
    rw [hx1]; exact HA g L W ((hW.block g hgl).trans hr) hua
  have HNB : Hid (∀ W, Below w.heap.size w W → Calls Tryz.prog 44 #[.slice (some ⟨g, 0, none⟩) L.length L.length, tv b] W fun e w' => e = .returned (.bool x2) ∧ Below W.heap.size W w') := fun W hW => by
    rw [hx2]; exact HBB g L W ((hW.block g hgl).trans hr) hub
  rw [← hx1, ← hx2]
  obtain ⟨k, u, e⟩ := tv_form a
  obtain ⟨k2, u2, e'⟩ := tv_form b
  rw [e, e']
  rw [e] at HNA
  rw [e'] at HNB
  obtain ⟨WA, hWA⟩ : ∃ WA, WA = w.alloc (Obj.cells #[.int .i64 o, .iface k u, .iface k2 u2] 124) := ⟨_, rfl⟩
  have hB : Below w.heap.size w WA := by rw [hWA]; exact below_box _ _
  have r0 : WA.heap[w.heap.size]? = some (.cells #[.int .i64 o, .iface k u, .iface k2 u2] 124 (0, 0)) := by rw [hWA]; exact heap_alloc_new w _
  have KP : Hid (∀ W, Below WA.heap.size WA W → W.cell? ⟨w.heap.size, 0, none⟩ = some (.int .i64 o) ∧ W.cell? ⟨w.heap.size, 1, none⟩ = some (.iface k u) ∧ W.cell? ⟨w.heap.size, 2, none⟩ = some (.iface k2 u2)) := fun W hW => by
    have q2 := (hW.block _ (Array.getElem?_eq_some_iff.1 r0).1).trans r0
    exact ⟨cell_row q2 0, cell_row q2 1, cell_row q2 2⟩
  obtain ⟨d0, d1, d2⟩ := KP.out WA (Below.refl _ _)
  have HWA := hid hWA
  have HB := hid hB
  clear hWA hB r0 hx1 hx2 e e' HA HBB hr hua hub hgl
  go_enter Tryz.func64, Tryz.ntmps64
  go_wp2_with (rw [← HWA.out])
  go_region_held3 (fun W => W.cell? ⟨w.heap.size, 1, none⟩ = some (.iface k u) ∧ W.cell? ⟨w.heap.size, 2, none⟩ = some (.iface k2 u2)) (go_keep) (first
    | (have q := B2; clear q; go_at_call 44; refine (HNB.out _ (HB.out.trans (B2.out.mono HB.out.size))).mono ?_; rintro e w3 ⟨rfl, b3⟩; have B3 := hid (B2.out.trans (b3.mono B2.out.size)); obtain ⟨f0, f1, f2⟩ := KP.out w3 B3.out; clear b3)
    | (go_at_call 44; refine (HNA.out _ HB.out.drew).mono ?_; rintro e w2 ⟨rfl, b2⟩; have B2 : Hid (Below WA.heap.size WA w2) := ((Below.refl _ _).drew.trans b2); obtain ⟨e0, e1, e2⟩ := KP.out w2 B2.out; clear b2))
  all_goals
    have FIN := hid (HB.out.trans (B3.out.mono HB.out.size))
    rcases two_cases ho with rfl | rfl | rfl | rfl | rfl
    all_goals
      cases x1 <;> cases x2
      all_goals
        go_wp2
        go_ret
        exact ⟨rfl, FIN.out⟩

end Go.Proofs.YtdkboifpdodonabGreatDoor
