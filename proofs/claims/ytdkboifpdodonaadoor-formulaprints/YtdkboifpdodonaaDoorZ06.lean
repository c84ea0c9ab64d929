import Derived.Test.YtdkboifpdodonaaDoorZ05
set_option linter.unusedSimpArgs false
/-
  The document's own starts.
-/
namespace Go.Proofs.YtdkboifpdodonaaDoor.Doc
open Go.RowKit Go.Deep PureCnf PureForm
set_option maxRecDepth 100000

theorem info3 : (Tryd.prog.info? 3).map (fun i => (i.zero, i.size, i.bytes)) = some (some (.int .i64 0), 1, 8) := by kernel_rfl
/-- numbers as cells. -/
def cn (l : List Nat) : List Value := List.map (fun n : Nat => Value.int .i64 (n : Int)) l
theorem made_zeros (n : Nat) : madeCells #[Value.int .i64 0] n = (cn (List.replicate n 0)).toArray := by
  apply Array.ext
  · simp [madeCells, cn]
  · intro i h1 h2
    simp [madeCells, cn, Nat.mod_one]

/-- what starts has in hand: the starts so far (then zeros) at fb, the roots behind it. -/
structure Stg (w W : World) (fb n : Nat) (F R : List Nat) (rv : Value) : Prop where
  row : W.heap[fb]? = some (.cells (cn (F ++ List.replicate (n - F.length) 0)).toArray 3 (0, 0))
  own : W.ownsRow (fb + 1) 3 1 rv R.length (cn R)
  below : Below fb w W

theorem cn_set (F : List Nat) (n b : Nat) (h : F.length < n) : (cn (F ++ List.replicate (n - F.length) 0)).toArray.setIfInBounds F.length (.int .i64 (b : Int)) = (cn ((F ++ [b]) ++ List.replicate (n - (F ++ [b]).length) 0)).toArray := by
  obtain ⟨m, hm⟩ : ∃ m, n - F.length = m + 1 := ⟨n - F.length - 1, by omega⟩
  have h2 : n - (F ++ [b]).length = m := by simp; omega
  rw [hm, h2, List.replicate_succ]
  apply Array.ext'
  simp [cn]
theorem cn_again (F Z : List Nat) (a b : Nat) : (cn ((F ++ [a]) ++ Z)).toArray.setIfInBounds F.length (.int .i64 (b : Int)) = (cn ((F ++ [b]) ++ Z)).toArray := by
  apply Array.ext'
  simp [cn]
theorem Stg.on {w W W' : World} {fb n : Nat} {F R : List Nat} {rv : Value} (h : Stg w W fb n F R rv) (hb : Below W.heap.size W W') : Stg w W' fb n F R rv := by
  have hs := (Array.getElem?_eq_some_iff.1 h.row).1
  exact ⟨(hb.block _ hs).trans h.row, ownsRow_below h.own hb, h.below.trans (hb.mono (by omega))⟩
theorem own_low {W : World} {base e size n b i : Nat} {v u : Value} {xs : List Value} (h : W.ownsRow base e size v n xs) (hb : b < base) : (W.setCell ⟨b, i, none⟩ u).ownsRow base e size v n xs := by
  refine ⟨h.1, ?_⟩
  rcases h.2 with hn | ⟨g, cap, cur, hv, hB, hg, rest⟩
  · exact .inl hn
  · exact .inr ⟨g, cap, cur, hv, hB, (Below.heap_setCell W _ _ _ (by simp; omega)).trans hg, rest⟩
/-- a start is written. -/
theorem Stg.put {w W : World} {fb n : Nat} {F R : List Nat} {rv : Value} (h : Stg w W fb n F R rv) (hlt : F.length < n) (b : Nat) : Stg w (W.setCell ⟨fb, F.length, none⟩ (.int .i64 (b : Int))) fb n (F ++ [b]) R rv := by
  refine ⟨?_, own_low h.own (by omega), h.below.setCell (by simp) _⟩
  rw [row_set h.row, cn_set F n b hlt]
theorem Stg.again {w W : World} {fb n : Nat} {F R : List Nat} {rv : Value} {a : Nat} (h : Stg w W fb n (F ++ [a]) R rv) (b : Nat) : Stg w (W.setCell ⟨fb, F.length, none⟩ (.int .i64 (b : Int))) fb n (F ++ [b]) R rv := by
  refine ⟨?_, own_low h.own (by omega), h.below.setCell (by simp) _⟩
  rw [row_set h.row, cn_again]
  simp
/-- some roots go. -/
theorem Stg.cut {w W : World} {fb n m : Nat} {F R : List Nat} {g cap k : Nat} (h : Stg w W fb n F R (.slice (some ⟨g, 0, none⟩) k cap)) (hm : m ≤ R.length) : Stg w W fb n F (R.take m) (.slice (some ⟨g, 0, none⟩) m cap) := by
  refine ⟨h.row, ?_, h.below⟩
  have hlen : (R.take m).length = m := by simp; omega
  rw [hlen]
  rcases h.own.2 with ⟨hn, _⟩ | ⟨g', cap', cur, hv, hB, hg, hk, hc, hs, ht⟩
  · simp at hn
  · simp only [Value.slice.injEq, Option.some.injEq, Addr.mk.injEq, and_true] at hv
    obtain ⟨rfl, rfl, rfl⟩ := hv
    refine ⟨by simp [cn]; omega, .inr ⟨g, cap, cur, rfl, hB, hg, by omega, hc, hs, ?_⟩⟩
    have e := congrArg (List.take m) ht
    rw [List.take_take, Nat.mul_one, Nat.min_eq_left hm] at e
    rw [Nat.mul_one, e]
    simp [cn]
/-- one root more. -/
theorem Stg.root {w W W' : World} {fb n : Nat} {F R : List Nat} {rv rv' : Value} {x : Nat} (h : Stg w W fb n F R rv) (ho : W'.ownsRow (fb + 1) 3 1 rv' (R.length + 1) (cn R ++ [.int .i64 (x : Int)])) (hg : W.grownBy W' rv.ownBlock) : Stg w W' fb n F (R ++ [x]) rv' := by
  have hs := (Array.getElem?_eq_some_iff.1 h.row).1
  refine ⟨?_, ?_, h.below.grown hg (by omega) (fun j hj => by have := (h.own.lt j hj).1; omega)⟩
  · refine (hg.block fb hs ?_).trans h.row
    intro e
    have := (h.own.lt fb e.symm).1
    omega
  · rw [List.length_append]
    have e : cn (R ++ [x]) = cn R ++ [.int .i64 (x : Int)] := by simp [cn]
    rw [e]
    exact ho
theorem app_root {ops : Array Oper} {rest : List Oper} {o : Oper} {a : Act} {Q : Exit → Act → World → Prop} {w W : World} {fb n : Nat} {F R : List Nat} {rv : Value} (hgd : o.guard = none) (sl y : Operand)
    (ho : o.op = .call { callee := .builtin .append, args := #[sl, y], argTypes := #[22, 22] }) (h : Stg w W fb n F R rv) (x ad : Nat) (had : ad = W.heap.size) (hs : a.eval sl = rv) (hx : a.eval y = .slice (some ⟨ad, 0, none⟩) 1 1) (hl : R.length ≤ 1048576)
    (hK : ∀ sx cx w', Stg w w' fb n F (R ++ [x]) (.slice sx (R.length + 1) cx) → wpList Tryd.prog ops Q rest (a.put o.dst (.slice sx (R.length + 1) cx)) w') : wpList Tryd.prog ops Q (o :: rest) a (W.alloc (.cells #[.int .i64 (x : Int)] 3)) := by
  subst had
  have hfb := (Array.getElem?_eq_some_iff.1 h.row).1
  have h2 := h.on ((Below.refl _ _).alloc (Nat.le_refl _) (Obj.cells #[.int .i64 (x : Int)] 3))
  refine app_one hgd sl y 22 3 _ 1 8 ho Tryd.underlying22 info3 rfl (by decide) (by decide) (fb + 1) R.length rv (cn R) [.int .i64 (x : Int)] ⟨W.heap.size, 0, none⟩ hs h2.own hx rfl (fun j u hu => by rw [add_zero_addr, cell_row (heap_alloc_new W _)]; simpa using hu) (fun u hu => by simp at hu; subst hu; rfl) (by omega) (by simp; omega) ?_
  intro v4 w4 o4 g4
  obtain ⟨sx, cx, rfl⟩ := own_shape o4
  exact hK sx cx w4 (h2.root o4 g4)
theorem Stg.cell {w W : World} {fb n : Nat} {F R : List Nat} {rv : Value} (h : Stg w W fb n F R rv) {k b : Nat} (hk : F[k]? = some b) : W.cell? ⟨fb, k, none⟩ = some (.int .i64 (b : Int)) := by
  have := (List.getElem?_eq_some_iff.1 hk).1
  rw [cell_row h.row]
  simp only [cn, List.getElem?_toArray, List.map_append]
  rw [List.getElem?_append_left (by simpa using this), List.getElem?_map, hk]
  rfl
theorem Stg.zero {w W : World} {fb n : Nat} {F R : List Nat} {rv : Value} (h : Stg w W fb n F R rv) (hlt : F.length < n) : W.cell? ⟨fb, F.length, none⟩ = some (.int .i64 0) := by
  rw [cell_row h.row]
  simp only [cn, List.getElem?_toArray, List.map_append]
  rw [List.getElem?_append_right (by simp)]
  simp only [List.length_map, Nat.sub_self, List.getElem?_map, List.getElem?_replicate]
  rw [if_pos (by omega)]
  rfl
theorem build_snoc {f : List Nd} {i : Nat} (hi : i < f.length) : build (f.take (i + 1)) [] = (build (f.take i) []).bind (joinT f[i]) := by
  have h2 : i < (f.take (i + 1)).length := by simp; omega
  rw [build_take h2 []]
  rw [List.take_take, Nat.min_eq_left (by omega)]
  congr 1
  funext s
  rw [List.getElem_take, List.drop_of_length_le (by simp; omega)]
  cases joinT f[i] s <;> rfl
theorem Joined.len {x : Nd} {st st' : List Tr} {k : Nat} (J : Joined x st st' k) : st'.length ≤ st.length + 1 := by
  have h := congrArg List.length J.roots
  rw [rootsAll_len, List.length_append, List.length_take, rootsAll_len] at h
  simp at h
  omega
theorem Stg.rootAt {w W : World} {fb n : Nat} {F R : List Nat} {rv : Value} (h : Stg w W fb n F R rv) (hR : 0 < R.length) : ∃ g cap, rv = .slice (some ⟨g, 0, none⟩) R.length cap ∧ R.length ≤ cap ∧ g < W.heap.size ∧ fb < g ∧ ∀ {k r : Nat}, R[k]? = some r → W.cell? ⟨g, k, none⟩ = some (.int .i64 (r : Int)) := by
  rcases h.own.2 with ⟨_, h0⟩ | ⟨g, cap, cur, hv, hB, hg, hk, hc, hs, ht⟩
  · omega
  · refine ⟨g, cap, hv, hk, (Array.getElem?_eq_some_iff.1 hg).1, by omega, fun {k r} e => ?_⟩
    have hlt := (List.getElem?_eq_some_iff.1 e).1
    rw [cell_row hg]
    have h1 : cur.toList[k]? = (cn R)[k]? := by rw [← ht, List.getElem?_take_of_lt (by omega)]
    simp [cn, e] at h1
    exact h1

/-- what starts answers. -/
def Started (f : List Nd) (w : World) (e : Ending) (w' : World) : Prop := match treeOf f with
  | some t => e = .returned (.tuple #[.slice (some ⟨w.heap.size, 0, none⟩) f.length f.length, .bool true]) ∧ w'.heap[w.heap.size]? = some (.cells (cn (fromT t 0)).toArray 3 (0, 0))
  | none => ∃ v, e = .returned (.tuple #[v, .bool false])
theorem Started.no {f : List Nd} {w w' : World} {e : Ending} {v : Value} (h : treeOf f = none) (he : e = .returned (.tuple #[v, .bool false])) : Started f w e w' := by
  unfold Started; rw [h]; exact ⟨v, he⟩
theorem below_back {w W : World} {B b o : Nat} {x : Value} (hb : Below B w W) (hlt : b < B) (h : W.cell? ⟨b, o, none⟩ = some x) : w.cell? ⟨b, o, none⟩ = some x := (hb.cell (p := ⟨b, o, none⟩) hlt).symm.trans h
theorem tree_none {f : List Nd} (h : build f [] = none) : treeOf f = none := by unfold treeOf; rw [h]
theorem tree_many {f : List Nd} {st : List Tr} (h : build f [] = some st) (hl : st.length ≠ 1) : treeOf f = none := by
  unfold treeOf
  rw [h]
  match st, hl with
  | [], _ => rfl
  | [_], h => exact absurd rfl h
  | _ :: _ :: _, _ => rfl

set_option maxHeartbeats 2000000 in
set_option maxRecDepth 100000 in
theorem starts_small (f : List Nd) (sa : Option Addr) (ca : Nat) (w : World) (hf : NodesAt w sa f) (h0 : 1 ≤ f.length) (hl : f.length ≤ 65536) :
    Calls Tryd.prog 60 #[.slice sa f.length ca] w fun e w' => Started f w e w' ∧ Below w.heap.size w w' := by
  have HF := hid hf
  have g1 : ¬ (f.length : Int) < 1 := by omega
  have g2 : ¬ 65536 < (f.length : Int) := by omega
  have hmk : ∀ W : World, (Instr.makeSlice 22 (.int .i64 (f.length : Int)) (.int .i64 (f.length : Int))).run Tryd.prog W = .ok (.slice (some ⟨W.heap.size, 0, none⟩) f.length f.length) (W.alloc (.cells (cn (List.replicate f.length 0)).toArray 3)) := fun W => by
    have := run_make_row' (P := Tryd.prog) 22 3 (.int .i64 0) 8 Tryd.underlying22 info3 rfl .i64 .i64 f.length (by omega) (by omega) W
    rwa [made_zeros] at this
  have HST0 : Hid (Stg w (w.alloc (.cells (cn (List.replicate f.length 0)).toArray 3)) w.heap.size f.length (fromAll []) (rootsAll []) (.slice none 0 0)) := ⟨by rw [heap_alloc_new]; simp [fromAll], World.ownsRow_nil _ _ _ _, (Below.refl _ _).alloc (Nat.le_refl _) _⟩
  clear hf
  go_enter Tryd.func60, Tryd.ntmps60
  go_wp2
  go_loopw [5, 6] (fun rv iv W => ∃ (i : Nat) (st : List Tr), i ≤ f.length ∧ iv = .int .i64 (i : Int) ∧ st.length ≤ i ∧ posL st = i ∧ Hid (build (f.take i) [] = some st ∧ Stg w W w.heap.size f.length (fromAll st) (rootsAll st) rv)) (fun _ iv _ => f.length - (intOf iv).toNat)
  case atStart => exact ⟨0, [], Nat.zero_le _, rfl, Nat.le_refl _, rfl, rfl, HST0.out⟩
  case round =>
    clear HST0 hmk
    obtain ⟨i, st, hi, rfl, hsl, hpos, HB⟩ := hrel
    obtain ⟨hbuild, hstg⟩ := HB.out
    have HBD := hid hbuild
    have HSG := hid hstg
    have HPOS := hid hpos
    have HFL : Hid ((fromAll st).length = i) := by show _ = _; rw [fromAll_len]; exact hpos
    have HRL := hid (rootsAll_len st)
    obtain ⟨sr, cr, hrv⟩ := own_shape hstg.own
    rw [rootsAll_len] at hrv
    subst hrv
    clear HB hbuild hstg hpos
    by_cases hlt : i < f.length
    · obtain ⟨g, o, rfl, hg, a0, a1⟩ := HF.out.at_ i hlt
      have p0 := below_cell HSG.out.below hg a0
      have p1 := below_cell HSG.out.below hg a1
      have HND := hid (fun W => node_any f[i] W)
      have HAR := hid (fun W => arity_any f[i].1 W)
      have hbt := build_take hlt []
      rw [HBD.out] at hbt
      simp only [Option.bind_some] at hbt
      have HBT := hid hbt
      obtain ⟨x, hx⟩ : ∃ x, x = f[i] := ⟨_, rfl⟩
      rw [← hx] at HND HAR p0 p1 HBT
      have HX := hid hx
      clear a0 a1 hbt hx
      cases hnb : nodeB x with
      | false =>
        have HT : Hid (treeOf f = none) := tree_none (by rw [HBT.out, join_node hnb]; rfl)
        rw [hnb] at HND
        clear hnb
        go_wp2_with (first
          | (have q := HSG1; clear q; go_at_call 86; refine (HAR.out _).mono ?_; rintro e w9 ⟨rfl, hw9⟩; rw [hw9]; clear hw9 w9)
          | (go_at_call 85; refine (HND.out _).mono ?_; rintro e w1 ⟨rfl, b1⟩; have HSG1 := hid (HSG.out.on b1); have q0 := below_cell HSG1.out.below hg (below_back HSG.out.below hg p0); have z0 := HSG1.out.zero (by rw [HFL.out]; exact hlt); rw [HFL.out] at z0; have zf := fun j => unfrozen_row HSG1.out.row j; have zb := (Array.getElem?_eq_some_iff.1 HSG1.out.row).1; clear b1))
        exact bodyPost_ret (v := .tuple #[.slice none 0 0, .bool false]) (by simp [results, Tryd.results60, go_sem]) rfl ⟨Started.no HT.out rfl, HSG1.out.below⟩
      | true =>
        rw [hnb] at HND
        rcases arity_of hnb with hk | hk | hk | hk
        · rw [hk] at HAR
          obtain ⟨st', J⟩ := joined hnb st (k := 0) hk (Nat.zero_le _)
          obtain ⟨b, hb1, hb2, _⟩ := J.frm
          have hb3 := hb2 rfl
          rw [HPOS.out] at hb3
          rw [hb3] at hb1
          clear hb3
          have HB1 := hid hb1
          have HRT := hid J.roots
          have HJ : Hid (build (f.take (i + 1)) [] = some st') := by
            show _ = _
            rw [build_snoc hlt, HBD.out, ← HX.out]
            exact J.join
          have hp' := J.pos
          rw [HPOS.out] at hp'
          have hsl' := J.len
          clear hnb hk hb1 hb2 J
          go_wp2_with (first
            | (at_builtin; have s1 := HSG1.out.put (by rw [HFL.out]; exact hlt) i; rw [HFL.out] at s1; refine app_root rfl _ _ rfl s1 i w1.heap.size (by simp [World.setCell]) rfl rfl (by rw [HRL.out]; omega) ?_; intro sx cx w4 m4; rw [HRL.out] at m4 ⊢; have M4 := hid m4; clear m4 s1)
            | (have q := HSG1; clear q; go_at_call 86; refine (HAR.out _).mono ?_; rintro e w9 ⟨rfl, hw9⟩; rw [hw9]; clear hw9 w9)
            | (go_at_call 85; refine (HND.out _).mono ?_; rintro e w1 ⟨rfl, b1⟩; have HSG1 := hid (HSG.out.on b1); have q0 := below_cell HSG1.out.below hg (below_back HSG.out.below hg p0); have z0 := HSG1.out.zero (by rw [HFL.out]; exact hlt); rw [HFL.out] at z0; have zf := fun j => unfrozen_row HSG1.out.row j; have zb := (Array.getElem?_eq_some_iff.1 HSG1.out.row).1; clear b1))
          have M5 : Hid (Stg w w4 w.heap.size f.length (fromAll st') (rootsAll st') (.slice sx (st.length + 1) cx)) := by
            have e : rootsAll st' = rootsAll st ++ [i] := by
              rw [HRT.out, Nat.sub_zero, List.take_of_length_le (by rw [HRL.out]; exact Nat.le_refl _), HPOS.out]
            show Stg _ _ _ _ _ _ _
            rw [HB1.out, e]
            exact M4.out
          exact ⟨⟨i + 1, st', hlt, by go_num, by omega, hp', HJ.out, M5.out⟩, by simp [intOf]; omega⟩
        · rw [hk] at HAR
          by_cases hfew : st.length < 1
          · have HT : Hid (treeOf f = none) := tree_none (by rw [HBT.out, join_few (by rw [hk]; omega)]; rfl)
            have hfI : (st.length : Int) < 1 := by omega
            clear hnb hk hfew
            go_wp2_with (first
              | (have q := HSG1; clear q; go_at_call 86; refine (HAR.out _).mono ?_; rintro e w9 ⟨rfl, hw9⟩; rw [hw9]; clear hw9 w9)
              | (go_at_call 85; refine (HND.out _).mono ?_; rintro e w1 ⟨rfl, b1⟩; have HSG1 := hid (HSG.out.on b1); have q0 := below_cell HSG1.out.below hg (below_back HSG.out.below hg p0); have z0 := HSG1.out.zero (by rw [HFL.out]; exact hlt); rw [HFL.out] at z0; have zf := fun j => unfrozen_row HSG1.out.row j; have zb := (Array.getElem?_eq_some_iff.1 HSG1.out.row).1; clear b1))
            exact bodyPost_ret (v := .tuple #[.slice none 0 0, .bool false]) (by simp [results, Tryd.results60, go_sem]) rfl ⟨Started.no HT.out rfl, HSG1.out.below⟩
          · obtain ⟨st', J⟩ := joined hnb st (k := 1) hk (by omega)
            obtain ⟨b, hb1, _, hb2⟩ := J.frm
            obtain ⟨rr, hr1, hr2⟩ := hb2 (by decide)
            obtain ⟨m, hm⟩ : ∃ m, st.length = m + 1 := ⟨st.length - 1, by omega⟩
            rw [show st.length - 1 = m by omega] at hr1
            have hrlt := (List.getElem?_eq_some_iff.1 hr2).1
            rw [HFL.out] at hrlt
            have HB1 := hid hb1
            have HR1 := hid hr1
            have HR2 := hid hr2
            have HRT := hid J.roots
            have HJ : Hid (build (f.take (i + 1)) [] = some st') := by
              show _ = _
              rw [build_snoc hlt, HBD.out, ← HX.out]
              exact J.join
            have hp' := J.pos
            rw [HPOS.out] at hp'
            have hsl' := J.len
            obtain ⟨gr, cp, hrv, hcp, hgr, hfg, _⟩ := HSG.out.rootAt (by rw [HRL.out]; omega)
            rw [HRL.out] at hrv hcp
            simp only [Value.slice.injEq, true_and] at hrv
            obtain ⟨rfl, rfl⟩ := hrv
            have HRAT : Hid (∀ {W : World} {k r : Nat}, Stg w W w.heap.size f.length (fromAll st) (rootsAll st) (.slice (some ⟨gr, 0, none⟩) st.length cr) → (rootsAll st)[k]? = some r → W.cell? ⟨gr, k, none⟩ = some (.int .i64 (r : Int))) := fun {W k r} h e => by
              obtain ⟨g', c', hv, _, _, _, hc⟩ := h.rootAt (by rw [HRL.out]; omega)
              simp only [Value.slice.injEq, Option.some.injEq, Addr.mk.injEq, and_true] at hv
              rw [hv.1]
              exact hc e
            rw [hm] at HSG HRAT hcp hsl' hsl ⊢
            have HM := hid hm
            have hne1 : gr ≠ w.heap.size := by omega
            have hne2 : rr ≠ i := by omega
            have hgI : ¬ ((m : Int) + 1 < 1) := by omega
            clear hnb hk hb1 hb2 J hr1 hr2 hm hfew
            go_wp2_with (first
              | (at_builtin; have s1 := HSG1.out.put (by rw [HFL.out]; exact hlt) i; have s2 := (s1.again b).cut (m := m) (by rw [HRL.out, HM.out]; omega); rw [HFL.out] at s2; refine app_root rfl _ _ rfl s2 i w1.heap.size (by simp [World.setCell]) rfl rfl (by rw [List.length_take]; omega) ?_; intro sx cx w4 m4; rw [show ((rootsAll st).take m).length = m by rw [List.length_take, HRL.out, HM.out]; omega] at m4 ⊢; have M4 := hid m4; clear m4 s1 s2)
              | (have q := HSG1; clear q; go_at_call 86; refine (HAR.out _).mono ?_; rintro e w9 ⟨rfl, hw9⟩; rw [hw9]; clear hw9 w9)
              | (go_at_call 85; refine (HND.out _).mono ?_; rintro e w1 ⟨rfl, b1⟩; have HSG1 := hid (HSG.out.on b1); have q0 := below_cell HSG1.out.below hg (below_back HSG.out.below hg p0); have z0 := HSG1.out.zero (by rw [HFL.out]; exact hlt); rw [HFL.out] at z0; have zf := fun j => unfrozen_row HSG1.out.row j; have zb := (Array.getElem?_eq_some_iff.1 HSG1.out.row).1; have d0 := HRAT.out HSG1.out HR1.out; have d1 := HSG1.out.cell HR2.out; clear b1))
            have M5 : Hid (Stg w w4 w.heap.size f.length (fromAll st') (rootsAll st') (.slice sx (m + 1) cx)) := by
              have e : rootsAll st' = (rootsAll st).take m ++ [i] := by
                rw [HRT.out, HPOS.out, HM.out, Nat.add_sub_cancel]
              show Stg _ _ _ _ _ _ _
              rw [HB1.out, e]
              exact M4.out
            exact ⟨⟨i + 1, st', hlt, by go_num, by omega, hp', HJ.out, M5.out⟩, by simp [intOf]; omega⟩
        · rw [hk] at HAR
          by_cases hfew : st.length < 2
          · have HT : Hid (treeOf f = none) := tree_none (by rw [HBT.out, join_few (by rw [hk]; omega)]; rfl)
            have hfI : (st.length : Int) < 2 := by omega
            clear hnb hk hfew
            go_wp2_with (first
              | (have q := HSG1; clear q; go_at_call 86; refine (HAR.out _).mono ?_; rintro e w9 ⟨rfl, hw9⟩; rw [hw9]; clear hw9 w9)
              | (go_at_call 85; refine (HND.out _).mono ?_; rintro e w1 ⟨rfl, b1⟩; have HSG1 := hid (HSG.out.on b1); have q0 := below_cell HSG1.out.below hg (below_back HSG.out.below hg p0); have z0 := HSG1.out.zero (by rw [HFL.out]; exact hlt); rw [HFL.out] at z0; have zf := fun j => unfrozen_row HSG1.out.row j; have zb := (Array.getElem?_eq_some_iff.1 HSG1.out.row).1; clear b1))
            exact bodyPost_ret (v := .tuple #[.slice none 0 0, .bool false]) (by simp [results, Tryd.results60, go_sem]) rfl ⟨Started.no HT.out rfl, HSG1.out.below⟩
          · obtain ⟨st', J⟩ := joined hnb st (k := 2) hk (by omega)
            obtain ⟨b, hb1, _, hb2⟩ := J.frm
            obtain ⟨rr, hr1, hr2⟩ := hb2 (by decide)
            obtain ⟨m, hm⟩ : ∃ m, st.length = m + 2 := ⟨st.length - 2, by omega⟩
            rw [show st.length - 2 = m by omega] at hr1
            have hrlt := (List.getElem?_eq_some_iff.1 hr2).1
            rw [HFL.out] at hrlt
            have HB1 := hid hb1
            have HR1 := hid hr1
            have HR2 := hid hr2
            have HRT := hid J.roots
            have HJ : Hid (build (f.take (i + 1)) [] = some st') := by
              show _ = _
              rw [build_snoc hlt, HBD.out, ← HX.out]
              exact J.join
            have hp' := J.pos
            rw [HPOS.out] at hp'
            have hsl' := J.len
            obtain ⟨gr, cp, hrv, hcp, hgr, hfg, _⟩ := HSG.out.rootAt (by rw [HRL.out]; omega)
            rw [HRL.out] at hrv hcp
            simp only [Value.slice.injEq, true_and] at hrv
            obtain ⟨rfl, rfl⟩ := hrv
            have HRAT : Hid (∀ {W : World} {k r : Nat}, Stg w W w.heap.size f.length (fromAll st) (rootsAll st) (.slice (some ⟨gr, 0, none⟩) st.length cr) → (rootsAll st)[k]? = some r → W.cell? ⟨gr, k, none⟩ = some (.int .i64 (r : Int))) := fun {W k r} h e => by
              obtain ⟨g', c', hv, _, _, _, hc⟩ := h.rootAt (by rw [HRL.out]; omega)
              simp only [Value.slice.injEq, Option.some.injEq, Addr.mk.injEq, and_true] at hv
              rw [hv.1]
              exact hc e
            rw [hm] at HSG HRAT hcp hsl' hsl ⊢
            have HM := hid hm
            have hne1 : gr ≠ w.heap.size := by omega
            have hne2 : rr ≠ i := by omega
            have hgI : ¬ ((m : Int) + 2 < 2) := by omega
            clear hnb hk hb1 hb2 J hr1 hr2 hm hfew
            go_wp2_with (first
              | (at_builtin; have s1 := HSG1.out.put (by rw [HFL.out]; exact hlt) i; have s2 := (s1.again b).cut (m := m) (by rw [HRL.out, HM.out]; omega); rw [HFL.out] at s2; refine app_root rfl _ _ rfl s2 i w1.heap.size (by simp [World.setCell]) rfl rfl (by rw [List.length_take]; omega) ?_; intro sx cx w4 m4; rw [show ((rootsAll st).take m).length = m by rw [List.length_take, HRL.out, HM.out]; omega] at m4 ⊢; have M4 := hid m4; clear m4 s1 s2)
              | (have q := HSG1; clear q; go_at_call 86; refine (HAR.out _).mono ?_; rintro e w9 ⟨rfl, hw9⟩; rw [hw9]; clear hw9 w9)
              | (go_at_call 85; refine (HND.out _).mono ?_; rintro e w1 ⟨rfl, b1⟩; have HSG1 := hid (HSG.out.on b1); have q0 := below_cell HSG1.out.below hg (below_back HSG.out.below hg p0); have z0 := HSG1.out.zero (by rw [HFL.out]; exact hlt); rw [HFL.out] at z0; have zf := fun j => unfrozen_row HSG1.out.row j; have zb := (Array.getElem?_eq_some_iff.1 HSG1.out.row).1; have d0 := HRAT.out HSG1.out HR1.out; have d1 := HSG1.out.cell HR2.out; clear b1))
            have M5 : Hid (Stg w w4 w.heap.size f.length (fromAll st') (rootsAll st') (.slice sx (m + 1) cx)) := by
              have e : rootsAll st' = (rootsAll st).take m ++ [i] := by
                rw [HRT.out, HPOS.out, HM.out, Nat.add_sub_cancel]
              show Stg _ _ _ _ _ _ _
              rw [HB1.out, e]
              exact M4.out
            exact ⟨⟨i + 1, st', hlt, by go_num, by omega, hp', HJ.out, M5.out⟩, by simp [intOf]; omega⟩
        · rw [hk] at HAR
          by_cases hfew : st.length < 3
          · have HT : Hid (treeOf f = none) := tree_none (by rw [HBT.out, join_few (by rw [hk]; omega)]; rfl)
            have hfI : (st.length : Int) < 3 := by omega
            clear hnb hk hfew
            go_wp2_with (first
              | (have q := HSG1; clear q; go_at_call 86; refine (HAR.out _).mono ?_; rintro e w9 ⟨rfl, hw9⟩; rw [hw9]; clear hw9 w9)
              | (go_at_call 85; refine (HND.out _).mono ?_; rintro e w1 ⟨rfl, b1⟩; have HSG1 := hid (HSG.out.on b1); have q0 := below_cell HSG1.out.below hg (below_back HSG.out.below hg p0); have z0 := HSG1.out.zero (by rw [HFL.out]; exact hlt); rw [HFL.out] at z0; have zf := fun j => unfrozen_row HSG1.out.row j; have zb := (Array.getElem?_eq_some_iff.1 HSG1.out.row).1; clear b1))
            exact bodyPost_ret (v := .tuple #[.slice none 0 0, .bool false]) (by simp [results, Tryd.results60, go_sem]) rfl ⟨Started.no HT.out rfl, HSG1.out.below⟩
          · obtain ⟨st', J⟩ := joined hnb st (k := 3) hk (by omega)
            obtain ⟨b, hb1, _, hb2⟩ := J.frm
            obtain ⟨rr, hr1, hr2⟩ := hb2 (by decide)
            obtain ⟨m, hm⟩ : ∃ m, st.length = m + 3 := ⟨st.length - 3, by omega⟩
            rw [show st.length - 3 = m by omega] at hr1
            have hrlt := (List.getElem?_eq_some_iff.1 hr2).1
            rw [HFL.out] at hrlt
            have HB1 := hid hb1
            have HR1 := hid hr1
            have HR2 := hid hr2
            have HRT := hid J.roots
            have HJ : Hid (build (f.take (i + 1)) [] = some st') := by
              show _ = _
              rw [build_snoc hlt, HBD.out, ← HX.out]
              exact J.join
            have hp' := J.pos
            rw [HPOS.out] at hp'
            have hsl' := J.len
            obtain ⟨gr, cp, hrv, hcp, hgr, hfg, _⟩ := HSG.out.rootAt (by rw [HRL.out]; omega)
            rw [HRL.out] at hrv hcp
            simp only [Value.slice.injEq, true_and] at hrv
            obtain ⟨rfl, rfl⟩ := hrv
            have HRAT : Hid (∀ {W : World} {k r : Nat}, Stg w W w.heap.size f.length (fromAll st) (rootsAll st) (.slice (some ⟨gr, 0, none⟩) st.length cr) → (rootsAll st)[k]? = some r → W.cell? ⟨gr, k, none⟩ = some (.int .i64 (r : Int))) := fun {W k r} h e => by
              obtain ⟨g', c', hv, _, _, _, hc⟩ := h.rootAt (by rw [HRL.out]; omega)
              simp only [Value.slice.injEq, Option.some.injEq, Addr.mk.injEq, and_true] at hv
              rw [hv.1]
              exact hc e
            rw [hm] at HSG HRAT hcp hsl' hsl ⊢
            have HM := hid hm
            have hne1 : gr ≠ w.heap.size := by omega
            have hne2 : rr ≠ i := by omega
            have hgI : ¬ ((m : Int) + 3 < 3) := by omega
            clear hnb hk hb1 hb2 J hr1 hr2 hm hfew
            go_wp2_with (first
              | (at_builtin; have s1 := HSG1.out.put (by rw [HFL.out]; exact hlt) i; have s2 := (s1.again b).cut (m := m) (by rw [HRL.out, HM.out]; omega); rw [HFL.out] at s2; refine app_root rfl _ _ rfl s2 i w1.heap.size (by simp [World.setCell]) rfl rfl (by rw [List.length_take]; omega) ?_; intro sx cx w4 m4; rw [show ((rootsAll st).take m).length = m by rw [List.length_take, HRL.out, HM.out]; omega] at m4 ⊢; have M4 := hid m4; clear m4 s1 s2)
              | (have q := HSG1; clear q; go_at_call 86; refine (HAR.out _).mono ?_; rintro e w9 ⟨rfl, hw9⟩; rw [hw9]; clear hw9 w9)
              | (go_at_call 85; refine (HND.out _).mono ?_; rintro e w1 ⟨rfl, b1⟩; have HSG1 := hid (HSG.out.on b1); have q0 := below_cell HSG1.out.below hg (below_back HSG.out.below hg p0); have z0 := HSG1.out.zero (by rw [HFL.out]; exact hlt); rw [HFL.out] at z0; have zf := fun j => unfrozen_row HSG1.out.row j; have zb := (Array.getElem?_eq_some_iff.1 HSG1.out.row).1; have d0 := HRAT.out HSG1.out HR1.out; have d1 := HSG1.out.cell HR2.out; clear b1))
            have M5 : Hid (Stg w w4 w.heap.size f.length (fromAll st') (rootsAll st') (.slice sx (m + 1) cx)) := by
              have e : rootsAll st' = (rootsAll st).take m ++ [i] := by
                rw [HRT.out, HPOS.out, HM.out, Nat.add_sub_cancel]
              show Stg _ _ _ _ _ _ _
              rw [HB1.out, e]
              exact M4.out
            exact ⟨⟨i + 1, st', hlt, by go_num, by omega, hp', HJ.out, M5.out⟩, by simp [intOf]; omega⟩
    · have hin : i = f.length := by omega
      have hb := HBD.out
      rw [hin, List.take_length] at hb
      have hbel := HSG.out.below
      by_cases h1 : st.length = 1
      · have h1b : ((st.length : Int) == 1) = true := by rw [beq_iff_eq]; omega
        obtain ⟨t, rfl⟩ : ∃ t, st = [t] := by
          match st, h1 with
          | [t], _ => exact ⟨t, rfl⟩
        have HT : Hid (treeOf f = some t) := by show _ = _; unfold treeOf; rw [hb]
        have hrow := HSG.out.row
        rw [show fromAll [t] = fromT t 0 by simp [fromAll, posL_nil], fromT_len, show t.post.length = f.length by
          have := HPOS.out
          rw [posL_cons, posL_nil] at this
          omega, Nat.sub_self, List.replicate_zero, List.append_nil] at hrow
        have HROW := hid hrow
        have HBL := hid hbel
        clear hb hbel hrow h1
        go_wp2
        refine bodyPost_ret (v := .tuple #[.slice (some ⟨w.heap.size, 0, none⟩) f.length f.length, .bool true]) (by simp [results, Tryd.results60, go_sem]) rfl ⟨?_, HBL.out⟩
        unfold Started
        rw [HT.out]
        exact ⟨rfl, HROW.out⟩
      · have h1b : ((st.length : Int) == 1) = false := by rw [beq_eq_false_iff_ne]; omega
        have HT := hid (tree_many hb h1)
        have HBL := hid hbel
        clear hb hbel h1
        go_wp2
        exact bodyPost_ret (v := .tuple #[.slice (some ⟨w.heap.size, 0, none⟩) f.length f.length, .bool false]) (by simp [results, Tryd.results60, go_sem]) rfl ⟨Started.no HT.out rfl, HBL.out⟩

set_option maxHeartbeats 1000000 in
set_option maxRecDepth 100000 in
theorem starts_odd (f : List Nd) (sa : Option Addr) (ca : Nat) (w : World) (hl : f.length ≤ 9223372036854775807) (h : f.length = 0 ∨ 65536 < f.length) :
    Calls Tryd.prog 60 #[.slice sa f.length ca] w fun e w' => (∃ v, e = .returned (.tuple #[v, .bool false])) ∧ Below w.heap.size w w' := by
  by_cases h1 : (f.length : Int) < 1
  · go_enter Tryd.func60, Tryd.ntmps60
    go_wp2
    exact bodyPost_ret (v := .tuple #[.slice none 0 0, .bool false]) (by simp [results, Tryd.results60, go_sem]) rfl ⟨⟨_, rfl⟩, Below.refl _ _⟩
  · have h2 : 65536 < (f.length : Int) := by omega
    go_enter Tryd.func60, Tryd.ntmps60
    go_wp2
    exact bodyPost_ret (v := .tuple #[.slice none 0 0, .bool false]) (by simp [results, Tryd.results60, go_sem]) rfl ⟨⟨_, rfl⟩, Below.refl _ _⟩
end Go.Proofs.YtdkboifpdodonaaDoor.Doc
/-
  The document's own operand, over a contract of tree.
-/
namespace Go.Proofs.YtdkboifpdodonaaDoor.Doc
open Go.RowKit Go.Deep PureCnf PureForm
set_option maxRecDepth 100000

/-- what printing a subtree at i does, for pages of this list. -/
def Prints (g i : Nat) (w0 : World) (B b : Nat) (fv gv : Value) (last : Bool) (D : List UInt8) (need : Nat) : Prop :=
  ∀ (wk W : World) (bv : Value) (T : List UInt8) (deep most : Nat), Pg wk w0 W B b fv gv bv T deep most → deep ≤ most → T.length + D.length ≤ 1073741824 → deep + need ≤ 1048576 →
    Calls Tryd.prog g #[.pointer (some ⟨b, 0, none⟩), .int .i64 (i : Int), .bool last] W fun e W' => e = .returned (.tuple #[]) ∧ ∃ bv', Pg wk w0 W' B b fv gv bv' (T ++ D) deep (max most (deep + need))

set_option maxHeartbeats 1000000 in
set_option maxRecDepth 100000 in
theorem operand_any {wk w0 W : World} {B b i : Nat} {f : List Nd} {sa : Option Addr} {ca : Nat} {gv bv : Value} {T D : List UInt8} {deep most need : Nat} (br last : Bool) (hi : i < f.length) (hw : w0.heap.size = B) (hf : NodesAt w0 sa f)
    (HT : Prints 87 i w0 B b (.slice sa f.length ca) gv (brk br last f[i].1 || last) D need) (h : Pg wk w0 W B b (.slice sa f.length ca) gv bv T deep most) (hdm : deep ≤ most) (hT0 : T.length + (if brk br last f[i].1 = true then 40 :: D ++ [41] else D).length ≤ 1073741824) (hd0 : deep + wrapN (brk br last f[i].1) need ≤ 1048576) :
    Calls Tryd.prog 61 #[.pointer (some ⟨b, 0, none⟩), .int .i64 (i : Int), .bool br, .bool last] W fun e W' => e = .returned (.tuple #[]) ∧ ∃ bv', Pg wk w0 W' B b (.slice sa f.length ca) gv bv' (T ++ (if brk br last f[i].1 = true then 40 :: D ++ [41] else D)) deep (max most (deep + wrapN (brk br last f[i].1) need)) := by
  obtain ⟨gf, of, rfl, hg, a0, a1⟩ := hf.at_ i hi
  have p0 := below_cell h.below (by rw [← hw]; exact hg) a0
  obtain ⟨x, hx⟩ : ∃ x, x = f[i].1 := ⟨_, rfl⟩
  rw [← hx] at p0 HT hT0 hd0 ⊢
  have c0 := fun j => cell_row h.row j
  have hb := h.size
  have H := hid h
  have HTT := hid HT
  clear a0 a1 hx h HT hf hw hg
  cases hbk : brk br last x with
  | false =>
    rw [hbk] at HTT
    have hT : T.length + D.length ≤ 1073741824 := by simpa [hbk] using hT0
    have hd : deep + need ≤ 1048576 := by simpa [hbk, wrapN] using hd0
    clear hT0 hd0
    have HC := hid (HTT.out wk W bv T deep most H.out hdm (by omega) (by omega))
    simp only [Bool.false_or] at HC
    simp only [wrapN, if_neg (show ¬ (false = true) by decide)]
    have hbr : br = false := by cases br <;> simp_all [brk]
    subst hbr
    by_cases h45 : x = 4 ∨ x = 5
    · have hla : last = true := by
        rcases h45 with rfl | rfl <;> cases last <;> simp_all [brk, isQ]
      subst hla
      clear hbk HTT
      rcases h45 with rfl | rfl
      all_goals
        go_enter Tryd.func61, Tryd.ntmps61
        go_wp2_with (go_at_call 87; refine HC.out.mono ?_; rintro e w1 ⟨rfl, bv1, m1⟩; have M1 := hid m1; clear m1)
        exact bodyPost_ret (v := .tuple #[]) (by simp [results, Tryd.results61]) rfl ⟨rfl, _, M1.out⟩
    · have b4 : (x == 4) = false := by rw [beq_eq_false_iff_ne]; omega
      have b5 : (x == 5) = false := by rw [beq_eq_false_iff_ne]; omega
      clear hbk HTT h45
      cases last
      all_goals
        go_enter Tryd.func61, Tryd.ntmps61
        go_wp2_with (go_at_call 87; refine HC.out.mono ?_; rintro e w1 ⟨rfl, bv1, m1⟩; have M1 := hid m1; clear m1)
        exact bodyPost_ret (v := .tuple #[]) (by simp [results, Tryd.results61]) rfl ⟨rfl, _, M1.out⟩
  | true =>
    rw [hbk] at HTT
    have hT : T.length + D.length + 2 ≤ 1073741824 := by simp [hbk] at hT0; omega
    have hd : deep + need + 1 ≤ 1048576 := by simp [hbk, wrapN] at hd0; omega
    clear hT0 hd0
    simp only [wrapN, if_true]
    simp only [Bool.true_or] at HTT
    have fin : ∀ (W4 : World) (bv4 : Value), Pg wk w0 W4 B b (.slice (some ⟨gf, of, none⟩) f.length ca) gv bv4 (T ++ [40] ++ D ++ [41]) (deep + 1) (max (max most (deep + 1)) (deep + 1 + need)) → Pg wk w0 (W4.setCell ⟨b, 3, none⟩ (.int .i64 (deep : Int))) B b (.slice (some ⟨gf, of, none⟩) f.length ca) gv bv4 (T ++ (40 :: D ++ [41])) deep (max most (deep + (need + 1))) := fun W4 bv4 hp => by
      have := hp.setDeep deep
      rw [show T ++ (40 :: D ++ [41]) = T ++ [40] ++ D ++ [41] by simp, show max most (deep + (need + 1)) = max (max most (deep + 1)) (deep + 1 + need) by omega]
      exact this
    have HFIN := hid fin
    clear fin
    have hcase : br = true ∨ (br = false ∧ last = false ∧ (x = 4 ∨ x = 5)) := by
      cases br with
      | true => exact .inl rfl
      | false => right; cases last <;> simp_all [brk, isQ]
    rcases hcase with rfl | ⟨rfl, rfl, h45⟩
    · clear hbk
      by_cases h4 : x = 4
      · subst h4
        cases last
        all_goals
          go_enter Tryd.func61, Tryd.ntmps61
          go_wp2_with (first
            | (have q := M3; clear q; go_at_call 89; refine (put_any M3.out [41] (by simp; omega)).mono ?_; rintro e w4 ⟨rfl, bv4, m4⟩; have c4 := fun j => cell_row m4.row j; have f4 := fun j => unfrozen_row m4.row j; have hb4 := m4.size; have M4 := hid m4; clear m4)
            | (have q := M2; clear q; go_at_call 87; refine (HTT.out _ _ _ _ _ _ M2.out (by omega) (by simp; omega) (by omega)).mono ?_; rintro e w3 ⟨rfl, bv3, m3⟩; have M3 := hid m3; clear m3)
            | (have q := M1; clear q; go_at_call 89; refine (put_any M1.out [40] (by simp; omega)).mono ?_; rintro e w2 ⟨rfl, bv2, m2⟩; have M2 := hid m2; clear m2)
            | (go_at_call 88; refine (popens_any H.out (by omega)).mono ?_; rintro e w1 ⟨rfl, m1⟩; have M1 := hid m1; clear m1))
          go_end0
          exact ⟨rfl, _, HFIN.out _ _ M4.out⟩
      · have b4 : (x == 4) = false := by rw [beq_eq_false_iff_ne]; exact h4
        by_cases h5 : x = 5
        · subst h5
          cases last
          all_goals
            go_enter Tryd.func61, Tryd.ntmps61
            go_wp2_with (first
              | (have q := M3; clear q; go_at_call 89; refine (put_any M3.out [41] (by simp; omega)).mono ?_; rintro e w4 ⟨rfl, bv4, m4⟩; have c4 := fun j => cell_row m4.row j; have f4 := fun j => unfrozen_row m4.row j; have hb4 := m4.size; have M4 := hid m4; clear m4)
              | (have q := M2; clear q; go_at_call 87; refine (HTT.out _ _ _ _ _ _ M2.out (by omega) (by simp; omega) (by omega)).mono ?_; rintro e w3 ⟨rfl, bv3, m3⟩; have M3 := hid m3; clear m3)
              | (have q := M1; clear q; go_at_call 89; refine (put_any M1.out [40] (by simp; omega)).mono ?_; rintro e w2 ⟨rfl, bv2, m2⟩; have M2 := hid m2; clear m2)
              | (go_at_call 88; refine (popens_any H.out (by omega)).mono ?_; rintro e w1 ⟨rfl, m1⟩; have M1 := hid m1; clear m1))
            go_end0
            exact ⟨rfl, _, HFIN.out _ _ M4.out⟩
        · have b5 : (x == 5) = false := by rw [beq_eq_false_iff_ne]; exact h5
          clear h4 h5
          cases last
          all_goals
            go_enter Tryd.func61, Tryd.ntmps61
            go_wp2_with (first
              | (have q := M3; clear q; go_at_call 89; refine (put_any M3.out [41] (by simp; omega)).mono ?_; rintro e w4 ⟨rfl, bv4, m4⟩; have c4 := fun j => cell_row m4.row j; have f4 := fun j => unfrozen_row m4.row j; have hb4 := m4.size; have M4 := hid m4; clear m4)
              | (have q := M2; clear q; go_at_call 87; refine (HTT.out _ _ _ _ _ _ M2.out (by omega) (by simp; omega) (by omega)).mono ?_; rintro e w3 ⟨rfl, bv3, m3⟩; have M3 := hid m3; clear m3)
              | (have q := M1; clear q; go_at_call 89; refine (put_any M1.out [40] (by simp; omega)).mono ?_; rintro e w2 ⟨rfl, bv2, m2⟩; have M2 := hid m2; clear m2)
              | (go_at_call 88; refine (popens_any H.out (by omega)).mono ?_; rintro e w1 ⟨rfl, m1⟩; have M1 := hid m1; clear m1))
            go_end0
            exact ⟨rfl, _, HFIN.out _ _ M4.out⟩
    · clear hbk
      rcases h45 with rfl | rfl
      all_goals
        go_enter Tryd.func61, Tryd.ntmps61
        go_wp2_with (first
          | (have q := M3; clear q; go_at_call 89; refine (put_any M3.out [41] (by simp; omega)).mono ?_; rintro e w4 ⟨rfl, bv4, m4⟩; have c4 := fun j => cell_row m4.row j; have f4 := fun j => unfrozen_row m4.row j; have hb4 := m4.size; have M4 := hid m4; clear m4)
          | (have q := M2; clear q; go_at_call 87; refine (HTT.out _ _ _ _ _ _ M2.out (by omega) (by simp; omega) (by omega)).mono ?_; rintro e w3 ⟨rfl, bv3, m3⟩; have M3 := hid m3; clear m3)
          | (have q := M1; clear q; go_at_call 89; refine (put_any M1.out [40] (by simp; omega)).mono ?_; rintro e w2 ⟨rfl, bv2, m2⟩; have M2 := hid m2; clear m2)
          | (go_at_call 88; refine (popens_any H.out (by omega)).mono ?_; rintro e w1 ⟨rfl, m1⟩; have M1 := hid m1; clear m1))
        go_end0
        exact ⟨rfl, _, HFIN.out _ _ M4.out⟩
end Go.Proofs.YtdkboifpdodonaaDoor.Doc
/-
  Where a subtree lies in a list, with its starts: plain mathematics.
-/
namespace Go.Proofs.YtdkboifpdodonaaDoor.Doc
open PureCnf PureForm
set_option maxRecDepth 100000

structure Sub (f : List Nd) (fr : List Nat) (s : Nat) (t : Tr) : Prop where
  nodes : ∀ k, k < t.post.length → f[s + k]? = t.post[k]?
  starts : ∀ k, k < t.post.length → fr[s + k]? = (fromT t s)[k]?

theorem post_root (t : Tr) : t.post[t.post.length - 1]? = some t.root := by
  have key : ∀ (l : List Nd) (x : Nd) (n : Nat), n = l.length + 1 → (l ++ [x])[n - 1]? = some x := by
    intro l x n h; subst h; simp
  cases t using Tr.cas with
  | lf x => rfl
  | un x a => rw [Tr.post_un]; exact key a.post x _ (by rw [List.length_append]; rfl)
  | bi x a b => rw [Tr.post_bi]; exact key (a.post ++ b.post) x _ (by rw [List.length_append]; rfl)
  | te x a b c => rw [Tr.post_te]; exact key (a.post ++ b.post ++ c.post) x _ (by rw [List.length_append]; rfl)

section
variable {f : List Nd} {fr : List Nat} {s : Nat}
theorem Sub.root {t : Tr} (h : Sub f fr s t) : f[s + t.post.length - 1]? = some t.root := by
  have hp := post_pos t
  rw [show s + t.post.length - 1 = s + (t.post.length - 1) by omega, h.nodes _ (by omega)]
  exact post_root t
theorem Sub.start {t : Tr} (h : Sub f fr s t) : fr[s + t.post.length - 1]? = some s := by
  have hp := post_pos t
  rw [show s + t.post.length - 1 = s + (t.post.length - 1) by omega, h.starts _ (by omega)]
  exact fromT_last t s
theorem Sub.part {t a : Tr} {m : Nat} {p q : List Nd} {g g' : List Nat} (h : Sub f fr s t) (hp : t.post = p ++ a.post ++ q) (hf : fromT t s = g ++ fromT a (s + m) ++ g') (hm : p.length = m) (hg : g.length = m) : Sub f fr (s + m) a := by
  have hl : t.post.length = m + a.post.length + q.length := by rw [hp]; simp [hm]; omega
  refine ⟨fun k hk => ?_, fun k hk => ?_⟩
  · rw [show s + m + k = s + (m + k) by omega, h.nodes (m + k) (by omega), hp, List.append_assoc, List.getElem?_append_right (by omega), hm, List.getElem?_append_left (by omega)]
    congr 1
    omega
  · rw [show s + m + k = s + (m + k) by omega, h.starts (m + k) (by omega), hf, List.append_assoc, List.getElem?_append_right (by omega), hg, List.getElem?_append_left (by rw [fromT_len]; omega)]
    congr 1
    omega
theorem Sub.un {x : Nd} {a : Tr} (h : Sub f fr s (.un x a)) : Sub f fr s a :=
  h.part (m := 0) (p := []) (q := [x]) (g := []) (g' := [s]) (by simp [Tr.post_lf, Tr.post_un, Tr.post_bi, Tr.post_te]) (by simp [fromT_lf, fromT_un, fromT_bi, fromT_te]) rfl rfl
theorem Sub.bi1 {x : Nd} {a b : Tr} (h : Sub f fr s (.bi x a b)) : Sub f fr s a :=
  h.part (m := 0) (p := []) (q := b.post ++ [x]) (g := []) (g' := fromT b (s + a.post.length) ++ [s]) (by simp [Tr.post_lf, Tr.post_un, Tr.post_bi, Tr.post_te]) (by simp [fromT_lf, fromT_un, fromT_bi, fromT_te]) rfl rfl
theorem Sub.bi2 {x : Nd} {a b : Tr} (h : Sub f fr s (.bi x a b)) : Sub f fr (s + a.post.length) b :=
  h.part (p := a.post) (q := [x]) (g := fromT a s) (g' := [s]) (by simp [Tr.post_lf, Tr.post_un, Tr.post_bi, Tr.post_te]) (by simp [fromT_lf, fromT_un, fromT_bi, fromT_te]) rfl (fromT_len a s)
theorem Sub.te1 {x : Nd} {a b c : Tr} (h : Sub f fr s (.te x a b c)) : Sub f fr s a :=
  h.part (m := 0) (p := []) (q := b.post ++ c.post ++ [x]) (g := []) (g' := fromT b (s + a.post.length) ++ fromT c (s + a.post.length + b.post.length) ++ [s]) (by simp [Tr.post_lf, Tr.post_un, Tr.post_bi, Tr.post_te]) (by simp [fromT_lf, fromT_un, fromT_bi, fromT_te]) rfl rfl
theorem Sub.te2 {x : Nd} {a b c : Tr} (h : Sub f fr s (.te x a b c)) : Sub f fr (s + a.post.length) b :=
  h.part (p := a.post) (q := c.post ++ [x]) (g := fromT a s) (g' := fromT c (s + a.post.length + b.post.length) ++ [s]) (by simp [Tr.post_lf, Tr.post_un, Tr.post_bi, Tr.post_te]) (by simp [fromT_lf, fromT_un, fromT_bi, fromT_te]) rfl (fromT_len a s)
theorem Sub.te3 {x : Nd} {a b c : Tr} (h : Sub f fr s (.te x a b c)) : Sub f fr (s + a.post.length + b.post.length) c := by
  have := h.part (a := c) (m := a.post.length + b.post.length) (p := a.post ++ b.post) (q := [x]) (g := fromT a s ++ fromT b (s + a.post.length)) (g' := [s]) (by simp [Tr.post_lf, Tr.post_un, Tr.post_bi, Tr.post_te]) (by simp [fromT_lf, fromT_un, fromT_bi, fromT_te, Nat.add_assoc]) (by simp) (by simp [fromT_len])
  rwa [← Nat.add_assoc] at this
theorem Sub.whole {t : Tr} (h : treeOf f = some t) : Sub f (fromT t 0) 0 t := by
  obtain ⟨_, hp⟩ := treeOf_some h
  subst hp
  exact ⟨fun k _ => by rw [Nat.zero_add], fun k _ => by rw [Nat.zero_add]⟩
theorem Sub.len {t : Tr} (h : Sub f fr s t) : s + t.post.length ≤ f.length := by
  have := (List.getElem?_eq_some_iff.1 h.root).1
  have := post_pos t
  omega
end
theorem text_wrap (b : Bool) (l : List PureForm.Item) : textOf (wrapI b l) = if b = true then 40 :: textOf l ++ [41] else textOf l := by
  unfold wrapI
  split
  · simp [textOf, openI, closeI]
  · rfl
end Go.Proofs.YtdkboifpdodonaaDoor.Doc
