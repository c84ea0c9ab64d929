import Derived.Test.YtfmmmhcpdinhgaaDoorZ26
/-
  The document's own Run.
-/
namespace PureNet
set_option maxRecDepth 100000
/-- a run so far: these inputs lead to these latches, and that went out. -/
def RunTo (c : Net) (l0 : List Bool) (is : List (List Bool)) (las : List Bool) (os : List (List Bool)) : Prop := ∀ P : List (List Bool) → List Bool → List (List Bool) → Prop, P [] l0 [] → (∀ is las os ins v, P is las os → Vals c.gates ins las v → P (is ++ [ins]) (nextOf c v) (os ++ [outsOf c v])) → P is las os
theorem RunTo.nil {c : Net} {l0 : List Bool} : RunTo c l0 [] l0 [] := fun _ h _ => h
theorem RunTo.snoc {c : Net} {l0 : List Bool} {is os : List (List Bool)} {las ins v : List Bool} (r : RunTo c l0 is las os) (h : Vals c.gates ins las v) : RunTo c l0 (is ++ [ins]) (nextOf c v) (os ++ [outsOf c v]) := fun P h1 h2 => h2 _ _ _ _ _ (r P h1 h2) h
theorem RunTo.ind {c : Net} {l0 : List Bool} {motive : (is : List (List Bool)) → (las : List Bool) → (os : List (List Bool)) → RunTo c l0 is las os → Prop} (nil : motive [] l0 [] RunTo.nil) (snoc : ∀ {is os : List (List Bool)} {las ins v : List Bool} (r : RunTo c l0 is las os) (h : Vals c.gates ins las v), motive is las os r → motive (is ++ [ins]) (nextOf c v) (os ++ [outsOf c v]) (RunTo.snoc r h)) {is : List (List Bool)} {las : List Bool} {os : List (List Bool)} (t : RunTo c l0 is las os) : motive is las os t := by
  obtain ⟨w, hw⟩ := t (fun a b d => ∃ w : RunTo c l0 a b d, motive a b d w) ⟨RunTo.nil, nil⟩ (fun a b d x v ⟨w, hw⟩ h => ⟨RunTo.snoc w h, snoc w h hw⟩)
  exact hw
theorem RunTo.on {c : Net} {l0 las : List Bool} {is os : List (List Bool)} (h : RunTo c l0 is las os) : ∀ (is' os' : List (List Bool)), RunP c las is' os' → RunP c l0 (is ++ is') (os ++ os') := by
  induction h using PureNet.RunTo.ind with
  | nil => intro is' os' h; exact h
  | snoc _ hv ih =>
    intro is' os' h
    rw [List.append_assoc, List.append_assoc]
    exact ih _ _ (.cons hv h)
theorem RunTo.run {c : Net} {l0 las : List Bool} {is os : List (List Bool)} (h : RunTo c l0 is las os) : RunP c l0 is os := by
  have := h.on [] [] .nil
  rwa [List.append_nil, List.append_nil] at this
theorem RunTo.len {c : Net} {l0 las : List Bool} {is os : List (List Bool)} (h : RunTo c l0 is las os) (h0 : l0.length = cnt 3 c.gates) : las.length = cnt 3 c.gates ∧ os.length = is.length := by
  induction h using PureNet.RunTo.ind with
  | nil => exact ⟨h0, rfl⟩
  | snoc _ _ ih => exact ⟨by simp [nextOf, cnt], by simp [ih.2]⟩
end PureNet
namespace Go.Proofs.YtfmmmhcpdinhgaaDoor
open Go.RowKit Go.Deep PureNet ShfKit

/-- lists of truths that were made, and the list of them. -/
structure Ls (w W : World) (lv : Value) (vs : List (Value × List Bool)) : Prop where
  row : Mk w W 29 1 lv vs.length (vs.map Prod.fst)
  each : ∀ p ∈ vs, W.ownsRow w.heap.size 4 1 p.1 p.2.length (bo p.2)
theorem Ls.nil (w W : World) (h : Below w.heap.size w W) : Ls w W (.slice none 0 0) [] := ⟨⟨World.ownsRow_nil _ _ _ _, h⟩, fun p hp => by cases hp⟩
theorem Ls.on {w W W' : World} {lv : Value} {vs : List (Value × List Bool)} (h : Ls w W lv vs) (hb : Below W.heap.size W W') : Ls w W' lv vs := ⟨h.row.on hb, fun p hp => ownsRow_below (h.each p hp) hb⟩
theorem Ls.grow {w W W' : World} {lv lv' o : Value} {l : List Bool} {vs : List (Value × List Bool)} (h : Ls w W lv vs) (ho : W.ownsRow w.heap.size 4 1 o l.length (bo l)) (hg : W.grownBy W' lv.ownBlock) (hm : Mk w W' 29 1 lv' (vs.length + 1) (vs.map Prod.fst ++ [o])) : Ls w W' lv' (vs ++ [(o, l)]) := by
  refine ⟨by rw [List.length_append, List.map_append]; exact hm, fun p hp => ?_⟩
  rcases List.mem_append.1 hp with hp | hp
  · exact own_kept (h.each p hp) h.row.own hg (by decide)
  · obtain rfl : p = (o, l) := by simpa using hp
    exact own_kept ho h.row.own hg (by decide)
/-- what Run answers. -/
def RunIs (c : Net) (is : List (List Bool)) (w : World) (e : Ending) (w' : World) : Prop :=
  (¬ PureNet.Formed c ∧ e = .returned (.tuple #[.slice none 0 0, .int .i64 144])) ∨
  (PureNet.Formed c ∧ (∃ l ∈ is, l.length ≠ cnt 1 c.gates) ∧ e = .returned (.tuple #[.slice none 0 0, .int .i64 1])) ∨
  (PureNet.Formed c ∧ (∀ l ∈ is, l.length = cnt 1 c.gates) ∧ ∃ lv vs, RunP c (firstsOf c.gates) is (vs.map Prod.snd) ∧ e = .returned (.tuple #[lv, .int .i64 0]) ∧ Ls w w' lv vs)

set_option maxHeartbeats 2000000 in
set_option maxRecDepth 100000 in
theorem rrun_any (c : Net) (sg so : Option Addr) (cg co : Nat) (is : List (List Bool)) (si : Option Addr) (ci : Nat) (w : World) (hc : CirAt w c sg so) (hn : c.name.size ≤ 140737488351232) (hns : ∀ g ∈ c.gates, g.name.size ≤ 140737488351232) (hl : c.gates.length ≤ 1099511627776) (hlo : c.outs.length ≤ 1099511627776) (hi : ListsAt w si is) (hil : is.length ≤ 5864062014634) :
    Calls Tryd.prog 36 #[cirV c sg cg so co, .slice si is.length ci] w fun e w' => RunIs c is w e w' ∧ Below w.heap.size w w' := by
  have HC := hid hc
  have HI := hid hi
  obtain ⟨x, hx⟩ : ∃ x, x = w.alloc (Obj.cells #[Value.string c.name, Value.slice sg c.gates.length cg, Value.slice so c.outs.length co] 26) := ⟨_, rfl⟩
  have C0 : Hid (x.heap[w.heap.size]? = some (.cells #[Value.string c.name, Value.slice sg c.gates.length cg, Value.slice so c.outs.length co] 26 (0, 0))) := by rw [hx]; exact heap_alloc_new w _
  have BX : Hid (Below w.heap.size w x) := by rw [hx]; exact (Below.refl _ _).alloc (Nat.le_refl _) _
  have RD : Hid (∀ W, Below x.heap.size x W → (∀ j, W.cell? ⟨w.heap.size, j, none⟩ = (#[Value.string c.name, Value.slice sg c.gates.length cg, Value.slice so c.outs.length co] : Array Value)[j]?) ∧ w.heap.size < W.heap.size) := fun W hW => by
    have h2 := (hW.block _ (Array.getElem?_eq_some_iff.1 C0.out).1).trans C0.out
    exact ⟨fun j => cell_row h2 j, (Array.getElem?_eq_some_iff.1 h2).1⟩
  have FM := hid (formed_any c sg so cg co x (hc.below BX.out) hn hns hl hlo)
  have CN1 : Hid (∀ W, Below x.heap.size x W → Calls Tryd.prog 60 #[cirV c sg cg so co, .int .i64 1] W fun e w' => e = .returned (.int .i64 (cnt 1 c.gates : Int)) ∧ Below W.heap.size W w') := fun W hW => rcount_any c sg so cg co 1 W ((HC.out.gates.below BX.out).below hW) hl
  have FI : Hid (∀ W, Below x.heap.size x W → Calls Tryd.prog 62 #[cirV c sg cg so co] W fun e w' => ∃ v, e = .returned v ∧ Mk W w' 4 1 v (cnt 3 c.gates) (bo (firstsOf c.gates))) := fun W hW => rfirsts_any c sg so cg co W ((HC.out.gates.below BX.out).below hW) hl
  have ST : Hid (∀ W, Below x.heap.size x W → ∀ (las : List Bool) (sl : Option Addr) (cl : Nat) (l : List Bool) (sb : Option Addr) (cb : Nat), CellsAt W sb (bo l) → CellsAt W sl (bo las) → Calls Tryd.prog 31 #[cirV c sg cg so co, .slice sb l.length cb, .slice sl las.length cl] W fun e w' => StepIs c l las W.heap.size e w' ∧ Below W.heap.size W w') := fun W hW las sl cl l sb cb hb hla => rstep_any c sg so cg co l las sb sl cb cl W ((HC.out.below BX.out).below hW) hn hns hl hlo hb hla
  obtain ⟨d0, hb0⟩ := RD.out x (Below.refl _ _)
  have HX := hid hx
  clear hc hi hx hns
  by_cases hf : PureNet.Formed c
  · have HFD := hid hf
    have h1le := cnt_take_le_i 1 c.gates c.gates.length
    rw [List.take_length] at h1le
    obtain ⟨m1, hm1⟩ : ∃ m, m = cnt 1 c.gates := ⟨_, rfl⟩
    have HM1 := hid hm1
    rw [← hm1] at CN1 h1le
    clear hf hm1
    go_enter Tryd.func36, Tryd.ntmps36
    go_wp2_with (first | (rw [← HX.out]) | (go_at_call 60; refine Calls.mono (CN1.out w1 B1.out) ?_; rintro e w2 ⟨rfl, b2⟩; have B2 : Hid (Below x.heap.size x w2) := B1.out.trans (b2.mono B1.out.size); obtain ⟨d2, hb2⟩ := RD.out w2 B2.out; clear b2) | (go_at_call 28; refine Calls.mono FM.out ?_; rintro e w1 ⟨⟨bb, rfl, hbb⟩, b1⟩; obtain rfl : bb = true := hbb.2 HFD.out; have B1 := hid b1; obtain ⟨d1, hb1⟩ := RD.out w1 b1; clear hbb b1))
    clear FM CN1 d0 hb0 d1 hb1 B1
    go_loopw [8] (fun iv W => ∃ i : Nat, i ≤ is.length ∧ iv = .int .i64 (i : Int) ∧ W = w2 ∧ Hid (∀ (k : Nat) (l : List Bool), k < i → is[k]? = some l → l.length = m1)) (fun iv _ => is.length - (intOf iv).toNat)
    case atStart => exact ⟨0, Nat.zero_le _, rfl, rfl, fun k l hk => by omega⟩
    case round =>
      obtain ⟨i, hi, rfl, rfl, HO⟩ := hrel
      by_cases hlt : i < is.length
      · obtain ⟨l, hl2⟩ : ∃ l, is[i]? = some l := ⟨_, List.getElem?_eq_getElem hlt⟩
        obtain ⟨bi, oi, sb, cb, rfl, hbi, cc, _, _⟩ := ((HI.out.below BX.out).below B2.out).at_ i l hl2
        have HL2 := hid hl2
        clear hl2
        by_cases e1 : l.length = m1
        · have HO2 : Hid (∀ (k : Nat) (l : List Bool), k < i + 1 → is[k]? = some l → l.length = m1) := fun k l' hk hl' => by
            by_cases hki : k = i
            · rw [hki, HL2.out] at hl'
              cases hl'
              exact e1
            · exact HO.out k l' (by omega) hl'
          have hbe : ((l.length : Int) != (m1 : Int)) = false := by rw [e1]; simp
          clear e1
          go_wp2
          exact ⟨⟨i + 1, hlt, by go_num, trivial, HO2.out⟩, by simp [intOf]; omega⟩
        · have HNE : Hid (∃ l ∈ is, l.length ≠ cnt 1 c.gates) := ⟨l, List.mem_of_getElem? HL2.out, by rw [← HM1.out]; exact e1⟩
          have hbe : ((l.length : Int) != (m1 : Int)) = true := by rw [bne_iff_ne]; omega
          clear e1
          go_wp2
          exact bodyPost_ret (v := .tuple #[.slice none 0 0, .int .i64 1]) (by simp [results, Tryd.results36, go_sem]) rfl ⟨.inr (.inl ⟨HFD.out, HNE.out, rfl⟩), BX.out.trans (B2.out.mono BX.out.size)⟩
      · have HAL : Hid (∀ l ∈ is, l.length = m1) := fun l hm => by
          obtain ⟨k, hk, e⟩ := List.getElem_of_mem hm
          exact HO.out k l (by omega) (by rw [List.getElem?_eq_getElem hk, e])
        clear HO
        have hin : i = is.length := by omega
        go_wp2_with ((go_at_call 62; refine Calls.mono (FI.out _ B2.out) ?_; rintro e w3 ⟨fv, rfl, hmk⟩; obtain ⟨sf, cf, rfl⟩ := own_shape hmk.own; have HMK := hid hmk; have B3 : Hid (Below x.heap.size x w3) := B2.out.trans (hmk.below.mono B2.out.size); clear hmk))
        have HR0 : Hid (Ls x w3 (.slice none 0 0) [] ∧ w3.ownsRow x.heap.size 4 1 (.slice sf (cnt 3 c.gates) cf) (firstsOf c.gates).length (bo (firstsOf c.gates)) ∧ RunTo c (firstsOf c.gates) (is.take 0) (firstsOf c.gates) []) := ⟨Ls.nil _ _ B3.out, by rw [firsts_len]; exact own_base HMK.out.own B2.out.size, .nil⟩
        clear HMK FI
        go_loopw [9, 10, 11] (fun lv nv jv W => ∃ (j : Nat) (vs : List (Value × List Bool)) (las : List Bool), j ≤ is.length ∧ jv = .int .i64 (j : Int) ∧ Hid (Ls x W lv vs ∧ W.ownsRow x.heap.size 4 1 nv las.length (bo las) ∧ RunTo c (firstsOf c.gates) (is.take j) las (vs.map Prod.snd))) (fun lv nv jv _ => is.length - (intOf jv).toNat)
        case atStart => exact ⟨0, [], firstsOf c.gates, Nat.zero_le _, rfl, HR0.out⟩
        case round =>
          obtain ⟨j, vs, las, hj, rfl, HR⟩ := hrel
          clear HR0
          have BR := hid HR.out.1.row.below
          have BS : Hid (x.heap.size ≤ wr.heap.size) := BR.out.size
          obtain ⟨e0, he0⟩ := RD.out wr BR.out
          obtain ⟨slv, clv, hlv⟩ := own_shape HR.out.1.row.own
          subst hlv
          obtain ⟨snv, cnv, hnv, hnc, _⟩ := own_cells HR.out.2.1
          subst hnv
          have hvl : vs.length = j := by
            have h := (HR.out.2.2.len (firsts_len _)).2
            rw [List.length_map, List.length_take] at h
            omega
          by_cases hlt2 : j < is.length
          · obtain ⟨l, hl2⟩ : ∃ l, is[j]? = some l := ⟨_, List.getElem?_eq_getElem hlt2⟩
            obtain ⟨bi, oi, sb, cb, rfl, hbi, cc, hcb, _⟩ := ((HI.out.below BX.out).below BR.out).at_ j l hl2
            have STC := hid (ST.out wr.drew BR.out.drew las snv cnv l sb cb (hcb.below (Below.refl _ _).drew) (hnc.below (Below.refl _ _).drew))
            have HEQ : Hid (l.length = cnt 1 c.gates ∧ las.length = cnt 3 c.gates) := ⟨by rw [← HM1.out]; exact HAL.out l (List.mem_of_getElem? hl2), (HR.out.2.2.len (firsts_len _)).1⟩
            have KS : Hid (∀ W, Below wr.heap.size wr W → W.cell? ⟨w.heap.size, 0, none⟩ = some (.string c.name) ∧ W.cell? ⟨w.heap.size, 1, none⟩ = some (.slice sg c.gates.length cg) ∧ W.cell? ⟨w.heap.size, 2, none⟩ = some (.slice so c.outs.length co) ∧ W.cell? ⟨bi, oi + j, none⟩ = some (.slice sb l.length cb)) := fun W hW =>
              ⟨(hW.cell (p := ⟨_, 0, none⟩) he0).trans (e0 0), (hW.cell (p := ⟨_, 1, none⟩) he0).trans (e0 1), (hW.cell (p := ⟨_, 2, none⟩) he0).trans (e0 2), (hW.cell (p := ⟨_, _, none⟩) hbi).trans cc⟩
            have HTK : Hid (is.take (j + 1) = is.take j ++ [l]) := by show _ = _; rw [List.take_add_one, hl2]; rfl
            have HVL := hid hvl
            have hvb : vs.length ≤ 5864062014633 := by omega
            clear hl2 hcb hnc hvl
            go_wp2
            refine wp_region_noPanic ?_
            refine wp_region_held_drew (S := fun W => W.cell? ⟨w.heap.size, 0, none⟩ = some (.string c.name) ∧ W.cell? ⟨w.heap.size, 1, none⟩ = some (.slice sg c.gates.length cg) ∧ W.cell? ⟨w.heap.size, 2, none⟩ = some (.slice so c.outs.length co) ∧ W.cell? ⟨bi, oi + j, none⟩ = some (.slice sb l.length cb)) (by kernel_rfl) (KS.out _ (Below.refl _ _).drew) (fun hHeld => ?_)
            refine wpAnyH_take (i := 0) (v := ?_) (by simp only [List.getElem?_toArray, List.getElem?_cons_zero]; rfl) (by kernel_rfl) (by kernel_rfl) (by kernel_rfl) (fun _ _ _ h => h) (Or.inl ⟨by rfl, ?_⟩) (by assumption) ?_
            rotate_left 1
            · intro w hSw; (try dsimp only at hSw); go_simp; (try with_reducible rfl)
            try simp only [Act.put, List.setIfInBounds_toArray, List.set_cons_zero, List.set_cons_succ]
            refine wpAnyH_take (i := 1) (v := ?_) (by simp only [List.getElem?_toArray, List.getElem?_cons_succ, List.getElem?_cons_zero]; rfl) (by kernel_rfl) (by kernel_rfl) (by kernel_rfl) (fun _ _ _ h => h) (Or.inl ⟨by rfl, ?_⟩) (by assumption) ?_
            rotate_left 1
            · intro w hSw; (try dsimp only at hSw); go_simp; (try with_reducible rfl)
            try simp only [Act.put, List.setIfInBounds_toArray, List.set_cons_zero, List.set_cons_succ]
            refine wpAnyH_take (i := 2) (v := ?_) (by simp only [List.getElem?_toArray, List.getElem?_cons_succ, List.getElem?_cons_zero]; rfl) (by kernel_rfl) (by kernel_rfl) (by kernel_rfl) (fun _ _ _ h => h) (Or.inl ⟨by rfl, ?_⟩) (by assumption) ?_
            rotate_left 1
            · intro w hSw; (try dsimp only at hSw); go_simp; (try with_reducible rfl)
            try simp only [Act.put, List.setIfInBounds_toArray, List.set_cons_zero, List.set_cons_succ]
            refine wpAnyH_take (i := 3) (v := ?_) (by simp only [List.getElem?_toArray, List.getElem?_cons_succ, List.getElem?_cons_zero]; rfl) (by kernel_rfl) (by kernel_rfl) (by kernel_rfl) (fun _ _ _ h => h) (Or.inl ⟨by rfl, ?_⟩) (by assumption) ?_
            rotate_left 1
            · intro w hSw; (try dsimp only at hSw); go_simp; (try with_reducible rfl)
            try simp only [Act.put, List.setIfInBounds_toArray, List.set_cons_zero, List.set_cons_succ]
            refine wpAnyH_take (i := 4) (v := ?_) (by simp only [List.getElem?_toArray, List.getElem?_cons_succ, List.getElem?_cons_zero]; rfl) (by kernel_rfl) (by kernel_rfl) (by kernel_rfl) (fun _ _ _ h => h) (Or.inl ⟨by rfl, ?_⟩) (by assumption) ?_
            rotate_left 1
            · intro w hSw; (try dsimp only at hSw); go_simp; (try with_reducible rfl)
            try simp only [Act.put, List.setIfInBounds_toArray, List.set_cons_zero, List.set_cons_succ]
            refine wpAnyH_take (i := 5) (v := ?_) (by simp only [List.getElem?_toArray, List.getElem?_cons_succ, List.getElem?_cons_zero]; rfl) (by kernel_rfl) (by kernel_rfl) (by kernel_rfl) (fun _ _ _ h => h) (Or.inl ⟨by rfl, ?_⟩) (by assumption) ?_
            rotate_left 1
            · intro w hSw; (try dsimp only at hSw); go_simp; (try with_reducible rfl)
            try simp only [Act.put, List.setIfInBounds_toArray, List.set_cons_zero, List.set_cons_succ]
            refine wpAnyH_ready (rs := [6]) (by kernel_rfl) (by simp) ?_
            refine AllReadyH.cons (by simp only [List.getElem?_toArray, List.getElem?_cons_succ, List.getElem?_cons_zero]; rfl) (fun K hK => ?_) AllReadyH.nil
            go_simp
            go_at_call 31
            refine Calls.mono (STC.out) ?_
            rintro e w5 ⟨hst, b5⟩
            rcases hst with ⟨h, _⟩ | ⟨_, h, _⟩ | ⟨q1, q2, q3, v, o, nx, hv, rfl, hfam⟩
            · exact absurd HFD.out h
            · exact absurd HEQ.out h
            obtain ⟨s1, c1, ho1⟩ := own_shape (hfam.own 0 _ rfl)
            obtain ⟨s2, c2, ho2⟩ := own_shape (hfam.own 1 _ rfl)
            simp only at ho1 ho2
            subst ho1
            subst ho2
            have B5 : Hid (Below wr.heap.size wr w5) := ((Below.refl wr.heap.size wr).drew).trans b5
            have HVV := hid hv
            have HOO := hid (own_base (hfam.own 0 _ rfl) BS.out)
            have HNN := hid (own_base (hfam.own 1 _ rfl) BS.out)
            clear hv hfam b5 q1 q2 q3
            clear hHeld
            refine hK.out _ _ (KS.out _ B5.out) (fun hHeld => ?_)
            clear hK K
            try simp only [Act.put, List.setIfInBounds_toArray, List.set_cons_zero, List.set_cons_succ]
            refine wpAnyH_take (i := 7) (v := ?_) (by simp only [List.getElem?_toArray, List.getElem?_cons_succ, List.getElem?_cons_zero]; rfl) (by kernel_rfl) (by kernel_rfl) (by kernel_rfl) (fun _ _ _ h => h) (Or.inl ⟨by rfl, ?_⟩) (by assumption) ?_
            rotate_left 1
            · intro w hSw; (try dsimp only at hSw); go_simp; (try with_reducible rfl)
            try simp only [Act.put, List.setIfInBounds_toArray, List.set_cons_zero, List.set_cons_succ]
            refine wpAnyH_take (i := 8) (v := ?_) (by simp only [List.getElem?_toArray, List.getElem?_cons_succ, List.getElem?_cons_zero]; rfl) (by kernel_rfl) (by kernel_rfl) (by kernel_rfl) (fun _ _ _ h => h) (Or.inl ⟨by rfl, ?_⟩) (by assumption) ?_
            rotate_left 1
            · intro w hSw; (try dsimp only at hSw); go_simp; (try with_reducible rfl)
            try simp only [Act.put, List.setIfInBounds_toArray, List.set_cons_zero, List.set_cons_succ]
            refine wpAnyH_take (i := 9) (v := ?_) (by simp only [List.getElem?_toArray, List.getElem?_cons_succ, List.getElem?_cons_zero]; rfl) (by kernel_rfl) (by kernel_rfl) (by kernel_rfl) (fun _ _ _ h => h) (Or.inl ⟨by rfl, ?_⟩) (by assumption) ?_
            rotate_left 1
            · intro w hSw; (try dsimp only at hSw); go_simp; (try with_reducible rfl)
            try simp only [Act.put, List.setIfInBounds_toArray, List.set_cons_zero, List.set_cons_succ]
            refine wpAnyH_take (i := 10) (v := ?_) (by simp only [List.getElem?_toArray, List.getElem?_cons_succ, List.getElem?_cons_zero]; rfl) (by kernel_rfl) (by kernel_rfl) (by kernel_rfl) (fun _ _ _ h => h) (Or.inl ⟨by rfl, ?_⟩) (by assumption) ?_
            rotate_left 1
            · intro w hSw; (try dsimp only at hSw); go_simp; (try with_reducible rfl)
            try simp only [Act.put, List.setIfInBounds_toArray, List.set_cons_zero, List.set_cons_succ]
            refine wpAnyH_take (i := 11) (v := ?_) (by simp only [List.getElem?_toArray, List.getElem?_cons_succ, List.getElem?_cons_zero]; rfl) (by kernel_rfl) (by kernel_rfl) (by kernel_rfl) (fun _ _ _ h => h) (Or.inl ⟨by rfl, ?_⟩) (by assumption) ?_
            rotate_left 1
            · intro w hSw; (try dsimp only at hSw); go_simp; (try with_reducible rfl)
            try simp only [Act.put, List.setIfInBounds_toArray, List.set_cons_zero, List.set_cons_succ]
            refine wpAnyH_take (i := 12) (v := ?_) (by simp only [List.getElem?_toArray, List.getElem?_cons_succ, List.getElem?_cons_zero]; rfl) (by kernel_rfl) (by kernel_rfl) (by kernel_rfl) (fun _ _ _ h => h) (Or.inl ⟨by rfl, ?_⟩) (by assumption) ?_
            rotate_left 1
            · intro w hSw; (try dsimp only at hSw); go_simp; (try with_reducible rfl)
            try simp only [Act.put, List.setIfInBounds_toArray, List.set_cons_zero, List.set_cons_succ]
            refine wpAnyH_take (i := 13) (v := ?_) (by simp only [List.getElem?_toArray, List.getElem?_cons_succ, List.getElem?_cons_zero]; rfl) (by kernel_rfl) (by kernel_rfl) (by kernel_rfl) (fun _ _ _ h => h) (Or.inl ⟨by rfl, ?_⟩) (by assumption) ?_
            rotate_left 1
            · intro w hSw; (try dsimp only at hSw); go_simp; (try with_reducible rfl)
            try simp only [Act.put, List.setIfInBounds_toArray, List.set_cons_zero, List.set_cons_succ]
            refine wpAnyH_done (by kernel_rfl) ?_ _
            refine NoPanic.normal ?_
            have LS5 := hid (HR.out.1.on B5.out)
            go_wp2_with (at_builtin; refine mk_app rfl _ _ 23 _ 24 rfl Tryd.underlying23 info29 rfl (by decide) LS5.out.row [.slice s1 (outsOf c v).length c1] 29 _ rfl rfl rfl rfl (fun u hu => by simp at hu; subst hu; rfl) (by omega) (by omega) ?_; intro sx cx w6 g6 m6; have HG6 := hid g6; have HM6 := hid m6; clear g6 m6)
            have hba : Below w5.heap.size w5 (w5.alloc (.cells [Value.slice s1 (outsOf c v).length c1].toArray 29)) := (Below.refl _ _).alloc (Nat.le_refl _) _
            have hgr := (LS5.out.on hba).grow (ownsRow_below HOO.out hba) HG6.out HM6.out
            refine ⟨⟨j + 1, vs ++ [(.slice s1 (outsOf c v).length c1, outsOf c v)], nextOf c v, hlt2, by go_num, hgr, own_kept (ownsRow_below HNN.out hba) (LS5.out.on hba).row.own HG6.out (by decide), ?_⟩, by simp [intOf]; omega⟩
            rw [HTK.out, List.map_append]
            exact .snoc HR.out.2.2 HVV.out
          · have HEND : Hid (RunP c (firstsOf c.gates) is (vs.map Prod.snd)) := by
              have h := HR.out.2.2.run
              rw [List.take_of_length_le (by omega)] at h
              exact h
            have HLS : Hid (Ls w wr (.slice slv vs.length clv) vs) := ⟨⟨own_base HR.out.1.row.own BX.out.size, BX.out.trans (BR.out.mono BX.out.size)⟩, fun p hp => own_base (HR.out.1.each p hp) BX.out.size⟩
            clear HR hvl
            go_wp2
            exact bodyPost_ret (v := .tuple #[.slice slv vs.length clv, .int .i64 0]) (by simp [results, Tryd.results36, go_sem]) rfl ⟨.inr (.inr ⟨HFD.out, fun l hm => by rw [← HM1.out]; exact HAL.out l hm, _, vs, HEND.out, rfl, HLS.out⟩), BX.out.trans (BR.out.mono BX.out.size)⟩
  · have HNF := hid hf
    clear hf
    go_enter Tryd.func36, Tryd.ntmps36
    go_wp2_with (first | (rw [← HX.out]) | (go_at_call 28; refine Calls.mono FM.out ?_; rintro e w1 ⟨⟨bb, rfl, hbb⟩, b1⟩; obtain rfl : bb = false := (by cases bb with | false => rfl | true => exact absurd (hbb.1 rfl) HNF.out); have B1 := hid b1; clear hbb b1))
    exact bodyPost_ret (v := .tuple #[.slice none 0 0, .int .i64 144]) (by simp [results, Tryd.results36, go_sem]) rfl ⟨.inl ⟨HNF.out, rfl⟩, BX.out.trans (B1.out.mono BX.out.size)⟩
end Go.Proofs.YtfmmmhcpdinhgaaDoor
/-
  The program's Run, of any value.
-/
namespace PureNet
theorem run_wide {c : Net} {las : List Bool} {is os : List (List Bool)} (h : RunP c las is os) : ∀ l ∈ os, l.length = c.outs.length := by
  induction h using PureNet.RunP.ind with
  | nil => intro l hl; cases hl
  | cons _ _ ih =>
    intro l hl
    rcases List.mem_cons.1 hl with rfl | hl
    · simp [outsOf]
    · exact ih l hl
end PureNet
namespace Go.Proofs.YtfmmmhcpdinhgaaDoor
open Go.RowKit Go.Deep PureNet ShfKit
set_option maxRecDepth 100000

/-- lists that were handed out, each in a block of its own. -/
structure RunOut (W : World) (B : Nat) (lv : Value) (vs : List (Value × List Bool)) : Prop where
  row : W.ownsRow B 29 1 lv vs.length (vs.map Prod.fst)
  fam : Fam W B 4 1 (vs.map rwOf)
/-- what Run answers. -/
structure RunR (c : Net) (is os : List (List Bool)) (r : Int) : Prop where
  net : ¬ PureNet.Formed c → os = [] ∧ r = 144
  arg : PureNet.Formed c → (∃ l ∈ is, l.length ≠ cnt 1 c.gates) → os = [] ∧ r = 1
  ok : PureNet.Formed c → (∀ l ∈ is, l.length = cnt 1 c.gates) → RunP c (firstsOf c.gates) is os ∧ r = 0
theorem all_or (is : List (List Bool)) (m : Nat) : (∀ l ∈ is, l.length = m) ∨ ∃ l ∈ is, l.length ≠ m := by
  by_cases h : ∀ l ∈ is, l.length = m
  · exact .inl h
  · refine .inr (Classical.byContradiction fun h2 => h fun l hl => Classical.byContradiction fun h3 => h2 ⟨l, hl, h3⟩)
theorem RunR.one {c : Net} {is os os' : List (List Bool)} {r r' : Int} (h : RunR c is os r) (h' : RunR c is os' r') : os = os' ∧ r = r' := by
  by_cases hf : PureNet.Formed c
  · rcases all_or is (cnt 1 c.gates) with ha | ha
    · obtain ⟨h1, rfl⟩ := h.ok hf ha
      obtain ⟨h2, rfl⟩ := h'.ok hf ha
      exact ⟨hf.run_unique h1 h2, rfl⟩
    · obtain ⟨rfl, rfl⟩ := h.arg hf ha
      obtain ⟨rfl, rfl⟩ := h'.arg hf ha
      exact ⟨rfl, rfl⟩
  · obtain ⟨rfl, rfl⟩ := h.net hf
    obtain ⟨rfl, rfl⟩ := h'.net hf
    exact ⟨rfl, rfl⟩
theorem RunR.few {c : Net} {is os : List (List Bool)} {r : Int} (h : RunR c is os r) : os.length ≤ is.length ∧ ∀ l ∈ os, l.length ≤ 65536 := by
  by_cases hf : PureNet.Formed c
  · rcases all_or is (cnt 1 c.gates) with ha | ha
    · obtain ⟨h1, rfl⟩ := h.ok hf ha
      exact ⟨Nat.le_of_eq (runP_len h1), fun l hl => by have := run_wide h1 l hl; have := hf.fewOuts; omega⟩
    · obtain ⟨rfl, rfl⟩ := h.arg hf ha
      exact ⟨Nat.zero_le _, fun l hl => by cases hl⟩
  · obtain ⟨rfl, rfl⟩ := h.net hf
    exact ⟨Nat.zero_le _, fun l hl => by cases hl⟩
def RunSays (c : Net) (is : List (List Bool)) (B : Nat) (e : Ending) (w' : World) : Prop := ∃ lv vs r, RunR c is (vs.map Prod.snd) r ∧ e = .returned (.tuple #[lv, .int .i64 r]) ∧ RunOut w' B lv vs
theorem RunOut.nil (W : World) (B : Nat) : RunOut W B (.slice none 0 0) [] := ⟨World.ownsRow_nil _ _ _ _, Fam.nil _ _ _ _⟩
/-- blocks that rise. -/
structure Inc (W : World) (R : List Value) (i : Nat) : Prop where
  lt : ∀ (j : Nat) (v : Value) (b : Nat), j < i → R[j]? = some v → v.ownBlock = some b → b < W.heap.size
  up : ∀ (j k : Nat) (u v : Value) (a b : Nat), j < k → k < i → R[j]? = some u → R[k]? = some v → u.ownBlock = some a → v.ownBlock = some b → a < b
theorem Inc.zero (W : World) (R : List Value) : Inc W R 0 := ⟨fun _ _ _ h => absurd h (Nat.not_lt_zero _), fun _ _ _ _ _ _ _ h => absurd h (Nat.not_lt_zero _)⟩
theorem Inc.next {W W5 : World} {R : List Value} {i b1 nn cc ab : Nat} {x : Value} (h : Inc W R i) (hb : W.heap.size ≤ b1) (hb2 : b1 < W5.heap.size) (hi : i < R.length) : Inc (W5.setCell ⟨ab, i, none⟩ x) (R.set i (.slice (some ⟨b1, 0, none⟩) nn cc)) (i + 1) := by
  have hsz : (W5.setCell ⟨ab, i, none⟩ x).heap.size = W5.heap.size := by simp
  have old : ∀ (j : Nat) (v : Value), j < i → (R.set i (.slice (some ⟨b1, 0, none⟩) nn cc))[j]? = some v → R[j]? = some v := fun j v hj hv => by
    rw [List.getElem?_set_ne (by omega)] at hv
    exact hv
  have new : ∀ (v : Value) (b : Nat), (R.set i (.slice (some ⟨b1, 0, none⟩) nn cc))[i]? = some v → v.ownBlock = some b → b = b1 := fun v b hv hb => by
    rw [List.getElem?_set_self hi] at hv
    cases hv
    simpa [Value.ownBlock] using hb.symm
  refine ⟨fun j v b hj hv hvb => ?_, fun j k u v a b hjk hk hu hv ha hvb => ?_⟩
  · rw [hsz]
    by_cases e : j = i
    · subst e
      have := new v b hv hvb
      omega
    · have := h.lt j v b (by omega) (old j v (by omega) hv) hvb
      omega
  · by_cases e : k = i
    · subst e
      have h1 := new v b hv hvb
      have h2 := h.lt j u a hjk (old j u hjk hu) ha
      omega
    · exact h.up j k u v a b hjk (by omega) (old j u (by omega) hu) (old k v (by omega) hv) ha hvb
theorem Inc.ne {W : World} {R : List Value} {i j k g : Nat} {u v : Value} (h : Inc W R i) (hj : j < i) (hk : k < i) (hjk : j ≠ k) (hu : R[j]? = some u) (hv : R[k]? = some v) (ha : u.ownBlock = some g) (hb : v.ownBlock = some g) : False := by
  rcases Nat.lt_or_gt_of_ne hjk with h1 | h1
  · have := h.up j k u v g g h1 hk hu hv ha hb; omega
  · have := h.up k j v u g g h1 hj hv hu hb ha; omega

set_option maxHeartbeats 4000000 in
theorem run_own (c : Net) (sg so : Option Addr) (cg co : Nat) (is os : List (List Bool)) (si : Option Addr) (ci : Nat) (w : World) (hc : CirAt w c sg so) (hkd : KindsAt w) (hf : PureNet.Formed c) (hI : ListsAt w si is) (hil : ∀ l ∈ is, l.length = cnt 1 c.gates) (hn : is.length ≤ 5864062014634) (hrun : RunP c (firstsOf c.gates) is os) :
    Calls Tryd.prog 13 #[cirV c sg cg so co, .slice si is.length ci] w fun e w' => (∃ lv vs, e = .returned (.tuple #[lv, .int .i64 0]) ∧ vs.map Prod.snd = os ∧ RunOut w' w.heap.size lv vs) ∧ Below w.heap.size w w' := by
  have hosl := runP_len hrun
  obtain ⟨x, hx⟩ : ∃ x, x = w.alloc (Obj.cells #[Value.string c.name, Value.slice sg c.gates.length cg, Value.slice so c.outs.length co] 26) := ⟨_, rfl⟩
  have RX : Hid (x.heap[w.heap.size]? = some (.cells #[Value.string c.name, Value.slice sg c.gates.length cg, Value.slice so c.outs.length co] 26 (0, 0))) := by rw [hx]; exact heap_alloc_new w _
  have BX : Hid (Below w.heap.size w x) := by rw [hx]; exact (Below.refl _ _).alloc (Nat.le_refl _) _
  have CE : Hid (∀ W, Below x.heap.size x W → (∀ j, W.cell? ⟨w.heap.size, j, none⟩ = (#[Value.string c.name, Value.slice sg c.gates.length cg, Value.slice so c.outs.length co] : Array Value)[j]?) ∧ w.heap.size < W.heap.size) := fun W hW => by
    have h2 := (hW.block _ (Array.getElem?_eq_some_iff.1 RX.out).1).trans RX.out
    exact ⟨fun j => cell_row h2 j, (Array.getElem?_eq_some_iff.1 h2).1⟩
  obtain ⟨m, hm⟩ : ∃ m, m = is.length := ⟨_, rfl⟩
  have hmk : ∀ W : World, (Instr.makeSlice 23 (.int .i64 (m : Int)) (.int .i64 (m : Int))).run Tryd.prog W = .ok (.slice (some ⟨W.heap.size, 0, none⟩) m m) (W.alloc (.cells (madeCells #[.slice none 0 0] m) 29)) := fun W =>
    run_make_row' (P := Tryd.prog) 23 29 (.slice none 0 0) 24 Tryd.underlying23 info29 rfl .i64 .i64 m (by omega) (by omega) W
  have C1 := hid (formed_ok c sg so cg co x (hc.below BX.out) (hkd.on BX.out) hf)
  have C2 : Hid (∀ W, Below x.heap.size x W → _) := fun W hW => newPlayer_ok c sg so cg co W ((hc.below BX.out).below hW) ((hkd.on BX.out).on hW) hf
  have C3 : Hid (∀ W, Below x.heap.size x W → _) := fun W hW => pfirst_any c sg so cg co W ((hc.below BX.out).below hW).gates (by have := hf.few; omega)
  have HF := hid hf
  have HI := hid hI
  have HIL := hid hil
  have HRUN := hid hrun
  have FW : Hid (∀ l ∈ os, l.length ≤ 65536) := fun l hl => by
    have h1 := run_wide hrun l hl
    have h2 := hf.fewOuts
    omega
  have HOS := hid hosl
  have HM := hid hm
  have hmn : m ≤ 5864062014634 := by omega
  obtain ⟨d0, hb0⟩ := CE.out x (Below.refl _ _)
  have HX := hid hx
  rw [← hm]
  clear hx hc hkd hf hI hil hrun hosl hm hn
  go_enter Tryd.func13, Tryd.ntmps13
  go_wp2_with (first
    | (rw [← HX.out])
    | (have q := B3; clear q; go_at_call 41; refine Calls.mono CT.out ?_; rintro e w4 ⟨rfl, rfl⟩)
    | (go_at_call 40; refine Calls.mono (C2.out w1 B1.out) ?_; rintro e w2 ⟨d, rfl, hpl, hgd, b2, hvb, hdc, hdi, hdl, hds, hnd, hall, hord⟩; have h1 : d.ins.length = cnt 1 c.gates := (by rw [hdi, kpTo_len 1 c.gates _ (Nat.le_refl _), List.take_length]); have B2 : Hid (Below x.heap.size x w2) := B1.out.trans (b2.mono B1.out.size); have hvbw : w.heap.size ≤ d.vb := Nat.le_trans BX.out.size (Nat.le_trans B1.out.size hvb); have VB := hid hvbw; have PL := hid hpl; have DD := hid (And.intro hgd (And.intro hdc (And.intro hdi (And.intro hdl (And.intro hds (And.intro hnd (And.intro hall hord))))))); have H1 := hid h1; clear hpl hgd b2 hvb hdc hdi hdl hds hnd hall hord hvbw h1)
    | (go_at_call 26; refine Calls.mono C1.out ?_; rintro e w1 ⟨rfl, b1⟩; have B1 : Hid (Below x.heap.size x w1) := b1; obtain ⟨d1, hb1⟩ := CE.out w1 B1.out; clear b1))
  obtain ⟨A, hA⟩ : ∃ A, A = w2.alloc (Obj.cells #[Value.pointer (some ⟨d.p, 0, none⟩)] 63) := ⟨_, rfl⟩
  have BA : Hid (Below w2.heap.size w2 A) := by rw [hA]; exact (Below.refl _ _).alloc (Nat.le_refl _) _
  have QA : Hid (A.heap[w2.heap.size]? = some (.cells #[.pointer (some ⟨d.p, 0, none⟩)] 63 (0, 0))) := by rw [hA]; exact heap_alloc_new w2 _
  have BXA : Hid (Below x.heap.size x A) := B2.out.trans (BA.out.mono B2.out.size)
  have BWA : Hid (Below w.heap.size w A) := BX.out.trans (BXA.out.mono BX.out.size)
  have PA := hid (PL.out.on BA.out)
  have k2 := PA.out.cell 2
  rw [H1.out] at k2
  have CT := contains_ok (cnt 1 c.gates) w2.heap.size d.p d.s2 si d.c2 ci is A (cell_row QA.out 0) (Array.getElem?_eq_some_iff.1 QA.out).1 k2 PA.out.size (HI.out.below BWA.out) HIL.out (by rw [← HM.out]; exact hmn)
  rw [← HM.out] at CT
  rw [← hA]
  refine Calls.mono CT ?_
  rintro e w4 ⟨rfl, hw4⟩
  subst hw4
  clear CT k2
  dsimp only
  obtain ⟨B, hB⟩ : ∃ B, B = w4.alloc (.cells (madeCells #[.slice none 0 0] m) 29) := ⟨_, rfl⟩
  have BB : Hid (Below w4.heap.size w4 B) := by rw [hB]; exact (Below.refl _ _).alloc (Nat.le_refl _) _
  have RB : Hid (B.heap[w4.heap.size]? = some (.cells (List.replicate m (Value.slice none 0 0)).toArray 29 (0, 0))) := by
    show _ = _
    rw [hB, heap_alloc_new]
    congr 2
    apply Array.ext'
    rw [toList_madeCells_one]
  have BXB : Hid (Below x.heap.size x B) := BXA.out.trans (BB.out.mono BXA.out.size)
  obtain ⟨d5, hb5⟩ := CE.out B BXB.out
  have HBB := hid hB
  obtain ⟨ab, hab⟩ : ∃ ab, ab = w4.heap.size := ⟨_, rfl⟩
  obtain ⟨qb, hqb⟩ : ∃ qb, qb = w2.heap.size := ⟨_, rfl⟩
  have OFF : Hid (PlOff d ab) := by rw [hab]; exact PA.out.off
  have HAB : Hid (w.heap.size ≤ ab) := by rw [hab]; exact BWA.out.size
  rw [← hab] at RB
  rw [← hqb] at QA
  have HABE := hid hab
  have HQBE := hid hqb
  clear hA hB hab hqb
  go_wp2_with (first
    | (rw [← HBB.out])
    | (go_at_call 39; refine Calls.mono (C3.out B BXB.out) ?_; rintro e w6 ⟨fv, rfl, hmk6⟩; obtain ⟨fs, fk, hfv, hfc, _, _, hfB⟩ := own_cells hmk6.own; subst hfv; have FC := hid hfc; have FB := hid hfB; have B6 := hid hmk6.below; clear hmk6 hfc hfB))
  rw [← HABE.out, ← HQBE.out]
  have R0 : Hid (Rn w w6 c d qb ab m 0 is os (firstsOf c.gates) (List.replicate c.gates.length false) fs (List.replicate m (Value.slice none 0 0))) := by
    have b46 : Below w4.heap.size w4 w6 := BB.out.trans (B6.out.mono BB.out.size)
    refine ⟨BWA.out.trans (b46.mono BWA.out.size), by rw [List.drop_zero, List.drop_zero]; exact HRUN.out, firsts_len _, FC.out, fun _ g o sp e e2 => ?_, PA.out.on b46, (b46.block _ (Array.getElem?_eq_some_iff.1 QA.out).1).trans QA.out, (B6.out.block _ (Array.getElem?_eq_some_iff.1 RB.out).1).trans RB.out, by simp, OFF.out, fun j l hj => by omega⟩
    have h1 := FB.out g o sp e
    have h2 := (Array.getElem?_eq_some_iff.1 PA.out.vals).1
    have h3 := BB.out.size
    omega
  clear C1 C2 C3 PL PA FC FB RB QA HABE HQBE hmk d0 hb0 d5 hb5 HBB
  go_loopg [8, 26] m (fun k lv iv W => ∃ (i : Nat) (las v : List Bool) (sl : Option Addr) (cl : Nat) (R : List Value), i ≤ m ∧ k = m - i ∧ iv = .int .i64 (i : Int) ∧ lv = .slice sl (cnt 3 c.gates) cl ∧ Hid (Rn w W c d qb ab m i is os las v sl R ∧ Inc W R i))
  case atStart => exact ⟨0, _, _, _, _, _, Nat.zero_le _, rfl, rfl, rfl, R0.out, Inc.zero _ _⟩
  case round =>
    clear R0
    obtain ⟨i, las, v, sl, cl, R, hi, hgk, rfl, rfl, HR⟩ := hrel
    subst hgk
    have hrn := HR.out.1
    have INC := hid HR.out.2
    have RN := hid hrn
    clear HR
    by_cases hlt : i < m
    · obtain ⟨l, hl⟩ : ∃ l, is[i]? = some l := ⟨_, List.getElem?_eq_getElem (by rw [← HM.out]; exact hlt)⟩
      obtain ⟨g, o, sb, cb, hsi, hg, hcell, hcl, _⟩ := HI.out.at_ i l hl
      have hcw : wr.cell? ⟨g, o + i, none⟩ = some (.slice sb l.length cb) := below_cell hrn.below hg hcell
      have hgw : g < wr.heap.size := Nat.lt_of_lt_of_le hg hrn.below.size
      have hdr : is.drop i = l :: is.drop (i + 1) := by
        rw [List.drop_eq_getElem_cons (by rw [← HM.out]; exact hlt)]
        rw [(List.getElem?_eq_some_iff.1 hl).2]
      have hrun := hrn.run
      rw [hdr] at hrun
      obtain ⟨v', os', hos', hv', hrun'⟩ := runP_cons hrun
      have hos2 : os.drop (i + 1) = os' := by
        have := congrArg (List.drop 1) hos'
        rw [List.drop_drop] at this
        simpa [Nat.add_comm] using this
      rw [← hos2] at hos' hrun'
      obtain ⟨hgd, hdc, hdi, hdl, hds, hnd, hall, hord⟩ := DD.out
      have PS := hid (play_step c d v l las v' sb sl cb cl wr HF.out hgd hdc hdi hdl hds hnd hall hord hrn.pl (hcl.below hrn.below) hrn.lasAt (HIL.out l (List.mem_of_getElem? hl)) hrn.lasl (off_base hcl VB.out) hrn.lasOff hv')
      rw [hrn.lasl] at PS
      have NX := hid (fun b1 b2 (W5 : World) h1 h2 h3 h4 h5 h6 => hrn.next (W5 := W5) (b1 := b1) (b2 := b2) hlt hl hv' VB.out HAB.out hos' hrun' h1 h2 h3 h4 h5 h6)
      have hq := cell_row hrn.box 0
      have hqs := (Array.getElem?_eq_some_iff.1 hrn.box).1
      have NL := hid (next_len c v')
      have HSI := hid hsi
      clear hrn hl hcell hcl hdr hrun hv' hos' hrun' hos2 hgd hdc hdi hdl hds hnd hall hord
      go_wp2_with (first
        | (go_at_call 43; (refine Calls.mono PS.out ?_; rintro e w5 ⟨b1, b2, rfl, hb1, hb2, hr1, hr2, hp5, hg5, _⟩; have N5 := hid (NX.out b1 b2 w5 hb1 hb2 hr1 hr2 hp5 hg5); have I5 := hid (INC.out.next (W5 := w5) (x := .slice (some ⟨b1, 0, none⟩) (outsOf c v').length (outsOf c v').length) (cc := (outsOf c v').length) (nn := (outsOf c v').length) (ab := ab) hb1 (Array.getElem?_eq_some_iff.1 hr1).1 (by rw [RN.out.rl]; exact hlt)); have hrow5 : w5.heap[ab]? = some (.cells R.toArray 29 (0, 0)) := (hg5.block ab (Array.getElem?_eq_some_iff.1 RN.out.row).1 (fun e => RN.out.off.vb (by simpa using e.symm))).trans RN.out.row; have hrl := RN.out.rl; obtain ⟨rv5, c5⟩ : ∃ rv, w5.cell? ⟨ab, i, none⟩ = some rv := (by rw [cell_row hrow5]; exact ⟨R[i]'(by omega), by simp [show i < R.length by omega]⟩); have f5 := unfrozen_row hrow5 i; have hb5 := (Array.getElem?_eq_some_iff.1 hrow5).1; clear hb1 hb2 hr1 hr2 hp5 hg5 hrow5 hrl)))
      (try rw [← HSI.out])
      go_roundg (m - (i + 1))
      case measure => omega
      case rel => exact ⟨i + 1, _, _, _, _, _, hlt, rfl, by go_num, by rw [NL.out], N5.out, I5.out⟩
    · obtain rfl : i = m := by omega
      have hol : os.length = i := by have h2 := HOS.out; have h3 := HM.out; omega
      have vf : (R.zip os).map Prod.fst = R := List.map_fst_zip (by rw [hrn.rl, hol]; exact Nat.le_refl _)
      have vs' : (R.zip os).map Prod.snd = os := List.map_snd_zip (by rw [hrn.rl, hol]; exact Nat.le_refl _)
      have vl : (R.zip os).length = i := by rw [List.length_zip, hrn.rl, hol]; omega
      have LN : Hid (RunOut wr w.heap.size (.slice (some ⟨ab, 0, none⟩) i i) (R.zip os)) := by
        have hmi : i ≤ maxLen := by unfold maxLen; omega
        refine ⟨?_, ⟨fun k x hx => ?_, fun k k2 x y g hx hy hkk hg hg2 => ?_⟩⟩
        · rw [vf, vl]
          exact ⟨by rw [hrn.rl]; omega, .inr ⟨ab, i, R.toArray, rfl, HAB.out, hrn.row, Nat.le_refl _, hmi, by simp [hrn.rl], List.take_of_length_le (by simp [hrn.rl])⟩⟩
        · obtain ⟨p, hp, rfl⟩ := Option.map_eq_some_iff.1 ((List.getElem?_map).symm.trans hx)
          obtain ⟨h1, h2⟩ := List.getElem?_zip_eq_some.1 hp
          obtain ⟨b, e1, e2, e3, _⟩ := hrn.outs k p.2 (by have := (List.getElem?_eq_some_iff.1 h2).1; omega) h2
          rw [e1] at h1
          have e4 := Option.some.inj h1
          show wr.ownsRow w.heap.size 4 1 p.1 p.2.length (bo p.2)
          rw [← e4]
          have hml : p.2.length ≤ maxLen := by
            have h9 := e3
            have h8 : p.2.length ≤ 65536 := FW.out p.2 (List.mem_of_getElem? h2)
            unfold maxLen
            omega
          exact ⟨by simp [bo], .inr ⟨b, p.2.length, (bo p.2).toArray, rfl, e2, e3, Nat.le_refl _, hml, by simp [bo], List.take_of_length_le (by simp [bo])⟩⟩
        · obtain ⟨p, hp, rfl⟩ := Option.map_eq_some_iff.1 ((List.getElem?_map).symm.trans hx)
          obtain ⟨q, hq, rfl⟩ := Option.map_eq_some_iff.1 ((List.getElem?_map).symm.trans hy)
          obtain ⟨h1, h2⟩ := List.getElem?_zip_eq_some.1 hp
          obtain ⟨h3, h4⟩ := List.getElem?_zip_eq_some.1 hq
          have hk : k < i := by have := (List.getElem?_eq_some_iff.1 h2).1; omega
          have hk2 : k2 < i := by have := (List.getElem?_eq_some_iff.1 h4).1; omega
          have hg' : p.1.ownBlock = some g := hg
          have hg2' : q.1.ownBlock = some g := hg2
          exact INC.out.ne hk hk2 hkk h1 h3 hg' hg2'
      have BW := hid hrn.below
      have VS := hid vs'
      clear hrn vf vs' vl hol INC
      go_wp2
      exact bodyPost_ret (v := .tuple #[.slice (some ⟨ab, 0, none⟩) i i, .int .i64 0]) (by simp [results, Tryd.results13, go_sem]) rfl ⟨⟨_, _, rfl, VS.out, LN.out⟩, BW.out⟩

set_option maxHeartbeats 1000000 in
theorem fits_no (k m qb p : Nat) (s2 sb : Option Addr) (c2 cb : Nat) (w : World) (hkm : k ≠ m) (hq : w.cell? ⟨qb, 0, none⟩ = some (.pointer (some ⟨p, 0, none⟩))) (_hqs : qb < w.heap.size) (hp : w.cell? ⟨p, 2, none⟩ = some (.slice s2 m c2)) (_hps : p < w.heap.size) :
    Calls Tryd.prog 42 #[.slice sb k cb, .pointer (some ⟨qb, 0, none⟩)] w fun e w' => e = .returned (.bool true) ∧ w' = w := by
  have e1 : ((k : Int) != (m : Int)) = true := by
    rw [bne_iff_ne]
    omega
  clear hkm
  go_enter Tryd.func42, Tryd.ntmps42
  go_wp2
  go_ret
  exact ⟨rfl, rfl⟩
set_option maxHeartbeats 1000000 in
theorem index_bad (m qb p : Nat) (s2 si : Option Addr) (c2 ci : Nat) (is : List (List Bool)) (w : World) (hq : w.cell? ⟨qb, 0, none⟩ = some (.pointer (some ⟨p, 0, none⟩))) (hqs : qb < w.heap.size) (hp : w.cell? ⟨p, 2, none⟩ = some (.slice s2 m c2)) (hps : p < w.heap.size) (hI : ListsAt w si is) (hl : ∃ l ∈ is, l.length ≠ m) (hn : is.length ≤ 5864062014634) :
    Calls Tryd.prog 65 #[.slice si is.length ci, .func (.func 42) #[] #[.pointer (some ⟨qb, 0, none⟩)]] w fun e w' => (∃ j : Nat, e = .returned (.int .i64 (j : Int))) ∧ w' = w := by
  have HC := hid (fun sb cb => fits_one m qb p s2 sb c2 cb w hq hqs hp hps)
  have HD := hid (fun k sb cb hk => fits_no k m qb p s2 sb c2 cb w hk hq hqs hp hps)
  have HI := hid hI
  have HL := hid hl
  clear hI hl hq hqs hp hps
  go_enter Tryd.func65, Tryd.ntmps65
  go_wp2_with fail
  go_loopw [8] (fun iv W => ∃ j : Nat, j ≤ is.length ∧ iv = .int .i64 (j : Int) ∧ W = w ∧ Hid (∀ (k : Nat) (l : List Bool), k < j → is[k]? = some l → l.length = m)) (fun iv _ => is.length - (intOf iv).toNat)
  case atStart => exact ⟨0, Nat.zero_le _, rfl, rfl, fun k l hk => absurd hk (Nat.not_lt_zero _)⟩
  case round =>
    obtain ⟨j, hj, rfl, rfl, HP⟩ := hrel
    by_cases hlt : j < is.length
    · obtain ⟨l, hl⟩ : ∃ l, is[j]? = some l := ⟨_, List.getElem?_eq_getElem hlt⟩
      obtain ⟨g, o, sb, cb, rfl, hg, hcell, _, _⟩ := HI.out.at_ j l hl
      have HLJ := hid hl
      by_cases hlm : l.length = m
      · rw [hlm] at hcell
        have HLM := hid hlm
        clear hl hlm
        go_wp2_with (first | (go_at_call 42; refine Calls.mono (HC.out _ _) ?_; rintro e w' ⟨rfl, rfl⟩))
        refine ⟨⟨j + 1, hlt, by go_num, by first | rfl | trivial, fun k z hk hz => ?_⟩, by simp [intOf]; omega⟩
        by_cases e : k = j
        · rw [e, HLJ.out] at hz
          cases hz
          exact HLM.out
        · exact HP.out k z (by omega) hz
      · have HLM := hid hlm
        clear hl hlm
        go_wp2_with (first | (go_at_call 42; refine Calls.mono (HD.out _ _ _ HLM.out) ?_; rintro e w' ⟨rfl, rfl⟩))
        go_ret
        exact ⟨⟨j, rfl⟩, rfl⟩
    · exfalso
      obtain ⟨l, hl, hne⟩ := HL.out
      obtain ⟨k, hk, e⟩ := List.getElem_of_mem hl
      exact hne (HP.out k l (by omega) (by rw [List.getElem?_eq_getElem hk, e]))
set_option maxHeartbeats 1000000 in
theorem contains_bad (m qb p : Nat) (s2 si : Option Addr) (c2 ci : Nat) (is : List (List Bool)) (w : World) (hq : w.cell? ⟨qb, 0, none⟩ = some (.pointer (some ⟨p, 0, none⟩))) (hqs : qb < w.heap.size) (hp : w.cell? ⟨p, 2, none⟩ = some (.slice s2 m c2)) (hps : p < w.heap.size) (hI : ListsAt w si is) (hl : ∃ l ∈ is, l.length ≠ m) (hn : is.length ≤ 5864062014634) :
    Calls Tryd.prog 41 #[.slice si is.length ci, .func (.func 42) #[] #[.pointer (some ⟨qb, 0, none⟩)]] w fun e w' => e = .returned (.bool true) ∧ w' = w := by
  have HI := hid (index_bad m qb p s2 si c2 ci is w hq hqs hp hps hI hl hn)
  clear hI hl hq hqs hp hps
  go_enter Tryd.func41, Tryd.ntmps41
  go_wp2_with (first | (go_at_call 65; refine Calls.mono HI.out ?_; rintro e w' ⟨⟨j, rfl⟩, rfl⟩; have hj0 : (0 : Int) ≤ (j : Int) := Int.natCast_nonneg j))
  go_ret
  exact ⟨rfl, rfl⟩
theorem run_exists {c : Net} (hf : PureNet.Formed c) : ∀ (is : List (List Bool)) (las : List Bool), ∃ os, RunP c las is os
  | [], _ => ⟨[], .nil⟩
  | i :: is, las => by
    obtain ⟨v, hv⟩ := hf.vals i las
    obtain ⟨os, ho⟩ := run_exists hf is (nextOf c v)
    exact ⟨_, .cons hv ho⟩

set_option maxHeartbeats 2000000 in
theorem run_gen (c : Net) (sg so : Option Addr) (cg co : Nat) (is : List (List Bool)) (si : Option Addr) (ci : Nat) (w : World) (hc : CirAt w c sg so) (hkd : KindsAt w) (hn : c.name.size ≤ 140737488351232) (hns : ∀ g ∈ c.gates, g.name.size ≤ 140737488351232) (hl : c.gates.length ≤ 1099511627776) (hlo : c.outs.length ≤ 1099511627776) (hI : ListsAt w si is) (hil : is.length ≤ 5864062014634) :
    Calls Tryd.prog 13 #[cirV c sg cg so co, .slice si is.length ci] w fun e w' => RunSays c is w.heap.size e w' ∧ Below w.heap.size w w' := by
  by_cases hf : PureNet.Formed c
  · rcases all_or is (cnt 1 c.gates) with ha | ha
    · obtain ⟨os, ho⟩ := run_exists hf is (firstsOf c.gates)
      refine (run_own c sg so cg co is os si ci w hc hkd hf hI ha hil ho).mono ?_
      rintro e w' ⟨⟨lv, vs, rfl, hvs, hr⟩, hb⟩
      refine ⟨⟨lv, vs, 0, ⟨fun h => absurd hf h, fun _ h => ?_, fun _ _ => ⟨by rw [hvs]; exact ho, rfl⟩⟩, rfl, hr⟩, hb⟩
      obtain ⟨l, hl, hne⟩ := h
      exact absurd (ha l hl) hne
    obtain ⟨x, hx⟩ : ∃ x, x = w.alloc (Obj.cells #[Value.string c.name, Value.slice sg c.gates.length cg, Value.slice so c.outs.length co] 26) := ⟨_, rfl⟩
    have RX : Hid (x.heap[w.heap.size]? = some (.cells #[Value.string c.name, Value.slice sg c.gates.length cg, Value.slice so c.outs.length co] 26 (0, 0))) := by rw [hx]; exact heap_alloc_new w _
    have BX : Hid (Below w.heap.size w x) := by rw [hx]; exact (Below.refl _ _).alloc (Nat.le_refl _) _
    have CE : Hid (∀ W, Below x.heap.size x W → (∀ j, W.cell? ⟨w.heap.size, j, none⟩ = (#[Value.string c.name, Value.slice sg c.gates.length cg, Value.slice so c.outs.length co] : Array Value)[j]?) ∧ w.heap.size < W.heap.size) := fun W hW => by
      have h2 := (hW.block _ (Array.getElem?_eq_some_iff.1 RX.out).1).trans RX.out
      exact ⟨fun j => cell_row h2 j, (Array.getElem?_eq_some_iff.1 h2).1⟩
    have C1 := hid (formed_ok c sg so cg co x (hc.below BX.out) (hkd.on BX.out) hf)
    have C2 : Hid (∀ W, Below x.heap.size x W → _) := fun W hW => newPlayer_ok c sg so cg co W ((hc.below BX.out).below hW) ((hkd.on BX.out).on hW) hf
    have HF := hid hf
    have HI := hid hI
    have HA := hid ha
    obtain ⟨d0, hb0⟩ := CE.out x (Below.refl _ _)
    have HX := hid hx
    clear hx hc hkd hf hI ha hn hns hl hlo
    go_enter Tryd.func13, Tryd.ntmps13
    go_wp2_with (first
      | (rw [← HX.out])
      | (go_at_call 40; refine Calls.mono (C2.out w1 B1.out) ?_; rintro e w2 ⟨d, rfl, hpl, hgd, b2, hvb, hdc, hdi, hdl, hds, hnd, hall, hord⟩; have h1 : d.ins.length = cnt 1 c.gates := (by rw [hdi, kpTo_len 1 c.gates _ (Nat.le_refl _), List.take_length]); have B2 : Hid (Below x.heap.size x w2) := B1.out.trans (b2.mono B1.out.size); have PL := hid hpl; have H1 := hid h1; clear hpl hgd b2 hvb hdc hdi hdl hds hnd hall hord h1)
      | (go_at_call 26; refine Calls.mono C1.out ?_; rintro e w1 ⟨rfl, b1⟩; have B1 : Hid (Below x.heap.size x w1) := b1; obtain ⟨d1, hb1⟩ := CE.out w1 B1.out; clear b1))
    obtain ⟨A, hA⟩ : ∃ A, A = w2.alloc (Obj.cells #[Value.pointer (some ⟨d.p, 0, none⟩)] 63) := ⟨_, rfl⟩
    have BA : Hid (Below w2.heap.size w2 A) := by rw [hA]; exact (Below.refl _ _).alloc (Nat.le_refl _) _
    have QA : Hid (A.heap[w2.heap.size]? = some (.cells #[.pointer (some ⟨d.p, 0, none⟩)] 63 (0, 0))) := by rw [hA]; exact heap_alloc_new w2 _
    have BXA : Hid (Below x.heap.size x A) := B2.out.trans (BA.out.mono B2.out.size)
    have BWA : Hid (Below w.heap.size w A) := BX.out.trans (BXA.out.mono BX.out.size)
    have PA := hid (PL.out.on BA.out)
    have k2 := PA.out.cell 2
    rw [H1.out] at k2
    have CT := contains_bad (cnt 1 c.gates) w2.heap.size d.p d.s2 si d.c2 ci is A (cell_row QA.out 0) (Array.getElem?_eq_some_iff.1 QA.out).1 k2 PA.out.size (HI.out.below BWA.out) HA.out hil
    rw [← hA]
    refine Calls.mono CT ?_
    rintro e w4 ⟨rfl, hw4⟩
    subst hw4
    clear CT k2
    dsimp only
    go_wp2
    exact bodyPost_ret (v := .tuple #[.slice none 0 0, .int .i64 1]) (by simp [results, Tryd.results13, go_sem]) rfl ⟨⟨_, [], 1, ⟨fun h => absurd HF.out h, fun _ _ => ⟨rfl, rfl⟩, fun _ h => absurd HA.out (fun ⟨l, hl, hne⟩ => hne (h l hl))⟩, rfl, RunOut.nil _ _⟩, BWA.out⟩
  · obtain ⟨x, hx⟩ : ∃ x, x = w.alloc (Obj.cells #[Value.string c.name, Value.slice sg c.gates.length cg, Value.slice so c.outs.length co] 26) := ⟨_, rfl⟩
    have RX : Hid (x.heap[w.heap.size]? = some (.cells #[Value.string c.name, Value.slice sg c.gates.length cg, Value.slice so c.outs.length co] 26 (0, 0))) := by rw [hx]; exact heap_alloc_new w _
    have BX : Hid (Below w.heap.size w x) := by rw [hx]; exact (Below.refl _ _).alloc (Nat.le_refl _) _
    have d0 := fun j => cell_row RX.out j
    have hb0 := (Array.getElem?_eq_some_iff.1 RX.out).1
    have C1 := hid (formed_gen c sg so cg co x (hc.below BX.out) (hkd.on BX.out) hn hns hl hlo)
    have HF := hid hf
    have HX := hid hx
    clear hx hc hkd hf hI hn hns hl hlo
    go_enter Tryd.func13, Tryd.ntmps13
    go_wp2_with (first
      | (rw [← HX.out])
      | (go_at_call 26; refine Calls.mono C1.out ?_; rintro e w1 ⟨⟨b, rfl, hb⟩, b1⟩; obtain rfl : b = false := Bool.eq_false_iff.2 fun h => HF.out (hb.1 h); have B1 : Hid (Below x.heap.size x w1) := b1; clear b1 hb))
    exact bodyPost_ret (v := .tuple #[.slice none 0 0, .int .i64 144]) (by simp [results, Tryd.results13, go_sem]) rfl ⟨⟨_, [], 144, ⟨fun _ => ⟨rfl, rfl⟩, fun h => absurd h HF.out, fun h => absurd h HF.out⟩, rfl, RunOut.nil _ _⟩, BX.out.trans (B1.out.mono BX.out.size)⟩
end Go.Proofs.YtfmmmhcpdinhgaaDoor
