import Derived.Test.YtdkboifpdodonaaDoorZ02
set_option linter.unusedSimpArgs false
/-
  The landed program's grow: the tree of a list.
-/
namespace Go.Proofs.YtdkboifpdodonaaDoor
open Go.RowKit Go.Deep PureCnf PureForm
set_option maxRecDepth 100000

/-- what grow answers. -/
def growV (f : List Nd) : Value := match treeOf f with
  | some t => if f.length ≤ 65536 ∧ t.need true ≤ 64 then .tuple #[tv t, .bool true] else .tuple #[.nilIface, .bool false]
  | none => .tuple #[.nilIface, .bool false]

theorem build_take {f : List Nd} {j : Nat} (hj : j < f.length) {st : List Tr} (h : build f [] = build (f.drop j) st) : build f [] = (joinT f[j] st).bind (build (f.drop (j + 1))) := by
  rw [h, List.drop_eq_getElem_cons hj, build]

theorem ar_le (o : Int) : arI o ≤ 3 := by
  unfold arI
  split
  · omega
  · split
    · omega
    · split <;> omega
theorem grow_none {f : List Nd} (h : build f [] = none) : growV f = .tuple #[.nilIface, .bool false] := by
  unfold growV treeOf
  rw [h]
theorem row_cell {W : World} {B g c n : Nat} {l : List Tr} (h : W.ownsRow B 56 1 (.slice (some ⟨g, 0, none⟩) n c) n (ct l)) (k : Nat) (hk : k < l.length) : W.cell? ⟨g, k, none⟩ = some (tv l[k]) := by
  have := h.cells (g := g) rfl k (tv l[k]) (by simp [ct, hk])
  rwa [add_zero_addr] at this

/-- append of one tree, in a region of whichever order (held). -/
theorem wp_tree {o : Oper} {a : Act} {w : World} {K : Act → World → Prop} {Q : Exit → Act → World → Prop} (sl x : Operand)
    (ho : o.op = .call { callee := .builtin .append, args := #[sl, x], argTypes := #[100, 100] }) (B : Nat) (v : Value) (l : List Tr) (y : Tr) (ad : Addr) (hs : a.eval sl = v) (hown : w.ownsRow B 56 1 v l.length (ct l)) (hx : a.eval x = .slice (some ad) 1 1)
    (hu : w.cell? ad = some (tv y)) (hn : l.length ≤ 1099511627776) (hB : B ≤ w.heap.size)
    (h : ∀ v' w', w'.ownsRow B 56 1 v' (l ++ [y]).length (ct (l ++ [y])) → w.grownBy w' v.ownBlock → K (a.put o.dst v') w') : Oper.wp Tryd.prog o a w K Q := by
  obtain ⟨v', w', hr, h1, h2⟩ := run_append_tree w B o.type v l hown ad y hu hn hB
  unfold Oper.wp execOp
  simp only [ho, resolve, invoke, builtin, Sem.run_bind, Sem.run_pure, Result.andThen_ok, List.map_toArray, List.map_cons, List.map_nil, hs, hx, hr]
  exact h v' w' h1 h2
theorem own_keep {w w' : World} {B e size n : Nat} {v : Value} {xs : List Value} (h : w.ownsRow B e size v n xs) (hb : Below w.heap.size w w') : w'.ownsRow B e size v n xs := by
  obtain ⟨h1, h2⟩ := h
  refine ⟨h1, ?_⟩
  rcases h2 with h0 | ⟨g, cap, cur, hv, hg, hh, hn⟩
  · exact .inl h0
  · exact .inr ⟨g, cap, cur, hv, hg, by rw [hb.block g (Array.getElem?_eq_some_iff.1 hh).1]; exact hh, hn⟩
theorem rev_split (st : List Tr) (m : Nat) : st.reverse = (st.drop m).reverse ++ (st.take m).reverse := by
  rw [← List.reverse_append, List.take_append_drop]

set_option maxHeartbeats 4000000 in
theorem grow_any (f : List Nd) (sf : Option Addr) (cf : Nat) (w : World) (hf : NodesAt w sf f) (hl : f.length ≤ 9223372036854775807) :
    Calls Tryd.prog 31 #[.slice sf f.length cf] w fun e w' => e = .returned (growV f) ∧ Below w.heap.size w w' := by
  by_cases hbig : 65536 < f.length
  · have HV : Hid (growV f = .tuple #[.nilIface, .bool false]) := by
      show _ = _
      unfold growV
      split
      · rw [if_neg (by omega)]
      · rfl
    clear hf
    go_enter Tryd.func31, Tryd.ntmps31
    go_wp2
    exact bodyPost_ret (v := .tuple #[.nilIface, .bool false]) (by simp [results, Tryd.results31, go_sem]) rfl ⟨by rw [HV.out], Below.refl _ _⟩
  · have HF := hid hf
    clear hf
    go_enter Tryd.func31, Tryd.ntmps31
    go_wp2
    go_loopw [4, 15] (fun gv iv W => ∃ (j : Nat) (st : List Tr) (sv : Option Addr) (cv : Nat), iv = .int .i64 j ∧ gv = .slice sv st.length cv ∧ j ≤ f.length ∧ st.length ≤ j ∧ Hid (build f [] = build (f.drop j) st ∧ W.ownsRow w.heap.size 56 1 (.slice sv st.length cv) st.length (ct st.reverse) ∧ Below w.heap.size w W)) (fun _ iv _ => f.length - (intOf iv).toNat)
    case atStart => exact ⟨0, [], none, 0, rfl, rfl, Nat.zero_le _, Nat.le_refl _, rfl, World.ownsRow_nil _ _ _ _, Below.refl _ _⟩
    case round =>
      obtain ⟨j, st, sv, cv, rfl, rfl, hj, hst, HP⟩ := hrel
      by_cases hlt : j < f.length
      · obtain ⟨P1, P2, P3⟩ := HP.out
        obtain ⟨g, o, rfl, hg, d0, d1⟩ := HF.out.at_ j hlt
        have b0 := build_take hlt P1
        obtain ⟨x, hx⟩ : ∃ x, x = f[j] := ⟨_, rfl⟩
        rw [← hx] at d0 d1 b0
        have c0 := below_cell P3 hg d0
        have c1 := below_cell P3 hg d1
        obtain ⟨WA, hWA⟩ : ∃ W, W = wr.alloc (Obj.cells #[.int .i64 x.1, .int .i64 x.2] 54) := ⟨_, rfl⟩
        have tA : Below wr.heap.size wr WA := by rw [hWA]; exact (Below.refl _ _).alloc (Nat.le_refl _) _
        have rA : WA.heap[wr.heap.size]? = some (.cells #[.int .i64 x.1, .int .i64 x.2] 54 (0, 0)) := by rw [hWA]; exact heap_alloc_new wr _
        have cA := fun k => cell_row rA k
        have HOP := hid (ops_any x WA)
        have HWA := hid hWA
        have HB0 := hid b0
        have HTA := hid tA
        have HRA := hid rA
        clear hx d0 d1 b0 P1 hWA tA rA
        have hm3 := ar_le x.1
        have HJ := hid (join_eq x st)
        have HU : Hid (∀ us : List Tr, us.length = arI x.1 → nodeB x = true → ∀ (sa : Option Addr) (l c : Nat) (W : World), (us = [] ∨ ∃ g p, sa = some ⟨g, p, none⟩ ∧ l = us.length ∧ g < W.heap.size ∧ ∀ j (hj : j < us.length), W.cell? ⟨g, p + j, none⟩ = some (tv us[j])) → Calls Tryd.prog 56 #[ndV x, .slice sa l c] W fun e w' => e = .returned (tv (plantT x us)) ∧ Below W.heap.size W w') := fun us h1 h2 sa l c W h3 => plant_any x h2 us h1 sa l c W h3
        obtain ⟨m, hm⟩ : ∃ m, m = arI x.1 := ⟨_, rfl⟩
        rw [← hm] at HOP hm3 HJ HU
        clear hm
        cases hb : nodeB x with
        | false =>
          rw [hb] at HOP
          have HG : Hid (growV f = .tuple #[.nilIface, .bool false]) := grow_none (by rw [HB0.out, HJ.out, if_neg (by rw [hb]; simp)]; rfl)
          clear hb HU
          go_wp2_with (first | (rw [← HWA.out]) | (go_at_call 55; refine HOP.out.mono ?_; rintro e w2 ⟨rfl, b2⟩; have B2 := hid b2; clear b2))
          exact bodyPost_ret (v := .tuple #[.nilIface, .bool false]) (by simp [results, Tryd.results31, go_sem]) rfl ⟨by rw [HG.out], P3.trans ((HTA.out.trans (B2.out.mono HTA.out.size)).mono P3.size)⟩
        | true =>
          rw [hb] at HOP
          have HNB := hid hb
          by_cases hms : m ≤ st.length
          · have hw0 : wrap64 ((st.length : Int) - (m : Int)) = ((st.length - m : Nat) : Int) := by rw [IntWalk.wrap64_in _ ⟨by omega, by omega⟩]; omega
            have hnn : ¬ (((st.length - m : Nat) : Int) < 0) := by omega
            clear hb
            obtain ⟨us, hus⟩ : ∃ us, us = (st.take m).reverse := ⟨_, rfl⟩
            have hul : us.length = m := by rw [hus, List.length_reverse, List.length_take]; omega
            have hjn : joinT x st = some (plantT x us :: st.drop m) := by rw [HJ.out, if_pos ⟨HNB.out, hms⟩, hus]
            have HB1 : Hid (build f [] = build (f.drop (j + 1)) (plantT x us :: st.drop m)) := by show _ = _; rw [HB0.out, hjn]; rfl
            have HRS : Hid ((plantT x us :: st.drop m).reverse = (st.drop m).reverse ++ [plantT x us]) := by show _ = _; simp
            have hnl : (plantT x us :: st.drop m).length ≤ j + 1 := by simp; omega
            have hrv := rev_split st m
            rw [← hus] at hrv
            obtain ⟨tk, tu, et⟩ := tv_form (plantT x us)
            have ET := hid et
            clear hjn hus HB0 HJ et
            rcases own_forms P2 with ⟨hv, h0⟩ | ⟨q, c, hv, hq, hqc, hqb⟩
            · go_wp2_with (first | (rw [← HWA.out]) | (go_at_call 55; refine HOP.out.mono ?_; rintro e w2 ⟨rfl, b2⟩; have BR : Hid (Below wr.heap.size wr w2) := HTA.out.trans (b2.mono HTA.out.size); have r2 := (b2.block _ (Array.getElem?_eq_some_iff.1 HRA.out).1).trans HRA.out; have HX2 := hid (Array.getElem?_eq_some_iff.1 r2).1; have KB : Hid (∀ W, Below w2.heap.size w2 W → W.cell? ⟨wr.heap.size, 0, none⟩ = some (.int .i64 x.1) ∧ W.cell? ⟨wr.heap.size, 1, none⟩ = some (.int .i64 x.2)) := (fun W hW => by have r3 := (hW.block _ (Array.getElem?_eq_some_iff.1 r2).1).trans r2; exact ⟨cell_row r3 0, cell_row r3 1⟩); have BW : Hid (Below w.heap.size w w2) := P3.trans (BR.out.mono P3.size); clear b2 r2))
              simp only [Value.slice.injEq] at hv
              obtain ⟨rfl, _, rfl⟩ := hv
              have hst0 : st = [] := List.eq_nil_of_length_eq_zero h0
              subst hst0
              obtain rfl : m = 0 := by simpa using hms
              have hus0 : us = [] := List.eq_nil_of_length_eq_zero hul
              have HPL : Hid (∀ W, Below w2.heap.size w2 W → Calls Tryd.prog 56 #[ndV x, .slice none 0 0] W fun e w' => e = .returned (.iface tk tu) ∧ Below W.heap.size W w') := fun W _ => ET.out ▸ HU.out us hul HNB.out none 0 0 W (.inl hus0)
              have HOW : Hid (∀ W, Below w2.heap.size w2 W → W.ownsRow w.heap.size 56 1 (.slice none 0 0) (List.drop 0 ([] : List Tr)).reverse.length (ct (List.drop 0 ([] : List Tr)).reverse)) := fun W _ => World.ownsRow_nil _ _ _ _
              have HLT : Hid (∀ k, (Value.slice none 0 0).ownBlock = some k → w.heap.size ≤ k) := fun k hk => by cases hk
              have HNE : Hid ((Value.slice none 0 0).ownBlock ≠ some wr.heap.size) := by show _ ≠ _; simp [Value.ownBlock]
              have KG : Hid (∀ Y Z, Below w2.heap.size w2 Y → Y.grownBy Z (Value.slice none 0 0).ownBlock → Z.cell? ⟨wr.heap.size, 0, none⟩ = some (.int .i64 x.1) ∧ Z.cell? ⟨wr.heap.size, 1, none⟩ = some (.int .i64 x.2)) := fun Y Z hY hZ => by
                have hb := hZ.block wr.heap.size (Nat.lt_of_lt_of_le HX2.out hY.size) (fun e => HNE.out e.symm)
                obtain ⟨k0, k1⟩ := KB.out Y hY
                exact ⟨by rw [← k0]; unfold World.cell?; rw [hb], by rw [← k1]; unfold World.cell?; rw [hb]⟩
              refine wp_region_noPanic ?_
              refine wp_region_held_drew (S := fun W => W.cell? ⟨wr.heap.size, 0, none⟩ = some (.int .i64 x.1) ∧ W.cell? ⟨wr.heap.size, 1, none⟩ = some (.int .i64 x.2)) (by kernel_rfl) (KB.out _ (Below.refl _ _).drew) (fun hHeld => ?_)
              refine wpAnyH_take (i := 0) (v := ?_) (by simp only [List.getElem?_toArray, List.getElem?_cons_zero]; rfl) (by kernel_rfl) (by kernel_rfl) (by kernel_rfl) (fun _ _ _ h => h) (Or.inl ⟨by rfl, ?_⟩) (by assumption) ?_
              rotate_left 1
              · intro w hSw; (try dsimp only at hSw); go_simp; (try with_reducible rfl)
              try simp only [Act.put, List.setIfInBounds_toArray, List.set_cons_zero, List.set_cons_succ]
              refine wpAnyH_take (i := 1) (v := ?_) (by simp only [List.getElem?_toArray, List.getElem?_cons_succ, List.getElem?_cons_zero]; rfl) (by kernel_rfl) (by kernel_rfl) (by kernel_rfl) (fun _ _ _ h => h) (Or.inl ⟨by rfl, ?_⟩) (by assumption) ?_
              rotate_left 1
              · intro w hSw; (try dsimp only at hSw); go_simp; (try with_reducible rfl)
              try simp only [Act.put, List.setIfInBounds_toArray, List.set_cons_zero, List.set_cons_succ]
              refine wpAnyH_take (i := 2) (v := .slice none 0 0) (by simp only [List.getElem?_toArray, List.getElem?_cons_succ, List.getElem?_cons_zero]; rfl) (by kernel_rfl) (by kernel_rfl) (by kernel_rfl) (fun _ _ _ h => h) (Or.inl ⟨by rfl, ?_⟩) (by assumption) ?_
              · intro w hSw; (try dsimp only at hSw); (try go_simp); (first | done | rfl | simp)
              try simp only [Act.put, List.setIfInBounds_toArray, List.set_cons_zero, List.set_cons_succ]
              refine wpAnyH_take (i := 3) (v := ?_) (by simp only [List.getElem?_toArray, List.getElem?_cons_succ, List.getElem?_cons_zero]; rfl) (by kernel_rfl) (by kernel_rfl) (by kernel_rfl) (fun _ _ _ h => h) (Or.inl ⟨by rfl, ?_⟩) (by assumption) ?_
              rotate_left 1
              · intro w hSw; (try dsimp only at hSw); go_simp; (try with_reducible rfl)
              try simp only [Act.put, List.setIfInBounds_toArray, List.set_cons_zero, List.set_cons_succ]
              refine wpAnyH_take (i := 4) (v := ?_) (by simp only [List.getElem?_toArray, List.getElem?_cons_succ, List.getElem?_cons_zero]; rfl) (by kernel_rfl) (by kernel_rfl) (by kernel_rfl) (fun _ _ _ h => h) (Or.inl ⟨by rfl, ?_⟩) (by assumption) ?_
              rotate_left 1
              · intro w hSw; (try dsimp only at hSw); go_simp; (try with_reducible rfl)
              try simp only [Act.put, List.setIfInBounds_toArray, List.set_cons_zero, List.set_cons_succ]
              refine wpAnyH_take (i := 5) (v := ?_) (by simp only [List.getElem?_toArray, List.getElem?_cons_succ, List.getElem?_cons_zero]; rfl) (by kernel_rfl) (by kernel_rfl) (by kernel_rfl) (fun _ _ _ h => h) (Or.inl ⟨by rfl, ?_⟩) (by assumption) ?_
              rotate_left 1
              · intro w hSw; (try dsimp only at hSw); go_simp; (try with_reducible rfl)
              try simp only [Act.put, List.setIfInBounds_toArray, List.set_cons_zero, List.set_cons_succ]
              refine wpAnyH_take (i := 6) (v := .slice none 0 0) (by simp only [List.getElem?_toArray, List.getElem?_cons_succ, List.getElem?_cons_zero]; rfl) (by kernel_rfl) (by kernel_rfl) (by kernel_rfl) (fun _ _ _ h => h) (Or.inl ⟨by rfl, ?_⟩) (by assumption) ?_
              · intro w hSw; (try dsimp only at hSw); (try go_simp); (first | done | rfl | simp)
              try simp only [Act.put, List.setIfInBounds_toArray, List.set_cons_zero, List.set_cons_succ]
              refine wpAnyH_ready (rs := [7]) (by kernel_rfl) (by simp) ?_
              refine AllReadyH.cons (by simp only [List.getElem?_toArray, List.getElem?_cons_succ, List.getElem?_cons_zero]; rfl) (fun K hK => ?_) AllReadyH.nil
              go_simp
              go_at_call 56
              refine Calls.mono (HPL.out _ (by exact (Below.refl _ _).drew)) ?_
              rintro e w4 ⟨rfl, b4⟩
              have B4 : Hid (Below w2.heap.size w2 w4) := (Below.refl _ _).drew.trans b4
              clear b4
              clear hHeld
              refine hK.out _ _ (KB.out _ B4.out) (fun hHeld => ?_)
              clear hK K
              try simp only [Act.put, List.setIfInBounds_toArray, List.set_cons_zero, List.set_cons_succ]
              refine wpAnyH_ready (rs := [8]) (by kernel_rfl) (by simp) ?_
              refine AllReadyH.cons (by simp only [List.getElem?_toArray, List.getElem?_cons_succ, List.getElem?_cons_zero]; rfl) (fun K hK => ?_) AllReadyH.nil
              go_simp
              obtain ⟨Y5, hY5⟩ : ∃ Y5, Y5 = w4.alloc (Obj.cells #[.iface tk tu] 56) := ⟨_, rfl⟩
              have e5 : (if x.1 = 0 then Y5 else Y5) = Y5 := by split <;> rfl
              clear e5
              rw [← hY5]
              have B5 : Hid (Below w2.heap.size w2 Y5) := by rw [hY5]; exact B4.out.alloc B4.out.size _
              have r5 : Y5.cell? ⟨w4.heap.size, 0, none⟩ = some (tv (plantT x us)) := by rw [ET.out, hY5, cell_row (heap_alloc_new w4 _)]; rfl
              clear hY5
              clear hHeld
              refine hK.out _ _ (KB.out _ B5.out) (fun hHeld => ?_)
              clear hK K
              try simp only [Act.put, List.setIfInBounds_toArray, List.set_cons_zero, List.set_cons_succ]
              refine wpAnyH_ready (rs := [9]) (by kernel_rfl) (by simp) ?_
              refine AllReadyH.cons (by simp only [List.getElem?_toArray, List.getElem?_cons_succ, List.getElem?_cons_zero]; rfl) (fun K hK => ?_) AllReadyH.nil
              skip
              refine wp_tree _ _ rfl w.heap.size (.slice none 0 0) (List.drop 0 ([] : List Tr)).reverse (plantT x us) ⟨w4.heap.size, 0, none⟩ rfl (HOW.out _ B5.out) rfl r5 (by rw [List.length_reverse, List.length_drop]; omega) (Nat.le_trans BW.out.size B5.out.size) ?_
              intro v6 w6 ho6 hg6
              have BW6 : Hid (Below w.heap.size w w6) := (BW.out.trans (B5.out.mono BW.out.size)).grown hg6 (Nat.le_trans BW.out.size B5.out.size) (fun k hk => HLT.out k hk)
              have HO6 := hid ho6
              have kc6 : w6.cell? ⟨wr.heap.size, 0, none⟩ = some (.int .i64 x.1) ∧ w6.cell? ⟨wr.heap.size, 1, none⟩ = some (.int .i64 x.2) := KG.out _ _ B5.out hg6
              clear ho6 hg6
              clear hHeld
              refine hK.out _ _ kc6 (fun hHeld => ?_)
              clear hK K
              try simp only [Act.put, List.setIfInBounds_toArray, List.set_cons_zero, List.set_cons_succ]
              refine wpAnyH_take (i := 10) (v := ?_) (by simp only [List.getElem?_toArray, List.getElem?_cons_succ, List.getElem?_cons_zero]; rfl) (by kernel_rfl) (by kernel_rfl) (by kernel_rfl) (fun _ _ _ h => h) (Or.inl ⟨by rfl, ?_⟩) (by assumption) ?_
              rotate_left 1
              · intro w hSw; (try dsimp only at hSw); go_simp; (try with_reducible rfl)
              try simp only [Act.put, List.setIfInBounds_toArray, List.set_cons_zero, List.set_cons_succ]
              refine wpAnyH_done (by kernel_rfl) ?_ _
              refine NoPanic.normal ?_
              go_wp2
              go_roundw
              case rel => 
                obtain ⟨sx, cx, hsx⟩ : ∃ sx cx, v6 = .slice sx (plantT x us :: List.drop 0 ([] : List Tr)).length cx := by
                  have hn6 : ((List.drop 0 ([] : List Tr)).reverse ++ [plantT x us]).length = (plantT x us :: List.drop 0 ([] : List Tr)).length := by simp
                  rcases own_forms HO6.out with ⟨hv, h0⟩ | ⟨g, c, hv, _⟩
                  · exact ⟨none, 0, by rw [hv, ← hn6, h0]⟩
                  · exact ⟨_, _, by rw [hv, hn6]⟩
                subst hsx
                refine ⟨j + 1, plantT x us :: List.drop 0 ([] : List Tr), sx, cx, by go_num, rfl, hlt, hnl, HB1.out, ?_, BW6.out⟩
                rw [HRS.out]
                have h6 := HO6.out
                have hn6 : ((List.drop 0 ([] : List Tr)).reverse ++ [plantT x us]).length = (plantT x us :: List.drop 0 ([] : List Tr)).length := by simp
                rw [hn6] at h6
                exact h6
              case measure => simp [intOf]; omega
            · simp only [Value.slice.injEq, true_and] at hv
              obtain ⟨rfl, rfl⟩ := hv
              go_wp2_with (first | (rw [← HWA.out]) | (go_at_call 55; refine HOP.out.mono ?_; rintro e w2 ⟨rfl, b2⟩; have BR : Hid (Below wr.heap.size wr w2) := HTA.out.trans (b2.mono HTA.out.size); have r2 := (b2.block _ (Array.getElem?_eq_some_iff.1 HRA.out).1).trans HRA.out; have HX2 := hid (Array.getElem?_eq_some_iff.1 r2).1; have KB : Hid (∀ W, Below w2.heap.size w2 W → W.cell? ⟨wr.heap.size, 0, none⟩ = some (.int .i64 x.1) ∧ W.cell? ⟨wr.heap.size, 1, none⟩ = some (.int .i64 x.2)) := (fun W hW => by have r3 := (hW.block _ (Array.getElem?_eq_some_iff.1 r2).1).trans r2; exact ⟨cell_row r3 0, cell_row r3 1⟩); have BW : Hid (Below w.heap.size w w2) := P3.trans (BR.out.mono P3.size); clear b2 r2))
              have P2w := own_keep P2 BR.out
              have hq2 : q < w2.heap.size := Nat.lt_of_lt_of_le hq BR.out.size
              have HOW : Hid (∀ W, Below w2.heap.size w2 W → W.ownsRow w.heap.size 56 1 (.slice (some ⟨q, 0, none⟩) (st.length - m) cv) (st.drop m).reverse.length (ct (st.drop m).reverse)) := fun W hW => by
                have h1 := own_take (own_keep P2w hW) (m := st.length - m) (by omega)
                have e1 : (ct st.reverse).take (st.length - m) = ct (st.drop m).reverse := by rw [hrv, ct_append, List.take_left' (by rw [ct_length, List.length_reverse, List.length_drop])]
                have e2 : (st.drop m).reverse.length = st.length - m := by rw [List.length_reverse, List.length_drop]
                rw [e1] at h1
                rw [e2]
                exact h1
              obtain ⟨pz, hpz⟩ : ∃ pz, pz = if cv = st.length - m then 0 else st.length - m := ⟨_, rfl⟩
              have HPC : ∀ W, Below w2.heap.size w2 W → (us = [] ∨ ∃ g p, (some ⟨q, pz, none⟩ : Option Addr) = some ⟨g, p, none⟩ ∧ m = us.length ∧ g < W.heap.size ∧ ∀ j (hj : j < us.length), W.cell? ⟨g, p + j, none⟩ = some (tv us[j])) := fun W hW => by
                by_cases hu0 : us = []
                · exact .inl hu0
                have hm0 : 0 < m := by have := List.length_pos_iff.2 hu0; omega
                have hpz2 : pz = st.length - m := by rw [hpz, if_neg (by omega)]
                refine .inr ⟨q, pz, rfl, hul.symm, Nat.lt_of_lt_of_le hq2 hW.size, fun i hi => ?_⟩
                rw [hpz2]
                have h1 := row_cell (own_keep P2w hW) (st.length - m + i) (by rw [List.length_reverse]; omega)
                rw [h1]
                have e2 : (st.drop m).reverse.length = st.length - m := by rw [List.length_reverse, List.length_drop]
                have e3 : st.reverse[st.length - m + i]? = us[i]? := by rw [hrv, List.getElem?_append_right (by omega), e2, Nat.add_sub_cancel_left]
                rw [List.getElem?_eq_getElem (by rw [List.length_reverse]; omega), List.getElem?_eq_getElem hi] at e3
                rw [Option.some.inj e3]
              have HPL : Hid (∀ W, Below w2.heap.size w2 W → Calls Tryd.prog 56 #[ndV x, .slice (some ⟨q, pz, none⟩) m (cv - (st.length - m))] W fun e w' => e = .returned (.iface tk tu) ∧ Below W.heap.size W w') := fun W hW => ET.out ▸ HU.out us hul HNB.out _ _ _ W (HPC W hW)
              have HPZ := hid hpz
              clear HPC hpz
              have HLT : Hid (∀ k, (Value.slice (some ⟨q, 0, none⟩) (st.length - m) cv).ownBlock = some k → w.heap.size ≤ k) := fun k hk => by simp [Value.ownBlock] at hk; omega
              have HNE : Hid ((Value.slice (some ⟨q, 0, none⟩) (st.length - m) cv).ownBlock ≠ some wr.heap.size) := by show _ ≠ _; simp [Value.ownBlock]; omega
              have KG : Hid (∀ Y Z, Below w2.heap.size w2 Y → Y.grownBy Z (Value.slice (some ⟨q, 0, none⟩) (st.length - m) cv).ownBlock → Z.cell? ⟨wr.heap.size, 0, none⟩ = some (.int .i64 x.1) ∧ Z.cell? ⟨wr.heap.size, 1, none⟩ = some (.int .i64 x.2)) := fun Y Z hY hZ => by
                have hb := hZ.block wr.heap.size (Nat.lt_of_lt_of_le HX2.out hY.size) (fun e => HNE.out e.symm)
                obtain ⟨k0, k1⟩ := KB.out Y hY
                exact ⟨by rw [← k0]; unfold World.cell?; rw [hb], by rw [← k1]; unfold World.cell?; rw [hb]⟩
              refine wp_region_noPanic ?_
              refine wp_region_held_drew (S := fun W => W.cell? ⟨wr.heap.size, 0, none⟩ = some (.int .i64 x.1) ∧ W.cell? ⟨wr.heap.size, 1, none⟩ = some (.int .i64 x.2)) (by kernel_rfl) (KB.out _ (Below.refl _ _).drew) (fun hHeld => ?_)
              refine wpAnyH_take (i := 0) (v := ?_) (by simp only [List.getElem?_toArray, List.getElem?_cons_zero]; rfl) (by kernel_rfl) (by kernel_rfl) (by kernel_rfl) (fun _ _ _ h => h) (Or.inl ⟨by rfl, ?_⟩) (by assumption) ?_
              rotate_left 1
              · intro w hSw; (try dsimp only at hSw); go_simp; (try with_reducible rfl)
              try simp only [Act.put, List.setIfInBounds_toArray, List.set_cons_zero, List.set_cons_succ]
              refine wpAnyH_take (i := 1) (v := ?_) (by simp only [List.getElem?_toArray, List.getElem?_cons_succ, List.getElem?_cons_zero]; rfl) (by kernel_rfl) (by kernel_rfl) (by kernel_rfl) (fun _ _ _ h => h) (Or.inl ⟨by rfl, ?_⟩) (by assumption) ?_
              rotate_left 1
              · intro w hSw; (try dsimp only at hSw); go_simp; (try with_reducible rfl)
              try simp only [Act.put, List.setIfInBounds_toArray, List.set_cons_zero, List.set_cons_succ]
              refine wpAnyH_take (i := 2) (v := .slice (some ⟨q, 0, none⟩) (st.length - m) cv) (by simp only [List.getElem?_toArray, List.getElem?_cons_succ, List.getElem?_cons_zero]; rfl) (by kernel_rfl) (by kernel_rfl) (by kernel_rfl) (fun _ _ _ h => h) (Or.inl ⟨by rfl, ?_⟩) (by assumption) ?_
              · intro w hSw; (try dsimp only at hSw); (try go_simp); ((try simp); (try omega))
              try simp only [Act.put, List.setIfInBounds_toArray, List.set_cons_zero, List.set_cons_succ]
              refine wpAnyH_take (i := 3) (v := ?_) (by simp only [List.getElem?_toArray, List.getElem?_cons_succ, List.getElem?_cons_zero]; rfl) (by kernel_rfl) (by kernel_rfl) (by kernel_rfl) (fun _ _ _ h => h) (Or.inl ⟨by rfl, ?_⟩) (by assumption) ?_
              rotate_left 1
              · intro w hSw; (try dsimp only at hSw); go_simp; (try with_reducible rfl)
              try simp only [Act.put, List.setIfInBounds_toArray, List.set_cons_zero, List.set_cons_succ]
              refine wpAnyH_take (i := 4) (v := ?_) (by simp only [List.getElem?_toArray, List.getElem?_cons_succ, List.getElem?_cons_zero]; rfl) (by kernel_rfl) (by kernel_rfl) (by kernel_rfl) (fun _ _ _ h => h) (Or.inl ⟨by rfl, ?_⟩) (by assumption) ?_
              rotate_left 1
              · intro w hSw; (try dsimp only at hSw); go_simp; (try with_reducible rfl)
              try simp only [Act.put, List.setIfInBounds_toArray, List.set_cons_zero, List.set_cons_succ]
              refine wpAnyH_take (i := 5) (v := ?_) (by simp only [List.getElem?_toArray, List.getElem?_cons_succ, List.getElem?_cons_zero]; rfl) (by kernel_rfl) (by kernel_rfl) (by kernel_rfl) (fun _ _ _ h => h) (Or.inl ⟨by rfl, ?_⟩) (by assumption) ?_
              rotate_left 1
              · intro w hSw; (try dsimp only at hSw); go_simp; (try with_reducible rfl)
              try simp only [Act.put, List.setIfInBounds_toArray, List.set_cons_zero, List.set_cons_succ]
              refine wpAnyH_take (i := 6) (v := .slice (some ⟨q, pz, none⟩) m (cv - (st.length - m))) (by simp only [List.getElem?_toArray, List.getElem?_cons_succ, List.getElem?_cons_zero]; rfl) (by kernel_rfl) (by kernel_rfl) (by kernel_rfl) (fun _ _ _ h => h) (Or.inl ⟨by rfl, ?_⟩) (by assumption) ?_
              · intro w hSw; (try dsimp only at hSw); (try go_simp); (rw [if_pos (by omega), HPZ.out, show st.length - (st.length - m) = m by omega]; split <;> rfl)
              try simp only [Act.put, List.setIfInBounds_toArray, List.set_cons_zero, List.set_cons_succ]
              refine wpAnyH_ready (rs := [7]) (by kernel_rfl) (by simp) ?_
              refine AllReadyH.cons (by simp only [List.getElem?_toArray, List.getElem?_cons_succ, List.getElem?_cons_zero]; rfl) (fun K hK => ?_) AllReadyH.nil
              go_simp
              go_at_call 56
              refine Calls.mono (HPL.out _ (by exact (Below.refl _ _).drew)) ?_
              rintro e w4 ⟨rfl, b4⟩
              have B4 : Hid (Below w2.heap.size w2 w4) := (Below.refl _ _).drew.trans b4
              clear b4
              clear hHeld
              refine hK.out _ _ (KB.out _ B4.out) (fun hHeld => ?_)
              clear hK K
              try simp only [Act.put, List.setIfInBounds_toArray, List.set_cons_zero, List.set_cons_succ]
              refine wpAnyH_ready (rs := [8]) (by kernel_rfl) (by simp) ?_
              refine AllReadyH.cons (by simp only [List.getElem?_toArray, List.getElem?_cons_succ, List.getElem?_cons_zero]; rfl) (fun K hK => ?_) AllReadyH.nil
              go_simp
              obtain ⟨Y5, hY5⟩ : ∃ Y5, Y5 = w4.alloc (Obj.cells #[.iface tk tu] 56) := ⟨_, rfl⟩
              have e5 : (if x.1 = 0 then Y5 else Y5) = Y5 := by split <;> rfl
              clear e5
              rw [← hY5]
              have B5 : Hid (Below w2.heap.size w2 Y5) := by rw [hY5]; exact B4.out.alloc B4.out.size _
              have r5 : Y5.cell? ⟨w4.heap.size, 0, none⟩ = some (tv (plantT x us)) := by rw [ET.out, hY5, cell_row (heap_alloc_new w4 _)]; rfl
              clear hY5
              clear hHeld
              refine hK.out _ _ (KB.out _ B5.out) (fun hHeld => ?_)
              clear hK K
              try simp only [Act.put, List.setIfInBounds_toArray, List.set_cons_zero, List.set_cons_succ]
              refine wpAnyH_ready (rs := [9]) (by kernel_rfl) (by simp) ?_
              refine AllReadyH.cons (by simp only [List.getElem?_toArray, List.getElem?_cons_succ, List.getElem?_cons_zero]; rfl) (fun K hK => ?_) AllReadyH.nil
              skip
              refine wp_tree _ _ rfl w.heap.size (.slice (some ⟨q, 0, none⟩) (st.length - m) cv) (st.drop m).reverse (plantT x us) ⟨w4.heap.size, 0, none⟩ rfl (HOW.out _ B5.out) rfl r5 (by rw [List.length_reverse, List.length_drop]; omega) (Nat.le_trans BW.out.size B5.out.size) ?_
              intro v6 w6 ho6 hg6
              have BW6 : Hid (Below w.heap.size w w6) := (BW.out.trans (B5.out.mono BW.out.size)).grown hg6 (Nat.le_trans BW.out.size B5.out.size) (fun k hk => HLT.out k hk)
              have HO6 := hid ho6
              have kc6 : w6.cell? ⟨wr.heap.size, 0, none⟩ = some (.int .i64 x.1) ∧ w6.cell? ⟨wr.heap.size, 1, none⟩ = some (.int .i64 x.2) := KG.out _ _ B5.out hg6
              clear ho6 hg6
              clear hHeld
              refine hK.out _ _ kc6 (fun hHeld => ?_)
              clear hK K
              try simp only [Act.put, List.setIfInBounds_toArray, List.set_cons_zero, List.set_cons_succ]
              refine wpAnyH_take (i := 10) (v := ?_) (by simp only [List.getElem?_toArray, List.getElem?_cons_succ, List.getElem?_cons_zero]; rfl) (by kernel_rfl) (by kernel_rfl) (by kernel_rfl) (fun _ _ _ h => h) (Or.inl ⟨by rfl, ?_⟩) (by assumption) ?_
              rotate_left 1
              · intro w hSw; (try dsimp only at hSw); go_simp; (try with_reducible rfl)
              try simp only [Act.put, List.setIfInBounds_toArray, List.set_cons_zero, List.set_cons_succ]
              refine wpAnyH_done (by kernel_rfl) ?_ _
              refine NoPanic.normal ?_
              go_wp2
              go_roundw
              case rel => 
                obtain ⟨sx, cx, hsx⟩ : ∃ sx cx, v6 = .slice sx (plantT x us :: st.drop m).length cx := by
                  have hn6 : ((st.drop m).reverse ++ [plantT x us]).length = (plantT x us :: st.drop m).length := by simp
                  rcases own_forms HO6.out with ⟨hv, h0⟩ | ⟨g, c, hv, _⟩
                  · exact ⟨none, 0, by rw [hv, ← hn6, h0]⟩
                  · exact ⟨_, _, by rw [hv, hn6]⟩
                subst hsx
                refine ⟨j + 1, plantT x us :: st.drop m, sx, cx, by go_num, rfl, hlt, hnl, HB1.out, ?_, BW6.out⟩
                rw [HRS.out]
                have h6 := HO6.out
                have hn6 : ((st.drop m).reverse ++ [plantT x us]).length = (plantT x us :: st.drop m).length := by simp
                rw [hn6] at h6
                exact h6
              case measure => simp [intOf]; omega
          · have hw0 : wrap64 ((st.length : Int) - (m : Int)) = (st.length : Int) - (m : Int) := IntWalk.wrap64_in _ ⟨by omega, by omega⟩
            have hneg : (st.length : Int) - (m : Int) < 0 := by omega
            have HG : Hid (growV f = .tuple #[.nilIface, .bool false]) := grow_none (by rw [HB0.out, HJ.out, if_neg (fun h => hms h.2)]; rfl)
            clear hb HU hms
            go_wp2_with (first | (rw [← HWA.out]) | (go_at_call 55; refine HOP.out.mono ?_; rintro e w2 ⟨rfl, b2⟩; have B2 := hid b2; clear b2))
            exact bodyPost_ret (v := .tuple #[.nilIface, .bool false]) (by simp [results, Tryd.results31, go_sem]) rfl ⟨by rw [HG.out], P3.trans ((HTA.out.trans (B2.out.mono HTA.out.size)).mono P3.size)⟩
      · obtain ⟨P1, P2, P3⟩ := HP.out
        obtain rfl : j = f.length := by omega
        rw [List.drop_length, build] at P1
        have BW := hid P3
        by_cases h1 : st.length = 1
        · obtain ⟨t, rfl⟩ : ∃ t, st = [t] := List.length_eq_one_iff.1 h1
          have htr : treeOf f = some t := by unfold treeOf; rw [P1]
          obtain ⟨hg, hp⟩ := treeOf_some htr
          have HV : Hid (growV f = if t.need true ≤ 64 then .tuple #[tv t, .bool true] else .tuple #[.nilIface, .bool false]) := by
            show _ = _
            unfold growV
            rw [htr]
            by_cases hn : t.need true ≤ 64
            · simp only [if_pos hn]; rw [if_pos ⟨by omega, hn⟩]
            · simp only [if_neg hn]; rw [if_neg (fun h => hn h.2)]
          have hne := need_le t true
          rw [hp] at hne
          have HN := fun W => hid (nest_top t hg (by rw [hp]; omega) W)
          rcases own_forms P2 with ⟨hv, h0⟩ | ⟨q, c, hv, hq, hqc, hqb⟩
          · simp at h0
          · simp only [Value.slice.injEq, true_and] at hv
            obtain ⟨rfl, rfl⟩ := hv
            have k0 := row_cell P2 0 (by simp)
            have k1 : ∀ W, Below wr.heap.size wr W → W.cell? ⟨q, 0, none⟩ = some (tv t) := fun W hW => (hW.cell (p := ⟨q, 0, none⟩) hq).trans k0
            obtain ⟨k, u, e⟩ := tv_form t
            rw [e] at HV
            simp only [e] at HN k1
            obtain ⟨n, hn⟩ : ∃ n, n = t.need true := ⟨_, rfl⟩
            rw [← hn] at HV hne
            simp only [← hn] at HN
            have k2 : wr.cell? ⟨q, 0, none⟩ = some (.iface k u) := k1 wr (Below.refl _ _)
            have K1 := hid k1
            clear hn e htr hg hp P1 P2 HP h1 k0 k1 hst P3
            by_cases h64 : n ≤ 64
            · rw [if_pos h64] at HV
              have h65 : ¬ ((64 : Int) < (n : Int)) := by omega
              go_wp2_with (go_at_call 57; refine (HN _).out.mono ?_; rintro e w2 ⟨rfl, b2⟩; have B2 := hid b2; have k3 := K1.out w2 b2; clear b2)
              exact bodyPost_ret (v := .tuple #[.iface k u, .bool true]) (by simp [results, Tryd.results31, go_sem]) rfl ⟨by rw [HV.out], BW.out.trans (B2.out.mono BW.out.size)⟩
            · rw [if_neg h64] at HV
              have h65 : (64 : Int) < (n : Int) := by omega
              go_wp2_with (go_at_call 57; refine (HN _).out.mono ?_; rintro e w2 ⟨rfl, b2⟩; have B2 := hid b2; have k3 := K1.out w2 b2; clear b2)
              exact bodyPost_ret (v := .tuple #[.nilIface, .bool false]) (by simp [results, Tryd.results31, go_sem]) rfl ⟨by rw [HV.out], BW.out.trans (B2.out.mono BW.out.size)⟩
        · have HV : Hid (growV f = .tuple #[.nilIface, .bool false]) := by
            show _ = _
            unfold growV treeOf
            rw [P1]
            match st, h1 with
            | [], _ => rfl
            | [t], h1 => exact absurd rfl h1
            | a :: b :: r, _ => rfl
          have h2 : ((st.length : Int) != 1) = true := by simp; omega
          clear P1 P2 HP
          go_wp2
          exact bodyPost_ret (v := .tuple #[.nilIface, .bool false]) (by simp [results, Tryd.results31, go_sem]) rfl ⟨by rw [HV.out], BW.out⟩
end Go.Proofs.YtdkboifpdodonaaDoor
/-
  The landed program's Formed, Vars.
-/
namespace Go.Proofs.YtdkboifpdodonaaDoor
open Go.RowKit Go.Deep PureCnf PureForm
set_option maxRecDepth 100000

/-- one more than the greatest variable. -/
def varN (m : Nat) (x : Nd) : Nat := if x.1 = 2 ∨ x.1 = 4 ∨ x.1 = 5 then max m (x.2.toNat + 1) else m
def varsN (f : List Nd) : Nat := f.foldl varN 0
def varsV (f : List Nd) : Value := if formedF f = true then .tuple #[.int .i64 (varsN f : Int), .int .i64 0] else .tuple #[.int .i64 0, .int .i64 134]
def VarsC (g : Nat) : Prop := ∀ (f : List Nd) (sa : Option Addr) (ca : Nat) (w : World), NodesAt w sa f → f.length ≤ 9223372036854775807 →
  Calls Tryd.prog g #[.slice sa f.length ca] w fun e w' => e = .returned (varsV f) ∧ Below w.heap.size w w'
def FormedC (g : Nat) : Prop := ∀ (f : List Nd) (sa : Option Addr) (ca : Nat) (w : World), NodesAt w sa f → f.length ≤ 9223372036854775807 →
  Calls Tryd.prog g #[.slice sa f.length ca] w fun e w' => e = .returned (.bool (formedF f)) ∧ Below w.heap.size w w'

theorem grow_form (f : List Nd) : ∃ v, growV f = .tuple #[v, .bool (formedF f)] ∧ (v = .nilIface ∨ ∃ k u, v = .iface k u) := by
  unfold growV formedF
  cases treeOf f with
  | none => exact ⟨_, rfl, .inl rfl⟩
  | some t =>
    by_cases h : f.length ≤ 65536 ∧ t.need true ≤ 64
    · simp only [if_pos h, decide_eq_true h]
      exact ⟨_, rfl, .inr (tv_form t)⟩
    · simp only [if_neg h, decide_eq_false h]
      exact ⟨_, rfl, .inl rfl⟩
set_option maxHeartbeats 1000000 in
theorem formed15 : FormedC 15 := by
  intro f sa ca w hf hl
  have HG := hid (grow_any f sa ca w hf hl)
  obtain ⟨v, e, hv⟩ := grow_form f
  rw [e] at HG
  clear hf e
  rcases hv with rfl | ⟨k, u, rfl⟩
  all_goals
    go_enter Tryd.func15, Tryd.ntmps15
    go_wp2_with (go_at_call 31; refine HG.out.mono ?_; rintro e w1 ⟨rfl, b1⟩; have B1 := hid b1; clear b1)
    go_ret
    exact ⟨rfl, B1.out⟩

theorem good_nodes (t : Tr) : t.good → ∀ x ∈ t.post, (x.1 = 2 ∨ x.1 = 4 ∨ x.1 = 5) → 0 ≤ x.2 ∧ x.2 < 65536 := by
  induction t using Tr.ind with
  | lf x =>
    intro h y hy hv
    simp [Tr.post_lf, Tr.post_un, Tr.post_bi, Tr.post_te] at hy
    subst hy
    rcases h with h | h
    · omega
    · exact h.2
  | un x a ih =>
    rintro ⟨hx, ha⟩ y hy hv
    simp [Tr.post_lf, Tr.post_un, Tr.post_bi, Tr.post_te] at hy
    rcases hy with hy | rfl
    · exact ih ha y hy hv
    · rcases hx with h | h
      · omega
      · exact h.2
  | bi x a b iha ihb =>
    rintro ⟨hx, ha, hb⟩ y hy hv
    simp [Tr.post_lf, Tr.post_un, Tr.post_bi, Tr.post_te] at hy
    rcases hy with hy | hy | rfl
    · exact iha ha y hy hv
    · exact ihb hb y hy hv
    · have := of_decide_eq_true hx.1
      omega
  | te x a b c iha ihb ihc =>
    rintro ⟨hx, ha, hb, hc⟩ y hy hv
    simp [Tr.post_lf, Tr.post_un, Tr.post_bi, Tr.post_te] at hy
    rcases hy with hy | hy | hy | rfl
    · exact iha ha y hy hv
    · exact ihb hb y hy hv
    · exact ihc hc y hy hv
    · omega

def namesB (o : Int) : Bool := decide (o = 2 ∨ o = 4 ∨ o = 5)
theorem names_any (o : Int) (w : World) : Calls Tryd.prog 59 #[.int .i64 o] w fun e w' => e = .returned (.bool (namesB o)) ∧ w' = w := by
  unfold namesB
  by_cases h : o = 2 ∨ o = 4 ∨ o = 5
  · rw [decide_eq_true h]
    rcases h with rfl | rfl | rfl
    all_goals
      go_enter Tryd.func59, Tryd.ntmps59
      go_wp2
      go_ret
      exact ⟨rfl, rfl⟩
  · rw [decide_eq_false h]
    have b2 : (o == 2) = false := by rw [beq_eq_false_iff_ne]; omega
    have b4 : (o == 4) = false := by rw [beq_eq_false_iff_ne]; omega
    have b5 : (o == 5) = false := by rw [beq_eq_false_iff_ne]; omega
    go_enter Tryd.func59, Tryd.ntmps59
    go_wp2
    go_ret
    exact ⟨rfl, rfl⟩

set_option maxHeartbeats 2000000 in
theorem vars_walk (f : List Nd) (sa : Option Addr) (ca : Nat) (w : World) (hf : NodesAt w sa f) (hl : f.length ≤ 65536)
    (hg : ∀ k (hk : k < f.length), (f[k].1 = 2 ∨ f[k].1 = 4 ∨ f[k].1 = 5) → 0 ≤ f[k].2 ∧ f[k].2 < 65536) :
    Calls Tryd.prog 33 #[.slice sa f.length ca] w fun e w' => e = .returned (.int .i64 (varsN f : Int)) ∧ Below w.heap.size w w' := by
  have HF := hid hf
  have HGN := hid hg
  clear hf hg
  go_enter Tryd.func33, Tryd.ntmps33
  go_wp2
  go_loopw [3, 8] (fun nv iv W => ∃ i m : Nat, i ≤ f.length ∧ iv = .int .i64 (i : Int) ∧ nv = .int .i64 (m : Int) ∧ m ≤ 65536 ∧ Hid (m = (f.take i).foldl varN 0 ∧ Below w.heap.size w W)) (fun _ iv _ => f.length - (intOf iv).toNat)
  case atStart => exact ⟨0, 0, Nat.zero_le _, rfl, rfl, by omega, by simp, Below.refl _ _⟩
  case round =>
    obtain ⟨i, m, hi, rfl, rfl, hm, HR⟩ := hrel
    obtain ⟨r1, r2⟩ := HR.out
    have HM := hid r1
    have HW := hid r2
    clear HR r1 r2
    by_cases hlt : i < f.length
    · obtain ⟨g, o, rfl, hg, d0, d1⟩ := HF.out.at_ i hlt
      have hgn := HGN.out i hlt
      obtain ⟨x, hx⟩ : ∃ x, x = f[i] := ⟨_, rfl⟩
      rw [← hx] at d0 d1 hgn
      have c0 := below_cell HW.out hg d0
      have c1 := below_cell HW.out hg d1
      have HT : Hid ((f.take (i + 1)).foldl varN 0 = varN m x) := by
        show _ = _
        rw [List.take_succ_eq_append_getElem hlt, List.foldl_append, ← HM.out, ← hx]
        rfl
      obtain ⟨xo, xv⟩ := x
      simp only at c0 c1 hgn
      obtain ⟨WA, hWA⟩ : ∃ W, W = wr.alloc (Obj.cells #[.int .i64 xo, .int .i64 xv] 54) := ⟨_, rfl⟩
      have tA : Below wr.heap.size wr WA := by rw [hWA]; exact (Below.refl _ _).alloc (Nat.le_refl _) _
      have rA : WA.heap[wr.heap.size]? = some (.cells #[.int .i64 xo, .int .i64 xv] 54 (0, 0)) := by rw [hWA]; exact heap_alloc_new wr _
      have cA := fun k => cell_row rA k
      have HNM := hid (names_any xo WA)
      have HWA := hid hWA
      have HTA := hid tA
      clear hx d0 d1 hWA tA rA
      by_cases hv : xo = 2 ∨ xo = 4 ∨ xo = 5
      · obtain ⟨g0, g1⟩ := hgn hv
        obtain ⟨vn, rfl⟩ : ∃ vn : Nat, xv = vn := ⟨xv.toNat, by omega⟩
        obtain ⟨mm, hmm⟩ : ∃ mm, mm = max m (vn + 1) := ⟨_, rfl⟩
        have HT2 : Hid ((f.take (i + 1)).foldl varN 0 = mm) := by
          show _ = _
          rw [HT.out, hmm]
          unfold varN
          rw [if_pos hv]
          simp
        have hb : namesB xo = true := decide_eq_true hv
        rw [hb] at HNM
        have hle : mm ≤ 65536 := by omega
        have HMM := hid hmm
        have ew : wrap64 ((vn : Int) + 1) = ((vn + 1 : Nat) : Int) := by rw [IntWalk.wrap64_in _ ⟨by omega, by omega⟩]; omega
        clear hgn HT hb hv hmm
        go_wp2_with (first | (rw [← HWA.out]) | (go_at_call 59; refine HNM.out.mono ?_; rintro e w2 ⟨rfl, rfl⟩))
        go_roundw
        case rel => exact ⟨i + 1, mm, hlt, by go_num, congrArg (Value.int .i64) (by have := HMM.out; first | omega | (split <;> omega)), hle, HT2.out.symm, HW.out.trans (HTA.out.mono HW.out.size)⟩
        case measure => simp [intOf]; omega
      · have HT2 : Hid ((f.take (i + 1)).foldl varN 0 = m) := by
          show _ = _
          rw [HT.out]
          unfold varN
          rw [if_neg hv]
        have hb : namesB xo = false := decide_eq_false hv
        rw [hb] at HNM
        clear hgn HT hb hv
        go_wp2_with (first | (rw [← HWA.out]) | (go_at_call 59; refine HNM.out.mono ?_; rintro e w2 ⟨rfl, rfl⟩))
        go_roundw
        case rel => exact ⟨i + 1, m, hlt, by go_num, rfl, hm, HT2.out.symm, HW.out.trans (HTA.out.mono HW.out.size)⟩
        case measure => simp [intOf]; omega
    · have hin : i = f.length := by omega
      have HE : Hid (m = varsN f) := by show _ = _; rw [HM.out, hin, List.take_length]; rfl
      clear HM
      go_wp2
      go_ret
      rw [← HE.out]
      exact ⟨rfl, HW.out⟩
set_option maxHeartbeats 1000000 in
theorem vars16 : VarsC 16 := by
  intro f sa ca w hf hl
  have HF := hid (formed15 f sa ca w hf hl)
  cases hfm : formedF f with
  | false =>
    rw [hfm] at HF
    have HV : Hid (varsV f = .tuple #[.int .i64 0, .int .i64 134]) := by show _ = _; unfold varsV; rw [hfm]; rfl
    clear hf hfm
    go_enter Tryd.func16, Tryd.ntmps16
    go_wp2_with (go_at_call 15; refine HF.out.mono ?_; rintro e w1 ⟨rfl, b1⟩; have B1 := hid b1; clear b1)
    exact bodyPost_ret (v := .tuple #[.int .i64 0, .int .i64 134]) (by simp [results, Tryd.results16, go_sem]) rfl ⟨by rw [HV.out], B1.out⟩
  | true =>
    rw [hfm] at HF
    have HV : Hid (varsV f = .tuple #[.int .i64 (varsN f : Int), .int .i64 0]) := by show _ = _; unfold varsV; rw [hfm]; rfl
    have HW : Hid (∀ W, Below w.heap.size w W → Calls Tryd.prog 33 #[.slice sa f.length ca] W fun e w' => e = .returned (.int .i64 (varsN f : Int)) ∧ Below W.heap.size W w') := fun W hW => by
      unfold formedF at hfm
      split at hfm
      · next t ht =>
        obtain ⟨hg, hp⟩ := treeOf_some ht
        exact vars_walk f sa ca W (hf.below hW) (of_decide_eq_true hfm).1 fun k hk hv => good_nodes t hg f[k] (by rw [hp]; exact List.getElem_mem hk) hv
      · cases hfm
    clear hf hfm
    go_enter Tryd.func16, Tryd.ntmps16
    go_wp2_with (first | (go_at_call 15; refine HF.out.mono ?_; rintro e w1 ⟨rfl, b1⟩; have B1 := hid b1; clear b1) | (go_at_call 33; refine (HW.out _ B1.out).mono ?_; rintro e w2 ⟨rfl, b2⟩; have B2 := hid b2; clear b2))
    exact bodyPost_ret (v := .tuple #[.int .i64 (varsN f : Int), .int .i64 0]) (by simp [results, Tryd.results16, go_sem]) rfl ⟨by rw [HV.out], B1.out.trans (B2.out.mono B1.out.size)⟩
end Go.Proofs.YtdkboifpdodonaaDoor
/-
  The landed writer of formulas: what a piece writes; names, signs; an operand over its bare tree.
-/
namespace Go.Proofs.YtdkboifpdodonaaDoor
open Go.RowKit Go.Deep PureCnf PureForm
set_option maxRecDepth 100000

theorem Tab.low {w W : World} {B : Nat} (h : Tab w) (hb : Below B w W) (hB : 3 ≤ B) : Tab W := by
  unfold Tab Lib.TabIs at h ⊢
  exact var?_below (g := 2) hb (by kernel_rfl) (by omega) h
/-- a text has been written behind T. -/
structure Wrote (B b : Nat) (T X : List UInt8) (w W : World) : Prop where
  is : IsWr B b (T ++ X) W
  low : Below B w W
  kept : Lib.OthersKept 5 (some b) w W
theorem Wrote.trans {B b : Nat} {T X Y : List UInt8} {w W V : World} (h : Wrote B b T X w W) (k : Wrote B b (T ++ X) Y W V) : Wrote B b T (X ++ Y) w V :=
  ⟨by rw [← List.append_assoc]; exact k.is, h.low.trans k.low, h.kept.trans k.kept⟩
theorem IsWr.lt {B b : Nat} {T : List UInt8} {w : World} (h : IsWr B b T w) : b < w.heap.size := by
  rcases h with h | h
  · obtain ⟨_, v, hk, _⟩ := h
    exact (Array.getElem?_eq_some_iff.1 hk).1
  · obtain ⟨_, v, hk, _⟩ := h
    exact (Array.getElem?_eq_some_iff.1 hk).1
theorem kept_low {b : Nat} {w W : World} (h : Below w.heap.size w W) : Lib.OthersKept 5 (some b) w W := fun g _ hg _ _ => (h.block g (Array.getElem?_eq_some_iff.1 hg).1).trans hg
/-- what only grows the heap writes nothing. -/
theorem Wrote.grow {B b : Nat} {T X : List UInt8} {w V W : World} (hb : Below w.heap.size w V) (hB : B ≤ w.heap.size) (h : Wrote B b T X V W) : Wrote B b T X w W :=
  ⟨h.is, (hb.mono hB).trans h.low, (kept_low hb).trans h.kept⟩
/-- a box lies on while something is written. -/
theorem Wrote.box {B b : Nat} {T X : List UInt8} {w W : World} (h : Wrote B b T X w W) {g : Nat} {c : Array Value} {t : TypeId} (hg : w.heap[g]? = some (.cells c t (0, 0))) (hb : g ≠ b) (ht : t ≠ 5) : W.heap[g]? = some (.cells c t (0, 0)) :=
  h.kept g _ hg (fun e => hb (Option.some.inj e)) (fun c fz e => by simp at e; exact ht e.2.1)

/-- put of a row of texts that has just been built. -/
theorem put_row (B b : Nat) (T : List UInt8) (ps : List (List UInt8)) (W : World) (h : IsWr B b T W) (hlen : T.length + ps.flatten.length ≤ 140737488355328) (hn : ps.length ≤ 1000) (hB : B ≤ W.heap.size) :
    Calls Tryd.prog 47 #[.pointer (some ⟨b, 0, none⟩), .slice (some ⟨W.heap.size, 0, none⟩) ps.length ps.length] (W.alloc (Obj.cells (ps.map str).toArray 9)) fun e w' => e = .returned (.tuple #[]) ∧ Wrote B b T ps.flatten W w' := by
  have hb := h.lt
  have b1 : Below W.heap.size W (W.alloc (Obj.cells (ps.map str).toArray 9)) := below_box _ _
  refine (put_any B b W.heap.size T ps _ (h.on b1) (heap_alloc_new W _) (by omega) hlen hn (Nat.le_trans hB b1.size)).mono ?_
  rintro e w' ⟨rfl, q1, q2, q3⟩
  exact ⟨rfl, Wrote.grow b1 hB ⟨q1, q2, q3⟩⟩
theorem put_one (B b : Nat) (T X : List UInt8) (W : World) (h : IsWr B b T W) (hlen : T.length + X.length ≤ 140737488355328) (hB : B ≤ W.heap.size) :
    Calls Tryd.prog 47 #[.pointer (some ⟨b, 0, none⟩), .slice (some ⟨W.heap.size, 0, none⟩) 1 1] (W.alloc (Obj.cells #[str X] 9)) fun e w' => e = .returned (.tuple #[]) ∧ Wrote B b T X W w' := by
  have := put_row B b T [X] W h (by simpa using hlen) (by simp) hB
  simpa using this
theorem put_two (B b : Nat) (T X Y : List UInt8) (W : World) (h : IsWr B b T W) (hlen : T.length + (X ++ Y).length ≤ 140737488355328) (hB : B ≤ W.heap.size) :
    Calls Tryd.prog 47 #[.pointer (some ⟨b, 0, none⟩), .slice (some ⟨W.heap.size, 0, none⟩) 2 2] (W.alloc (Obj.cells #[str X, str Y] 9)) fun e w' => e = .returned (.tuple #[]) ∧ Wrote B b T (X ++ Y) W w' := by
  have := put_row B b T [X, Y] W h (by simpa using hlen) (by simp) hB
  simpa using this
theorem put_three (B b : Nat) (T X Y Z : List UInt8) (W : World) (h : IsWr B b T W) (hlen : T.length + (X ++ (Y ++ Z)).length ≤ 140737488355328) (hB : B ≤ W.heap.size) :
    Calls Tryd.prog 47 #[.pointer (some ⟨b, 0, none⟩), .slice (some ⟨W.heap.size, 0, none⟩) 3 3] (W.alloc (Obj.cells #[str X, str Y, str Z] 9)) fun e w' => e = .returned (.tuple #[]) ∧ Wrote B b T (X ++ (Y ++ Z)) W w' := by
  have := put_row B b T [X, Y, Z] W h (by simpa using hlen) (by simp) hB
  simpa using this

theorem name_any (n : Int) (h0 : 0 ≤ n) (h1 : n < 65536) (w : World) (hT : Tab w) :
    Calls Tryd.prog 110 #[.int .i64 n] w fun e w' => e = .returned (str (varI n).1) ∧ Below w.heap.size w w' := by
  have HI := hid (itoa_any n (by omega) (by omega) w hT)
  have hle := Lib.itoa_length_le n (by omega) (by omega)
  have HV : Hid ((varI n).1 = [120] ++ Lib.itoa n) := by show _ = _; unfold varI Lib.itoa; rw [if_neg (by omega)]; rfl
  obtain ⟨D, hD⟩ : ∃ D, D = Lib.itoa n := ⟨_, rfl⟩
  rw [← hD] at HI HV hle
  have hs := fun W => sum_text (A := [120]) (D := D) (W := W) (by simp; omega)
  clear hD hT
  rw [HV.out]
  go_enter Tryd.func110, Tryd.ntmps110
  go_wp2_with (go_at_call 48; refine HI.out.mono ?_; rintro e w1 ⟨rfl, b1⟩; have B1 := hid b1; clear b1)
  go_ret
  exact ⟨rfl, B1.out⟩
def boolT (b : Bool) : List UInt8 := if b = true then [116, 114, 117, 101] else [102, 97, 108, 115, 101]
theorem fbool_in (b : Bool) (w : World) : Calls Tryd.prog 136 #[.bool b] w fun e w' => e = .returned (str (boolT b)) ∧ w' = w := by
  cases b
  all_goals
    go_enter Tryd.func136, Tryd.ntmps136
    go_wp2
    go_ret
    exact ⟨rfl, rfl⟩
theorem fbool_any (b : Bool) (w : World) : Calls Tryd.prog 109 #[.bool b] w fun e w' => e = .returned (str (boolT b)) ∧ w' = w := by
  have H := fun W => hid (fbool_in b W)
  go_enter Tryd.func109, Tryd.ntmps109
  go_wp2_with (go_at_call 136; refine (H _).out.mono ?_; rintro e w1 ⟨rfl, rfl⟩)
  go_ret
  exact ⟨rfl, rfl⟩
def quantT (o : Int) : List UInt8 := if o = 4 then [101, 120, 105, 115, 116, 115] else [102, 111, 114, 97, 108, 108]
theorem quant_any (o : Int) (ho : o = 4 ∨ o = 5) (w : World) : Calls Tryd.prog 111 #[.int .i64 o] w fun e w' => e = .returned (str (quantT o)) ∧ w' = w := by
  rcases ho with rfl | rfl
  all_goals
    go_enter Tryd.func111, Tryd.ntmps111
    go_wp2
    go_ret
    exact ⟨rfl, rfl⟩
def signT (o : Int) : List UInt8 := if o = 6 then [38] else if o = 8 then [94] else if o = 7 then [124] else if o = 9 then [45, 62] else [60, 45, 62]
theorem sign_any (o : Int) (ho : two o = true) (w : World) : Calls Tryd.prog 113 #[.int .i64 o] w fun e w' => e = .returned (str (signT o)) ∧ w' = w := by
  rcases two_cases ho with rfl | rfl | rfl | rfl | rfl
  all_goals
    go_enter Tryd.func113, Tryd.ntmps113
    go_wp2
    go_ret
    exact ⟨rfl, rfl⟩

/-- the text of a tree without brackets around it. -/
abbrev bareX (t : Tr) (fol : Bool) : List UInt8 := textOf (t.its 0 (!fol))
/-- the text of a tree at a spot. -/
def operX (t : Tr) (least : Int) (fol : Bool) : List UInt8 := textOf (wrapI (brkT t least fol) (t.its 0 (brkT t least fol || !fol)))
def BareC (t : Tr) : Prop := ∀ (fol : Bool) (B b : Nat) (T : List UInt8) (w : World), IsWr B b T w → B ≤ w.heap.size → 3 ≤ B → Tab w → T.length + (bareX t fol).length ≤ 140737488355328 →
  Calls Tryd.prog 84 #[.pointer (some ⟨b, 0, none⟩), tv t, .bool fol] w fun e w' => e = .returned (.tuple #[]) ∧ Wrote B b T (bareX t fol) w w'
def OperC (t : Tr) : Prop := ∀ (least : Int) (fol : Bool) (B b : Nat) (T : List UInt8) (w : World), IsWr B b T w → B ≤ w.heap.size → 3 ≤ B → Tab w → T.length + (operX t least fol).length ≤ 140737488355328 →
  Calls Tryd.prog 58 #[.pointer (some ⟨b, 0, none⟩), tv t, spotV least fol] w fun e w' => e = .returned (.tuple #[]) ∧ Wrote B b T (operX t least fol) w w'

set_option maxHeartbeats 1000000 in
theorem oper_any (t : Tr) (ht : t.good) (H : BareC t) : OperC t := by
  intro least fol B b T w hw hB h3 hT hlen
  obtain ⟨WA, hWA⟩ : ∃ WA, WA = w.alloc (Obj.cells #[.int .i64 least, .bool fol] 106) := ⟨_, rfl⟩
  have hBA : Below w.heap.size w WA := by rw [hWA]; exact below_box _ _
  have r0 : WA.heap[w.heap.size]? = some (.cells #[.int .i64 least, .bool fol] 106 (0, 0)) := by rw [hWA]; exact heap_alloc_new w _
  have c0 := fun j => cell_row r0 j
  have HBR := hid (brackets_any t ht least fol WA)
  have HR0 := hid r0
  have HW := hid hw
  have HTB := hid hT
  have HBA := hid hBA
  have HWA := hid hWA
  obtain ⟨k, u, e⟩ := tv_form t
  rw [e] at HBR ⊢
  clear hWA hBA r0 hT hw
  cases hb : brkT t least fol with
  | true =>
    rw [hb] at HBR
    have HX : Hid (operX t least fol = [40] ++ (bareX t false ++ [41])) := by
      show _ = _
      unfold operX wrapI bareX textOf
      rw [hb, if_pos rfl]
      simp [openI, closeI]
    have hl2 := hlen
    rw [HX.out] at hl2
    simp only [List.length_append, List.length_cons, List.length_nil] at hl2
    have H84 : Hid (∀ W, IsWr B b (T ++ [40]) W → B ≤ W.heap.size → Tab W → Calls Tryd.prog 84 #[.pointer (some ⟨b, 0, none⟩), .iface k u, .bool false] W fun e w' => e = .returned (.tuple #[]) ∧ Wrote B b (T ++ [40]) (bareX t false) W w') := fun W h1 h2 h4 => by
      have := H false B b (T ++ [40]) W h1 h2 h3 h4 (by simp only [List.length_append, List.length_cons, List.length_nil]; omega)
      rwa [e] at this
    obtain ⟨X, hX⟩ : ∃ X, X = bareX t false := ⟨_, rfl⟩
    rw [← hX] at HX H84 hl2
    rw [HX.out]
    clear hX hb H hlen e ht
    go_enter Tryd.func58, Tryd.ntmps58
    go_wp2_with (first
      | (rw [← HWA.out])
      | (go_at_call 82; refine HBR.out.mono ?_; rintro e w1 ⟨rfl, b1⟩; have B1 := hid (HBA.out.trans (b1.mono HBA.out.size)); have HP1 := hid (put_one B b T [40] w1 (HW.out.on B1.out) (by simp; omega) (Nat.le_trans hB B1.out.size)); clear b1)
      | (have q := Q3; clear q; go_at_call 47; refine HP1.out.mono ?_; rintro e w2 ⟨rfl, q2⟩; have Q2 := hid q2; clear q2 HP1)
      | (go_at_call 47; refine HP1.out.mono ?_; rintro e w2 ⟨rfl, q2⟩; have Q2 := hid (Wrote.grow B1.out hB q2); have HC := hid (H84.out w2 Q2.out.is (Nat.le_trans hB Q2.out.low.size) (HTB.out.low Q2.out.low h3)); clear q2 HP1)
      | (go_at_call 84; refine HC.out.mono ?_; rintro e w3 ⟨rfl, q3⟩; have Q3 := hid (Q2.out.trans q3); have HP1 := hid (put_one B b (T ++ ([40] ++ X)) [41] w3 Q3.out.is (by simp; omega) (Nat.le_trans hB Q3.out.low.size)); clear q3 HC Q2))
    have R := Q3.out.trans Q2.out
    go_end0
    exact ⟨rfl, by simpa [List.append_assoc] using R⟩
  | false =>
    rw [hb] at HBR
    have HX : Hid (operX t least fol = bareX t fol) := by
      show _ = _
      unfold operX wrapI
      rw [hb]
      rfl
    have hl2 := hlen
    rw [HX.out] at hl2
    have H84 : Hid (∀ W, IsWr B b T W → B ≤ W.heap.size → Tab W → Calls Tryd.prog 84 #[.pointer (some ⟨b, 0, none⟩), .iface k u, .bool fol] W fun e w' => e = .returned (.tuple #[]) ∧ Wrote B b T (bareX t fol) W w') := fun W h1 h2 h4 => by
      have := H fol B b T W h1 h2 h3 h4 hl2
      rwa [e] at this
    rw [HX.out]
    clear hb H hlen e ht hl2
    go_enter Tryd.func58, Tryd.ntmps58
    go_wp2_with (first
      | (rw [← HWA.out])
      | (go_at_call 82; refine HBR.out.mono ?_; rintro e w1 ⟨rfl, b1⟩; have B1 := hid (HBA.out.trans (b1.mono HBA.out.size)); have r1 := (b1.block _ (Array.getElem?_eq_some_iff.1 HR0.out).1).trans HR0.out; have c1 := fun j => cell_row r1 j; have HC := hid (H84.out w1 (HW.out.on B1.out) (Nat.le_trans hB B1.out.size) (HTB.out.below B1.out)); clear b1 r1)
      | (go_at_call 84; refine HC.out.mono ?_; rintro e w3 ⟨rfl, q3⟩; have Q3 := hid (Wrote.grow B1.out hB q3); clear q3 HC))
    exact bodyPost_ret (results_none rfl _ _ _) rfl ⟨rfl, Q3.out⟩
end Go.Proofs.YtdkboifpdodonaaDoor
