import Derived.Test.YtcpncfngadablaaGreatDoorZ12
namespace Go.Proofs.YtcpncfngadablaaGreatDoor
open Go.RowKit Go.Deep

section
variable {w w' : World} {E : Nat → Addr} {lo p mf mt : Nat} {D : DiskC}

theorem DidIn.wrap {W w1 w2 : World} {A : PubA} {G : List Nat} (R : Rep w lo p mf mt D) (h1 : Touch [] w W) (h : DidIn W w1 lo p mf mt D A) (h2 : Touch G w1 w2) (hG : ∀ b ∈ G, w.heap.size ≤ b) : Did w w2 lo p mf mt D A := by
  obtain ⟨D', R', hp, hT, ht, hf⟩ := h
  refine ⟨D', R'.touch h2 ?_, hp, hT, ((h1.mono (by simp)).trans ht (fun b hb => .inl hb)).trans h2 (fun b hb => .inr (hG b hb)), fun b hb => .inl (by rw [hf] at hb; exact hb)⟩
  intro b hb hbG
  rw [hf] at hb
  have := R.lt b hb
  have := hG b hbG
  omega

theorem owns_touch {base e size : Nat} {F : List Nat} {v : Value} {n : Nat} {xs : List Value} (h : w.ownsRow base e size v n xs) (ht : Touch F w w') (hF : ∀ x, v.ownBlock = some x → x ∉ F) : w'.ownsRow base e size v n xs := by
  refine ⟨h.1, ?_⟩
  rcases h.2 with hn | ⟨g, cap, cur, rfl, hb, hg, rest⟩
  · exact .inl hn
  · exact .inr ⟨g, cap, cur, rfl, hb, kept_row hg ht (hF g rfl), rest⟩


theorem OwnB.touch {base m : Nat} {v : Value} {F : List Nat} (h : OwnB w base v m) (ht : Touch F w w') (hF : ∀ b ∈ F, v.ownBlock ≠ some b) : OwnB w' base v m := by
  obtain ⟨xs, ho, hx⟩ := h
  exact ⟨xs, owns_touch ho ht (fun b hb hm => hF b hm hb), hx⟩

theorem OwnB.lt {base m : Nat} {v : Value} (h : OwnB w base v m) : ∀ b ∈ v.ownBlock.toList, base ≤ b ∧ b < w.heap.size := by
  obtain ⟨xs, ho, _⟩ := h
  intro b hb
  exact ho.lt b (by simpa using hb)

theorem owns_lt {base e size n : Nat} {v : Value} {xs : List Value} (ho : w.ownsRow base e size v n xs) : ∀ b ∈ v.ownBlock.toList, base ≤ b ∧ b < w.heap.size := fun b hb => ho.lt b (by simpa using hb)

theorem Told1.own {n B : Nat} {o : Option (List UInt8)} {v : Value} (h : Told1 w n B o v) (hB : B ≤ 65536) : ∃ sb m, v = .slice sb m m ∧ m ≤ 65536 ∧ (o.getD []).length = m ∧ w.ownsRow n 5 1 v m (Lib.byteCells (o.getD [])) ∧ Shows w sb m m (o.getD []) := by
  cases o with
  | none => exact ⟨none, 0, h, by omega, rfl, by rw [show v = .slice none 0 0 from h]; exact World.ownsRow_nil _ _ _ _, ⟨rfl, Nat.le_refl _, fun h => by omega, fun _ => ⟨rfl, rfl⟩⟩⟩
  | some bl =>
    obtain ⟨g, rfl, hg, hb, hl⟩ := h
    have ho : w.ownsRow n 5 1 (sliceV g B) B (Lib.byteCells bl) := by
      refine ⟨by simp [Lib.byteCells_length, hl], .inr ⟨g, B, _, rfl, hg, hb, Nat.le_refl _, by unfold maxLen; omega, by simp [Lib.byteCells_length, hl], ?_⟩⟩
      rw [List.take_of_length_le (by simp [Lib.byteCells_length, hl])]
    exact ⟨some ⟨g, 0, none⟩, B, rfl, hB, hl, ho, ⟨hl, Nat.le_refl _, fun _ => ⟨_, rfl, lt_of_block hb, fun j v hv => ho.cells (g := g) rfl j v hv⟩, by simp⟩⟩

theorem prog4_rows {W w1 w2 w3 w4 w5 : World} {h m k : Nat} {x v v4 y : Value} {d : List Value} (r1 : w2.heap[h + 1]? = some (.cells zeroT 36 (0, 0))) (r2 : w2.heap[h + 1 + 1]? = some (.cells zeroT 36 (0, 0))) (ho : w1.ownsRow W.heap.size 5 1 v m d) (hz : W.heap.size = h + 3) (hz1 : W.heap.size ≤ w1.heap.size) (t12 : Touch [] w1 w2)
    (t3 : Touch v.ownBlock.toList ((w2.setCell ⟨h + 1 + 1, 0, none⟩ x).setCell ⟨h + 1 + 1, 3, none⟩ y) w3) (ho4 : OwnB w4 w3.heap.size v4 k) (b4 : Below w3.heap.size w3 w4) (t5 : Touch v4.ownBlock.toList w4 w5) :
    w5.heap[h + 1]? = some (.cells zeroT 36 (0, 0)) ∧ w5.heap[h + 1 + 1]? = some (.cells #[x, .int .i64 0, .bool false, y, .slice none 0 0, .int .i64 0, .int .i64 0, .int .i64 0, .int .i64 0, .int .i64 0, .int .i64 0, .int .i64 0] 36 (0, 0)) ∧ Touch ((h + 1 + 1) :: v.ownBlock.toList) w1 w5 ∧ (∀ e size u j d', w2.ownsRow w1.heap.size e size u j d' → w5.ownsRow w1.heap.size e size u j d') := by
  have hs3 := t3.size
  have hs2 := t12.size
  simp only [World.size_setCell] at hs3
  have g4 := ho4.lt
  have g1 := owns_lt ho
  have t34 := Touch.of_below (F := []) b4 (Nat.le_refl _)
  refine ⟨?_, ?_, ?_, ?_⟩
  · refine kept_row (kept_row (kept_row ?_ t3 fun hb => by have := g1 _ hb; omega) t34 (by simp)) t5 fun hb => by have := g4 _ hb; omega
    rw [Below.heap_setCell _ _ _ _ (by simp), Below.heap_setCell _ _ _ _ (by simp)]
    exact r1
  · refine kept_row (kept_row (kept_row ?_ t3 fun hb => by have := g1 _ hb; omega) t34 (by simp)) t5 fun hb => by have := g4 _ hb; omega
    refine (heap_setCell_row (heap_setCell_row r2 0 _) 3 _).trans ?_
    simp [zeroT]
  · refine ((((t12.mono (by simp)).trans (((Touch.refl [h + 1 + 1] w2).setCell (by simp) x).setCell (by simp) y) (by simp)).trans t3 (fun b hb => .inl (by simp [hb]))).trans t34 (by simp)).trans t5 (fun b hb => .inr (by have := g4 b hb; omega))
  · intro e size u j d' hu
    have gu := owns_lt hu
    refine owns_touch (owns_touch (owns_touch (owns_touch hu (((Touch.refl [h + 1 + 1] w2).setCell (by simp) x).setCell (by simp) y) ?_) t3 ?_) t34 (by simp)) t5 ?_
    · intro b hb hm
      have := gu b (by simp [hb])
      simp at hm
      omega
    · intro b hb hm
      have := gu b (by simp [hb])
      have := g1 b hm
      omega
    · intro b hb hm
      have := gu b (by simp [hb])
      have := g4 b hm
      omega

theorem owns_base {base base' e size n : Nat} {v : Value} {xs : List Value} (h : w.ownsRow base e size v n xs) (hb : base' ≤ base) : w.ownsRow base' e size v n xs := by
  refine ⟨h.1, ?_⟩
  rcases h.2 with hn | ⟨g, cap, cur, rfl, hb', rest⟩
  · exact .inl hn
  · exact .inr ⟨g, cap, cur, rfl, by omega, rest⟩

set_option maxRecDepth 100000 in
set_option maxHeartbeats 600000 in
theorem program_4 (V : Env w lo E) (R : Rep w lo p mf mt D) (hT : D.T = .map []) (ho : D.on = true) (hS : Small D.pub) (s : ByteArray) (N bit : Int) (sa : Option Addr) (n c : Nat) :
    Calls Tryz.prog 8 #[ptr p, opV 4 s N bit sa n c, .int .i64 D.B] w fun e w' => ∃ v, e = .returned (.tuple #[v, .bool true]) ∧ ToldAt w' w.heap.size ⟨(readA s N D.pub).2.1, 0, false, (readA s N D.pub).1.getD [], [], cnt0⟩ v ∧ Did w w' lo p mf mt D (readA s N D.pub).2.2 := by
  obtain ⟨W, hW⟩ : ∃ W, W = startW w #[.int .i64 4, .string s, .int .i64 N, .int .i64 bit, .slice sa n c] := ⟨_, rfl⟩
  have ST : Start w W _ := hW ▸ start_ok w _
  have HE := hid hW
  unfold startW zeroT at HE
  have V' := V.touch ST.touch (by simp)
  have R' := R.touch ST.touch (by simp)
  have HC := hid (Read_any V' R' hT ho hS s N)
  have hB := hS.size.2
  simp only [DiskC.pub] at hB
  have hnf : ∀ b, w.heap.size ≤ b → b ∉ D.foot p mf mt := fun b hb hm => by have := R.lt b hm; omega
  have HR := hid R
  have HST := hid ST
  have hWz := ST.size
  clear hW V R hT ho hS ST V' R'
  unfold opV
  go_enter Tryz.func8, Tryz.ntmps8
  go_wp2_with (first
    | (go_at_call 24; refine (blot_own HOB4.out (by omega)).mono ?_; rintro e w5 ⟨rfl, hob5, ht5⟩; have hrows := prog4_rows HR1'.out HR2'.out HOWN.out hWz HZ1.out HT12.out HT3.out HOB4.out HB4.out ht5; have c1 := fun i => cell_row hrows.1 i; have c2 := fun i => cell_row hrows.2.1 i; have f1 := fun i => unfrozen_row hrows.1 i; have f2 := fun i => unfrozen_row hrows.2.1 i; unfold zeroT at c1; have HROWS := hid hrows; have HT5 := hid ht5; clear hrows hob5 ht5)
    | (at_builtin; obtain ⟨v4, w4, hr4, hob4, hb4⟩ := run_append_100 31 HOB3.out hm; refine Lib.wpList_append_run _ rfl _ _ _ _ rfl _ _ rfl rfl _ _ hr4 ?_; have HOB4 := hid hob4; have HB4 := hid hb4; clear hr4 hob4 hb4)
    | (go_at_call 24; refine (blot_own (HX.out _ _) (by omega)).mono ?_; rintro e w3 ⟨rfl, hob3, ht3⟩; have HOB3 := hid hob3; have HT3 := hid ht3; clear hob3 ht3 c2 f2)
    | (at_builtin; refine wpList_append_copy _ rfl _ rfl sb m m _ rfl HSH.out (by omega) ?_; intro v2 w2 ho2 hb2; have t12 := Touch.of_below (F := []) hb2 (Nat.le_refl _); have r1 := kept_row HR1.out t12 (by simp); have r2 := kept_row HR2.out t12 (by simp); have c2 := fun i => cell_row r2 i; have f2 := fun i => unfrozen_row r2 i; unfold zeroT at c2; obtain ⟨sd, cd, rfl, _, _⟩ := shows_own ho2; have HX : Hid (∀ x y, OwnB ((w2.setCell ⟨w.heap.size + 1 + 1, 0, none⟩ x).setCell ⟨w.heap.size + 1 + 1, 3, none⟩ y) W.heap.size (.slice sb m m) m) := hid (fun x y => ((OwnB.of HOWN.out).touch t12 (by simp)).touch (((Touch.refl [w.heap.size + 1 + 1] w2).setCell (by simp) x).setCell (by simp) y) (fun b hb e => by have h3 := owns_lt HOWN.out b (by simp [e]); simp at hb; omega)); have HO2 := hid ho2; have HB2 := hid hb2; have HT12 := hid t12; have HR1' := hid r1; have HR2' := hid r2; clear ho2 hb2 t12 r1 r2)
    | (rw [← HE.out]; go_at_call 28; refine HC.out.mono ?_; rintro e w1 ⟨v, rfl, h1, hd⟩; have r1 := kept_row HST.out.res hd.choose_spec.2.2.2.1 (hnf _ (by omega)); have r2 := kept_row HST.out.told hd.choose_spec.2.2.2.1 (hnf _ (by omega)); have z1 := hd.choose_spec.2.2.2.1.size; obtain ⟨sb, m, rfl, hm, hlen, hown, hsh⟩ := h1.own hB; have HOWN := hid hown; have HD := hid hd; have HR1 := hid r1; have HR2 := hid r2; have HZ1 := hid z1; have HLEN := hid hlen; have HSH := hid hsh; clear hsh; clear hd r1 r2 hown h1 z1 hlen))
  obtain ⟨W2, hW2, q, t2⟩ := prog_end HROWS.out.1 (readA s N D.pub).2.1 0 false (.slice sd m cd) (.slice none 0 0) cnt0
  simp only [cnt0] at hW2 q
  rw [← hW2]
  clear hW2 c1 c2 f1 f2
  refine bodyPost_ret (v := .tuple #[toldV (readA s N D.pub).2.1 0 false (.slice sd m cd) (.slice none 0 0) cnt0, .bool true]) (by simp [results, Tryz.results8, go_sem, q, toldV, cnt0]) rfl ⟨_, rfl, ⟨_, _, rfl, ?_, World.ownsRow_nil _ _ _ _⟩, ?_⟩
  · have hz1 := HZ1.out
    have ho5 := HROWS.out.2.2.2 _ _ _ _ _ HO2.out
    have hl := HLEN.out
    show W2.ownsRow w.heap.size 5 1 (.slice sd m cd) ((readA s N D.pub).1.getD []).length _
    rw [hl]
    exact owns_base (owns_touch ho5 t2 (fun b hb hm => by have := owns_lt ho5 b (by simp [hb]); simp at hm; omega)) (by omega)
  · refine HD.out.wrap HR.out HST.out.touch ((HROWS.out.2.2.1.mono (G := (w.heap.size + 1) :: (w.heap.size + 1 + 1) :: (Value.slice sb m m).ownBlock.toList) (fun b hb => List.mem_cons_of_mem _ hb)).trans t2 (by simp)) ?_
    intro b hb
    have g1 := owns_lt HOWN.out b
    simp only [List.mem_cons] at hb
    rcases hb with h | h | h
    · omega
    · omega
    · have := g1 h
      omega
end
end Go.Proofs.YtcpncfngadablaaGreatDoor
namespace Go.Proofs.YtcpncfngadablaaGreatDoor
open Go.RowKit Go.Deep

theorem Tryz.info9 : (Tryz.prog.info? 9).map (fun i => (i.zero, i.size, i.bytes)) = some (some (.string ⟨#[]⟩), 1, 16) := by kernel_rfl

section
variable {w w' : World} {E : Nat → Addr} {lo p mf mt : Nat} {D : DiskC}

theorem enc_one (ss : List (List UInt8)) : ∀ u ∈ ss.map encStr, u.oneCell' = true := by
  intro u hu
  obtain ⟨x, _, rfl⟩ := List.mem_map.1 hu
  rfl

/-- 'append([]string(nil), s...)'. -/
theorem run_append_names (ty : TypeId) (w : World) {base n : Nat} {v : Value} {ss : List (List UInt8)} (h : w.ownsRow base 9 1 v n (ss.map encStr)) (hn : n ≤ 1099511627776) :
    ∃ v' w', (Builtin.append_ #[32, 32] ty #[.slice none 0 0, v]).run Tryz.prog w = .ok v' w' ∧ w'.ownsRow w.heap.size 9 1 v' n (ss.map encStr) ∧ Below w.heap.size w w' := by
  obtain ⟨i, hi, hz0, hz1, hz2⟩ := info_parts Tryz.info9
  rcases h.2 with ⟨rfl, rfl⟩ | ⟨g, cap, cur, rfl, hb, hg, hc, hcm, hcs, ht⟩
  · have hs : ss = [] := List.eq_nil_of_length_eq_zero (by simpa using h.1)
    subst hs
    refine ⟨.slice none 0 0, w, ?_, World.ownsRow_nil _ _ _ _, Below.refl _ _⟩
    simp [Builtin.append_, run_underlying Tryz.underlying32, sizeOf, typeInfo, hi, Builtin.lenOf, Builtin.firstCells]
  · obtain ⟨v', w', hr, ho, hgr, _⟩ := run_append_own (P := Tryz.prog) w w.heap.size 32 ty 9 i _ 1 16 Tryz.underlying32 hi hz0 hz1 hz2 rfl (by decide) (.slice none 0 0) 0 [] (World.ownsRow_nil _ _ _ _) ⟨g, 0, none⟩ n cap (ss.map encStr) h.1 (fun j u hu => h.cells (g := g) rfl j u hu) (enc_one ss) (by unfold maxLen; omega) (by omega) (Nat.le_refl _)
    refine ⟨v', w', hr, ?_, (Below.refl _ w).grown hgr (Nat.le_refl _) (by simp [Value.ownBlock])⟩
    simpa using ho

theorem wpList_append_two (w : World) {ops : Array Oper} {rest : List Oper} {o : Oper} {a : Act} {Q : Exit → Act → World → Prop} (hgd : o.guard = none) (s x : Operand)
    (hop : o.op = Op.call { callee := Callee.builtin Builtin.append, args := #[s, x], argTypes := #[32, 32] })
    (base : Nat) (v : Value) (n : Nat) (xs : List Value) (ad : Addr) (t : ByteArray) (hs : a.eval s = v) (hx : a.eval x = .slice (some ad) 2 2) (hown : w.ownsRow base 9 1 v n xs) (hu : ∀ i, i < 2 → w.cell? (ad.add i) = some (.string t)) (hn : n ≤ 1099511627776) (hb : base ≤ w.heap.size)
    (hK : ∀ v' w', w.grownBy w' v.ownBlock → wpList Tryz.prog ops Q rest (a.put o.dst v') w') : wpList Tryz.prog ops Q (o :: rest) a w := by
  refine wpList_plain hgd fun K' hK' => ?_
  obtain ⟨i, hi, hz0, hz1, hz2⟩ := info_parts Tryz.info9
  have hnews : ∀ j u, [Value.string t, Value.string t][j]? = some u → w.cell? (ad.add j) = some u := by
    intro j u hu'
    match j, hu' with
    | 0, e => simp at e; rw [← e]; exact hu 0 (by omega)
    | 1, e => simp at e; rw [← e]; exact hu 1 (by omega)
  obtain ⟨v', w', hrun, _, hg, _⟩ := run_append_own (P := Tryz.prog) w base 32 o.type 9 i _ 1 16 Tryz.underlying32 hi hz0 hz1 hz2 rfl (by decide) v n _ hown ad 2 2 [.string t, .string t] rfl hnews (by simp [Value.oneCell']) (by unfold maxLen; omega) (by omega) hb
  unfold Oper.wp
  simp [execOp, hop, resolve, invoke, builtin, hs, hx, hrun, Result.andThen]
  exact hK' _ _ (hK v' w' hg)

/-- a row of one's own, one cell of it written. -/
theorem owns_set {base e n k g cap : Nat} {xs : List Value} (h : w.ownsRow base e 1 (.slice (some ⟨g, 0, none⟩) n cap) n xs) (u : Value) : ∃ xs', (w.setCell ⟨g, k, none⟩ u).ownsRow base e 1 (.slice (some ⟨g, 0, none⟩) n cap) n xs' := by
  rcases h.2 with ⟨e, _⟩ | ⟨g', cap', cur, e, hb, hg, hc, hcm, hcs, ht⟩
  · simp at e
  · simp only [Value.slice.injEq, Option.some.injEq, Addr.mk.injEq] at e
    obtain ⟨⟨rfl, _⟩, _, rfl⟩ := e
    exact ⟨_, ⟨by simp; omega, .inr ⟨g, cap, _, rfl, hb, heap_setCell_row hg k u, hc, hcm, by simpa using hcs, rfl⟩⟩⟩

theorem owns_at {base e n k g cap : Nat} {xs : List Value} (h : w.ownsRow base e 1 (.slice (some ⟨g, 0, none⟩) n cap) n xs) (hk : k < n) : ∃ u, w.cell? ⟨g, k, none⟩ = some u ∧ w.frozen? ⟨g, k, none⟩ = false := by
  rcases h.2 with ⟨e, _⟩ | ⟨g', cap', cur, e, hb, hg, hc, hcm, hcs, ht⟩
  · simp at e
  · simp only [Value.slice.injEq, Option.some.injEq, Addr.mk.injEq] at e
    obtain ⟨⟨rfl, _⟩, _, rfl⟩ := e
    exact ⟨cur[k]'(by omega), by rw [cell_row hg k]; exact Array.getElem?_eq_getElem (by omega), unfrozen_row hg k⟩

theorem owns_form {base e n : Nat} {v : Value} {xs : List Value} (h : w.ownsRow base e 1 v n xs) : ∃ sd cd, v = .slice sd n cd ∧ n ≤ cd ∧ (0 < n → ∃ g, sd = some ⟨g, 0, none⟩) := by
  rcases h.2 with ⟨e, e2⟩ | ⟨g, cap, _, e, _, _, hc, _⟩
  · exact ⟨none, 0, by rw [e, e2], by omega, by omega⟩
  · exact ⟨_, _, e, hc, fun _ => ⟨g, rfl⟩⟩

theorem prog7_rows {W w1 w2 w3 w4 : World} {h L : Nat} {v y : Value} {d : List Value} {o : Obj} (r1 : w1.heap[h + 1]? = some (.cells zeroT 36 (0, 0))) (r2 : w1.heap[h + 1 + 1]? = some (.cells zeroT 36 (0, 0))) (ho : w1.ownsRow W.heap.size 9 1 v L d) (hz : W.heap.size = h + 3) (t12 : Touch [] w1 w2)
    (t3 : Touch v.ownBlock.toList (w2.setCell ⟨h + 1 + 1, 4, none⟩ y) w3) (g4 : (w3.alloc o).grownBy w4 v.ownBlock) :
    w4.heap[h + 1]? = some (.cells zeroT 36 (0, 0)) ∧ w4.heap[h + 1 + 1]? = some (.cells #[.int .i64 0, .int .i64 0, .bool false, .slice none 0 0, y, .int .i64 0, .int .i64 0, .int .i64 0, .int .i64 0, .int .i64 0, .int .i64 0, .int .i64 0] 36 (0, 0)) ∧ Touch ((h + 1 + 1) :: v.ownBlock.toList) w1 w4 ∧ (∀ e size u j d', w2.ownsRow w1.heap.size e size u j d' → h + 3 ≤ w1.heap.size → w4.ownsRow w1.heap.size e size u j d') := by
  have g1 := owns_lt ho
  have t4 : Touch v.ownBlock.toList w3 w4 := ((Touch.refl _ w3).alloc o).grown g4 (fun k hk => .inl (by simp [hk]))
  refine ⟨?_, ?_, ?_, ?_⟩
  · refine kept_row (kept_row ?_ t3 fun hb => by have := g1 _ hb; omega) t4 fun hb => by have := g1 _ hb; omega
    rw [Below.heap_setCell _ _ _ _ (by simp)]
    exact kept_row r1 t12 (by simp)
  · refine kept_row (kept_row ?_ t3 fun hb => by have := g1 _ hb; omega) t4 fun hb => by have := g1 _ hb; omega
    refine (heap_setCell_row (kept_row r2 t12 (by simp)) 4 _).trans ?_
    simp [zeroT]
  · exact (((t12.mono (by simp)).trans ((Touch.refl [h + 1 + 1] w2).setCell (by simp) y) (by simp)).trans t3 (fun b hb => .inl (by simp [hb]))).trans t4 (fun b hb => .inl (by simp [hb]))
  · intro e size u j d' hu hh
    have gu := owns_lt hu
    refine owns_touch (owns_touch (owns_touch hu ((Touch.refl [h + 1 + 1] w2).setCell (by simp) y) ?_) t3 ?_) t4 ?_
    · intro b hb hm
      have := gu b (by simp [hb])
      simp at hm
      omega
    · intro b hb hm
      have := gu b (by simp [hb])
      have := g1 b hm
      omega
    · intro b hb hm
      have := gu b (by simp [hb])
      have := g1 b hm
      omega

set_option maxRecDepth 100000 in
set_option maxHeartbeats 600000 in
theorem program_7 (R : Rep w lo p mf mt D) (hT : D.T = .map []) (ho : D.on = true) (hS : Small D.pub) (s : ByteArray) (N bit : Int) (sa : Option Addr) (n c : Nat) :
    Calls Tryz.prog 8 #[ptr p, opV 7 s N bit sa n c, .int .i64 D.B] w fun e w' => ∃ v, e = .returned (.tuple #[v, .bool true]) ∧ ToldAt w' w.heap.size ⟨0, 0, false, [], D.ents.map Ent.name, cnt0⟩ v ∧ Did w w' lo p mf mt D D.pub := by
  obtain ⟨W, hW⟩ : ∃ W, W = startW w #[.int .i64 7, .string s, .int .i64 N, .int .i64 bit, .slice sa n c] := ⟨_, rfl⟩
  have ST : Start w W _ := hW ▸ start_ok w _
  have HE := hid hW
  unfold startW zeroT at HE
  have R' := R.touch ST.touch (by simp)
  have hlen : D.ents.length ≤ 1099511627776 := by
    have := hS.files
    simpa [DiskC.pub] using this
  have HC := hid (Names_any R' ho hlen)
  have HR := hid R
  have HR' := hid R'
  have HT := hid hT
  have HST := hid ST
  have hWz := ST.size
  clear hW R hT ho hS ST R'
  unfold opV
  go_enter Tryz.func8, Tryz.ntmps8
  go_wp2_with (first
    | (at_builtin; obtain ⟨v2, w2, hr2, ho2, hb2⟩ := run_append_names 32 w1 HOWN.out hlen; refine Lib.wpList_append_run _ rfl _ _ _ _ rfl _ _ rfl rfl _ _ hr2 ?_; have t12 := Touch.of_below (F := []) hb2 (Nat.le_refl _); have r2 := kept_row HR2.out t12 (by simp); have c2 := fun i => cell_row r2 i; have f2 := fun i => unfrozen_row r2 i; unfold zeroT at c2; obtain ⟨sd, cd, rfl⟩ : ∃ sd cd, v2 = .slice sd D.ents.length cd := (by rcases ho2.2 with ⟨e, e2⟩ | ⟨g, cap, _, e, _⟩; exact ⟨none, 0, by rw [e, e2]⟩; exact ⟨_, _, e⟩); have HO2 := hid ho2; have HT12 := hid t12; have HR2' := hid r2; clear ho2 hb2 hr2 t12 r2)
    | (rw [← HE.out]; go_at_call 30; refine HC.out.mono ?_; rintro e w1 ⟨v, rfl, hown, _, hb⟩; have t1 := Touch.of_below (F := []) hb (Nat.le_refl _); have r1 := kept_row HST.out.res t1 (by simp); have r2 := kept_row HST.out.told t1 (by simp); have HT1 := hid t1; have HOWN := hid hown; have HR1 := hid r1; have HR2 := hid r2; clear hown hb t1 r1 r2))
  clear c2 f2
  have HST0 : Hid (∀ x, ∃ xs, (w2.setCell ⟨w.heap.size + 1 + 1, 4, none⟩ x).ownsRow W.heap.size 9 1 v D.ents.length xs) := hid fun x => ⟨_, owns_touch (owns_touch HOWN.out HT12.out (by simp)) ((Touch.refl [w.heap.size + 1 + 1] w2).setCell (by simp) x) (fun b hb hm => by have h3 := owns_lt HOWN.out b (by simp [hb]); simp at hm; omega)⟩
  go_loopw [14] (fun i wr => ∃ k : Nat, k ≤ D.ents.length ∧ i = .int .i64 k ∧ (∃ xs, wr.ownsRow W.heap.size 9 1 v D.ents.length xs) ∧ Touch v.ownBlock.toList (w2.setCell ⟨w.heap.size + 1 + 1, 4, none⟩ (.slice sd D.ents.length cd)) wr) (fun i _ => D.ents.length - (intOf i).toNat)
  case atStart => exact ⟨0, Nat.zero_le _, rfl, HST0.out _, Touch.refl _ _⟩
  case round =>
    obtain ⟨k, hk, rfl, ⟨xs, hxs⟩, ht⟩ := hrel
    obtain ⟨sv, cv, rfl, hcv, hsv⟩ := owns_form hxs
    have HX := hid hxs
    have HTT := hid ht
    have HSV := hid hsv
    clear hxs ht hsv
    by_cases hlt : k < D.ents.length
    · obtain ⟨g, rfl⟩ := HSV.out (by omega)
      obtain ⟨u, hu, hfz⟩ := owns_at HX.out hlt
      go_wp2
      refine ⟨⟨k + 1, by omega, by go_num, owns_set HX.out _, HTT.out.setCell (by simp [Value.ownBlock]) _⟩, by simp [intOf]; omega⟩
    · go_wp2_with (first
        | (at_builtin; refine wpList_append_two _ rfl _ _ rfl W.heap.size _ D.ents.length xs ⟨wr.heap.size, 0, none⟩ ⟨#[98, 108, 111, 116]⟩ rfl rfl (HX.out.alloc _) ?h1 hlen ?h2 ?_; rotate_left 2; intro v4 w4 hg4; have hrows := prog7_rows HR1.out HR2.out HOWN.out hWz HT12.out HTT.out hg4; have c1 := fun i => cell_row hrows.1 i; have c2 := fun i => cell_row hrows.2.1 i; have f1 := fun i => unfrozen_row hrows.1 i; have f2 := fun i => unfrozen_row hrows.2.1 i; unfold zeroT at c1; have HROWS := hid hrows; clear hrows hg4))
      case h1 =>
        intro i hi
        have hrow := heap_alloc_new wr (.cells #[.string ⟨#[98, 108, 111, 116]⟩, .string ⟨#[98, 108, 111, 116]⟩] 9)
        have hadd : (⟨wr.heap.size, 0, none⟩ : Addr).add i = ⟨wr.heap.size, i, none⟩ := by unfold Addr.add; split <;> simp_all
        rw [hadd]
        refine (cell_row hrow i).trans ?_
        match i, hi with
        | 0, _ => rfl
        | 1, _ => rfl
      case h2 =>
        have h1 := HT1.out.size
        have h2 := HT12.out.size
        have h3 := HTT.out.size
        simp only [World.size_setCell] at h3
        simp only [World.size_alloc]
        omega
      have z1 := HT1.out.size
      obtain ⟨W2, hW2, q, t2⟩ := prog_end HROWS.out.1 0 0 false (.slice none 0 0) (.slice sd D.ents.length cd) cnt0
      simp only [cnt0] at hW2 q
      rw [← hW2]
      clear hW2 c1 c2 f1 f2
      refine bodyPost_ret (v := .tuple #[toldV 0 0 false (.slice none 0 0) (.slice sd D.ents.length cd) cnt0, .bool true]) (by simp [results, Tryz.results8, go_sem, q, toldV, cnt0]) rfl ⟨_, rfl, ⟨_, _, rfl, World.ownsRow_nil _ _ _ _, ?_⟩, ?_⟩
      · have ho5 := HROWS.out.2.2.2 _ _ _ _ _ HO2.out (by omega)
        show W2.ownsRow w.heap.size 9 1 (.slice sd D.ents.length cd) (D.ents.map Ent.name).length _
        rw [List.length_map]
        exact owns_base (owns_touch ho5 t2 (fun b hb hm => by have := owns_lt ho5 b (by simp [hb]); simp at hm; omega)) (by omega)
      · refine DidIn.wrap (W := W) (w1 := w1) HR.out HST.out.touch ⟨D, HR'.out.touch HT1.out (by simp), rfl, HT.out, HT1.out.mono (by simp), rfl⟩ ((HROWS.out.2.2.1.mono (G := (w.heap.size + 1) :: (w.heap.size + 1 + 1) :: (Value.slice sv D.ents.length cv).ownBlock.toList) (fun b hb => List.mem_cons_of_mem _ hb)).trans t2 (by simp)) ?_
        intro b hb
        have g1 := owns_lt HOWN.out b
        simp only [List.mem_cons] at hb
        rcases hb with h | h | h
        · omega
        · omega
        · have := g1 h
          omega
end
end Go.Proofs.YtcpncfngadablaaGreatDoor
