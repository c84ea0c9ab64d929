import Derived.Test.YtcpncfngadablaaDoorE3
namespace Go.Proofs.YtcpncfngadablaaDoor
open Go.RowKit Go.Deep

section
variable {w w' : World} {E : Nat → Addr} {lo p mf mt : Nat} {D : DiskC}

theorem DidIn.wrap {W w1 w2 : World} {A : PubA} {G : List Nat} (R : Rep w lo p mf mt D) (h1 : Touch [] w W) (h : DidIn W w1 lo p mf mt D A) (h2 : Touch G w1 w2) (hG : ∀ b ∈ G, w.heap.size ≤ b) : Did w w2 lo p mf mt D A := by
  obtain ⟨D', R', hp, hT, ht, hf⟩ := h
  refine ⟨D', R'.touch h2 ?_, hp, hT, ((h1.mono (by simp)).trans ht (fun b hb => .inl hb)).trans h2 (fun b hb => .inr (hG b hb)), fun b hb => .inl (by rw [hf] at hb; exact hb)⟩
  intro b hb hbG
  rw [hf] at hb
  have := R.lt b hb
  have := hG b hbG
  omega

theorem owns_touch {base e size : Nat} {F : List Nat} {v : Value} {n : Nat} {xs : List Value} (h : w.ownsRow base e size v n xs) (ht : Touch F w w') (hF : ∀ x, v.ownBlock = some x → x ∉ F) : w'.ownsRow base e size v n xs := by
  refine ⟨h.1, ?_⟩
  rcases h.2 with hn | ⟨g, cap, cur, rfl, hb, hg, rest⟩
  · exact .inl hn
  · exact .inr ⟨g, cap, cur, rfl, hb, kept_row hg ht (hF g rfl), rest⟩

theorem owns_below {base e size B : Nat} {v : Value} {n : Nat} {xs : List Value} (h : w.ownsRow base e size v n xs) (hb : Below B w w') (hB : w.heap.size ≤ B) : w'.ownsRow base e size v n xs :=
  owns_touch h (Touch.of_below (F := []) hb hB) (by simp)

theorem OwnB.touch {base m : Nat} {v : Value} {F : List Nat} (h : OwnB w base v m) (ht : Touch F w w') (hF : ∀ b ∈ F, v.ownBlock ≠ some b) : OwnB w' base v m := by
  obtain ⟨xs, ho, hx⟩ := h
  exact ⟨xs, owns_touch ho ht (fun b hb hm => hF b hm hb), hx⟩

theorem OwnB.lt {base m : Nat} {v : Value} (h : OwnB w base v m) : ∀ b ∈ v.ownBlock.toList, base ≤ b ∧ b < w.heap.size := by
  obtain ⟨xs, ho, _⟩ := h
  intro b hb
  exact ho.lt b (by simpa using hb)

theorem owns_lt {base e size n : Nat} {v : Value} {xs : List Value} (ho : w.ownsRow base e size v n xs) : ∀ b ∈ v.ownBlock.toList, base ≤ b ∧ b < w.heap.size := fun b hb => ho.lt b (by simpa using hb)

theorem Told1.own {n B : Nat} {o : Option (List UInt8)} {v : Value} (h : Told1 w n B o v) (hB : B ≤ 65536) : ∃ sb m, v = .slice sb m m ∧ m ≤ 65536 ∧ (o.getD []).length = m ∧ w.ownsRow n 5 1 v m (Lib.byteCells (o.getD [])) ∧ Shows w sb m m (o.getD []) := by
  cases o with
  | none => exact ⟨none, 0, h, by omega, rfl, by rw [show v = .slice none 0 0 from h]; exact World.ownsRow_nil _ _ _ _, ⟨rfl, Nat.le_refl _, fun h => by omega, fun _ => ⟨rfl, rfl⟩⟩⟩
  | some bl =>
    obtain ⟨g, rfl, hg, hb, hl⟩ := h
    have ho : w.ownsRow n 5 1 (sliceV g B) B (Lib.byteCells bl) := by
      refine ⟨by simp [Lib.byteCells_length, hl], .inr ⟨g, B, _, rfl, hg, hb, Nat.le_refl _, by unfold maxLen; omega, by simp [Lib.byteCells_length, hl], ?_⟩⟩
      rw [List.take_of_length_le (by simp [Lib.byteCells_length, hl])]
    exact ⟨some ⟨g, 0, none⟩, B, rfl, hB, hl, ho, ⟨hl, Nat.le_refl _, fun _ => ⟨_, rfl, lt_of_block hb, fun j v hv => ho.cells (g := g) rfl j v hv⟩, by simp⟩⟩

theorem prog4_rows {W w1 w2 w3 w4 w5 : World} {h m k : Nat} {x v v4 y : Value} {d : List Value} (r1 : w2.heap[h + 1]? = some (.cells zeroT 36 (0, 0))) (r2 : w2.heap[h + 1 + 1]? = some (.cells zeroT 36 (0, 0))) (ho : w1.ownsRow W.heap.size 5 1 v m d) (hz : W.heap.size = h + 3) (hz1 : W.heap.size ≤ w1.heap.size) (t12 : Touch [] w1 w2)
    (t3 : Touch v.ownBlock.toList ((w2.setCell ⟨h + 1 + 1, 0, none⟩ x).setCell ⟨h + 1 + 1, 3, none⟩ y) w3) (ho4 : OwnB w4 w3.heap.size v4 k) (b4 : Below w3.heap.size w3 w4) (t5 : Touch v4.ownBlock.toList w4 w5) :
    w5.heap[h + 1]? = some (.cells zeroT 36 (0, 0)) ∧ w5.heap[h + 1 + 1]? = some (.cells #[x, .int .i64 0, .bool false, y, .slice none 0 0, .int .i64 0, .int .i64 0, .int .i64 0, .int .i64 0, .int .i64 0, .int .i64 0, .int .i64 0] 36 (0, 0)) ∧ Touch ((h + 1 + 1) :: v.ownBlock.toList) w1 w5 ∧ (∀ e size u j d', w2.ownsRow w1.heap.size e size u j d' → w5.ownsRow w1.heap.size e size u j d') := by
  have hs3 := t3.size
  have hs2 := t12.size
  simp only [World.size_setCell] at hs3
  have g4 := ho4.lt
  have g1 := owns_lt ho
  have t34 := Touch.of_below (F := []) b4 (Nat.le_refl _)
  refine ⟨?_, ?_, ?_, ?_⟩
  · refine kept_row (kept_row (kept_row ?_ t3 fun hb => by have := g1 _ hb; omega) t34 (by simp)) t5 fun hb => by have := g4 _ hb; omega
    rw [Below.heap_setCell _ _ _ _ (by simp), Below.heap_setCell _ _ _ _ (by simp)]
    exact r1
  · refine kept_row (kept_row (kept_row ?_ t3 fun hb => by have := g1 _ hb; omega) t34 (by simp)) t5 fun hb => by have := g4 _ hb; omega
    refine (heap_setCell_row (heap_setCell_row r2 0 _) 3 _).trans ?_
    simp [zeroT]
  · refine ((((t12.mono (by simp)).trans (((Touch.refl [h + 1 + 1] w2).setCell (by simp) x).setCell (by simp) y) (by simp)).trans t3 (fun b hb => .inl (by simp [hb]))).trans t34 (by simp)).trans t5 (fun b hb => .inr (by have := g4 b hb; omega))
  · intro e size u j d' hu
    have gu := owns_lt hu
    refine owns_touch (owns_touch (owns_touch (owns_touch hu (((Touch.refl [h + 1 + 1] w2).setCell (by simp) x).setCell (by simp) y) ?_) t3 ?_) t34 (by simp)) t5 ?_
    · intro b hb hm
      have := gu b (by simp [hb])
      simp at hm
      omega
    · intro b hb hm
      have := gu b (by simp [hb])
      have := g1 b hm
      omega
    · intro b hb hm
      have := gu b (by simp [hb])
      have := g4 b hm
      omega

theorem owns_base {base base' e size n : Nat} {v : Value} {xs : List Value} (h : w.ownsRow base e size v n xs) (hb : base' ≤ base) : w.ownsRow base' e size v n xs := by
  refine ⟨h.1, ?_⟩
  rcases h.2 with hn | ⟨g, cap, cur, rfl, hb', rest⟩
  · exact .inl hn
  · exact .inr ⟨g, cap, cur, rfl, by omega, rest⟩

set_option maxRecDepth 100000 in
set_option maxHeartbeats 600000 in
theorem program_4 (V : Env w lo E) (R : Rep w lo p mf mt D) (hT : D.T = .map []) (ho : D.on = true) (hS : Small D.pub) (s : ByteArray) (N bit : Int) (sa : Option Addr) (n c : Nat) :
    Calls Tryd.prog 7 #[ptr p, opV 4 s N bit sa n c, .int .i64 D.B] w fun e w' => ∃ v, e = .returned (.tuple #[v, .bool true]) ∧ ToldAt w' w.heap.size ⟨(readA s N D.pub).2.1, 0, false, (readA s N D.pub).1.getD [], [], cnt0⟩ v ∧ Did w w' lo p mf mt D (readA s N D.pub).2.2 := by
  obtain ⟨W, hW⟩ : ∃ W, W = startW w #[.int .i64 4, .string s, .int .i64 N, .int .i64 bit, .slice sa n c] := ⟨_, rfl⟩
  have ST : Start w W _ := hW ▸ start_ok w _
  have HE := hid hW
  unfold startW zeroT at HE
  have V' := V.touch ST.touch (by simp)
  have R' := R.touch ST.touch (by simp)
  have HC := hid (Read_any V' R' hT ho hS s N)
  have hB := hS.size.2
  simp only [DiskC.pub] at hB
  have hnf : ∀ b, w.heap.size ≤ b → b ∉ D.foot p mf mt := fun b hb hm => by have := R.lt b hm; omega
  have HR := hid R
  have HST := hid ST
  have hWz := ST.size
  clear hW V R hT ho hS ST V' R'
  unfold opV
  go_enter Tryd.func7, Tryd.ntmps7
  go_wp2_with (first
    | (go_at_call 22; refine (blot_own HOB4.out (by omega)).mono ?_; rintro e w5 ⟨rfl, hob5, ht5⟩; have hrows := prog4_rows HR1'.out HR2'.out HOWN.out hWz HZ1.out HT12.out HT3.out HOB4.out HB4.out ht5; have c1 := fun i => cell_row hrows.1 i; have c2 := fun i => cell_row hrows.2.1 i; have f1 := fun i => unfrozen_row hrows.1 i; have f2 := fun i => unfrozen_row hrows.2.1 i; unfold zeroT at c1; have HROWS := hid hrows; have HT5 := hid ht5; clear hrows hob5 ht5)
    | (at_builtin; obtain ⟨v4, w4, hr4, hob4, hb4⟩ := run_append_100 31 HOB3.out hm; refine Lib.wpList_append_run _ rfl _ _ _ _ rfl _ _ rfl rfl _ _ hr4 ?_; have HOB4 := hid hob4; have HB4 := hid hb4; clear hr4 hob4 hb4)
    | (go_at_call 22; refine (blot_own (HX.out _ _) (by omega)).mono ?_; rintro e w3 ⟨rfl, hob3, ht3⟩; have HOB3 := hid hob3; have HT3 := hid ht3; clear hob3 ht3 c2 f2)
    | (at_builtin; refine wpList_append_copy _ rfl _ rfl sb m m _ rfl HSH.out (by omega) ?_; intro v2 w2 ho2 hb2; have t12 := Touch.of_below (F := []) hb2 (Nat.le_refl _); have r1 := kept_row HR1.out t12 (by simp); have r2 := kept_row HR2.out t12 (by simp); have c2 := fun i => cell_row r2 i; have f2 := fun i => unfrozen_row r2 i; unfold zeroT at c2; obtain ⟨sd, cd, rfl, _, _⟩ := shows_own ho2; have HX : Hid (∀ x y, OwnB ((w2.setCell ⟨w.heap.size + 1 + 1, 0, none⟩ x).setCell ⟨w.heap.size + 1 + 1, 3, none⟩ y) W.heap.size (.slice sb m m) m) := hid (fun x y => ((OwnB.of HOWN.out).touch t12 (by simp)).touch (((Touch.refl [w.heap.size + 1 + 1] w2).setCell (by simp) x).setCell (by simp) y) (fun b hb e => by have h3 := owns_lt HOWN.out b (by simp [e]); simp at hb; omega)); have HO2 := hid ho2; have HB2 := hid hb2; have HT12 := hid t12; have HR1' := hid r1; have HR2' := hid r2; clear ho2 hb2 t12 r1 r2)
    | (rw [← HE.out]; go_at_call 24; refine HC.out.mono ?_; rintro e w1 ⟨v, rfl, h1, hd⟩; have r1 := kept_row HST.out.res hd.choose_spec.2.2.2.1 (hnf _ (by omega)); have r2 := kept_row HST.out.told hd.choose_spec.2.2.2.1 (hnf _ (by omega)); have z1 := hd.choose_spec.2.2.2.1.size; obtain ⟨sb, m, rfl, hm, hlen, hown, hsh⟩ := h1.own hB; have HOWN := hid hown; have HD := hid hd; have HR1 := hid r1; have HR2 := hid r2; have HZ1 := hid z1; have HLEN := hid hlen; have HSH := hid hsh; clear hsh; clear hd r1 r2 hown h1 z1 hlen))
  obtain ⟨W2, hW2, q, t2⟩ := prog_end HROWS.out.1 (readA s N D.pub).2.1 0 false (.slice sd m cd) (.slice none 0 0) cnt0
  simp only [cnt0] at hW2 q
  rw [← hW2]
  clear hW2 c1 c2 f1 f2
  refine bodyPost_ret (v := .tuple #[toldV (readA s N D.pub).2.1 0 false (.slice sd m cd) (.slice none 0 0) cnt0, .bool true]) (by simp [results, Tryd.results7, go_sem, q, toldV, cnt0]) rfl ⟨_, rfl, ⟨_, _, rfl, ?_, World.ownsRow_nil _ _ _ _⟩, ?_⟩
  · have hz1 := HZ1.out
    have ho5 := HROWS.out.2.2.2 _ _ _ _ _ HO2.out
    have hl := HLEN.out
    show W2.ownsRow w.heap.size 5 1 (.slice sd m cd) ((readA s N D.pub).1.getD []).length _
    rw [hl]
    exact owns_base (owns_touch ho5 t2 (fun b hb hm => by have := owns_lt ho5 b (by simp [hb]); simp at hm; omega)) (by omega)
  · refine HD.out.wrap HR.out HST.out.touch ((HROWS.out.2.2.1.mono (G := (w.heap.size + 1) :: (w.heap.size + 1 + 1) :: (Value.slice sb m m).ownBlock.toList) (fun b hb => List.mem_cons_of_mem _ hb)).trans t2 (by simp)) ?_
    intro b hb
    have g1 := owns_lt HOWN.out b
    simp only [List.mem_cons] at hb
    rcases hb with h | h | h
    · omega
    · omega
    · have := g1 h
      omega
end
end Go.Proofs.YtcpncfngadablaaDoor
