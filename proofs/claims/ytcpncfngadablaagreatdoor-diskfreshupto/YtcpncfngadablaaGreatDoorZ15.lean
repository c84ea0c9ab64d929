import Derived.Test.YtcpncfngadablaaGreatDoorZ14
namespace Go.Proofs.YtcpncfngadablaaGreatDoor
open Go.RowKit Go.Deep

section
variable {w w' : World} {E : Nat → Addr} {lo p mf mt : Nat} {D : DiskC}

/-- 'string(b)', b a block. -/
theorem conv_block {b B : Nat} {bl : List UInt8} (h : BytesAt w b bl) (hl : bl.length = B) : (convert 31 9 (sliceV b B)).run Tryz.prog w = .ok (encStr bl) w := by
  subst hl
  exact run_convert_bytes_back (P := Tryz.prog) w 31 9 5 ⟨b, 0, none⟩ bl.length bl Tryz.underlying31 Tryz.underlying5 Tryz.underlying9 (fun j hj => bytes_src h j _ (by simp [Lib.byteCells, List.getElem?_eq_getElem hj]))

theorem BlocksAt.slice0 {B : Nat} {sv : Value} {bs : List Nat} {blocks : List (List UInt8)} (h : BlocksAt w B sv bs blocks) (h0 : blocks.length = 0) : ∃ a c, sv = .slice a 0 c := by
  rcases h.own.2 with ⟨e, _⟩ | ⟨g, cap, _, e, _⟩
  · exact ⟨none, 0, e⟩
  · exact ⟨_, cap, by rw [e, h0]⟩
theorem BlocksAt.slice1 {B : Nat} {sv : Value} {bs : List Nat} {blocks : List (List UInt8)} (h : BlocksAt w B sv bs blocks) (h0 : ¬ blocks.length = 0) : ∃ g c, sv = .slice (some ⟨g, 0, none⟩) blocks.length c := by
  rcases h.own.2 with ⟨_, e⟩ | ⟨g, cap, _, e, _⟩
  · exact absurd e h0
  · exact ⟨g, cap, e⟩

theorem quiet_more {W : World} (h : Quiet W w) (n : Nat) : Quiet W (w.drewN n) := by
  obtain ⟨m, rfl⟩ := h
  exact ⟨m + n, by simp⟩

theorem below_up {n : Nat} {w2 : World} (h : Below (w.drewN n).heap.size (w.drewN n) w2) : ∀ G i v, w.cell? ⟨G, i, none⟩ = some v → w2.cell? ⟨G, i, none⟩ = some v := fun G i _ hv => (h.cell (p := ⟨G, i, none⟩) (World.block_lt_of_cell? w _ hv)).trans hv
theorem below_quiet {n N : Nat} {w2 : World} (h : Below (w.drewN n).heap.size (w.drewN n) w2) (hN : N ≤ w.heap.size) : Below N w w2 := ⟨h.os, h.tape, h.output, h.size, fun b hb => h.block b (by show b < w.heap.size; omega)⟩
theorem flat3 {l : List SFile} : ∀ (k j : Nat) (e : SFile), l[k]? = some e → j < 3 → (l.flatMap SFile.cells)[3 * k + j]? = e.cells[j]? := by
  induction l with
  | nil => intro k j e h; simp at h
  | cons a r ih =>
    intro k j e h hj
    cases k with
    | zero =>
      simp at h
      subst h
      rw [List.flatMap_cons, List.getElem?_append_left (by simp [SFile.cells]; omega)]
      simp
    | succ k =>
      simp at h
      rw [List.flatMap_cons, List.getElem?_append_right (by simp [SFile.cells]; omega)]
      have := ih k j e h hj
      rw [← this]
      congr 1
      simp [SFile.cells]
      omega




end
end Go.Proofs.YtcpncfngadablaaGreatDoor
namespace Go.Proofs.YtcpncfngadablaaGreatDoor
open Go.RowKit Go.Deep

section
variable {w w' : World} {E : Nat → Addr} {lo p mf mt : Nat} {D : DiskC}

theorem conv_shows {sa : Option Addr} {n c : Nat} {d : List UInt8} (h : Shows w sa n c d) : (convert 31 9 (.slice sa n c)).run Tryz.prog w = .ok (encStr d) w := by
  have hl := h.len
  subst hl
  cases sa with
  | none =>
    obtain ⟨e1, e2⟩ := h.nil rfl
    have : d = [] := List.eq_nil_of_length_eq_zero e1
    subst this
    subst e2
    rw [show ([] : List UInt8).length = 0 from rfl, run_convert_bytes_string w 31 9 5 none 0 0 Tryz.underlying31 Tryz.underlying5 Tryz.underlying9]
    simp [Conv.bytesToString, encStr]
    try rfl
  | some a =>
    refine run_convert_bytes_back (P := Tryz.prog) w 31 9 5 a c d Tryz.underlying31 Tryz.underlying5 Tryz.underlying9 (fun j hj => ?_)
    obtain ⟨a', e, _, hc⟩ := h.at_ (by omega)
    simp only [Option.some.injEq] at e
    subst e
    exact hc j _ (by simp [Lib.byteCells, List.getElem?_eq_getElem hj])

theorem wpList_append_789 (w : World) {ops : Array Oper} {rest : List Oper} {o : Oper} {a : Act} {Q : Exit → Act → World → Prop} (hgd : o.guard = none) (s x : Operand)
    (hop : o.op = Op.call { callee := Callee.builtin Builtin.append, args := #[s, x], argTypes := #[31, 31] })
    (base : Nat) (v : Value) (n : Nat) (d : List UInt8) (ad : Addr) (hs : a.eval s = v) (hx : a.eval x = .slice (some ad) 3 3) (hown : w.ownsRow base 5 1 v n (Lib.byteCells d)) (hu : ∀ j v, (Lib.byteCells [7, 8, 9])[j]? = some v → w.cell? (ad.add j) = some v) (hn : n ≤ 1099511627776) (hb : base ≤ w.heap.size)
    (hK : ∀ g c w', w'.ownsRow base 5 1 (.slice (some ⟨g, 0, none⟩) (n + 3) c) (n + 3) (Lib.byteCells (d ++ [7, 8, 9])) → Below base w w' → wpList Tryz.prog ops Q rest (a.put o.dst (.slice (some ⟨g, 0, none⟩) (n + 3) c)) w') : wpList Tryz.prog ops Q (o :: rest) a w := by
  refine wpList_plain hgd fun K' hK' => ?_
  obtain ⟨i, hi, hz0, hz1, hz2⟩ := info_parts Tryz.info5
  obtain ⟨v', w', hrun, ho, hg, _⟩ := run_append_own (P := Tryz.prog) w base 31 o.type 5 i (.int .u8 0) 1 1 Tryz.underlying31 hi hz0 hz1 hz2 rfl (by decide) v n _ hown ad 3 3 (Lib.byteCells [7, 8, 9]) (by simp [Lib.byteCells_length]) hu (byteCells_one' _) (by unfold maxLen; omega) (by omega) hb
  have ho' : w'.ownsRow base 5 1 v' (n + 3) (Lib.byteCells (d ++ [7, 8, 9])) := by
    rw [Lib.byteCells_append]
    exact ho
  have hbw : Below base w w' := (Below.refl _ w).grown hg hb (fun k hk => (hown.lt k hk).1)
  unfold Oper.wp
  simp [execOp, hop, resolve, invoke, builtin, hs, hx, hrun, Result.andThen]
  rcases ho'.2 with ⟨_, e⟩ | ⟨g, cap, _, e, _⟩
  · omega
  · subst e
    exact hK' _ _ (hK g cap w' ho' hbw)

theorem data_len (N : Int) (B : Nat) (d : List UInt8) (hd : d.length ≤ 1073741824) (hB : B ≤ 65536) : (dataA N B d).length ≤ 1073741824 := by
  unfold dataA
  split
  · exact hd
  · simp only [List.length_append, List.length_take, List.length_replicate]
    omega

set_option maxRecDepth 100000 in
set_option maxHeartbeats 600000 in
theorem program_2 (V : Env w lo E) (R : Rep w lo p mf mt D) (hT : D.T = .map []) (ho : D.on = true) (hS : Small D.pub) (hcc : D.c.calls + 1 ≤ 1099511627776) (s : ByteArray) (N bit : Int) {sa : Option Addr} {n c : Nat} {d : List UInt8} (hd : Shows w sa n c d) (hn : n ≤ 1073741824) :
    Calls Tryz.prog 8 #[ptr p, opV 2 s N bit sa n c, .int .i64 D.B] w fun e w' => ∃ v, e = .returned (.tuple #[v, .bool true]) ∧ ToldAt w' w.heap.size (.err (appendA s (dataA N D.B d) D.pub).1) v ∧ Did w w' lo p mf mt D (appendA s (dataA N D.B d) D.pub).2 := by
  obtain ⟨W, hW⟩ : ∃ W, W = startW w #[.int .i64 2, .string s, .int .i64 N, .int .i64 bit, .slice sa n c] := ⟨_, rfl⟩
  have ST : Start w W _ := hW ▸ start_ok w _
  have HE := hid hW
  unfold startW zeroT at HE
  have hB := hS.size
  simp only [DiskC.pub] at hB
  have HDA := hid (data_any (w := W) 2 s N bit (hd.touch ST.touch (by simp)) hn hB.1 hB.2)
  unfold opV at HDA
  have hdl := data_len N D.B d (by rw [hd.len]; exact hn) hB.2
  obtain ⟨bl, hbl⟩ : ∃ bl, bl = dataA N D.B d := ⟨_, rfl⟩
  rw [← hbl] at HDA hdl ⊢
  have R' := R.touch ST.touch (by simp)
  have V' := V.touch ST.touch (by simp)
  have hnf : ∀ b, w.heap.size ≤ b → b ∉ D.foot p mf mt := fun b hb hm => by have := R.lt b hm; omega
  have HAP := hid (fun (w3 : World) (h3 : Touch [] W w3) (sf : Option Addr) (cf : Nat) (hh : Hand w3 p mf mt D sf bl.length cf bl) => Append_any (V'.touch h3 (by simp)) (R'.touch h3 (by simp)) hT ho hS hcc s hh)
  have HR := hid R
  have HST := hid ST
  have hWz := ST.size
  clear hW V R hT ho hS hcc ST R' V' hbl hd hB
  unfold opV
  go_enter Tryz.func8, Tryz.ntmps8
  go_wp2_with (first
    | (at_builtin; refine wpList_append_789 _ rfl _ _ rfl w1.heap.size _ bl.length bl ⟨w2.heap.size, 0, none⟩ rfl rfl (HO2.out.alloc _) ?h1 (by omega) ?h2 ?_; rotate_left 2; intro g cg w3 ho3 hb3; have HO3 := hid ho3; have HB3 := hid hb3; clear ho3 hb3)
    | (at_builtin; refine wpList_append_copy _ rfl _ rfl sb bl.length cb bl rfl HSB.out (by omega) ?_; intro v2 w2 ho2 hb2; have HO2 := hid ho2; have HB2 := hid hb2; clear ho2 hb2)
    | (rw [← HE.out]; go_at_call 11; refine HDA.out.mono ?_; rintro e w1 ⟨sb, cb, rfl, hsb, ht1, hge⟩; have HGE := hid hge; clear hge; have HSB := hid hsb; have HT1 := hid ht1; clear hsb ht1))
  case h1 =>
    intro j v hv
    have hrow := heap_alloc_new w2 (.cells #[.int .u8 7, .int .u8 8, .int .u8 9] 5)
    have hadd : (⟨w2.heap.size, 0, none⟩ : Addr).add j = ⟨w2.heap.size, j, none⟩ := by unfold Addr.add; split <;> simp_all
    rw [hadd]
    refine (cell_row hrow j).trans ?_
    have e : (#[.int .u8 7, .int .u8 8, .int .u8 9] : Array Value) = (Lib.byteCells [7, 8, 9]).toArray := rfl
    rw [e, List.getElem?_toArray]
    exact hv
  case h2 =>
    have := HB2.out.size
    simp only [World.size_alloc]
    omega
  have b13 : Below w1.heap.size w1 w3 := (HB2.out.alloc HB2.out.size _).trans HB3.out
  have HB13 := hid b13
  have t3 : Touch [] W w3 := HT1.out.trans (Touch.of_below (F := []) b13 (Nat.le_refl _)) (by simp)
  have o1 := cell_row (kept_row HST.out.op t3 (by simp)) 1
  simp at o1
  have hcap : bl.length + 3 ≤ cg := by
    obtain ⟨_, _, e, hc, _⟩ := owns_form HO3.out
    simp only [Value.slice.injEq] at e
    omega
  have HAND : Hid (Hand w3.drew p mf mt D (some ⟨g, 0, none⟩) bl.length cg bl) := by
    have hg := owns_lt HO3.out g (by simp [Value.ownBlock])
    have hz := HT1.out.size
    refine hid ⟨rfl, by omega, fun _ => ⟨_, rfl, hg.2, hnf g (by omega), fun j v hv => HO3.out.cells (g := g) rfl j v ?_⟩⟩
    rw [Lib.byteCells_append, List.getElem?_append_left (List.getElem?_eq_some_iff.1 hv).1]
    exact hv
  have HT3 := hid t3
  have i0 : (0 : Int) ≤ (bl.length : Int) := by omega
  have i1 : (bl.length : Int) ≤ (cg : Int) := by omega
  clear t3 b13
  go_region_held3 (fun W' => W'.cell? ⟨w.heap.size, 1, none⟩ = some (.string s)) (first | go_keep | exact (World.cell?_of_block (Below.heap_setCell _ _ _ _ (by simp; omega))).trans (by assumption))
    (first | (go_at_call 10; refine (HAP.out _ HT3.out.drew _ _ HAND.out).mono ?_; rintro e w4 ⟨rfl, hd⟩; have td := hd.choose_spec.2.2.2.1; have v1 := cell_row (kept_row (kept_row HST.out.op HT3.out.drew (by simp)) td (hnf _ (by omega))) 1; have r1 := kept_row (kept_row HST.out.res HT3.out.drew (by simp)) td (hnf _ (by omega)); have r2 := kept_row (kept_row HST.out.told HT3.out.drew (by simp)) td (hnf _ (by omega)); simp at v1; have c2 := fun i => cell_row r2 i; have f2 := fun i => unfrozen_row r2 i; unfold zeroT at c2; have HD := hid hd; have HR1 := hid r1; have HR2 := hid r2; have HTD := hid td; clear hd r1 r2 td))
  obtain ⟨X, hX⟩ : ∃ X, X = w4.setCell ⟨w.heap.size + 1 + 1, 0, none⟩ (.int .i64 (appendA s bl D.pub).1) := ⟨_, rfl⟩
  have tX : Touch ((w.heap.size + 1 + 1) :: D.foot p mf mt) w3 X := by
    rw [hX]
    exact (((Touch.refl [] w3).drew.mono (by simp)).trans HTD.out (fun b hb => .inl (by simp [hb]))).setCell (by simp) _
  have z1 := HT1.out.size
  have z2 := HB2.out.size
  have z3 : w2.heap.size ≤ w3.heap.size := by have := HB3.out.size; simp only [World.size_alloc] at this; omega
  have oX : X.ownsRow w1.heap.size 5 1 (.slice (some ⟨g, 0, none⟩) (bl.length + 3) cg) (bl.length + 3) (Lib.byteCells (bl ++ [7, 8, 9])) := owns_touch HO3.out tX (fun b hb hm => by
    have h1 := owns_lt HO3.out b (by simp [hb])
    simp only [List.mem_cons] at hm
    rcases hm with h | h
    · omega
    · exact hnf b (by omega) h)
  have sX : Shows X sb bl.length cb bl := by
    have h1 : Shows w3 sb bl.length cb bl := HSB.out.touch (Touch.of_below (F := []) HB13.out (Nat.le_refl _)) (by simp)
    refine h1.touch tX (fun a ha hm => ?_)
    have h2 := HGE.out a ha
    simp only [List.mem_cons] at hm
    rcases hm with h | h
    · omega
    · exact hnf _ (by omega) h
  have fX : Shows X (some ⟨g, 0, none⟩) bl.length cg bl := ⟨rfl, by omega, fun _ => ⟨_, rfl, (owns_lt oX g (by simp [Value.ownBlock])).2, fun j v hv => oX.cells (g := g) rfl j v (by rw [Lib.byteCells_append, List.getElem?_append_left (List.getElem?_eq_some_iff.1 hv).1]; exact hv)⟩, by simp⟩
  have k1 : ∀ m, (convert 31 9 (.slice sb bl.length cb)).run Tryz.prog (X.drewN m) = .ok (encStr bl) (X.drewN m) := fun m => conv_shows ⟨sX.len, sX.cap, sX.at_, sX.nil⟩
  have k2 : ∀ m, (convert 31 9 (.slice (some ⟨g, 0, none⟩) bl.length cg)).run Tryz.prog (X.drewN m) = .ok (encStr bl) (X.drewN m) := fun m => conv_shows ⟨fX.len, fX.cap, fX.at_, fX.nil⟩
  have hadd : ∀ j, (⟨g, 0, none⟩ : Addr).add j = ⟨g, j, none⟩ := fun j => by unfold Addr.add; split <;> simp_all
  have l0 : X.cell? ⟨g, bl.length, none⟩ = some (.int .u8 7) := by
    have := oX.cells (g := g) rfl bl.length (.int .u8 7) (by rw [Lib.byteCells_append, List.getElem?_append_right (by simp [Lib.byteCells_length])]; simp [Lib.byteCells])
    rwa [hadd] at this
  have l1 : X.cell? ⟨g, bl.length + 1, none⟩ = some (.int .u8 8) := by
    have := oX.cells (g := g) rfl (bl.length + 1) (.int .u8 8) (by rw [Lib.byteCells_append, List.getElem?_append_right (by simp [Lib.byteCells_length])]; simp [Lib.byteCells])
    rwa [hadd] at this
  have l2 : X.cell? ⟨g, bl.length + 2, none⟩ = some (.int .u8 9) := by
    have := oX.cells (g := g) rfl (bl.length + 2) (.int .u8 9) (by rw [Lib.byteCells_append, List.getElem?_append_right (by simp [Lib.byteCells_length])]; simp [Lib.byteCells])
    rwa [hadd] at this
  have rX1 : X.heap[w.heap.size + 1]? = some (.cells zeroT 36 (0, 0)) := by
    rw [hX, Below.heap_setCell _ _ _ _ (by simp)]
    exact HR1.out
  have rX2 : X.heap[w.heap.size + 1 + 1]? = some (.cells #[.int .i64 (appendA s bl D.pub).1, .int .i64 0, .bool false, .slice none 0 0, .slice none 0 0, .int .i64 0, .int .i64 0, .int .i64 0, .int .i64 0, .int .i64 0, .int .i64 0, .int .i64 0] 36 (0, 0)) := by
    rw [hX]
    refine (heap_setCell_row HR2.out 0 _).trans ?_
    simp [zeroT]
  have tX4 : Touch [w.heap.size + 1 + 1] w4 X := by
    rw [hX]
    exact (Touch.refl _ w4).setCell (by simp) _
  have HOX := hid oX
  have HRX1 := hid rX1
  have HRX2 := hid rX2
  have HTX4 := hid tX4
  have i2 : (bl.length : Int) < (bl.length : Int) + 3 := by omega
  rw [← hX]
  clear hX oX rX1 rX2 tX4 sX fX tX hadd c2 f2 v1 o1
  go_wp2
  go_quiet (fail)
  obtain ⟨X2, hX2⟩ : ∃ X2, X2 = X.drewN nq := ⟨_, rfl⟩
  have q2 : Quiet X X2 := ⟨nq, hX2⟩
  rw [← hX2]
  clear hX2 k1 k2 l0 l1 l2
  have HBL := hid (blot_own (w := X2) ((OwnB.of HOX.out).touch (Quiet.touch q2 []) (by simp)) (by omega))
  have HQ2 := hid q2
  clear q2
  go_wp2_with (first
    | (go_at_call 24; refine HBL.out.mono ?_; rintro e w5 ⟨rfl, _, ht5⟩; have g5 := owns_lt HOX.out; have r1 := kept_row (kept_row HRX1.out (Quiet.touch HQ2.out []) (by simp)) ht5 (fun hb => by have := g5 _ hb; omega); have r2 := kept_row (kept_row HRX2.out (Quiet.touch HQ2.out []) (by simp)) ht5 (fun hb => by have := g5 _ hb; omega); have c1 := fun i => cell_row r1 i; have c2 := fun i => cell_row r2 i; have f1 := fun i => unfrozen_row r1 i; have f2 := fun i => unfrozen_row r2 i; unfold zeroT at c1; have HT5 := hid ht5; have HR15 := hid r1; clear ht5 g5 r1 r2))
  obtain ⟨W2, hW2, q, t2⟩ := prog_end HR15.out (appendA s bl D.pub).1 0 false (.slice none 0 0) (.slice none 0 0) cnt0
  simp only [cnt0] at hW2 q
  rw [← hW2]
  clear hW2 c1 c2 f1 f2
  refine bodyPost_ret (v := .tuple #[toldV (appendA s bl D.pub).1 0 false (.slice none 0 0) (.slice none 0 0) cnt0, .bool true]) (by simp [results, Tryz.results8, go_sem, q, toldV, cnt0]) rfl ⟨_, rfl, ToldAt.err _ _ _, ?_⟩
  have tt : Touch [w.heap.size + 1, w.heap.size + 1 + 1, g] w4 W2 := (((HTX4.out.mono (by simp)).trans (Quiet.touch HQ2.out []) (by simp)).trans HT5.out (by simp [Value.ownBlock])).trans t2 (by simp)
  have g3 := owns_lt HO3.out g (by simp [Value.ownBlock])
  exact HD.out.wrap (W := w3.drew) HR.out ((HST.out.touch.trans HT3.out (by simp)).drew) tt (by
    intro b hb
    simp at hb
    have h3 := HT3.out.size
    refine .inl ⟨by omega, ?_⟩
    show b < w3.heap.size
    omega)
end
end Go.Proofs.YtcpncfngadablaaGreatDoor
namespace Go.Proofs.YtcpncfngadablaaGreatDoor
open Go.RowKit Go.Deep

section
variable {w w' : World} {E : Nat → Addr} {lo p mf mt : Nat} {D : DiskC}

theorem names_at {base n k g cap : Nat} {ss : List (List UInt8)} (h : w.ownsRow base 9 1 (.slice (some ⟨g, 0, none⟩) n cap) n (ss.map encStr)) (hk : k < ss.length) : w.cell? ⟨g, k, none⟩ = some (encStr ss[k]) := by
  have := h.cells (g := g) rfl k (encStr ss[k]) (by simp [List.getElem?_eq_getElem hk])
  have hadd : (⟨g, 0, none⟩ : Addr).add k = ⟨g, k, none⟩ := by unfold Addr.add; split <;> simp_all
  rwa [hadd] at this

set_option maxRecDepth 100000 in
set_option maxHeartbeats 600000 in
theorem sameTold_true {b1 b2 : Nat} {T : ToldA} {v1 v2 : Value} (h1 : ToldAt w b1 T v1) (h2 : ToldAt w b2 T v2) (hn : T.names.length ≤ 1099511627776) :
    Calls Tryz.prog 42 #[v1, v2] w fun e w' => e = .returned (.bool true) ∧ Touch [] w w' := by
  obtain ⟨dv1, nv1, rfl, hd1, hn1⟩ := h1
  obtain ⟨dv2, nv2, rfl, hd2, hn2⟩ := h2
  obtain ⟨x1, y1, rfl, s1, _⟩ := shows_own hd1
  obtain ⟨x2, y2, rfl, s2, _⟩ := shows_own hd2
  obtain ⟨m1, l1, rfl, hl1, hg1⟩ := owns_form hn1
  obtain ⟨m2, l2, rfl, hl2, hg2⟩ := owns_form hn2
  obtain ⟨e, N, b, data, names, cn⟩ := T
  obtain ⟨q1, q2, q3, q4, q5, q6, q7⟩ := cn
  simp only at *
  obtain ⟨W, hW⟩ : ∃ W, W = (w.alloc (.cells #[.int .i64 e, .int .i64 N, .bool b, .slice x1 data.length y1, .slice m1 names.length l1, .int .i64 q1, .int .i64 q2, .int .i64 q3, .int .i64 q4, .int .i64 q5, .int .i64 q6, .int .i64 q7] 36)).alloc (.cells #[.int .i64 e, .int .i64 N, .bool b, .slice x2 data.length y2, .slice m2 names.length l2, .int .i64 q1, .int .i64 q2, .int .i64 q3, .int .i64 q4, .int .i64 q5, .int .i64 q6, .int .i64 q7] 36) := ⟨_, rfl⟩
  have tW : Touch [] w W := by rw [hW]; exact ((Touch.refl [] w).alloc _).alloc _
  have hrw := heap_two w (.cells #[.int .i64 e, .int .i64 N, .bool b, .slice x1 data.length y1, .slice m1 names.length l1, .int .i64 q1, .int .i64 q2, .int .i64 q3, .int .i64 q4, .int .i64 q5, .int .i64 q6, .int .i64 q7] 36) (.cells #[.int .i64 e, .int .i64 N, .bool b, .slice x2 data.length y2, .slice m2 names.length l2, .int .i64 q1, .int .i64 q2, .int .i64 q3, .int .i64 q4, .int .i64 q5, .int .i64 q6, .int .i64 q7] 36)
  rw [← hW] at hrw
  have c1 := fun i => cell_row hrw.1 i
  have c2 := fun i => cell_row hrw.2 i
  have k1 := conv_shows (s1.touch tW (by simp))
  have k2 := conv_shows (s2.touch tW (by simp))
  have HN1 := hid (owns_touch hn1 tW (by simp))
  have HN2 := hid (owns_touch hn2 tW (by simp))
  have HTW := hid tW
  have HE := hid hW
  have HG1 := hid hg1
  have HG2 := hid hg2
  clear hd1 hd2 hn1 hn2 s1 s2 hg1 hg2 tW hW hrw hl1 hl2
  unfold toldV
  simp only []
  go_enter Tryz.func42, Tryz.ntmps42
  go_wp2_with (rw [← HE.out])
  have HC1 := hid c1
  have HC2 := hid c2
  clear c1 c2 k1 k2
  go_loopw [5] (fun i wr => ∃ k : Nat, k ≤ names.length ∧ i = .int .i64 k ∧ Quiet W wr) (fun i _ => names.length - (intOf i).toNat)
  case atStart => exact ⟨0, Nat.zero_le _, rfl, ⟨0, rfl⟩⟩
  case round =>
    obtain ⟨k, hk, rfl, hq⟩ := hrel
    have d1 := fun i => (Quiet.cell hq ⟨w.heap.size, i, none⟩).trans (HC1.out i)
    have d2 := fun i => (Quiet.cell hq ⟨w.heap.size + 1, i, none⟩).trans (HC2.out i)
    have HQ := hid hq
    by_cases hlt : k < names.length
    · obtain ⟨g1, rfl⟩ := HG1.out (by omega)
      obtain ⟨g2, rfl⟩ := HG2.out (by omega)
      have a1 := (Quiet.cell hq _).trans (names_at HN1.out hlt)
      have a2 := (Quiet.cell hq _).trans (names_at HN2.out hlt)
      have j0 : (0 : Int) ≤ (k : Int) := by omega
      have j1 : (k : Int) < (names.length : Int) := by omega
      clear hq
      go_wp2
      go_quiet (fail)
      go_wp2
      go_roundw
      case rel => first | exact ⟨k + 1, by omega, by go_num, quiet_more HQ.out _⟩ | ((repeat apply Exists.intro); exact ⟨⟨k + 1, by omega, by go_num, quiet_more HQ.out _⟩, rfl⟩)
      case measure => simp [intOf]; omega
    · clear hq
      go_wp2
      go_ret
      exact ⟨rfl, HTW.out.trans (Quiet.touch HQ.out []) (by simp)⟩
end
end Go.Proofs.YtcpncfngadablaaGreatDoor
