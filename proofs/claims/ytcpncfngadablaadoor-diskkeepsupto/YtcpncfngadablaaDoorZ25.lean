import Derived.Test.YtcpncfngadablaaDoorZ24
import Derived.Test.YtcpncfngadablaaDoorZ19
/-
  program, under what befalls the disk.
-/
namespace Go.Proofs.YtcpncfngadablaaDoor
open Go.RowKit Go.Deep

section
variable {w w' : World} {E : Nat → Addr} {lo p mf mt : Nat} {D : DiskC}

theorem Did2.wrap {W w1 w2 : World} {A : PubA} {G : List Nat} (R : Rep w lo p mf mt D) (h1 : Touch [] w W) (h : Did2 W w1 lo p mf mt D A) (h2 : Touch G w1 w2) (hG : ∀ b ∈ G, w.heap.size ≤ b ∧ b < W.heap.size ∨ w1.heap.size ≤ b) : Did2 w w2 lo p mf mt D A := by
  obtain ⟨D', R', hp, hT, ht, hf⟩ := h
  have hs := h1.size
  have hs2 := ht.size
  refine ⟨D', R'.touch h2 ?_, hp, hT, ((h1.mono (by simp)).trans ht (fun b hb => .inl hb)).trans h2 (fun b hb => .inr (by have := hG b hb; omega)), fun b hb => ?_⟩
  · intro b hb hbG
    have hlt := R'.lt b hb
    rcases hf b hb with h | h
    · have := R.lt b h
      have := hG b hbG
      omega
    · have := hG b hbG
      omega
  · rcases hf b hb with h | h
    · exact .inl h
    · exact .inr (by omega)

set_option maxRecDepth 100000 in
set_option maxHeartbeats 400000 in
theorem program_1t (V : Env w lo E) (R : Rep w lo p mf mt D) (ho : D.on = true) (hS : Small D.pub) (hfl : 0 ≤ D.c.faults ∧ D.c.faults ≤ 1099511627776) (_hcc : D.c.calls + 1 ≤ 1099511627776) {x k y : Int} (hT : TroubleIs D.T D.c.calls x k y) (s : ByteArray) (N bit : Int) (sa : Option Addr) (n c : Nat) :
    Calls Tryd.prog 7 #[ptr p, opV 1 s N bit sa n c, .int .i64 D.B] w fun e w' => ∃ r A', (∃ v, e = .returned (.tuple #[v, .bool true]) ∧ ToldAt w' w.heap.size (.err r) v) ∧ Did2 w w' lo p mf mt D A' ∧ Out D.pub (createA s D.pub) (fun A' => A' = { (createA s D.pub).2 with on := false }) r A' := by
  obtain ⟨W, hW⟩ : ∃ W, W = startW w #[.int .i64 1, .string s, .int .i64 N, .int .i64 bit, .slice sa n c] := ⟨_, rfl⟩
  have ST : Start w W _ := hW ▸ start_ok w _
  have HE := hid hW
  unfold startW zeroT at HE
  have V' := V.touch ST.touch (by simp)
  have R' := R.touch ST.touch (by simp)
  have HC := hid (Create_t V' R' ho hS hfl hT s)
  have hnf : ∀ b, w.heap.size ≤ b → b ∉ D.foot p mf mt := fun b hb hm => by have := R.lt b hm; omega
  have HR := hid R
  have HST := hid ST
  clear hW V R hT ho hS _hcc hfl ST V' R'
  unfold opV
  go_enter Tryd.func7, Tryd.ntmps7
  go_wp2_with (first | (rw [← HE.out]; go_at_call 19; refine HC.out.mono ?_; rintro e w1 ⟨r, A', rfl, hd, hout⟩; have HOUT := hid hout; clear hout; have r1 := kept_row HST.out.res hd.choose_spec.2.2.2.1 (hnf _ (by omega)); have r2 := kept_row HST.out.told hd.choose_spec.2.2.2.1 (hnf _ (by omega)); have c1 := fun i => cell_row r1 i; have c2 := fun i => cell_row r2 i; have f1 := fun i => unfrozen_row r1 i; have f2 := fun i => unfrozen_row r2 i; unfold zeroT at c1 c2; have HD := hid hd; have HR1 := hid r1; have HR2 := hid r2; clear hd r1 r2))
  have r1' : (w1.setCell ⟨w.heap.size + 1 + 1, 0, none⟩ (.int .i64 r)).heap[w.heap.size + 1]? = some (.cells zeroT 36 (0, 0)) := by
    rw [Below.heap_setCell _ _ _ _ (by simp)]
    exact HR1.out
  obtain ⟨W2, hW2, q, t2⟩ := prog_end r1' r 0 false (.slice none 0 0) (.slice none 0 0) cnt0
  simp only [cnt0] at hW2 q
  rw [← hW2]
  clear hW2 c1 c2 f1 f2
  refine bodyPost_ret (v := .tuple #[toldV r 0 false (.slice none 0 0) (.slice none 0 0) cnt0, .bool true]) (by simp [results, Tryd.results7, go_sem, q, toldV, cnt0]) rfl ⟨r, A', ⟨_, rfl, ToldAt.err _ _ _⟩, ?_, HOUT.out⟩
  have tt : Touch [w.heap.size + 1, w.heap.size + 1 + 1] w1 W2 := ((Touch.refl _ w1).setCell (by simp) _).trans t2 (by simp)
  have hz := HST.out.size
  exact HD.out.wrap HR.out HST.out.touch tt (by simp; omega)


set_option maxRecDepth 100000 in
set_option maxHeartbeats 400000 in
theorem program_3t (V : Env w lo E) (R : Rep w lo p mf mt D) (ho : D.on = true) (hS : Small D.pub) (hfl : 0 ≤ D.c.faults ∧ D.c.faults ≤ 1099511627776) (_hcc : D.c.calls + 1 ≤ 1099511627776) {x k y : Int} (hT : TroubleIs D.T D.c.calls x k y) (s : ByteArray) (N bit : Int) (sa : Option Addr) (n c : Nat) :
    Calls Tryd.prog 7 #[ptr p, opV 3 s N bit sa n c, .int .i64 D.B] w fun e w' => ∃ r A', (∃ v, e = .returned (.tuple #[v, .bool true]) ∧ ToldAt w' w.heap.size (.err r) v) ∧ Did2 w w' lo p mf mt D A' ∧ Out D.pub (sealA s D.pub) (fun A' => A' = { (sealA s D.pub).2 with on := false }) r A' := by
  obtain ⟨W, hW⟩ : ∃ W, W = startW w #[.int .i64 3, .string s, .int .i64 N, .int .i64 bit, .slice sa n c] := ⟨_, rfl⟩
  have ST : Start w W _ := hW ▸ start_ok w _
  have HE := hid hW
  unfold startW zeroT at HE
  have V' := V.touch ST.touch (by simp)
  have R' := R.touch ST.touch (by simp)
  have HC := hid (Seal_t V' R' ho hS hfl hT s)
  have hnf : ∀ b, w.heap.size ≤ b → b ∉ D.foot p mf mt := fun b hb hm => by have := R.lt b hm; omega
  have HR := hid R
  have HST := hid ST
  clear hW V R hT ho hS _hcc hfl ST V' R'
  unfold opV
  go_enter Tryd.func7, Tryd.ntmps7
  go_wp2_with (first | (rw [← HE.out]; go_at_call 23; refine HC.out.mono ?_; rintro e w1 ⟨r, A', rfl, hd, hout⟩; have HOUT := hid hout; clear hout; have r1 := kept_row HST.out.res hd.choose_spec.2.2.2.1 (hnf _ (by omega)); have r2 := kept_row HST.out.told hd.choose_spec.2.2.2.1 (hnf _ (by omega)); have c1 := fun i => cell_row r1 i; have c2 := fun i => cell_row r2 i; have f1 := fun i => unfrozen_row r1 i; have f2 := fun i => unfrozen_row r2 i; unfold zeroT at c1 c2; have HD := hid hd; have HR1 := hid r1; have HR2 := hid r2; clear hd r1 r2))
  have r1' : (w1.setCell ⟨w.heap.size + 1 + 1, 0, none⟩ (.int .i64 r)).heap[w.heap.size + 1]? = some (.cells zeroT 36 (0, 0)) := by
    rw [Below.heap_setCell _ _ _ _ (by simp)]
    exact HR1.out
  obtain ⟨W2, hW2, q, t2⟩ := prog_end r1' r 0 false (.slice none 0 0) (.slice none 0 0) cnt0
  simp only [cnt0] at hW2 q
  rw [← hW2]
  clear hW2 c1 c2 f1 f2
  refine bodyPost_ret (v := .tuple #[toldV r 0 false (.slice none 0 0) (.slice none 0 0) cnt0, .bool true]) (by simp [results, Tryd.results7, go_sem, q, toldV, cnt0]) rfl ⟨r, A', ⟨_, rfl, ToldAt.err _ _ _⟩, ?_, HOUT.out⟩
  have tt : Touch [w.heap.size + 1, w.heap.size + 1 + 1] w1 W2 := ((Touch.refl _ w1).setCell (by simp) _).trans t2 (by simp)
  have hz := HST.out.size
  exact HD.out.wrap HR.out HST.out.touch tt (by simp; omega)


set_option maxRecDepth 100000 in
set_option maxHeartbeats 400000 in
theorem program_5t (V : Env w lo E) (R : Rep w lo p mf mt D) (ho : D.on = true) (hS : Small D.pub) (_hfl : 0 ≤ D.c.faults ∧ D.c.faults ≤ 1099511627776) (hcc : D.c.calls + 1 ≤ 1099511627776) {x k y : Int} (hT : TroubleIs D.T D.c.calls x k y) (s : ByteArray) (N bit : Int) (sa : Option Addr) (n c : Nat) :
    Calls Tryd.prog 7 #[ptr p, opV 5 s N bit sa n c, .int .i64 D.B] w fun e w' => ∃ r A', (∃ v, e = .returned (.tuple #[v, .bool true]) ∧ ToldAt w' w.heap.size (.err r) v) ∧ Did2 w w' lo p mf mt D A' ∧ Out D.pub (deleteA s D.pub) (fun A' => A' = { (deleteA s D.pub).2 with on := false }) r A' := by
  obtain ⟨W, hW⟩ : ∃ W, W = startW w #[.int .i64 5, .string s, .int .i64 N, .int .i64 bit, .slice sa n c] := ⟨_, rfl⟩
  have ST : Start w W _ := hW ▸ start_ok w _
  have HE := hid hW
  unfold startW zeroT at HE
  have V' := V.touch ST.touch (by simp)
  have R' := R.touch ST.touch (by simp)
  have HC := hid (Delete_t V' R' ho hS hcc hT s)
  have hnf : ∀ b, w.heap.size ≤ b → b ∉ D.foot p mf mt := fun b hb hm => by have := R.lt b hm; omega
  have HR := hid R
  have HST := hid ST
  clear hW V R hT ho hS hcc _hfl ST V' R'
  unfold opV
  go_enter Tryd.func7, Tryd.ntmps7
  go_wp2_with (first | (rw [← HE.out]; go_at_call 25; refine HC.out.mono ?_; rintro e w1 ⟨r, A', rfl, hd, hout⟩; have HOUT := hid hout; clear hout; have r1 := kept_row HST.out.res hd.choose_spec.2.2.2.1 (hnf _ (by omega)); have r2 := kept_row HST.out.told hd.choose_spec.2.2.2.1 (hnf _ (by omega)); have c1 := fun i => cell_row r1 i; have c2 := fun i => cell_row r2 i; have f1 := fun i => unfrozen_row r1 i; have f2 := fun i => unfrozen_row r2 i; unfold zeroT at c1 c2; have HD := hid hd; have HR1 := hid r1; have HR2 := hid r2; clear hd r1 r2))
  have r1' : (w1.setCell ⟨w.heap.size + 1 + 1, 0, none⟩ (.int .i64 r)).heap[w.heap.size + 1]? = some (.cells zeroT 36 (0, 0)) := by
    rw [Below.heap_setCell _ _ _ _ (by simp)]
    exact HR1.out
  obtain ⟨W2, hW2, q, t2⟩ := prog_end r1' r 0 false (.slice none 0 0) (.slice none 0 0) cnt0
  simp only [cnt0] at hW2 q
  rw [← hW2]
  clear hW2 c1 c2 f1 f2
  refine bodyPost_ret (v := .tuple #[toldV r 0 false (.slice none 0 0) (.slice none 0 0) cnt0, .bool true]) (by simp [results, Tryd.results7, go_sem, q, toldV, cnt0]) rfl ⟨r, A', ⟨_, rfl, ToldAt.err _ _ _⟩, ?_, HOUT.out⟩
  have tt : Touch [w.heap.size + 1, w.heap.size + 1 + 1] w1 W2 := ((Touch.refl _ w1).setCell (by simp) _).trans t2 (by simp)
  have hz := HST.out.size
  exact HD.out.wrap HR.out HST.out.touch tt (by simp; omega)


set_option maxRecDepth 100000 in
set_option maxHeartbeats 600000 in
theorem program_2t (V : Env w lo E) (R : Rep w lo p mf mt D) (ho : D.on = true) (hS : Small D.pub) (hfl : 0 ≤ D.c.faults ∧ D.c.faults ≤ 1099511627776) (hcc : D.c.calls + 1 ≤ 1099511627776) {x k y : Int} (hT : TroubleIs D.T D.c.calls x k y) (s : ByteArray) (N bit : Int) {sa : Option Addr} {n c : Nat} {d : List UInt8} (hd : Shows w sa n c d) (hn : n ≤ 1073741824) :
    Calls Tryd.prog 7 #[ptr p, opV 2 s N bit sa n c, .int .i64 D.B] w fun e w' => ∃ r A', (∃ v, e = .returned (.tuple #[v, .bool true]) ∧ ToldAt w' w.heap.size (.err r) v) ∧ Did2 w w' lo p mf mt D A' ∧ Out D.pub (appendA s (dataA N D.B d) D.pub) (PartA s (dataA N D.B d) D.pub) r A' := by
  obtain ⟨W, hW⟩ : ∃ W, W = startW w #[.int .i64 2, .string s, .int .i64 N, .int .i64 bit, .slice sa n c] := ⟨_, rfl⟩
  have ST : Start w W _ := hW ▸ start_ok w _
  have HE := hid hW
  unfold startW zeroT at HE
  have hB := hS.size
  simp only [DiskC.pub] at hB
  have HDA := hid (data_any (w := W) 2 s N bit (hd.touch ST.touch (by simp)) hn hB.1 hB.2)
  unfold opV at HDA
  have hdl := data_len N D.B d (by rw [hd.len]; exact hn) hB.2
  obtain ⟨bl, hbl⟩ : ∃ bl, bl = dataA N D.B d := ⟨_, rfl⟩
  rw [← hbl] at HDA hdl ⊢
  have R' := R.touch ST.touch (by simp)
  have V' := V.touch ST.touch (by simp)
  have hnf : ∀ b, w.heap.size ≤ b → b ∉ D.foot p mf mt := fun b hb hm => by have := R.lt b hm; omega
  have HAP := hid (fun (w3 : World) (h3 : Touch [] W w3) (sf : Option Addr) (cf : Nat) (hh : Hand w3 p mf mt D sf bl.length cf bl) => Append_t (V'.touch h3 (by simp)) (R'.touch h3 (by simp)) ho hS hfl hcc hT s hh)
  have HR := hid R
  have HST := hid ST
  have hWz := ST.size
  clear hW V R hT ho hS hcc hfl ST R' V' hbl hd hB
  unfold opV
  go_enter Tryd.func7, Tryd.ntmps7
  go_wp2_with (first
    | (at_builtin; refine wpList_append_789 _ rfl _ _ rfl w1.heap.size _ bl.length bl ⟨w2.heap.size, 0, none⟩ rfl rfl (HO2.out.alloc _) ?h1 (by omega) ?h2 ?_; rotate_left 2; intro g cg w3 ho3 hb3; have HO3 := hid ho3; have HB3 := hid hb3; clear ho3 hb3)
    | (at_builtin; refine wpList_append_copy _ rfl _ rfl sb bl.length cb bl rfl HSB.out (by omega) ?_; intro v2 w2 ho2 hb2; have HO2 := hid ho2; have HB2 := hid hb2; clear ho2 hb2)
    | (rw [← HE.out]; go_at_call 20; refine HDA.out.mono ?_; rintro e w1 ⟨sb, cb, rfl, hsb, ht1, hge⟩; have HGE := hid hge; clear hge; have HSB := hid hsb; have HT1 := hid ht1; clear hsb ht1))
  case h1 =>
    intro j v hv
    have hrow := heap_alloc_new w2 (.cells #[.int .u8 7, .int .u8 8, .int .u8 9] 5)
    have hadd : (⟨w2.heap.size, 0, none⟩ : Addr).add j = ⟨w2.heap.size, j, none⟩ := by unfold Addr.add; split <;> simp_all
    rw [hadd]
    refine (cell_row hrow j).trans ?_
    have e : (#[.int .u8 7, .int .u8 8, .int .u8 9] : Array Value) = (Lib.byteCells [7, 8, 9]).toArray := rfl
    rw [e, List.getElem?_toArray]
    exact hv
  case h2 =>
    have := HB2.out.size
    simp only [World.size_alloc]
    omega
  have b13 : Below w1.heap.size w1 w3 := (HB2.out.alloc HB2.out.size _).trans HB3.out
  have HB13 := hid b13
  have t3 : Touch [] W w3 := HT1.out.trans (Touch.of_below (F := []) b13 (Nat.le_refl _)) (by simp)
  have o1 := cell_row (kept_row HST.out.op t3 (by simp)) 1
  simp at o1
  have hcap : bl.length + 3 ≤ cg := by
    obtain ⟨_, _, e, hc, _⟩ := owns_form HO3.out
    simp only [Value.slice.injEq] at e
    omega
  have HAND : Hid (Hand w3.drew p mf mt D (some ⟨g, 0, none⟩) bl.length cg bl) := by
    have hg := owns_lt HO3.out g (by simp [Value.ownBlock])
    have hz := HT1.out.size
    refine hid ⟨rfl, by omega, fun _ => ⟨_, rfl, hg.2, hnf g (by omega), fun j v hv => HO3.out.cells (g := g) rfl j v ?_⟩⟩
    rw [Lib.byteCells_append, List.getElem?_append_left (List.getElem?_eq_some_iff.1 hv).1]
    exact hv
  have HT3 := hid t3
  have i0 : (0 : Int) ≤ (bl.length : Int) := by omega
  have i1 : (bl.length : Int) ≤ (cg : Int) := by omega
  clear t3 b13
  go_region_held3 (fun W' => W'.cell? ⟨w.heap.size, 1, none⟩ = some (.string s)) (first | go_keep | exact (World.cell?_of_block (Below.heap_setCell _ _ _ _ (by simp; omega))).trans (by assumption))
    (first | (go_at_call 21; refine (HAP.out _ HT3.out.drew _ _ HAND.out).mono ?_; rintro e w4 ⟨r, A', rfl, hd, hout⟩; have HOUT := hid hout; clear hout; have td := hd.choose_spec.2.2.2.1; have v1 := cell_row (kept_row (kept_row HST.out.op HT3.out.drew (by simp)) td (hnf _ (by omega))) 1; have r1 := kept_row (kept_row HST.out.res HT3.out.drew (by simp)) td (hnf _ (by omega)); have r2 := kept_row (kept_row HST.out.told HT3.out.drew (by simp)) td (hnf _ (by omega)); simp at v1; have c2 := fun i => cell_row r2 i; have f2 := fun i => unfrozen_row r2 i; unfold zeroT at c2; have HD := hid hd; have HR1 := hid r1; have HR2 := hid r2; have HTD := hid td; clear hd r1 r2 td))
  obtain ⟨X, hX⟩ : ∃ X, X = w4.setCell ⟨w.heap.size + 1 + 1, 0, none⟩ (.int .i64 r) := ⟨_, rfl⟩
  have tX : Touch ((w.heap.size + 1 + 1) :: D.foot p mf mt) w3 X := by
    rw [hX]
    exact (((Touch.refl [] w3).drew.mono (by simp)).trans HTD.out (fun b hb => .inl (by simp [hb]))).setCell (by simp) _
  have z1 := HT1.out.size
  have z2 := HB2.out.size
  have z3 : w2.heap.size ≤ w3.heap.size := by have := HB3.out.size; simp only [World.size_alloc] at this; omega
  have oX : X.ownsRow w1.heap.size 5 1 (.slice (some ⟨g, 0, none⟩) (bl.length + 3) cg) (bl.length + 3) (Lib.byteCells (bl ++ [7, 8, 9])) := owns_touch HO3.out tX (fun b hb hm => by
    have h1 := owns_lt HO3.out b (by simp [hb])
    simp only [List.mem_cons] at hm
    rcases hm with h | h
    · omega
    · exact hnf b (by omega) h)
  have sX : Shows X sb bl.length cb bl := by
    have h1 : Shows w3 sb bl.length cb bl := HSB.out.touch (Touch.of_below (F := []) HB13.out (Nat.le_refl _)) (by simp)
    refine h1.touch tX (fun a ha hm => ?_)
    have h2 := HGE.out a ha
    simp only [List.mem_cons] at hm
    rcases hm with h | h
    · omega
    · exact hnf _ (by omega) h
  have fX : Shows X (some ⟨g, 0, none⟩) bl.length cg bl := ⟨rfl, by omega, fun _ => ⟨_, rfl, (owns_lt oX g (by simp [Value.ownBlock])).2, fun j v hv => oX.cells (g := g) rfl j v (by rw [Lib.byteCells_append, List.getElem?_append_left (List.getElem?_eq_some_iff.1 hv).1]; exact hv)⟩, by simp⟩
  have k1 : ∀ m, (convert 31 9 (.slice sb bl.length cb)).run Tryd.prog (X.drewN m) = .ok (encStr bl) (X.drewN m) := fun m => conv_shows ⟨sX.len, sX.cap, sX.at_, sX.nil⟩
  have k2 : ∀ m, (convert 31 9 (.slice (some ⟨g, 0, none⟩) bl.length cg)).run Tryd.prog (X.drewN m) = .ok (encStr bl) (X.drewN m) := fun m => conv_shows ⟨fX.len, fX.cap, fX.at_, fX.nil⟩
  have hadd : ∀ j, (⟨g, 0, none⟩ : Addr).add j = ⟨g, j, none⟩ := fun j => by unfold Addr.add; split <;> simp_all
  have l0 : X.cell? ⟨g, bl.length, none⟩ = some (.int .u8 7) := by
    have := oX.cells (g := g) rfl bl.length (.int .u8 7) (by rw [Lib.byteCells_append, List.getElem?_append_right (by simp [Lib.byteCells_length])]; simp [Lib.byteCells])
    rwa [hadd] at this
  have l1 : X.cell? ⟨g, bl.length + 1, none⟩ = some (.int .u8 8) := by
    have := oX.cells (g := g) rfl (bl.length + 1) (.int .u8 8) (by rw [Lib.byteCells_append, List.getElem?_append_right (by simp [Lib.byteCells_length])]; simp [Lib.byteCells])
    rwa [hadd] at this
  have l2 : X.cell? ⟨g, bl.length + 2, none⟩ = some (.int .u8 9) := by
    have := oX.cells (g := g) rfl (bl.length + 2) (.int .u8 9) (by rw [Lib.byteCells_append, List.getElem?_append_right (by simp [Lib.byteCells_length])]; simp [Lib.byteCells])
    rwa [hadd] at this
  have rX1 : X.heap[w.heap.size + 1]? = some (.cells zeroT 36 (0, 0)) := by
    rw [hX, Below.heap_setCell _ _ _ _ (by simp)]
    exact HR1.out
  have rX2 : X.heap[w.heap.size + 1 + 1]? = some (.cells #[.int .i64 r, .int .i64 0, .bool false, .slice none 0 0, .slice none 0 0, .int .i64 0, .int .i64 0, .int .i64 0, .int .i64 0, .int .i64 0, .int .i64 0, .int .i64 0] 36 (0, 0)) := by
    rw [hX]
    refine (heap_setCell_row HR2.out 0 _).trans ?_
    simp [zeroT]
  have tX4 : Touch [w.heap.size + 1 + 1] w4 X := by
    rw [hX]
    exact (Touch.refl _ w4).setCell (by simp) _
  have HOX := hid oX
  have HRX1 := hid rX1
  have HRX2 := hid rX2
  have HTX4 := hid tX4
  have i2 : (bl.length : Int) < (bl.length : Int) + 3 := by omega
  rw [← hX]
  clear hX oX rX1 rX2 tX4 sX fX tX hadd c2 f2 v1 o1
  go_wp2
  go_quiet (fail)
  obtain ⟨X2, hX2⟩ : ∃ X2, X2 = X.drewN nq := ⟨_, rfl⟩
  have q2 : Quiet X X2 := ⟨nq, hX2⟩
  rw [← hX2]
  clear hX2 k1 k2 l0 l1 l2
  have HBL := hid (blot_own (w := X2) ((OwnB.of HOX.out).touch (Quiet.touch q2 []) (by simp)) (by omega))
  have HQ2 := hid q2
  clear q2
  go_wp2_with (first
    | (go_at_call 22; refine HBL.out.mono ?_; rintro e w5 ⟨rfl, _, ht5⟩; have g5 := owns_lt HOX.out; have r1 := kept_row (kept_row HRX1.out (Quiet.touch HQ2.out []) (by simp)) ht5 (fun hb => by have := g5 _ hb; omega); have r2 := kept_row (kept_row HRX2.out (Quiet.touch HQ2.out []) (by simp)) ht5 (fun hb => by have := g5 _ hb; omega); have c1 := fun i => cell_row r1 i; have c2 := fun i => cell_row r2 i; have f1 := fun i => unfrozen_row r1 i; have f2 := fun i => unfrozen_row r2 i; unfold zeroT at c1; have HT5 := hid ht5; have HR15 := hid r1; clear ht5 g5 r1 r2))
  obtain ⟨W2, hW2, q, t2⟩ := prog_end HR15.out r 0 false (.slice none 0 0) (.slice none 0 0) cnt0
  simp only [cnt0] at hW2 q
  rw [← hW2]
  clear hW2 c1 c2 f1 f2
  refine bodyPost_ret (v := .tuple #[toldV r 0 false (.slice none 0 0) (.slice none 0 0) cnt0, .bool true]) (by simp [results, Tryd.results7, go_sem, q, toldV, cnt0]) rfl ⟨r, A', ⟨_, rfl, ToldAt.err _ _ _⟩, ?_, HOUT.out⟩
  have tt : Touch [w.heap.size + 1, w.heap.size + 1 + 1, g] w4 W2 := (((HTX4.out.mono (by simp)).trans (Quiet.touch HQ2.out []) (by simp)).trans HT5.out (by simp [Value.ownBlock])).trans t2 (by simp)
  have g3 := owns_lt HO3.out g (by simp [Value.ownBlock])
  exact HD.out.wrap (W := w3.drew) HR.out ((HST.out.touch.trans HT3.out (by simp)).drew) tt (by
    intro b hb
    simp at hb
    have h3 := HT3.out.size
    refine .inl ⟨by omega, ?_⟩
    show b < w3.heap.size
    omega)

end
end Go.Proofs.YtcpncfngadablaaDoor
