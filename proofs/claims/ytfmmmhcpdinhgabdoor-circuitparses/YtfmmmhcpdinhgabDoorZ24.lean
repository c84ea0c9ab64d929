import Derived.Test.YtfmmmhcpdinhgabDoorZ23
/-
  The document's own Parse, from the resolved names on.
-/
namespace Go.Proofs.YtfmmmhcpdinhgabDoor
open Go.RowKit Go.Deep PureNet PureRd
set_option maxRecDepth 100000

theorem scanO_len : ∀ (r : List UInt8) (b : Bool) (i : Nat) (ws : List Wd) (cur : List UInt8), (scanO b i ws cur r).length ≤ r.length + 1
  | [], b, i, ws, cur => by
    rw [scanO]
    unfold emitO
    split <;> simp
  | c :: r, b, i, ws, cur => by
    have he : ∀ l : List Wd, (emitO l).length ≤ 1 := fun l => by unfold emitO; split <;> simp
    rw [scanO]
    split
    · rw [List.length_append]
      have h1 := he (ws ++ flO i cur)
      have h2 := scanO_len r false (i + 1) [] []
      rw [List.length_cons]
      omega
    · split
      · have h2 := scanO_len r true (i + 1) ws cur
        rw [List.length_cons]
        omega
      · split
        · have h2 := scanO_len r true (i + 1) (ws ++ flO i cur) []
          rw [List.length_cons]
          omega
        · split
          · have h2 := scanO_len r false (i + 1) (ws ++ flO i cur) []
            rw [List.length_cons]
            omega
          · have h2 := scanO_len r false (i + 1) ws (cur ++ [c])
            rw [List.length_cons]
            omega
theorem atC_at (text : List UInt8) (l : List Nat) : ∀ (k j p : Nat), l[k]? = some p → j < 2 → (atC text l)[k * 2 + j]? = (spI text p)[j]? := by
  induction l with
  | nil => intro k j p h; simp at h
  | cons z t ih =>
    intro k j p h hj
    have e : atC text (z :: t) = spI text z ++ atC text t := by simp [atC]
    have hl : (spI text z).length = 2 := rfl
    rw [e]
    cases k with
    | zero =>
      simp at h
      subst h
      rw [Nat.zero_mul, Nat.zero_add, List.getElem?_append_left (by omega)]
    | succ k =>
      rw [List.getElem?_append_right (by omega)]
      have : (k + 1) * 2 + j - (spI text z).length = k * 2 + j := by omega
      rw [this]
      exact ih k j p (by simpa using h) hj
theorem linesO_len (text : List UInt8) : (linesO text).length ≤ text.length + 1 := scanO_len text false 0 [] []

/-- what resolve has left for the rest of Parse. -/
structure ResT (text : List UInt8) (w W4 : World) (r : Nat) (s : Rs) (x : Dx) (q : Nat) (A B C : Int) (WX : World) : Prop where
  low : w.heap.size + 2 ≤ q
  row : WX.heap[q]? = some (.cells #[.int .i64 A, .int .i64 B, .int .i64 C] 30 (0, 0))
  ans : Ans w WX
  res : (∃ y gs os, resU (placeOf s) (usesOf 0 s.lines) (gatesOf s.lines) (List.replicate s.outs 0) 0 = (some y, gs, os) ∧ faV text (142, y.2) = .agg #[.int .i64 A, .int .i64 B, .int .i64 C]) ∨ (∃ gs os, resU (placeOf s) (usesOf 0 s.lines) (gatesOf s.lines) (List.replicate s.outs 0) 0 = (none, gs, os) ∧ A = 0 ∧ Rz W4 WX r text { dOf s with gs := gs } x os)
set_option maxHeartbeats 4000000 in
theorem parse_tail (T : Nat → List UInt8) (text : List UInt8) (w W4 WX : World) (r q : Nat) (s : Rs) (x : Dx) (A B C : Int) (H : Hid (ResT text w W4 r s x q A B C WX)) (HRD : Hid (readLinesF T text PureRd.start = s)) (HI : Hid (Inv s)) (HO : Hid (Ov s)) (HF : Hid (s.fault = none)) (HW4 : Hid (w.heap.size + 2 ≤ W4.heap.size))
    (u0 u1 u4 u5 u7 u8 u10 u11 u12 u13 u14 u15 u16 u17 u18 u19 u20 u21 u22 u23 u24 u25 u26 u27 u28 u29 u30 u31 u32 u33 u34 u35 u36 u37 u38 u39 u40 u41 u42 u43 u44 u45 u46 u47 u48 u49 u50 u51 u52 u53 u54 u55 u56 u57 u58 u59 u60 u61 u62 u63 u64 u65 u66 u67 u68 u69 u70 u71 u72 u73 u74 u75 u76 u77 u78 u79 u80 u81 : Value) :
    Code.wp Tryd.prog ((Tryd.f5.body.bind (tailReg 14)).getD .skip) (bodyPost Tryd.prog Tryd.f5 (fun e W => ReadIs w.heap.size T text e W ∧ Below w.heap.size w W)) { tmps := #[u0, u1, .pointer (some ⟨w.heap.size, 0, none⟩), .pointer (some ⟨w.heap.size + 1, 0, none⟩), u4, u5, .pointer (some ⟨r, 0, none⟩), u7, u8, .pointer (some ⟨q, 0, none⟩), u10, u11, u12, u13, u14, u15, u16, u17, u18, u19, u20, u21, u22, u23, u24, u25, u26, u27, u28, u29, u30, u31, u32, u33, u34, u35, u36, u37, u38, u39, u40, u41, u42, u43, u44, u45, u46, u47, u48, u49, u50, u51, u52, u53, u54, u55, u56, u57, u58, u59, u60, u61, u62, u63, u64, u65, u66, u67, u68, u69, u70, u71, u72, u73, u74, u75, u76, u77, u78, u79, u80, u81], defers := [] } WX := by
  have cX := fun j => cell_row H.out.row j
  have hsX := (Array.getElem?_eq_some_iff.1 H.out.row).1
  have hlow := H.out.low
  have AX := hid H.out.ans
  have HFN : Hid ((readLinesF T text PureRd.start).fault = none) := by show _ = _; rw [HRD.out]; exact HF.out
  conv in (Option.getD _ _) => whnf
  try dsimp only
  rcases H.out.res with ⟨y, gs, os, hres, hfv⟩ | ⟨gs, os, hres, hA, hrz⟩
  · have hA : A = 142 ∧ B = ((spotN (text.take y.2)).1 : Int) ∧ C = ((spotN (text.take y.2)).2 : Int) := by
      simp only [faV, Value.agg.injEq] at hfv
      simp at hfv
      exact ⟨hfv.1.symm, hfv.2.1.symm, hfv.2.2.symm⟩
    have hA0 : (A != 0) = true := by rw [hA.1]; rfl
    have RIS : Hid (∀ W9, ReadIs w.heap.size T text (.returned (.tuple #[.agg #[.string ⟨#[]⟩, .slice none 0 0, .slice none 0 0], .agg #[.int .i64 A, .int .i64 B, .int .i64 C]])) W9) := fun W9 => by
      obtain ⟨gs', os', hcn⟩ := res_some HI.out HO.out hres
      refine .inr (.inl ⟨HFN.out, y, gs', os', by rw [HRD.out]; exact hcn, ?_⟩)
      rw [hA.1, hA.2.1, hA.2.2]
      rfl
    clear hA hfv hres H
    go_upto_region 15 with fail
    have mixed := Tryd.lays161.mixed
    obtain ⟨a1, a2, a3, a4, a5, a6, a7, a8, a9, a10, a11, a12, a13, a14⟩ := AX.out.cells
    obtain ⟨d1, d2, d3, d4, d5, d6, d7, d8, d9, d10, d11, d12, d13, d14⟩ := AX.out.drew.cells
    have nb : q ≠ w.heap.size := by omega
    have nb' : w.heap.size ≠ q := by omega
    have nc : q ≠ w.heap.size + 1 := by omega
    have nc' : w.heap.size + 1 ≠ q := by omega
    have q0 : WX.drew.cell? ⟨q, 0, none⟩ = some (.int .i64 A) := cX 0
    have q1 : WX.drew.cell? ⟨q, 1, none⟩ = some (.int .i64 B) := cX 1
    have q2 : WX.drew.cell? ⟨q, 2, none⟩ = some (.int .i64 C) := cX 2
    have hsXd : q < WX.drew.heap.size := hsX
    go_region
    all_goals
      (generalize hW9 : World.drew (World.setCell _ _ _) = W9
       obtain ⟨n1, n2, n3, n4⟩ := AX.out.told _ _ _ _ _ _ W9 hW9.symm
       have N1 := hid n1
       have N2 := hid n2
       have N3 := hid n3
       clear hW9 n1 n2 n3 n4 a1 a2 a3 a4 a5 a6 a7 a8 a9 a10 a11 a12 a13 a14 d1 d2 d3 d4 d5 d6 d7 d8 d9 d10 d11 d12 d13 d14 q0 q1 q2
       go_wp2
       refine bodyPost_ret (results_cir rfl _ _ _ _ _ _ _ _ _ _ rfl rfl N1.out N2.out) rfl ?_
       exact ⟨RIS.out _, N3.out⟩)
  · have hA0 : (A != 0) = false := by rw [hA]; rfl
    have hcn := res_none HI.out HO.out hres
    have hft := connF_fit HI.out hcn
    have hgm : gs.length ≤ 65536 := by rw [hft.1]; exact HI.out.many HF.out
    have RZX := hid hrz
    obtain ⟨sg, cg, hsg, hcg, _⟩ := own_cells hrz.gates
    have hsg' : x.gv = .slice sg gs.length cg := hsg
    obtain ⟨so, co, hso⟩ := own_shape hrz.outs
    have CIR := hid (circles_any gs sg cg WX hcg hgm (fun k g hg => (hft.2 k g hg).2))
    have crg := (cell_row hrz.box 1).trans (show (rcells { dOf s with gs := gs } x)[1]? = some x.gv from rfl)
    rw [hsg'] at crg
    have hrX := hrz.size
    have HCN := hid hcn
    have HSG := hid hsg'
    have HSO := hid hso
    have HFT := hid hft
    have FC := hid (fun W a b => fault_any 143 a b W)
    clear hA hres H hcn hft hsg hsg' hso hcg hrz
    go_upto_region 17 with (go_at_call 14; refine CIR.out.mono ?_; rintro e w5 ⟨⟨c, rfl, hcir⟩, b5⟩; have HC := hid hcir; have RZ5 := hid (RZX.out.on b5); have A5 := hid (AX.out.on (b5.mono (by omega))); clear hcir b5)
    have hrl : w.heap.size + 2 ≤ r := Nat.le_trans HW4.out RZ5.out.low
    have hr5 := RZ5.out.size
    have hr0 : r ≠ w.heap.size := by omega
    have hr1 : r ≠ w.heap.size + 1 := by omega
    have hr2 : w.heap.size ≠ r := by omega
    have hr3 : w.heap.size + 1 ≠ r := by omega
    have ne : w.heap.size ≠ w.heap.size + 1 := by omega
    have ne' : w.heap.size + 1 ≠ w.heap.size := by omega
    clear crg hrX cX hsX
    rcases (show (c = -1) ∨ ∃ ci : Nat, c = (ci : Int) ∧ ci < gs.length from HC.out.imp (fun h => h.1) (fun ⟨i, a, b, _⟩ => ⟨i, a, b⟩)) with hc | ⟨ci, hc, hci⟩
    · have hc0 : ¬ (0 : Int) ≤ c := by omega
      have HCM := hid hc
      obtain ⟨a1, a2, a3, a4, a5, a6, a7, a8, a9, a10, a11, a12, a13, a14⟩ := A5.out.cells
      have k0 := (cell_row RZ5.out.box 0).trans (show (rcells { dOf s with gs := gs } x)[0]? = some (str s.cname) from rfl)
      have k1 := (cell_row RZ5.out.box 1).trans (show (rcells { dOf s with gs := gs } x)[1]? = some x.gv from rfl)
      have k2 := (cell_row RZ5.out.box 2).trans (show (rcells { dOf s with gs := gs } x)[2]? = some x.ov from rfl)
      rw [HSG.out] at k1
      rw [HSO.out] at k2
      clear hc
      go_wp2_with fail
      refine bodyPost_ret (results_cir rfl _ _ _ _ _ _ _ _ _ _ rfl rfl (A5.out.told0 _ _ _ _ _ _ _ rfl).1 (A5.out.told0 _ _ _ _ _ _ _ rfl).2.1) rfl ?_
      have n4 := A5.out.told0 (str s.cname) (.slice sg gs.length cg) (.slice so os.length co) (.int .i64 0) (.int .i64 0) (.int .i64 0) _ rfl
      have g5 := RZ5.out.gates
      have o5 := RZ5.out.outs
      rw [HSG.out] at g5
      rw [HSO.out] at o5
      have hw4 := HW4.out
      refine ⟨.inr (.inr ⟨HFN.out, gs, os, c, by rw [HRD.out]; exact HCN.out, HC.out, .inr ⟨HCM.out, sg, cg, so, co, by rw [HRD.out], ?_, ?_⟩⟩), n4.2.2.1⟩
      · exact own_lower (own_same g5 (fun g hg => n4.2.2.2 g (by have := (g5.lt g hg).1; omega) (by have := (g5.lt g hg).1; omega))) (by omega)
      · exact own_lower (own_same o5 (fun g hg => n4.2.2.2 g (by have := (o5.lt g hg).1; omega) (by have := (o5.lt g hg).1; omega))) (by omega)
    · have hnl : ci < s.names.length := by rw [← HFT.out.1]; exact hci
      obtain ⟨p, hp⟩ : ∃ p, s.names[ci]? = some p := ⟨_, List.getElem?_eq_getElem hnl⟩
      obtain ⟨a9, ha9⟩ : ∃ qq : Int, qq = ((spotN (text.take p)).1 : Int) := ⟨_, rfl⟩
      obtain ⟨b9, hb9⟩ : ∃ qq : Int, qq = ((spotN (text.take p)).2 : Int) := ⟨_, rfl⟩
      have oa : w5.ownsRow W4.heap.size 28 2 x.av s.names.length (atC text s.names) := RZ5.out.ats
      have e0 : (atC text s.names)[ci * 2 + 0]? = some (.int .i64 a9) := by rw [atC_at text s.names ci 0 p hp (by omega), ha9]; rfl
      have e1 : (atC text s.names)[ci * 2 + 1]? = some (.int .i64 b9) := by rw [atC_at text s.names ci 1 p hp (by omega), hb9]; rfl
      obtain ⟨ga', ca, hav, _, hga5, j0, _⟩ := ShfKit.own_cell oa e0
      obtain ⟨ga2, ca2, hav2, _, _, j1, _⟩ := ShfKit.own_cell oa e1
      rw [hav] at hav2
      simp only [Value.slice.injEq, Option.some.injEq, Addr.mk.injEq, and_true, true_and] at hav2
      obtain ⟨h2a, _⟩ := hav2
      rw [← h2a] at j1
      have j0' : w5.cell? ⟨ga', ci * 2, none⟩ = some (.int .i64 a9) := j0
      have k4 := (cell_row RZ5.out.box 4).trans (show (rcells { dOf s with gs := gs } x)[4]? = some x.av from rfl)
      rw [hav] at k4
      have hc0 : (0 : Int) ≤ c := by omega
      have RIS : Hid (∀ W9, ReadIs w.heap.size T text (.returned (.tuple #[.agg #[.string ⟨#[]⟩, .slice none 0 0, .slice none 0 0], .agg #[.int .i64 143, .int .i64 a9, .int .i64 b9]])) W9) := fun W9 => by
        refine .inr (.inr ⟨HFN.out, gs, os, c, by rw [HRD.out]; exact HCN.out, HC.out, .inl ⟨by omega, ?_⟩⟩)
        have e5 : (readLinesF T text PureRd.start).names.getD c.toNat 0 = p := by rw [HRD.out, hc, Int.toNat_natCast, List.getD_eq_getElem?_getD, hp]; rfl
        rw [e5, ha9, hb9]
        rfl
      have hcl : (ci : Int) < (s.names.length : Int) := by omega
      have A5b := A5
      clear ha9 hb9 oa e0 e1 j0 h2a hav hp HC
      subst hc
      obtain ⟨nn, hnn⟩ : ∃ nn, nn = s.names.length := ⟨_, rfl⟩
      rw [← hnn] at k4 hcl hnl
      clear hnn
      go_wp2_with (go_at_call 10; refine (FC.out _ _ _).mono ?_; rintro e w6 ⟨rfl, b6⟩; have A6 := hid (A5.out.on (b6.mono (by omega))); obtain ⟨a1, a2, a3, a4, a5, a6, a7, a8, a9', a10, a11, a12, a13, a14⟩ := A6.out.cells; clear b6)
      refine bodyPost_ret (results_cir rfl _ _ _ _ _ _ _ _ _ _ rfl rfl (A6.out.told0 _ _ _ _ _ _ _ rfl).1 (A6.out.told0 _ _ _ _ _ _ _ rfl).2.1) rfl ?_
      exact ⟨RIS.out _, (A6.out.told0 _ _ _ _ _ _ _ rfl).2.2.1⟩
end Go.Proofs.YtfmmmhcpdinhgabDoor
/-
  The document's reading: names become places.
-/
namespace Go.Proofs.YtfmmmhcpdinhgabDoor
open Go.RowKit Go.Deep PureNet PureRd
set_option maxRecDepth 100000

theorem one_cellsw (k : Int) (s : ByteArray) (a b c d : Int) : (#[Value.int .i64 k, .string s, .int .i64 a, .int .i64 b, .int .i64 c, .int .i64 d] : Array Value).all (·.oneCell') = true := by
  rw [← Array.all_toList]
  rfl
theorem size57w : (Tryd.prog.info? 57).map (·.size) = some 6 := by kernel_rfl
theorem step_put {ops : Array Oper} {o : Oper} {a : Act} {w : World} {K : Act → World → Prop} {Q : Exit → Act → World → Prop} {X : Prop} (hgd : o.guard = none) (x y : Operand) (ho : o.op = .store 57 x y) (g j : Nat) (z : Ga)
    (hx : a.eval x = .pointer (some ⟨g, j * 6, none⟩)) (hy : a.eval y = .agg #[.int .i64 z.kind, .string z.name, .int .i64 z.op, .int .i64 z.a, .int .i64 z.b, .int .i64 z.c]) (ht : w.there g (j * 6) 6) (h : K (a.put o.dst undef) (putGa w g j z)) : if Region.wanted o (yielded ops a.tmps) = true then Oper.wp Tryd.prog o a w K Q else X := by
  have hw : Region.wanted o (yielded ops a.tmps) = true := by simp [Region.wanted, hgd]
  rw [if_pos hw]
  exact wp_store_mid 57 x y ho g (j * 6) _ hx hy ht size57w (one_cellsw _ _ _ _ _ _) h
theorem isSome_ga (g : Ga) (jj : Nat) (h : jj < 6) : ((ga g)[jj]?).isSome = true := by
  have hl : (ga g).length = 6 := rfl
  rw [List.getElem?_eq_getElem (by omega)]
  rfl
set_option maxHeartbeats 8000000 in
theorem resolve_doc (w W : World) (r : Nat) (text : List UInt8) (s : Rs) (x : Dx) (h : Dr w W r text (dOf s) x) (hi : Inv s) (ho : Ov s) (hf : s.fault = none) :
    Calls Tryd.prog 13 #[.pointer (some ⟨r, 0, none⟩)] W (ResIs w W r text s x (resU (placeOf s) (usesOf 0 s.lines) (gatesOf s.lines) (List.replicate s.outs 0) 0)) := by
  obtain ⟨us, hus⟩ : ∃ us, us = usesOf 0 s.lines := ⟨_, rfl⟩
  obtain ⟨RES, hRES⟩ : ∃ z, z = resU (placeOf s) us (gatesOf s.lines) (List.replicate s.outs 0) 0 := ⟨_, rfl⟩
  rw [← hus, ← hRES]
  obtain ⟨n, hn⟩ : ∃ n, n = us.length := ⟨_, rfl⟩
  have hUS : (dOf s).us = us := hus.symm
  have hown := h.uses
  rw [hUS, ← hn] at hown
  obtain ⟨su, cu, hsu⟩ := own_shape hown
  have hln := lines_len hi ho
  have hml := hi.many hf
  have hmo := ho.few
  have hnl : n ≤ 1048576 := by
    have := usesOf_len (ls := s.lines) hi.uses3 0
    rw [← hus, ← hn] at this
    omega
  have hN : x.N.length ≤ 65536 := by
    have h1 : x.N.length = s.names.length := h.nn.1
    omega
  have UIN : Hid (∀ u ∈ us, (u.gate = -1 ∨ (0 ≤ u.gate ∧ u.gate < (((gatesOf s.lines).length : Nat) : Int))) ∧ 0 ≤ u.op ∧ u.op ≤ 2) := fun u hu => by
    have := usesOf_in s.lines 0 hi.uses3 u (by rw [← hus]; exact hu)
    rw [Nat.zero_add] at this
    exact this
  have CNT : Hid (cntU us = s.outs) := by
    show _ = _
    rw [hus, cntU_usesOf s.lines 0 hi.form, ho.outs]
  have hgl : (gatesOf s.lines).length ≤ 65536 := by rw [gates_len hi]; exact hml
  have HRES := hid hRES
  have HN := hid hn
  have HUS := hid hUS
  have HSU := hid hsu
  have H0 := hid h
  have HW : Hid (w.heap.size ≤ W.heap.size) := h.below.size
  have FC := hid (fun W a b => fault_any 142 a b W)
  have PLC : Hid (∀ W3 d3 os (k : List UInt8), d3.pl = placeOf s → Rz w W3 r text d3 x os → Calls Tryd.prog 22 #[.pointer (some ⟨x.kb, 0, none⟩), str k] W3 fun e w' => e = .returned (.int .i64 (plI (placeOf s k))) ∧ Below W3.heap.size W3 w') := fun W3 d3 os k hd h3 => by
    have := h3.place (by omega) k
    rw [hd] at this
    exact this
  have hrW : r < W.heap.size := h.size
  have START : Hid (∀ W1, W1 = W.alloc (Obj.cells #[.int .i64 0, .int .i64 0, .int .i64 0] 30) → Rz w W1 r text (dOf s) x (List.replicate s.outs 0) ∧ W1.heap[W.heap.size]? = some (.cells #[.int .i64 0, .int .i64 0, .int .i64 0] 30 (0, 0)) ∧ Below w.heap.size W W1 ∧ Kp W W1) := fun W1 h1 => by
    have b1 : Below W.heap.size W W1 := by rw [h1]; exact (Below.refl _ _).alloc (Nat.le_refl _) _
    exact ⟨(Rz.of h).on b1, by rw [h1]; exact heap_alloc_new W _, b1.mono h.below.size, kp_below b1⟩
  clear h hi ho hf hus hRES hn hUS hown hsu hln hml
  go_enter Tryd.func13, Tryd.ntmps13
  go_wp2_with fail
  go_loopw [3, 4] (fun ov iv WL => Hid (∃ (i : Nat) (gs : List Ga) (os : List Int), ov = .int .i64 (cntU (us.take i) : Int) ∧ iv = .int .i64 (i : Int) ∧ i ≤ n ∧ gs.length = (gatesOf s.lines).length ∧ os.length = s.outs ∧ Rz w WL r text { dOf s with gs := gs } x os ∧ WL.heap[W.heap.size]? = some (.cells #[.int .i64 0, .int .i64 0, .int .i64 0] 30 (0, 0)) ∧ Below w.heap.size W WL ∧ Kp W WL ∧ resU (placeOf s) (us.drop i) gs os (cntU (us.take i)) = RES)) (fun _ iv _ => match iv with | .int _ i => n + 1 - i.toNat | _ => 0)
  case atStart => exact ⟨0, gatesOf s.lines, List.replicate s.outs 0, rfl, rfl, Nat.zero_le _, rfl, by simp, (START.out _ rfl).1, (START.out _ rfl).2.1, (START.out _ rfl).2.2.1, (START.out _ rfl).2.2.2, HRES.out.symm⟩
  case round =>
    clear START
    obtain ⟨WW, hWW⟩ : ∃ WW, WW = wr := ⟨_, rfl⟩
    rw [← hWW] at hrel ⊢
    clear hWW
    obtain ⟨i, gs, os, rfl, rfl, hin, hgs, hos, hrz, hr30, hbl, hkp, hres⟩ := hrel.out
    clear hrel
    have RZ := hid hrz
    have R30 := hid hr30
    have BL := hid hbl
    have KP := hid hkp
    have RS := hid hres
    have cru := (cell_row hrz.box 5).trans (show (rcells { dOf s with gs := gs } x)[5]? = some x.uv from rfl)
    rw [HSU.out] at cru
    have hrWW : r < WW.heap.size := hrz.size
    have hWs : W.heap.size < WW.heap.size := (Array.getElem?_eq_some_iff.1 hr30).1
    have c30 := fun j => cell_row hr30 j
    have f30 := fun j => unfrozen_row hr30 j
    obtain ⟨k, hk⟩ : ∃ k, k = cntU (us.take i) := ⟨_, rfl⟩
    rw [← hk] at RS ⊢
    have HK := hid hk
    have hil : i < n ∨ i = n := by omega
    clear hrz hr30 hbl hkp hres hk
    rcases hil with hlt | hlt
    · clear c30 f30
      obtain ⟨u, hu⟩ : ∃ u, us[i]? = some u := ⟨_, List.getElem?_eq_getElem (by rw [← HN.out]; exact hlt)⟩
      obtain ⟨a9, ha9⟩ : ∃ qq : Int, qq = ((spotN (text.take u.wd.2)).1 : Int) := ⟨_, rfl⟩
      obtain ⟨b9, hb9⟩ : ∃ qq : Int, qq = ((spotN (text.take u.wd.2)).2 : Int) := ⟨_, rfl⟩
      have hdrop : us.drop i = u :: us.drop (i + 1) := by
        have hl2 : i < us.length := by rw [← HN.out]; exact hlt
        rw [List.drop_eq_getElem_cons hl2]
        congr 1
        exact (List.getElem?_eq_some_iff.1 hu).2
      have htake : us.take (i + 1) = us.take i ++ [u] := by rw [List.take_add_one, hu]; rfl
      have hcnt : cntU (us.take (i + 1)) = k + (if u.gate < 0 then 1 else 0) := by
        rw [htake, cntU_app, HK.out]
        congr 1
        unfold cntU
        by_cases hg : u.gate < 0 <;> simp [hg]
      have hcle : cntU (us.take (i + 1)) ≤ s.outs := by
        rw [← CNT.out]
        conv => rhs; rw [← List.take_append_drop (i + 1) us]
        rw [cntU_app]
        omega
      have UG := hid (UIN.out u (List.mem_of_getElem? hu))
      have RU := RS.out
      rw [hdrop, resU] at RU
      have HRU := hid RU
      obtain ⟨gu, cu2, hgu, _, hguW, k0⟩ : ∃ g c, x.uv = .slice (some ⟨g, 0, none⟩) n c ∧ w.heap.size ≤ g ∧ g < WW.heap.size ∧ ∀ j, j < 5 → WW.cell? ⟨g, i * 5 + j, none⟩ = (usC1 text u)[j]? := by
        have ou := RZ.out.uses
        have e1 : ({ dOf s with gs := gs } : Db).us = us := HUS.out
        rw [e1, ← HN.out] at ou
        have at_ : ∀ j, j < 5 → (usC text us)[i * 5 + j]? = some ((usC1 text u)[j]?.getD undef) := fun j hj => by
          rw [usC_at text us i j u hu hj]
          have hl : (usC1 text u).length = 5 := rfl
          rw [List.getElem?_eq_getElem (by omega)]
          rfl
        obtain ⟨g, c, h1, h2, h3, _⟩ := ShfKit.own_cell ou (at_ 0 (by omega))
        refine ⟨g, c, h1, h2, h3, fun j hj => ?_⟩
        obtain ⟨g', c', h1', h2', h3', h4', _⟩ := ShfKit.own_cell ou (at_ j hj)
        rw [h1] at h1'
        simp only [Value.slice.injEq, Option.some.injEq, Addr.mk.injEq, and_true, true_and] at h1'
        rw [h1'.1, h4']
        have hl : (usC1 text u).length = 5 := rfl
        rw [List.getElem?_eq_getElem (by omega)]
        rfl
      rw [HSU.out] at hgu
      simp only [Value.slice.injEq, true_and] at hgu
      obtain ⟨hgu1, _⟩ := hgu
      rw [hgu1] at cru
      have k1 : WW.cell? ⟨gu, i * 5, none⟩ = some (str u.wd.1) := k0 0 (by omega)
      have k2 : WW.cell? ⟨gu, i * 5 + 1, none⟩ = some (.int .i64 a9) := by rw [k0 1 (by omega), ha9]; rfl
      have k3 : WW.cell? ⟨gu, i * 5 + 2, none⟩ = some (.int .i64 b9) := by rw [k0 2 (by omega), hb9]; rfl
      have k4 : WW.cell? ⟨gu, i * 5 + 3, none⟩ = some (.int .i64 u.gate) := k0 3 (by omega)
      have k5 : WW.cell? ⟨gu, i * 5 + 4, none⟩ = some (.int .i64 u.op) := k0 4 (by omega)
      have hlt1 : (i : Int) < (n : Int) := by omega
      have v1 : IntKind.i64.wrap ((i : Int) + 1) = (i : Int) + 1 := by rw [IntKind.wrap_i64]; omega
      have HA9 := hid ha9
      have HB9 := hid hb9
      have HCN := hid hcnt
      have HCL := hid hcle
      obtain ⟨WB, hWB⟩ : ∃ WB, WB = WW.alloc (Obj.cells #[str u.wd.1, .int .i64 a9, .int .i64 b9, .int .i64 u.gate, .int .i64 u.op] 74) := ⟨_, rfl⟩
      have bB : Below WW.heap.size WW WB := by rw [hWB]; exact (Below.refl _ _).alloc (Nat.le_refl _) _
      have RZB := hid (RZ.out.on bB)
      have QB : Hid (WB.heap[WW.heap.size]? = some (.cells #[str u.wd.1, .int .i64 a9, .int .i64 b9, .int .i64 u.gate, .int .i64 u.op] 74 (0, 0))) := by rw [hWB]; exact heap_alloc_new WW _
      have cB := fun j => cell_row QB.out j
      have hsB := (Array.getElem?_eq_some_iff.1 QB.out).1
      have RB30 := hid ((bB.block W.heap.size hWs).trans R30.out)
      have BLB : Hid (Below w.heap.size W WB) := BL.out.trans (bB.mono (Nat.le_trans RZ.out.below.size (Nat.le_refl _)))
      have KPB : Hid (Kp W WB) := KP.out.trans (kp_below bB)
      have HWB := hid hWB
      have hrB := RZB.out.size
      clear k0 hgu1 ha9 hb9 hdrop htake RU hu hcnt hcle bB hWB
      have SB : WB.drew.cell? ⟨r, 3, none⟩ = some (.pointer (some ⟨x.kb, 0, none⟩)) ∧ WB.drew.cell? ⟨WW.heap.size, 0, none⟩ = some (str u.wd.1) := ⟨(cell_row RZB.out.box 3).trans rfl, cB 0⟩
      go_upto_region 6 with (rw [← HWB.out])
      refine wp_region_noPanic ?_
      refine wp_region_held_drew (S := fun W => W.cell? ⟨r, 3, none⟩ = some (.pointer (some ⟨x.kb, 0, none⟩)) ∧ W.cell? ⟨WW.heap.size, 0, none⟩ = some (str u.wd.1)) (by kernel_rfl) SB (fun hHeld => ?_)
      refine wpAnyH_take (i := 0) (v := ?_) (by simp only [List.getElem?_toArray, List.getElem?_cons_zero]; rfl) (by kernel_rfl) (by kernel_rfl) (by kernel_rfl) (fun _ _ _ h => h) (Or.inl ⟨by rfl, ?_⟩) (by assumption) ?_
      rotate_left 1
      · intro w hSw; (try dsimp only at hSw); go_simp; (try with_reducible rfl)
      try simp only [Act.put, List.setIfInBounds_toArray, List.set_cons_zero, List.set_cons_succ]
      refine wpAnyH_take (i := 1) (v := ?_) (by simp only [List.getElem?_toArray, List.getElem?_cons_succ, List.getElem?_cons_zero]; rfl) (by kernel_rfl) (by kernel_rfl) (by kernel_rfl) (fun _ _ _ h => h) (Or.inl ⟨by rfl, ?_⟩) (by assumption) ?_
      rotate_left 1
      · intro w hSw; (try dsimp only at hSw); go_simp; (try with_reducible rfl)
      try simp only [Act.put, List.setIfInBounds_toArray, List.set_cons_zero, List.set_cons_succ]
      refine wpAnyH_take (i := 2) (v := ?_) (by simp only [List.getElem?_toArray, List.getElem?_cons_succ, List.getElem?_cons_zero]; rfl) (by kernel_rfl) (by kernel_rfl) (by kernel_rfl) (fun _ _ _ h => h) (Or.inl ⟨by rfl, ?_⟩) (by assumption) ?_
      rotate_left 1
      · intro w hSw; (try dsimp only at hSw); go_simp; (try with_reducible rfl)
      try simp only [Act.put, List.setIfInBounds_toArray, List.set_cons_zero, List.set_cons_succ]
      refine wpAnyH_take (i := 3) (v := ?_) (by simp only [List.getElem?_toArray, List.getElem?_cons_succ, List.getElem?_cons_zero]; rfl) (by kernel_rfl) (by kernel_rfl) (by kernel_rfl) (fun _ _ _ h => h) (Or.inl ⟨by rfl, ?_⟩) (by assumption) ?_
      rotate_left 1
      · intro w hSw; (try dsimp only at hSw); go_simp; (try with_reducible rfl)
      try simp only [Act.put, List.setIfInBounds_toArray, List.set_cons_zero, List.set_cons_succ]
      refine wpAnyH_take (i := 4) (v := ?_) (by simp only [List.getElem?_toArray, List.getElem?_cons_succ, List.getElem?_cons_zero]; rfl) (by kernel_rfl) (by kernel_rfl) (by kernel_rfl) (fun _ _ _ h => h) (Or.inl ⟨by rfl, ?_⟩) (by assumption) ?_
      rotate_left 1
      · intro w hSw; (try dsimp only at hSw); go_simp; (try with_reducible rfl)
      try simp only [Act.put, List.setIfInBounds_toArray, List.set_cons_zero, List.set_cons_succ]
      refine wpAnyH_take (i := 5) (v := ?_) (by simp only [List.getElem?_toArray, List.getElem?_cons_succ, List.getElem?_cons_zero]; rfl) (by kernel_rfl) (by kernel_rfl) (by kernel_rfl) (fun _ _ _ h => h) (Or.inl ⟨by rfl, ?_⟩) (by assumption) ?_
      rotate_left 1
      · intro w hSw; (try dsimp only at hSw); go_simp; (try with_reducible rfl)
      try simp only [Act.put, List.setIfInBounds_toArray, List.set_cons_zero, List.set_cons_succ]
      refine wpAnyH_take (i := 6) (v := ?_) (by simp only [List.getElem?_toArray, List.getElem?_cons_succ, List.getElem?_cons_zero]; rfl) (by kernel_rfl) (by kernel_rfl) (by kernel_rfl) (fun _ _ _ h => h) (Or.inl ⟨by rfl, ?_⟩) (by assumption) ?_
      rotate_left 1
      · intro w hSw; (try dsimp only at hSw); go_simp; (try with_reducible rfl)
      try simp only [Act.put, List.setIfInBounds_toArray, List.set_cons_zero, List.set_cons_succ]
      refine wpAnyH_ready (rs := [7]) (by kernel_rfl) (by simp) ?_
      refine AllReadyH.cons (by simp only [List.getElem?_toArray, List.getElem?_cons_succ, List.getElem?_cons_zero]; rfl) (fun K hK => ?_) AllReadyH.nil
      go_simp
      go_at_call 22
      refine (PLC.out _ _ _ _ rfl (RZB.out.on (Below.refl _ _).drew)).mono ?_
      rintro e w5 ⟨rfl, b5⟩
      have BD : Below WB.heap.size WB w5 := ((Below.refl WB.heap.size WB).drew).trans b5
      have RZ5 := hid (RZB.out.on BD)
      have q5 := (BD.block WW.heap.size (by have := (Array.getElem?_eq_some_iff.1 QB.out).1; omega)).trans QB.out
      have c5 := fun j => cell_row q5 j
      have hq5 := (Array.getElem?_eq_some_iff.1 q5).1
      have R5 := hid ((BD.block W.heap.size (by omega)).trans RB30.out)
      have BL5 : Hid (Below w.heap.size W w5) := BLB.out.trans (BD.mono (Nat.le_trans (RZB.out.below.size) (Nat.le_refl _)))
      have KP5 : Hid (Kp W w5) := KPB.out.trans (kp_below BD)
      have Q5 := hid q5
      clear b5 BD q5
      have S5 : w5.cell? ⟨r, 3, none⟩ = some (.pointer (some ⟨x.kb, 0, none⟩)) ∧ w5.cell? ⟨WW.heap.size, 0, none⟩ = some (str u.wd.1) := ⟨(cell_row RZ5.out.box 3).trans rfl, c5 0⟩
      clear hHeld
      refine hK.out _ _ S5 (fun hHeld => ?_)
      clear hK K
      try simp only [Act.put, List.setIfInBounds_toArray, List.set_cons_zero, List.set_cons_succ]
      refine wpAnyH_take (i := 8) (v := ?_) (by simp only [List.getElem?_toArray, List.getElem?_cons_succ, List.getElem?_cons_zero]; rfl) (by kernel_rfl) (by kernel_rfl) (by kernel_rfl) (fun _ _ _ h => h) (Or.inl ⟨by rfl, ?_⟩) (by assumption) ?_
      rotate_left 1
      · intro w hSw; (try dsimp only at hSw); go_simp; (try with_reducible rfl)
      try simp only [Act.put, List.setIfInBounds_toArray, List.set_cons_zero, List.set_cons_succ]
      refine wpAnyH_done (by kernel_rfl) ?_ _
      refine NoPanic.normal ?_
      obtain ⟨pv, hpv⟩ : ∃ z, z = placeOf s u.wd.1 := ⟨_, rfl⟩
      rw [← hpv] at HRU ⊢
      clear SB cB hsB RB30 BLB KPB RZB QB HWB hrB cru k1 k2 k3 k4 k5 hguW RZ R30 BL KP RS hpv
      have hs5 : W.heap.size < w5.heap.size := (Array.getElem?_eq_some_iff.1 R5.out).1
      have hr5 := RZ5.out.size
      cases pv with
      | none =>
        have HE : Hid (∃ y gs os, RES = (some y, gs, os) ∧ y = u.wd) := ⟨u.wd, gs, os, HRU.out.symm, rfl⟩
        have HFV : Hid (faV text (142, u.wd.2) = .agg #[.int .i64 142, .int .i64 a9, .int .i64 b9]) := by show _ = _; rw [HA9.out, HB9.out]; rfl
        have hp1 : plI none = -1 := rfl
        rw [hp1]
        clear hp1
        go_wp2_with (go_at_call 10; refine (FC.out _ _ _).mono ?_; rintro e w6 ⟨rfl, b6⟩; have R6 := hid ((b6.block _ hs5).trans R5.out); have c6 := fun j => cell_row R6.out j; have f6 := fun j => unfrozen_row R6.out j; have hs6 := (Array.getElem?_eq_some_iff.1 R6.out).1; have BL6 : Hid (Below w.heap.size W w6) := BL5.out.trans (b6.mono (RZ5.out.below.size)); have KP6 : Hid (Kp W w6) := KP5.out.trans (kp_below b6); clear b6)
        obtain ⟨y1, gs1, os1, e1, e2⟩ := HE.out
        exact bodyPost_ret (v := .agg #[.int .i64 142, .int .i64 a9, .int .i64 b9]) (by simp [results, Tryd.results13, go_sem, c6]) rfl ⟨ans_below HW.out BL6.out _ _ _, KP6.out.ans (Nat.le_refl _), .inl ⟨y1, gs1, os1, e1, by rw [e2]; exact congrArg _ HFV.out.symm⟩⟩
      | some p =>
        have hp1 : plI (some p) = (p : Int) := rfl
        rw [hp1]
        have hp0 : ¬ ((p : Int) < 0) := by omega
        clear hp1
        rcases UG.out with ⟨hg | hg, ho1, ho2⟩
        · have hg0 : u.gate < 0 := by omega
          have hkl : k < s.outs := by
            have h1 := HCN.out
            have h2 := HCL.out
            rw [if_pos hg0] at h1
            omega
          obtain ⟨go, co, hgo, _, hgoW, ko, fo⟩ := ShfKit.own_cell (j := k) RZ5.out.outs (x := .int .i64 (os.getD k 0)) (by rw [nu, List.getElem?_map, List.getElem?_eq_getElem (by omega)]; simp [List.getD_eq_getElem?_getD, hos, hkl])
          have cro := (cell_row RZ5.out.box 2).trans (show (rcells { dOf s with gs := gs } x)[2]? = some x.ov from rfl)
          rw [hgo] at cro
          have hkl1 : (k : Int) < (os.length : Int) := by omega
          have vk : IntKind.i64.wrap ((k : Int) + 1) = (k : Int) + 1 := by rw [IntKind.wrap_i64]; omega
          have RZ6 := hid (RZ5.out.out (k := k) hgo (p : Int))
          have hob : x.ov.ownBlock = some go := by rw [hgo]; rfl
          have hgo30 : go ≠ W.heap.size := fun e => by
            obtain ⟨c1, f1, hk1⟩ := Lib.ownsRow_kind RZ5.out.outs go hob
            rw [e, R5.out] at hk1
            simp at hk1
          have KP6 : Hid (Kp W (w5.setCell ⟨go, k, none⟩ (.int .i64 (p : Int)))) := KP5.out.grow RZ5.out.outs (by decide) (ShfKit.own_set (j := k) RZ5.out.outs hgo (.int .i64 (p : Int))).2
          have BL6 : Hid (Below w.heap.size W (w5.setCell ⟨go, k, none⟩ (.int .i64 (p : Int)))) := BL5.out.setCell (p := ⟨go, k, none⟩) (RZ5.out.outs.lt go hob).1 _
          have R6 : Hid ((w5.setCell ⟨go, k, none⟩ (.int .i64 (p : Int))).heap[W.heap.size]? = some (.cells #[.int .i64 0, .int .i64 0, .int .i64 0] 30 (0, 0))) := (Below.heap_setCell w5 _ _ _ (Ne.symm hgo30)).trans R5.out
          have HRU2 : Hid (resU (placeOf s) (us.drop (i + 1)) gs (os.set k (p : Int)) (k + 1) = RES) := by
            have := HRU.out
            simp only [if_pos hg0] at this
            exact this
          have HCN2 : Hid (cntU (us.take (i + 1)) = k + 1) := by
            have h1 := HCN.out
            rw [if_pos hg0] at h1
            exact h1
          have hgd : u.gate = -1 := hg
          have hg1 : (u.gate < 0) := hg0
          clear hgo hob hg hg0 hgd
          go_wp2_with fail
          refine ⟨⟨i + 1, gs, os.set k (p : Int), by rw [HCN2.out]; go_num, by go_num, by omega, hgs, by rw [List.length_set]; exact hos, RZ6.out, R6.out, BL6.out, KP6.out, by rw [HCN2.out]; exact HRU2.out⟩, ?_⟩
          all_goals
            show n + 1 - ((i : Int) + 1).toNat < n + 1 - (i : Int).toNat
            omega
        · obtain ⟨j, hj⟩ : ∃ j : Nat, u.gate = (j : Int) := ⟨u.gate.toNat, by omega⟩
          have hjl : j < gs.length := by omega
          have hg1 : ¬ ((j : Int) < 0) := by omega
          obtain ⟨g0, hg0⟩ : ∃ g0, gs[j]? = some g0 := ⟨_, List.getElem?_eq_getElem hjl⟩
          obtain ⟨gg, cg, hgg, hggl, hggW, d0⟩ : ∃ g c, x.gv = .slice (some ⟨g, 0, none⟩) gs.length c ∧ w.heap.size ≤ g ∧ g < w5.heap.size ∧ ∀ jj, jj < 6 → w5.cell? ⟨g, j * 6 + jj, none⟩ = (ga g0)[jj]? ∧ w5.frozen? ⟨g, j * 6 + jj, none⟩ = false := by
            have ou : w5.ownsRow w.heap.size 57 6 x.gv gs.length (gas gs) := RZ5.out.gates
            have at_ : ∀ jj, jj < 6 → (gas gs)[j * 6 + jj]? = some ((ga g0)[jj]?.getD undef) := fun jj hjj => by
              rw [gas_at gs j jj hjl hjj, (List.getElem?_eq_some_iff.1 hg0).2]
              have hl : (ga g0).length = 6 := rfl
              rw [List.getElem?_eq_getElem (by omega)]
              rfl
            obtain ⟨g, c, h1, h2, h3, _⟩ := ShfKit.own_cell ou (at_ 0 (by omega))
            refine ⟨g, c, h1, h2, h3, fun jj hjj => ?_⟩
            obtain ⟨g', c', h1', h2', h3', h4', h5'⟩ := ShfKit.own_cell ou (at_ jj hjj)
            rw [h1] at h1'
            simp only [Value.slice.injEq, Option.some.injEq, Addr.mk.injEq, and_true, true_and] at h1'
            rw [h1'.1, h4']
            have hl : (ga g0).length = 6 := rfl
            rw [List.getElem?_eq_getElem (by omega)]
            exact ⟨rfl, h5'⟩
          have d1 : w5.cell? ⟨gg, j * 6, none⟩ = some (.int .i64 g0.kind) := (d0 0 (by omega)).1
          have d2 : w5.cell? ⟨gg, j * 6 + 1, none⟩ = some (.string g0.name) := (d0 1 (by omega)).1
          have d3 : w5.cell? ⟨gg, j * 6 + 2, none⟩ = some (.int .i64 g0.op) := (d0 2 (by omega)).1
          have d4 : w5.cell? ⟨gg, j * 6 + 3, none⟩ = some (.int .i64 g0.a) := (d0 3 (by omega)).1
          have d5 : w5.cell? ⟨gg, j * 6 + 4, none⟩ = some (.int .i64 g0.b) := (d0 4 (by omega)).1
          have d6 : w5.cell? ⟨gg, j * 6 + 5, none⟩ = some (.int .i64 g0.c) := (d0 5 (by omega)).1
          have crg := (cell_row RZ5.out.box 1).trans (show (rcells { dOf s with gs := gs } x)[1]? = some x.gv from rfl)
          rw [hgg] at crg
          have q5' := Q5.out
          rw [hj] at q5'
          have e5 := fun i => cell_row q5' i
          have hjl1 : (j : Int) < (gs.length : Int) := by omega
          obtain ⟨WC, hWC⟩ : ∃ WC, WC = w5.drew.alloc (Obj.cells (ga g0).toArray 57) := ⟨_, rfl⟩
          have bC : Below w5.heap.size w5 WC := by rw [hWC]; exact ((Below.refl _ _).drew).alloc (Nat.le_refl _) _
          have hWCs : WC.heap.size = w5.heap.size + 1 := by rw [hWC]; simp
          have QC : Hid (WC.heap[w5.heap.size]? = some (.cells (ga g0).toArray 57 (0, 0))) := by rw [hWC]; exact heap_alloc_new w5.drew _
          have HWC := hid hWC
          have BC := hid bC
          have HGG := hid hgg
          have HG0 := hid hg0
          have HJ := hid hj
          have hopc : u.op = 0 ∨ u.op = 1 ∨ u.op = 2 := by omega
          have q5n : Hid (WC.heap[WW.heap.size]? = some (.cells #[str u.wd.1, .int .i64 a9, .int .i64 b9, .int .i64 (j : Int), .int .i64 u.op] 74 (0, 0))) := (bC.block _ hq5).trans q5'
          clear d0 hgg hg hg0 q5' c5 hWC bC hj
          go_upto_region 12 with fail
          go_cut [7] (fun v7 wx => v7 = .pointer (some ⟨w5.heap.size, 0, none⟩) ∧ wx = WC)
          case first =>
            go_region
            all_goals (go_wp2_with fail; go_meet; exact ⟨rfl, HWC.out.symm⟩)
          case rest =>
          obtain ⟨hc1, hc2⟩ := hcut
          rw [hc1, hc2]
          clear hc1 hc2 d1 d2 d3 d4 d5 d6 crg e5
          have ec := fun i => cell_row q5n.out i
          have cc := fun i => cell_row QC.out i
          have fc := fun i => unfrozen_row QC.out i
          have hq5c : WW.heap.size < WC.heap.size := by omega
          have hqc : w5.heap.size < WC.heap.size := by omega
          go_upto_block 2 with fail
          go_cut [] (fun wx => wx = WC.setCell ⟨w5.heap.size, 3 + u.op.toNat, none⟩ (.int .i64 (p : Int)))
          case first =>
            rcases hopc with ho | ho | ho
            · have b0 : (u.op == 0) = true := by simp [ho]
              have HO := hid ho
              clear ho
              go_wp2_with fail
              go_meet
              rw [HO.out]
              rfl
            · have b0 : (u.op == 0) = false := by rw [ho]; rfl
              have b1 : (u.op == 1) = true := by simp [ho]
              have HO := hid ho
              clear ho
              go_wp2_with fail
              go_meet
              rw [HO.out]
              rfl
            · have b0 : (u.op == 0) = false := by rw [ho]; rfl
              have b1 : (u.op == 1) = false := by rw [ho]; rfl
              have b2 : (u.op == 2) = true := by simp [ho]
              have HO := hid ho
              clear ho
              go_wp2_with fail
              go_meet
              rw [HO.out]
              rfl
          case rest =>
          obtain ⟨W6, hW6⟩ : ∃ W6, W6 = wc := ⟨_, rfl⟩
          rw [← hW6] at hcut ⊢
          obtain ⟨g1, hg1e⟩ : ∃ g1, g1 = setOpd g0 u.op (p : Int) := ⟨_, rfl⟩
          have Q6 : Hid (W6.heap[w5.heap.size]? = some (.cells #[.int .i64 g1.kind, .string g1.name, .int .i64 g1.op, .int .i64 g1.a, .int .i64 g1.b, .int .i64 g1.c] 57 (0, 0))) := by
            show _ = _
            rw [hcut, row_set QC.out, hg1e]
            rcases hopc with ho | ho | ho
            all_goals
              rw [ho]
              rfl
          have b6 : Below w5.heap.size w5 W6 := by rw [hcut]; exact BC.out.setCell (p := ⟨w5.heap.size, 3 + u.op.toNat, none⟩) (Nat.le_refl _) _
          have RZ6 := hid (RZ5.out.on b6)
          have R6 := hid ((b6.block _ hs5).trans R5.out)
          have BL6 : Hid (Below w.heap.size W W6) := BL5.out.trans (b6.mono RZ5.out.below.size)
          have KP6 : Hid (Kp W W6) := KP5.out.trans (kp_below b6)
          have q6n := (b6.block _ hq5).trans Q5.out
          rw [HJ.out] at q6n
          have Q6N := hid q6n
          have e6 := fun i => cell_row q6n i
          have c6 := fun i => cell_row Q6.out i
          have hq6 := (Array.getElem?_eq_some_iff.1 Q6.out).1
          have hr6 := RZ6.out.size
          obtain ⟨gg', cg', hgg', _, hgg6, d0⟩ := RZ6.out.ln j g0 HG0.out
          have hge : gg' = gg ∧ cg' = cg := by
            have h1 := hgg'
            rw [HGG.out] at h1
            simp only [Value.slice.injEq, Option.some.injEq, Addr.mk.injEq, and_true, true_and] at h1
            exact ⟨h1.1.symm, h1.2.symm⟩
          obtain ⟨rfl, rfl⟩ := hge
          have crg := (cell_row RZ6.out.box 1).trans (show (rcells { dOf s with gs := gs } x)[1]? = some x.gv from rfl)
          rw [HGG.out] at crg
          have THX : Hid (W6.there gg' (j * 6) 6) := fun jj hjj => ⟨by rw [(d0 jj hjj).1]; exact isSome_ga g0 jj hjj, (d0 jj hjj).2⟩
          have d1 := (d0 0 (by omega)).1
          have d2 := (d0 1 (by omega)).1
          have d3 := (d0 2 (by omega)).1
          have d4 := (d0 3 (by omega)).1
          have d5 := (d0 4 (by omega)).1
          have d6 := (d0 5 (by omega)).1
          have f1 : W6.frozen? ⟨gg', j * 6, none⟩ = false := (d0 0 (by omega)).2
          have f2 := (d0 1 (by omega)).2
          have f3 := (d0 2 (by omega)).2
          have f4 := (d0 3 (by omega)).2
          have f5 := (d0 4 (by omega)).2
          have f6 := (d0 5 (by omega)).2
          have d1' : W6.cell? ⟨gg', j * 6, none⟩ = some (.int .i64 g0.kind) := d1
          have hggne : gg' ≠ w5.heap.size := by omega
          have HGE := hid hg1e
          clear hcut hW6 hg1e b6 q6n hgg' d0 ec cc fc hqc hq5c d1
          have RZ7 := hid ((RZ6.out.on ((Below.refl W6.heap.size W6).drew)).line HGG.out (j := j) (by exact hjl) g1)
          have hob : x.gv.ownBlock = some gg' := by rw [HGG.out]; rfl
          have hne30 : W.heap.size ≠ gg' := fun e => by
            obtain ⟨c1, f1, hk1⟩ := Lib.ownsRow_kind RZ6.out.gates gg' hob
            rw [← e, R6.out] at hk1
            simp at hk1
          have R7 : Hid ((putGa W6.drew gg' j g1).heap[W.heap.size]? = some (.cells #[.int .i64 0, .int .i64 0, .int .i64 0] 30 (0, 0))) := (putGa_other W6.drew gg' j g1 _ hne30).trans R6.out
          have BL7 : Hid (Below w.heap.size W (putGa W6.drew gg' j g1)) := putGa_below (BL6.out.drew) gg' j g1 hggl
          have KP7 : Hid (Kp W (putGa W6.drew gg' j g1)) := fun kk c ty fz hk ht => by
            have h1 := KP6.out kk c ty fz hk ht
            refine (putGa_other W6.drew gg' j g1 kk (fun e => ?_)).trans h1
            obtain ⟨c1, f1, hk1⟩ := Lib.ownsRow_kind RZ6.out.gates gg' hob
            rw [← e, h1, hk] at hk1
            simp at hk1
            rw [hk1.2.1] at ht
            exact absurd ht (by decide)
          have HCN2 : Hid (cntU (us.take (i + 1)) = k) := by
            have h1 := HCN.out
            rw [HJ.out, if_neg hg1] at h1
            exact h1
          have e1 : gs.getD j ga0 = g0 := by rw [List.getD_eq_getElem?_getD, HG0.out]; rfl
          have h20 := HRU.out
          simp only [HJ.out, if_neg hg1, Int.toNat_natCast, e1] at h20
          rw [← HGE.out] at h20
          have HRU2 : Hid (resU (placeOf s) (us.drop (i + 1)) (gs.set j g1) os k = RES) := h20
          clear h20 e1
          have SB6 : W6.drew.cell? ⟨r, 1, none⟩ = some (.slice (some ⟨gg', 0, none⟩) gs.length cg') ∧ W6.drew.cell? ⟨WW.heap.size, 3, none⟩ = some (.int .i64 (j : Int)) ∧ W6.drew.cell? ⟨w5.heap.size, 0, none⟩ = some (.int .i64 g1.kind) ∧ W6.drew.cell? ⟨w5.heap.size, 1, none⟩ = some (.string g1.name) ∧ W6.drew.cell? ⟨w5.heap.size, 2, none⟩ = some (.int .i64 g1.op) ∧ W6.drew.cell? ⟨w5.heap.size, 3, none⟩ = some (.int .i64 g1.a) ∧ W6.drew.cell? ⟨w5.heap.size, 4, none⟩ = some (.int .i64 g1.b) ∧ W6.drew.cell? ⟨w5.heap.size, 5, none⟩ = some (.int .i64 g1.c) := ⟨crg, e6 3, c6 0, c6 1, c6 2, c6 3, c6 4, c6 5⟩
          have hrg : r ≠ gg' := fun e => by
            obtain ⟨c1, f1, hk1⟩ := Lib.ownsRow_kind RZ6.out.gates gg' hob
            rw [← e, RZ6.out.box] at hk1
            simp at hk1
          have hWg : WW.heap.size ≠ gg' := fun e => by
            obtain ⟨c1, f1, hk1⟩ := Lib.ownsRow_kind RZ6.out.gates gg' hob
            rw [← e, Q6N.out] at hk1
            simp at hk1
          have SB7 : Hid (∀ P7 : World, (∀ p : Addr, p.block ≠ gg' → P7.cell? p = W6.drew.cell? p) → P7.cell? ⟨r, 1, none⟩ = some (.slice (some ⟨gg', 0, none⟩) gs.length cg') ∧ P7.cell? ⟨WW.heap.size, 3, none⟩ = some (.int .i64 (j : Int)) ∧ P7.cell? ⟨w5.heap.size, 0, none⟩ = some (.int .i64 g1.kind) ∧ P7.cell? ⟨w5.heap.size, 1, none⟩ = some (.string g1.name) ∧ P7.cell? ⟨w5.heap.size, 2, none⟩ = some (.int .i64 g1.op) ∧ P7.cell? ⟨w5.heap.size, 3, none⟩ = some (.int .i64 g1.a) ∧ P7.cell? ⟨w5.heap.size, 4, none⟩ = some (.int .i64 g1.b) ∧ P7.cell? ⟨w5.heap.size, 5, none⟩ = some (.int .i64 g1.c)) := fun P7 pc => by
            exact ⟨(pc ⟨r, 1, none⟩ hrg).trans SB6.1, (pc ⟨WW.heap.size, 3, none⟩ hWg).trans SB6.2.1, (pc ⟨w5.heap.size, 0, none⟩ (Ne.symm hggne)).trans SB6.2.2.1, (pc ⟨w5.heap.size, 1, none⟩ (Ne.symm hggne)).trans SB6.2.2.2.1, (pc ⟨w5.heap.size, 2, none⟩ (Ne.symm hggne)).trans SB6.2.2.2.2.1, (pc ⟨w5.heap.size, 3, none⟩ (Ne.symm hggne)).trans SB6.2.2.2.2.2.1, (pc ⟨w5.heap.size, 4, none⟩ (Ne.symm hggne)).trans SB6.2.2.2.2.2.2.1, (pc ⟨w5.heap.size, 5, none⟩ (Ne.symm hggne)).trans SB6.2.2.2.2.2.2.2⟩
          have TH6 : Hid (W6.drew.there gg' (j * 6) 6) := THX.out
          have x1 : W6.drew.cell? ⟨gg', j * 6, none⟩ = some (.int .i64 g0.kind) := d1'
          have x2 : W6.drew.cell? ⟨gg', j * 6 + 1, none⟩ = some (.string g0.name) := d2
          have x3 : W6.drew.cell? ⟨gg', j * 6 + 2, none⟩ = some (.int .i64 g0.op) := d3
          have x4 : W6.drew.cell? ⟨gg', j * 6 + 3, none⟩ = some (.int .i64 g0.a) := d4
          have x5 : W6.drew.cell? ⟨gg', j * 6 + 4, none⟩ = some (.int .i64 g0.b) := d5
          have x6 : W6.drew.cell? ⟨gg', j * 6 + 5, none⟩ = some (.int .i64 g0.c) := d6
          have z1 : W6.drew.frozen? ⟨gg', j * 6, none⟩ = false := f1
          have z2 : W6.drew.frozen? ⟨gg', j * 6 + 1, none⟩ = false := f2
          have z3 : W6.drew.frozen? ⟨gg', j * 6 + 2, none⟩ = false := f3
          have z4 : W6.drew.frozen? ⟨gg', j * 6 + 3, none⟩ = false := f4
          have z5 : W6.drew.frozen? ⟨gg', j * 6 + 4, none⟩ = false := f5
          have z6 : W6.drew.frozen? ⟨gg', j * 6 + 5, none⟩ = false := f6
          have hgg6d : gg' < W6.drew.heap.size := hgg6
          have y2 : W6.cell? ⟨gg', j * 6 + 1, none⟩ = some (.string g0.name) := d2
          have y3 : W6.cell? ⟨gg', j * 6 + 2, none⟩ = some (.int .i64 g0.op) := d3
          have y4 : W6.cell? ⟨gg', j * 6 + 3, none⟩ = some (.int .i64 g0.a) := d4
          have y5 : W6.cell? ⟨gg', j * 6 + 4, none⟩ = some (.int .i64 g0.b) := d5
          have y6 : W6.cell? ⟨gg', j * 6 + 5, none⟩ = some (.int .i64 g0.c) := d6
          clear d2 d3 d4 d5 d6 crg e6 c6 hrg hWg hne30
          have HGS := hid hgs
          clear hgs
          go_upto_region 20 with fail
          refine wp_region_noPanic ?_
          refine wp_region_held_drew (S := fun W => W.cell? ⟨r, 1, none⟩ = some (.slice (some ⟨gg', 0, none⟩) gs.length cg') ∧ W.cell? ⟨WW.heap.size, 3, none⟩ = some (.int .i64 (j : Int)) ∧ W.cell? ⟨w5.heap.size, 0, none⟩ = some (.int .i64 g1.kind) ∧ W.cell? ⟨w5.heap.size, 1, none⟩ = some (.string g1.name) ∧ W.cell? ⟨w5.heap.size, 2, none⟩ = some (.int .i64 g1.op) ∧ W.cell? ⟨w5.heap.size, 3, none⟩ = some (.int .i64 g1.a) ∧ W.cell? ⟨w5.heap.size, 4, none⟩ = some (.int .i64 g1.b) ∧ W.cell? ⟨w5.heap.size, 5, none⟩ = some (.int .i64 g1.c)) (by kernel_rfl) SB6 (fun hHeld => ?_)
          refine wpAnyH_take (i := 0) (v := ?_) (by simp only [List.getElem?_toArray, List.getElem?_cons_zero]; rfl) (by kernel_rfl) (by kernel_rfl) (by kernel_rfl) (fun _ _ _ h => h) (Or.inl ⟨by rfl, ?_⟩) (by assumption) ?_
          rotate_left 1
          · intro w hSw; (try dsimp only at hSw); go_simp; (try with_reducible rfl)
          try simp only [Act.put, List.setIfInBounds_toArray, List.set_cons_zero, List.set_cons_succ]
          refine wpAnyH_take (i := 1) (v := ?_) (by simp only [List.getElem?_toArray, List.getElem?_cons_succ, List.getElem?_cons_zero]; rfl) (by kernel_rfl) (by kernel_rfl) (by kernel_rfl) (fun _ _ _ h => h) (Or.inl ⟨by rfl, ?_⟩) (by assumption) ?_
          rotate_left 1
          · intro w hSw; (try dsimp only at hSw); go_simp; (try with_reducible rfl)
          try simp only [Act.put, List.setIfInBounds_toArray, List.set_cons_zero, List.set_cons_succ]
          refine wpAnyH_take (i := 2) (v := ?_) (by simp only [List.getElem?_toArray, List.getElem?_cons_succ, List.getElem?_cons_zero]; rfl) (by kernel_rfl) (by kernel_rfl) (by kernel_rfl) (fun _ _ _ h => h) (Or.inl ⟨by rfl, ?_⟩) (by assumption) ?_
          rotate_left 1
          · intro w hSw; (try dsimp only at hSw); go_simp; (try with_reducible rfl)
          try simp only [Act.put, List.setIfInBounds_toArray, List.set_cons_zero, List.set_cons_succ]
          refine wpAnyH_take (i := 3) (v := ?_) (by simp only [List.getElem?_toArray, List.getElem?_cons_succ, List.getElem?_cons_zero]; rfl) (by kernel_rfl) (by kernel_rfl) (by kernel_rfl) (fun _ _ _ h => h) (Or.inl ⟨by rfl, ?_⟩) (by assumption) ?_
          rotate_left 1
          · intro w hSw; (try dsimp only at hSw); go_simp; (try with_reducible rfl)
          try simp only [Act.put, List.setIfInBounds_toArray, List.set_cons_zero, List.set_cons_succ]
          refine wpAnyH_take (i := 4) (v := ?_) (by simp only [List.getElem?_toArray, List.getElem?_cons_succ, List.getElem?_cons_zero]; rfl) (by kernel_rfl) (by kernel_rfl) (by kernel_rfl) (fun _ _ _ h => h) (Or.inl ⟨by rfl, ?_⟩) (by assumption) ?_
          rotate_left 1
          · intro w hSw; (try dsimp only at hSw); go_simp; (try with_reducible rfl)
          try simp only [Act.put, List.setIfInBounds_toArray, List.set_cons_zero, List.set_cons_succ]
          refine wpAnyH_take (i := 5) (v := ?_) (by simp only [List.getElem?_toArray, List.getElem?_cons_succ, List.getElem?_cons_zero]; rfl) (by kernel_rfl) (by kernel_rfl) (by kernel_rfl) (fun _ _ _ h => h) (Or.inl ⟨by rfl, ?_⟩) (by assumption) ?_
          rotate_left 1
          · intro w hSw; (try dsimp only at hSw); go_simp; (try with_reducible rfl)
          try simp only [Act.put, List.setIfInBounds_toArray, List.set_cons_zero, List.set_cons_succ]
          refine wpAnyH_take (i := 6) (v := ?_) (by simp only [List.getElem?_toArray, List.getElem?_cons_succ, List.getElem?_cons_zero]; rfl) (by kernel_rfl) (by kernel_rfl) (by kernel_rfl) (fun _ _ _ h => h) (Or.inl ⟨by rfl, ?_⟩) (by assumption) ?_
          rotate_left 1
          · intro w hSw; (try dsimp only at hSw); go_simp; (try with_reducible rfl)
          try simp only [Act.put, List.setIfInBounds_toArray, List.set_cons_zero, List.set_cons_succ]
          refine wpAnyH_take (i := 7) (v := ?_) (by simp only [List.getElem?_toArray, List.getElem?_cons_succ, List.getElem?_cons_zero]; rfl) (by kernel_rfl) (by kernel_rfl) (by kernel_rfl) (fun _ _ _ h => h) (Or.inl ⟨by rfl, ?_⟩) (by assumption) ?_
          rotate_left 1
          · intro w hSw; (try dsimp only at hSw); go_simp; (try with_reducible rfl)
          try simp only [Act.put, List.setIfInBounds_toArray, List.set_cons_zero, List.set_cons_succ]
          refine wpAnyH_take (i := 8) (v := ?_) (by simp only [List.getElem?_toArray, List.getElem?_cons_succ, List.getElem?_cons_zero]; rfl) (by kernel_rfl) (by kernel_rfl) (by kernel_rfl) (fun _ _ _ h => h) (Or.inl ⟨by rfl, ?_⟩) (by assumption) ?_
          rotate_left 1
          · intro w hSw; (try dsimp only at hSw); go_simp; (try with_reducible rfl)
          try simp only [Act.put, List.setIfInBounds_toArray, List.set_cons_zero, List.set_cons_succ]
          refine wpAnyH_ready (rs := [9]) (by kernel_rfl) (by simp) ?_
          refine AllReadyH.cons (by simp only [List.getElem?_toArray, List.getElem?_cons_succ, List.getElem?_cons_zero]; rfl) (fun K hK => ?_) AllReadyH.nil
          refine step_put rfl _ _ rfl gg' j g1 rfl rfl TH6.out ?_
          clear hHeld
          refine hK.out _ _ (SB7.out _ (fun p hp => putGa_cell W6.drew gg' j g1 p hp)) (fun hHeld => ?_)
          clear hK K
          try simp only [Act.put]
          refine wpAnyH_done (by kernel_rfl) ?_ _
          refine NoPanic.normal ?_
          all_goals go_wp2_with fail
          all_goals refine ⟨⟨i + 1, gs.set j g1, os, by rw [HCN2.out], by go_num, by omega, by rw [List.length_set]; exact HGS.out, hos, RZ7.out, R7.out, BL7.out, KP7.out, by rw [HCN2.out]; exact HRU2.out⟩, ?_⟩
          all_goals
            show n + 1 - ((i : Int) + 1).toNat < n + 1 - (i : Int).toNat
            omega

    · have hlt1 : ¬ (i : Int) < (n : Int) := by omega
      have HE : Hid (RES = (none, gs, os)) := by
        have := RS.out
        rw [List.drop_of_length_le (by rw [← HN.out]; omega), resU] at this
        exact this.symm
      have hWz : w.heap.size ≤ W.heap.size := HW.out
      go_wp2_with fail
      exact bodyPost_ret (v := .agg #[.int .i64 0, .int .i64 0, .int .i64 0]) (by simp [results, Tryd.results13, go_sem, c30]) rfl ⟨ans_below HW.out BL.out _ _ _, KP.out.ans (Nat.le_refl _), .inr ⟨gs, os, HE.out, hgs, hos, rfl, RZ.out.ans R30.out HW.out _ _ _⟩⟩

end Go.Proofs.YtfmmmhcpdinhgabDoor
