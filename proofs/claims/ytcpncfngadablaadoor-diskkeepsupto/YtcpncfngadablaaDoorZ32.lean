import Derived.Test.YtcpncfngadablaaDoorZ31
namespace Go.Proofs.YtcpncfngadablaaDoor
open Go.RowKit Go.Deep

theorem appendA_ok {s : ByteArray} {bl : List UInt8} {A : PubA} {f : FileA} (h : (appendA s bl A).1 = 0) (hf : findA A.files (nm s) = some f) : bl.length = A.B ∧ (appendA s bl A).2.files = setA (nm s) { f with blocks := f.blocks ++ [bl] } A.files := by
  unfold appendA at h ⊢
  simp only [hf] at h ⊢
  split at h <;> rename_i h1
  · split at h
    · simp at h
    · rename_i h2
      split at h
      · simp at h
      · rename_i h3
        split at h
        · simp at h
        · rename_i h4
          simp only [h1, h2, h3, h4, if_true, if_false]
          exact ⟨by omega, by simp⟩
  · simp at h

theorem byte_cell {w : World} {x B k : Nat} {d : List UInt8} (h : BytesAt w x d) (hl : d.length = B) (hk : k < B) : ∃ q : Nat, w.cell? ⟨x, k, none⟩ = some (.int .u8 q) ∧ q < 256 ∧ ∀ v : UInt8, d[k]? = some v ↔ (q : Int) = v.toNat := by
  subst hl
  refine ⟨d[k].toNat, ?_, UInt8.toNat_lt _, fun v => ?_⟩
  · have := bytes_src h k (.int .u8 d[k].toNat) (by simp [Lib.byteCells, List.getElem?_eq_getElem hk])
    have hadd : (⟨x, 0, none⟩ : Addr).add k = ⟨x, k, none⟩ := by unfold Addr.add; split <;> simp_all
    rw [hadd] at this
    exact this
  · rw [List.getElem?_eq_getElem hk]
    constructor
    · intro e
      simp at e
      rw [e]
    · intro e
      have : d[k].toNat = v.toNat := by omega
      rw [UInt8.toNat_inj.1 this]

/-- append onto nothing, as a step of a region that draws. -/
theorem step_append_copy {ops : Array Oper} {o : Oper} {a : Act} {w : World} {K : Act → World → Prop} {Q : Exit → Act → World → Prop} {X : Prop} (hg : o.guard = none) (x : Operand) (hop : o.op = Op.call { callee := Callee.builtin Builtin.append, args := #[.const (.slice none 0 0), x], argTypes := #[31, 31] })
    (sa : Option Addr) (n c : Nat) (d : List UInt8) (hx : a.eval x = .slice sa n c) (h : Shows w sa n c d) (hn : n ≤ 1099511627776)
    (hK : ∀ sb cb w', Shows w' sb n cb d → (∀ a, sb = some a → w.heap.size ≤ a.block) → Below w.heap.size w w' → K (a.put o.dst (.slice sb n cb)) w') :
    if Region.wanted o (yielded ops a.tmps) = true then Oper.wp Tryd.prog o a w K Q else X := by
  have hw : Region.wanted o (yielded ops a.tmps) = true := by simp [Region.wanted, hg]
  rw [if_pos hw]
  obtain ⟨v', w', hrun, ho, hb⟩ := run_append_bytes o.type w h hn
  obtain ⟨sb, cb, rfl, hs, hbase⟩ := shows_own ho
  have hs0 : a.eval (.const (.slice none 0 0)) = .slice none 0 0 := rfl
  unfold Oper.wp
  simp [execOp, hop, resolve, invoke, builtin, hs0, hx, hrun, Result.andThen]
  exact hK sb cb w' hs (fun a e => (hbase a e)) hb

theorem row_arr {w : World} {B n c g : Nat} {sv : Value} {bs : List Nat} {blocks : List (List UInt8)} (h : BlocksAt w B sv bs blocks) (e : sv = .slice (some ⟨g, 0, none⟩) (n + 1) c) : ∃ cur : Array Value, w.heap[g]? = some (.cells cur 31 (0, 0)) ∧ n < cur.size := by
  rcases h.own.2 with ⟨h1, _⟩ | ⟨g', cap, cur, h1, _, hg, hc1, _, hc2, _⟩
  · rw [e] at h1; simp at h1
  · rw [e] at h1
    simp only [Value.slice.injEq, Option.some.injEq, Addr.mk.injEq] at h1
    obtain ⟨⟨rfl, _⟩, h3, _⟩ := h1
    exact ⟨cur, hg, by omega⟩

theorem wrap_len {n : Nat} (h : n + 1 ≤ 1099511627776) : IntKind.i64.wrap (n : Int) = (n : Int) := by
  have e : (n : Int) % (2 ^ IntKind.i64.bits : Int) = n := Int.emod_eq_of_lt (by omega) (by show (n : Int) < 18446744073709551616; omega)
  unfold IntKind.wrap
  simp only [e]
  rw [if_neg]
  intro hc
  simp only [Bool.and_eq_true, decide_eq_true_eq] at hc
  have h2 : (n : Int) ≥ 9223372036854775808 := hc.2
  omega
theorem wrap_ok {n : Nat} (h : n + 1 ≤ 1099511627776) : (0 ≤ IntKind.i64.wrap (n : Int) ∧ IntKind.i64.wrap (n : Int) < (n : Int) + 1) ∧ (IntKind.i64.wrap (n : Int)).toNat = n := by
  rw [wrap_len h]
  omega

section
variable {w w' : World} {E : Nat → Addr} {lo p mf mt : Nat} {D : DiskC}

set_option maxRecDepth 100000 in
set_option maxHeartbeats 2000000 in
/-- at a cut the disk holds the first bytes of an Append. -/
theorem cut_part (V : Env w lo E) (R : Rep w lo p mf mt D) (hT : D.T = .map []) (ho : D.on = true) (hS : Small D.pub) (hcc : D.c.calls + 1 ≤ 1099511627776) (hfw : D.pub.files.length < 1099511627776) (s : ByteArray) (N bit : Int) (d bl : List UInt8) (hbl : bl = dataA N D.B d) (hok0 : (appendA s bl D.pub).1 = 0) (hS20 : Small (appendA s bl D.pub).2) {f : FileA} {m : Nat} (hfi : findA D.pub.files (nm s) = some f)
    {n1 : Nat} {fv : Value} {l : List SFile} (h : StateAt w n1 D.B fv l) (hp : l.map SFile.pub = setA (nm s) { f with blocks := f.blocks ++ [cutB m bl] } D.pub.files) (hF : ∀ b ∈ D.foot p mf mt, b < n1) (hn1 : n1 ≤ w.heap.size) {sa : Option Addr} {n c : Nat} (hd : Shows w sa n c d) (hn : n ≤ 1073741824) :
    Calls Tryd.prog 15 #[.agg #[.int .i64 D.B, fv], ptr p, opV 2 s N bit sa n c, .int .i64 D.B] w fun e w' => e = .returned (.bool true) ∧ Touch (D.foot p mf mt) w w' := by
  obtain ⟨a0, c0, e0⟩ := h.sliceL
  obtain ⟨hblB, hfiles⟩ := appendA_ok hok0 hfi
  obtain ⟨ki, hki, hkf, hno⟩ := findA_at hfi
  have hrise : D.pub.files.Pairwise fun a b => bytesBefore a.1 b.1 = true := List.pairwise_map.2 R.rising
  have hdis : D.pub.files.Pairwise fun a b => a.1 ≠ b.1 := hrise.imp fun h => fun e => before_ne h e.symm
  have hk1 : D.pub.files[ki].1 = nm s := by rw [hkf]
  rw [setA_at _ hki hk1 hdis] at hp hfiles
  have hok : (stepA ⟨2, s, N, bit, d⟩ D.pub).1.e = 0 := by rw [hbl] at hok0; exact hok0
  have hS2 : Small (stepA ⟨2, s, N, bit, d⟩ D.pub).2 := by rw [hbl] at hS20; exact hS20
  have hfl : (stepA ⟨2, s, N, bit, d⟩ D.pub).2.files = D.pub.files.set ki (nm s, { f with blocks := f.blocks ++ [bl] }) := by rw [← hfiles, hbl]; rfl
  obtain ⟨kk, hkk⟩ : ∃ kk : Int, kk = 2 := ⟨_, rfl⟩
  rw [← hkk] at hok hS2 hfl ⊢
  have HKK := hid hkk
  have HK1 := hid hk1
  have HNO := hid hno
  have HRI := hid hrise
  have HBLB := hid (show bl.length = D.B from hblB)
  have HBS := hid (show D.B ≤ 65536 from hS.size.2)
  clear hkk hkf hk1 hno hrise hblB
  have hfew : l.length ≤ 1099511627776 ∧ ∀ e ∈ l, e.file.blocks.length ≤ 1099511627776 := by
    refine ⟨?_, fun e he => ?_⟩
    · have h1 := congrArg List.length hp
      have h2 := hS.files
      simp at h1
      omega
    · have h1 : e.pub ∈ D.pub.files.set ki (nm s, { f with blocks := f.blocks ++ [cutB m bl] }) := by rw [← hp]; exact List.mem_map.2 ⟨e, he, rfl⟩
      rcases List.mem_or_eq_of_mem_set h1 with h1 | h1
      · exact hS.blocks e.pub h1
      · have h3 := hS2.blocks (nm s, { f with blocks := f.blocks ++ [bl] }) (by rw [hfl]; exact List.mem_iff_getElem.2 ⟨ki, by simpa using hki, by simp⟩)
        have h4 : e.file = { f with blocks := f.blocks ++ [cutB m bl] } := congrArg Prod.snd h1
        rw [h4]
        simpa using h3
  obtain ⟨W, hW⟩ : ∃ W, W = (w.alloc (.cells #[.int .i64 D.B, fv] 43)).alloc (.cells #[.int .i64 kk, .string s, .int .i64 N, .int .i64 bit, .slice sa n c] 40) := ⟨_, rfl⟩
  have hW1 := heap_two w (.cells #[.int .i64 D.B, fv] 43) (.cells #[.int .i64 kk, .string s, .int .i64 N, .int .i64 bit, .slice sa n c] 40)
  rw [← hW] at hW1
  have hTW : Below w.heap.size w W := by rw [hW]; exact ((Below.refl _ w).alloc (Nat.le_refl _) _).alloc (by simp) _
  have tW : Touch [] w W := Touch.of_below hTW (Nat.le_refl _)
  have RW := R.touch tW (by simp)
  have VW := V.touch tW (by simp)
  have hW2 := h.touch tW (by simp)
  have HST := hid (State_any RW hS)
  have HPR := hid (fun W2 (t : Touch [] W W2) => program_any (VW.touch t (by simp)) (RW.touch t (by simp)) hT ho hS hcc ⟨kk, s, N, bit, d⟩ (hd.touch (tW.trans t (by simp)) (by simp)) hn)
  have hB := (step_size ⟨kk, s, N, bit, d⟩ D.pub).1
  obtain ⟨T, hTT⟩ : ∃ T, T = (stepA ⟨kk, s, N, bit, d⟩ D.pub).1 := ⟨_, rfl⟩
  obtain ⟨A, hA⟩ : ∃ A, A = (stepA ⟨kk, s, N, bit, d⟩ D.pub).2 := ⟨_, rfl⟩
  rw [← hTT] at HPR hok
  rw [← hA] at HPR hB hS2 hfl
  have HFLS := hid hfl
  have H := hid hW2
  have HP := hid hp
  have HEE := hid e0
  have HE := hid hW
  have HW := hid hW1
  have HTW := hid hTW
  have HFW := hid hfew
  have HF := hid hF
  have HBB := hid hB
  have HS2 := hid hS2
  have HOK := hid hok
  simp only [opV] at HPR ⊢
  rw [e0] at HE HW ⊢
  clear h hp R hS hW hW1 hTW e0 hfew tW RW VW hW2 V hT ho hcc hF hB hS2 hok hd hTT hA hfl hok0 hS20 hfiles hdis hfi hbl
  go_enter Tryd.func15, Tryd.ntmps15
  go_wp2_with fail
  rw [← HE.out]
  refine HST.out.mono ?_
  rintro e w1 ⟨fv1, l1, rfl, h1, hp1, hb1⟩
  obtain ⟨a1, c1, e1⟩ := h1.sliceL
  have z1 := fun i => cell_row ((hb1.block _ (lt_of_block HW.out.1)).trans HW.out.1) i
  have HC := hid (fun W2 (hb : Below w1.heap.size w1 W2) => SameState_some (w := W2) (x := (D.B : Int)) (H.out.below (hb1.trans (hb.mono hb1.size))) (h1.below hb) HFW.out.1 HFW.out.2)
  have HB1 := hid hb1
  rw [HEE.out, e1] at HC
  rw [e1]
  have lw := Nat.lt_of_lt_of_le (lt_of_block HW.out.1) hb1.size
  clear h1 hp1 hb1 e1
  go_wp2_with fail
  refine Calls.mono (HC.out _ ((Below.refl _ w1).alloc (Nat.le_refl _) _)) ?_
  rintro e w2 ⟨⟨b, rfl⟩, hb2⟩
  have hb12 : Below W.heap.size W w2 := HB1.out.trans ((((Below.refl _ w1).alloc (Nat.le_refl _) _).trans (hb2.mono (by simp))).mono HB1.out.size)
  clear z1
  cases b
  · have q1 := (hb12.block _ (lt_of_block HW.out.2)).trans HW.out.2
    have z2 := fun i => cell_row q1 i
    have l2 := lt_of_block q1
    have HB2 := hid hb12
    clear hb2 hb12 q1
    go_wp2_with fail
    refine Calls.mono (HPR.out w2 (Touch.of_below HB2.out (Nat.le_refl _))) ?_
    rintro e w3 ⟨v, rfl, ⟨dv, nv, hv, hd1, hd2⟩, D3, R3, hpub, _, ht3, _⟩
    obtain ⟨da, dn, dc, hdv⟩ : ∃ a n c, dv = .slice a n c := by
      rcases hd1.2 with ⟨h, _⟩ | ⟨g, cap, _, h, _⟩
      · exact ⟨none, 0, 0, h⟩
      · exact ⟨_, _, cap, h⟩
    obtain ⟨na, nn, nc, hnv⟩ : ∃ a n c, nv = .slice a n c := by
      rcases hd2.2 with ⟨h, _⟩ | ⟨g, cap, _, h, _⟩
      · exact ⟨none, 0, 0, h⟩
      · exact ⟨_, _, cap, h⟩
    rw [HOK.out, hdv, hnv] at hv
    have t3 : Touch (D.foot p mf mt) W w3 := (Touch.of_below (F := D.foot p mf mt) HB2.out (Nat.le_refl _)).trans ht3 fun b hb => .inl hb
    have hB3 : D3.B = D.B := by rw [show D3.B = D3.pub.B from rfl, hpub, HBB.out]; rfl
    have hnf : ∀ b, n1 ≤ b → b ∉ D.foot p mf mt := fun b hb hm => by have := HF.out b hm; omega
    have q1 := (t3.block _ (lt_of_block HW.out.1) (hnf _ hn1)).trans HW.out.1
    have q2 := (t3.block _ (lt_of_block HW.out.2) (hnf _ (by omega))).trans HW.out.2
    have HST2 := hid (fun W2 (t : Touch [] w3 W2) => State_apart (R3.touch t (by simp)) (hpub ▸ HS2.out))
    rw [hB3] at HST2
    have hents : D3.ents.map Ent.pub = A.files := by rw [← hpub]; rfl
    have H3 := hid (H.out.touch t3 HF.out)
    have HT3 := hid t3
    have HEN := hid hents
    have HQ1 := hid q1
    have HQ2 := hid q2
    have l1 := lt_of_block q1
    have l2' := lt_of_block q2
    unfold toldV at hv
    subst hv
    clear R3 hpub ht3 t3 hB3 hnf q1 q2 hents hd1 hd2 hdv hnv z2 l2
    have hkk := HKK.out
    clear HKK
    subst hkk
    go_wp2_with fail
    refine Calls.mono (HST2.out _ ((Touch.refl [] w3).alloc _)) ?_
    rintro e w4 ⟨fv4, l4, rfl, h4, hp4, hap4, hb4⟩
    obtain ⟨a4, c4, e4⟩ := h4.sliceL
    have hb34 : Below w3.heap.size w3 w4 := ((Below.refl _ w3).alloc (Nat.le_refl _) _).trans (hb4.mono (by simp))
    have z1 := (hb34.block _ l1).trans HQ1.out
    have z2 := (hb34.block _ l2').trans HQ2.out
    have l3 := Nat.lt_of_lt_of_le l1 hb34.size
    have l4' := Nat.lt_of_lt_of_le l2' hb34.size
    have S1 := H3.out.below hb34
    rw [HEN.out, HFLS.out] at hp4
    obtain ⟨hlen4, hk4, hn4, hf4, hno4, hri4⟩ := set_facts hki HK1.out HNO.out HRI.out hp4
    obtain ⟨hlen0, hk0, hn0, hf0, hno0, hri0⟩ := set_facts hki HK1.out HNO.out HRI.out HP.out
    have HF1 := hid (fun W2 (hb : Below w4.heap.size w4 W2) => Find_at (w := W2) (x := (D.B : Int)) s (S1.below hb) hk0 hn0 hno0 HFW.out.1)
    have HF2 := hid (fun W2 (hb : Below w4.heap.size w4 W2) => Find_at (w := W2) (x := (D.B : Int)) s (h4.below hb) hk4 hn4 hno4 (by have := HFW.out.1; omega))
    rw [HEE.out] at HF1
    rw [e4] at HF2 ⊢
    have HE4 := hid e4
    have HB4 := hid hb34
    have HZ1 := hid z1
    have HZ2 := hid z2
    have HS1 := hid S1
    have HS4 := hid h4
    have HAP := hid hap4
    have HP4 := hid hp4
    have hq0 := fun i => cell_row z1 i
    have hq1 := fun i => cell_row z2 i
    have HL0 := hid hlen0
    have HL4 := hid hlen4
    have HF0 := hid hf0
    have HF4 := hid hf4
    have HN0 := hid hn0
    have HN4 := hid hn4
    have HR4 := hid hri4
    clear h4 hp4 hb4 e4 hb34 l1 l2' z1 z2 S1 hap4 hlen0 hlen4 hf0 hf4 hn0 hn4 hno0 hno4 hri0 hri4
    go_wp2_with fail
    with_reducible refine Calls.mono (HF1.out _ ((Below.refl _ w4).alloc (Nat.le_refl _) _)) ?_
    rintro e w5 ⟨rfl, hb5⟩
    have hf0 := HF0.out
    have hf4 := HF4.out
    have hb45 : Below w4.heap.size w4 w5 := ((Below.refl _ w4).alloc (Nat.le_refl _) _).trans (hb5.mono (by simp))
    have x1 := (hb5.block w4.heap.size (by simp)).trans (heap_alloc_new w4 _)
    have y1 := (hb45.block _ l3).trans HZ1.out
    have y2 := (hb45.block _ l4').trans HZ2.out
    have hq0 := fun i => cell_row x1 i
    have hq1 := fun i => cell_row y2 i
    have l5 := lt_of_block x1
    have l6 := lt_of_block y2
    obtain ⟨g0, gc0, xa, ev0, cg0, ln0, by0, _⟩ := (HS1.out.each _ (List.getElem_mem hk0)).at (i := f.blocks.length) (by rw [hf0]; simp)
    obtain ⟨g4, gc4, xb, ev4, cg4, ln4, by4, _⟩ := (HS4.out.each _ (List.getElem_mem hk4)).at (i := f.blocks.length) (by rw [hf4]; simp)
    have bn0 : l[ki].file.blocks.length = f.blocks.length + 1 := by rw [hf0]; simp
    have bn4 : l4[ki].file.blocks.length = f.blocks.length + 1 := by rw [hf4]; simp
    have bx0 : l[ki].file.blocks[f.blocks.length]'(by omega) = cutB m bl := by simp [hf0]
    have bx4 : l4[ki].file.blocks[f.blocks.length]'(by omega) = bl := by simp [hf4]
    rw [bx0] at by0
    rw [bx4] at by4
    rw [bn0] at ev0
    rw [bn4] at ev4
    rw [ev0]
    rw [ev4] at HF2
    have sh0 : l[ki].file.shut = f.shut := by rw [hf0]
    have sh4 : l4[ki].file.shut = f.shut := by rw [hf4]
    rw [sh0]
    rw [sh4] at HF2
    have HX1 := hid x1
    have HY1 := hid y1
    have HY2 := hid y2
    have HB5 := hid hb45
    have HBY0 := hid by0
    have HBY4 := hid by4
    have HC0 := hid cg0
    have HC4 := hid cg4
    have HEV4 := hid ev4
    have HFN := hid (show f.blocks.length + 1 ≤ 1099511627776 by rw [← bn0]; exact HFW.out.2 _ (List.getElem_mem hk0))
    clear hf0 hf4 hb5 hb45 x1 y1 y2 ln0 ln4 by0 by4 cg0 cg4 bn0 bn4 bx0 bx4 ev0 ev4 sh0 sh4
    go_wp2_with fail
    with_reducible refine Calls.mono (HF2.out _ (HB5.out.alloc HB5.out.size _)) ?_
    rintro e w6 ⟨rfl, hb6⟩
    have hb56 : Below w5.heap.size w5 w6 := ((Below.refl _ w5).alloc (Nat.le_refl _) _).trans (hb6.mono (by simp))
    have x2 := (hb6.block w5.heap.size (by simp)).trans (heap_alloc_new w5 _)
    obtain ⟨X, hX⟩ : ∃ X, X = w6.alloc (.cells #[.string s, .bool f.shut, .slice (some ⟨g4, 0, none⟩) (f.blocks.length + 1) gc4] 75) := ⟨_, rfl⟩
    have x3 : X.heap[w6.heap.size]? = some (.cells #[.string s, .bool f.shut, .slice (some ⟨g4, 0, none⟩) (f.blocks.length + 1) gc4] 75) := by rw [hX]; exact heap_alloc_new w6 _
    have hbX : Below w6.heap.size w6 X := by rw [hX]; exact (Below.refl _ w6).alloc (Nat.le_refl _) _
    have hb5X : Below w5.heap.size w5 X := hb56.trans (hbX.mono hb56.size)
    have x4 := (hbX.block _ (lt_of_block x2)).trans x2
    have hb4X : Below w4.heap.size w4 X := HB5.out.trans (hb5X.mono HB5.out.size)
    have hfn := HFN.out
    have k0 := (hb4X.cell (p := ⟨g0, f.blocks.length, none⟩) (World.block_lt_of_cell? w4 _ HC0.out)).trans HC0.out
    have k4 := (hb4X.cell (p := ⟨g4, f.blocks.length, none⟩) (World.block_lt_of_cell? w4 _ HC4.out)).trans HC4.out
    have u0 := fun i => cell_row x4 i
    have u1 := fun i => cell_row x3 i
    have l7 := lt_of_block x2
    have HX := hid hX
    have HX3 := hid x3
    have HX4 := hid x4
    have HBX := hid hb4X
    have HB5X := hid hb5X
    have HX2 := hid x2
    have hq2 := fun i => cell_row x2 i
    clear hX x3 x4 hbX hb56 hb6 hb5X hb4X x2 hq0 hq1
    go_wp2
    rw [← HX.out]
    go_quiet (fail)
    have hlA : (cutB m bl).length = D.B := by rw [cutB_length]; exact HBLB.out
    have HLA := hid hlA
    have HXA := hid (show ∀ wr, Quiet X wr → BytesAt wr xa (cutB m bl) ∧ BytesAt wr xb bl from fun wr hq => by
      have e1 : X.heap[xa]? = w4.heap[xa]? := HBX.out.block xa (lt_of_block HBY0.out)
      have e2 : X.heap[xb]? = w4.heap[xb]? := HBX.out.block xb (lt_of_block HBY4.out)
      unfold BytesAt
      rw [Quiet.heap hq, e1, e2]
      exact ⟨HBY0.out, HBY4.out⟩)
    have hBs : D.B ≤ 65536 := HBS.out
    clear hlA
    go_wp2
    go_loopw [20] (fun i wr => ∃ k : Nat, k ≤ D.B ∧ i = .int .i64 k ∧ Quiet X wr) (fun i _ => D.B - (intOf i).toNat)
    case atStart => exact ⟨0, Nat.zero_le _, rfl, _, rfl⟩
    case round =>
      obtain ⟨k, hk, rfl, hq⟩ := hrel
      have hex : (k < D.B ∧ ∃ q : Nat, wr.cell? ⟨xa, k, none⟩ = some (.int .u8 q) ∧ wr.cell? ⟨xb, k, none⟩ = some (.int .u8 q)) ∨ ((k < D.B ∧ ∃ qa qb : Nat, wr.cell? ⟨xa, k, none⟩ = some (.int .u8 qa) ∧ wr.cell? ⟨xb, k, none⟩ = some (.int .u8 qb) ∧ ¬ (qa : Int) = qb) ∨ k = D.B) ∧ ∀ j, k ≤ j → j < D.B → (cutB m bl)[j]? = some 0 := by
        by_cases hlt : k < D.B
        · obtain ⟨qa, ca, qa2, qa3⟩ := byte_cell (HXA.out wr hq).1 HLA.out hlt
          obtain ⟨qb, cb, qb2, qb3⟩ := byte_cell (HXA.out wr hq).2 HBLB.out hlt
          by_cases hqq : qa = qb
          · subst hqq
            exact .inl ⟨hlt, qa, ca, cb⟩
          · refine .inr ⟨.inl ⟨hlt, qa, qb, ca, cb, by omega⟩, fun j h1 h2 => cut_tail (by rw [HBLB.out]; exact hlt) (fun e => hqq ?_) h1 (by rw [HBLB.out]; exact h2)⟩
            have hb1 : bl[k]? = some (bl[k]'(by rw [HBLB.out]; exact hlt)) := List.getElem?_eq_getElem _
            have h3 := (qb3 _).1 hb1
            have h4 := (qa3 _).1 (e.trans hb1)
            omega
        · exact .inr ⟨.inr (by omega), fun j h1 h2 => by omega⟩
      have HQ := hid hq
      clear hq
      rcases hex with ⟨hlt, q, ca, cb⟩ | ⟨hex, htl⟩
      · go_wp2
        go_quiet (fail)
        go_wp2
        go_roundw
        case rel => exact ⟨k + 1, by omega, by go_num, quiet_more HQ.out _⟩
        case measure => simp [intOf]; omega
      have HTL := hid htl
      clear htl
      rcases hex with ⟨hlt, qa, qb, ca, cb, hqi⟩ | hkB
      rotate_left
      subst hkB
      rotate_left
      all_goals
        go_wp2
        go_quiet (fail)
        go_wp2
        obtain ⟨X1, h0⟩ : ∃ X1, X1 = wr := ⟨_, rfl⟩
        subst h0
        go_loopw [20] (fun i wr => ∃ k2 : Nat, k2 ≤ D.B ∧ i = .int .i64 k2 ∧ Quiet X wr ∧ ∀ j, k2 ≤ j → j < D.B → (cutB m bl)[j]? = some 0) (fun i _ => D.B - (intOf i).toNat)
        case atStart => exact ⟨_, by omega, rfl, quiet_more HQ.out _, HTL.out⟩
        case round =>
          obtain ⟨k2, hk2, rfl, hq2, htl2⟩ := hrel
          by_cases hlt2 : k2 < D.B
          · obtain ⟨q2, c2, _, q3⟩ := byte_cell (HXA.out wr hq2).1 HLA.out hlt2
            have q0 : q2 = 0 := by have := (q3 0).1 (htl2 k2 (Nat.le_refl _) hlt2); simpa using this
            subst q0
            have HQ2 := hid hq2
            have HT2 := hid htl2
            clear hq2 htl2 q3
            go_wp2
            go_roundw
            case rel => exact ⟨k2 + 1, by omega, by go_num, HQ2.out, fun j h1 h2 => HT2.out j (by omega) h2⟩
            case measure => simp [intOf]; omega
          · have HQ2 := hid hq2
            obtain ⟨cur, hcur, hcs⟩ : ∃ cur : Array Value, w4.heap[g4]? = some (.cells cur 31 (0, 0)) ∧ f.blocks.length < cur.size := row_arr (HS4.out.each _ (List.getElem_mem hk4)) HEV4.out
            have hXw : Below X.heap.size X wr := (Quiet.touch hq2 []).below (Nat.le_refl _) (by simp)
            have h4w : Below w4.heap.size w4 wr := HBX.out.trans (hXw.mono HBX.out.size)
            have HCP := hid (show ∀ W2, Below wr.heap.size wr W2 → (W2.cell? ⟨w6.heap.size, 2, none⟩ = some (.slice (some ⟨g4, 0, none⟩) (f.blocks.length + 1) gc4)) ∧ W2.frozen? ⟨g4, f.blocks.length, none⟩ = false ∧ (∃ v, W2.cell? ⟨g4, f.blocks.length, none⟩ = some v) ∧ g4 < W2.heap.size from fun W2 hb => by
              have e1 := (hb.block _ (lt_of_block (w := wr) ((hXw.block _ (lt_of_block HX3.out)).trans HX3.out))).trans ((hXw.block _ (lt_of_block HX3.out)).trans HX3.out)
              have e2 := (hb.block _ (lt_of_block (w := wr) ((h4w.block _ (lt_of_block hcur)).trans hcur))).trans ((h4w.block _ (lt_of_block hcur)).trans hcur)
              exact ⟨by simpa using cell_row e1 2, unfrozen_row e2 _, ⟨cur[f.blocks.length], by rw [cell_row e2]; exact Array.getElem?_eq_getElem hcs⟩, lt_of_block e2⟩)
            have HSHX := hid (show Shows wr.drew (some ⟨xa, 0, none⟩) D.B D.B (cutB m bl) from bytes_shows (w := wr.drew) (HXA.out wr hq2).1 HLA.out)
            obtain ⟨p1, p2, ⟨pv, p3⟩, p4⟩ := HCP.out wr (Below.refl _ _)
            have HCR := hid hcur
            have H4W := hid h4w
            obtain ⟨⟨hw1, hw2⟩, hw3⟩ := wrap_ok hfn
            clear hq2 htl2 hcur hcs hXw h4w
            go_wp2
            go_region_law (first
              | (refine step_append_copy rfl _ rfl (some ⟨xa, 0, none⟩) D.B D.B (cutB m bl) rfl HSHX.out (by omega) (fun sb cb w7 r1 r2 r3 => ?_); obtain ⟨o1, o2, ⟨ov, o3⟩, o4⟩ := HCP.out w7 ⟨r3.os, r3.tape, r3.output, r3.size, r3.block⟩; have H1 := hid r1; have H2 := hid r2; have H3' := hid r3; clear r1 r2 r3))
            all_goals
              have h7 : Below wr.heap.size wr w7 := ⟨H3'.out.os, H3'.out.tape, H3'.out.output, H3'.out.size, H3'.out.block⟩
              have h47 := H4W.out.trans (h7.mono H4W.out.size)
              have HPA := part_after (m := m) H3.out HB4.out (by simp) HS4.out HAP.out h47 hk4 HEV4.out HF4.out H1.out (fun a ha => Nat.le_trans H4W.out.size (H2.out a ha))
              have HBOX := hid (part_boxes (i := f.blocks.length) (v := .slice sb D.B cb) HCR.out HBX.out HB5X.out HQ2.out h7 HZ1.out HZ2.out HX1.out HX3.out)
              have hgl : w3.heap.size ≤ g4 := by
                have h1 := (HS4.out.from_ _ (List.getElem_mem hk4)).1 g4 (by rw [HEV4.out]; rfl)
                simp at h1
                omega
              have HLOW : Hid (Touch (D.foot p mf mt) w (w7.setCell ⟨g4, f.blocks.length, none⟩ (.slice sb D.B cb))) :=
                ((((Touch.of_below HTW.out (Nat.le_refl _)).trans HT3.out (fun b hb => .inl hb)).trans (Touch.of_below (F := []) HB4.out (Nat.le_refl _)) (by simp)).trans (Touch.of_below (F := []) h47 (Nat.le_refl _)) (by simp)).setCell (.inr (Nat.le_trans (Nat.le_trans HTW.out.size HT3.out.size) hgl)) _
              have HEND : Hid (EndAt (w7.setCell ⟨g4, f.blocks.length, none⟩ (.slice sb D.B cb)) n1 _ fv fv4 l l4 ki { l4[ki] with file := { f with blocks := f.blocks ++ [cutB m bl] } } s) :=
                ⟨HPA.1, HPA.2.1, HPA.2.2, fun z hz => (HS4.out.each z hz).own_slice, ⟨_, _, _, HEV4.out⟩, hk4, ⟨hk4, HN4.out⟩, HN4.out, HR4.out, set_back HP.out HP4.out (by unfold SFile.pub; rw [HN4.out]), by have := HL0.out; omega, HFW.out.2⟩
              have HCE : Hid (SFile.cells { l4[ki] with file := { f with blocks := f.blocks ++ [cutB m bl] } } = [.string s, .bool f.shut, .slice (some ⟨g4, 0, none⟩) (f.blocks.length + 1) gc4]) := by
                show [encStr l4[ki].name, Value.bool f.shut, l4[ki].sv] = _
                rw [HN4.out, HEV4.out]
              obtain ⟨Y, hY⟩ : ∃ Y, Y = w7.setCell ⟨g4, f.blocks.length, none⟩ (.slice sb D.B cb) := ⟨_, rfl⟩
              rw [← hY] at HBOX HLOW HEND ⊢
              have HCELL := hid (show ∀ Z, Below Y.heap.size Y Z → (fun V => (V.cell? ⟨w.heap.size, 0, none⟩ = some (.int .i64 (D.B : Int)) ∧ V.cell? ⟨w.heap.size, 1, none⟩ = some (.slice a0 l.length c0)) ∧ V.cell? ⟨w.heap.size + 1, 1, none⟩ = some (.string s) ∧ (V.cell? ⟨w4.heap.size, 0, none⟩ = some (.int .i64 (D.B : Int)) ∧ V.cell? ⟨w4.heap.size, 1, none⟩ = some (.slice a4 l4.length c4)) ∧ V.cell? ⟨w6.heap.size, 0, none⟩ = some (.string s) ∧ V.cell? ⟨w6.heap.size, 1, none⟩ = some (.bool f.shut) ∧ V.cell? ⟨w6.heap.size, 2, none⟩ = some (.slice (some ⟨g4, 0, none⟩) (f.blocks.length + 1) gc4)) Z from fun Z hZ => by
                obtain ⟨q1, q2, q3, q4⟩ := HBOX.out Z hZ
                exact ⟨⟨cell_row q1 0, cell_row q1 1⟩, cell_row q2 1, ⟨cell_row q3 0, cell_row q3 1⟩, cell_row q4 0, cell_row q4 1, cell_row q4 2⟩)
              clear h7 h47 HPA HBOX hgl hY H1 H2 H3' HCR HQ2 HZ1 HZ2 HX1 HX3 HCP HSHX o1 o2 o3 o4 p1 p2 p3 p4 HBY0 HBY4 HC0 HC4 HB5 HX2 HX4 HY1 HY2 HBX HB5X HX HXA hw1 hw2 hw3 k0 k4 u0 u1 HTL HQ H4W HP HP4 HAP HS4 HS1
              go_wp2_with fail
              refine wp_region_noPanic ?_
              have TT := hid (show Below Y.heap.size Y Y.drew from ⟨rfl, rfl, rfl, Nat.le_refl _, fun _ _ => rfl⟩)
              have cf0 := HCELL.out _ TT.out
              refine wp_region_held_drew (S := (fun V => (V.cell? ⟨w.heap.size, 0, none⟩ = some (.int .i64 (D.B : Int)) ∧ V.cell? ⟨w.heap.size, 1, none⟩ = some (.slice a0 l.length c0)) ∧ V.cell? ⟨w.heap.size + 1, 1, none⟩ = some (.string s) ∧ (V.cell? ⟨w4.heap.size, 0, none⟩ = some (.int .i64 (D.B : Int)) ∧ V.cell? ⟨w4.heap.size, 1, none⟩ = some (.slice a4 l4.length c4)) ∧ V.cell? ⟨w6.heap.size, 0, none⟩ = some (.string s) ∧ V.cell? ⟨w6.heap.size, 1, none⟩ = some (.bool f.shut) ∧ V.cell? ⟨w6.heap.size, 2, none⟩ = some (.slice (some ⟨g4, 0, none⟩) (f.blocks.length + 1) gc4))) (by kernel_rfl) cf0 (fun hHeld => ?_)
              generalize Y.drew = Yd at TT cf0 hHeld ⊢
              refine wpAnyH_take (i := 0) (v := ?_) (by simp only [List.getElem?_toArray, List.getElem?_cons_zero]; rfl) (by kernel_rfl) (by kernel_rfl) (by kernel_rfl) (fun _ _ _ h => h) (Or.inl ⟨by rfl, ?_⟩) (by assumption) ?_
              rotate_left 1
              · intro w hSw; (try dsimp only at hSw); go_simp; (try with_reducible rfl)
              try simp only [Act.put, List.setIfInBounds_toArray, List.set_cons_zero, List.set_cons_succ]
              refine wpAnyH_take (i := 1) (v := ?_) (by simp only [List.getElem?_toArray, List.getElem?_cons_succ, List.getElem?_cons_zero]; rfl) (by kernel_rfl) (by kernel_rfl) (by kernel_rfl) (fun _ _ _ h => h) (Or.inl ⟨by rfl, ?_⟩) (by assumption) ?_
              rotate_left 1
              · intro w hSw; (try dsimp only at hSw); go_simp; (try with_reducible rfl)
              try simp only [Act.put, List.setIfInBounds_toArray, List.set_cons_zero, List.set_cons_succ]
              refine wpAnyH_take (i := 2) (v := ?_) (by simp only [List.getElem?_toArray, List.getElem?_cons_succ, List.getElem?_cons_zero]; rfl) (by kernel_rfl) (by kernel_rfl) (by kernel_rfl) (fun _ _ _ h => h) (Or.inl ⟨by rfl, ?_⟩) (by assumption) ?_
              rotate_left 1
              · intro w hSw; (try dsimp only at hSw); go_simp; (try with_reducible rfl)
              try simp only [Act.put, List.setIfInBounds_toArray, List.set_cons_zero, List.set_cons_succ]
              refine wpAnyH_take (i := 3) (v := ?_) (by simp only [List.getElem?_toArray, List.getElem?_cons_succ, List.getElem?_cons_zero]; rfl) (by kernel_rfl) (by kernel_rfl) (by kernel_rfl) (fun _ _ _ h => h) (Or.inl ⟨by rfl, ?_⟩) (by assumption) ?_
              rotate_left 1
              · intro w hSw; (try dsimp only at hSw); go_simp; (try with_reducible rfl)
              try simp only [Act.put, List.setIfInBounds_toArray, List.set_cons_zero, List.set_cons_succ]
              refine wpAnyH_take (i := 4) (v := ?_) (by simp only [List.getElem?_toArray, List.getElem?_cons_succ, List.getElem?_cons_zero]; rfl) (by kernel_rfl) (by kernel_rfl) (by kernel_rfl) (fun _ _ _ h => h) (Or.inl ⟨by rfl, ?_⟩) (by assumption) ?_
              rotate_left 1
              · intro w hSw; (try dsimp only at hSw); go_simp; (try with_reducible rfl)
              try simp only [Act.put, List.setIfInBounds_toArray, List.set_cons_zero, List.set_cons_succ]
              refine wpAnyH_take (i := 5) (v := ?_) (by simp only [List.getElem?_toArray, List.getElem?_cons_succ, List.getElem?_cons_zero]; rfl) (by kernel_rfl) (by kernel_rfl) (by kernel_rfl) (fun _ _ _ h => h) (Or.inl ⟨by rfl, ?_⟩) (by assumption) ?_
              rotate_left 1
              · intro w hSw; (try dsimp only at hSw); go_simp; (try with_reducible rfl)
              try simp only [Act.put, List.setIfInBounds_toArray, List.set_cons_zero, List.set_cons_succ]
              refine wpAnyH_take (i := 6) (v := ?_) (by simp only [List.getElem?_toArray, List.getElem?_cons_succ, List.getElem?_cons_zero]; rfl) (by kernel_rfl) (by kernel_rfl) (by kernel_rfl) (fun _ _ _ h => h) (Or.inl ⟨by rfl, ?_⟩) (by assumption) ?_
              rotate_left 1
              · intro w hSw; (try dsimp only at hSw); go_simp; (try with_reducible rfl)
              try simp only [Act.put, List.setIfInBounds_toArray, List.set_cons_zero, List.set_cons_succ]
              refine wpAnyH_take (i := 7) (v := ?_) (by simp only [List.getElem?_toArray, List.getElem?_cons_succ, List.getElem?_cons_zero]; rfl) (by kernel_rfl) (by kernel_rfl) (by kernel_rfl) (fun _ _ _ h => h) (Or.inl ⟨by rfl, ?_⟩) (by assumption) ?_
              rotate_left 1
              · intro w hSw; (try dsimp only at hSw); go_simp; (try with_reducible rfl)
              try simp only [Act.put, List.setIfInBounds_toArray, List.set_cons_zero, List.set_cons_succ]
              refine wpAnyH_take (i := 8) (v := ?_) (by simp only [List.getElem?_toArray, List.getElem?_cons_succ, List.getElem?_cons_zero]; rfl) (by kernel_rfl) (by kernel_rfl) (by kernel_rfl) (fun _ _ _ h => h) (Or.inl ⟨by rfl, ?_⟩) (by assumption) ?_
              rotate_left 1
              · intro w hSw; (try dsimp only at hSw); go_simp; (try with_reducible rfl)
              try simp only [Act.put, List.setIfInBounds_toArray, List.set_cons_zero, List.set_cons_succ]
              refine wpAnyH_take (i := 9) (v := ?_) (by simp only [List.getElem?_toArray, List.getElem?_cons_succ, List.getElem?_cons_zero]; rfl) (by kernel_rfl) (by kernel_rfl) (by kernel_rfl) (fun _ _ _ h => h) (Or.inl ⟨by rfl, ?_⟩) (by assumption) ?_
              rotate_left 1
              · intro w hSw; (try dsimp only at hSw); go_simp; (try with_reducible rfl)
              try simp only [Act.put, List.setIfInBounds_toArray, List.set_cons_zero, List.set_cons_succ]
              refine wpAnyH_take (i := 10) (v := ?_) (by simp only [List.getElem?_toArray, List.getElem?_cons_succ, List.getElem?_cons_zero]; rfl) (by kernel_rfl) (by kernel_rfl) (by kernel_rfl) (fun _ _ _ h => h) (Or.inl ⟨by rfl, ?_⟩) (by assumption) ?_
              rotate_left 1
              · intro w hSw; (try dsimp only at hSw); go_simp; (try with_reducible rfl)
              try simp only [Act.put, List.setIfInBounds_toArray, List.set_cons_zero, List.set_cons_succ]
              refine wpAnyH_take (i := 13) (v := ?_) (by simp only [List.getElem?_toArray, List.getElem?_cons_succ, List.getElem?_cons_zero]; rfl) (by kernel_rfl) (by kernel_rfl) (by kernel_rfl) (fun _ _ _ h => h) (Or.inl ⟨by rfl, ?_⟩) (by assumption) ?_
              rotate_left 1
              · intro w hSw; (try dsimp only at hSw); go_simp; (try with_reducible rfl)
              try simp only [Act.put, List.setIfInBounds_toArray, List.set_cons_zero, List.set_cons_succ]
              refine wpAnyH_ready (rs := [11, 14]) (by kernel_rfl) (by simp) ?_
              refine AllReadyH.cons (by simp only [List.getElem?_toArray, List.getElem?_cons_succ, List.getElem?_cons_zero]; rfl) (fun K hK => ?_) (AllReadyH.cons (by simp only [List.getElem?_toArray, List.getElem?_cons_succ, List.getElem?_cons_zero]; rfl) (fun K hK => ?_) AllReadyH.nil)
              ·
                go_simp
                go_at_call 38
                have C38 := (HEND.out.below TT.out).without (x := (D.B : Int))
                rw [HE4.out] at C38
                with_reducible refine C38.mono ?_
                rintro e w8 ⟨fv2, rfl, o8, t8⟩
                have s7 := TT.out.size
                have s8 := t8.size
                obtain ⟨fa2, fc2, e2⟩ := row_slice o8
                subst e2
                clear C38
                replace TT := hid (TT.out.trans (t8.mono TT.out.size))
                replace cf0 := HCELL.out _ TT.out
                clear t8
                go_wp2_with fail
                clear hHeld
                refine hK.out _ _ cf0 (fun hHeld => ?_)
                clear hK K
                try simp only [Act.put, List.setIfInBounds_toArray, List.set_cons_zero, List.set_cons_succ]
                have hf43 := fun W => field_files (D.B : Int) (.slice fa2 (lessS s l4).length fc2) W
                refine wpAnyH_take (i := 12) (v := ?_) (by simp only [List.getElem?_toArray, List.getElem?_cons_succ, List.getElem?_cons_zero]; rfl) (by kernel_rfl) (by kernel_rfl) (by kernel_rfl) (fun _ _ _ h => h) (Or.inl ⟨by rfl, ?_⟩) (by assumption) ?_
                rotate_left 1
                · intro w hSw; (try dsimp only at hSw); go_simp; (try with_reducible rfl)
                try simp only [Act.put, List.setIfInBounds_toArray, List.set_cons_zero, List.set_cons_succ]
                clear hf43
                refine wpAnyH_ready (rs := [14]) (by kernel_rfl) (by simp) ?_
                refine AllReadyH.cons (by simp only [List.getElem?_toArray, List.getElem?_cons_succ, List.getElem?_cons_zero]; rfl) (fun K hK => ?_) AllReadyH.nil
                go_simp
                have hb9 : Below w8.heap.size w8 (w8.alloc (.cells #[.string s, .bool f.shut, .slice (some ⟨g4, 0, none⟩) (f.blocks.length + 1) gc4] 75)) := (Below.refl _ _).alloc (Nat.le_refl _) _
                have r9 := heap_alloc_new w8 (.cells #[.string s, .bool f.shut, .slice (some ⟨g4, 0, none⟩) (f.blocks.length + 1) gc4] 75)
                replace o8 := row_below o8 hb9
                replace TT := hid (TT.out.trans (hb9.mono TT.out.size))
                replace cf0 := HCELL.out _ TT.out
                clear hb9
                clear hHeld
                refine hK.out _ _ cf0 (fun hHeld => ?_)
                clear hK K
                try simp only [Act.put, List.setIfInBounds_toArray, List.set_cons_zero, List.set_cons_succ]
                refine wpAnyH_ready (rs := [15]) (by kernel_rfl) (by simp) ?_
                refine AllReadyH.cons (by simp only [List.getElem?_toArray, List.getElem?_cons_succ, List.getElem?_cons_zero]; rfl) (fun K hK => ?_) AllReadyH.nil
                have hlen := (HEND.out).lessLen
                have hlen2 := (HEND.out).len
                have hlen3 := (HEND.out).few
                refine step_append_fileG rfl _ _ rfl _ (.slice fa2 (lessS s l4).length fc2) (lessS s l4).length ((lessS s l4).flatMap SFile.cells) _ (.string s) (.bool f.shut) (.slice (some ⟨g4, 0, none⟩) (f.blocks.length + 1) gc4) rfl rfl o8 r9 rfl rfl rfl (by omega) (by first | exact s8 | (simp only [World.size_alloc]; omega)) (fun g cap w10 r1 r2 => ?_)
                have hb10 := TT.out.grown r2 TT.out.size (fun b hb => Nat.le_trans s7 (o8.lt b hb).1)
                replace TT := hid hb10
                replace cf0 := HCELL.out _ TT.out
                rw [← HCE.out] at r1
                clear hb10 r2 o8 r9 s7 s8 hlen hlen2 hlen3
                clear hHeld
                refine hK.out _ _ cf0 (fun hHeld => ?_)
                clear hK K
                try simp only [Act.put, List.setIfInBounds_toArray, List.set_cons_zero, List.set_cons_succ]
                refine wpAnyH_ready (rs := [16]) (by kernel_rfl) (by simp) ?_
                refine AllReadyH.cons (by simp only [List.getElem?_toArray, List.getElem?_cons_succ, List.getElem?_cons_zero]; rfl) (fun K hK => ?_) AllReadyH.nil
                go_simp
                go_at_call 37
                have C37 := (HEND.out.below TT.out).state (x := (D.B : Int)) r1
                with_reducible refine C37.mono ?_
                rintro e w11 ⟨fv5, rfl, o11, t11⟩
                obtain ⟨fa5, fc5, e5⟩ := row_slice o11
                subst e5
                clear C37 r1
                replace TT := hid (TT.out.trans (t11.mono TT.out.size))
                replace cf0 := HCELL.out _ TT.out
                clear t11
                go_wp2_with fail
                clear hHeld
                refine hK.out _ _ cf0 (fun hHeld => ?_)
                clear hK K
                try simp only [Act.put, List.setIfInBounds_toArray, List.set_cons_zero, List.set_cons_succ]
                refine wpAnyH_ready (rs := [17]) (by kernel_rfl) (by simp) ?_
                refine AllReadyH.cons (by simp only [List.getElem?_toArray, List.getElem?_cons_succ, List.getElem?_cons_zero]; rfl) (fun K hK => ?_) AllReadyH.nil
                go_simp
                go_at_call 11
                have C11 := (HEND.out.below TT.out).same (x := (D.B : Int)) o11
                rw [HEE.out, List.length_set] at C11
                with_reducible refine C11.mono ?_
                rintro e w12 ⟨rfl, t12⟩
                clear C11 o11
                replace TT := hid (TT.out.trans (t12.mono TT.out.size))
                replace cf0 := HCELL.out _ TT.out
                clear t12
                go_wp2_with fail
                clear hHeld
                refine hK.out _ _ cf0 (fun hHeld => ?_)
                clear hK K
                try simp only [Act.put, List.setIfInBounds_toArray, List.set_cons_zero, List.set_cons_succ]
                refine wpAnyH_take (i := 18) (v := ?_) (by simp only [List.getElem?_toArray, List.getElem?_cons_succ, List.getElem?_cons_zero]; rfl) (by kernel_rfl) (by kernel_rfl) (by kernel_rfl) (fun _ _ _ h => h) (Or.inl ⟨by rfl, ?_⟩) (by assumption) ?_
                rotate_left 1
                · intro w hSw; (try dsimp only at hSw); go_simp; (try with_reducible rfl)
                try simp only [Act.put, List.setIfInBounds_toArray, List.set_cons_zero, List.set_cons_succ]
                refine wpAnyH_take (i := 19) (v := ?_) (by simp only [List.getElem?_toArray, List.getElem?_cons_succ, List.getElem?_cons_zero]; rfl) (by kernel_rfl) (by kernel_rfl) (by kernel_rfl) (fun _ _ _ h => h) (Or.inl ⟨by rfl, ?_⟩) (by assumption) ?_
                rotate_left 1
                · intro w hSw; (try dsimp only at hSw); go_simp; (try with_reducible rfl)
                try simp only [Act.put, List.setIfInBounds_toArray, List.set_cons_zero, List.set_cons_succ]
                refine wpAnyH_done (by kernel_rfl) ?_ _
                refine NoPanic.normal ?_
                go_wp2_with fail
                go_ret
                exact ⟨rfl, HLOW.out.trans (Touch.of_below (F := []) TT.out (Nat.le_refl _)) (by simp)⟩
              ·
                go_simp
                have hb9 : Below Yd.heap.size Yd (Yd.alloc (.cells #[.string s, .bool f.shut, .slice (some ⟨g4, 0, none⟩) (f.blocks.length + 1) gc4] 75)) := (Below.refl _ _).alloc (Nat.le_refl _) _
                have r9 := heap_alloc_new Yd (.cells #[.string s, .bool f.shut, .slice (some ⟨g4, 0, none⟩) (f.blocks.length + 1) gc4] 75)
                replace TT := hid (TT.out.trans (hb9.mono TT.out.size))
                replace cf0 := HCELL.out _ TT.out
                clear hb9
                clear hHeld
                refine hK.out _ _ cf0 (fun hHeld => ?_)
                clear hK K
                try simp only [Act.put, List.setIfInBounds_toArray, List.set_cons_zero, List.set_cons_succ]
                refine wpAnyH_ready (rs := [11]) (by kernel_rfl) (by simp) ?_
                refine AllReadyH.cons (by simp only [List.getElem?_toArray, List.getElem?_cons_succ, List.getElem?_cons_zero]; rfl) (fun K hK => ?_) AllReadyH.nil
                go_simp
                go_at_call 38
                have C38 := (HEND.out.below TT.out).without (x := (D.B : Int))
                rw [HE4.out] at C38
                with_reducible refine C38.mono ?_
                rintro e w8 ⟨fv2, rfl, o8, t8⟩
                have s7 := TT.out.size
                have s8 := t8.size
                obtain ⟨fa2, fc2, e2⟩ := row_slice o8
                subst e2
                clear C38
                have r9 := (t8.block _ (lt_of_block r9)).trans r9
                replace TT := hid (TT.out.trans (t8.mono TT.out.size))
                replace cf0 := HCELL.out _ TT.out
                clear t8
                go_wp2_with fail
                clear hHeld
                refine hK.out _ _ cf0 (fun hHeld => ?_)
                clear hK K
                try simp only [Act.put, List.setIfInBounds_toArray, List.set_cons_zero, List.set_cons_succ]
                have hf43 := fun W => field_files (D.B : Int) (.slice fa2 (lessS s l4).length fc2) W
                refine wpAnyH_take (i := 12) (v := ?_) (by simp only [List.getElem?_toArray, List.getElem?_cons_succ, List.getElem?_cons_zero]; rfl) (by kernel_rfl) (by kernel_rfl) (by kernel_rfl) (fun _ _ _ h => h) (Or.inl ⟨by rfl, ?_⟩) (by assumption) ?_
                rotate_left 1
                · intro w hSw; (try dsimp only at hSw); go_simp; (try with_reducible rfl)
                try simp only [Act.put, List.setIfInBounds_toArray, List.set_cons_zero, List.set_cons_succ]
                clear hf43
                refine wpAnyH_ready (rs := [15]) (by kernel_rfl) (by simp) ?_
                refine AllReadyH.cons (by simp only [List.getElem?_toArray, List.getElem?_cons_succ, List.getElem?_cons_zero]; rfl) (fun K hK => ?_) AllReadyH.nil
                have hlen := (HEND.out).lessLen
                have hlen2 := (HEND.out).len
                have hlen3 := (HEND.out).few
                refine step_append_fileG rfl _ _ rfl _ (.slice fa2 (lessS s l4).length fc2) (lessS s l4).length ((lessS s l4).flatMap SFile.cells) _ (.string s) (.bool f.shut) (.slice (some ⟨g4, 0, none⟩) (f.blocks.length + 1) gc4) rfl rfl o8 r9 rfl rfl rfl (by omega) (by first | exact s8 | (simp only [World.size_alloc]; omega)) (fun g cap w10 r1 r2 => ?_)
                have hb10 := TT.out.grown r2 TT.out.size (fun b hb => Nat.le_trans s7 (o8.lt b hb).1)
                replace TT := hid hb10
                replace cf0 := HCELL.out _ TT.out
                rw [← HCE.out] at r1
                clear hb10 r2 o8 r9 s7 s8 hlen hlen2 hlen3
                clear hHeld
                refine hK.out _ _ cf0 (fun hHeld => ?_)
                clear hK K
                try simp only [Act.put, List.setIfInBounds_toArray, List.set_cons_zero, List.set_cons_succ]
                refine wpAnyH_ready (rs := [16]) (by kernel_rfl) (by simp) ?_
                refine AllReadyH.cons (by simp only [List.getElem?_toArray, List.getElem?_cons_succ, List.getElem?_cons_zero]; rfl) (fun K hK => ?_) AllReadyH.nil
                go_simp
                go_at_call 37
                have C37 := (HEND.out.below TT.out).state (x := (D.B : Int)) r1
                with_reducible refine C37.mono ?_
                rintro e w11 ⟨fv5, rfl, o11, t11⟩
                obtain ⟨fa5, fc5, e5⟩ := row_slice o11
                subst e5
                clear C37 r1
                replace TT := hid (TT.out.trans (t11.mono TT.out.size))
                replace cf0 := HCELL.out _ TT.out
                clear t11
                go_wp2_with fail
                clear hHeld
                refine hK.out _ _ cf0 (fun hHeld => ?_)
                clear hK K
                try simp only [Act.put, List.setIfInBounds_toArray, List.set_cons_zero, List.set_cons_succ]
                refine wpAnyH_ready (rs := [17]) (by kernel_rfl) (by simp) ?_
                refine AllReadyH.cons (by simp only [List.getElem?_toArray, List.getElem?_cons_succ, List.getElem?_cons_zero]; rfl) (fun K hK => ?_) AllReadyH.nil
                go_simp
                go_at_call 11
                have C11 := (HEND.out.below TT.out).same (x := (D.B : Int)) o11
                rw [HEE.out, List.length_set] at C11
                with_reducible refine C11.mono ?_
                rintro e w12 ⟨rfl, t12⟩
                clear C11 o11
                replace TT := hid (TT.out.trans (t12.mono TT.out.size))
                replace cf0 := HCELL.out _ TT.out
                clear t12
                go_wp2_with fail
                clear hHeld
                refine hK.out _ _ cf0 (fun hHeld => ?_)
                clear hK K
                try simp only [Act.put, List.setIfInBounds_toArray, List.set_cons_zero, List.set_cons_succ]
                refine wpAnyH_take (i := 18) (v := ?_) (by simp only [List.getElem?_toArray, List.getElem?_cons_succ, List.getElem?_cons_zero]; rfl) (by kernel_rfl) (by kernel_rfl) (by kernel_rfl) (fun _ _ _ h => h) (Or.inl ⟨by rfl, ?_⟩) (by assumption) ?_
                rotate_left 1
                · intro w hSw; (try dsimp only at hSw); go_simp; (try with_reducible rfl)
                try simp only [Act.put, List.setIfInBounds_toArray, List.set_cons_zero, List.set_cons_succ]
                refine wpAnyH_take (i := 19) (v := ?_) (by simp only [List.getElem?_toArray, List.getElem?_cons_succ, List.getElem?_cons_zero]; rfl) (by kernel_rfl) (by kernel_rfl) (by kernel_rfl) (fun _ _ _ h => h) (Or.inl ⟨by rfl, ?_⟩) (by assumption) ?_
                rotate_left 1
                · intro w hSw; (try dsimp only at hSw); go_simp; (try with_reducible rfl)
                try simp only [Act.put, List.setIfInBounds_toArray, List.set_cons_zero, List.set_cons_succ]
                refine wpAnyH_done (by kernel_rfl) ?_ _
                refine NoPanic.normal ?_
                go_wp2_with fail
                go_ret
                exact ⟨rfl, HLOW.out.trans (Touch.of_below (F := []) TT.out (Nat.le_refl _)) (by simp)⟩

  · have HB2 := hid hb12
    clear hb2 hb12
    go_wp2
    go_ret
    exact ⟨rfl, Touch.of_below (HTW.out.trans (HB2.out.mono HTW.out.size)) (Nat.le_refl _)⟩
end
end Go.Proofs.YtcpncfngadablaaDoor
