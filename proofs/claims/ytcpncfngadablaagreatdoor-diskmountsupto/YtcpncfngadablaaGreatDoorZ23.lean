import Derived.Test.YtcpncfngadablaaGreatDoorZ22
/-
  The landed Mount over a state that came in, with troubles: refused and granted.
-/
namespace Go.Proofs.YtcpncfngadablaaGreatDoor
open Go.RowKit Go.Deep
theorem MountV.uniq {sB B Bs : Int} {l : List SFile} {c d : Option Nat} (h : MountV sB B Bs l c) (g : MountV sB B Bs l d) : c = d := by
  rcases h with ⟨rfl, h1, h2, h3, h4⟩ | ⟨rfl, h1⟩ | ⟨rfl, h1, h2⟩ | ⟨rfl, h1, h2, h3, h4⟩ <;>
  rcases g with ⟨rfl, g1, g2, g3, g4⟩ | ⟨rfl, g1⟩ | ⟨rfl, g1, g2⟩ | ⟨rfl, g1, g2, g3, g4⟩ <;>
  first
    | rfl
    | exact absurd h1 g1
    | exact absurd g1 h1
    | exact absurd ⟨h2, h3⟩ g2
    | exact absurd ⟨g2, g3⟩ h2
    | exact absurd h4 g4
    | exact absurd g4 h4
theorem ahead {a b : List UInt8} (h : (Op.bytesLess b a || b == a) = false) : bytesBefore a b = true := by
  rw [less_before] at h
  have h1 : bytesBefore b a = false := by cases hx : bytesBefore b a with | false => rfl | true => rw [hx] at h; cases h
  have h2 : b ≠ a := fun e => by subst e; simp at h
  rcases WideAt.bytes_total b a h2 with h3 | h3
  · rw [h1] at h3; cases h3
  · exact h3
theorem FilesOk.good {B : Int} {l : List SFile} (h : FilesOk B l l.length) (hn : l.length ≤ 1099511627776) (hu : usedN l l.length ≤ 1099511627776) : GoodL l ∧ ∀ e ∈ l, ∀ b ∈ e.file.blocks, (b.length : Int) = B := by
  have hstep : ∀ (j : Nat) (hj : j + 1 < l.length), bytesBefore (l[j]'(by omega)).name (l[j + 1]).name = true := fun j hj => by
    have h1 := (h (j + 1) _ hj (List.getElem?_eq_getElem hj)).2.1
    have h2 : l[j]? = some (l[j]'(by omega)) := List.getElem?_eq_getElem (by omega)
    have h3 : lastN l (j + 1) = (l[j]'(by omega)).name := by simp [lastN, h2]
    rw [h3] at h1
    exact ahead (by simpa [ByteArray.toList_eq] using h1)
  have hall : ∀ (d i : Nat) (hj : i + d + 1 < l.length), bytesBefore (l[i]'(by omega)).name (l[i + d + 1]).name = true := fun d => by
    induction d with
    | zero => exact fun i hj => hstep i hj
    | succ d ih =>
      intro i hj
      exact WideShapes.bytes_trans _ _ _ (ih i (by omega)) (hstep (i + d + 1) (by omega))
  refine ⟨⟨fun e he => ?_, List.pairwise_iff_getElem.2 fun i j hi hj hij => ?_, hn, hu⟩, fun e he => ?_⟩
  · obtain ⟨j, hj⟩ := List.getElem?_of_mem he
    exact (h j e (List.getElem?_eq_some_iff.1 hj).1 hj).1
  · obtain ⟨d, rfl⟩ : ∃ d, j = i + d + 1 := ⟨j - i - 1, by omega⟩
    exact hall d i hj
  · obtain ⟨j, hj⟩ := List.getElem?_of_mem he
    exact (h j e (List.getElem?_eq_some_iff.1 hj).1 hj).2.2
section
variable {w w' : World} {E : Nat → Addr} {lo p mf mt : Nat} {D : DiskC}
/-- Mount's loop, k files taken in. -/
structure MInvT (w1 wr : World) (p mf mt B : Nat) (Bs : Int) (l : List SFile) (k : Nat) (T : DataW Unit) (D : DiskC) : Prop where
  rep : Rep wr w1.heap.size p mf mt D
  pub : D.pub = mountA B Bs l k
  still : D.T = T
  below : Below w1.heap.size w1 wr

theorem MInvT.find {T : DataW Unit} {w1 wr : World} {B k : Nat} {Bs : Int} {l : List SFile} (h : MInvT w1 wr p mf mt B Bs l k T D) (hg : GoodL l) {e : SFile} (he : l[k]? = some e) : findE D.ents e.name = none ∧ ∀ y ∈ D.ents, bytesBefore y.name e.name = true := by
  have hall : ∀ y ∈ D.ents, bytesBefore y.name e.name = true := by
    intro y hy
    have hm : y.pub ∈ (l.take k).map SFile.pub := by
      have := congrArg PubA.files h.pub
      simp only [DiskC.pub, mountA] at this
      rw [← this]
      exact List.mem_map.2 ⟨y, hy, rfl⟩
    obtain ⟨z, hz, hzy⟩ := List.mem_map.1 hm
    obtain ⟨j, hj, hjz⟩ := List.getElem_of_mem hz
    obtain ⟨hk, rfl⟩ := List.getElem?_eq_some_iff.1 he
    simp at hj
    have hb := List.pairwise_iff_getElem.1 hg.rising j k (by omega) hk (by omega)
    have hzn : z.name = y.name := congrArg Prod.fst hzy
    rw [List.getElem_take] at hjz
    rw [hjz, hzn] at hb
    exact hb
  refine ⟨?_, hall⟩
  unfold findE
  rw [List.find?_eq_none]
  intro y hy
  have := hall y hy
  simp
  intro e1
  rw [e1, WideAt.bytes_irrefl] at this
  cases this

theorem mountT_next {T : DataW Unit} {w1 wr wa wb : World} {B k n : Nat} {Bs : Int} {l : List SFile} {e : SFile} {L : Lay} (h : MInvT w1 wr p mf mt B Bs l k T D) (hg : GoodL l) (he : l[k]? = some e) (hsz : w1.heap.size ≤ wr.heap.size)
    (hta : Touch [] wr wa) (hat : FileAt wa B L e.file) (hfr : ∀ b ∈ L.foot, wr.heap.size ≤ b) (hnd : L.foot.Nodup) (hmap : wb.ownsMap Tryz.prog 9 ptrElem mf (n + 1) ((mapOf D.ents).put (.string e.name) (.lit (.int .i64 L.fb)))) (hn : n = D.ents.length) (hgr : wa.grownBy wb (some mf)) :
    Rep wb w1.heap.size p mf mt { D with ents := D.ents ++ [⟨e.name, e.file, L⟩] } ∧ Below w1.heap.size w1 wb := by
  subst hn
  obtain ⟨hf, hall⟩ := h.find hg he
  have hBB : D.B = B := congrArg PubA.B h.pub
  have ht : Touch [mf] wr wb := (hta.mono (by simp)).grown hgr (by simp)
  have hnm : e.name.length ≤ 32 := by
    have := name_size (hg.names e (List.mem_of_getElem? he))
    simpa using (show e.name.toArray.size ≤ 32 from this)
  have hmfl : mf < wr.heap.size := h.rep.files.lt
  have hat' : FileAt wb D.B L e.file := by
    rw [hBB]
    exact hat.kept fun b hb => hgr.block b (hat.lt b hb) (by have := hfr b hb; simp; omega)
  have hR := h.rep.insertFile (e := ⟨e.name, e.file, L⟩) hnm hf ht hfr hsz hnd hat' hmap
  rw [insE_end hall] at hR
  exact ⟨hR, h.below.trans (ht.below hsz (fun b hb => by simp at hb; subst hb; exact h.rep.base b (by simp [DiskC.foot])))⟩

theorem mountT_use {T : DataW Unit} {w1 wb wc : World} {B k : Nat} {Bs : Int} {l : List SFile} {e : SFile} {L : Lay} {wr : World} (h : MInvT w1 wr p mf mt B Bs l k T D) (he : l[k]? = some e) (hR : Rep wc w1.heap.size p mf mt { D with ents := D.ents ++ [⟨e.name, e.file, L⟩], c := { D.c with used := D.c.used + e.file.blocks.length, most := max D.c.most (D.c.used + e.file.blocks.length) } }) (hb : Below w1.heap.size w1 wb) (ht : Touch [p] wb wc) (hsz : w1.heap.size ≤ wb.heap.size) :
    MInvT w1 wc p mf mt B Bs l (k + 1) T { D with ents := D.ents ++ [⟨e.name, e.file, L⟩], c := { D.c with used := D.c.used + e.file.blocks.length, most := max D.c.most (D.c.used + e.file.blocks.length) } } := by
  have hp := h.pub
  simp only [DiskC.pub, mountA, PubA.mk.injEq] at hp
  obtain ⟨h1, h2, h3, h4, h5⟩ := hp
  refine ⟨hR, ?_, h.still, hb.trans (ht.below hsz (fun b hb => by simp at hb; subst hb; exact h.rep.base b (by simp [DiskC.foot])))⟩
  simp only [DiskC.pub, mountA, PubA.mk.injEq]
  refine ⟨h1, h2, h3, ?_, ?_⟩
  · obtain ⟨hk, rfl⟩ := List.getElem?_eq_some_iff.1 he
    rw [List.map_append, h4, List.take_succ_eq_append_getElem hk, List.map_append]
    rfl
  · rw [h5]
    have hu := usedN_succ he
    simp only [Cnt.mk.injEq, true_and]
    refine ⟨?_, ?_⟩ <;> (rw [hu]; omega)


theorem mount_fileIn {wr X : World} {B : Nat} {s : ByteArray} {x : Bool} {sv : Value} {blocks : List (List UInt8)} {ga : Option Addr} {gn gk : Nat} (h : BlIn wr sv blocks) (hlb : ∀ b ∈ blocks, b.length = B) (hsv : sv = .slice ga gn gk) (T : Touch [] wr X) (hB1 : 64 ≤ B) (hB2 : B ≤ 65536) (hn : blocks.length ≤ 1099511627776) :
    Calls Tryz.prog 57 #[.agg #[.string s, .bool x, .slice ga gn gk]] X fun e w' => ∃ L : Lay, e = .returned (ptr L.fb) ∧ FileAt w' B L ⟨x, blocks⟩ ∧ (∀ b ∈ L.foot, X.heap.size ≤ b) ∧ L.foot.Nodup ∧ Below X.heap.size X w' := by
  rw [← hsv]
  exact fileOfIn_any (h.below (T.below (Nat.le_refl _) (by simp))) hlb hB1 hB2 hn
set_option maxRecDepth 100000 in
set_option maxHeartbeats 1000000 in
theorem Mount_no (V : Env w lo E) {sB B Bs : Int} {fv : Value} {l : List SFile} {ta : Option Addr} {tn tc : Nat} {c : Nat} (h : StIn w fv l) (hn : l.length ≤ 1099511627776) (hu : usedN l l.length ≤ 1099511627776) (hc : MountV sB B Bs l (some c)) :
    Calls Tryz.prog 22 #[.agg #[.int .i64 sB, fv], .agg #[.int .i64 B, .int .i64 Bs, .slice ta tn tc]] w fun e w' => e = .returned (.tuple #[.pointer none, .int .i64 (code c)]) ∧ Below w.heap.size w w' := by
  have hlt : c < 11 := by rcases hc with ⟨h, _⟩ | ⟨h, _⟩ | ⟨h, _⟩ | ⟨h, _⟩ <;> (cases h <;> omega)
  have HC := hid (fun W (hb : Below w.heap.size w W) => checkMount_in (sB := sB) (B := B) (Bs := Bs) (ta := ta) (tn := tn) (tc := tc) (V.touch (Touch.of_below (F := []) hb (Nat.le_refl _)) (by simp)) (h.below hb) hn hu)
  have HV : Hid (∀ W, Below w.heap.size w W → Sents W E) := fun W hb => (V.touch (Touch.of_below (F := []) hb (Nat.le_refl _)) (by simp)).sents
  have HX : Hid (∀ o1 o2, Below w.heap.size w ((w.alloc o1).alloc o2)) := fun o1 o2 => ((Below.refl _ w).alloc (Nat.le_refl _) _).alloc (by simp) _
  have HU := hid hc
  obtain ⟨fa, fc, hfv⟩ := h.sl
  rw [hfv] at HC
  rw [hfv]
  clear h V hc hfv
  go_enter Tryz.func22, Tryz.ntmps22
  go_wp2_with (first
    | (have q := HB0; clear q; go_at_call 26; refine (tell_err (HV.out _ HB0.out) c hlt).mono ?_; rintro e w2 ⟨rfl, rfl⟩)
    | (go_at_call 56; refine (HC.out _ (HX.out _ _)).mono ?_; rintro e w1 ⟨⟨d, hd, rfl⟩, hb1⟩; obtain rfl : d = some c := hd.uniq HU.out; have HB0 : Hid (Below w.heap.size w w1) := hid ((HX.out _ _).trans (hb1.mono (HX.out _ _).size)); clear hd hb1; simp only [errOf]))
  go_ret2
  exact ⟨rfl, HB0.out⟩
set_option maxRecDepth 100000 in
set_option maxHeartbeats 1000000 in
theorem Mount_go (V : Env w lo E) {B : Nat} {Bs : Int} {fv : Value} {l : List SFile} {ta : Option Addr} {tc : Nat} {tl : List TrA} (h : StIn w fv l) (htl : TrsAt w ta tl) (htn : tl.length ≤ 1099511627776) (hn : l.length ≤ 1099511627776) (hu : usedN l l.length ≤ 1099511627776) (hc : MountV B B Bs l none) :
    Calls Tryz.prog 22 #[.agg #[.int .i64 B, fv], .agg #[.int .i64 B, .int .i64 Bs, .slice ta tl.length tc]] w fun e w' => ∃ p mf mt D, e = .returned (.tuple #[ptr p, .int .i64 0]) ∧ Rep w' w.heap.size p mf mt D ∧ D.pub = mountA B Bs l l.length ∧ TIs D.T tl ∧ Below w.heap.size w w' := by
  obtain ⟨hso, hfo⟩ : SetOk B Bs ∧ FilesOk B l l.length := by
    rcases hc with ⟨_, h1, _, h2, _⟩ | ⟨h, _⟩ | ⟨h, _⟩ | ⟨h, _⟩
    · exact ⟨h1, h2⟩
    all_goals cases h
  obtain ⟨hg, hlb⟩ := hfo.good hn hu
  obtain ⟨h1, h2, h3, h4, h5⟩ := hso
  have h1 : 64 ≤ B := by omega
  have h2 : B ≤ 65536 := by omega
  obtain ⟨fa, fc, hfv⟩ := h.sl
  obtain ⟨W, hW⟩ : ∃ W, W = (w.alloc (.cells #[.int .i64 B, .slice fa l.length fc] 47)).alloc (.cells #[.int .i64 B, .int .i64 Bs, .slice ta tl.length tc] 29) := ⟨_, rfl⟩
  have hW1 := heap_two w (.cells #[.int .i64 B, .slice fa l.length fc] 47) (.cells #[.int .i64 B, .int .i64 Bs, .slice ta tl.length tc] 29)
  rw [← hW] at hW1
  have hTW : Below w.heap.size w W := by rw [hW]; exact ((Below.refl _ w).alloc (Nat.le_refl _) _).alloc (by simp) _
  have HC := hid (checkMount_in (sB := B) (B := B) (Bs := Bs) (ta := ta) (tn := tl.length) (tc := tc) (V.touch (Touch.of_below (F := []) hTW (Nat.le_refl _)) (by simp)) (h.below hTW) hn hu)
  have HEM := hid (fun (W : World) (hb : Below w.heap.size w W) => empty_x (B := B) (Bs := Bs) (ca := tc) (htl.below hb) htn)
  rw [hfv] at HC
  have HS := hid h
  have HG := hid hg
  have HLB := hid hlb
  have HFV := hid hfv
  have HU := hid hc
  rw [hfv]
  have HE := hid hW
  have HW := hid hW1
  have HTW := hid hTW
  clear h hg hlb hfv h3 hW hW1 hTW hc hfo htl V
  go_enter Tryz.func22, Tryz.ntmps22
  go_wp2_with fail
  rw [← HE.out]
  refine HC.out.mono ?_
  rintro e w0 ⟨⟨d, hd, rfl⟩, hb0⟩
  obtain rfl : d = none := hd.uniq HU.out
  clear hd
  simp only [errOf]
  have r1 : w0.heap[w.heap.size]? = _ := (hb0.block _ (lt_of_block HW.out.1)).trans HW.out.1
  have r2 : w0.heap[w.heap.size + 1]? = _ := (hb0.block _ (lt_of_block HW.out.2)).trans HW.out.2
  have b0 := cell_row r2 0
  have b1 := cell_row r2 1
  have b2 := cell_row r2 2
  simp at b0 b1 b2
  have hbw : Below w.heap.size w w0 := HTW.out.trans (hb0.mono HTW.out.size)
  have HR1 := hid r1
  have HBW := hid hbw
  have lz : w.heap.size + 1 < w0.heap.size := lt_of_block r2
  clear r1 r2 hb0 hbw
  go_wp2_with fail
  refine (HEM.out _ HBW.out).mono ?_
  rintro e w1 ⟨p, mf, mt, T, rfl, hR1, hTI, hb1⟩
  have q1 : w1.heap[w.heap.size]? = _ := (hb1.block _ (lt_of_block HR1.out)).trans HR1.out
  have c1 := cell_row q1 1
  simp at c1
  have HI : Hid (MInvT w0 w1 p mf mt B Bs l 0 T (.newT B Bs T)) := ⟨hR1, rfl, rfl, hb1⟩
  have HTI := hid hTI
  clear hR1 hb1 q1 hTI
  go_wp2
  go_loopw [22] (fun i wr => ∃ (k : Nat) (D : DiskC), k ≤ l.length ∧ i = .int .i64 k ∧ MInvT w0 wr p mf mt B Bs l k T D) (fun i _ => l.length - (intOf i).toNat)
  case atStart => exact ⟨0, _, Nat.zero_le _, rfl, HI.out⟩
  case round =>
    obtain ⟨k, D, hk, rfl, hinv⟩ := hrel
    have hfew := HG.out.few
    have hsz : w0.heap.size ≤ wr.heap.size := hinv.below.size
    by_cases hlt : k < l.length
    · obtain ⟨e0, he0⟩ : ∃ e0, l[k]? = some e0 := ⟨l[k], List.getElem?_eq_getElem hlt⟩
      obtain ⟨G, gc, hG⟩ := HS.out.one (by omega)
      rw [HFV.out] at hG
      simp only [Value.slice.injEq, true_and] at hG
      obtain ⟨rfl, rfl⟩ := hG
      have hbwr : Below w.heap.size w wr := HBW.out.trans (hinv.below.mono HBW.out.size)
      obtain ⟨f0, f1, f2, hbl⟩ := (HS.out.below hbwr).read he0 HFV.out
      have hone := HG.out.one he0
      have hnm : e0.name.length ≤ 32 := by
        have := name_size (HG.out.names e0 (List.mem_of_getElem? he0))
        simpa using (show e0.name.toArray.size ≤ 32 from this)
      have hlb0 : ∀ b ∈ e0.file.blocks, b.length = B := fun b hb => by have := HLB.out e0 (List.mem_of_getElem? he0) b hb; omega
      obtain ⟨ga, gk, hsv⟩ := hbl.sl
      have k3 := hinv.rep.cell 3
      simp only [dRow] at k3
      have lp := lt_of_block hinv.rep.row
      rw [hsv] at f2
      have HBL := hid hbl
      have HSV := hid hsv
      have HL0 := hid hlb0
      have HI := hid hinv
      have HE0 := hid he0
      have hents : D.ents.length ≤ 1099511627776 := by
        have := congrArg (fun A : PubA => A.files.length) hinv.pub
        simp only [DiskC.pub, mountA, List.length_map, List.length_take] at this
        omega
      have hBe : D.B = B := congrArg PubA.B hinv.pub
      have hus : D.c.used = usedN l k := congrArg (fun A : PubA => A.c.used) hinv.pub
      have hule := usedN_le l k
      have hgbl := HG.out.blocks
      obtain ⟨T0, row0⟩ : Touch [] wr (wr.alloc (.cells #[encStr e0.name, .bool e0.file.shut, .slice ga e0.file.blocks.length gk] 71)).drew ∧ (wr.alloc (.cells #[encStr e0.name, .bool e0.file.shut, .slice ga e0.file.blocks.length gk] 71)).drew.heap[wr.heap.size]? = some (.cells #[encStr e0.name, .bool e0.file.shut, .slice ga e0.file.blocks.length gk] 71 (0, 0)) := ⟨((Touch.refl [] wr).alloc _).drew, heap_alloc_new wr _⟩
      have HT0 := hid T0
      have HRW0 := hid row0
      have hu1 : 0 ≤ D.c.used := by omega
      have hu2 : D.c.used ≤ 1099511627776 := by omega
      clear hbl hsv hinv he0 hbwr T0 row0 hus hBe hlb0
      go_wp2
      go_region_held3 (fun V => V.cell? ⟨p, 3, none⟩ = some (.map (some mf)) ∧ V.cell? ⟨wr.heap.size, 0, none⟩ = some (encStr e0.name) ∧ V.cell? ⟨wr.heap.size, 1, none⟩ = some (.bool e0.file.shut) ∧ V.cell? ⟨wr.heap.size, 2, none⟩ = some (.slice ga e0.file.blocks.length gk)) (go_keep)
        (first
          | (go_at_call 58; refine (ownName_any ⟨e0.name.toArray⟩ _ ?_).mono ?_; exact Nat.le_trans (show e0.name.toArray.size ≤ 32 by simpa using hnm) (by omega); rintro e w3 ⟨rfl, hb3⟩; obtain ⟨T3, row3, x0, x1, x2, x3⟩ := mount_arm HI.out.rep HT0.out HRW0.out hb3; have HT3 := hid T3; have HRW3 := hid row3; clear hb3 T3 row3)
          | (go_at_call 57; refine (mount_fileIn HBL.out HL0.out HSV.out HT3.out h1 h2 hone).mono ?_; rintro e w4 ⟨L, rfl, hat, hfr, hnd, hb4⟩; obtain ⟨T4, row4, y0, y1, y2, y3⟩ := mount_arm HI.out.rep HT3.out HRW3.out hb4; obtain ⟨wA, hA, mA, gA, z0, z1, z2, z3⟩ := mount_upd HI.out.rep T4 row4 hents hnm L.fb; have HT4 := hid T4; have HRW4 := hid row4; have HAT4 := hid hat; have HFR := hid hfr; have HND := hid hnd; have HMA := hid mA; have HGA := hid gA; have HS3 := hid HT3.out.size; clear hb4 T4 row4 mA gA hat hfr hnd))
      have hnx := mountT_next HI.out HG.out HE0.out hsz HT4.out HAT4.out (fun b hb => Nat.le_trans HS3.out (HFR.out b hb)) HND.out HMA.out rfl HGA.out
      have HNX := hid hnx
      have HSA : Hid (w0.heap.size ≤ wA.heap.size) := Nat.le_trans hsz (Nat.le_trans HT4.out.size HGA.out.size)
      clear hnx
      go_wp2_with (go_at_call 59; refine (use_any HNX.out.1 _ hu1 hu2 (by omega) (by omega)).mono ?_; rintro e w5 ⟨rfl, hR5, ht5⟩; have HM := hid (mountT_use HI.out HE0.out hR5 HNX.out.2 ht5 HSA.out); clear hR5 ht5)
      go_roundw
      case rel => first | exact ⟨k + 1, _, by omega, by go_num, HM.out⟩ | ((repeat apply Exists.intro); exact ⟨⟨k + 1, _, by omega, by go_num, HM.out⟩, rfl⟩)
      case measure => simp [intOf]; omega
    · have hkk : k = l.length := by omega
      subst hkk
      have HI := hid hinv
      clear hinv
      go_wp2
      go_ret2
      have hz := HBW.out.size
      exact ⟨p, mf, mt, D, rfl, HI.out.rep.lower hz, HI.out.pub, by have h9 := HI.out.still; rw [h9]; exact HTI.out, HBW.out.trans (HI.out.below.mono hz)⟩
end
end Go.Proofs.YtcpncfngadablaaGreatDoor
/-
  The document's disk in memory: a file that came in, put behind the others.
-/
namespace Go.Proofs.YtcpncfngadablaaGreatDoor
open Go.RowKit Go.Deep ShfKit
set_option maxRecDepth 100000
theorem own_up {w : World} {B B' e size n : Nat} {v : Value} {xs : List Value} (h : w.ownsRow B e size v n xs) (hb : ∀ g, v.ownBlock = some g → B' ≤ g) : w.ownsRow B' e size v n xs := by
  refine ⟨h.1, ?_⟩
  rcases h.2 with h1 | ⟨g, cap, cur, e1, _, h2⟩
  · exact .inl h1
  · exact .inr ⟨g, cap, cur, e1, hb g (by rw [e1]; rfl), h2⟩
/-- two families, one below, one above. -/
theorem fam_join {W : World} {lo e size : Nat} {L M : List Rw} (h : Fam W 0 e size L) (hL : ∀ b ∈ blks L, b < lo) (g : Fam W lo e size M) : Fam W 0 e size (L ++ M) := by
  obtain ⟨h1, h2⟩ := fam_iff.1 h
  obtain ⟨g1, g2⟩ := fam_iff.1 g
  refine fam_iff.2 ⟨fun x hx => ?_, List.pairwise_append.2 ⟨h2, g2, fun x hx y hy b hb hyb => ?_⟩⟩
  · rcases List.mem_append.1 hx with hx | hx
    · exact h1 x hx
    · exact own_base (g1 x hx) (Nat.zero_le _)
  · obtain ⟨k, hk⟩ := List.getElem?_of_mem hx
    have := hL b (mem_blks.2 ⟨k, x, hk, hb⟩)
    have := (own_block (g1 y hy) hyb).1
    omega
def RefD.join (R : RefD) (fv : Value) (e : RFile) : RefD := { R with fv := fv, fs := R.fs ++ [e] }
theorem RefAt.join {w2 w3 : World} {R : RefD} (h : RefAt w2 R) {lo lo0 : Nat} (hlo : ∀ b ∈ R.foot, b < lo) (hl0 : ∀ b ∈ R.foot, lo0 ≤ b) (hll : lo0 ≤ lo) {v : Value} {vs : List Value} {blocks : List (List UInt8)} (hv : w2.ownsRow lo 31 1 v blocks.length vs) (hf : Fam w2 lo 5 1 ((vs.zip blocks).map fun x => (x.1, R.B, Lib.byteCells x.2)))
    {name : List UInt8} {x : Bool} {fv' : Value} {n : Nat} {o : Obj} (hn : n = R.fs.length + 1) (ho : w3.ownsRow lo0 71 3 fv' n (R.fs.flatMap RFile.cells ++ [encStr name, .bool x, v])) (hg : (w2.alloc o).grownBy w3 R.fv.ownBlock) :
    w3.heap[R.p]? = some (.cells R.row 100 (0, 0)) ∧ RefAt (w3.setCell ⟨R.p, 2, none⟩ fv') (R.join fv' ⟨name, ⟨x, blocks⟩, v, vs⟩) ∧ ∀ b ∈ (R.join fv' ⟨name, ⟨x, blocks⟩, v, vs⟩).foot, lo0 ≤ b := by
  have hvl : vs.length = blocks.length := by simpa using hv.1
  have kind : ∀ g, R.fv.ownBlock = some g → ∃ c fz, w2.heap[g]? = some (Obj.cells c 71 fz) := fun g hgg => Lib.ownsRow_kind h.own g hgg
  have kp3 : ∀ b c t fz, w2.heap[b]? = some (Obj.cells c t fz) → t ≠ 71 → w3.heap[b]? = w2.heap[b]? := fun b c t fz hb ht => by
    have hlt := (Array.getElem?_eq_some_iff.1 hb).1
    rw [hg.block b (by simp; omega) (fun e1 => by
      obtain ⟨c2, f2, h2⟩ := kind b e1.symm
      rw [hb] at h2
      simp only [Option.some.injEq, Obj.cells.injEq] at h2
      exact ht h2.2.1), Below.heap_alloc _ _ _ hlt]
  have row3 : w3.heap[R.p]? = some (.cells R.row 100 (0, 0)) := (kp3 _ _ _ _ h.row (by decide)).trans h.row
  have kp : ∀ b c t fz, w2.heap[b]? = some (Obj.cells c t fz) → t ≠ 71 → t ≠ 100 → (w3.setCell ⟨R.p, 2, none⟩ fv').heap[b]? = w2.heap[b]? := fun b c t fz hb ht ht2 => by
    rw [Below.heap_setCell _ _ _ _ (fun e1 : b = R.p => by
      rw [e1, h.row] at hb
      simp only [Option.some.injEq, Obj.cells.injEq] at hb
      exact ht2 hb.2.1.symm)]
    exact kp3 b c t fz hb ht
  have ownk : ∀ {B t s : Nat} {v : Value} {m : Nat} {xs : List Value}, w2.ownsRow B t s v m xs → t ≠ 71 → t ≠ 100 → (w3.setCell ⟨R.p, 2, none⟩ fv').ownsRow B t s v m xs := fun h1 h2 h3 => own_kept h1 fun g hgg => by
    obtain ⟨c, fz, h4⟩ := Lib.ownsRow_kind h1 g hgg
    exact kp g c _ fz h4 h2 h3
  have famk : ∀ {B t s : Nat} {L : List Rw}, Fam w2 B t s L → t ≠ 71 → t ≠ 100 → Fam (w3.setCell ⟨R.p, 2, none⟩ fv') B t s L := fun h1 h2 h3 => ⟨fun i x hx => ownk (h1.own i x hx) h2 h3, h1.apart⟩
  have e31 : (R.fs ++ [(⟨name, ⟨x, blocks⟩, v, vs⟩ : RFile)]).map RFile.r31 = R.fs.map RFile.r31 ++ [(v, blocks.length, vs)] := by simp [RFile.r31]
  have e5 : (R.fs ++ [(⟨name, ⟨x, blocks⟩, v, vs⟩ : RFile)]).flatMap (RFile.r5 R.B) = R.fs.flatMap (RFile.r5 R.B) ++ (vs.zip blocks).map fun x => (x.1, R.B, Lib.byteCells x.2) := by simp [RFile.r5]
  have b31 : ∀ b ∈ blks (R.fs.map RFile.r31), b ∈ R.foot := fun b hb => by unfold RefD.foot; simp only [List.mem_cons, List.mem_append]; exact .inr (.inr (.inr (.inl hb)))
  have b5 : ∀ b ∈ blks (R.fs.flatMap (RFile.r5 R.B)), b ∈ R.foot := fun b hb => by unfold RefD.foot; simp only [List.mem_cons, List.mem_append]; exact .inr (.inr (.inr (.inr hb)))
  have f31 : Fam w2 lo 31 1 [((v, blocks.length, vs) : Rw)] := fam_iff.2 ⟨fun y hy => by simp at hy; subst hy; exact hv, by simp⟩
  refine ⟨row3, ⟨?_, ?_, ownk h.tro (by decide) (by decide), ?_, ?_, fun y hy => ?_⟩, fun b hb => ?_⟩
  · show (w3.setCell ⟨R.p, 2, none⟩ fv').heap[R.p]? = _
    rw [heap_setCell_row row3 2]
    rfl
  · show (w3.setCell ⟨R.p, 2, none⟩ fv').ownsRow 0 71 3 fv' (R.fs ++ [(⟨name, ⟨x, blocks⟩, v, vs⟩ : RFile)]).length ((R.fs ++ [(⟨name, ⟨x, blocks⟩, v, vs⟩ : RFile)]).flatMap RFile.cells)
    have e1 : (R.fs ++ [(⟨name, ⟨x, blocks⟩, v, vs⟩ : RFile)]).flatMap RFile.cells = R.fs.flatMap RFile.cells ++ [encStr name, .bool x, v] := by simp [RFile.cells]
    rw [e1, List.length_append, List.length_singleton, ← hn]
    refine own_base (own_kept ho fun g hgg => ?_) (Nat.zero_le _)
    obtain ⟨c, fz, h4⟩ := Lib.ownsRow_kind ho g hgg
    exact Below.heap_setCell _ _ _ _ (fun e1 : g = R.p => by
      rw [e1, row3] at h4
      simp only [Option.some.injEq, Obj.cells.injEq] at h4
      exact absurd h4.2.1 (by decide))
  · show Fam _ 0 31 1 ((R.fs ++ [(⟨name, ⟨x, blocks⟩, v, vs⟩ : RFile)]).map RFile.r31)
    rw [e31]
    exact famk (fam_join h.f31 (fun b hb => hlo b (b31 b hb)) f31) (by decide) (by decide)
  · show Fam _ 0 5 1 ((R.fs ++ [(⟨name, ⟨x, blocks⟩, v, vs⟩ : RFile)]).flatMap (RFile.r5 R.B))
    rw [e5]
    exact famk (fam_join h.f5 (fun b hb => hlo b (b5 b hb)) hf) (by decide) (by decide)
  · have hy' : y ∈ R.fs ++ [(⟨name, ⟨x, blocks⟩, v, vs⟩ : RFile)] := hy
    rcases List.mem_append.1 hy' with h1 | h1
    · exact h.len y h1
    · simp at h1
      subst h1
      exact hvl
  · have hb' : b ∈ R.p :: (fv'.ownBlock.toList ++ (R.tv.ownBlock.toList ++ (blks ((R.fs ++ [(⟨name, ⟨x, blocks⟩, v, vs⟩ : RFile)]).map RFile.r31) ++ blks ((R.fs ++ [(⟨name, ⟨x, blocks⟩, v, vs⟩ : RFile)]).flatMap (RFile.r5 R.B))))) := hb
    rw [e31, e5, blks_append, blks_append] at hb'
    simp only [List.mem_append, List.mem_cons, Option.mem_toList] at hb'
    rcases hb' with h1 | h1 | h1 | (h1 | h1) | (h1 | h1)
    · exact hl0 b (by simp [RefD.foot, h1])
    · exact (own_block ho h1).1
    · exact hl0 b (by simp [RefD.foot, h1])
    · exact hl0 b (b31 b h1)
    · obtain ⟨i, y, hy, hyb⟩ := mem_blks.1 h1
      have := (own_block (f31.own i y hy) hyb).1
      omega
    · exact hl0 b (b5 b h1)
    · obtain ⟨i, y, hy, hyb⟩ := mem_blks.1 h1
      have := (own_block (hf.own i y hy) hyb).1
      omega
end Go.Proofs.YtcpncfngadablaaGreatDoor
/-
  The document's Mount: refused at once.
-/
namespace Go.Proofs.YtcpncfngadablaaGreatDoor
open Go.RowKit Go.Deep ShfKit
set_option maxRecDepth 100000
section
variable {w : World}
set_option maxHeartbeats 1000000 in
theorem rMount_bad {sB B Bs : Int} {fa ta : Option Addr} {fn fc tn tc : Nat} (h : ¬ SetOk B Bs) :
    Calls Tryz.prog 23 #[.agg #[.int .i64 sB, .slice fa fn fc], .agg #[.int .i64 B, .int .i64 Bs, .slice ta tn tc]] w fun e w' => e = .returned (.tuple #[.pointer none, .int .i64 1]) ∧ Below w.heap.size w w' := by
  have HC := hid (fun W : World => rNew_bad (w := W) (ga := ta) (gn := tn) (gc := tc) h)
  clear h
  go_enter Tryz.func23, Tryz.ntmps23
  go_wp2_with (go_at_call 20; refine (HC.out _).mono ?_; rintro e w1 ⟨rfl, hb1⟩; have HB0 : Hid (Below w.heap.size w w1) := hid ((((Below.refl _ w).alloc (Nat.le_refl _) _).alloc (by simp) _).trans (hb1.mono (by simp; omega))); clear hb1)
  go_ret2
  exact ⟨rfl, HB0.out⟩
set_option maxHeartbeats 1000000 in
theorem rMount_other {sB : Int} {B : Nat} {Bs : Int} {fa : Option Addr} {fn fc : Nat} {ta : Option Addr} {tc : Nat} {tl : List TrA} (h : SetOk B Bs) (htl : TrsAt w ta tl) (hts : ta = none → tl = []) (htn : tl.length ≤ 1073741824) (hne : ¬ sB = B) :
    Calls Tryz.prog 23 #[.agg #[.int .i64 sB, .slice fa fn fc], .agg #[.int .i64 B, .int .i64 Bs, .slice ta tl.length tc]] w fun e w' => e = .returned (.tuple #[.pointer none, .int .i64 18]) ∧ Below w.heap.size w w' := by
  obtain ⟨h1, h2, h3, h4, h5⟩ := h
  have hnb : (sB != (B : Int)) = true := by simpa using hne
  obtain ⟨W, hW⟩ : ∃ W, W = (w.alloc (.cells #[.int .i64 sB, .slice fa fn fc] 47)).alloc (.cells #[.int .i64 B, .int .i64 Bs, .slice ta tl.length tc] 29) := ⟨_, rfl⟩
  have hW1 := heap_two w (.cells #[.int .i64 sB, .slice fa fn fc] 47) (.cells #[.int .i64 B, .int .i64 Bs, .slice ta tl.length tc] 29)
  rw [← hW] at hW1
  have hTW : Below w.heap.size w W := by rw [hW]; exact ((Below.refl _ w).alloc (Nat.le_refl _) _).alloc (by simp) _
  have HC := hid (rNew_ok (ca := tc) (B := B) (by omega) (by omega) h3 h4 h5 (htl.below hTW) hts htn)
  have HE := hid hW
  have HW := hid hW1
  have HTW := hid hTW
  clear h3 hne htl hts hW hW1 hTW
  go_enter Tryz.func23, Tryz.ntmps23
  go_wp2_with fail
  rw [← HE.out]
  refine HC.out.mono ?_
  rintro e w1 ⟨p, tv, rfl, hr1, hf1, hb1⟩
  have r1 : w1.heap[w.heap.size]? = _ := (hb1.block _ (lt_of_block HW.out.1)).trans HW.out.1
  have r2 : w1.heap[w.heap.size + 1]? = _ := (hb1.block _ (lt_of_block HW.out.2)).trans HW.out.2
  have a0 := cell_row r1 0
  have b0 := cell_row r2 0
  simp at a0 b0
  have HBW : Hid (Below w.heap.size w w1) := HTW.out.trans (hb1.mono HTW.out.size)
  clear r1 r2 hb1 hr1 hf1
  go_wp2
  go_ret2
  exact ⟨rfl, HBW.out⟩
end
end Go.Proofs.YtcpncfngadablaaGreatDoor
/-
  The document's Mount: its disk in the making.
-/
namespace Go.Proofs.YtcpncfngadablaaGreatDoor
open Go.RowKit Go.Deep ShfKit
set_option maxRecDepth 100000
/-- the document's disk behind k files taken in. -/
def rM (p : Nat) (tv : Value) (tl : List TrA) (B : Nat) (Bs : Int) (u : Int) (fv : Value) (fs : List RFile) : RefD := ⟨p, fv, tv, fs, tl, B, Bs, true, ⟨0, 0, 0, 0, 0, u, 0⟩⟩
structure RMt (W0 W : World) (p : Nat) (tv : Value) (tl : List TrA) (B : Nat) (Bs : Int) (l : List SFile) (k : Nat) (fv : Value) (fs : List RFile) : Prop where
  ref : RefAt W (rM p tv tl B Bs (usedN l k) fv fs)
  foot : ∀ b ∈ (rM p tv tl B Bs (usedN l k) fv fs).foot, W0.heap.size ≤ b
  pub : fs.map RFile.pub = (l.take k).map SFile.pub
  ok : FilesOk B l k
  low : Below W0.heap.size W0 W
section
variable {W0 X Y : World} {p : Nat} {tv : Value} {tl : List TrA} {B : Nat} {Bs : Int} {l : List SFile} {k : Nat} {gv : Value} {fs : List RFile}
theorem RMt.len (h : RMt W0 X p tv tl B Bs l k gv fs) (hk : k ≤ l.length) : fs.length = k := by
  have := congrArg List.length h.pub
  simpa [Nat.min_eq_left hk] using this
/-- behind the copy of a file's blocks. -/
theorem RMt.up (h : RMt W0 X p tv tl B Bs l k gv fs) (hk : k ≤ l.length) (bY : Below X.heap.size X Y) {name : List UInt8} {x : Bool} {c2 : Value} (rowY : Y.heap[X.heap.size]? = some (.cells #[encStr name, .bool x, c2] 71 (0, 0))) {d : Nat} {v : Value} {vs : List Value} {w2 : World} {blocks : List (List UInt8)} (hnb : NewB (Y.drewN d) w2 B v vs blocks) :
    (w2.cell? ⟨p, 2, none⟩ = some gv ∧ p < w2.heap.size ∧ X.heap.size < w2.heap.size) ∧ (w2.cell? ⟨X.heap.size, 0, none⟩ = some (encStr name) ∧ w2.cell? ⟨X.heap.size, 1, none⟩ = some (.bool x) ∧ w2.cell? ⟨X.heap.size, 2, none⟩ = some c2) ∧
    (∃ ga gn gcc, v = .slice ga gn gcc) ∧ (∀ o, (w2.alloc o).ownsRow W0.heap.size 71 3 gv k (fs.flatMap RFile.cells)) ∧ (∀ o, W0.heap.size ≤ (w2.alloc o).heap.size) ∧
    (∀ o fv' n' w3, n' = k + 1 → w3.ownsRow W0.heap.size 71 3 fv' n' (fs.flatMap RFile.cells ++ [encStr name, .bool x, v]) → (w2.alloc o).grownBy w3 gv.ownBlock →
      w3.heap[p]? = some (.cells (rM p tv tl B Bs (usedN l k) gv fs).row 100 (0, 0)) ∧ RefAt (w3.setCell ⟨p, 2, none⟩ fv') (rM p tv tl B Bs (usedN l k) fv' (fs ++ [⟨name, ⟨x, blocks⟩, v, vs⟩])) ∧ (∀ b ∈ (rM p tv tl B Bs (usedN l k) fv' (fs ++ [⟨name, ⟨x, blocks⟩, v, vs⟩])).foot, W0.heap.size ≤ b) ∧ Below W0.heap.size W0 (w3.setCell ⟨p, 2, none⟩ fv')) ∧
    (∀ o, ((w2.alloc o).cell? ⟨X.heap.size, 0, none⟩ = some (encStr name) ∧ (w2.alloc o).cell? ⟨X.heap.size, 1, none⟩ = some (.bool x) ∧ (w2.alloc o).cell? ⟨X.heap.size, 2, none⟩ = some c2) ∧
      (∀ w3, (w2.alloc o).grownBy w3 gv.ownBlock → w3.cell? ⟨X.heap.size, 0, none⟩ = some (encStr name) ∧ w3.cell? ⟨X.heap.size, 1, none⟩ = some (.bool x) ∧ w3.cell? ⟨X.heap.size, 2, none⟩ = some c2) ∧
      ∀ w3 u, (w2.alloc o).grownBy w3 gv.ownBlock → (w3.setCell ⟨p, 2, none⟩ u).cell? ⟨X.heap.size, 0, none⟩ = some (encStr name) ∧ (w3.setCell ⟨p, 2, none⟩ u).cell? ⟨X.heap.size, 1, none⟩ = some (.bool x) ∧ (w3.setCell ⟨p, 2, none⟩ u).cell? ⟨X.heap.size, 2, none⟩ = some c2) := by
  have bd : Below Y.heap.size Y (Y.drewN d) := ⟨rfl, rfl, rfl, Nat.le_refl _, fun _ _ => rfl⟩
  have sY := bY.size
  have b2 : Below X.heap.size X w2 := bY.trans ((bd.trans hnb.low).mono sY)
  have R2 : RefAt w2 (rM p tv tl B Bs (usedN l k) gv fs) := h.ref.below b2
  have hp : p < X.heap.size := lt_of_block h.ref.row
  have row2 : w2.heap[p]? = some (.cells (rM p tv tl B Bs (usedN l k) gv fs).row 100 (0, 0)) := R2.row
  have fx := (hnb.low.block X.heap.size (by show X.heap.size < Y.heap.size; exact lt_of_block rowY)).trans rowY
  obtain ⟨ga, gcc, hv⟩ := sh_slice hnb.own
  have hlen := h.len hk
  have hf0 : ∀ g, gv.ownBlock = some g → g ∈ (rM p tv tl B Bs (usedN l k) gv fs).foot := fun g hg => by simp [RefD.foot, rM, hg]
  have ow2 : w2.ownsRow W0.heap.size 71 3 gv k (fs.flatMap RFile.cells) := by
    have h1 : w2.ownsRow 0 71 3 gv fs.length (fs.flatMap RFile.cells) := R2.own
    rw [hlen] at h1
    exact own_up h1 fun g hg => h.foot g (hf0 g hg)
  have ow : ∀ o, (w2.alloc o).ownsRow W0.heap.size 71 3 gv k (fs.flatMap RFile.cells) := fun o => own_kept ow2 fun g hg => Below.heap_alloc _ _ _ (own_block ow2 hg).2
  have cc : ∀ V : World, V.heap[X.heap.size]? = some (.cells #[encStr name, .bool x, c2] 71 (0, 0)) → V.cell? ⟨X.heap.size, 0, none⟩ = some (encStr name) ∧ V.cell? ⟨X.heap.size, 1, none⟩ = some (.bool x) ∧ V.cell? ⟨X.heap.size, 2, none⟩ = some c2 := fun V hV => ⟨cell_row hV 0, cell_row hV 1, cell_row hV 2⟩
  have fa2 : ∀ o, (w2.alloc o).heap[X.heap.size]? = some (.cells #[encStr name, .bool x, c2] 71 (0, 0)) := fun o => (Below.heap_alloc _ _ _ (lt_of_block fx)).trans fx
  have fg : ∀ o w3, (w2.alloc o).grownBy w3 gv.ownBlock → w3.heap[X.heap.size]? = some (.cells #[encStr name, .bool x, c2] 71 (0, 0)) := fun o w3 hg => (hg.block _ (lt_of_block (fa2 o)) (fun e1 => by have := h.ref.lt _ (hf0 _ e1.symm); omega)).trans (fa2 o)
  have s0 := h.low.size
  have s2 := b2.size
  refine ⟨⟨cell_row row2 2, lt_of_block row2, lt_of_block fx⟩, cc _ fx, ⟨_, _, _, hv⟩, ow, fun o => by simp; omega, fun o fv' n' w3 hn' ho hg => ?_, fun o => ⟨cc _ (fa2 o), fun w3 hg => cc _ (fg o w3 hg), fun w3 u hg => cc _ ((Below.heap_setCell _ _ _ _ (by show X.heap.size ≠ p; omega)).trans (fg o w3 hg))⟩⟩
  have hj := R2.join (lo := (Y.drewN d).heap.size) (lo0 := W0.heap.size) (x := x) (name := name) (fv' := fv') (n := n') (o := o) (w3 := w3) (fun b hb => by have := h.ref.lt b hb; have := bd.size; omega) h.foot (by have := bd.size; omega) hnb.own hnb.fam (by show n' = fs.length + 1; omega) ho hg
  refine ⟨hj.1, hj.2.1, hj.2.2, ?_⟩
  have t1 : Below W0.heap.size W0 w2 := h.low.trans (b2.mono s0)
  have t2 : Below W0.heap.size W0 (w2.alloc o) := t1.alloc t1.size _
  have t3 : Below W0.heap.size W0 w3 := (((Touch.of_below (F := []) t2 (Nat.le_refl _)).grown hg (fun g hgg => .inr (h.foot g (hf0 g hgg)))).below (Nat.le_refl _) (by simp))
  exact t3.setCell (h.foot p (by simp [RefD.foot, rM])) _
/-- the blocks told. -/
theorem RMt.told {Z : World} {e : SFile} {v fv' : Value} {vs : List Value} (h : RMt W0 X p tv tl B Bs l k gv fs) (he : l[k]? = some e) (hok : FOk B ⟨(lastN l k).toArray⟩ ⟨e.name.toArray⟩ e.file.blocks)
    (hr : RefAt Z (rM p tv tl B Bs (usedN l k) fv' (fs ++ [⟨e.name, e.file, v, vs⟩]))) (hf : ∀ b ∈ (rM p tv tl B Bs (usedN l k) fv' (fs ++ [⟨e.name, e.file, v, vs⟩])).foot, W0.heap.size ≤ b) (hb : Below W0.heap.size W0 Z) {u : Int} (hu : u = (usedN l k : Int) + e.file.blocks.length) :
    RMt W0 (Z.setCell ⟨p, 9, none⟩ (.int .i64 u)) p tv tl B Bs l (k + 1) fv' (fs ++ [⟨e.name, e.file, v, vs⟩]) := by
  have hus : u = (usedN l (k + 1) : Int) := by rw [hu, usedN_succ he]; simp
  subst hus
  have hpz := lt_of_block hr.row
  refine ⟨?_, hf, ?_, ?_, hb.setCell (hf p (by simp [RefD.foot, rM])) _⟩
  · refine hr.reset rfl rfl rfl rfl rfl rfl ?_ (but_touch ((Touch.refl _ _).setCell (by simp [rM]) _) hr.row)
    show (Z.setCell ⟨p, 9, none⟩ _).heap[p]? = _
    rw [heap_setCell_row (show Z.heap[p]? = _ from hr.row) 9]
    rfl
  · rw [List.map_append, h.pub, List.take_add_one, he, List.map_append]
    rfl
  · intro j e' hj he'
    by_cases hjk : j < k
    · exact h.ok j e' hjk he'
    · have : j = k := by omega
      subst this
      rw [he] at he'
      cases he'
      exact hok
end
end Go.Proofs.YtcpncfngadablaaGreatDoor
