import Derived.Laws.StructEq
import Derived.BigQuiet
import Derived.Test.YthehcjjckabljaaGreatDoorB21
namespace Go.Proofs.YthehcjjckabljaaGreatDoor
open Go.RowKit Go.Deep
theorem MountV.uniq {sB B Bs : Int} {l : List SFl} {c d : Option Nat} (h : MountV sB B Bs l c) (g : MountV sB B Bs l d) : c = d := by
 rcases h with ⟨rfl, h1, h2, h3, h4⟩ | ⟨rfl, h1⟩ | ⟨rfl, h1, h2⟩ | ⟨rfl, h1, h2, h3, h4⟩ <;>
 rcases g with ⟨rfl, g1, g2, g3, g4⟩ | ⟨rfl, g1⟩ | ⟨rfl, g1, g2⟩ | ⟨rfl, g1, g2, g3, g4⟩ <;>
 first
  | rfl
  | exact absurd h1 g1
  | exact absurd g1 h1
  | exact absurd ⟨h2, h3⟩ g2
  | exact absurd ⟨g2, g3⟩ h2
  | exact absurd h4 g4
  | exact absurd g4 h4
theorem ahead {a b : List UInt8} (h : (Op.bytesLess b a || b == a) = false) : bytesBefore a b = true := by
 rw [less_before] at h
 have h1 : bytesBefore b a = false := by cases hx : bytesBefore b a with | false => rfl | true => rw [hx] at h; cases h
 have h2 : b ≠ a := fun e => by subst e; simp at h
 rcases WideAt.bytes_total b a h2 with h3 | h3
 ·rw [h1] at h3; cases h3
 ·exact h3
theorem FilesOk.good {B : Int} {l : List SFl} (h : FilesOk B l l.length) (hn : l.length ≤ 1099511627776) (hu : usedN l l.length ≤ 1099511627776) : GoodL l ∧ ∀ e ∈ l, ∀ b ∈ e.file.blocks, (b.length : Int) = B := by
 have hstep : ∀ (j : Nat) (hj : j + 1 < l.length), bytesBefore (l[j]'(by omega)).name (l[j + 1]).name = true := fun j hj => by
  have h1 := (h (j + 1) _ hj (List.getElem?_eq_getElem hj)).2.1
  have h2 : l[j]? = some (l[j]'(by omega)) := List.getElem?_eq_getElem (by omega)
  have h3 : lastN l (j + 1) = (l[j]'(by omega)).name := by simp [lastN, h2]
  rw [h3] at h1
  exact ahead (by simpa [ByteArray.toList_eq] using h1)
 have hall : ∀ (d i : Nat) (hj : i + d + 1 < l.length), bytesBefore (l[i]'(by omega)).name (l[i + d + 1]).name = true := fun d => by
  induction d with
  | zero => exact fun i hj => hstep i hj
  | succ d ih =>
   intro i hj
   exact WideShapes.bytes_trans _ _ _ (ih i (by omega)) (hstep (i + d + 1) (by omega))
 refine ⟨⟨fun e he => ?_, List.pairwise_iff_getElem.2 fun i j hi hj hij => ?_, hn, hu⟩, fun e he => ?_⟩
 ·obtain ⟨j, hj⟩ := List.getElem?_of_mem he
  exact (h j e (List.getElem?_eq_some_iff.1 hj).1 hj).1
 ·obtain ⟨d, rfl⟩ : ∃ d, j = i + d + 1 := ⟨j - i - 1, by omega⟩
  exact hall d i hj
 ·obtain ⟨j, hj⟩ := List.getElem?_of_mem he
  exact (h j e (List.getElem?_eq_some_iff.1 hj).1 hj).2.2
section
variable {w w' : World} {E : Nat → Addr} {lo p mf mt : Nat} {D : DkC}
structure MInvT (w1 wr : World) (p mf mt B : Nat) (Bs : Int) (l : List SFl) (k : Nat) (T : DataW Unit) (D : DkC) : Prop where
 rep : Rep wr w1.heap.size p mf mt D
 pub : D.pub = mountA B Bs l k
 still : D.T = T
 below : Below w1.heap.size w1 wr
theorem MInvT.find {T : DataW Unit} {w1 wr : World} {B k : Nat} {Bs : Int} {l : List SFl} (h : MInvT w1 wr p mf mt B Bs l k T D) (hg : GoodL l) {e : SFl} (he : l[k]? = some e) : findE D.ents e.name = none ∧ ∀ y ∈ D.ents, bytesBefore y.name e.name = true := by
 have hall : ∀ y ∈ D.ents, bytesBefore y.name e.name = true := by
  intro y hy
  have hm : y.pub ∈ (l.take k).map SFl.pub := by
   have := congrArg PubA.files h.pub
   simp only [DkC.pub, mountA] at this
   rw [← this]
   exact List.mem_map.2 ⟨y, hy, rfl⟩
  obtain ⟨z, hz, hzy⟩ := List.mem_map.1 hm
  obtain ⟨j, hj, hjz⟩ := List.getElem_of_mem hz
  obtain ⟨hk, rfl⟩ := List.getElem?_eq_some_iff.1 he
  simp at hj
  have hb := List.pairwise_iff_getElem.1 hg.rising j k (by omega) hk (by omega)
  have hzn : z.name = y.name := congrArg Prod.fst hzy
  rw [List.getElem_take] at hjz
  rw [hjz, hzn] at hb
  exact hb
 refine ⟨?_, hall⟩
 unfold findE
 rw [List.find?_eq_none]
 intro y hy
 have := hall y hy
 simp
 intro e1
 rw [e1, WideAt.bytes_irrefl] at this
 cases this
theorem mountT_next {T : DataW Unit} {w1 wr wa wb : World} {B k n : Nat} {Bs : Int} {l : List SFl} {e : SFl} {L : Lay} (h : MInvT w1 wr p mf mt B Bs l k T D) (hg : GoodL l) (he : l[k]? = some e) (hsz : w1.heap.size ≤ wr.heap.size)
  (hta : Tc [] wr wa) (hat : FileAt wa B L e.file) (hfr : ∀ b ∈ L.foot, wr.heap.size ≤ b) (hnd : L.foot.Nodup) (hmap : wb.ownsMap Tryz.prog 9 ptrElem mf (n + 1) ((mapOf D.ents).put (.string e.name) (.lit (.int .i64 L.fb)))) (hn : n = D.ents.length) (hgr : wa.grownBy wb (some mf)) :
  Rep wb w1.heap.size p mf mt { D with ents := D.ents ++ [⟨e.name, e.file, L⟩] } ∧ Below w1.heap.size w1 wb := by
 subst hn
 obtain ⟨hf, hall⟩ := h.find hg he
 have hBB : D.B = B := congrArg PubA.B h.pub
 have ht : Tc [mf] wr wb := (hta.mono (by simp)).grown hgr (by simp)
 have hnm : e.name.length ≤ 32 := by
  have := name_size (hg.names e (List.mem_of_getElem? he))
  simpa using (show e.name.toArray.size ≤ 32 from this)
 have hmfl : mf < wr.heap.size := h.rep.files.lt
 have hat' : FileAt wb D.B L e.file := by
  rw [hBB]
  exact hat.kept fun b hb => hgr.block b (hat.lt b hb) (by have := hfr b hb; simp; omega)
 have hR := h.rep.insertFile (e := ⟨e.name, e.file, L⟩) hnm hf ht hfr hsz hnd hat' hmap
 rw [insE_end hall] at hR
 exact ⟨hR, h.below.trans (ht.below hsz (fun b hb => by simp at hb; subst hb; exact h.rep.base b (by simp [DkC.foot])))⟩
theorem mountT_use {T : DataW Unit} {w1 wb wc : World} {B k : Nat} {Bs : Int} {l : List SFl} {e : SFl} {L : Lay} {wr : World} (h : MInvT w1 wr p mf mt B Bs l k T D) (he : l[k]? = some e) (hR : Rep wc w1.heap.size p mf mt { D with ents := D.ents ++ [⟨e.name, e.file, L⟩], c := { D.c with used := D.c.used + e.file.blocks.length, most := max D.c.most (D.c.used + e.file.blocks.length) } }) (hb : Below w1.heap.size w1 wb) (ht : Tc [p] wb wc) (hsz : w1.heap.size ≤ wb.heap.size) :
  MInvT w1 wc p mf mt B Bs l (k + 1) T { D with ents := D.ents ++ [⟨e.name, e.file, L⟩], c := { D.c with used := D.c.used + e.file.blocks.length, most := max D.c.most (D.c.used + e.file.blocks.length) } } := by
 have hp := h.pub
 simp only [DkC.pub, mountA, PubA.mk.injEq] at hp
 obtain ⟨h1, h2, h3, h4, h5⟩ := hp
 refine ⟨hR, ?_, h.still, hb.trans (ht.below hsz (fun b hb => by simp at hb; subst hb; exact h.rep.base b (by simp [DkC.foot])))⟩
 simp only [DkC.pub, mountA, PubA.mk.injEq]
 refine ⟨h1, h2, h3, ?_, ?_⟩
 ·obtain ⟨hk, rfl⟩ := List.getElem?_eq_some_iff.1 he
  rw [List.map_append, h4, List.take_succ_eq_append_getElem hk, List.map_append]
  rfl
 ·rw [h5]
  have hu := usedN_succ he
  simp only [Cnt.mk.injEq, true_and]
  refine ⟨?_, ?_⟩ <;> (rw [hu]; omega)
theorem mount_fileIn {wr X : World} {B : Nat} {s : ByteArray} {x : Bool} {sv : Value} {blocks : List (List UInt8)} {ga : Option Addr} {gn gk : Nat} (h : BlIn wr sv blocks) (hlb : ∀ b ∈ blocks, b.length = B) (hsv : sv = .slice ga gn gk) (T : Tc [] wr X) (hB1 : 64 ≤ B) (hB2 : B ≤ 65536) (hn : blocks.length ≤ 1099511627776) :
  Calls Tryz.prog 78 #[.agg #[.string s, .bool x, .slice ga gn gk]] X fun e w' => ∃ L : Lay, e = .returned (ptr L.fb) ∧ FileAt w' B L ⟨x, blocks⟩ ∧ (∀ b ∈ L.foot, X.heap.size ≤ b) ∧ L.foot.Nodup ∧ Below X.heap.size X w' := by
 rw [← hsv]
 exact fileOfIn_any (h.below (T.below (Nat.le_refl _) (by simp))) hlb hB1 hB2 hn
set_option maxRecDepth 100000 in
set_option maxHeartbeats 1000000 in
theorem Mount_go (V : Env w lo E) {B : Nat} {Bs : Int} {fv : Value} {l : List SFl} {ta : Option Addr} {tc : Nat} {tl : List TrA} (h : StIn w fv l) (htl : TrsAt w ta tl) (htn : tl.length ≤ 1099511627776) (hn : l.length ≤ 1099511627776) (hu : usedN l l.length ≤ 1099511627776) (hc : MountV B B Bs l none) :
  Calls Tryz.prog 37 #[.agg #[.int .i64 B, fv], .agg #[.int .i64 B, .int .i64 Bs, .slice ta tl.length tc]] w fun e w' => ∃ p mf mt D, e = .returned (.tuple #[ptr p, .int .i64 0]) ∧ Rep w' w.heap.size p mf mt D ∧ D.pub = mountA B Bs l l.length ∧ TIs D.T tl ∧ Below w.heap.size w w' := by
 obtain ⟨hso, hfo⟩ : SetOk B Bs ∧ FilesOk B l l.length := by
  rcases hc with ⟨_, h1, _, h2, _⟩ | ⟨h, _⟩ | ⟨h, _⟩ | ⟨h, _⟩
  ·exact ⟨h1, h2⟩
  all_goals cases h
 obtain ⟨hg, hlb⟩ := hfo.good hn hu
 obtain ⟨h1, h2, h3, h4, h5⟩ := hso
 have h1 : 64 ≤ B := by omega
 have h2 : B ≤ 65536 := by omega
 obtain ⟨fa, fc, hfv⟩ := h.sl
 obtain ⟨W, hW⟩ : ∃ W, W = (w.alloc (.cells #[.int .i64 B, .slice fa l.length fc] 42)).alloc (.cells #[.int .i64 B, .int .i64 Bs, .slice ta tl.length tc] 79) := ⟨_, rfl⟩
 have hW1 := heap_two w (.cells #[.int .i64 B, .slice fa l.length fc] 42) (.cells #[.int .i64 B, .int .i64 Bs, .slice ta tl.length tc] 79)
 rw [← hW] at hW1
 have hTW : Below w.heap.size w W := by rw [hW]; exact ((Below.refl _ w).alloc (Nat.le_refl _) _).alloc (by simp) _
 have HC := hid (checkMount_in (sB := B) (B := B) (Bs := Bs) (ta := ta) (tn := tl.length) (tc := tc) (V.touch (Tc.of_below (F := []) hTW (Nat.le_refl _)) (by simp)) (h.below hTW) hn hu)
 have HEM := hid (fun (W : World) (hb : Below w.heap.size w W) => empty_x (B := B) (Bs := Bs) (ca := tc) (htl.below hb) htn)
 rw [hfv] at HC
 have HS := hid h
 have HG := hid hg
 have HLB := hid hlb
 have HFV := hid hfv
 have HU := hid hc
 rw [hfv]
 have HE := hid hW
 have HW := hid hW1
 have HTW := hid hTW
 clear h hg hlb hfv h3 hW hW1 hTW hc hfo htl V
 go_enter Tryz.func37, Tryz.ntmps37
 go_wp2_with fail
 rw [← HE.out]
 refine HC.out.mono ?_
 rintro e w0 ⟨⟨d, hd, rfl⟩, hb0⟩
 obtain rfl : d = none := hd.uniq HU.out
 clear hd
 simp only [errOf]
 have r1 : w0.heap[w.heap.size]? = _ := (hb0.block _ (ltB HW.out.1)).trans HW.out.1
 have r2 : w0.heap[w.heap.size + 1]? = _ := (hb0.block _ (ltB HW.out.2)).trans HW.out.2
 have b0 := cRw r2 0
 have b1 := cRw r2 1
 have b2 := cRw r2 2
 simp at b0 b1 b2
 have hbw : Below w.heap.size w w0 := HTW.out.trans (hb0.mono HTW.out.size)
 have HR1 := hid r1
 have HBW := hid hbw
 have lz : w.heap.size + 1 < w0.heap.size := ltB r2
 clear r1 r2 hb0 hbw
 go_wp2_with fail
 refine (HEM.out _ HBW.out).mono ?_
 rintro e w1 ⟨p, mf, mt, T, rfl, hR1, hTI, hb1⟩
 have q1 : w1.heap[w.heap.size]? = _ := (hb1.block _ (ltB HR1.out)).trans HR1.out
 have c1 := cRw q1 1
 simp at c1
 have HI : Hid (MInvT w0 w1 p mf mt B Bs l 0 T (.newT B Bs T)) := ⟨hR1, rfl, rfl, hb1⟩
 have HTI := hid hTI
 clear hR1 hb1 q1 hTI
 go_wp2
 go_loopw [22] (fun i wr => ∃ (k : Nat) (D : DkC), k ≤ l.length ∧ i = .int .i64 k ∧ MInvT w0 wr p mf mt B Bs l k T D) (fun i _ => l.length - (intOf i).toNat)
 case atStart => exact ⟨0, _, Nat.zero_le _, rfl, HI.out⟩
 case round =>
  obtain ⟨k, D, hk, rfl, hinv⟩ := hrel
  have hfew := HG.out.few
  have hsz : w0.heap.size ≤ wr.heap.size := hinv.below.size
  by_cases hlt : k < l.length
  ·obtain ⟨e0, he0⟩ : ∃ e0, l[k]? = some e0 := ⟨l[k], List.getElem?_eq_getElem hlt⟩
   obtain ⟨G, gc, hG⟩ := HS.out.one (by omega)
   rw [HFV.out] at hG
   simp only [Value.slice.injEq, true_and] at hG
   obtain ⟨rfl, rfl⟩ := hG
   have hbwr : Below w.heap.size w wr := HBW.out.trans (hinv.below.mono HBW.out.size)
   obtain ⟨f0, f1, f2, hbl⟩ := (HS.out.below hbwr).read he0 HFV.out
   have hone := HG.out.one he0
   have hnm : e0.name.length ≤ 32 := by
    have := name_size (HG.out.names e0 (List.mem_of_getElem? he0))
    simpa using (show e0.name.toArray.size ≤ 32 from this)
   have hlb0 : ∀ b ∈ e0.file.blocks, b.length = B := fun b hb => by have := HLB.out e0 (List.mem_of_getElem? he0) b hb; omega
   obtain ⟨ga, gk, hsv⟩ := hbl.sl
   have k3 := hinv.rep.cell 3
   simp only [dRow] at k3
   have lp := ltB hinv.rep.row
   rw [hsv] at f2
   have HBL := hid hbl
   have HSV := hid hsv
   have HL0 := hid hlb0
   have HI := hid hinv
   have HE0 := hid he0
   have hents : D.ents.length ≤ 1099511627776 := by
    have := congrArg (fun A : PubA => A.files.length) hinv.pub
    simp only [DkC.pub, mountA, List.length_map, List.length_take] at this
    omega
   have hBe : D.B = B := congrArg PubA.B hinv.pub
   have hus : D.c.used = usedN l k := congrArg (fun A : PubA => A.c.used) hinv.pub
   have hule := usedN_le l k
   have hgbl := HG.out.blocks
   obtain ⟨T0, row0⟩ : Tc [] wr (wr.alloc (.cells #[encStr e0.name, .bool e0.file.shut, .slice ga e0.file.blocks.length gk] 113)).drew ∧ (wr.alloc (.cells #[encStr e0.name, .bool e0.file.shut, .slice ga e0.file.blocks.length gk] 113)).drew.heap[wr.heap.size]? = some (.cells #[encStr e0.name, .bool e0.file.shut, .slice ga e0.file.blocks.length gk] 113 (0, 0)) := ⟨((Tc.refl [] wr).alloc _).drew, heap_alloc_new wr _⟩
   have HT0 := hid T0
   have HRW0 := hid row0
   have hu1 : 0 ≤ D.c.used := by omega
   have hu2 : D.c.used ≤ 1099511627776 := by omega
   clear hbl hsv hinv he0 hbwr T0 row0 hus hBe hlb0
   go_wp2
   go_region_held3 (fun V => V.cell? ⟨p, 3, none⟩ = some (.map (some mf)) ∧ V.cell? ⟨wr.heap.size, 0, none⟩ = some (encStr e0.name) ∧ V.cell? ⟨wr.heap.size, 1, none⟩ = some (.bool e0.file.shut) ∧ V.cell? ⟨wr.heap.size, 2, none⟩ = some (.slice ga e0.file.blocks.length gk)) (go_keep)
    (first
     |(go_at_call 79; refine (ownName_any ⟨e0.name.toArray⟩ _ ?_).mono ?_; exact Nat.le_trans (show e0.name.toArray.size ≤ 32 by simpa using hnm) (by omega); rintro e w3 ⟨rfl, hb3⟩; obtain ⟨T3, row3, x0, x1, x2, x3⟩ := mount_arm HI.out.rep HT0.out HRW0.out hb3; have HT3 := hid T3; have HRW3 := hid row3; clear hb3 T3 row3)
     |(go_at_call 78; refine (mount_fileIn HBL.out HL0.out HSV.out HT3.out h1 h2 hone).mono ?_; rintro e w4 ⟨L, rfl, hat, hfr, hnd, hb4⟩; obtain ⟨T4, row4, y0, y1, y2, y3⟩ := mount_arm HI.out.rep HT3.out HRW3.out hb4; obtain ⟨wA, hA, mA, gA, z0, z1, z2, z3⟩ := mount_upd HI.out.rep T4 row4 hents hnm L.fb; have HT4 := hid T4; have HRW4 := hid row4; have HAT4 := hid hat; have HFR := hid hfr; have HND := hid hnd; have HMA := hid mA; have HGA := hid gA; have HS3 := hid HT3.out.size; clear hb4 T4 row4 mA gA hat hfr hnd))
   have hnx := mountT_next HI.out HG.out HE0.out hsz HT4.out HAT4.out (fun b hb => Nat.le_trans HS3.out (HFR.out b hb)) HND.out HMA.out rfl HGA.out
   have HNX := hid hnx
   have HSA : Hid (w0.heap.size ≤ wA.heap.size) := Nat.le_trans hsz (Nat.le_trans HT4.out.size HGA.out.size)
   clear hnx
   go_wp2_with (go_at_call 80; refine (use_any HNX.out.1 _ hu1 hu2 (by omega) (by omega)).mono ?_; rintro e w5 ⟨rfl, hR5, ht5⟩; have HM := hid (mountT_use HI.out HE0.out hR5 HNX.out.2 ht5 HSA.out); clear hR5 ht5)
   go_roundw
   case rel => first | exact ⟨k + 1, _, by omega, by go_num, HM.out⟩ | ((repeat apply Exists.intro); exact ⟨⟨k + 1, _, by omega, by go_num, HM.out⟩, rfl⟩)
   case measure => simp [intOf]; omega
  ·have hkk : k = l.length := by omega
   subst hkk
   have HI := hid hinv
   clear hinv
   go_wp2
   go_ret2
   have hz := HBW.out.size
   exact ⟨p, mf, mt, D, rfl, HI.out.rep.lower hz, HI.out.pub, by have h9 := HI.out.still; rw [h9]; exact HTI.out, HBW.out.trans (HI.out.below.mono hz)⟩
end
set_option maxRecDepth 100000
set_option linter.unusedSimpArgs false
set_option linter.unusedVariables false
theorem rfit_any {B : Nat} (h1 : 64 ≤ B) (h2 : B ≤ 65536) (h3 : B % 32 = 0) (w : World) : Calls Tryz.prog 38 #[.int .i64 (B : Int)] w fun e w' => e = .returned (.int .i64 ((B / 32 - 1 : Nat) : Int)) ∧ w' = w := by
 have a1 : ¬ (B : Int) < 64 := by omega
 have a2 : ¬ (B : Int) > 65536 := by omega
 have hm : (B : Int).tmod 32 = (B : Int) % 32 := Int.tmod_eq_emod_of_nonneg (by omega)
 have hq : (B : Int).tdiv 32 = (B : Int) / 32 := Int.tdiv_eq_ediv_of_nonneg (by omega)
 have a3 : (B : Int) % 32 = 0 := by omega
 have HB := hid (show (B : Int) / 32 - 1 = ((B / 32 - 1 : Nat) : Int) by omega)
 clear h3
 go_enter Tryz.func38, Tryz.ntmps38
 go_wp2
 go_ret
 rw [← HB.out]
 exact ⟨rfl, rfl⟩
section
variable {w w' : World} {b : Bn} {n : Nat} {A : PubA} {s : Pu.St} {F : List Nat} {kb : Nat} {K : Nat} {T : Int} {x : ByteArray}
theorem NewDesk_ok (S : Std w b n A s F) (hA : Fits A K) (hK : 1 ≤ K) : Calls Tryz.prog 40 #[ptr b.p, ptr b.q] w fun e w' => ∃ kb, e = .returned (.tuple #[ptr kb, .int .i64 0]) ∧ DkA w' kb b K 1 ∧ Tc [] w w' ∧ w.heap.size ≤ kb := by
 have HB := hid (fun W (t : Tc [] w W) => block_s (S.quiet t))
 have hf : Rx.fitN (A.B : Int) = (K : Int) := by
  unfold Rx.fitN
  have h1 := hA.h64
  have h2 := hA.hmax
  have h3 := hA.h32
  have h4 := hA.k
  rw [if_pos (by omega)]
  omega
 have HF := hid (fun W => Rx.fit_any (A.B : Int) W)
 rw [hf] at HF
 have hne : ¬ (K : Int) = 0 := by omega
 clear S hA hf
 go_enter Tryz.func40, Tryz.ntmps40
 go_wp2_with (first
  |(go_at_call 81; refine (HF.out _).mono ?_; rintro e w1 ⟨rfl, hh⟩; have hh := hh.symm; subst hh)
  |(go_at_call 82; refine (HB.out _ (Tc.refl _ _)).mono ?_; rintro e w1 ⟨rfl, hh⟩; have hh := hh.symm; subst hh))
 go_ret2
 exact ⟨w.heap.size, rfl, heap_alloc_new w _, (Tc.refl [] w).alloc _, Nat.le_refl _⟩
end
theorem box3 {w2 : World} {b : Nat} {t : TypeId} {u0 u1 u2 : Value} (hr : w2.heap[b]? = some (.cells #[u0, u1, u2] t (0, 0))) (v0 v1 v2 : Value) :
  ∃ W2, W2 = (((w2.setCell ⟨b, 0, none⟩ v0).setCell ⟨b, 1, none⟩ v1).setCell ⟨b, 2, none⟩ v2) ∧ W2.heap[b]? = some (.cells #[v0, v1, v2] t (0, 0)) ∧ Tc [b] w2 W2 := by
 refine ⟨_, rfl, ?_, ?_⟩
 ·have h0 := sRw hr 0 v0
  have h1 := sRw h0 1 v1
  have h2 := sRw h1 2 v2
  simpa using h2
 ·exact (((Tc.refl [b] w2).setCell (by simp) _).setCell (by simp) _).setCell (by simp) _
theorem total_mount {l : List SFl} : total (l.map SFl.pub) = usedN l l.length := by
 unfold total usedN
 rw [List.take_length, List.map_map]
 rfl
theorem IB.mounted {B : Nat} {Bs : Int} {l : List SFl} {t : Nat} (hs : SetOk B Bs) (hg : GoodL l) (h1 : l.length ≤ t) (h2 : usedN l l.length ≤ t) : IB t (mountA B Bs l l.length) := by
 have e1 : (mountA B Bs l l.length).files = l.map SFl.pub := by simp [mountA]
 refine ⟨⟨?_, ?_⟩, ?_, ?_, ?_, ?_, ?_, ?_, ?_, ?_, ?_, ?_⟩
 ·have := hs.1
  show 64 ≤ B
  omega
 ·have := hs.2.1
  show B ≤ 65536
  omega
 ·exact ⟨Int.le_refl _, by show (0 : Int) ≤ t; omega⟩
 ·exact ⟨Int.le_refl _, by show (0 : Int) ≤ t; omega⟩
 ·exact ⟨Int.le_refl _, by show (0 : Int) ≤ t; omega⟩
 ·exact ⟨Int.le_refl _, by show (0 : Int) ≤ t; omega⟩
 ·exact ⟨Int.le_refl _, by show (0 : Int) ≤ t; omega⟩
 ·rw [e1, total_mount]
  rfl
 ·exact Int.le_refl _
 ·rw [e1, total_mount]
  exact h2
 ·rw [e1, List.length_map]
  exact h1
 ·rw [e1]
  exact List.pairwise_map.2 hg.rising
section
variable {w w' : World}
theorem stand_mount {E : Nat → Addr} {lo p mf mt q lb n B : Nat} {l : List SFl} {tl : List TrA} {D : DkC} (V : Env w lo E) (R : Rep w lo p mf mt D) (hD : D.pub = mountA B 1099511627776 l l.length) (hT : TIs D.T tl) (hs : SetOk B 1099511627776) (hg : GoodL l) (h1 : l.length ≤ n) (h2 : usedN l l.length ≤ n) {lim : Int} (hl : 0 ≤ lim ∧ lim ≤ 9223372036854775807) (hp : Pu.PurseAt w q (.new lim lb)) (hlk : Pu.LockAt w lb 0) (hne : q ≠ lb) (hq : q ∉ D.foot p mf mt) (hlb : lb ∉ D.foot p mf mt) (hlo : lo ≤ q ∧ lo ≤ lb) :
  Std w ⟨E, lo, p, mf, mt, q, tl⟩ n (mountA B 1099511627776 l l.length) (.new lim lb) (q :: lb :: D.foot p mf mt) := by
 refine ⟨⟨_, ⟨D, R, hD, hT.from _, rfl⟩, rfl, hq, hlb⟩, V, IB.mounted hs hg h1 h2, hp, hlk, ?_, hne, hlo⟩
 exact ⟨by simp, by simp, by simp; exact hl.1, hl.2, by simp, by simp, by simp, by simp; exact hl.1⟩
set_option maxHeartbeats 4000000 in
theorem open_ok {E : Nat → Addr} {lo B : Nat} {fv : Value} {l : List SFl} {ta : Option Addr} {tc n : Nat} {tl : List TrA} (V : Env w lo E) (hlo : lo ≤ w.heap.size) (h : StIn w fv l) (htl : TrsAt w ta tl) (htn : tl.length ≤ 1099511627776) (h1 : l.length ≤ n) (h2 : usedN l l.length ≤ n) (hn : n ≤ 1099511627776) (hc : MountV B B 1099511627776 l none) (hB : 64 ≤ B ∧ B ≤ 65536 ∧ B % 32 = 0) (extra : Nat) (hx : extra ≤ 1048576) :
  Calls Tryz.prog 14 #[.agg #[.int .i64 (B : Int), fv], .int .i64 (extra : Int), .slice ta tl.length tc] w fun e w' => ∃ b kb lb F, e = .returned (.tuple #[.agg #[ptr b.p, ptr b.q, ptr kb], .bool true]) ∧ b.lo = lo ∧ b.E = E ∧ b.l = tl ∧ Tc [] w w' ∧
   Std w' b n (mountA B 1099511627776 l l.length) (.new ((64 * (B / 32 - 1) + extra : Nat) : Int) lb) F ∧ DkA w' kb b ((B / 32 - 1 : Nat) : Int) 1 ∧ kb ∉ F ∧ w.heap.size ≤ kb ∧ kb < w'.heap.size ∧ ∀ y ∈ F, w.heap.size ≤ y := by
 obtain ⟨hso, hfo⟩ : SetOk B 1099511627776 ∧ FilesOk B l l.length := by
  rcases hc with ⟨_, h1, _, h2, _⟩ | ⟨h, _⟩ | ⟨h, _⟩ | ⟨h, _⟩
  ·exact ⟨h1, h2⟩
  all_goals cases h
 obtain ⟨K, hK⟩ : ∃ K, K = B / 32 - 1 := ⟨_, rfl⟩
 have hK2 : 1 ≤ K ∧ K ≤ 2047 := by omega
 have HF := hid (fun W => rfit_any hB.1 hB.2.1 hB.2.2 W)
 rw [← hK] at HF ⊢
 obtain ⟨fa, fc, hfv⟩ := h.sl
 have HM := hid (fun W (tt : Tc [] w W) (hb : Below w.heap.size w W) => Mount_go (Bs := 1099511627776) (tc := tc) (V.touch tt (by simp)) (h.below hb) (htl.below hb) htn (by omega) (by omega) hc)
 rw [hfv] at HM
 have HP := hid (fun W => Pu.new_any (n := ((64 * K + extra : Nat) : Int)) (by omega) W)
 have hw1 : IntKind.i64.wrap (64 * (K : Int)) = 64 * (K : Int) := by rw [IntKind.wrap_i64]; omega
 have hw2 : IntKind.i64.wrap (64 * (K : Int) + (extra : Int)) = ((64 * K + extra : Nat) : Int) := by rw [IntKind.wrap_i64]; omega
 have HV := hid V
 have HG := hid (hfo.good (by omega) (by omega)).1
 have HSO := hid hso
 have HKB := hid (And.intro hK hB)
 rw [hfv]
 clear h htl V hc hso hfo hfv hK hB
 have HT0 : Hid (Tc [] w ((w.alloc (.cells #[.int .i64 (B : Int), .slice fa l.length fc] 42)).alloc (.cells #[.pointer none, .pointer none, .pointer none] 36))) := hid (((Tc.refl [] w).alloc _).alloc _)
 have HB0 : Hid (Below w.heap.size w ((w.alloc (.cells #[.int .i64 (B : Int), .slice fa l.length fc] 42)).alloc (.cells #[.pointer none, .pointer none, .pointer none] 36))) := hid (((Below.refl _ w).alloc (Nat.le_refl _) _).alloc (by simp) _)
 have HR0 := hid (heap_two w (.cells #[.int .i64 (B : Int), .slice fa l.length fc] 42) (.cells #[.pointer none, .pointer none, .pointer none] 36))
 go_enter Tryz.func14, Tryz.ntmps14
 go_upto_region 8 with (first
  |(go_at_call 39; refine (HP.out _).mono ?_; rintro e w3 ⟨q, lb, rfl, hq1, hq2, hq3, hq4, hq5, hq6⟩; have HQ := hid (And.intro hq1 (And.intro hq2 (And.intro hq3 (And.intro hq4 (And.intro hq5 hq6))))); clear hq1 hq2 hq3 hq4 hq5 hq6)
  |(go_at_call 38; refine (HF.out _).mono ?_; rintro e w2 ⟨rfl, hh⟩; have hh := hh.symm; subst hh)
  |(go_at_call 37; refine (HM.out _ HT0.out HB0.out).mono ?_; rintro e w1 ⟨p, mf, mt, D, rfl, hrep, hpub, hT, hbl⟩; have HREP := hid (And.intro hrep (And.intro hpub (And.intro hT hbl))); have c1 := cRw ((hbl.block _ (by simp; omega)).trans HR0.out.1) 0; simp only [List.getElem?_toArray, List.getElem?_cons_zero] at c1; clear hrep hpub hT hbl))
 obtain ⟨hrep, hpub, hT, hbl⟩ := HREP.out
 obtain ⟨hq1, hq2, hq3, hq4, hq5, hq6⟩ := HQ.out
 have hs0 : ((w.alloc (.cells #[.int .i64 (B : Int), .slice fa l.length fc] 42)).alloc (.cells #[.pointer none, .pointer none, .pointer none] 36)).heap.size = w.heap.size + 2 := by simp
 have t1 : Tc [] w w1 := HT0.out.trans (Tc.of_below (F := []) hbl (Nat.le_refl _)) (by simp)
 have hs1 := hbl.size
 have hs12 : w.heap.size + 2 ≤ w1.heap.size := by omega
 have tw3 : Tc [] w w3 := t1.trans hq6 (by simp)
 have hfoot : ∀ y ∈ D.foot p mf mt, w.heap.size + 2 ≤ y ∧ y < w1.heap.size := fun y hy => ⟨by have := hrep.base y hy; omega, hrep.lt y hy⟩
 have nq : q ∉ D.foot p mf mt := fun h => by have := (hfoot q h).2; omega
 have nl : lb ∉ D.foot p mf mt := fun h => by have := (hfoot lb h).2; omega
 have HS3 : Hid (Std w3 ⟨E, lo, p, mf, mt, q, tl⟩ n (mountA B 1099511627776 l l.length) (.new ((64 * K + extra : Nat) : Int) lb) (q :: lb :: D.foot p mf mt)) :=
  hid (stand_mount (HV.out.touch tw3 (by simp)) ((hrep.lower (by omega)).touch hq6 (by simp)) hpub hT HSO.out HG.out h1 h2 (by omega) hq4 hq5 hq3 nq nl (by omega))
 have HND := hid (NewDesk_ok (K := K) HS3.out ⟨HKB.out.2.1, HKB.out.2.2.1, HKB.out.2.2.2, HKB.out.1⟩ hK2.1)
 have hr3 := (hq6.block _ (by have := hs1; omega) (by simp)).trans ((hbl.block _ (by simp)).trans HR0.out.2)
 have HR3 := hid hr3
 have HTW := hid tw3
 have HFO := hid hfoot
 have HQS := hid (And.intro hq1 hq2)
 have hrow : w.heap.size + 1 < w3.heap.size := ltB hr3
 clear hrep hpub hT hbl hq1 hq2 hq3 hq4 hq5 hq6 hs0 t1 hs1 tw3 hfoot nq nl hr3 HREP HQ c1
 go_upto_region 9 with (go_at_call 40; refine (HND.out).mono ?_; rintro e w4 ⟨kb, rfl, hkd, ht4, hkb⟩; have HKD := hid (And.intro hkd (And.intro ht4 hkb)); clear hkd ht4 hkb)
 obtain ⟨hkd, ht4, hkb⟩ := HKD.out
 have hr4 := (ht4.block _ hrow (by simp)).trans HR3.out
 obtain ⟨W5, e5, hr5, t5⟩ := box3 hr4 (ptr p) (ptr q) (ptr kb)
 have u4 := fun i => uRw hr4 i
 have c4 := fun i => cRw hr4 i
 have HE5 := hid e5
 have H5 := hid (And.intro hr5 t5)
 clear hkd ht4 hkb hr4 e5 hr5 t5
 go_wp2_with fail
 rw [← HE5.out]
 have q5 := fun i => cRw H5.out.1 i
 refine bodyPost_ret (v := .tuple #[.agg #[ptr p, ptr q, ptr kb], .bool true]) (by simp [results, Tryz.results14, go_sem, q5]) rfl ?_
 obtain ⟨hkd, ht4, hkb⟩ := HKD.out
 have h45 := H5.out.2
 have hh3 := HTW.out.size
 have hw5 : Tc [] w W5 := (HTW.out.trans ht4 (by simp)).trans h45 (fun y hy => by simp at hy; subst hy; exact .inr (by omega))
 have hq9 := HQS.out
 have hlow : lo ≤ w.heap.size := hlo
 have hnF : w.heap.size + 1 ∉ (q :: lb :: D.foot p mf mt) := fun hx => by
  rcases List.mem_cons.1 hx with h | h
  ·have := HQS.out.1; have := H5.out; omega
  ·rcases List.mem_cons.1 h with h | h
   ·have := HQS.out.2; omega
   ·have := (HFO.out _ h).1; omega
 refine ⟨⟨E, lo, p, mf, mt, q, tl⟩, kb, lb, (q :: lb :: D.foot p mf mt), rfl, rfl, rfl, rfl, hw5, (HS3.out.quiet ht4).touch h45 (fun y hy => by simp at hy; subst hy; exact ⟨hnF, by show lo ≤ _; omega⟩), hkd.touch h45 (by simp; omega), fun hx => ?_, by omega, Nat.lt_of_lt_of_le (ltB hkd) h45.size, fun y hy => ?_⟩
 ·have := HS3.out.lt _ hx; omega
 ·rcases List.mem_cons.1 hy with rfl | h
  ·have := HQS.out.1; omega
  ·rcases List.mem_cons.1 h with rfl | h
   ·have := HQS.out.2; omega
   ·have := (HFO.out _ h).1; omega
end
theorem digH_hex : ∀ d, d < 16 → digH (PureHex.hexC d).toNat = d := by decide
theorem parH_hex : ∀ (k u : Nat) (r : List UInt8), k ≤ 16 → parH 0 (PureHex.hexW k u ++ r) = parH (u % 16 ^ k) r
 | 0, u, r, _ => by simp [PureHex.hexW, Nat.mod_one]
 | k + 1, u, r, hk => by
  have h1 : (u / 16) % 16 ^ k < 16 ^ k := Nat.mod_lt _ (Nat.pow_pos (by decide))
  have h2 : 16 ^ k ≤ 16 ^ 15 := Nat.pow_le_pow_right (by decide) (by omega)
  have h3 : (16 : Nat) ^ 15 = 1152921504606846976 := by decide
  have hd := digH_hex (u % 16) (Nat.mod_lt _ (by decide))
  have hl : u % 16 < 16 := Nat.mod_lt _ (by decide)
  rw [PureHex.hexW, List.append_assoc, parH_hex k (u / 16) _ (by omega), List.singleton_append, parH_on (by rw [hd]; omega) (by omega), hd]
  have e : u % 16 ^ (k + 1) = u % 16 + 16 * (u / 16 % 16 ^ k) := by rw [Nat.pow_succ, Nat.mul_comm, Nat.mod_mul]
  rw [e]
  congr 1
  omega
theorem genN_cat {g : Nat} (hg : g < 18446744073709551616) : genN (catN g) = g := by
 have h1 : trimC (catN g) = PureHex.hexW 16 g := by
  unfold trimC catN
  rw [if_pos (by rfl)]
  rfl
 have h2 : parU (PureHex.hexW 16 g) = (g, 0) := by
  unfold parU
  rw [if_neg (by intro h; have := PureHex.hexW_len 16 g; rw [h] at this; cases this)]
  have := parH_hex 16 g [] (by omega)
  rw [List.append_nil] at this
  rw [this, Nat.mod_eq_of_lt (by omega)]
  rfl
 unfold genN
 rw [h1, h2]
 rw [if_pos ⟨rfl, rfl⟩]
theorem nm_bs (l : List UInt8) : nm (bs l) = l := rfl
theorem LayOk.tap {b : Bn} {A : PubA} {x : ByteArray} {kind K : Nat} {l : List Rc} (C : LayOk b A x kind K l) (c : Int) : TapX b (mkX A x true (bkO kind K A.B l (nBk K l.length)) c) x K kind (bkO kind K A.B l (nBk K l.length)) l :=
 ⟨C.nil, ⟨C.new.on, C.new.name, find_ins C.new.none⟩, fits_mkX C.fit, C.hK, C.k1, C.k2, C.small, C.len, blocksOf_length _ _ _ _ _, fun j hj => by
  rw [blocksOf_length] at hj
  exact blocksOf_get hj⟩
abbrev tblF : Tbl := ⟨2, [1, 0], [], 5, 9⟩
abbrev dskF : PubA := mountA 64 1099511627776 [] 0
theorem formedF : fmB tblF = true := by decide
theorem numF : tblF.Num := ⟨by decide, by decide, by decide, by decide, by decide⟩
theorem namesF (A : PubA) (h : A.on = true) (x : List UInt8) (f : FlA) (hf : A.files = [(x, f)]) : namesA A = [bs x] := by
 unfold namesA
 rw [if_pos h, hf]
 rfl
theorem putF_files : (putA dskF 1 tblF 1).files = [(catN 1, ⟨true, bkO 5 1 64 (recsN tblF 1) (nBk 1 (recsN tblF 1).length)⟩)] := rfl
theorem namesPF : namesA (putA dskF 1 tblF 1) = [bs (catN 1)] := namesF _ rfl _ _ putF_files
theorem hexC_name : ∀ d, d < 16 → nbB (PureHex.hexC d).toNat = true := by decide
theorem hexW_name : ∀ (k u : Nat), ∀ c ∈ PureHex.hexW k u, nbB c.toNat = true
 | 0, u, c, h => by cases h
 | k + 1, u, c, h => by
  rw [PureHex.hexW] at h
  rcases List.mem_append.1 h with h | h
  ·exact hexW_name k _ c h
  ·rw [List.mem_singleton] at h
   subst h
   exact hexC_name _ (Nat.mod_lt _ (by decide))
theorem nameCat (g : Nat) : nameB (bs (catN g)) = true := by
 have h1 : (bs (catN g)).size = 20 := by
  show (catN g).toArray.size = 20
  rw [List.size_toArray, catN_len]
 have h2 : (bs (catN g)).data.toList.all (fun c => nbB c.toNat) = true := by
  show (catN g).all _ = true
  rw [List.all_eq_true]
  intro c hc
  unfold catN at hc
  rcases List.mem_append.1 hc with h | h
  ·simp only [List.mem_cons, List.not_mem_nil, or_false] at h
   rcases h with rfl | rfl | rfl | rfl <;> rfl
  ·exact hexW_name _ _ c h
 unfold nameB
 rw [h1, h2]
 rfl
theorem layF (b : Bn) (hb : b.l = []) : LayOk b dskF (bs (catN 1)) 5 1 (recsN tblF 1) :=
 ⟨hb, ⟨rfl, nameCat 1, rfl⟩, ⟨by decide, by decide, by decide, by decide⟩, by omega, by decide, by decide, recs_small numF (by decide) (by decide), by decide, by decide⟩
theorem tidyF (b : Bn) : tidyB b (filesN tblF.rows ++ [catN 1]) (putA dskF 1 tblF 1) = (0, putA dskF 1 tblF 1) := by
 unfold tidyB
 rw [namesPF, tidyL_kept (by rw [nm_bs]; simp)]
 rfl
theorem newestF : newestA (putA dskF 1 tblF 1) = 1 := by
 have hg : genN (nm (bs (catN 1))) = 1 := genN_cat (by decide)
 have hH : Has (putA dskF 1 tblF 1) (bs (catN 1)) (bkO 5 1 64 (recsN tblF 1) (nBk 1 (recsN tblF 1).length)) := ⟨rfl, nameCat 1, find_ins (l := dskF.files) rfl⟩
 have hl := length_has hH
 unfold newestA
 rw [namesPF]
 show stepN (putA dskF 1 tblF 1) 0 (bs (catN 1)) = 1
 unfold stepN
 rw [hg, hl, if_pos ⟨by decide, rfl, rfl⟩]
section
variable {w w' : World} {t : Tbl} {so sr so2 sr2 : Option Addr} {co cr co2 cr2 : Nat}
theorem row_same (h : Int) (f : Nat) (W : World) : (binOp .neq 45 (.agg #[.int .i64 h, .int .u64 (f : Int)]) (.agg #[.int .i64 h, .int .u64 (f : Int)])).run Tryz.prog W = .ok (.bool false) W := by
 go_simp
 done
set_option maxHeartbeats 4000000 in
theorem sameRows_true (h1 : TblAt w t so sr) (h2 : TblAt w t so2 sr2) :
  Calls Tryz.prog 13 #[tblV t so sr co cr, tblV t so2 sr2 co2 cr2] w fun e w' => e = .returned (.bool true) ∧ Tc [] w w' := by
 have hol := h1.ol
 have hrl := h1.rl
 have HA := hid (fun W (tt : Tc [] w W) => h1.touch tt (by simp) (by simp))
 have HB := hid (fun W (tt : Tc [] w W) => h2.touch tt (by simp) (by simp))
 have HRS := hid row_same
 obtain ⟨Wb, hWb⟩ : ∃ Wb, Wb = (w.alloc (.cells (tblC t so sr co cr) 26)).alloc (.cells (tblC t so2 sr2 co2 cr2) 26) := ⟨_, rfl⟩
 have htb : Tc [] w Wb := by rw [hWb]; exact ((Tc.refl [] w).alloc _).alloc _
 have hx : Wb.heap[w.heap.size]? = some (.cells (tblC t so sr co cr) 26 (0, 0)) := by rw [hWb]; exact (Below.heap_alloc _ _ _ (by simp)).trans (heap_alloc_new w _)
 have hy : Wb.heap[w.heap.size + 1]? = some (.cells (tblC t so2 sr2 co2 cr2) 26 (0, 0)) := by rw [hWb]; have := heap_alloc_new (w.alloc (.cells (tblC t so sr co cr) 26)) (.cells (tblC t so2 sr2 co2 cr2) 26); simpa using this
 have HT := hid htb
 have HX := hid (fun W (tt : Tc [] Wb W) => fun i => cRw ((tt.block _ (ltB hx) (by simp)).trans hx) i)
 have HY := hid (fun W (tt : Tc [] Wb W) => fun i => cRw ((tt.block _ (ltB hy) (by simp)).trans hy) i)
 have HWB := hid hWb
 clear h1 h2 htb hx hy hWb
 simp only [tblV, tblC] at *
 go_enter Tryz.func13, Tryz.ntmps13
 go_wp2_with fail
 rw [← HWB.out]
 have cx := HX.out Wb (Tc.refl _ _)
 have cy := HY.out Wb (Tc.refl _ _)
 generalize w.heap.size = bx at *
 go_wp2_with fail
 clear cx cy
 have hb : bx < 99999999 ∨ True := .inr trivial
 clear hb
 go_loopw [5] (fun i W => ∃ k : Nat, k ≤ t.order.length ∧ i = .int .i64 k ∧ Hid (Tc [] Wb W)) (fun i _ => t.order.length - (intOf i).toNat)
 case atStart => exact ⟨0, Nat.zero_le _, rfl, hid (Tc.refl _ _)⟩
 case round =>
  obtain ⟨k, hk, rfl, hW⟩ := hrel
  have hwt := HT.out.trans hW.out (by simp)
  have cx := HX.out wr hW.out
  have cy := HY.out wr hW.out
  by_cases hlt : k < t.order.length
  ·obtain ⟨a, rfl, hab, c1⟩ := (HA.out wr hwt).ints.at_ k hlt
   obtain ⟨a2, rfl, hab2, c2⟩ := (HB.out wr hwt).ints.at_ k hlt
   have hki : (k : Int) < (t.order.length : Int) := by omega
   have hk0 : (0 : Int) ≤ (k : Int) := by omega
   clear hwt hab hab2
   generalize t.order[k] = v at *
   go_wp2_with fail
   go_quiet (fail)
   go_wp2_with fail
   exact ⟨⟨k + 1, hlt, rfl, hid (hW.out.drewN _)⟩, by simp [intOf]; omega⟩
  ·obtain rfl : k = t.order.length := by omega
   clear hwt
   go_wp2_with fail
   go_loopw [6] (fun i W => ∃ k : Nat, k ≤ t.rows.length ∧ i = .int .i64 k ∧ Hid (Tc [] Wb W)) (fun i _ => t.rows.length - (intOf i).toNat)
   case atStart => exact ⟨0, Nat.zero_le _, rfl, hW⟩
   case round =>
    clear hW cx cy
    obtain ⟨k, hk, rfl, hW⟩ := hrel
    have hwt := HT.out.trans hW.out (by simp)
    have cx := HX.out wr hW.out
    have cy := HY.out wr hW.out
    by_cases hlt : k < t.rows.length
    ·obtain ⟨a, rfl, hab, c1, d1⟩ := (HA.out wr hwt).rows.at_ k hlt
     obtain ⟨a2, rfl, hab2, c2, d2⟩ := (HB.out wr hwt).rows.at_ k hlt
     have hki : (k : Int) < (t.rows.length : Int) := by omega
     have hk0 : (0 : Int) ≤ (k : Int) := by omega
     clear hwt hab hab2
     generalize t.rows[k] = v at *
     obtain ⟨v0, v1⟩ := v
     dsimp only at c1 c2 d1 d2
     have hsame := HRS.out v0 v1
     go_wp2_with fail
     go_quiet (fail)
     go_wp2_with fail
     exact ⟨⟨k + 1, hlt, rfl, hid (hW.out.drewN _)⟩, by simp [intOf]; omega⟩
    ·obtain rfl : k = t.rows.length := by omega
     clear hwt
     go_wp2_with fail
     go_ret
     exact ⟨rfl, HT.out.trans hW.out (by simp)⟩
end
theorem stIn_nil (w : World) : StIn w (.slice none 0 0) [] := ⟨⟨none, 0, rfl⟩, fun k e h => by cases h⟩
theorem trsAt_nil (w : World) : TrsAt w none [] := ⟨fun k hk => absurd hk (by simp), fun k hk => absurd hk (by simp)⟩
theorem mountF : MountV ((64 : Nat) : Int) ((64 : Nat) : Int) 1099511627776 [] none := .inl ⟨rfl, ⟨by decide, by decide, by decide, by decide, by decide⟩, rfl, fun j e h => absurd h (by simp), by decide⟩
section
variable {w : World} {b : Bn} {s : Pu.St} {F : List Nat} {kb : Nat} {T : Int} {so : Option Addr} {co : Nat}
theorem readyF {A : PubA} (h : A.on = true) : readyE A (sortU (filesN tblF.rows)) [] = 0 := by
 have e : sortU (filesN tblF.rows) = [] := by simp [sortU, uniq, filesN]
 rw [e]
 exact readyE_nil h
abbrev dskG : PubA := putA dskF 1 tblF 1
abbrev blsF : List (List UInt8) := bkO 5 1 64 (recsN tblF 1) (nBk 1 (recsN tblF 1).length)
theorem commitF (S : Std w b 0 dskF s F) (hb : b.l = []) (hk : DkA w kb b ((1 : Nat) : Int) T) (hkF : kb ∉ F) (hT : Tabs w) (h17 : 17 ≤ b.lo) (hi : IntsAt w so [1, 0]) (ho : ∀ a, so = some a → a.block ∉ F ∧ a.block < w.heap.size) (hfree : 64 * ((1 : Nat) : Int) ≤ s.free) :
  Calls Tryz.prog 19 #[ptr kb, .agg #[.int .i64 2, .slice so 2 co, .slice none 0 0, .int .i64 5, .int .u64 9], .int .u64 0] w fun e w' => e = .returned (.int .i64 0) ∧ Went w w' b 7 dskG ((s.take ((1 : Nat) : Int)).give ((1 : Nat) : Int)) F [] := by
 have ht : TblAt w tblF so none := ⟨hi, RowsAt.nil _ _, by decide, by decide, by decide, by decide, by decide, by decide, by decide⟩
 have h := commit_ok (gen := 0) (t := tblF) (co := co) (cr := 0) (sr := none) S (layF b hb) (by omega) hk hkF hT h17 ht (fun a ha _ => ho a ha) (by simp) hfree (by omega) formedF rfl (readyF rfl)
 refine h.mono fun e w' ⟨e1, g⟩ => ?_
 rw [show (0 : Nat) + 1 = 1 from rfl, tidyF] at g e1
 exact ⟨e1, g.mono_n (by rw [namesPF]; decide)⟩
theorem readF (S : Std w b 7 dskG s F) (hb : b.l = []) (hk : DkA w kb b ((1 : Nat) : Int) T) (hkF : kb ∉ F) (hlk : b.lo ≤ kb) (hT : Tabs w) (h17 : 17 ≤ b.lo) (hfree : 64 * ((1 : Nat) : Int) ≤ s.free) :
  Calls Tryz.prog 20 #[ptr kb] w fun e w' => ∃ so sr co cr, e = .returned (.tuple #[.agg #[.int .i64 2, .slice so 2 co, .slice sr 0 cr, .int .i64 5, .int .u64 9], .int .u64 1, .int .i64 0]) ∧ TblAt w' tblF so sr ∧
   Went w w' b 10 (rdX dskG 3) ((s.take ((1 : Nat) : Int)).give ((1 : Nat) : Int)) F [] := by
 have C : TapX b dskG (bs (catN 1)) 1 5 blsF (recsN tblF 1) := (layF b hb).tap _
 have h := readC_ok (gen := 1) (t := tblF) (K := 1) S C (by omega) hk hkF hlk h17 hT formedF numF hfree (by omega) (by omega) newestF (readyF rfl)
 refine h.mono fun e w' ⟨v, e1, ⟨so, sr, co, cr, e2, h1, _⟩, g⟩ => ⟨so, sr, co, cr, by rw [e1, e2]; rfl, h1, ?_⟩
 exact g
end
section
variable {w : World}
theorem sameP_free {s : Pu.St} {K : Int} (h0 : 0 ≤ s.hand) (hc : s.closed = false) (hK : 1 ≤ K) (hf : 64 * K ≤ s.free) : SameP s ((s.take K).give K) := sameP_take h0 (by omega) hc (free_leave hK hf)
theorem sameP_two {s : Pu.St} {K : Int} (h0 : 0 ≤ s.hand) (hc : s.closed = false) (hK : 1 ≤ K) (hf : 64 * K ≤ s.free) : SameP s ((((s.take K).give K).take K).give K) := by
 have h1 := sameP_free h0 hc hK hf
 exact h1.trans (sameP_free (by rw [h1.hand]; exact h0) (by rw [h1.closed]; exact hc) hK (by rw [h1.free]; exact hf))
theorem add_nil (a : Addr) : a.add 0 = a := by cases a; unfold Addr.add; simp only [Nat.add_zero]; split <;> simp_all
theorem catOne : bs (catN 1) = ⟨#[99, 97, 116, 45, 48, 48, 48, 48, 48, 48, 48, 48, 48, 48, 48, 48, 48, 48, 48, 49]⟩ := by rfl
set_option maxHeartbeats 8000000 in
theorem alive_any {E : Nat → Addr} {lo : Nat} (V : Env w lo E) (hT : Tabs w) (h17 : 17 ≤ lo) :
  Calls Tryz.prog 9 #[] w fun e w' => e = .returned (.bool true) ∧ Tc [] w w' := by
 have hlo := V.room
 have HO := hid (fun W (tt : Tc [] w W) => open_ok (tc := 0) (n := 0) (V.touch tt (by simp)) (Nat.le_trans hlo tt.size) (stIn_nil W) (trsAt_nil W) (by simp) (by simp) (by simp [usedN]) (by omega) mountF (by decide) 0 (by omega))
 have HTB := hid hT
 clear V hT
 simp only [List.length_nil] at HO
 go_enter Tryz.func9, Tryz.ntmps9
 go_upto_region 6 with (go_at_call 14; refine (HO.out _ ((Tc.refl [] w).alloc _)).mono ?_; rintro e w2 ⟨b, kb, lb, F, rfl, hblo, hbE, hbl, ht2, hS, hkd, hkF, hk1, hk2, hF⟩; have HS := hid (And.intro hS (And.intro hkd (And.intro hkF (And.intro hk1 (And.intro hk2 hF))))); have HT2 := hid (((Tc.refl [] w).alloc _).trans ht2 (by simp)); have HB := hid (And.intro hblo hbl); clear hS hkd hkF hk1 hk2 hF hblo hbE hbl ht2)
 obtain ⟨W6, hW6⟩ : ∃ W6, W6 = (((w2.alloc (.cells #[.pointer (some ⟨b.p, 0, none⟩), .pointer (some ⟨b.q, 0, none⟩), .pointer (some ⟨kb, 0, none⟩)] 36)).alloc (.cells #[.int .i64 1, .int .i64 0] 3)).alloc (.cells #[.int .i64 2, .slice (some ⟨w2.heap.size + 1, 0, none⟩) 2 2, .slice none 0 0, .int .i64 5, .int .u64 9] 26)) := ⟨_, rfl⟩
 have t6 : Tc [] w2 W6 := by rw [hW6]; exact (((Tc.refl [] w2).alloc _).alloc _).alloc _
 have hs6 : W6.heap.size = w2.heap.size + 3 := by rw [hW6]; simp
 have ho6 : W6.heap[w2.heap.size]? = some (.cells #[ptr b.p, ptr b.q, ptr kb] 36 (0, 0)) := by rw [hW6, Below.heap_alloc _ _ _ (by simp; omega)]; exact (heap_two w2 _ _).1
 have hi6 : W6.heap[w2.heap.size + 1]? = some (.cells #[.int .i64 1, .int .i64 0] 3 (0, 0)) := by rw [hW6, Below.heap_alloc _ _ _ (by simp)]; exact (heap_two w2 _ _).2
 have hr6 : W6.heap[w2.heap.size + 1 + 1]? = some (.cells #[.int .i64 2, .slice (some ⟨w2.heap.size + 1, 0, none⟩) 2 2, .slice none 0 0, .int .i64 5, .int .u64 9] 26 (0, 0)) := by
  rw [hW6]
  have := heap_alloc_new ((w2.alloc (.cells #[.pointer (some ⟨b.p, 0, none⟩), .pointer (some ⟨b.q, 0, none⟩), .pointer (some ⟨kb, 0, none⟩)] 36)).alloc (.cells #[.int .i64 1, .int .i64 0] 3)) (.cells #[.int .i64 2, .slice (some ⟨w2.heap.size + 1, 0, none⟩) 2 2, .slice none 0 0, .int .i64 5, .int .u64 9] 26)
  simpa using this
 rw [← hW6]
 clear hW6
 obtain ⟨hS, hkd, hkF, hk1, hk2, hF⟩ := HS.out
 obtain ⟨hblo, hbl⟩ := HB.out
 have hFlt := hS.lt
 obtain ⟨ob, hob⟩ : ∃ ob, ob = w2.heap.size := ⟨_, rfl⟩
 obtain ⟨ib, hib⟩ : ∃ ib, ib = w2.heap.size + 1 := ⟨_, rfl⟩
 obtain ⟨rb, hrb⟩ : ∃ rb, rb = w2.heap.size + 1 + 1 := ⟨_, rfl⟩
 rw [← hrb] at hr6 ⊢
 rw [← hib] at hr6 hi6 ⊢
 rw [← hob] at ho6 ⊢
 have hoF : ob ∉ F := fun h => by have := hFlt _ h; omega
 have hiF : ib ∉ F := fun h => by have := hFlt _ h; omega
 have hrF : rb ∉ F := fun h => by have := hFlt _ h; omega
 have hT6 : Tabs W6 := HTB.out.quiet (HT2.out.trans t6 (by simp))
 have hints : IntsAt W6 (some ⟨ib, 0, none⟩) [1, 0] := ⟨fun k hk => by
  refine ⟨_, rfl, ltB hi6, ?_⟩
  rw [addC]
  have := cRw hi6 k
  simp only [Nat.zero_add]
  rw [this]
  match k, hk with
  | 0, _ => rfl
  | 1, _ => rfl⟩
 have hfree : 64 * ((1 : Nat) : Int) ≤ (Pu.St.new ((64 * (64 / 32 - 1) + 0 : Nat) : Int) lb).free := by unfold Pu.St.free; simp
 have hS6 := hS.quiet t6
 have H6 := hid (Here.start hS6)
 have HC := hid (commitF (co := 2) hS6 hbl (hkd.touch t6 (by simp)) hkF hT6 (by omega) hints (fun a ha => by cases ha; exact ⟨hiF, ltB hi6⟩) hfree)
 have HR0 := hid (And.intro ho6 (And.intro hr6 hints))
 have HX := hid (And.intro hbl (And.intro (hkd.touch t6 (by simp)) (And.intro hkF (And.intro hk2 (And.intro hT6 (And.intro t6 hF))))))
 have hlo6 : b.lo ≤ W6.heap.size := hS6.room
 have hne : ob ≠ ib ∧ ob ≠ rb ∧ ib ≠ rb := by omega
 have hol := ltB ho6
 have hrl := ltB hr6
 have hil := ltB hi6
 have hkl : kb < W6.heap.size := Nat.lt_of_lt_of_le hk2 t6.size
 have hblk : b.lo ≤ kb := by have := (HT2.out).size; simp at hk1; omega
 have HSB := hid hS6.base
 have c6 := fun i => cRw ho6 i
 have d6 := fun i => cRw hr6 i
 have HE := hid (And.intro hob (And.intro hib hrb))
 have hw2 : w2.heap.size ≤ ob ∧ w2.heap.size ≤ ib ∧ w2.heap.size ≤ rb := by omega
 clear HO HTB HS hob hib hrb hS hkd hk1 hk2 hF hS6 hT6 hints hi6 ho6 hr6 t6 hs6 hfree hbl
 go_upto_region 7 with (go_at_call 19; refine HC.out.mono ?_; rintro e w7 ⟨rfl, hw7⟩; obtain ⟨F7, hI7, tt7, n7⟩ := H6.out.went hw7; have HI7 := hid (And.intro hI7 (And.intro tt7 n7)); clear hI7 tt7 n7 hw7)
 obtain ⟨hI7, tt7, n7⟩ := HI7.out
 obtain ⟨hbl, hkd, hkF, hk2, hT6, t6, hF⟩ := HX.out
 obtain ⟨ho6, hr6, hints⟩ := HR0.out
 have ho7 := (tt7.block _ hol hoF).trans ho6
 have hr7 := (tt7.block _ hrl hrF).trans hr6
 have hT7 : Tabs w7 := hT6.touch tt7 (fun y hy => by have := HSB.out y hy; omega)
 have hp7 : SameP (Pu.St.new ((64 * (64 / 32 - 1) + 0 : Nat) : Int) lb) (((Pu.St.new ((64 * (64 / 32 - 1) + 0 : Nat) : Int) lb).take ((1 : Nat) : Int)).give ((1 : Nat) : Int)) := sameP_take (by simp) (by decide) rfl (free_leave (by decide) (by unfold Pu.St.free; simp))
 have hk7 : kb ∉ F7 := n7 _ hkF hkl
 have HRD := hid (readF hI7.S hbl (hkd.touch tt7 hkF) hk7 hblk hT7 (by omega) (by rw [hp7.free]; unfold Pu.St.free; simp))
 have HO7 := hid (And.intro ho7 (And.intro hr7 (hints.touch tt7 (fun a ha => by cases ha; exact hiF))))
 have HF7 := hid (And.intro (n7 _ hoF hol) (And.intro (n7 _ hrF hrl) (n7 _ hiF hil)))
 have hol7 := ltB ho7
 have hrl7 := ltB hr7
 have hil7 : ib < w7.heap.size := Nat.lt_of_lt_of_le hil tt7.size
 have c7 := fun i => cRw ho7 i
 have d7 := fun i => cRw hr7 i
 clear hI7 tt7 n7 hbl hkd hk2 hT6 t6 hF ho6 hr6 hints ho7 hr7 hT7 c6 d6 HC
 go_upto_region 8 with (go_at_call 20; refine HRD.out.mono ?_; rintro e w8 ⟨so, sr, co, cr, rfl, htb, hw8⟩; obtain ⟨F8, hI8, tt8, n8⟩ := HI7.out.1.went hw8; have HI8 := hid (And.intro hI8 (And.intro tt8 n8)); have HTB8 := hid htb; clear hI8 tt8 n8 hw8 htb)
 obtain ⟨W9, hW9⟩ : ∃ W9, W9 = w8.alloc (.cells #[.int .i64 2, .slice so 2 co, .slice sr 0 cr, .int .i64 5, .int .u64 9] 26) := ⟨_, rfl⟩
 obtain ⟨hI8, tt8, n8⟩ := HI8.out
 obtain ⟨ho7, hr7, hi7⟩ := HO7.out
 obtain ⟨m1, m2, m3⟩ := HF7.out
 have t9 : Tc [] w8 W9 := by rw [hW9]; exact (Tc.refl [] w8).alloc _
 have hq9 : W9.heap[w8.heap.size]? = some (.cells #[.int .i64 2, .slice so 2 co, .slice sr 0 cr, .int .i64 5, .int .u64 9] 26 (0, 0)) := by rw [hW9]; exact heap_alloc_new w8 _
 rw [← hW9]
 clear hW9
 have ho9 := (t9.block _ (Nat.lt_of_lt_of_le hol7 tt8.size) (by simp)).trans ((tt8.block _ hol7 m1).trans ho7)
 have hr9 := (t9.block _ (Nat.lt_of_lt_of_le hrl7 tt8.size) (by simp)).trans ((tt8.block _ hrl7 m2).trans hr7)
 have hi9 := (hi7.touch tt8 (fun a ha => by cases ha; exact m3)).touch t9 (by simp)
 have hb9 := HTB8.out.touch t9 (by simp) (by simp)
 have hI9 := hI8.quiet t9
 have HI9 := hid hI9
 have hN := names_s hI9.S (by omega)
 have e1 : namesA (rdX dskG 3) = [bs (catN 1)] := namesPF
 rw [e1] at hN
 have HN := hid hN
 have HH9 := hid (And.intro ho9 (And.intro hr9 (And.intro hq9 (And.intro hi9 hb9))))
 obtain ⟨qb, hqb⟩ : ∃ qb, qb = w8.heap.size := ⟨_, rfl⟩
 rw [← hqb] at hq9 HH9 ⊢
 have hqb2 : qb < W9.heap.size := ltB hq9
 have hol9 := ltB ho9
 have hrl9 := ltB hr9
 have c9 := fun i => cRw ho9 i
 clear hqb hI8 tt8 n8 ho7 hr7 hi7 m1 m2 m3 t9 hI9 hN e1 ho9 hr9 hq9 hi9 hb9 c7 d7 HRD HI8 HTB8
 go_upto_region 9 with (go_at_call 21; refine HN.out.mono ?_; rintro e w10 ⟨sa, sc, rfl, hst, hsb, ht10⟩; have HST := hid (And.intro hst ht10); clear hst hsb ht10)
 obtain ⟨hst, ht10⟩ := HST.out
 obtain ⟨ho9, hr9, hq9, hi9, hb9⟩ := HH9.out
 have ho10 := (ht10.block _ hol9 (by simp)).trans ho9
 have hr10 := (ht10.block _ hrl9 (by simp)).trans hr9
 have hq10 := (ht10.block _ hqb2 (by simp)).trans hq9
 have hb10 := hb9.touch ht10 (by simp) (by simp)
 have hF10 : TblAt w10 tblF (some ⟨ib, 0, none⟩) none := ⟨hi9.touch ht10 (by simp), RowsAt.nil _ _, by decide, by decide, by decide, by decide, by decide, by decide, by decide⟩
 have hsr := sameRows_true (co := co) (cr := cr) (co2 := 2) (cr2 := 0) hb10 hF10
 rw [show tblV tblF so sr co cr = .agg #[.int .i64 2, .slice so 2 co, .slice sr 0 cr, .int .i64 5, .int .u64 9] from rfl, show tblV tblF (some ⟨ib, 0, none⟩) none 2 0 = .agg #[.int .i64 2, .slice (some ⟨ib, 0, none⟩) 2 2, .slice none 0 0, .int .i64 5, .int .u64 9] from rfl] at hsr
 have HSR := hid hsr
 clear hsr
 obtain ⟨a, rfl, hal, hac⟩ := hst.at_ 0 (by simp)
 have hac' : w10.cell? (a.add 0) = some (.string ⟨#[99, 97, 116, 45, 48, 48, 48, 48, 48, 48, 48, 48, 48, 48, 48, 48, 48, 48, 48, 49]⟩) := by rw [← catOne]; exact hac
 have HI10 := hid (HI9.out.quiet ht10)
 have HU := hid (fun W (tt : Tc [] w10 W) => used_s (HI10.out.quiet tt).S)
 have hsp : SameP (Pu.St.new ((64 * (64 / 32 - 1) + 0 : Nat) : Int) lb) (((((Pu.St.new ((64 * (64 / 32 - 1) + 0 : Nat) : Int) lb).take ((1 : Nat) : Int)).give ((1 : Nat) : Int)).take ((1 : Nat) : Int)).give ((1 : Nat) : Int)) := sameP_two (by simp) rfl (by decide) (by unfold Pu.St.free; simp)
 have HU2 : Hid (∀ W, Tc [] w10 W → Calls Tryz.prog 23 #[ptr b.q] W fun e w' => e = .returned (.int .i64 0) ∧ Tc F8 W w') := hid (fun W tt => by
  have h := HU.out W tt
  rw [hsp.hand, hsp.lent] at h
  exact h.mono fun e w' ⟨e1, g⟩ => ⟨e1, by obtain ⟨F2, _, t2, _⟩ := g; exact t2.mono (by simp)⟩)
 clear hsp HU
 have HAC := hid hac'
 have HO10 := hid (And.intro ho10 (And.intro hr10 hq10))
 have c10 := fun i => cRw ho10 i
 have d10 := fun i => cRw hr10 i
 have e10 := fun i => cRw hq10 i
 clear hst ht10 ho9 hr9 hq9 hi9 hb9 ho10 hr10 hq10 hb10 hF10 hac c9 HN HST HH9
 go_wp2_with (first
  |(go_at_call 23; refine (HU2.out _ HT11.out).mono ?_; rintro e w12 ⟨rfl, hw12⟩; have HW12 := hid hw12; clear hw12)
  |(go_at_call 13; refine HSR.out.mono ?_; rintro e w11 ⟨rfl, ht11⟩; have HT11 := hid ht11; have hac11 := (ht11.cell (p := a.add 0) (by rw [add_block]; exact hal) (by simp)).trans HAC.out; have hac12 := hac11; rw [add_nil] at hac12; have c11 := (fun i => cRw ((ht11.block _ (ltB HO10.out.1) (by simp)).trans HO10.out.1) i); clear ht11))
 go_ret
 obtain ⟨hbl, hkd, hkF, hk2, hT6, t6, hF⟩ := HX.out
 have h := HI10.out
 have tw : Tc F W6 w12 := (h.t.trans HT11.out (by simp)).trans HW12.out h.f
 exact ⟨rfl, (HT2.out.trans t6 (by simp)).trans tw (fun y hy => .inr (by have := hF y hy; simp at this; omega))⟩
end
section
variable {w : World} {t : Tbl} {so sr : Option Addr} {co cr : Nat}
theorem rformed_any (h : TblAt w t so sr) : Calls Tryz.prog 12 #[tblV t so sr co cr] w fun e w' => e = .returned (.bool (fmB t)) ∧ Tc [] w w' := by
 by_cases hb : t.vars < 0 ∨ 65536 < t.vars ∨ ¬ (t.order.length : Int) = t.vars ∨ 1024 < t.rows.length ∨ t.next < 1 ∨ 2147483648 < t.next
 ·rw [formed_bad hb]
  exact rformed_bad hb
 ·have hg : 0 ≤ t.vars ∧ t.vars ≤ 65536 ∧ (t.order.length : Int) = t.vars ∧ t.rows.length ≤ 1024 ∧ 1 ≤ t.next ∧ t.next ≤ 2147483648 := by
   simp only [not_or] at hb
   omega
  rw [formed_good hg]
  exact rformed_good h hg
end
end Go.Proofs.YthehcjjckabljaaGreatDoor
