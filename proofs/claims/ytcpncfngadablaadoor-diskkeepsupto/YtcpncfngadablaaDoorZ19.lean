import Derived.Test.YtcpncfngadablaaDoorZ18
import Derived.Test.YtcpncfngadablaaDoorZ12
import Derived.Test.YtcpncfngadablaaDoorZ17
namespace Go.Proofs.YtcpncfngadablaaDoor
open Go.RowKit Go.Deep

theorem insE_end {e : Ent} : ∀ {l : List Ent}, (∀ y ∈ l, bytesBefore y.name e.name = true) → insE e l = l ++ [e]
  | [], _ => rfl
  | y :: r, h => by
    have hy := h y (by simp)
    have hn : (Lit.string e.name).before (.string y.name) = false := by
      show bytesBefore e.name y.name = false
      cases hx : bytesBefore e.name y.name with
      | false => rfl
      | true =>
        have := WideShapes.bytes_trans _ _ _ hy hx
        rw [WideAt.bytes_irrefl] at this
        cases this
    unfold insE
    rw [hn]
    simp [insE_end (l := r) fun z hz => h z (by simp [hz])]

section
variable {w w' : World} {E : Nat → Addr} {lo p mf mt : Nat} {D : DiskC}

/-- A file, with what it holds, put in. -/
theorem Rep.insertFile (R : Rep w lo p mf mt D) {e : Ent} (hs : e.name.length ≤ 32) (hfind : findE D.ents e.name = none) (ht : Touch [mf] w w') (hfresh : ∀ b ∈ e.lay.foot, w.heap.size ≤ b) (hlo : lo ≤ w.heap.size) (hnd : e.lay.foot.Nodup) (hat : FileAt w' D.B e.lay e.file)
    (hmap : w'.ownsMap Tryd.prog 9 ptrElem mf (D.ents.length + 1) ((mapOf D.ents).put (.string e.name) (.lit (.int .i64 e.lay.fb)))) : Rep w' lo p mf mt { D with ents := insE e D.ents } := by
  obtain ⟨n, hT⟩ := R.troubles
  have hne := R.p_ne
  have hperm := insE_perm e D.ents
  have hfoot : (DiskC.foot { D with ents := insE e D.ents } p mf mt).Perm (e.lay.foot ++ D.foot p mf mt) := by
    simp only [DiskC.foot]
    have h1 := hperm.flatMap_right fun e : Ent => e.lay.foot
    rw [List.flatMap_cons] at h1
    refine (((h1.cons mt).cons mf).cons p).trans ?_
    refine .trans (((List.perm_middle (a := mt)).symm.cons mf).cons p) ?_
    refine .trans ((List.perm_middle (a := mf)).symm.cons p) ?_
    exact (List.perm_middle (a := p)).symm
  have hold : ∀ b ∈ D.foot p mf mt, b ≠ mf → w'.heap[b]? = w.heap[b]? := fun b hb h => ht.block b (R.lt b hb) (by simp [h])
  refine ⟨(hold p (by simp [DiskC.foot]) hne.2.1).trans R.row, ?_, ⟨n, ownsMap_kept hT (hold mt (by simp [DiskC.foot]) hne.2.2.symm)⟩, ?_, ?_, ?_, ?_⟩
  · rw [put_map hfind] at hmap
    show w'.ownsMap Tryd.prog 9 ptrElem mf (insE e D.ents).length _
    rw [hperm.length_eq]
    exact hmap
  · intro x hx
    rcases List.mem_cons.1 (hperm.mem_iff.1 hx) with rfl | hx
    · exact hat
    · exact (R.each x hx).kept fun b hb => by
        have := R.ent_ne hx hb
        exact ht.block b this.2.2.2.1 (by simp [this.2.1])
  · rw [hfoot.nodup_iff, List.nodup_append]
    exact ⟨hnd, R.apart, fun x hx y hy h => by have := hfresh x hx; have := R.lt y hy; omega⟩
  · intro b hb
    rcases List.mem_append.1 (hfoot.mem_iff.1 hb) with hb | hb
    · exact Nat.le_trans hlo (hfresh b hb)
    · exact R.base b hb
  · intro x hx
    rcases List.mem_cons.1 (hperm.mem_iff.1 hx) with rfl | hx
    · exact hs
    · exact R.names x hx

/-- what a mounted disk holds behind k files. -/
def mountA (B : Nat) (Bs : Int) (l : List SFile) (k : Nat) : PubA := ⟨B, Bs, true, (l.take k).map SFile.pub, ⟨0, 0, 0, 0, 0, usedN l k, usedN l k⟩⟩

/-- Mount's loop, k files taken in. -/
structure MInv (w1 wr : World) (p mf mt B : Nat) (Bs : Int) (l : List SFile) (k : Nat) (D : DiskC) : Prop where
  rep : Rep wr w1.heap.size p mf mt D
  pub : D.pub = mountA B Bs l k
  still : D.T = .map []
  below : Below w1.heap.size w1 wr

theorem MInv.find {w1 wr : World} {B k : Nat} {Bs : Int} {l : List SFile} (h : MInv w1 wr p mf mt B Bs l k D) (hg : GoodL l) {e : SFile} (he : l[k]? = some e) : findE D.ents e.name = none ∧ ∀ y ∈ D.ents, bytesBefore y.name e.name = true := by
  have hall : ∀ y ∈ D.ents, bytesBefore y.name e.name = true := by
    intro y hy
    have hm : y.pub ∈ (l.take k).map SFile.pub := by
      have := congrArg PubA.files h.pub
      simp only [DiskC.pub, mountA] at this
      rw [← this]
      exact List.mem_map.2 ⟨y, hy, rfl⟩
    obtain ⟨z, hz, hzy⟩ := List.mem_map.1 hm
    obtain ⟨j, hj, hjz⟩ := List.getElem_of_mem hz
    obtain ⟨hk, rfl⟩ := List.getElem?_eq_some_iff.1 he
    simp at hj
    have hb := List.pairwise_iff_getElem.1 hg.rising j k (by omega) hk (by omega)
    have hzn : z.name = y.name := congrArg Prod.fst hzy
    rw [List.getElem_take] at hjz
    rw [hjz, hzn] at hb
    exact hb
  refine ⟨?_, hall⟩
  unfold findE
  rw [List.find?_eq_none]
  intro y hy
  have := hall y hy
  simp
  intro e1
  rw [e1, WideAt.bytes_irrefl] at this
  cases this

theorem mount_next {w1 wr wa wb : World} {B k n : Nat} {Bs : Int} {l : List SFile} {e : SFile} {L : Lay} (h : MInv w1 wr p mf mt B Bs l k D) (hg : GoodL l) (he : l[k]? = some e) (hsz : w1.heap.size ≤ wr.heap.size)
    (hta : Touch [] wr wa) (hat : FileAt wa B L e.file) (hfr : ∀ b ∈ L.foot, wr.heap.size ≤ b) (hnd : L.foot.Nodup) (hmap : wb.ownsMap Tryd.prog 9 ptrElem mf (n + 1) ((mapOf D.ents).put (.string e.name) (.lit (.int .i64 L.fb)))) (hn : n = D.ents.length) (hgr : wa.grownBy wb (some mf)) :
    Rep wb w1.heap.size p mf mt { D with ents := D.ents ++ [⟨e.name, e.file, L⟩] } ∧ Below w1.heap.size w1 wb := by
  subst hn
  obtain ⟨hf, hall⟩ := h.find hg he
  have hBB : D.B = B := congrArg PubA.B h.pub
  have ht : Touch [mf] wr wb := (hta.mono (by simp)).grown hgr (by simp)
  have hnm : e.name.length ≤ 32 := by
    have := name_size (hg.names e (List.mem_of_getElem? he))
    simpa using (show e.name.toArray.size ≤ 32 from this)
  have hmfl : mf < wr.heap.size := h.rep.files.lt
  have hat' : FileAt wb D.B L e.file := by
    rw [hBB]
    exact hat.kept fun b hb => hgr.block b (hat.lt b hb) (by have := hfr b hb; simp; omega)
  have hR := h.rep.insertFile (e := ⟨e.name, e.file, L⟩) hnm hf ht hfr hsz hnd hat' hmap
  rw [insE_end hall] at hR
  exact ⟨hR, h.below.trans (ht.below hsz (fun b hb => by simp at hb; subst hb; exact h.rep.base b (by simp [DiskC.foot])))⟩

theorem mount_use {w1 wb wc : World} {B k : Nat} {Bs : Int} {l : List SFile} {e : SFile} {L : Lay} {wr : World} (h : MInv w1 wr p mf mt B Bs l k D) (he : l[k]? = some e) (hR : Rep wc w1.heap.size p mf mt { D with ents := D.ents ++ [⟨e.name, e.file, L⟩], c := { D.c with used := D.c.used + e.file.blocks.length, most := max D.c.most (D.c.used + e.file.blocks.length) } }) (hb : Below w1.heap.size w1 wb) (ht : Touch [p] wb wc) (hsz : w1.heap.size ≤ wb.heap.size) :
    MInv w1 wc p mf mt B Bs l (k + 1) { D with ents := D.ents ++ [⟨e.name, e.file, L⟩], c := { D.c with used := D.c.used + e.file.blocks.length, most := max D.c.most (D.c.used + e.file.blocks.length) } } := by
  have hp := h.pub
  simp only [DiskC.pub, mountA, PubA.mk.injEq] at hp
  obtain ⟨h1, h2, h3, h4, h5⟩ := hp
  refine ⟨hR, ?_, h.still, hb.trans (ht.below hsz (fun b hb => by simp at hb; subst hb; exact h.rep.base b (by simp [DiskC.foot])))⟩
  simp only [DiskC.pub, mountA, PubA.mk.injEq]
  refine ⟨h1, h2, h3, ?_, ?_⟩
  · obtain ⟨hk, rfl⟩ := List.getElem?_eq_some_iff.1 he
    rw [List.map_append, h4, List.take_succ_eq_append_getElem hk, List.map_append]
    rfl
  · rw [h5]
    have hu := usedN_succ he
    simp only [Cnt.mk.injEq, true_and]
    refine ⟨?_, ?_⟩ <;> (rw [hu]; omega)

/-- both ends of the round's region. -/
theorem mount_store {X wx : World} {s : List UInt8} {n : Nat} {Dm : DataW Unit} (h : X.ownsMap Tryd.prog 9 ptrElem mf n Dm) (hn : n ≤ 1099511627776) (hs : s.length ≤ 32) (hb : Below X.heap.size X wx) (fb : Nat) :
    ∃ wA, (Instr.mapUpdate 69 (.map (some mf)) (encStr s) (ptr fb)).run Tryd.prog wx = .ok () wA ∧ wA.ownsMap Tryd.prog 9 ptrElem mf (n + 1) (Dm.put (.string s) (.lit (.int .i64 fb))) ∧ wx.grownBy wA (some mf) := by
  have h1 := ownsMap_kept h (hb.block mf h.lt)
  obtain ⟨wA, a1, a2, a3⟩ := file_store h1 hn (s := ⟨s.toArray⟩) (show s.toArray.size ≤ 32 by simpa using hs) fb
  exact ⟨wA, a1, a2, a3⟩

theorem mount_arm {wr X wx : World} {a b c : Value} {t : TypeId} (R : Rep wr lo p mf mt D) (T : Touch [] wr X) (row : X.heap[wr.heap.size]? = some (.cells #[a, b, c] t (0, 0))) (hb : Below X.heap.size X wx) :
    Touch [] wr wx ∧ wx.heap[wr.heap.size]? = some (.cells #[a, b, c] t (0, 0)) ∧ wx.cell? ⟨p, 3, none⟩ = some (.map (some mf)) ∧ wx.cell? ⟨wr.heap.size, 0, none⟩ = some a ∧ wx.cell? ⟨wr.heap.size, 1, none⟩ = some b ∧ wx.cell? ⟨wr.heap.size, 2, none⟩ = some c := by
  have hr := (hb.block _ (lt_of_block row)).trans row
  have hT : Touch [] wr wx := T.trans (Touch.of_below (F := []) hb (Nat.le_refl _)) (by simp)
  exact ⟨hT, hr, (hT.cell (p := ⟨p, 3, none⟩) (lt_of_block R.row) (by simp)).trans (R.cell 3), cell_row hr 0, cell_row hr 1, cell_row hr 2⟩

theorem mount_upd {wr wx : World} {a b c : Value} {t : TypeId} {s : List UInt8} (R : Rep wr lo p mf mt D) (T : Touch [] wr wx) (row : wx.heap[wr.heap.size]? = some (.cells #[a, b, c] t (0, 0))) (hn : D.ents.length ≤ 1099511627776) (hs : s.length ≤ 32) (fb : Nat) :
    ∃ wA, (Instr.mapUpdate 69 (.map (some mf)) (encStr s) (ptr fb)).run Tryd.prog wx = .ok () wA ∧ wA.ownsMap Tryd.prog 9 ptrElem mf (D.ents.length + 1) ((mapOf D.ents).put (.string s) (.lit (.int .i64 fb))) ∧ wx.grownBy wA (some mf) ∧
      wA.cell? ⟨p, 3, none⟩ = some (.map (some mf)) ∧ wA.cell? ⟨wr.heap.size, 0, none⟩ = some a ∧ wA.cell? ⟨wr.heap.size, 1, none⟩ = some b ∧ wA.cell? ⟨wr.heap.size, 2, none⟩ = some c := by
  have h1 := ownsMap_kept R.files (T.block mf R.files.lt (by simp))
  obtain ⟨wA, a1, a2, a3⟩ := file_store h1 hn (s := ⟨s.toArray⟩) (show s.toArray.size ≤ 32 by simpa using hs) fb
  have hl := R.files.lt
  have hr := (a3.block _ (lt_of_block row) (by simp; omega)).trans row
  have hp : wx.cell? ⟨p, 3, none⟩ = some (.map (some mf)) := (T.cell (p := ⟨p, 3, none⟩) (lt_of_block R.row) (by simp)).trans (R.cell 3)
  exact ⟨wA, a1, a2, a3, a3.cell hp (by simp [R.p_ne.2.1]), cell_row hr 0, cell_row hr 1, cell_row hr 2⟩

theorem mount_fileOf {wr X : World} {B : Nat} {s : ByteArray} {x : Bool} {sv : Value} {bs : List Nat} {blocks : List (List UInt8)} {ga : Option Addr} {gn gk : Nat} (h : BlocksAt wr B sv bs blocks) (hsv : sv = .slice ga gn gk) (T : Touch [] wr X) (hB1 : 64 ≤ B) (hB2 : B ≤ 65536) (hn : blocks.length ≤ 1099511627776) :
    Calls Tryd.prog 32 #[.agg #[.string s, .bool x, .slice ga gn gk]] X fun e w' => ∃ L : Lay, e = .returned (ptr L.fb) ∧ FileAt w' B L ⟨x, blocks⟩ ∧ (∀ b ∈ L.foot, X.heap.size ≤ b) ∧ L.foot.Nodup ∧ Below X.heap.size X w' := by
  rw [← hsv]
  exact fileOf_any (h.kept fun b hb => T.block b (by rcases hb with h' | h'; exact h.lt.1 b h'; exact h.lt.2 b h') (by simp)) hB1 hB2 hn

set_option maxRecDepth 100000 in
set_option maxHeartbeats 1000000 in
theorem Mount_ok {n B : Nat} {Bs : Int} {fv : Value} {l : List SFile} (h : StateAt w n B fv l) (hg : GoodL l) (h1 : 64 ≤ B) (h2 : B ≤ 65536) (h3 : (B : Int) % 32 = 0) (h4 : 0 ≤ Bs) (h5 : Bs ≤ 1099511627776) (hu : (usedN l l.length : Int) ≤ Bs) :
    Calls Tryd.prog 9 #[.agg #[.int .i64 B, fv], .agg #[.int .i64 B, .int .i64 Bs, .slice none 0 0]] w fun e w' => ∃ p mf mt D, e = .returned (.tuple #[ptr p, .int .i64 0]) ∧ Rep w' w.heap.size p mf mt D ∧ D.pub = mountA B Bs l l.length ∧ D.T = .map [] ∧ Below w.heap.size w w' := by
  have hfs : ∃ fa fc, fv = .slice fa l.length fc := by
    rcases h.own.2 with ⟨e, h0⟩ | ⟨g, cap, _, e, _⟩
    · exact ⟨none, 0, by rw [e, h0]⟩
    · exact ⟨_, cap, e⟩
  obtain ⟨fa, fc, hfv⟩ := hfs
  obtain ⟨W, hW⟩ : ∃ W, W = (w.alloc (.cells #[.int .i64 B, .slice fa l.length fc] 43)).alloc (.cells #[.int .i64 B, .int .i64 Bs, .slice none 0 0] 29) := ⟨_, rfl⟩
  have hW1 := heap_two w (.cells #[.int .i64 B, .slice fa l.length fc] 43) (.cells #[.int .i64 B, .int .i64 Bs, .slice none 0 0] 29)
  rw [← hW] at hW1
  have hTW : Below w.heap.size w W := by rw [hW]; exact ((Below.refl _ w).alloc (Nat.le_refl _) _).alloc (by simp) _
  have hSW : StateAt W n B fv l := h.kept fun b _ hb => hTW.block b hb
  have HC := hid (checkMount_ok hSW hg h1 h2 h3 h4 h5 hu)
  rw [hfv] at HC
  have HS := hid h
  have HG := hid hg
  have HFV := hid hfv
  rw [hfv]
  have HE := hid hW
  have HW := hid hW1
  have HTW := hid hTW
  clear h hg hu hfv h3 hW hW1 hTW hSW
  go_enter Tryd.func9, Tryd.ntmps9
  go_wp2_with fail
  rw [← HE.out]
  refine HC.out.mono ?_
  rintro e w0 ⟨rfl, hb0⟩
  have r1 : w0.heap[w.heap.size]? = _ := (hb0.block _ (lt_of_block HW.out.1)).trans HW.out.1
  have r2 : w0.heap[w.heap.size + 1]? = _ := (hb0.block _ (lt_of_block HW.out.2)).trans HW.out.2
  have b0 := cell_row r2 0
  have b1 := cell_row r2 1
  have b2 := cell_row r2 2
  simp at b0 b1 b2
  have hbw : Below w.heap.size w w0 := HTW.out.trans (hb0.mono HTW.out.size)
  have HR1 := hid r1
  have HBW := hid hbw
  have lz : w.heap.size + 1 < w0.heap.size := lt_of_block r2
  clear r1 r2 hb0 hbw
  go_wp2_with fail
  refine (empty_any _).mono ?_
  rintro e w1 ⟨p, mf, mt, rfl, hR1, hb1⟩
  have q1 : w1.heap[w.heap.size]? = _ := (hb1.block _ (lt_of_block HR1.out)).trans HR1.out
  have c1 := cell_row q1 1
  simp at c1
  have HI : Hid (MInv w0 w1 p mf mt B Bs l 0 (.new B Bs)) := ⟨hR1, rfl, rfl, hb1⟩
  clear hR1 hb1 q1
  go_wp2
  go_loopw [22] (fun i wr => ∃ (k : Nat) (D : DiskC), k ≤ l.length ∧ i = .int .i64 k ∧ MInv w0 wr p mf mt B Bs l k D) (fun i _ => l.length - (intOf i).toNat)
  case atStart => exact ⟨0, _, Nat.zero_le _, rfl, HI.out⟩
  case round =>
    obtain ⟨k, D, hk, rfl, hinv⟩ := hrel
    have hfew := HG.out.few
    have hsz : w0.heap.size ≤ wr.heap.size := hinv.below.size
    by_cases hlt : k < l.length
    · obtain ⟨e0, he0⟩ : ∃ e0, l[k]? = some e0 := ⟨l[k], List.getElem?_eq_getElem hlt⟩
      obtain ⟨G, gc, hG⟩ := HS.out.slice1 (by omega)
      rw [HFV.out] at hG
      simp only [Value.slice.injEq, true_and] at hG
      obtain ⟨rfl, rfl⟩ := hG
      have hbwr : Below w.heap.size w wr := HBW.out.trans (hinv.below.mono HBW.out.size)
      obtain ⟨f0, f1, f2, hbl, lG⟩ := HS.out.file he0 hbwr HFV.out
      have hone := HG.out.one he0
      have hnm : e0.name.length ≤ 32 := by
        have := name_size (HG.out.names e0 (List.mem_of_getElem? he0))
        simpa using (show e0.name.toArray.size ≤ 32 from this)
      obtain ⟨ga, gn, gk, hsv⟩ := hbl.own_slice
      have hgn : gn = e0.file.blocks.length := by
        rcases hbl.own.2 with ⟨h, h'⟩ | ⟨g, cap, _, h, _⟩
        · rw [hsv] at h; simp at h; omega
        · rw [hsv] at h; simp at h; exact h.2.1
      subst hgn
      have k3 := hinv.rep.cell 3
      simp only [dRow] at k3
      have lp := lt_of_block hinv.rep.row
      rw [hsv] at f2
      have HBL := hid hbl
      have HSV := hid hsv
      have HI := hid hinv
      have HE0 := hid he0
      have hents : D.ents.length ≤ 1099511627776 := by
        have := congrArg (fun A : PubA => A.files.length) hinv.pub
        simp only [DiskC.pub, mountA, List.length_map, List.length_take] at this
        omega
      have hBe : D.B = B := congrArg PubA.B hinv.pub
      have hus : D.c.used = usedN l k := congrArg (fun A : PubA => A.c.used) hinv.pub
      have hule := usedN_le l k
      have hgbl := HG.out.blocks
      obtain ⟨T0, row0⟩ : Touch [] wr (wr.alloc (.cells #[encStr e0.name, .bool e0.file.shut, .slice ga e0.file.blocks.length gk] 75)).drew ∧ (wr.alloc (.cells #[encStr e0.name, .bool e0.file.shut, .slice ga e0.file.blocks.length gk] 75)).drew.heap[wr.heap.size]? = some (.cells #[encStr e0.name, .bool e0.file.shut, .slice ga e0.file.blocks.length gk] 75 (0, 0)) := ⟨((Touch.refl [] wr).alloc _).drew, heap_alloc_new wr _⟩
      have HT0 := hid T0
      have HRW0 := hid row0
      have hu1 : 0 ≤ D.c.used := by omega
      have hu2 : D.c.used ≤ 1099511627776 := by omega
      clear hbl hsv hinv he0 hbwr T0 row0 hus hBe
      go_wp2
      go_region_held3 (fun V => V.cell? ⟨p, 3, none⟩ = some (.map (some mf)) ∧ V.cell? ⟨wr.heap.size, 0, none⟩ = some (encStr e0.name) ∧ V.cell? ⟨wr.heap.size, 1, none⟩ = some (.bool e0.file.shut) ∧ V.cell? ⟨wr.heap.size, 2, none⟩ = some (.slice ga e0.file.blocks.length gk)) (go_keep)
        (first
          | (go_at_call 33; refine (ownName_any ⟨e0.name.toArray⟩ _ ?_).mono ?_; exact Nat.le_trans (show e0.name.toArray.size ≤ 32 by simpa using hnm) (by omega); rintro e w3 ⟨rfl, hb3⟩; obtain ⟨T3, row3, x0, x1, x2, x3⟩ := mount_arm HI.out.rep HT0.out HRW0.out hb3; have HT3 := hid T3; have HRW3 := hid row3; clear hb3 T3 row3)
          | (go_at_call 32; refine (mount_fileOf HBL.out HSV.out HT3.out h1 h2 hone).mono ?_; rintro e w4 ⟨L, rfl, hat, hfr, hnd, hb4⟩; obtain ⟨T4, row4, y0, y1, y2, y3⟩ := mount_arm HI.out.rep HT3.out HRW3.out hb4; obtain ⟨wA, hA, mA, gA, z0, z1, z2, z3⟩ := mount_upd HI.out.rep T4 row4 hents hnm L.fb; have HT4 := hid T4; have HRW4 := hid row4; have HAT4 := hid hat; have HFR := hid hfr; have HND := hid hnd; have HMA := hid mA; have HGA := hid gA; have HS3 := hid HT3.out.size; clear hb4 T4 row4 mA gA hat hfr hnd))
      have hnx := mount_next HI.out HG.out HE0.out hsz HT4.out HAT4.out (fun b hb => Nat.le_trans HS3.out (HFR.out b hb)) HND.out HMA.out rfl HGA.out
      have HNX := hid hnx
      have HSA : Hid (w0.heap.size ≤ wA.heap.size) := Nat.le_trans hsz (Nat.le_trans HT4.out.size HGA.out.size)
      clear hnx
      go_wp2_with (go_at_call 34; refine (use_any HNX.out.1 _ hu1 hu2 (by omega) (by omega)).mono ?_; rintro e w5 ⟨rfl, hR5, ht5⟩; have HM := hid (mount_use HI.out HE0.out hR5 HNX.out.2 ht5 HSA.out); clear hR5 ht5)
      go_roundw
      case rel => first | exact ⟨k + 1, _, by omega, by go_num, HM.out⟩ | ((repeat apply Exists.intro); exact ⟨⟨k + 1, _, by omega, by go_num, HM.out⟩, rfl⟩)
      case measure => simp [intOf]; omega
    · have hkk : k = l.length := by omega
      subst hkk
      have HI := hid hinv
      clear hinv
      go_wp2
      go_ret2
      have hz := HBW.out.size
      exact ⟨p, mf, mt, D, rfl, HI.out.rep.lower hz, HI.out.pub, HI.out.still, HBW.out.trans (HI.out.below.mono hz)⟩
end
end Go.Proofs.YtcpncfngadablaaDoor
namespace Go.Proofs.YtcpncfngadablaaDoor
open Go.RowKit Go.Deep

/-- an operation of a script. -/
structure OpA where
  kind : Int
  name : ByteArray
  N : Int
  bit : Int
  data : List UInt8

def stepA (o : OpA) (A : PubA) : ToldA × PubA :=
  if o.kind = 1 then (.err (createA o.name A).1, (createA o.name A).2)
  else if o.kind = 2 then (.err (appendA o.name (dataA o.N A.B o.data) A).1, (appendA o.name (dataA o.N A.B o.data) A).2)
  else if o.kind = 3 then (.err (sealA o.name A).1, (sealA o.name A).2)
  else if o.kind = 4 then (⟨(readA o.name o.N A).2.1, 0, false, (readA o.name o.N A).1.getD [], [], cnt0⟩, (readA o.name o.N A).2.2)
  else if o.kind = 5 then (.err (deleteA o.name A).1, (deleteA o.name A).2)
  else if o.kind = 6 then (⟨(lengthA o.name A).2.2, (lengthA o.name A).1, (lengthA o.name A).2.1, [], [], cnt0⟩, A)
  else if o.kind = 7 then (⟨0, 0, false, [], A.files.map Prod.fst, cnt0⟩, A)
  else if o.kind = 8 then (⟨0, 0, false, [], [], A.c⟩, A)
  else if o.kind = 9 then (.err (spoilA o.name o.N o.bit A).1, (spoilA o.name o.N o.bit A).2)
  else (.err 0, A)

section
variable {w w' : World} {E : Nat → Addr} {lo p mf mt : Nat} {D : DiskC}

theorem program_any (V : Env w lo E) (R : Rep w lo p mf mt D) (hT : D.T = .map []) (ho : D.on = true) (hS : Small D.pub) (hcc : D.c.calls + 1 ≤ 1099511627776) (o : OpA) {sa : Option Addr} {n c : Nat} (hd : Shows w sa n c o.data) (hn : n ≤ 1073741824) :
    Calls Tryd.prog 7 #[ptr p, opV o.kind o.name o.N o.bit sa n c, .int .i64 D.B] w fun e w' => ∃ v, e = .returned (.tuple #[v, .bool true]) ∧ ToldAt w' w.heap.size (stepA o D.pub).1 v ∧ Did w w' lo p mf mt D (stepA o D.pub).2 := by
  obtain ⟨k, s, N, bit, d⟩ := o
  unfold stepA
  simp only
  by_cases h1 : k = 1
  · subst h1
    exact program_1 V R hT ho hS hcc s N bit sa n c
  rw [if_neg h1, ]
  by_cases h2 : k = 2
  · subst h2
    exact program_2 V R hT ho hS hcc s N bit hd hn
  rw [if_neg h2]
  by_cases h3 : k = 3
  · subst h3
    exact program_3 V R hT ho hS hcc s N bit sa n c
  rw [if_neg h3]
  by_cases h4 : k = 4
  · subst h4
    exact program_4 V R hT ho hS s N bit sa n c
  rw [if_neg h4]
  by_cases h5 : k = 5
  · subst h5
    exact program_5 V R hT ho hS hcc s N bit sa n c
  rw [if_neg h5]
  by_cases h6 : k = 6
  · subst h6
    exact program_6 V R hT ho s N bit sa n c
  rw [if_neg h6]
  by_cases h7 : k = 7
  · subst h7
    have h := program_7 R hT ho hS s N bit sa n c
    have e : D.pub.files.map Prod.fst = D.ents.map Ent.name := by simp [DiskC.pub, Ent.pub]
    rw [if_pos rfl, e]
    exact h
  rw [if_neg h7]
  by_cases h8 : k = 8
  · subst h8
    exact program_8 R hT s N bit sa n c
  rw [if_neg h8]
  by_cases h9 : k = 9
  · subst h9
    exact program_9 V R hT ho hS hcc s N bit sa n c
  rw [if_neg h9]
  exact program_0 R hT k (by simpa using h1) (by simpa using h2) (by simpa using h3) (by simpa using h4) (by simpa using h5) (by simpa using h6) (by simpa using h7) (by simpa using h8) (by simpa using h9) s N bit sa n c
end

/-- two disks that hold the same; the first has been called before. -/
structure Like (x : Cnt) (A C : PubA) : Prop where
  B : A.B = C.B
  Bs : A.Bs = C.Bs
  on : A.on = C.on
  files : A.files = C.files
  used : A.c.used = C.c.used
  calls : A.c.calls - x.calls = C.c.calls
  reads : A.c.reads - x.reads = C.c.reads
  appends : A.c.appends - x.appends = C.c.appends

theorem Like.create {x : Cnt} {A C : PubA} (h : Like x A C) (s : ByteArray) : (createA s A).1 = (createA s C).1 ∧ Like x (createA s A).2 (createA s C).2 := by
  have h0 := h
  obtain ⟨h1, h2, h3, h4, h5, h6, h7, h8⟩ := h
  unfold createA
  rw [← h4]
  repeat' split
  all_goals first | exact ⟨rfl, h0⟩ | exact ⟨rfl, by constructor <;> first | rfl | assumption | (simp only []; omega) | (simp; omega)⟩

theorem Like.seal {x : Cnt} {A C : PubA} (h : Like x A C) (s : ByteArray) : (sealA s A).1 = (sealA s C).1 ∧ Like x (sealA s A).2 (sealA s C).2 := by
  have h0 := h
  obtain ⟨h1, h2, h3, h4, h5, h6, h7, h8⟩ := h
  unfold sealA
  rw [← h4]
  repeat' split
  all_goals first | exact ⟨rfl, h0⟩ | exact ⟨rfl, by constructor <;> first | rfl | assumption | (simp only []; omega) | (simp; omega)⟩

theorem Like.delete {x : Cnt} {A C : PubA} (h : Like x A C) (s : ByteArray) : (deleteA s A).1 = (deleteA s C).1 ∧ Like x (deleteA s A).2 (deleteA s C).2 := by
  have h0 := h
  obtain ⟨h1, h2, h3, h4, h5, h6, h7, h8⟩ := h
  unfold deleteA
  rw [← h4]
  repeat' split
  all_goals first | exact ⟨rfl, h0⟩ | exact ⟨rfl, by constructor <;> first | rfl | assumption | (simp only []; omega) | (simp; omega)⟩

theorem Like.append {x : Cnt} {A C : PubA} (h : Like x A C) (s : ByteArray) (bl : List UInt8) : (appendA s bl A).1 = (appendA s bl C).1 ∧ Like x (appendA s bl A).2 (appendA s bl C).2 := by
  have h0 := h
  obtain ⟨h1, h2, h3, h4, h5, h6, h7, h8⟩ := h
  unfold appendA
  rw [← h4, ← h1, ← h2, ← h5]
  repeat' split
  all_goals first | exact ⟨rfl, h0⟩ | exact ⟨rfl, by constructor <;> first | rfl | assumption | (simp only []; omega) | (simp; omega)⟩

theorem Like.spoil {x : Cnt} {A C : PubA} (h : Like x A C) (s : ByteArray) (i bit : Int) : (spoilA s i bit A).1 = (spoilA s i bit C).1 ∧ Like x (spoilA s i bit A).2 (spoilA s i bit C).2 := by
  have h0 := h
  obtain ⟨h1, h2, h3, h4, h5, h6, h7, h8⟩ := h
  unfold spoilA
  rw [← h4, ← h1]
  repeat' split
  all_goals first | exact ⟨rfl, h0⟩ | exact ⟨rfl, by constructor <;> first | rfl | assumption | (simp only []; omega) | (simp; omega)⟩

theorem Like.read {x : Cnt} {A C : PubA} (h : Like x A C) (s : ByteArray) (i : Int) : (readA s i A).1 = (readA s i C).1 ∧ (readA s i A).2.1 = (readA s i C).2.1 ∧ Like x (readA s i A).2.2 (readA s i C).2.2 := by
  have h0 := h
  obtain ⟨h1, h2, h3, h4, h5, h6, h7, h8⟩ := h
  unfold readA
  rw [← h4]
  repeat' split
  all_goals first | exact ⟨rfl, rfl, h0⟩ | exact ⟨rfl, rfl, by constructor <;> first | rfl | assumption | (simp only []; omega) | (simp; omega)⟩

theorem Like.length {x : Cnt} {A C : PubA} (h : Like x A C) (s : ByteArray) : lengthA s A = lengthA s C := by
  unfold lengthA
  rw [h.files]

theorem Like.step {x : Cnt} {A C : PubA} (h : Like x A C) (o : OpA) (ho : o.kind ≠ 8) : (stepA o A).1 = (stepA o C).1 ∧ Like x (stepA o A).2 (stepA o C).2 := by
  unfold stepA
  rw [if_neg ho, if_neg ho]
  by_cases h1 : o.kind = 1
  · rw [if_pos h1, if_pos h1]
    exact ⟨by rw [(h.create o.name).1], (h.create o.name).2⟩
  rw [if_neg h1, if_neg h1]
  by_cases h2 : o.kind = 2
  · rw [if_pos h2, if_pos h2, ← h.B]
    exact ⟨by rw [(h.append o.name _).1], (h.append o.name _).2⟩
  rw [if_neg h2, if_neg h2]
  by_cases h3 : o.kind = 3
  · rw [if_pos h3, if_pos h3]
    exact ⟨by rw [(h.seal o.name).1], (h.seal o.name).2⟩
  rw [if_neg h3, if_neg h3]
  by_cases h4 : o.kind = 4
  · rw [if_pos h4, if_pos h4]
    obtain ⟨e1, e2, e3⟩ := h.read o.name o.N
    exact ⟨by rw [e1, e2], e3⟩
  rw [if_neg h4, if_neg h4]
  by_cases h5 : o.kind = 5
  · rw [if_pos h5, if_pos h5]
    exact ⟨by rw [(h.delete o.name).1], (h.delete o.name).2⟩
  rw [if_neg h5, if_neg h5]
  by_cases h6 : o.kind = 6
  · rw [if_pos h6, if_pos h6]
    exact ⟨by rw [h.length], h⟩
  rw [if_neg h6, if_neg h6]
  by_cases h7 : o.kind = 7
  · rw [if_pos h7, if_pos h7]
    exact ⟨by rw [h.files], h⟩
  rw [if_neg h7, if_neg h7]
  by_cases h9 : o.kind = 9
  · rw [if_pos h9, if_pos h9]
    exact ⟨by rw [(h.spoil o.name o.N o.bit).1], (h.spoil o.name o.N o.bit).2⟩
  rw [if_neg h9, if_neg h9]
  exact ⟨rfl, h⟩
end Go.Proofs.YtcpncfngadablaaDoor
