import Derived.Test.YtcpncfngadablaaDoorC5
namespace Go.Proofs.YtcpncfngadablaaDoor
open Go.RowKit Go.Deep

section
variable {w w' : World} {E : Nat → Addr} {lo p mf mt : Nat} {D : DiskC}

theorem StateAt.kept {w w' : World} {n B : Nat} {fv : Value} {l : List SFile} (h : StateAt w n B fv l) (hk : ∀ b, n ≤ b → b < w.heap.size → w'.heap[b]? = w.heap[b]?) : StateAt w' n B fv l := by
  refine ⟨⟨h.own.1, ?_⟩, fun e he => (h.each e he).kept fun b hb => ?_, h.from_⟩
  · rcases h.own.2 with hn | ⟨g, cap, cur, hv, hb, hg, rest⟩
    · exact .inl hn
    · exact .inr ⟨g, cap, cur, hv, hb, (hk g hb (lt_of_block hg)).trans hg, rest⟩
  · rcases hb with h' | h'
    · exact hk b ((h.from_ e he).1 b h') ((h.each e he).lt.1 b h')
    · exact hk b ((h.from_ e he).2.1 b h') ((h.each e he).lt.2 b h')

/-- what a round of State's loop needs of memory. -/
theorem state_facts {N sb : Nat} {wr : World} {fv : Value} {l : List SFile} {x : Value} (R : Rep wr lo p mf mt D) (hS : StateAt wr N D.B fv l) (hsb : wr.heap[sb]? = some (.cells #[x, fv] 43 (0, 0))) (hN : sb < N) (hN2 : N ≤ wr.heap.size) (k : Nat) (hk : l.length = k) :
    ∀ w2, Below wr.drew.heap.size wr.drew w2 → w2.cell? ⟨sb, 1, none⟩ = some fv ∧ w2.cell? ⟨p, 3, none⟩ = some (.map (some mf)) ∧ (sb < w2.heap.size ∧ p < w2.heap.size) ∧
      Hid (∀ o, (w2.alloc o).ownsRow N 75 3 fv k (l.flatMap SFile.cells) ∧ N ≤ (w2.alloc o).heap.size ∧ ∀ w3, (w2.alloc o).grownBy w3 fv.ownBlock → w3.heap[sb]? = some (.cells #[x, fv] 43 (0, 0))) := by
  intro w2 hb
  have hs : wr.heap.size ≤ w2.heap.size := hb.size
  have hsb2 : w2.heap[sb]? = some (.cells #[x, fv] 43 (0, 0)) := (hb.block sb (lt_of_block (w := wr) hsb)).trans hsb
  have hp2 : w2.cell? ⟨p, 3, none⟩ = some (.map (some mf)) := (hb.cell (p := ⟨p, 3, none⟩) (lt_of_block (w := wr) R.row)).trans (R.cell 3)
  refine ⟨cell_row hsb2 1, hp2, ⟨lt_of_block hsb2, Nat.lt_of_lt_of_le (lt_of_block R.row) hs⟩, fun o => ⟨?_, by simp; omega, fun w3 hg => ?_⟩⟩
  · have h := hS.own
    rw [hk] at h
    refine ⟨h.1, ?_⟩
    rcases h.2 with hn | ⟨g, cap, cur, hv, hb', hg, rest⟩
    · exact .inl hn
    · have hlt := lt_of_block hg
      exact .inr ⟨g, cap, cur, hv, hb', (Below.heap_alloc _ _ g (by omega)).trans ((hb.block g hlt).trans hg), rest⟩
  · have hne : some sb ≠ fv.ownBlock := fun e => by
      have := (hS.own.lt sb e.symm).1
      omega
    rw [hg.block sb (by have := lt_of_block hsb2; simp; omega) hne, Below.heap_alloc _ _ _ (lt_of_block hsb2)]
    exact hsb2

/-- State's loop, k files told. -/
structure StInv (w1 wr : World) (sb : Nat) (D : DiskC) (k : Nat) (fv : Value) (l : List SFile) : Prop where
  touch : Touch [sb] w1 wr
  box : wr.heap[sb]? = some (.cells #[.int .i64 D.B, fv] 43 (0, 0))
  files : StateAt wr w1.heap.size D.B fv l
  pubs : l.map SFile.pub = (D.ents.take k).map Ent.pub

theorem StInv.len {w1 wr : World} {sb k : Nat} {fv : Value} {l : List SFile} (h : StInv w1 wr sb D k fv l) (hk : k ≤ D.ents.length) : l.length = k := by
  have := congrArg List.length h.pubs
  simp at this
  omega

theorem StInv.next {w1 wr w2 w3 : World} {sb k g cap : Nat} {fv sv' : Value} {l : List SFile} {e0 : Ent} {bs' : List Nat} {o : Obj} {ga : Option Addr} {gn gc : Nat} (h : StInv w1 wr sb D k fv l) (hk : k ≤ D.ents.length) (he : D.ents[k]? = some e0) (hsb : sb < w1.heap.size) (hb2 : BlocksAt w2 D.B sv' bs' e0.file.blocks) (hf2 : FreshB wr.drew.heap.size sv' bs') (ht2 : Below wr.drew.heap.size wr.drew w2)
    (hsv : sv' = .slice ga gn gc) (h1 : w3.ownsRow w1.heap.size 75 3 (.slice (some ⟨g, 0, none⟩) (k + 1) cap) (k + 1) (l.flatMap SFile.cells ++ [encStr e0.name, .bool e0.file.shut, .slice ga gn gc])) (h2 : (w2.alloc o).grownBy w3 fv.ownBlock) (h3 : w3.heap[sb]? = some (.cells #[.int .i64 D.B, fv] 43 (0, 0))) :
    StInv w1 (w3.setCell ⟨sb, 1, none⟩ (.slice (some ⟨g, 0, none⟩) (k + 1) cap)) sb D (k + 1) (.slice (some ⟨g, 0, none⟩) (k + 1) cap) (l ++ [⟨e0.name, e0.file, sv', bs'⟩]) := by
  have hl := h.len hk
  subst hsv
  have hsz := h.touch.size
  have hs := h.files.snoc (e := ⟨e0.name, e0.file, .slice ga gn gc, bs'⟩) hsz (⟨ht2.os, ht2.tape, ht2.output, ht2.size, ht2.block⟩ : Below wr.heap.size wr w2) hb2 hf2 (by rw [hl]; exact h1) h2
  refine ⟨?_, ?_, ?_, ?_⟩
  · have t : Touch [sb] w1 w3 := ⟨hs.2.os.trans h.touch.os, hs.2.tape.trans h.touch.tape, hs.2.output.trans h.touch.output, by have := hs.2.size; omega, fun b hb hbn => (hs.2.block b hb).trans (h.touch.block b hb hbn)⟩
    exact t.setCell (by simp) _
  · rw [heap_setCell_row h3 1]
    rfl
  · refine hs.1.kept fun b hb _ => Below.heap_setCell _ _ _ _ (by show b ≠ sb; omega)
  · rw [List.map_append, h.pubs, List.take_succ_eq_append_getElem (by have := (List.getElem?_eq_some_iff.1 he).1; omega), List.map_append]
    have : D.ents[k]'((List.getElem?_eq_some_iff.1 he).1) = e0 := (List.getElem?_eq_some_iff.1 he).2
    simp [this, SFile.pub, Ent.pub]

theorem state_fin {W w1 wr : World} {k : Nat} {fv : Value} {l : List SFile} (h : StInv w1 wr (w.heap.size + 1) D k fv l) (hz1 : W.heap.size ≤ w1.heap.size) (hzW : w.heap.size + 1 < W.heap.size) (hW : W.heap[w.heap.size]? = some (.cells #[.int .i64 0, .slice none 0 0] 43)) (hTW : Touch [] w W) (hB : Below W.heap.size W w1) (hk : k = D.ents.length) :
    wr.heap[w.heap.size]? = some (.cells #[.int .i64 0, .slice none 0 0] 43) ∧ ∀ x y : Value, StateAt ((wr.setCell ⟨w.heap.size, 0, none⟩ x).setCell ⟨w.heap.size, 1, none⟩ y) w.heap.size D.B fv l ∧ l.map SFile.pub = D.ents.map Ent.pub ∧ Below w.heap.size w ((wr.setCell ⟨w.heap.size, 0, none⟩ x).setCell ⟨w.heap.size, 1, none⟩ y) := by
  have hbw : Below w.heap.size w wr := ((hTW.below (Nat.le_refl _) (by simp)).trans (hB.mono hTW.size)).trans (h.touch.below (by have := hTW.size; omega) (by simp))
  refine ⟨?_, fun x y => ⟨?_, ?_, (hbw.setCell (Nat.le_refl _) _).setCell (Nat.le_refl _) _⟩⟩
  · rw [h.touch.block _ (by omega) (by simp), hB.block _ (by omega)]
    exact hW
  · have hs : StateAt ((wr.setCell ⟨w.heap.size, 0, none⟩ x).setCell ⟨w.heap.size, 1, none⟩ y) w1.heap.size D.B fv l := h.files.kept fun b hb _ => by
      have hbn : b ≠ w.heap.size := by omega
      rw [Below.heap_setCell _ _ _ _ hbn, Below.heap_setCell _ _ _ _ hbn]
    refine ⟨⟨hs.own.1, ?_⟩, hs.each, fun e he => (hs.from_ e he).mono (by omega)⟩
    rcases hs.own.2 with hn | ⟨g, cap, cur, hv, hb, rest⟩
    · exact .inl hn
    · exact .inr ⟨g, cap, cur, hv, by omega, rest⟩
  · rw [h.pubs, hk, List.take_length]

set_option maxRecDepth 100000 in
set_option maxHeartbeats 1000000 in
theorem State_any (R : Rep w lo p mf mt D) (hS : Small D.pub) :
    Calls Tryd.prog 8 #[ptr p] w fun e w' => ∃ fv l, e = .returned (.agg #[.int .i64 D.B, fv]) ∧ StateAt w' w.heap.size D.B fv l ∧ l.map SFile.pub = D.ents.map Ent.pub ∧ Below w.heap.size w w' := by
  obtain ⟨W, hW⟩ : ∃ W, W = (w.alloc (.cells #[.int .i64 0, .slice none 0 0] 43)).alloc (.cells #[.int .i64 D.B, .slice none 0 0] 43) := ⟨_, rfl⟩
  have hW1 : W.heap[w.heap.size]? = some (.cells #[.int .i64 0, .slice none 0 0] 43) ∧ W.heap[w.heap.size + 1]? = some (.cells #[.int .i64 D.B, .slice none 0 0] 43) := by rw [hW]; exact heap_two w _ _
  have hTW : Touch [] w W := by rw [hW]; exact ((Touch.refl [] w).alloc _).alloc _
  have RW := R.touch hTW (by simp)
  have hfl : D.ents.length ≤ 1099511627776 := by have := hS.files; simpa [DiskC.pub] using this
  have HRI := hid (rising_any RW hfl)
  have hB := hS.size
  simp only [DiskC.pub] at hB
  obtain ⟨hB1, hB2⟩ := hB
  have k0 := R.cell 0
  simp only [dRow] at k0
  have hp := lt_of_block R.row
  have HE := hid hW
  have HW := hid hW1
  have HTW := hid hTW
  have HR := hid RW
  have HSM := hid hS
  have HNF := hid (show w.heap.size + 1 ∉ D.foot p mf mt from fun h => by have := R.lt _ h; omega)
  clear R RW hW hW1 hTW hS
  go_enter Tryd.func8, Tryd.ntmps8
  go_wp2_with fail
  rw [← HE.out]
  refine HRI.out.mono ?_
  rintro e w1 ⟨v, rfl, hrow, hnil, hb1⟩
  rcases hrow.2 with ⟨hv, h2⟩ | ⟨G, gc, _, hv, _⟩
  · rw [hv]
    have hD : D.ents = [] := List.eq_nil_of_length_eq_zero h2
    have hinv : StInv w1 w1 (w.heap.size + 1) D D.ents.length (.slice none 0 0) [] := ⟨Touch.refl _ _, (hb1.block _ (lt_of_block HW.out.2)).trans HW.out.2, ⟨World.ownsRow_nil _ _ _ _, by simp, by simp⟩, by rw [hD]; rfl⟩
    have hfin := hid (state_fin hinv hb1.size (lt_of_block HW.out.2) HW.out.1 HTW.out hb1 rfl)
    have c0 := cell_row hinv.box 0
    have c1 := cell_row hinv.box 1
    have hr := hfin.out.1
    have r0 := cell_row hr 0
    have r1 := cell_row hr 1
    have f0 := unfrozen_row hr 0
    have f1 := unfrozen_row hr 1
    simp at r0 r1 c0 c1
    clear hinv hr hrow hnil hb1 hv hD h2
    go_wp2
    refine wp_loop_rounds 1 ?_
    rw [rounds_succ]
    go_wp2
    refine bodyPost_ret (v := .agg #[.int .i64 D.B, .slice none 0 0]) (by simp [results, Tryd.results8, go_sem, r0, r1]) rfl ?_
    exact ⟨.slice none 0 0, [], rfl, (hfin.out.2 _ _).1, (hfin.out.2 (.int .i64 D.B) (.slice none 0 0)).2.1, (hfin.out.2 _ _).2.2⟩
  · rw [hv]
    have HROW := hid hrow
    have HV := hid hv
    have HB1 := hid hb1
    clear hrow hnil hb1 hv
    go_wp2
    go_loopw [14] (fun i wr => ∃ (k : Nat) (fv : Value) (l : List SFile), k ≤ D.ents.length ∧ i = .int .i64 k ∧ StInv w1 wr (w.heap.size + 1) D k fv l) (fun i _ => D.ents.length - (intOf i).toNat)
    case atStart => exact ⟨0, .slice none 0 0, [], Nat.zero_le _, rfl, Touch.refl _ _, (HB1.out.block _ (lt_of_block HW.out.2)).trans HW.out.2, ⟨World.ownsRow_nil _ _ _ _, by simp, by simp⟩, rfl⟩
    case round =>
      obtain ⟨k, fv, l, hk, rfl, hinv⟩ := hrel
      have hz1 : W.heap.size ≤ w1.heap.size := HB1.out.size
      have hzW : w.heap.size + 1 < W.heap.size := lt_of_block HW.out.2
      have R1 : Rep w1 lo p mf mt D := HR.out.touch (F := []) (Touch.of_below HB1.out (Nat.le_refl _)) (by simp)
      have Rr : Rep wr lo p mf mt D := R1.touch hinv.touch (fun b hb => by
        have h1 := HR.out.lt b hb
        have h2 : b < w.heap.size ∨ w.heap.size ≤ b := by omega
        simp
        intro e
        subst e
        exact HNF.out hb)
      by_cases hlt : k < D.ents.length
      · obtain ⟨e0, he0⟩ : ∃ e0, D.ents[k]? = some e0 := ⟨D.ents[k], List.getElem?_eq_getElem hlt⟩
        have hm : e0 ∈ D.ents := List.mem_of_getElem? he0
        have hrow0 := HROW.out
        have hGb : W.heap.size ≤ G ∧ G < w1.heap.size := hrow0.lt G (by rw [HV.out]; rfl)
        have cG : wr.cell? ⟨G, k, none⟩ = some (encStr e0.name) := by
          have h1 := hrow0.cells (g := G) (by rw [HV.out]; rfl) k (encStr e0.name) (by simp [he0])
          have hadd : (⟨G, 0, none⟩ : Addr).add k = ⟨G, k, none⟩ := by unfold Addr.add; split <;> simp_all
          rw [hadd] at h1
          exact (hinv.touch.cell (p := ⟨G, k, none⟩) hGb.2 (by simp; omega)).trans h1
        have hlk := (Quiet.rep (w' := wr.drew) ⟨1, rfl⟩ Rr).look1 hm
        have kp := Rr.cell 3
        simp only [dRow] at kp
        have hat := (Quiet.rep (w' := wr.drew) ⟨1, rfl⟩ Rr).each e0 hm
        have hbn : e0.file.blocks.length ≤ 1099511627776 := HSM.out.blocks e0.pub (List.mem_map.2 ⟨e0, hm, rfl⟩)
        have HTD := hid (told_any hat ⟨e0.name.toArray⟩ hB1 hB2 hbn)
        have hll := hinv.len hk
        have hsz : w1.heap.size ≤ wr.heap.size := hinv.touch.size
        have HFA := hid (state_facts Rr hinv.files hinv.box (by omega) hsz k hll)
        have cb := cell_row hinv.box 1
        simp at cb
        have lb := lt_of_block hinv.box
        have lp := lt_of_block Rr.row
        have HI := hid hinv
        have HE0 := hid he0
        have HM := hid hm
        clear hinv he0 hm hrow0 hat Rr R1 hll
        go_wp2
        go_region_law (first
          | (refine step_append_file rfl _ _ rfl w1.heap.size fv k (l.flatMap SFile.cells) w2.heap.size (encStr e0.name) (.bool e0.file.shut) (.slice ga gn gcc) rfl rfl (ho2.out _).1 (heap_alloc_new w2 _) rfl rfl rfl (by omega) (ho2.out _).2.1 (fun g cap w3 r1 r2 => ?_); have q3 := (ho2.out _).2.2 w3 r2; have z3 := cell_row q3 1; have f3 := unfrozen_row q3 1; simp at z3; have H1 := hid r1; have H2 := hid r2; have HQ3 := hid q3; clear r1 r2 q3)
          | (go_simp; go_at_call 30; refine HTD.out.mono ?_; rintro e w2 ⟨sv', bs', rfl, hb2, hf2, ht2⟩; obtain ⟨ga, gn, gcc, hsv'⟩ := hb2.own_slice; obtain ⟨y1, y2, ⟨l1, l2⟩, ho2⟩ := HFA.out w2 ht2; have HB2 := hid hb2; have HF2 := hid hf2; have HT2 := hid ht2; clear hb2 hf2 ht2))
        all_goals
          have HN := hid (StInv.next HI.out hk HE0.out (by omega) HB2.out HF2.out HT2.out hsv' H1.out H2.out HQ3.out)
          clear hsv'
          go_wp2
          go_roundw
          case rel => first | exact ⟨k + 1, _, _, by omega, by go_num, HN.out⟩ | ((repeat apply Exists.intro); exact ⟨⟨k + 1, _, _, by omega, by go_num, HN.out⟩, rfl⟩)
          case measure => simp [intOf]; omega
      · have hkk : k = D.ents.length := by omega
        have hfin := hid (state_fin hinv hz1 hzW HW.out.1 HTW.out HB1.out hkk)
        have hfv : ∃ a n c, fv = .slice a n c := by
          rcases hinv.files.own.2 with ⟨h, _⟩ | ⟨g, cap, _, h, _⟩
          · exact ⟨none, 0, 0, h⟩
          · exact ⟨_, _, cap, h⟩
        obtain ⟨fa, fn, fc, hfv⟩ := hfv
        have c0 := cell_row hinv.box 0
        have c1 := cell_row hinv.box 1
        simp at c0 c1
        rw [hfv] at c1
        have hr := hfin.out.1
        have r0 := cell_row hr 0
        have r1 := cell_row hr 1
        have f0 := unfrozen_row hr 0
        have f1 := unfrozen_row hr 1
        simp at r0 r1
        have HFV := hid hfv
        clear hinv Rr R1 hr hfv hkk
        go_wp2
        refine bodyPost_ret (v := .agg #[.int .i64 D.B, .slice fa fn fc]) (by simp [results, Tryd.results8, go_sem, r0, r1]) rfl ?_
        rw [← HFV.out]
        exact ⟨fv, l, rfl, (hfin.out.2 _ _).1, (hfin.out.2 (.int .i64 D.B) fv).2.1, (hfin.out.2 _ _).2.2⟩
end
end Go.Proofs.YtcpncfngadablaaDoor
