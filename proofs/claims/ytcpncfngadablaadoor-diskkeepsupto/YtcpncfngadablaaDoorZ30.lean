import Derived.Test.YtcpncfngadablaaDoorZ29
namespace Go.Proofs.YtcpncfngadablaaDoor
open Go.RowKit Go.Deep

/-- No two files' lists of blocks lie in one place. -/
abbrev ApartS (l : List SFile) : Prop := l.Pairwise fun a b => ∀ x, a.sv.ownBlock = some x → b.sv.ownBlock ≠ some x

theorem ApartS_snoc {l : List SFile} {n : Nat} (h : ApartS l) (hl : ∀ e ∈ l, ∀ x, e.sv.ownBlock = some x → x < n) {e : SFile} (he : FreshB n e.sv e.bs) : ApartS (l ++ [e]) := by
  refine List.pairwise_append.2 ⟨h, List.pairwise_singleton _ _, fun a ha b hb x hx hy => ?_⟩
  simp at hb
  subst hb
  have h1 := hl a ha x hx
  have h2 := he.1 x hy
  omega

section
variable {w w' : World} {E : Nat → Addr} {lo p mf mt : Nat} {D : DiskC}

set_option maxRecDepth 100000 in
set_option maxHeartbeats 1000000 in
theorem State_apart (R : Rep w lo p mf mt D) (hS : Small D.pub) :
    Calls Tryd.prog 8 #[ptr p] w fun e w' => ∃ fv l, e = .returned (.agg #[.int .i64 D.B, fv]) ∧ StateAt w' w.heap.size D.B fv l ∧ l.map SFile.pub = D.ents.map Ent.pub ∧ ApartS l ∧ Below w.heap.size w w' := by
  obtain ⟨W, hW⟩ : ∃ W, W = (w.alloc (.cells #[.int .i64 0, .slice none 0 0] 43)).alloc (.cells #[.int .i64 D.B, .slice none 0 0] 43) := ⟨_, rfl⟩
  have hW1 : W.heap[w.heap.size]? = some (.cells #[.int .i64 0, .slice none 0 0] 43) ∧ W.heap[w.heap.size + 1]? = some (.cells #[.int .i64 D.B, .slice none 0 0] 43) := by rw [hW]; exact heap_two w _ _
  have hTW : Touch [] w W := by rw [hW]; exact ((Touch.refl [] w).alloc _).alloc _
  have RW := R.touch hTW (by simp)
  have hfl : D.ents.length ≤ 1099511627776 := by have := hS.files; simpa [DiskC.pub] using this
  have HRI := hid (rising_any RW hfl)
  have hB := hS.size
  simp only [DiskC.pub] at hB
  obtain ⟨hB1, hB2⟩ := hB
  have k0 := R.cell 0
  simp only [dRow] at k0
  have hp := lt_of_block R.row
  have HE := hid hW
  have HW := hid hW1
  have HTW := hid hTW
  have HR := hid RW
  have HSM := hid hS
  have HNF := hid (show w.heap.size + 1 ∉ D.foot p mf mt from fun h => by have := R.lt _ h; omega)
  clear R RW hW hW1 hTW hS
  go_enter Tryd.func8, Tryd.ntmps8
  go_wp2_with fail
  rw [← HE.out]
  refine HRI.out.mono ?_
  rintro e w1 ⟨v, rfl, hrow, hnil, hb1⟩
  rcases hrow.2 with ⟨hv, h2⟩ | ⟨G, gc, _, hv, _⟩
  · rw [hv]
    have hD : D.ents = [] := List.eq_nil_of_length_eq_zero h2
    have hinv : StInv w1 w1 (w.heap.size + 1) D D.ents.length (.slice none 0 0) [] := ⟨Touch.refl _ _, (hb1.block _ (lt_of_block HW.out.2)).trans HW.out.2, ⟨World.ownsRow_nil _ _ _ _, by simp, by simp⟩, by rw [hD]; rfl⟩
    have hfin := hid (state_fin hinv hb1.size (lt_of_block HW.out.2) HW.out.1 HTW.out hb1 rfl)
    have c0 := cell_row hinv.box 0
    have c1 := cell_row hinv.box 1
    have hr := hfin.out.1
    have r0 := cell_row hr 0
    have r1 := cell_row hr 1
    have f0 := unfrozen_row hr 0
    have f1 := unfrozen_row hr 1
    simp at r0 r1 c0 c1
    clear hinv hr hrow hnil hb1 hv hD h2
    go_wp2
    refine wp_loop_rounds 1 ?_
    rw [rounds_succ]
    go_wp2
    refine bodyPost_ret (v := .agg #[.int .i64 D.B, .slice none 0 0]) (by simp [results, Tryd.results8, go_sem, r0, r1]) rfl ?_
    exact ⟨.slice none 0 0, [], rfl, (hfin.out.2 _ _).1, (hfin.out.2 (.int .i64 D.B) (.slice none 0 0)).2.1, .nil, (hfin.out.2 _ _).2.2⟩
  · rw [hv]
    have HROW := hid hrow
    have HV := hid hv
    have HB1 := hid hb1
    clear hrow hnil hb1 hv
    go_wp2
    go_loopw [14] (fun i wr => ∃ (k : Nat) (fv : Value) (l : List SFile), k ≤ D.ents.length ∧ i = .int .i64 k ∧ StInv w1 wr (w.heap.size + 1) D k fv l ∧ ApartS l) (fun i _ => D.ents.length - (intOf i).toNat)
    case atStart => exact ⟨0, .slice none 0 0, [], Nat.zero_le _, rfl, ⟨Touch.refl _ _, (HB1.out.block _ (lt_of_block HW.out.2)).trans HW.out.2, ⟨World.ownsRow_nil _ _ _ _, by simp, by simp⟩, rfl⟩, .nil⟩
    case round =>
      obtain ⟨k, fv, l, hk, rfl, hinv, hap⟩ := hrel
      have hz1 : W.heap.size ≤ w1.heap.size := HB1.out.size
      have hzW : w.heap.size + 1 < W.heap.size := lt_of_block HW.out.2
      have R1 : Rep w1 lo p mf mt D := HR.out.touch (F := []) (Touch.of_below HB1.out (Nat.le_refl _)) (by simp)
      have Rr : Rep wr lo p mf mt D := R1.touch hinv.touch (fun b hb => by
        have h1 := HR.out.lt b hb
        have h2 : b < w.heap.size ∨ w.heap.size ≤ b := by omega
        simp
        intro e
        subst e
        exact HNF.out hb)
      by_cases hlt : k < D.ents.length
      · obtain ⟨e0, he0⟩ : ∃ e0, D.ents[k]? = some e0 := ⟨D.ents[k], List.getElem?_eq_getElem hlt⟩
        have hm : e0 ∈ D.ents := List.mem_of_getElem? he0
        have hrow0 := HROW.out
        have hGb : W.heap.size ≤ G ∧ G < w1.heap.size := hrow0.lt G (by rw [HV.out]; rfl)
        have cG : wr.cell? ⟨G, k, none⟩ = some (encStr e0.name) := by
          have h1 := hrow0.cells (g := G) (by rw [HV.out]; rfl) k (encStr e0.name) (by simp [he0])
          have hadd : (⟨G, 0, none⟩ : Addr).add k = ⟨G, k, none⟩ := by unfold Addr.add; split <;> simp_all
          rw [hadd] at h1
          exact (hinv.touch.cell (p := ⟨G, k, none⟩) hGb.2 (by simp; omega)).trans h1
        have hlk := (Quiet.rep (w' := wr.drew) ⟨1, rfl⟩ Rr).look1 hm
        have kp := Rr.cell 3
        simp only [dRow] at kp
        have hat := (Quiet.rep (w' := wr.drew) ⟨1, rfl⟩ Rr).each e0 hm
        have hbn : e0.file.blocks.length ≤ 1099511627776 := HSM.out.blocks e0.pub (List.mem_map.2 ⟨e0, hm, rfl⟩)
        have HTD := hid (told_any hat ⟨e0.name.toArray⟩ hB1 hB2 hbn)
        have hll := hinv.len hk
        have hsz : w1.heap.size ≤ wr.heap.size := hinv.touch.size
        have HFA := hid (state_facts Rr hinv.files hinv.box (by omega) hsz k hll)
        have cb := cell_row hinv.box 1
        simp at cb
        have lb := lt_of_block hinv.box
        have lp := lt_of_block Rr.row
        have HAP := hid hap
        have HI := hid hinv
        have HE0 := hid he0
        have HM := hid hm
        clear hinv he0 hm hrow0 hat Rr R1 hll hap
        go_wp2
        go_region_law (first
          | (refine step_append_file rfl _ _ rfl w1.heap.size fv k (l.flatMap SFile.cells) w2.heap.size (encStr e0.name) (.bool e0.file.shut) (.slice ga gn gcc) rfl rfl (ho2.out _).1 (heap_alloc_new w2 _) rfl rfl rfl (by omega) (ho2.out _).2.1 (fun g cap w3 r1 r2 => ?_); have q3 := (ho2.out _).2.2 w3 r2; have z3 := cell_row q3 1; have f3 := unfrozen_row q3 1; simp at z3; have H1 := hid r1; have H2 := hid r2; have HQ3 := hid q3; clear r1 r2 q3)
          | (go_simp; go_at_call 30; refine HTD.out.mono ?_; rintro e w2 ⟨sv', bs', rfl, hb2, hf2, ht2⟩; obtain ⟨ga, gn, gcc, hsv'⟩ := hb2.own_slice; obtain ⟨y1, y2, ⟨l1, l2⟩, ho2⟩ := HFA.out w2 ht2; have HB2 := hid hb2; have HF2 := hid hf2; have HT2 := hid ht2; clear hb2 hf2 ht2))
        all_goals
          have HN := hid (StInv.next HI.out hk HE0.out (by omega) HB2.out HF2.out HT2.out hsv' H1.out H2.out HQ3.out)
          have HA2 := hid (ApartS_snoc HAP.out (fun e he x hx => (HI.out.files.each e he).lt.1 x hx) (e := ⟨e0.name, e0.file, sv', bs'⟩) HF2.out)
          clear hsv'
          go_wp2
          go_roundw
          case rel => first | exact ⟨k + 1, _, _, by omega, by go_num, HN.out, HA2.out⟩ | ((repeat apply Exists.intro); exact ⟨⟨k + 1, _, _, by omega, by go_num, HN.out, HA2.out⟩, rfl⟩)
          case measure => simp [intOf]; omega
      · have hkk : k = D.ents.length := by omega
        have hfin := hid (state_fin hinv hz1 hzW HW.out.1 HTW.out HB1.out hkk)
        have hfv : ∃ a n c, fv = .slice a n c := by
          rcases hinv.files.own.2 with ⟨h, _⟩ | ⟨g, cap, _, h, _⟩
          · exact ⟨none, 0, 0, h⟩
          · exact ⟨_, _, cap, h⟩
        obtain ⟨fa, fn, fc, hfv⟩ := hfv
        have c0 := cell_row hinv.box 0
        have c1 := cell_row hinv.box 1
        simp at c0 c1
        rw [hfv] at c1
        have hr := hfin.out.1
        have r0 := cell_row hr 0
        have r1 := cell_row hr 1
        have f0 := unfrozen_row hr 0
        have f1 := unfrozen_row hr 1
        simp at r0 r1
        have HFV := hid hfv
        have HAPE := hid hap
        clear hinv Rr R1 hr hfv hkk hap
        go_wp2
        refine bodyPost_ret (v := .agg #[.int .i64 D.B, .slice fa fn fc]) (by simp [results, Tryd.results8, go_sem, r0, r1]) rfl ?_
        rw [← HFV.out]
        exact ⟨fv, l, rfl, (hfin.out.2 _ _).1, (hfin.out.2 (.int .i64 D.B) fv).2.1, HAPE.out, (hfin.out.2 _ _).2.2⟩
end
end Go.Proofs.YtcpncfngadablaaDoor
namespace Go.Proofs.YtcpncfngadablaaDoor
open Go.RowKit Go.Deep

/-- a told state in which one file was set: where it stands, and what stands elsewhere. -/
theorem set_facts {files : List (List UInt8 × FileA)} {key : List UInt8} {g : FileA} {k : Nat} (hk : k < files.length) (h1 : files[k].1 = key) (hno : ∀ j (hj : j < k), (files[j]'(by omega)).1 ≠ key) (hr : files.Pairwise fun a b => bytesBefore a.1 b.1 = true) {l : List SFile} (hp : l.map SFile.pub = files.set k (key, g)) :
    l.length = files.length ∧ ∃ hl : k < l.length, l[k].name = key ∧ l[k].file = g ∧ (∀ j (hj : j < k), (l[j]'(by omega)).name ≠ key) ∧ RisesS l := by
  have hlen : l.length = files.length := by simpa using congrArg List.length hp
  have hat : ∀ i (hi : i < l.length), l[i].pub = (files.set k (key, g))[i]'(by simp; omega) := fun i hi => by
    have := congrArg (fun q => q[i]?) hp
    simp only [List.getElem?_map, List.getElem?_eq_getElem hi, Option.map_some] at this
    rw [List.getElem?_eq_getElem (by simp; omega)] at this
    simpa using this
  have hk2 : k < l.length := by omega
  have hkk := hat k hk2
  simp only [List.getElem_set_self] at hkk
  refine ⟨hlen, hk2, congrArg Prod.fst hkk, congrArg Prod.snd hkk, fun j hj => ?_, ?_⟩
  · have := hat j (by omega)
    rw [List.getElem_set_ne (by omega)] at this
    have h2 : (l[j]'(by omega)).name = (files[j]'(by omega)).1 := congrArg Prod.fst this
    rw [h2]
    exact hno j hj
  · have hn : ∀ i (hi : i < l.length), l[i].name = (files[i]'(by omega)).1 := fun i hi => by
      have h3 := hat i hi
      by_cases hik : k = i
      · subst hik
        have : l[k].name = key := congrArg Prod.fst hkk
        rw [this, h1]
      · rw [List.getElem_set_ne hik] at h3
        exact congrArg Prod.fst h3
    refine List.pairwise_iff_getElem.2 fun i j hi hj hij => ?_
    rw [hn i hi, hn j hj]
    exact List.pairwise_iff_getElem.1 hr i j (by omega) (by omega) hij

/-- the told state of the cut disk is the whole one with its file set back. -/
theorem set_back {files : List (List UInt8 × FileA)} {key : List UInt8} {g1 g2 : FileA} {k : Nat} {l l4 : List SFile} {e : SFile} (hp : l.map SFile.pub = files.set k (key, g1)) (hp4 : l4.map SFile.pub = files.set k (key, g2)) (he : e.pub = (key, g1)) : (l4.set k e).map SFile.pub = l.map SFile.pub := by
  rw [List.map_set, hp4, hp, he, List.set_set]
end Go.Proofs.YtcpncfngadablaaDoor
namespace Go.Proofs.YtcpncfngadablaaDoor
open Go.RowKit Go.Deep

section
variable {w w' W wr : World} {E : Nat → Addr} {lo p mf mt sb : Nat} {D : DiskC} {x : Int} {fv : Value} {l : List SFile}

/-- append of one file, as a step of a region that draws, guarded or not. -/
theorem step_append_fileG {ops : Array Oper} {o : Oper} {a : Act} {w : World} {K : Act → World → Prop} {Q : Exit → Act → World → Prop} {X : Prop}
    (hw : Region.wanted o (yielded ops a.tmps) = true) (s x : Operand) (hop : o.op = Op.call { callee := Callee.builtin Builtin.append, args := #[s, x], argTypes := #[41, 41] })
    (base : Nat) (v : Value) (n : Nat) (xs : List Value) (b : Nat) (c0 c1 c2 : Value) (hs : a.eval s = v) (hx : a.eval x = .slice (some ⟨b, 0, none⟩) 1 1) (hown : w.ownsRow base 75 3 v n xs) (hb : w.heap[b]? = some (.cells #[c0, c1, c2] 75 (0, 0))) (h0 : c0.oneCell' = true) (h1 : c1.oneCell' = true) (h2 : c2.oneCell' = true) (hn : n ≤ 1099511627776) (hbase : base ≤ w.heap.size)
    (hK : ∀ g cap w', w'.ownsRow base 75 3 (.slice (some ⟨g, 0, none⟩) (n + 1) cap) (n + 1) (xs ++ [c0, c1, c2]) → w.grownBy w' v.ownBlock → K (a.put o.dst (.slice (some ⟨g, 0, none⟩) (n + 1) cap)) w') :
    if Region.wanted o (yielded ops a.tmps) = true then Oper.wp Tryd.prog o a w K Q else X := by
  rw [if_pos hw]
  have h3 := step_append_file (ops := ops) (o := { o with guard := none }) (X := False) (K := K) (Q := Q) rfl s x hop base v n xs b c0 c1 c2 hs hx hown hb h0 h1 h2 hn hbase hK
  rw [if_pos (by simp [Region.wanted])] at h3
  exact h3

set_option maxRecDepth 100000 in
set_option maxHeartbeats 1000000 in
theorem Without_row {n1 : Nat} (s : ByteArray) (h : w.ownsRow n1 75 3 fv l.length (l.flatMap SFile.cells)) (hsl : ∀ e ∈ l, ∃ a n c, e.sv = .slice a n c) (hn : l.length ≤ 1099511627776) :
    Calls Tryd.prog 38 #[.agg #[.int .i64 x, fv], .string s] w fun e w' => ∃ fv2, e = .returned (.agg #[.int .i64 x, fv2]) ∧ w'.ownsRow w.heap.size 75 3 fv2 (lessS s l).length ((lessS s l).flatMap SFile.cells) ∧ Below w.heap.size w w' := by
  obtain ⟨a0, c0, e0⟩ := row_slice h
  obtain ⟨W, hW⟩ : ∃ W, W = ((w.alloc (.cells #[.int .i64 x, fv] 43)).alloc (.cells #[.int .i64 0, .slice none 0 0] 43)).alloc (.cells #[.int .i64 x, .slice none 0 0] 43) := ⟨_, rfl⟩
  have b0 : W.heap[w.heap.size]? = some (.cells #[.int .i64 x, fv] 43) := by rw [hW, Below.heap_alloc _ _ _ (by simp; omega)]; exact (heap_two w _ _).1
  have b1 : W.heap[w.heap.size + 1]? = some (.cells #[.int .i64 0, .slice none 0 0] 43) := by rw [hW, Below.heap_alloc _ _ _ (by simp)]; exact (heap_two w _ _).2
  have b2 : W.heap[w.heap.size + 2]? = some (.cells #[.int .i64 x, .slice none 0 0] 43) := by
    have := heap_alloc_new ((w.alloc (.cells #[.int .i64 x, fv] 43)).alloc (.cells #[.int .i64 0, .slice none 0 0] 43)) (.cells #[.int .i64 x, .slice none 0 0] 43)
    rw [← hW] at this
    simpa using this
  have hTW : Below w.heap.size w W := by rw [hW]; exact (((Below.refl _ w).alloc (Nat.le_refl _) _).alloc (by simp) _).alloc (by simp; omega) _
  have H := hid h
  have HSL := hid hsl
  have HEE := hid e0
  have HB0 := hid b0
  have HB1 := hid b1
  have HB2 := hid b2
  have HE := hid hW
  have HTW := hid hTW
  rw [e0] at HE ⊢
  clear hsl h hW b0 b1 b2 hTW e0
  go_enter Tryd.func38, Tryd.ntmps38
  go_wp2
  rw [← HE.out]
  go_loopw [6] (fun i wr => ∃ (k : Nat) (fv2 : Value), k ≤ l.length ∧ i = .int .i64 k ∧ WInv W wr (w.heap.size + 2) x fv2 (lessS s (l.take k))) (fun i _ => l.length - (intOf i).toNat)
  case atStart => exact ⟨0, .slice none 0 0, Nat.zero_le _, rfl, Touch.refl _ _, HB2.out, World.ownsRow_nil _ _ _ _⟩
  case round =>
    obtain ⟨k, fv2, hk, rfl, hinv⟩ := hrel
    have lw := lt_of_block HB2.out
    have hbw : Below w.heap.size w wr := HTW.out.trans (hinv.touch.below HTW.out.size (by simp))
    have z0 : wr.cell? ⟨w.heap.size, 1, none⟩ = some fv := by
      have := cell_row ((hinv.touch.block _ (lt_of_block HB0.out) (by simp)).trans HB0.out) 1
      simpa using this
    rw [HEE.out] at z0
    have lr := hinv.touch.size
    by_cases hlt : k < l.length
    · obtain ⟨G, gc, eG, _⟩ := row_form H.out (by omega)
      obtain ⟨c1, c2, c3⟩ := row_cells (row_below H.out hbw) eG hlt
      rw [HEE.out] at eG
      simp only [Value.slice.injEq, true_and] at eG
      obtain ⟨rfl, rfl⟩ := eG
      obtain ⟨ga, gn, gk, hv⟩ := HSL.out l[k] (List.getElem_mem hlt)
      obtain ⟨t, ht⟩ : ∃ t : ByteArray, t = ⟨l[k].name.toArray⟩ := ⟨_, rfl⟩
      have hq := nm_eq l[k].name s
      have htv : Value.string t = encStr l[k].name := by rw [ht]
      unfold encStr at c1
      rw [← ht] at c1 hq
      have HV := hid hv
      rw [hv] at c3
      by_cases hne : l[k].name = nm s
      · rw [decide_eq_true hne] at hq
        have hnext := hid (lessS_out hlt hne)
        have HI := hid hinv
        clear hinv hv ht htv hne hbw
        go_wp2
        go_roundw
        case rel => exact ⟨k + 1, fv2, by omega, by go_num, by rw [hnext.out]; exact HI.out⟩
        case measure => simp [intOf]; omega
      · rw [decide_eq_false hne] at hq
        have hnext := hid (lessS_in hlt hne)
        have hll := lessS_len s l k
        have HFA := hid (fun o => hinv.facts lw o)
        have y1 := cell_row hinv.box 1
        simp at y1
        have yl := lt_of_block hinv.box
        obtain ⟨fa, fn, fc, hfv⟩ : ∃ a n c, fv2 = .slice a n c := by
          rcases hinv.own.2 with ⟨h, _⟩ | ⟨g, cap, _, h, _⟩
          · exact ⟨none, 0, 0, h⟩
          · exact ⟨_, _, cap, h⟩
        rw [hfv] at y1
        have HFV := hid hfv
        have HI := hid hinv
        have HTV := hid htv
        clear hinv hv ht htv hne hbw hfv
        go_wp2
        go_region_law (first
          | (refine step_append_file rfl _ _ rfl W.heap.size fv2 (lessS s (l.take k)).length ((lessS s (l.take k)).flatMap SFile.cells) wr.heap.size (.string t) (.bool l[k].file.shut) (.slice ga gn gk) (by rw [HFV.out]; rfl) rfl (HFA.out _).1 (heap_alloc_new wr.drew _) rfl rfl rfl (by omega) (HFA.out _).2.1 (fun g cap w3 r1 r2 => ?_); have q3 := (HFA.out _).2.2 w3 r2; have z3 := cell_row q3 1; have f3 := unfrozen_row q3 1; simp at z3; rw [HFV.out] at z3; have H1 := hid r1; have H2 := hid r2; have HQ3 := hid q3; clear r1 r2 q3)
          )
        all_goals
          have HN := hid (WInv.next HI.out lw l[k] (by have := H1.out; rw [HTV.out, ← HV.out] at this; exact this) H2.out HQ3.out)
          rw [← hnext.out] at HN
          go_wp2
          go_roundw
          case rel => first | exact ⟨k + 1, _, by omega, by go_num, HN.out⟩ | ((repeat apply Exists.intro); exact ⟨⟨k + 1, _, by omega, by go_num, HN.out⟩, rfl⟩)
          case measure => simp [intOf]; omega
    · have hkk : k = l.length := by omega
      have y0 := cell_row hinv.box 0
      have y1 := cell_row hinv.box 1
      have q1 := (hinv.touch.block _ (lt_of_block HB1.out) (by simp)).trans HB1.out
      have r0 := fun i => cell_row q1 i
      have r1 := fun i => unfrozen_row q1 i
      simp at y0 y1
      obtain ⟨fa, fn, fc, hfv⟩ : ∃ a n c, fv2 = .slice a n c := by
        rcases hinv.own.2 with ⟨h, _⟩ | ⟨g, cap, _, h, _⟩
        · exact ⟨none, 0, 0, h⟩
        · exact ⟨_, _, cap, h⟩
      rw [hfv] at y1
      have lq := lt_of_block q1
      have HFV := hid hfv
      have HI := hid hinv
      have HBW := hid hbw
      have HK := hid hkk
      clear hinv hfv hbw q1 hkk
      go_wp2
      refine bodyPost_ret (v := .agg #[.int .i64 x, .slice fa fn fc]) (by simp [results, Tryd.results38, go_sem, r0]) rfl ?_
      rw [← HFV.out]
      have hO := HI.out.own
      rw [HK.out, List.take_length] at hO
      exact ⟨fv2, rfl, owns_mono (owns_low (owns_low hO (by omega) _ _) (by omega) _ _) HTW.out.size, (HBW.out.setCell (by simp) _).setCell (by simp) _⟩
end
end Go.Proofs.YtcpncfngadablaaDoor
namespace Go.Proofs.YtcpncfngadablaaDoor
open Go.RowKit Go.Deep

section
variable {w3 w4 w7 : World} {n1 n4 B g4 gc4 cb ki m : Nat} {fv fv4 : Value} {l l4 : List SFile} {f : FileA} {bl : List UInt8} {sb : Option Addr}

/-- behind the store into the list of the file's blocks: what can be read. -/
theorem part_after (S3 : StateAt w3 n1 B fv l) (h34 : Below w3.heap.size w3 w4) (hn4 : w3.heap.size ≤ n4) (h4 : StateAt w4 n4 B fv4 l4) (hap : ApartS l4) (h47 : Below w4.heap.size w4 w7) (hk : ki < l4.length) (ev : l4[ki].sv = .slice (some ⟨g4, 0, none⟩) (f.blocks.length + 1) gc4) (hf4 : l4[ki].file = { f with blocks := f.blocks ++ [bl] })
    (hs : Shows w7 sb B cb (cutB m bl)) (hsb : ∀ a, sb = some a → w4.heap.size ≤ a.block) :
    StateSh (w7.setCell ⟨g4, f.blocks.length, none⟩ (.slice sb B cb)) n1 fv l ∧ (w7.setCell ⟨g4, f.blocks.length, none⟩ (.slice sb B cb)).ownsRow n4 75 3 fv4 l4.length (l4.flatMap SFile.cells) ∧
      ∀ e ∈ l4.set ki { l4[ki] with file := { f with blocks := f.blocks ++ [cutB m bl] } }, BlocksSh (w7.setCell ⟨g4, f.blocks.length, none⟩ (.slice sb B cb)) e.sv e.file.blocks := by
  have hb4 := h4.each _ (List.getElem_mem hk)
  have hg4 : n4 ≤ g4 := (h4.from_ _ (List.getElem_mem hk)).1 g4 (by rw [ev]; rfl)
  obtain ⟨cur, hcur, hcs⟩ : ∃ cur : Array Value, w4.heap[g4]? = some (.cells cur 31 (0, 0)) ∧ f.blocks.length < cur.size := by
    rcases hb4.own.2 with ⟨h1, _⟩ | ⟨g', cap, cur, h1, _, hg, hc1, _, hc2, _⟩
    · rw [ev] at h1; simp at h1
    · rw [ev] at h1
      simp only [Value.slice.injEq, Option.some.injEq, Addr.mk.injEq] at h1
      obtain ⟨⟨rfl, _⟩, h3, _⟩ := h1
      exact ⟨cur, hg, by omega⟩
  have hgl := lt_of_block hcur
  obtain ⟨Y, hY⟩ : ∃ Y, Y = w7.setCell ⟨g4, f.blocks.length, none⟩ (.slice sb B cb) := ⟨_, rfl⟩
  have hne : ∀ b, b < w4.heap.size → b ≠ g4 → Y.heap[b]? = w4.heap[b]? := fun b hb hbg => by rw [hY, Below.heap_setCell _ _ _ _ hbg]; exact h47.block b hb
  have hne7 : ∀ b, b ≠ g4 → Y.heap[b]? = w7.heap[b]? := fun b hbg => by rw [hY]; exact Below.heap_setCell _ _ _ _ hbg
  have hsz : w7.heap.size ≤ Y.heap.size := by rw [hY]; simp
  have hYg : Y.heap[g4]? = some (.cells (cur.setIfInBounds f.blocks.length (.slice sb B cb)) 31 (0, 0)) := by
    rw [hY]
    exact heap_setCell_row ((h47.block g4 hgl).trans hcur) f.blocks.length _
  rw [← hY]
  refine ⟨?_, ?_, ?_⟩
  · exact (S3.kept fun b _ hb => by rw [hne b (by have := h34.size; omega) (by omega)]; exact h34.block b hb : StateAt Y n1 B fv l).sh
  · refine ⟨h4.own.1, ?_⟩
    rcases h4.own.2 with hn | ⟨g, cap, c, hv, hb', hg, rest⟩
    · exact .inl hn
    · refine .inr ⟨g, cap, c, hv, hb', (hne g (lt_of_block hg) fun e => ?_).trans hg, rest⟩
      rw [e, hcur] at hg
      simp at hg
  · have other : ∀ i (hi : i < l4.length), i ≠ ki → BlocksSh Y l4[i].sv l4[i].file.blocks := fun i hi hik => by
      have hb := h4.each _ (List.getElem_mem hi)
      refine (hb.kept fun b hb' => hne b (by rcases hb' with h | h; exact hb.lt.1 b h; exact hb.lt.2 b h) fun e => ?_ : BlocksAt Y B _ _ _).sh
      subst e
      rcases hb' with h | h
      · rcases Nat.lt_or_gt_of_ne hik with hlt | hgt
        · exact List.pairwise_iff_getElem.1 hap i ki hi hk hlt b h (by rw [ev]; rfl)
        · exact List.pairwise_iff_getElem.1 hap ki i hk hi hgt b (by rw [ev]; rfl) h
      · obtain ⟨j, hj, rfl⟩ := List.getElem_of_mem h
        have := (hb.bytes j _ (l4[i].file.blocks[j]'(by rw [← hb.len]; exact hj)) (List.getElem?_eq_getElem hj) (List.getElem?_eq_getElem _)).2
        unfold BytesAt at this
        rw [hcur] at this
        simp at this
    intro e he
    obtain ⟨i, hi, rfl⟩ := List.getElem_of_mem he
    have hi2 : i < l4.length := by simpa using hi
    by_cases hik : ki = i
    · subst hik
      rw [List.getElem_set_self]
      have hbl4 : l4[ki].file.blocks.length = f.blocks.length + 1 := by rw [hf4]; simp
      refine ⟨⟨some ⟨g4, 0, none⟩, gc4, by simp [ev]⟩, fun j hj => ?_⟩
      have hj2 : j < f.blocks.length + 1 := by simpa using hj
      by_cases hjl : j = f.blocks.length
      · subst hjl
        refine ⟨g4, gc4, sb, B, cb, by simp [ev], ?_, ?_⟩
        · rw [cell_row hYg, Array.getElem?_setIfInBounds_self_of_lt hcs]
        · have : (f.blocks ++ [cutB m bl])[f.blocks.length]'(by simp) = cutB m bl := by simp
          rw [this]
          refine ⟨hs.len, hs.cap, fun h0 => ?_, hs.nil⟩
          obtain ⟨a, ea, hl, hc⟩ := hs.at_ h0
          have hab := hsb a ea
          refine ⟨a, ea, by omega, fun i v hv => ?_⟩
          have hbk : (a.add i).block = a.block := by unfold Addr.add; split <;> rfl
          have e9 : Y.cell? (a.add i) = w7.cell? (a.add i) := World.cell?_of_block (hne7 _ (by rw [hbk]; omega))
          rw [e9]
          exact hc i v hv
      · obtain ⟨g, cap, b, e1, c, hl, hby, _⟩ := hb4.at (i := j) (by omega)
        rw [ev] at e1
        simp only [Value.slice.injEq, Option.some.injEq, Addr.mk.injEq] at e1
        obtain ⟨⟨rfl, _⟩, _⟩ := e1
        refine ⟨g4, gc4, some ⟨b, 0, none⟩, B, B, by simp [ev], ?_, ?_⟩
        · rw [cell_row hYg, Array.getElem?_setIfInBounds_ne (by omega)]
          rw [cell_row hcur] at c
          exact c
        · have e2 : (f.blocks ++ [cutB m bl])[j]'(by simp; omega) = l4[ki].file.blocks[j]'(by omega) := by
            simp only [hf4]
            rw [List.getElem_append_left (by omega), List.getElem_append_left (by omega)]
          rw [e2]
          have hbg : b ≠ g4 := fun e => by
            unfold BytesAt at hby
            rw [e, hcur] at hby
            simp at hby
          exact bytes_shows (by unfold BytesAt; rw [hne b (lt_of_block hby) hbg]; exact hby) hl
    · rw [List.getElem_set_ne hik]
      exact other i hi2 (fun e => hik e.symm)
end
end Go.Proofs.YtcpncfngadablaaDoor
