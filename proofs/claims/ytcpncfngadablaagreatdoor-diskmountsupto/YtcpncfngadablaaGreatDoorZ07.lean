import Derived.Test.YtcpncfngadablaaGreatDoorZ06
namespace Go.Proofs.YtcpncfngadablaaGreatDoor
open Go.RowKit Go.Deep

/-- No two files' lists of blocks lie in one place, no two blocks. -/
abbrev ApartS (l : List SFile) : Prop := l.Pairwise fun a b => (∀ x, a.sv.ownBlock = some x → b.sv.ownBlock ≠ some x) ∧ ∀ x ∈ a.bs, x ∉ b.bs

theorem ApartS_snoc {l : List SFile} {n : Nat} (h : ApartS l) (hl : ∀ e ∈ l, (∀ x, e.sv.ownBlock = some x → x < n) ∧ ∀ x ∈ e.bs, x < n) {e : SFile} (he : FreshB n e.sv e.bs) : ApartS (l ++ [e]) := by
  refine List.pairwise_append.2 ⟨h, List.pairwise_singleton _ _, fun a ha b hb => ⟨fun x hx hy => ?_, fun x hx hy => ?_⟩⟩
  · simp at hb
    subst hb
    have h1 := (hl a ha).1 x hx
    have h2 := he.1 x hy
    omega
  · simp at hb
    subst hb
    have h1 := (hl a ha).2 x hx
    have h2 := he.2.1 x hy
    omega

section
variable {w w' : World} {E : Nat → Addr} {lo p mf mt : Nat} {D : DiskC}

set_option maxRecDepth 100000 in
set_option maxHeartbeats 1000000 in
theorem State_apart (R : Rep w lo p mf mt D) (hS : Small D.pub) :
    Calls Tryz.prog 14 #[ptr p] w fun e w' => ∃ fv l, e = .returned (.agg #[.int .i64 D.B, fv]) ∧ StateAt w' w.heap.size D.B fv l ∧ l.map SFile.pub = D.ents.map Ent.pub ∧ ApartS l ∧ Below w.heap.size w w' := by
  obtain ⟨W, hW⟩ : ∃ W, W = (w.alloc (.cells #[.int .i64 0, .slice none 0 0] 47)).alloc (.cells #[.int .i64 D.B, .slice none 0 0] 47) := ⟨_, rfl⟩
  have hW1 : W.heap[w.heap.size]? = some (.cells #[.int .i64 0, .slice none 0 0] 47) ∧ W.heap[w.heap.size + 1]? = some (.cells #[.int .i64 D.B, .slice none 0 0] 47) := by rw [hW]; exact heap_two w _ _
  have hTW : Touch [] w W := by rw [hW]; exact ((Touch.refl [] w).alloc _).alloc _
  have RW := R.touch hTW (by simp)
  have hfl : D.ents.length ≤ 1099511627776 := by have := hS.files; simpa [DiskC.pub] using this
  have HRI := hid (rising_any RW hfl)
  have hB := hS.size
  simp only [DiskC.pub] at hB
  obtain ⟨hB1, hB2⟩ := hB
  have k0 := R.cell 0
  simp only [dRow] at k0
  have hp := lt_of_block R.row
  have HE := hid hW
  have HW := hid hW1
  have HTW := hid hTW
  have HR := hid RW
  have HSM := hid hS
  have HNF := hid (show w.heap.size + 1 ∉ D.foot p mf mt from fun h => by have := R.lt _ h; omega)
  clear R RW hW hW1 hTW hS
  go_enter Tryz.func14, Tryz.ntmps14
  go_wp2_with fail
  rw [← HE.out]
  refine HRI.out.mono ?_
  rintro e w1 ⟨v, rfl, hrow, hnil, hb1⟩
  rcases hrow.2 with ⟨hv, h2⟩ | ⟨G, gc, _, hv, _⟩
  · rw [hv]
    have hD : D.ents = [] := List.eq_nil_of_length_eq_zero h2
    have hinv : StInv w1 w1 (w.heap.size + 1) D D.ents.length (.slice none 0 0) [] := ⟨Touch.refl _ _, (hb1.block _ (lt_of_block HW.out.2)).trans HW.out.2, ⟨World.ownsRow_nil _ _ _ _, by simp, by simp⟩, by rw [hD]; rfl⟩
    have hfin := hid (state_fin hinv hb1.size (lt_of_block HW.out.2) HW.out.1 HTW.out hb1 rfl)
    have c0 := cell_row hinv.box 0
    have c1 := cell_row hinv.box 1
    have hr := hfin.out.1
    have r0 := cell_row hr 0
    have r1 := cell_row hr 1
    have f0 := unfrozen_row hr 0
    have f1 := unfrozen_row hr 1
    simp at r0 r1 c0 c1
    clear hinv hr hrow hnil hb1 hv hD h2
    go_wp2
    refine wp_loop_rounds 1 ?_
    rw [rounds_succ]
    go_wp2
    refine bodyPost_ret (v := .agg #[.int .i64 D.B, .slice none 0 0]) (by simp [results, Tryz.results14, go_sem, r0, r1]) rfl ?_
    exact ⟨.slice none 0 0, [], rfl, (hfin.out.2 _ _).1, (hfin.out.2 (.int .i64 D.B) (.slice none 0 0)).2.1, .nil, (hfin.out.2 _ _).2.2⟩
  · rw [hv]
    have HROW := hid hrow
    have HV := hid hv
    have HB1 := hid hb1
    clear hrow hnil hb1 hv
    go_wp2
    go_loopw [14] (fun i wr => ∃ (k : Nat) (fv : Value) (l : List SFile), k ≤ D.ents.length ∧ i = .int .i64 k ∧ StInv w1 wr (w.heap.size + 1) D k fv l ∧ ApartS l) (fun i _ => D.ents.length - (intOf i).toNat)
    case atStart => exact ⟨0, .slice none 0 0, [], Nat.zero_le _, rfl, ⟨Touch.refl _ _, (HB1.out.block _ (lt_of_block HW.out.2)).trans HW.out.2, ⟨World.ownsRow_nil _ _ _ _, by simp, by simp⟩, rfl⟩, .nil⟩
    case round =>
      obtain ⟨k, fv, l, hk, rfl, hinv, hap⟩ := hrel
      have hz1 : W.heap.size ≤ w1.heap.size := HB1.out.size
      have hzW : w.heap.size + 1 < W.heap.size := lt_of_block HW.out.2
      have R1 : Rep w1 lo p mf mt D := HR.out.touch (F := []) (Touch.of_below HB1.out (Nat.le_refl _)) (by simp)
      have Rr : Rep wr lo p mf mt D := R1.touch hinv.touch (fun b hb => by
        have h1 := HR.out.lt b hb
        have h2 : b < w.heap.size ∨ w.heap.size ≤ b := by omega
        simp
        intro e
        subst e
        exact HNF.out hb)
      by_cases hlt : k < D.ents.length
      · obtain ⟨e0, he0⟩ : ∃ e0, D.ents[k]? = some e0 := ⟨D.ents[k], List.getElem?_eq_getElem hlt⟩
        have hm : e0 ∈ D.ents := List.mem_of_getElem? he0
        have hrow0 := HROW.out
        have hGb : W.heap.size ≤ G ∧ G < w1.heap.size := hrow0.lt G (by rw [HV.out]; rfl)
        have cG : wr.cell? ⟨G, k, none⟩ = some (encStr e0.name) := by
          have h1 := hrow0.cells (g := G) (by rw [HV.out]; rfl) k (encStr e0.name) (by simp [he0])
          have hadd : (⟨G, 0, none⟩ : Addr).add k = ⟨G, k, none⟩ := by unfold Addr.add; split <;> simp_all
          rw [hadd] at h1
          exact (hinv.touch.cell (p := ⟨G, k, none⟩) hGb.2 (by simp; omega)).trans h1
        have hlk := (Quiet.rep (w' := wr.drew) ⟨1, rfl⟩ Rr).look1 hm
        have kp := Rr.cell 3
        simp only [dRow] at kp
        have hat := (Quiet.rep (w' := wr.drew) ⟨1, rfl⟩ Rr).each e0 hm
        have hbn : e0.file.blocks.length ≤ 1099511627776 := HSM.out.blocks e0.pub (List.mem_map.2 ⟨e0, hm, rfl⟩)
        have HTD := hid (told_any hat ⟨e0.name.toArray⟩ hB1 hB2 hbn)
        have hll := hinv.len hk
        have hsz : w1.heap.size ≤ wr.heap.size := hinv.touch.size
        have HFA := hid (state_facts Rr hinv.files hinv.box (by omega) hsz k hll)
        have cb := cell_row hinv.box 1
        simp at cb
        have lb := lt_of_block hinv.box
        have lp := lt_of_block Rr.row
        have HAP := hid hap
        have HI := hid hinv
        have HE0 := hid he0
        have HM := hid hm
        clear hinv he0 hm hrow0 hat Rr R1 hll hap
        go_wp2
        go_region_law (first
          | (refine step_append_file rfl _ _ rfl w1.heap.size fv k (l.flatMap SFile.cells) w2.heap.size (encStr e0.name) (.bool e0.file.shut) (.slice ga gn gcc) rfl rfl (ho2.out _).1 (heap_alloc_new w2 _) rfl rfl rfl (by omega) (ho2.out _).2.1 (fun g cap w3 r1 r2 => ?_); have q3 := (ho2.out _).2.2 w3 r2; have z3 := cell_row q3 1; have f3 := unfrozen_row q3 1; simp at z3; have H1 := hid r1; have H2 := hid r2; have HQ3 := hid q3; clear r1 r2 q3)
          | (go_simp; go_at_call 38; refine HTD.out.mono ?_; rintro e w2 ⟨sv', bs', rfl, hb2, hf2, ht2⟩; obtain ⟨ga, gn, gcc, hsv'⟩ := hb2.own_slice; obtain ⟨y1, y2, ⟨l1, l2⟩, ho2⟩ := HFA.out w2 ht2; have HB2 := hid hb2; have HF2 := hid hf2; have HT2 := hid ht2; clear hb2 hf2 ht2))
        all_goals
          have HN := hid (StInv.next HI.out hk HE0.out (by omega) HB2.out HF2.out HT2.out hsv' H1.out H2.out HQ3.out)
          have HA2 := hid (ApartS_snoc HAP.out (fun e he => (HI.out.files.each e he).lt) (e := ⟨e0.name, e0.file, sv', bs'⟩) HF2.out)
          clear hsv'
          go_wp2
          go_roundw
          case rel => first | exact ⟨k + 1, _, _, by omega, by go_num, HN.out, HA2.out⟩ | ((repeat apply Exists.intro); exact ⟨⟨k + 1, _, _, by omega, by go_num, HN.out, HA2.out⟩, rfl⟩)
          case measure => simp [intOf]; omega
      · have hkk : k = D.ents.length := by omega
        have hfin := hid (state_fin hinv hz1 hzW HW.out.1 HTW.out HB1.out hkk)
        have hfv : ∃ a n c, fv = .slice a n c := by
          rcases hinv.files.own.2 with ⟨h, _⟩ | ⟨g, cap, _, h, _⟩
          · exact ⟨none, 0, 0, h⟩
          · exact ⟨_, _, cap, h⟩
        obtain ⟨fa, fn, fc, hfv⟩ := hfv
        have c0 := cell_row hinv.box 0
        have c1 := cell_row hinv.box 1
        simp at c0 c1
        rw [hfv] at c1
        have hr := hfin.out.1
        have r0 := cell_row hr 0
        have r1 := cell_row hr 1
        have f0 := unfrozen_row hr 0
        have f1 := unfrozen_row hr 1
        simp at r0 r1
        have HFV := hid hfv
        have HAPE := hid hap
        clear hinv Rr R1 hr hfv hkk hap
        go_wp2
        refine bodyPost_ret (v := .agg #[.int .i64 D.B, .slice fa fn fc]) (by simp [results, Tryz.results14, go_sem, r0, r1]) rfl ?_
        rw [← HFV.out]
        exact ⟨fv, l, rfl, (hfin.out.2 _ _).1, (hfin.out.2 (.int .i64 D.B) fv).2.1, HAPE.out, (hfin.out.2 _ _).2.2⟩
end
end Go.Proofs.YtcpncfngadablaaGreatDoor
/-
  States that can be read, in memory from a place on.
-/
namespace Go.Proofs.YtcpncfngadablaaGreatDoor
open Go.RowKit Go.Deep ShfKit
set_option maxRecDepth 100000
section
variable {w w' W : World} {n n' : Nat} {sv fv : Value} {blocks : List (List UInt8)} {l : List SFile}
structure BlocksFr (w : World) (n : Nat) (sv : Value) (blocks : List (List UInt8)) : Prop where
  sl : ∃ a c, sv = .slice a blocks.length c
  at_ : ∀ i (hi : i < blocks.length), ∃ (G gc : Nat) (a : Addr) (xn xc : Nat), sv = .slice (some ⟨G, 0, none⟩) blocks.length gc ∧ n ≤ G ∧ n ≤ a.block ∧ (∃ c fz, w.heap[G]? = some (Obj.cells c 31 fz)) ∧ (∃ c fz, w.heap[a.block]? = some (Obj.cells c 5 fz)) ∧ w.cell? ⟨G, i, none⟩ = some (.slice (some a) xn xc) ∧ Shows w (some a) xn xc blocks[i]
theorem BlocksFr.sh (h : BlocksFr w n sv blocks) : BlocksSh w sv blocks := ⟨h.sl, fun i hi => by
  obtain ⟨G, gc, a, xn, xc, e, _, _, _, _, c, s⟩ := h.at_ i hi
  exact ⟨G, gc, _, xn, xc, e, c, s⟩⟩
theorem shows_kept {a : Addr} {xn xc : Nat} {d : List UInt8} (h : Shows w (some a) xn xc d) (hk : w'.heap[a.block]? = w.heap[a.block]?) (hs : a.block < w'.heap.size) : Shows w' (some a) xn xc d :=
  ⟨h.len, h.cap, fun h0 => by
    obtain ⟨a', e, hl, hc⟩ := h.at_ h0
    cases e
    exact ⟨a, rfl, hs, fun j v hv => by
      have hb : (a.add j).block = a.block := by unfold Addr.add; split <;> rfl
      rw [World.cell?_of_block (w := w) (w' := w') (a := a.add j) (by rw [hb]; exact hk)]
      exact hc j v hv⟩, fun e => by simp at e⟩
theorem BlocksFr.kept (h : BlocksFr w n sv blocks) (hk : ∀ (b : Nat) (c : Array Value) (e : Nat) (fz : Nat × Nat), n ≤ b → w.heap[b]? = some (Obj.cells c e fz) → e = 31 ∨ e = 5 → w'.heap[b]? = w.heap[b]?) : BlocksFr w' n sv blocks := ⟨h.sl, fun i hi => by
  obtain ⟨G, gc, a, xn, xc, e, g1, g2, ⟨c1, f1, k1⟩, ⟨c2, f2, k2⟩, c, s⟩ := h.at_ i hi
  have e1 := hk G c1 31 f1 g1 k1 (.inl rfl)
  have e2 := hk a.block c2 5 f2 g2 k2 (.inr rfl)
  exact ⟨G, gc, a, xn, xc, e, g1, g2, ⟨c1, f1, e1.trans k1⟩, ⟨c2, f2, e2.trans k2⟩, (World.cell?_of_block (w := w) (w' := w') (a := ⟨G, i, none⟩) e1).trans c, shows_kept s e2 (Array.getElem?_eq_some_iff.1 (e2.trans k2)).1⟩⟩
theorem BlocksFr.mono (h : BlocksFr w n sv blocks) (hn : n' ≤ n) : BlocksFr w n' sv blocks := ⟨h.sl, fun i hi => by
  obtain ⟨G, gc, a, xn, xc, e, g1, g2, r⟩ := h.at_ i hi
  exact ⟨G, gc, a, xn, xc, e, by omega, by omega, r⟩⟩
structure StateFr (w : World) (n : Nat) (fv : Value) (l : List SFile) : Prop where
  own : w.ownsRow n 71 3 fv l.length (l.flatMap SFile.cells)
  each : ∀ e ∈ l, BlocksFr w n e.sv e.file.blocks
theorem StateFr.sh (h : StateFr w n fv l) : StateSh w n fv l := ⟨h.own, fun e he => (h.each e he).sh⟩
/-- all its memory is as it was. -/
theorem StateFr.kept (h : StateFr w n fv l) (hk : ∀ b, n ≤ b → b < w.heap.size → w'.heap[b]? = w.heap[b]?) : StateFr w' n fv l :=
  ⟨own_kept h.own fun g hg => hk g (own_block h.own hg).1 (own_block h.own hg).2, fun e he => (h.each e he).kept fun b _ _ _ hb hw _ => hk b hb (Array.getElem?_eq_some_iff.1 hw).1⟩
end
end Go.Proofs.YtcpncfngadablaaGreatDoor
/-
  What befalls a call: a fault, a cut. carry under them, whatever it is to do.
-/
namespace Go.Proofs.YtcpncfngadablaaGreatDoor
open Go.RowKit Go.Deep

section
variable {w w' : World} {E : Nat → Addr} {lo p mf mt : Nat} {D : DiskC}

abbrev DiskC.off (D : DiskC) : DiskC := { D with on := false }

set_option maxHeartbeats 400000 in
theorem carry_fault (V : Env w lo E) (a b : Int) (fv : Value) :
    Calls Tryz.prog 67 #[ptr p, .agg #[.int .i64 a, .int .i64 1, .int .i64 b], fv] w fun e w' => e = .returned (errV E 1) ∧ Touch [] w w' := by
  have c1 : ∀ o : Obj, (w.alloc o).cell? ⟨1, 0, none⟩ = some (errV E 1) := fun o => (V.alloc o).sents.var 1 (by omega)
  go_enter Tryz.func67, Tryz.ntmps67
  go_wp2
  go_ret
  exact ⟨rfl, (Touch.refl [] w).alloc _⟩

theorem Rep.off (R : Rep w lo p mf mt D) : Rep (w.setCell ⟨p, 2, none⟩ (.bool false)) lo p mf mt D.off ∧ Touch [p] w (w.setCell ⟨p, 2, none⟩ (.bool false)) := by
  have ht : Touch [p] w (w.setCell ⟨p, 2, none⟩ (.bool false)) := (Touch.refl [p] w).setCell (by simp) _
  refine ⟨R.setRow rfl rfl rfl ht ?_, ht⟩
  rw [heap_setCell_row R.row 2]
  rfl

set_option maxHeartbeats 400000 in
theorem carry_cut0 (V : Env w lo E) (R : Rep w lo p mf mt D) (a b : Int) (hb : b ≤ 0) (fv : Value) :
    Calls Tryz.prog 67 #[ptr p, .agg #[.int .i64 a, .int .i64 2, .int .i64 b], fv] w fun e w' => e = .returned (errV E 2) ∧ Rep w' lo p mf mt D.off ∧ Touch [p] w w' := by
  have hlop : lo ≤ p := R.base p (by simp [DiskC.foot])
  have VO := V.touch R.off.2 (by simp; exact hlop)
  have c2 : ∀ o : Obj, ((w.setCell ⟨p, 2, none⟩ (.bool false)).alloc o).cell? ⟨2, 0, none⟩ = some (errV E 2) := fun o => (VO.alloc o).sents.var 2 (by omega)
  have k2 := R.cell 2
  simp only [dRow] at k2
  have f2 := R.unfrozen 2
  have HR := hid R.off
  have hp := lt_of_block R.row
  clear V VO
  go_enter Tryz.func67, Tryz.ntmps67
  go_wp2
  go_ret
  exact ⟨rfl, HR.out.1.alloc _, HR.out.2.alloc _⟩
end

end Go.Proofs.YtcpncfngadablaaGreatDoor
/-
  Create under what befalls it.
-/
namespace Go.Proofs.YtcpncfngadablaaGreatDoor
open Go.RowKit Go.Deep

section
variable {w w' : World} {E : Nat → Addr} {lo p mf mt : Nat} {D : DiskC}

set_option maxRecDepth 100000 in
set_option maxHeartbeats 400000 in
theorem carry_create_cut (V : Env w lo E) (R : Rep w lo p mf mt D) {s : ByteArray} {a b : Int} (bd bn : Nat) (hb : 0 < b) (hs : s.size ≤ 32) (hfind : findE D.ents (nm s) = none) (hsmall : D.ents.length ≤ 1099511627776)
    (hbd : w.heap[bd]? = some (.cells #[ptr p] 23 (0, 0))) (hbn : w.heap[bn]? = some (.cells #[.string s] 9 (0, 0))) :
    Calls Tryz.prog 67 #[ptr p, .agg #[.int .i64 a, .int .i64 2, .int .i64 b], .func (.func 69) #[] #[ptr bd, ptr bn]] w fun e w' => e = .returned (errV E 2) ∧ (∃ fb, w.heap.size ≤ fb ∧ Rep w' lo p mf mt { D.off with ents := insE ⟨nm s, ⟨false, []⟩, ⟨fb, .slice none 0 0, []⟩⟩ D.ents }) ∧ Touch [p, mf] w w' := by
  have hlop : lo ≤ p := R.base p (by simp [DiskC.foot])
  have hlom : lo ≤ mf := R.base mf (by simp [DiskC.foot])
  have VO := V.touch R.off.2 (by simp; exact hlop)
  have RO := R.off.1
  have TO := R.off.2
  have hp := lt_of_block R.row
  have lbd := lt_of_block hbd
  have lbn := lt_of_block hbn
  have nbd : bd ≠ p := fun e => by subst e; rw [R.row] at hbd; simp [dRow] at hbd
  have nbn : bn ≠ p := fun e => by subst e; rw [R.row] at hbn; simp [dRow] at hbn
  have obd : (w.setCell ⟨p, 2, none⟩ (.bool false)).heap[bd]? = some (.cells #[ptr p] 23 (0, 0)) := (TO.block bd lbd (by simp [nbd])).trans hbd
  have obn : (w.setCell ⟨p, 2, none⟩ (.bool false)).heap[bn]? = some (.cells #[.string s] 9 (0, 0)) := (TO.block bn lbn (by simp [nbn])).trans hbn
  have hz : (w.setCell ⟨p, 2, none⟩ (.bool false)).heap.size = w.heap.size := by simp [World.setCell]
  have H := hid (fun o : Obj => create1_any (RO.alloc o) b bd bn hs hfind (Nat.le_trans V.room (by simp [hz])) hsmall ((Below.heap_alloc _ o bd (by omega)).trans obd) ((Below.heap_alloc _ o bn (by omega)).trans obn))
  have HV := hid VO
  have HT := hid TO
  have HZ := hid hz
  have k2 := R.cell 2
  simp only [dRow] at k2
  have f2 := R.unfrozen 2
  clear hbd hbn hfind V VO RO TO obd obn hz nbd nbn
  go_enter Tryz.func67, Tryz.ntmps67
  go_wp2_with (go_at_call 69; refine (H.out _).mono ?_; rintro e w1 ⟨rfl, ⟨fb, hfb, hR⟩, ht⟩; have c2 : w1.cell? ⟨2, 0, none⟩ = some (errV E 2) := (((HV.out.alloc _).touch ht (by simp; exact hlom)).sents.var 2 (by omega)))
  go_ret
  have h1 : Touch [p, mf] w w1 := (((HT.out.mono (by simp)).alloc _)).trans ht (by simp)
  exact ⟨rfl, ⟨fb, Nat.le_trans (by simp [HZ.out]) hfb, hR⟩, h1⟩

set_option maxRecDepth 100000 in
set_option maxHeartbeats 400000 in
/-- create, up to what carry does. -/
theorem create_gen (V : Env w lo E) (R : Rep w lo p mf mt D) (s : ByteArray) (ho : D.on = true) (hn : nameB s = true) (hf : findE D.ents (nm s) = none) {a k b : Int} (hT : TroubleIs D.T D.c.calls a k b)
    (h0 : 0 ≤ D.c.calls) (h1 : D.c.calls ≤ 1099511627776) {v : Value} {Post : World → World → Prop}
    (HC : ∀ (w2 : World) (bd bn : Nat), Env w2 lo E → Rep w2 lo p mf mt D.numbered → w.heap.size ≤ w2.heap.size → w2.heap[bd]? = some (.cells #[ptr p] 23 (0, 0)) → w2.heap[bn]? = some (.cells #[.string s] 9 (0, 0)) →
      Calls Tryz.prog 67 #[ptr p, .agg #[.int .i64 a, .int .i64 k, .int .i64 b], .func (.func 69) #[] #[ptr bd, ptr bn]] w2 fun e w3 => e = .returned v ∧ Post w2 w3 ∧ Touch [p, mf] w2 w3) :
    Calls Tryz.prog 34 #[ptr p, .string s] w fun e w' => e = .returned v ∧ (∃ w2, w.heap.size ≤ w2.heap.size ∧ Rep w2 lo p mf mt D.numbered ∧ Post w2 w') ∧ Touch [p, mf, mt] w w' := by
  obtain ⟨W, hW⟩ : ∃ W, W = (w.alloc (.cells #[ptr p] 23)).alloc (.cells #[.string s] 9) := ⟨_, rfl⟩
  have hW1 : W.heap[w.heap.size]? = some (.cells #[ptr p] 23) ∧ W.heap[w.heap.size + 1]? = some (.cells #[.string s] 9) := by rw [hW]; exact heap_two w _ _
  have hTW : Touch [] w W := by rw [hW]; exact ((Touch.refl [] w).alloc _).alloc _
  have VW : Env W lo E := V.touch hTW (by simp)
  have RW : Rep W lo p mf mt D := R.touch hTW (by simp)
  have H := hid (find_none VW.sents RW s ho hn hf)
  have H2 := hid (fun n : Nat => is_at (VW.drewN n).sents 4 4 (by omega) (by omega))
  have c4 : ∀ n : Nat, (W.drewN n).cell? ⟨4, 0, none⟩ = some (errV E 4) := fun n => (VW.drewN n).sents.var 4 (by omega)
  have cd : ∀ n : Nat, (W.drewN n).cell? ⟨w.heap.size, 0, none⟩ = some (ptr p) := fun n => cell_row (w := W.drewN n) hW1.1 0
  have cn : ∀ n : Nat, (W.drewN n).cell? ⟨w.heap.size + 1, 0, none⟩ = some (.string s) := fun n => cell_row (w := W.drewN n) hW1.2 0
  have HV := hid VW
  have HR := hid RW
  have HW := hid hW1
  have HTW := hid hTW
  have HE := hid hW
  have HCC := hid HC
  have hp := lt_of_block R.row
  have hmf := R.files.lt
  have hmt : mt < w.heap.size := R.lt mt (by simp [DiskC.foot])
  have hlop : Hid (lo ≤ p ∧ lo ≤ mt) := hid ⟨R.base p (by simp [DiskC.foot]), R.base mt (by simp [DiskC.foot])⟩
  clear hf V R VW RW hW1 hTW hW HC
  go_enter Tryz.func34, Tryz.ntmps34
  go_wp2_with fail
  rw [← HE.out]
  refine H.out.mono ?_
  rintro e w1 ⟨rfl, n, rfl⟩
  go_wp2_with (go_at_call 62; refine (H2.out _).mono ?_; rintro e w1 ⟨rfl, rfl⟩)
  go_region_held3 (fun W' => W'.cell? ⟨w.heap.size, 0, none⟩ = some (ptr p)) (go_keep)
    (first
      | (go_at_call 68; refine (number_any (HR.out.drewN _) hT h0 h1).mono ?_; rintro e w2 ⟨rfl, hR2, ht2⟩; have hb2 := HW.out; have z2 : w2.cell? ⟨w.heap.size, 0, none⟩ = some (ptr p) := number_box hb2.1 ht2 hp hmt; have q2 := hid (number_row hb2.1 ht2 hp hmt); have q3 := hid (number_row hb2.2 ht2 (by omega) (by omega)); clear hb2)
      | (go_at_call 67; refine (HCC.out w2 _ _ ((HV.out.drewN _).touch ht2 (by simp; exact hlop.out)) hR2 (Nat.le_trans HTW.out.size ht2.size) q2.out q3.out).mono ?_; rintro e w3 ⟨rfl, hpost, ht3⟩; have z3 : w3.cell? ⟨w.heap.size, 0, none⟩ = some (ptr p) := (ht3.cell (p := ⟨w.heap.size, 0, none⟩) (lt_of_block q2.out) (by simp; omega)).trans z2))
  all_goals
    go_wp2
    go_ret
    have t3 : Touch [p, mf, mt] w w3 := (((HTW.out.mono (by simp)).drewN _).trans ht2 (by simp)).trans ht3 (by simp)
    exact ⟨rfl, ⟨w2, Nat.le_trans HTW.out.size ht2.size, hR2, hpost⟩, t3⟩
end

end Go.Proofs.YtcpncfngadablaaGreatDoor
/-
  What is told of a fault; Create whole, under what befalls it.
-/
namespace Go.Proofs.YtcpncfngadablaaGreatDoor
open Go.RowKit Go.Deep

abbrev DiskC.faulted (D : DiskC) : DiskC := { D with c := { D.c with faults := D.c.faults + 1 } }
abbrev PubA.faulted (A : PubA) : PubA := { A with c := { A.c with calls := A.c.calls + 1, faults := A.c.faults + 1 } }
abbrev PubA.shut (A : PubA) : PubA := { A with on := false, c := { A.c with calls := A.c.calls + 1 } }



section
variable {w w' : World} {E : Nat → Addr} {lo p mf mt : Nat} {D : DiskC}


theorem Rep.fault (R : Rep w lo p mf mt D) : Rep (w.setCell ⟨p, 8, none⟩ (.int .i64 (D.c.faults + 1))) lo p mf mt D.faulted ∧ Touch [p] w (w.setCell ⟨p, 8, none⟩ (.int .i64 (D.c.faults + 1))) := by
  have ht : Touch [p] w (w.setCell ⟨p, 8, none⟩ (.int .i64 (D.c.faults + 1))) := (Touch.refl [p] w).setCell (by simp) _
  refine ⟨R.setRow rfl rfl rfl ht ?_, ht⟩
  rw [heap_setCell_row R.row 8]
  rfl

set_option maxHeartbeats 400000 in
theorem answer_fault (V : Env w lo E) (R : Rep w lo p mf mt D) (h0 : 0 ≤ D.c.faults) (h1 : D.c.faults ≤ 1099511627776) :
    Calls Tryz.prog 33 #[ptr p, errV E 1] w fun e w' => e = .returned (.int .i64 9) ∧ Rep w' lo p mf mt D.faulted ∧ Touch [p] w w' := by
  have hlop : lo ≤ p := R.base p (by simp [DiskC.foot])
  have VF := V.touch R.fault.2 (by simp; exact hlop)
  have c1 := V.sents.var 1 (by omega)
  have k8 := R.cell 8
  simp only [dRow] at k8
  have f8 := R.unfrozen 8
  have H1 := hid (is_at V.sents 1 1 (by omega) (by omega))
  have HT := hid (tell_err VF.sents 1 (by omega))
  have HR := hid R.fault
  clear V VF R
  go_enter Tryz.func33, Tryz.ntmps33
  go_wp2_with fail
  refine H1.out.mono ?_
  rintro e w1 ⟨rfl, rfl⟩
  go_wp2_with fail
  refine HT.out.mono ?_
  rintro e w1 ⟨rfl, rfl⟩
  go_wp2
  go_ret
  exact ⟨rfl, HR.out.1, HR.out.2⟩

set_option maxHeartbeats 400000 in
theorem Create_of2 {ev : Value} {s : ByteArray} {Post Post2 : World → Prop} (h : Calls Tryz.prog 34 #[ptr p, .string s] w fun e w' => e = .returned ev ∧ Post w') {v : Int}
    (ha : ∀ w1, Post w1 → Calls Tryz.prog 33 #[ptr p, ev] w1 fun e w' => e = .returned (.int .i64 v) ∧ Post2 w') :
    Calls Tryz.prog 9 #[ptr p, .string s] w fun e w' => e = .returned (.int .i64 v) ∧ Post2 w' := by
  have H := hid h
  have HA := hid ha
  clear h ha
  go_enter Tryz.func9, Tryz.ntmps9
  go_wp2_with (first | (go_at_call 34; refine H.out.mono ?_; rintro e w1 ⟨rfl, hp⟩) | (go_at_call 33; refine (HA.out _ hp).mono ?_; rintro e w2 ⟨rfl, hq⟩))
  go_ret
  exact ⟨rfl, hq⟩
end

end Go.Proofs.YtcpncfngadablaaGreatDoor
namespace Go.Proofs.YtcpncfngadablaaGreatDoor
open Go.RowKit Go.Deep

section
variable {w w' : World} {E : Nat → Addr} {lo p mf mt : Nat} {D : DiskC}

theorem foot3 (R : Rep w lo p mf mt D) : ∀ b ∈ [p, mf, mt], b ∈ D.foot p mf mt ∧ lo ≤ b := fun b hb => by
  have h : b ∈ D.foot p mf mt := by simp at hb; rcases hb with rfl | rfl | rfl <;> simp [DiskC.foot]
  exact ⟨h, R.base b h⟩

end

end Go.Proofs.YtcpncfngadablaaGreatDoor
/-
  Seal under what befalls it.
-/
namespace Go.Proofs.YtcpncfngadablaaGreatDoor
open Go.RowKit Go.Deep

section
variable {w w' : World} {E : Nat → Addr} {lo p mf mt : Nat} {D : DiskC}

set_option maxRecDepth 100000 in
set_option maxHeartbeats 400000 in
theorem carry_seal_cut (V : Env w lo E) (R : Rep w lo p mf mt D) {a b : Int} (bf fb : Nat) (hb : 0 < b) {v : Value} {sv : Value} (hlf : lo ≤ fb) (hnp : fb ≠ p) (hbf : w.heap[bf]? = some (.cells #[ptr fb] 92 (0, 0))) (hfb : w.heap[fb]? = some (.cells #[v, sv] 118 (0, 0))) :
    Calls Tryz.prog 67 #[ptr p, .agg #[.int .i64 a, .int .i64 2, .int .i64 b], .func (.func 72) #[] #[ptr bf]] w fun e w' => e = .returned (errV E 2) ∧
      ∃ w1, Rep w1 lo p mf mt D.off ∧ Touch [p] w w1 ∧ Touch [fb] w1 w' ∧ w'.heap[fb]? = some (.cells #[.int .i64 1, sv] 118 (0, 0)) := by
  have hlop : lo ≤ p := R.base p (by simp [DiskC.foot])
  have VO := V.touch R.off.2 (by simp; exact hlop)
  have RO := R.off.1
  have TO := R.off.2
  have hp := lt_of_block R.row
  have nbf : bf ≠ p := fun e => by subst e; rw [R.row] at hbf; simp [dRow] at hbf
  have obf : (w.setCell ⟨p, 2, none⟩ (.bool false)).heap[bf]? = some (.cells #[ptr fb] 92 (0, 0)) := (TO.block bf (lt_of_block hbf) (by simp [nbf])).trans hbf
  have ofb : (w.setCell ⟨p, 2, none⟩ (.bool false)).heap[fb]? = some (.cells #[v, sv] 118 (0, 0)) := (TO.block fb (lt_of_block hfb) (by simp [hnp])).trans hfb
  have H := hid (fun o : Obj => seal1_any (w := (w.setCell ⟨p, 2, none⟩ (.bool false)).alloc o) b bf fb ((Below.heap_alloc _ o bf (lt_of_block obf)).trans obf) ((Below.heap_alloc _ o fb (lt_of_block ofb)).trans ofb))
  have HV := hid VO
  have HT := hid TO
  have HR := hid RO
  have HO := hid ofb
  have c2 : ∀ (o : Obj), (((w.setCell ⟨p, 2, none⟩ (.bool false)).alloc o).setCell ⟨fb, 0, none⟩ (.int .i64 1)).cell? ⟨2, 0, none⟩ = some (errV E 2) := fun o =>
    ((VO.alloc o).touch (F := [fb]) ((Touch.refl [fb] _).setCell (by simp) _) (by simp; exact hlf)).sents.var 2 (by omega)
  have k2 := R.cell 2
  simp only [dRow] at k2
  have f2 := R.unfrozen 2
  clear hbf hfb V VO RO TO obf ofb nbf
  go_enter Tryz.func67, Tryz.ntmps67
  go_wp2_with (go_at_call 72; refine (H.out _).mono ?_; rintro e w1 ⟨rfl, hw1⟩; have d2 : w1.cell? ⟨2, 0, none⟩ = some (errV E 2) := by (rw [hw1]; exact c2 _))
  go_ret
  refine ⟨rfl, (w.setCell ⟨p, 2, none⟩ (.bool false)).alloc (.cells #[.int .i64 a, .int .i64 2, .int .i64 b] 65), HR.out.alloc _, HT.out.alloc _, (Touch.refl [fb] _).setCell (by simp) _, ?_⟩
  rw [heap_setCell_row ((Below.heap_alloc _ _ fb (lt_of_block HO.out)).trans HO.out) 0]
  rfl

set_option maxRecDepth 100000 in
set_option maxHeartbeats 400000 in
theorem seal_gen (V : Env w lo E) (R : Rep w lo p mf mt D) (s : ByteArray) (ho : D.on = true) (hn : nameB s = true) {e0 : Ent} (hf : findE D.ents (nm s) = some e0) (hs : e0.file.shut = false) {a k b : Int} (hT : TroubleIs D.T D.c.calls a k b)
    (h0 : 0 ≤ D.c.calls) (h1 : D.c.calls ≤ 1099511627776) {v : Value} {Post : World → World → Prop}
    (HC : ∀ (w2 : World) (bf : Nat), Env w2 lo E → Rep w2 lo p mf mt D.numbered → w.heap.size ≤ w2.heap.size → w2.heap[bf]? = some (.cells #[ptr e0.lay.fb] 92 (0, 0)) →
      Calls Tryz.prog 67 #[ptr p, .agg #[.int .i64 a, .int .i64 k, .int .i64 b], .func (.func 72) #[] #[ptr bf]] w2 fun e w3 => e = .returned v ∧ Post w2 w3 ∧ Touch [p, e0.lay.fb] w2 w3) :
    Calls Tryz.prog 36 #[ptr p, .string s] w fun e w' => e = .returned v ∧ (∃ w2, w.heap.size ≤ w2.heap.size ∧ Rep w2 lo p mf mt D.numbered ∧ Post w2 w') ∧ Touch [p, mt, e0.lay.fb] w w' := by
  have H := hid (find_some R s ho hn hf)
  have hat := R.each e0 (findE_mem hf).1
  have hrow := hat.row
  have lfb := lt_of_block hrow
  have c0 := cell_row hrow 0
  simp [hs] at c0
  have hne := R.ent_ne (findE_mem hf).1 (b := e0.lay.fb) (by simp [Lay.foot])
  have hp := lt_of_block R.row
  have hmt : mt < w.heap.size := R.lt mt (by simp [DiskC.foot])
  have hlop : Hid (lo ≤ p ∧ lo ≤ mt) := hid ⟨R.base p (by simp [DiskC.foot]), R.base mt (by simp [DiskC.foot])⟩
  have HR := hid R
  have HV := hid V
  have HCC := hid HC
  have HSZ : Hid (∀ (w1 : World), w1.heap = w.heap → w.heap.size ≤ w1.heap.size) := hid fun w1 h => by rw [h]; exact Nat.le_refl _
  clear hf hs hrow hat R V HC
  go_enter Tryz.func36, Tryz.ntmps36
  go_wp2_with (first
    | (go_at_call 65; refine H.out.mono ?_; rintro e w1 ⟨rfl, hq⟩; have d0 := (Quiet.cell hq _).trans c0; rw [← Quiet.heap hq] at lfb hp hmt; have HQ := hid hq; clear hq c0)
    | (go_at_call 68; refine (number_any ((Quiet.rep HQ.out HR.out).alloc (.cells #[ptr e0.lay.fb] 92)) hT h0 h1).mono ?_; rintro e w2 ⟨rfl, hR2, ht2⟩; have q2 := hid (kept_row (heap_alloc_new w1 (.cells #[ptr e0.lay.fb] 92)) ht2 (by simp; omega)))
    | (go_at_call 67; refine (HCC.out w2 _ ((Quiet.env HQ.out HV.out |>.alloc _).touch ht2 (by simp; exact hlop.out)) hR2 (Nat.le_trans (HSZ.out _ (Quiet.heap HQ.out)) (Nat.le_trans (by simp) ht2.size)) q2.out).mono ?_; rintro e w3 ⟨rfl, hpost, ht3⟩))
  go_ret
  have t2 : Touch [p, mt] w w2 := ((Quiet.touch HQ.out [p, mt]).alloc _).trans ht2 (by simp)
  exact ⟨rfl, ⟨w2, t2.size, hR2, hpost⟩, (t2.mono (by simp)).trans ht3 (by simp)⟩

set_option maxHeartbeats 400000 in
theorem Seal_of2 {ev : Value} {s : ByteArray} {Post Post2 : World → Prop} (h : Calls Tryz.prog 36 #[ptr p, .string s] w fun e w' => e = .returned ev ∧ Post w') {v : Int}
    (ha : ∀ w1, Post w1 → Calls Tryz.prog 33 #[ptr p, ev] w1 fun e w' => e = .returned (.int .i64 v) ∧ Post2 w') :
    Calls Tryz.prog 12 #[ptr p, .string s] w fun e w' => e = .returned (.int .i64 v) ∧ Post2 w' := by
  have H := hid h
  have HA := hid ha
  clear h ha
  go_enter Tryz.func12, Tryz.ntmps12
  go_wp2_with (first | (go_at_call 36; refine H.out.mono ?_; rintro e w1 ⟨rfl, hp⟩) | (go_at_call 33; refine (HA.out _ hp).mono ?_; rintro e w2 ⟨rfl, hq⟩))
  go_ret
  exact ⟨rfl, hq⟩

end

end Go.Proofs.YtcpncfngadablaaGreatDoor
/-
  Delete under what befalls it: a fault does not.
-/
namespace Go.Proofs.YtcpncfngadablaaGreatDoor
open Go.RowKit Go.Deep

section
variable {w w' : World} {E : Nat → Addr} {lo p mf mt : Nat} {D : DiskC}

set_option maxRecDepth 100000 in
set_option maxHeartbeats 400000 in
theorem carry_drop_cut (V : Env w lo E) (R : Rep w lo p mf mt D) {s : ByteArray} {a b : Int} (bd bn bf : Nat) (hb : 0 < b) (hs : s.size ≤ 32) {e0 : Ent} (hf : findE D.ents (nm s) = some e0) (hS : Small D.pub)
    (hbd : w.heap[bd]? = some (.cells #[ptr p] 23 (0, 0))) (hbn : w.heap[bn]? = some (.cells #[.string s] 9 (0, 0))) (hbf : w.heap[bf]? = some (.cells #[ptr e0.lay.fb] 92 (0, 0))) :
    Calls Tryz.prog 67 #[ptr p, .agg #[.int .i64 a, .int .i64 2, .int .i64 b], .func (.func 76) #[] #[ptr bd, ptr bn, ptr bf]] w fun e w' => e = .returned (errV E 2) ∧ Rep w' lo p mf mt { D.off with ents := dropE (nm s) D.ents, c := { D.c with used := D.c.used - e0.file.blocks.length, most := max D.c.most (D.c.used - e0.file.blocks.length) } } ∧ Touch [p, mf] w w' := by
  have hlop : lo ≤ p := R.base p (by simp [DiskC.foot])
  have hlom : lo ≤ mf := R.base mf (by simp [DiskC.foot])
  have VO := V.touch R.off.2 (by simp; exact hlop)
  have RO := R.off.1
  have TO := R.off.2
  have hp := lt_of_block R.row
  have nbd : bd ≠ p := fun e => by subst e; rw [R.row] at hbd; simp [dRow] at hbd
  have nbn : bn ≠ p := fun e => by subst e; rw [R.row] at hbn; simp [dRow] at hbn
  have nbf : bf ≠ p := fun e => by subst e; rw [R.row] at hbf; simp [dRow] at hbf
  have obd : (w.setCell ⟨p, 2, none⟩ (.bool false)).heap[bd]? = some (.cells #[ptr p] 23 (0, 0)) := (TO.block bd (lt_of_block hbd) (by simp [nbd])).trans hbd
  have obn : (w.setCell ⟨p, 2, none⟩ (.bool false)).heap[bn]? = some (.cells #[.string s] 9 (0, 0)) := (TO.block bn (lt_of_block hbn) (by simp [nbn])).trans hbn
  have obf : (w.setCell ⟨p, 2, none⟩ (.bool false)).heap[bf]? = some (.cells #[ptr e0.lay.fb] 92 (0, 0)) := (TO.block bf (lt_of_block hbf) (by simp [nbf])).trans hbf
  have hSO : Small D.off.pub := ⟨hS.calls, hS.reads, hS.appends, hS.full, hS.used, hS.files, hS.blocks, hS.size⟩
  have H := hid (fun o : Obj => drop1_any (RO.alloc o) b bd bn bf hs hf hSO ((Below.heap_alloc _ o bd (lt_of_block obd)).trans obd) ((Below.heap_alloc _ o bn (lt_of_block obn)).trans obn) ((Below.heap_alloc _ o bf (lt_of_block obf)).trans obf))
  have HV := hid VO
  have HT := hid TO
  have hF : Hid (∀ b ∈ [p, mf], lo ≤ b) := hid (by simp; exact ⟨hlop, hlom⟩)
  have k2 := R.cell 2
  simp only [dRow] at k2
  have f2 := R.unfrozen 2
  clear hbd hbn hbf V VO RO TO obd obn obf nbd nbn nbf hf hS hSO
  go_enter Tryz.func67, Tryz.ntmps67
  go_wp2_with (go_at_call 76; refine (H.out _).mono ?_; rintro e w1 ⟨rfl, hR, ht⟩; have c2 : w1.cell? ⟨2, 0, none⟩ = some (errV E 2) := (((HV.out.alloc _).touch ht hF.out).sents.var 2 (by omega)))
  go_ret
  have h1 : Touch [p, mf] w w1 := (((HT.out.mono (by simp)).alloc _)).trans ht (by simp)
  exact ⟨rfl, hR, h1⟩

set_option maxRecDepth 100000 in
set_option maxHeartbeats 400000 in
theorem drop_gen (V : Env w lo E) (R : Rep w lo p mf mt D) (s : ByteArray) (ho : D.on = true) (hn : nameB s = true) {e0 : Ent} (hf : findE D.ents (nm s) = some e0) {a k b : Int} (hT : TroubleIs D.T D.c.calls a k b) (h0 : 0 ≤ D.c.calls) (h1 : D.c.calls ≤ 1099511627776) {v : Value} {Post : World → World → Prop}
    (HC : ∀ (w2 : World) (bd bn bf : Nat), Env w2 lo E → Rep w2 lo p mf mt D.numbered → w.heap.size ≤ w2.heap.size → w2.heap[bd]? = some (.cells #[ptr p] 23 (0, 0)) → w2.heap[bn]? = some (.cells #[.string s] 9 (0, 0)) → w2.heap[bf]? = some (.cells #[ptr e0.lay.fb] 92 (0, 0)) →
      Calls Tryz.prog 67 #[ptr p, .agg (if k = 1 then #[.int .i64 0, .int .i64 0, .int .i64 0] else #[.int .i64 a, .int .i64 k, .int .i64 b]), .func (.func 76) #[] #[ptr bd, ptr bn, ptr bf]] w2 fun e w3 => e = .returned v ∧ Post w2 w3 ∧ Touch [p, mf] w2 w3) :
    Calls Tryz.prog 40 #[ptr p, .string s] w fun e w' => e = .returned v ∧ (∃ w2, w.heap.size ≤ w2.heap.size ∧ Rep w2 lo p mf mt D.numbered ∧ Post w2 w') ∧ Touch [p, mf, mt] w w' := by
  obtain ⟨W, hW⟩ : ∃ W, W = (w.alloc (.cells #[ptr p] 23)).alloc (.cells #[.string s] 9) := ⟨_, rfl⟩
  have hW1 : W.heap[w.heap.size]? = some (.cells #[ptr p] 23) ∧ W.heap[w.heap.size + 1]? = some (.cells #[.string s] 9) := by rw [hW]; exact heap_two w _ _
  have hTW : Touch [] w W := by rw [hW]; exact ((Touch.refl [] w).alloc _).alloc _
  have RW : Rep W lo p mf mt D := R.touch hTW (by simp)
  have VW : Env W lo E := V.touch hTW (by simp)
  have H := hid (find_some RW s ho hn hf)
  have HR := hid RW
  have HV := hid VW
  have HW := hid hW1
  have HTW := hid hTW
  have HE := hid hW
  have HCC := hid HC
  have hp := lt_of_block R.row
  have hmf := R.files.lt
  have hmt : mt < w.heap.size := R.lt mt (by simp [DiskC.foot])
  have hlop : Hid (lo ≤ p ∧ lo ≤ mt) := hid ⟨R.base p (by simp [DiskC.foot]), R.base mt (by simp [DiskC.foot])⟩
  clear hf R RW hW1 hTW hW V VW HC
  go_enter Tryz.func40, Tryz.ntmps40
  go_wp2_with fail
  rw [← HE.out]
  refine H.out.mono ?_
  rintro e w1 ⟨rfl, hq⟩
  have l1 : w.heap.size + 1 < w1.heap.size := by rw [Quiet.heap hq]; exact lt_of_block HW.out.2
  have cd : w1.cell? ⟨w.heap.size, 0, none⟩ = some (ptr p) := (Quiet.cell hq _).trans (cell_row HW.out.1 0)
  have cn : w1.cell? ⟨w.heap.size + 1, 0, none⟩ = some (.string s) := (Quiet.cell hq _).trans (cell_row HW.out.2 0)
  have l0 : w.heap.size < w1.heap.size := by omega
  have HL := hid l1
  have HQ := hid hq
  clear hq l1
  go_wp2_with fail
  refine (number_any ((Quiet.rep HQ.out HR.out).alloc (.cells #[ptr e0.lay.fb] 92)) hT h0 h1).mono ?_
  rintro e w2 ⟨rfl, hR2, ht2⟩
  have q0 : w1.heap[w.heap.size]? = some (.cells #[ptr p] 23) := by rw [Quiet.heap HQ.out]; exact HW.out.1
  have q1 : w1.heap[w.heap.size + 1]? = some (.cells #[.string s] 9) := by rw [Quiet.heap HQ.out]; exact HW.out.2
  have r0 := hid (kept_row ((Below.heap_alloc w1 (.cells #[ptr e0.lay.fb] 92) _ l0).trans q0) ht2 (by simp; omega))
  have r1 := hid (kept_row ((Below.heap_alloc w1 (.cells #[ptr e0.lay.fb] 92) _ HL.out).trans q1) ht2 (by simp; omega))
  have r2 := hid (kept_row (heap_alloc_new w1 (.cells #[ptr e0.lay.fb] 92)) ht2 (by simp; omega))
  have cd2 : w2.cell? ⟨w.heap.size, 0, none⟩ = some (ptr p) := cell_row r0.out 0
  have l2 : w.heap.size < w2.heap.size := lt_of_block r0.out
  have t2 : Touch [p, mt] w w2 := ((((HTW.out.mono (by simp)).trans (Quiet.touch HQ.out []) (by simp))).alloc _).trans ht2 (by simp)
  have HT2 := hid t2
  have HV2 := hid (((Quiet.env HQ.out HV.out).alloc (.cells #[ptr e0.lay.fb] 92)).touch ht2 (by simp; exact hlop.out))
  have HCW := hid (fun (o : Obj) => HCC.out (w2.alloc o) _ _ _ (HV2.out.alloc o) (hR2.alloc o) (Nat.le_trans t2.size (by simp)) ((Below.heap_alloc _ o _ (lt_of_block r0.out)).trans r0.out) ((Below.heap_alloc _ o _ (lt_of_block r1.out)).trans r1.out) ((Below.heap_alloc _ o _ (lt_of_block r2.out)).trans r2.out))
  clear q0 q1 cd cn t2 ht2
  by_cases k1 : k = 1
  · subst k1
    simp only [if_true] at HCW
    go_wp2_with (go_at_call 67; refine (HCW.out _).mono ?_; rintro e w3 ⟨rfl, hpost, ht3⟩)
    go_ret
    exact ⟨rfl, ⟨_, Nat.le_trans HT2.out.size (by simp), hR2.alloc _, hpost⟩, ((HT2.out.mono (by simp)).alloc _).trans ht3 (by simp)⟩
  · have hk1 : (k == 1) = false := by simp [k1]
    simp only [k1, if_false] at HCW
    go_wp2_with (go_at_call 67; refine (HCW.out _).mono ?_; rintro e w3 ⟨rfl, hpost, ht3⟩)
    go_ret
    exact ⟨rfl, ⟨_, Nat.le_trans HT2.out.size (by simp), hR2.alloc _, hpost⟩, ((HT2.out.mono (by simp)).alloc _).trans ht3 (by simp)⟩

set_option maxHeartbeats 400000 in
theorem Delete_of2 {ev : Value} {s : ByteArray} {Post Post2 : World → Prop} (h : Calls Tryz.prog 40 #[ptr p, .string s] w fun e w' => e = .returned ev ∧ Post w') {v : Int}
    (ha : ∀ w1, Post w1 → Calls Tryz.prog 33 #[ptr p, ev] w1 fun e w' => e = .returned (.int .i64 v) ∧ Post2 w') :
    Calls Tryz.prog 16 #[ptr p, .string s] w fun e w' => e = .returned (.int .i64 v) ∧ Post2 w' := by
  have H := hid h
  have HA := hid ha
  clear h ha
  go_enter Tryz.func16, Tryz.ntmps16
  go_wp2_with (first | (go_at_call 40; refine H.out.mono ?_; rintro e w1 ⟨rfl, hp⟩) | (go_at_call 33; refine (HA.out _ hp).mono ?_; rintro e w2 ⟨rfl, hq⟩))
  go_ret
  exact ⟨rfl, hq⟩

end

end Go.Proofs.YtcpncfngadablaaGreatDoor
/-
  Append under what befalls it.
-/
namespace Go.Proofs.YtcpncfngadablaaGreatDoor
open Go.RowKit Go.Deep

section
variable {w w' : World} {E : Nat → Addr} {lo p mf mt : Nat} {D : DiskC}

set_option maxRecDepth 100000 in
set_option maxHeartbeats 400000 in
theorem carry_put_cut (V : Env w lo E) (R : Rep w lo p mf mt D) {s : ByteArray} {x y : Int} (bf bb bd : Nat) (hy : 0 < y) {e0 : Ent} (hf : findE D.ents (nm s) = some e0) (hS : Small D.pub) {bl : List UInt8} (a : Addr) (c : Nat) (hbl : bl.length = D.B) (hc : bl.length ≤ c)
    (hsrc : ∀ j v, (Lib.byteCells bl)[j]? = some v → w.cell? (a.add j) = some v) (ha : a.block < w.heap.size) (hap : a.block ≠ p)
    (hbf : w.heap[bf]? = some (.cells #[ptr e0.lay.fb] 92 (0, 0))) (hbb : w.heap[bb]? = some (.cells #[.slice (some a) bl.length c] 31 (0, 0))) (hbd : w.heap[bd]? = some (.cells #[ptr p] 23 (0, 0))) :
    Calls Tryz.prog 67 #[ptr p, .agg #[.int .i64 x, .int .i64 2, .int .i64 y], .func (.func 70) #[] #[ptr bf, ptr bb, ptr bd]] w fun e w' => e = .returned (errV E 2) ∧
      (∃ L, Rep w' lo p mf mt { D.off with ents := setE (nm s) { e0.file with blocks := e0.file.blocks ++ [cutB y.toNat bl] } L D.ents, c := { D.c with used := D.c.used + 1, most := max D.c.most (D.c.used + 1) } } ∧ ∀ b ∈ L.foot, b ∈ e0.lay.foot ∨ w.heap.size ≤ b) ∧ Touch (p :: e0.lay.foot) w w' := by
  have hlop : lo ≤ p := R.base p (by simp [DiskC.foot])
  have VO := V.touch R.off.2 (by simp; exact hlop)
  have RO := R.off.1
  have TO := R.off.2
  have hp := lt_of_block R.row
  have nbd : bd ≠ p := fun e => by subst e; rw [R.row] at hbd; simp [dRow] at hbd
  have nbb : bb ≠ p := fun e => by subst e; rw [R.row] at hbb; simp [dRow] at hbb
  have nbf : bf ≠ p := fun e => by subst e; rw [R.row] at hbf; simp [dRow] at hbf
  have obd : (w.setCell ⟨p, 2, none⟩ (.bool false)).heap[bd]? = some (.cells #[ptr p] 23 (0, 0)) := (TO.block bd (lt_of_block hbd) (by simp [nbd])).trans hbd
  have obb : (w.setCell ⟨p, 2, none⟩ (.bool false)).heap[bb]? = some (.cells #[.slice (some a) bl.length c] 31 (0, 0)) := (TO.block bb (lt_of_block hbb) (by simp [nbb])).trans hbb
  have obf : (w.setCell ⟨p, 2, none⟩ (.bool false)).heap[bf]? = some (.cells #[ptr e0.lay.fb] 92 (0, 0)) := (TO.block bf (lt_of_block hbf) (by simp [nbf])).trans hbf
  have hSO : Small D.off.pub := ⟨hS.calls, hS.reads, hS.appends, hS.full, hS.used, hS.files, hS.blocks, hS.size⟩
  have hz : (w.setCell ⟨p, 2, none⟩ (.bool false)).heap.size = w.heap.size := by simp [World.setCell]
  have hadd : ∀ j, (a.add j).block = a.block := fun j => by unfold Addr.add; split <;> rfl
  have hsrc' : ∀ (o : Obj) j v, (Lib.byteCells bl)[j]? = some v → ((w.setCell ⟨p, 2, none⟩ (.bool false)).alloc o).cell? (a.add j) = some v := fun o j v h => by
    rw [World.cell?_of_block (w := w.setCell ⟨p, 2, none⟩ (.bool false)) (Below.heap_alloc _ o _ (by rw [hadd, hz]; exact ha)), TO.cell (p := a.add j) (by rw [hadd]; exact ha) (by rw [hadd]; simp [hap])]
    exact hsrc j v h
  have H := hid (fun o : Obj => put1_any (RO.alloc o) y (by omega) bf bb bd hf hSO a c hbl hc (hsrc' o) (by simp [hz]; omega) (Nat.le_trans V.room (by simp [hz])) ((Below.heap_alloc _ o bf (lt_of_block obf)).trans obf) ((Below.heap_alloc _ o bb (lt_of_block obb)).trans obb) ((Below.heap_alloc _ o bd (lt_of_block obd)).trans obd))
  have HV := hid VO
  have HT := hid TO
  have HZ := hid hz
  have hF : Hid (∀ b ∈ p :: e0.lay.foot, lo ≤ b) := hid (fun b hb => by
    rcases List.mem_cons.1 hb with rfl | hb
    · exact hlop
    · exact R.base b (foot_ent hf b hb))
  have k2 := R.cell 2
  simp only [dRow] at k2
  have f2 := R.unfrozen 2
  clear hbd hbb hbf V VO RO TO obd obb obf nbd nbb nbf hf hS hSO hsrc hsrc' hadd hz ha hbl
  go_enter Tryz.func67, Tryz.ntmps67
  go_wp2_with (go_at_call 70; refine (H.out _).mono ?_; rintro e w1 ⟨rfl, ⟨L, hR, hL⟩, ht⟩; have c2 : w1.cell? ⟨2, 0, none⟩ = some (errV E 2) := (((HV.out.alloc _).touch ht hF.out).sents.var 2 (by omega)))
  go_ret
  have h1 : Touch (p :: e0.lay.foot) w w1 := (((HT.out.mono (by simp)).alloc _)).trans ht (fun b hb => .inl hb)
  refine ⟨rfl, ⟨L, hR, fun b hb => ?_⟩, h1⟩
  rcases hL b hb with h | h
  · exact .inl h
  · right; have := HZ.out; simp at h; omega

set_option maxRecDepth 100000 in
set_option maxHeartbeats 400000 in
theorem put_gen (V : Env w lo E) (R : Rep w lo p mf mt D) (s : ByteArray) (ho : D.on = true) (hn : nameB s = true) {e0 : Ent} (hf : findE D.ents (nm s) = some e0) (hs : e0.file.shut = false) {a : Addr} {c : Nat} (hu : D.c.used < D.Bs) {x k y : Int} (hT : TroubleIs D.T D.c.calls x k y) (h0 : 0 ≤ D.c.calls) (h1 : D.c.calls ≤ 1099511627776) {v : Value} {Post : World → World → Prop}
    (HC : ∀ (w2 : World) (bf bb bd : Nat), Env w2 lo E → Rep w2 lo p mf mt D.numbered → Touch [p, mt] w w2 → w2.heap[bf]? = some (.cells #[ptr e0.lay.fb] 92 (0, 0)) → w2.heap[bb]? = some (.cells #[.slice (some a) D.B c] 31 (0, 0)) → w2.heap[bd]? = some (.cells #[ptr p] 23 (0, 0)) →
      Calls Tryz.prog 67 #[ptr p, .agg #[.int .i64 x, .int .i64 k, .int .i64 y], .func (.func 70) #[] #[ptr bf, ptr bb, ptr bd]] w2 fun e w3 => e = .returned v ∧ Post w2 w3 ∧ Touch (p :: e0.lay.foot) w2 w3) :
    Calls Tryz.prog 35 #[ptr p, .string s, .slice (some a) D.B c] w fun e w' => e = .returned v ∧ (∃ w2, Touch [p, mt] w w2 ∧ Rep w2 lo p mf mt D.numbered ∧ Post w2 w') ∧ Touch (p :: mt :: e0.lay.foot) w w' := by
  obtain ⟨W, hW⟩ : ∃ W, W = (w.alloc (.cells #[ptr p] 23)).alloc (.cells #[.slice (some a) D.B c] 31) := ⟨_, rfl⟩
  have hW1 : W.heap[w.heap.size]? = some (.cells #[ptr p] 23) ∧ W.heap[w.heap.size + 1]? = some (.cells #[.slice (some a) D.B c] 31) := by rw [hW]; exact heap_two w _ _
  have hTW : Touch [] w W := by rw [hW]; exact ((Touch.refl [] w).alloc _).alloc _
  have RW : Rep W lo p mf mt D := R.touch hTW (by simp)
  have H := hid (find_some RW s ho hn hf)
  have hrow := (RW.each e0 (findE_mem hf).1).row
  have lfb := lt_of_block hrow
  have hp := lt_of_block RW.row
  have hpw := lt_of_block R.row
  have HR0 := hid R
  have hmw : mt < w.heap.size := R.lt mt (by simp [DiskC.foot])
  have c0 := cell_row hrow 0
  rw [hs] at c0
  simp at c0
  have x0 := RW.cell 0
  have x1 := RW.cell 1
  have x10 := RW.cell 10
  simp only [dRow] at x0 x1 x10
  have cd := cell_row hW1.1 0
  have cb := cell_row hW1.2 0
  have lz : w.heap.size + 1 < W.heap.size := lt_of_block hW1.2
  simp at cd cb
  have hnb : ((D.B : Int) != (D.B : Int)) = false := by simp
  have HE := hid hW
  have HTW := hid hTW
  have HR := hid RW
  have HF := hid hf
  have HV := hid (V.touch hTW (by simp))
  have HCC := hid HC
  have hlop : Hid (lo ≤ p ∧ lo ≤ mt) := hid ⟨R.base p (by simp [DiskC.foot]), R.base mt (by simp [DiskC.foot])⟩
  have HW := hid hW1
  clear hf R RW hW1 hTW hW hrow hs HC V
  go_enter Tryz.func35, Tryz.ntmps35
  go_wp2_with fail
  rw [← HE.out]
  refine H.out.mono ?_
  rintro e w1 ⟨rfl, hq⟩
  have d0 := (Quiet.cell hq _).trans c0
  have y0 := (Quiet.cell hq _).trans x0
  have y1 := (Quiet.cell hq _).trans x1
  have y10 := (Quiet.cell hq _).trans x10
  have yd := (Quiet.cell hq _).trans cd
  have yb := (Quiet.cell hq _).trans cb
  have ee := Quiet.heap hq
  have l1 : e0.lay.fb < w1.heap.size := by rw [ee]; exact lfb
  have l2 : p < w1.heap.size := by rw [ee]; exact hp
  have l3 : w.heap.size < w1.heap.size := by rw [ee]; omega
  have l4 : w.heap.size + 1 < w1.heap.size := by rw [ee]; omega
  have hb1 : Hid (w1.heap[w.heap.size]? = some (.cells #[ptr p] 23)) := (congrArg (fun h => h[w.heap.size]?) ee).trans HW.out.1
  have hb2 : Hid (w1.heap[w.heap.size + 1]? = some (.cells #[.slice (some a) D.B c] 31)) := (congrArg (fun h => h[w.heap.size + 1]?) ee).trans HW.out.2
  have HQ := hid hq
  clear hq ee c0 x0 x1 x10 cd cb lfb hp lz
  go_wp2
  go_quiet (fail)
  go_wp2
  go_quiet (fail)
  go_wp2
  go_region_held3 (fun W' => W'.cell? ⟨w.heap.size, 0, none⟩ = some (ptr p)) (go_keep)
    (first
      | (go_at_call 68; refine (number_any (((Quiet.rep HQ.out HR.out).alloc (.cells #[ptr e0.lay.fb] 92)).drewN _) hT h0 h1).mono ?_; rintro e w2 ⟨rfl, hR2, ht2⟩; have r0 := hid (put_row (o := .cells #[ptr e0.lay.fb] 92) hb1.out ht2 hpw hmw); have r1 := hid (put_row (o := .cells #[ptr e0.lay.fb] 92) hb2.out ht2 (by omega) (by omega)); have r2 := hid (put_new (o := .cells #[ptr e0.lay.fb] 92) ht2 l2 (by omega)); have z2 : w2.cell? ⟨w.heap.size, 0, none⟩ = some (ptr p) := cell_row r0.out 0)
      | (go_at_call 67; refine (HCC.out w2 _ _ _ ((((Quiet.env HQ.out HV.out).alloc _).drewN _).touch ht2 (by simp; exact hlop.out)) hR2 ((((((HTW.out.mono (by simp)).trans (Quiet.touch HQ.out []) (by simp))).alloc _).drewN _).trans ht2 (by simp)) r2.out r1.out r0.out).mono ?_; rintro e w3 ⟨rfl, hpost, ht3⟩; have z3 : w3.cell? ⟨w.heap.size, 0, none⟩ = some (ptr p) := (put_keeps HR0.out HF.out ht3 (lt_of_block r0.out)).trans z2))
  all_goals
    go_wp2
    go_ret
    have t2 : Touch [p, mt] w w2 := (((((HTW.out.mono (by simp)).trans (Quiet.touch HQ.out []) (by simp))).alloc _).drewN _).trans ht2 (by simp)
    exact ⟨rfl, ⟨w2, t2, hR2, hpost⟩, (t2.mono (by simp)).trans ht3 (fun b hb => by rcases List.mem_cons.1 hb with h | h <;> simp [h])⟩

set_option maxRecDepth 100000 in
set_option maxHeartbeats 400000 in
theorem Append_ok2 (V : Env w lo E) (R : Rep w lo p mf mt D) (s : ByteArray) (ho : D.on = true) (hn : nameB s = true) {e0 : Ent} (hf : findE D.ents (nm s) = some e0) (hs : e0.file.shut = false) {bl : List UInt8} {a : Addr} {c : Nat} (hbl : bl.length = D.B) (hc : bl.length ≤ c)
    (hsrc : ∀ j v, (Lib.byteCells bl)[j]? = some v → w.cell? (a.add j) = some v) (ha : a.block < w.heap.size) (hpl : a.block ≠ p) (hml : a.block ≠ mt) (hu : D.c.used < D.Bs) {x k y : Int} (hT : TroubleIs D.T D.c.calls x k y) (hk1 : (k == 1) = false) (hk2 : (k == 2) = false) (hS : Small D.pub) (hcc : D.c.calls + 1 ≤ 1099511627776) :
    Calls Tryz.prog 10 #[ptr p, .string s, .slice (some a) D.B c] w fun e w' => e = .returned (.int .i64 0) ∧
      (∃ L, Rep w' lo p mf mt { D.numbered with ents := setE (nm s) { e0.file with blocks := e0.file.blocks ++ [bl] } L D.ents, c := { D.numbered.c with appends := D.c.appends + 1, used := D.c.used + 1, most := max D.c.most (D.c.used + 1) } } ∧ ∀ b ∈ L.foot, b ∈ e0.lay.foot ∨ w.heap.size ≤ b) ∧ Touch (p :: mt :: e0.lay.foot) w w' := by
  have H := hid (put_ok R s ho hn hf hs hbl hc hsrc ha hpl hml V.room hu hT hk1 hk2 hS hcc)
  have hF : ∀ b ∈ p :: mt :: e0.lay.foot, lo ≤ b := fun b hb => by
    rcases List.mem_cons.1 hb with rfl | hb
    · exact R.base _ (by simp [DiskC.foot])
    · rcases List.mem_cons.1 hb with rfl | hb
      · exact R.base _ (by simp [DiskC.foot])
      · exact R.base b (foot_ent hf b hb)
  have hr := hS.appends
  simp only [DiskC.pub] at hr
  obtain ⟨hr1, hr2⟩ := hr
  have hp := lt_of_block R.row
  clear hf hs R hS hT hbl hsrc
  go_enter Tryz.func10, Tryz.ntmps10
  go_wp2_with (first
    | (go_at_call 35; refine H.out.mono ?_; rintro e w1 ⟨rfl, ⟨L, hR1, hL⟩, ht1⟩; have k7 := hR1.cell 7; have f7 := hR1.unfrozen 7; simp only [dRow, DiskC.numbered] at k7; have HR1 := hid hR1; have HV1 := hid (V.touch ht1 hF); have HT1 := hid ht1; have HL := hid hL; clear hR1 ht1 hL)
    | (go_at_call 33; refine (answer_nil (E := E) (p := p) ?_).mono ?_; exact (HV1.out.touch (F := [p]) ((Touch.refl [p] w1).setCell (p := ⟨p, 7, none⟩) (by simp) _) (fun b hb => hF b (by simp at hb; simp [hb]))).sents; rintro e w2 ⟨rfl, rfl⟩))
  go_ret
  have t1 : Touch [p] w1 (w1.setCell ⟨p, 7, none⟩ (.int .i64 (D.c.appends + 1))) := (Touch.refl [p] w1).setCell (by simp) _
  refine ⟨rfl, ⟨L, HR1.out.setRow rfl rfl rfl t1 ?_, HL.out⟩, HT1.out.trans t1 (by simp)⟩
  rw [heap_setCell_row HR1.out.row 7]
  rfl


set_option maxHeartbeats 400000 in
theorem Append_err2 {s : ByteArray} {sa : Option Addr} {n c : Nat} {j : Nat} {v : Int} {Post Post2 : World → Prop} (h : Calls Tryz.prog 35 #[ptr p, .string s, .slice sa n c] w fun e w' => e = .returned (errV E j) ∧ Post w')
    (ha : ∀ w1, Post w1 → Calls Tryz.prog 33 #[ptr p, errV E j] w1 fun e w' => e = .returned (.int .i64 v) ∧ Post2 w') :
    Calls Tryz.prog 10 #[ptr p, .string s, .slice sa n c] w fun e w' => e = .returned (.int .i64 v) ∧ Post2 w' := by
  have H := hid h
  have HA := hid ha
  clear h ha
  go_enter Tryz.func10, Tryz.ntmps10
  go_wp2_with (first | (go_at_call 35; refine H.out.mono ?_; rintro e w1 ⟨rfl, ht⟩; have HT := hid ht; clear ht) | (go_at_call 33; refine (HA.out _ HT.out).mono ?_; rintro e w2 ⟨rfl, hp⟩))
  go_ret
  exact ⟨rfl, hp⟩
end

end Go.Proofs.YtcpncfngadablaaGreatDoor
/-
  byCall: the map of troubles out of a list.
-/
namespace Go.Proofs.YtcpncfngadablaaGreatDoor
open Go.RowKit Go.Deep

/-- A map whose elements are troubles. -/
def AllT (T : DataW Unit) : Prop := ∃ l, T = .map l ∧ ∀ x ∈ l, ∃ a k b : Int, x.2 = .agg [.lit (.int .i64 a), .lit (.int .i64 k), .lit (.int .i64 b)]

theorem AllT.trouble {T : DataW Unit} (h : AllT T) (n : Int) : ∃ a k b, TroubleIs T n a k b := by
  obtain ⟨l, rfl, hl⟩ := h
  unfold TroubleIs DataW.atKey
  simp only
  split
  · next p hp => obtain ⟨a, k, b, e⟩ := hl p (List.mem_of_find?_eq_some hp); exact ⟨a, k, b, e⟩
  · exact ⟨0, 0, 0, rfl⟩
theorem AllT.nil : AllT (.map []) := ⟨[], rfl, by simp⟩
theorem insert_mem {x y : Lit × DataW Unit} : ∀ {l : List (Lit × DataW Unit)}, y ∈ DataW.insert x l → y = x ∨ y ∈ l
  | [], h => by simp [DataW.insert] at h; exact .inl h
  | z :: r, h => by
    unfold DataW.insert at h
    split at h
    · rcases List.mem_cons.1 h with h | h
      · exact .inl h
      · exact .inr h
    · rcases List.mem_cons.1 h with h | h
      · exact .inr (by simp [h])
      · rcases insert_mem h with h | h
        · exact .inl h
        · exact .inr (List.mem_cons_of_mem _ h)
theorem AllT.put {T : DataW Unit} (h : AllT T) (n : Lit) (a k b : Int) : AllT (T.put n (.agg [.lit (.int .i64 a), .lit (.int .i64 k), .lit (.int .i64 b)])) := by
  obtain ⟨l, rfl, hl⟩ := h
  refine ⟨_, rfl, fun x hx => ?_⟩
  rcases insert_mem hx with rfl | hx
  · exact ⟨a, k, b, rfl⟩
  · exact hl x (List.mem_filter.1 hx).1

structure TrA where
  at_ : Int
  kind : Int
  bytes : Int

/-- A list of troubles that came in. -/
structure TrsAt (w : World) (sa : Option Addr) (l : List TrA) : Prop where
  at_ : ∀ k (hk : k < l.length), ∃ a, sa = some a ∧ a.block < w.heap.size ∧ w.cell? (a.add (k * 3)) = some (.int .i64 l[k].at_) ∧ w.cell? ⟨(a.add (k * 3)).block, (a.add (k * 3)).off + 1, none⟩ = some (.int .i64 l[k].kind) ∧ w.cell? ⟨(a.add (k * 3)).block, (a.add (k * 3)).off + 2, none⟩ = some (.int .i64 l[k].bytes)
  wf : ∀ k (hk : k < l.length), (Lit.int .i64 l[k].at_).wf = true

theorem tr_add_block (a : Addr) (i : Nat) : (a.add i).block = a.block := by unfold Addr.add; split <;> rfl

theorem TrsAt.read {w w' : World} {sa : Option Addr} {l : List TrA} (h : TrsAt w sa l) {k : Nat} (hk : k < l.length) (hb : Below w.heap.size w w') :
    ∃ a, sa = some a ∧ a.block < w.heap.size ∧ w'.cell? (a.add (k * 3)) = some (.int .i64 l[k].at_) ∧ w'.cell? ⟨(a.add (k * 3)).block, (a.add (k * 3)).off + 1, none⟩ = some (.int .i64 l[k].kind) ∧ w'.cell? ⟨(a.add (k * 3)).block, (a.add (k * 3)).off + 2, none⟩ = some (.int .i64 l[k].bytes) := by
  obtain ⟨a, e, hl, c0, c1, c2⟩ := h.at_ k hk
  have hc : ∀ q : Addr, q.block = (a.add (k * 3)).block → w'.cell? q = w.cell? q := fun q hq => hb.cell (by rw [hq, tr_add_block]; exact hl)
  exact ⟨a, e, hl, (hc _ rfl).trans c0, (hc ⟨(a.add (k * 3)).block, (a.add (k * 3)).off + 1, none⟩ rfl).trans c1, (hc ⟨(a.add (k * 3)).block, (a.add (k * 3)).off + 2, none⟩ rfl).trans c2⟩

theorem wrap_step {j m : Nat} (h : j < m) (h2 : m ≤ 1099511627776) : wrap64 ((j : Int) + 1) = (j : Int) + 1 := IntWalk.wrap64_in _ ⟨by omega, by omega⟩
theorem next_num (j : Nat) : Value.int .i64 ((j : Int) + 1) = Value.int .i64 ((j + 1 : Nat) : Int) := by simp
theorem less_step {j m : Nat} (h : j < m) : m - (intOf (.int .i64 ((j : Int) + 1))).toNat < m - (intOf (.int .i64 (j : Int))).toNat := by
  simp [intOf]
  omega

theorem tr_look {W : World} {mt n : Nat} {T : DataW Unit} {at_ a k b : Int} (hT : W.ownsMap Tryz.prog 3 trElem mt n T) (h : TroubleIs T at_ a k b) (hw : (Lit.int .i64 at_).wf = true) :
    (Instr.lookup 89 (.map (some mt)) (.int .i64 at_) true).run Tryz.prog W = .ok (.tuple #[.agg #[.int .i64 a, .int .i64 k, .int .i64 b], .bool (Maps.has T (.int .i64 at_))]) W := by
  obtain ⟨v, ps, hrun, hv⟩ := hT.look_ok (t := 89) (e := 65) (Maps.int_keyed Tryz.underlying3) Tryz.underlying89 (Tryz.zero65 W) (zd := .agg [.lit (.int .i64 0), .lit (.int .i64 0), .lit (.int .i64 0)]) (zp := []) rfl (Maps.keyOf_int_mk Tryz.underlying3 hw)
  unfold TroubleIs at h
  rw [h] at hv
  rw [hrun, trElem_inv hv]

theorem tr_store {W : World} {mt n : Nat} {T : DataW Unit} (hT : W.ownsMap Tryz.prog 3 trElem mt n T) (hn : n < 1099511627776) {at_ : Int} (hw : (Lit.int .i64 at_).wf = true) (k b : Int) :
    ∃ w2, (Instr.mapUpdate 89 (.map (some mt)) (.int .i64 at_) (.agg #[.int .i64 at_, .int .i64 k, .int .i64 b])).run Tryz.prog W = .ok () w2 ∧ w2.ownsMap Tryz.prog 3 trElem mt (n + 1) (T.put (.int .i64 at_) (.agg [.lit (.int .i64 at_), .lit (.int .i64 k), .lit (.int .i64 b)])) ∧ W.grownBy w2 (some mt) := by
  obtain ⟨w2, h1, h2, h3⟩ := hT.store (t := 89) (e := 65) (Maps.int_keyed Tryz.underlying3) Tryz.underlying89 (by unfold maxLen; omega) (Maps.keyOf_int_mk Tryz.underlying3 hw) (val := .agg #[.int .i64 at_, .int .i64 k, .int .i64 b]) (d := .agg [.lit (.int .i64 at_), .lit (.int .i64 k), .lit (.int .i64 b)]) (ps := []) rfl
  exact ⟨w2, h1, h2, h3.grown⟩

section
variable {w w' : World}

end

end Go.Proofs.YtcpncfngadablaaGreatDoor
/-
  A new disk with troubles.
-/
namespace Go.Proofs.YtcpncfngadablaaGreatDoor
open Go.RowKit Go.Deep

def DiskC.newT (B : Nat) (Bs : Int) (T : DataW Unit) : DiskC := ⟨B, Bs, true, [], T, ⟨0, 0, 0, 0, 0, 0, 0⟩⟩

theorem TrsAt.below {w w' : World} {sa : Option Addr} {l : List TrA} (h : TrsAt w sa l) (hb : Below w.heap.size w w') : TrsAt w' sa l :=
  ⟨fun k hk => by
    obtain ⟨a, e, h1, c0, c1, c2⟩ := h.read hk hb
    exact ⟨a, e, Nat.lt_of_lt_of_le h1 hb.size, c0, c1, c2⟩, h.wf⟩

section
variable {w : World}

theorem new_repT {w3 : World} {lo p mf mt : Nat} {B : Nat} {Bs : Int} {T : DataW Unit} (hrow : w3.heap[p]? = some (.cells (dRow (.newT B Bs T) mf mt) 91 (0, 0))) (hf : w3.ownsMap Tryz.prog 9 ptrElem mf 0 (.map [])) (ht : ∃ n, w3.ownsMap Tryz.prog 3 trElem mt n T) (h1 : p ≠ mf) (h2 : p ≠ mt) (h3 : mf ≠ mt) (hb : lo ≤ p ∧ lo ≤ mf ∧ lo ≤ mt) : Rep w3 lo p mf mt (.newT B Bs T) :=
  ⟨hrow, hf, ht, by simp [DiskC.newT], by simp [DiskC.foot, DiskC.newT, h1, h2, h3], by simp [DiskC.foot, DiskC.newT]; exact hb, by simp [DiskC.newT]⟩


end

end Go.Proofs.YtcpncfngadablaaGreatDoor
