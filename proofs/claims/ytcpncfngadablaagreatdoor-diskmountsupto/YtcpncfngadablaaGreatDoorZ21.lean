import Derived.Test.YtcpncfngadablaaGreatDoorZ20
/-
  Copy of a state that came in, told that what is handed out may be written.
-/
namespace Go.Proofs.YtcpncfngadablaaGreatDoor.Fz
open Go.RowKit Go.Deep ShfKit
set_option maxRecDepth 100000
/-- no cell of the row is marked; the slice begins where the row does. -/
def NoFz (a : Addr) (c : Array Value) (fz : Nat × Nat) : Prop := a = ⟨a.block, 0, none⟩ ∧ ∀ j, j < c.size → ¬ (fz.1 ≤ j ∧ j < fz.2)
section
variable {w w' W : World} {n n' : Nat} {sv fv : Value} {blocks : List (List UInt8)} {l : List SFile}
structure BlocksFr (w : World) (n : Nat) (sv : Value) (blocks : List (List UInt8)) : Prop where
  sl : ∃ a c, sv = .slice a blocks.length c
  at_ : ∀ i (hi : i < blocks.length), ∃ (G gc : Nat) (a : Addr) (xn xc : Nat), sv = .slice (some ⟨G, 0, none⟩) blocks.length gc ∧ n ≤ G ∧ n ≤ a.block ∧ (∃ c fz, w.heap[G]? = some (Obj.cells c 31 fz)) ∧ (∃ c fz, w.heap[a.block]? = some (Obj.cells c 5 fz) ∧ NoFz a c fz) ∧ w.cell? ⟨G, i, none⟩ = some (.slice (some a) xn xc) ∧ Shows w (some a) xn xc blocks[i]
theorem BlocksFr.sh (h : BlocksFr w n sv blocks) : BlocksSh w sv blocks := ⟨h.sl, fun i hi => by
  obtain ⟨G, gc, a, xn, xc, e, _, _, _, _, c, s⟩ := h.at_ i hi
  exact ⟨G, gc, _, xn, xc, e, c, s⟩⟩
theorem BlocksFr.kept (h : BlocksFr w n sv blocks) (hk : ∀ (b : Nat) (c : Array Value) (e : Nat) (fz : Nat × Nat), n ≤ b → w.heap[b]? = some (Obj.cells c e fz) → e = 31 ∨ e = 5 → w'.heap[b]? = w.heap[b]?) : BlocksFr w' n sv blocks := ⟨h.sl, fun i hi => by
  obtain ⟨G, gc, a, xn, xc, e, g1, g2, ⟨c1, f1, k1⟩, ⟨c2, f2, k2, n2⟩, c, s⟩ := h.at_ i hi
  have e1 := hk G c1 31 f1 g1 k1 (.inl rfl)
  have e2 := hk a.block c2 5 f2 g2 k2 (.inr rfl)
  exact ⟨G, gc, a, xn, xc, e, g1, g2, ⟨c1, f1, e1.trans k1⟩, ⟨c2, f2, e2.trans k2, n2⟩, (World.cell?_of_block (w := w) (w' := w') (a := ⟨G, i, none⟩) e1).trans c, shows_kept s e2 (Array.getElem?_eq_some_iff.1 (e2.trans k2)).1⟩⟩
theorem BlocksFr.mono (h : BlocksFr w n sv blocks) (hn : n' ≤ n) : BlocksFr w n' sv blocks := ⟨h.sl, fun i hi => by
  obtain ⟨G, gc, a, xn, xc, e, g1, g2, r⟩ := h.at_ i hi
  exact ⟨G, gc, a, xn, xc, e, by omega, by omega, r⟩⟩
structure StateFr (w : World) (n : Nat) (fv : Value) (l : List SFile) : Prop where
  own : w.ownsRow n 71 3 fv l.length (l.flatMap SFile.cells)
  each : ∀ e ∈ l, BlocksFr w n e.sv e.file.blocks
theorem StateFr.sh (h : StateFr w n fv l) : StateSh w n fv l := ⟨h.own, fun e he => (h.each e he).sh⟩
/-- all its memory is as it was. -/
theorem StateFr.kept (h : StateFr w n fv l) (hk : ∀ b, n ≤ b → b < w.heap.size → w'.heap[b]? = w.heap[b]?) : StateFr w' n fv l :=
  ⟨own_kept h.own fun g hg => hk g (own_block h.own hg).1 (own_block h.own hg).2, fun e he => (h.each e he).kept fun b _ _ _ hb hw _ => hk b hb (Array.getElem?_eq_some_iff.1 hw).1⟩
end
theorem StateFr.mono {w : World} {n n' : Nat} {fv : Value} {l : List SFile} (h : StateFr w n fv l) (hn : n' ≤ n) : StateFr w n' fv l := ⟨own_base h.own hn, fun e he => (h.each e he).mono hn⟩
section
variable {w wr W1 wk Y Z W6 : World} {b3 b5 N : Nat} {nm sl fb v' fo : Value} {vs : List Value} {bs : List (List UInt8)} {m : List SFile}
/-- a file in the making: its box, its list of blocks so far. -/
structure CpB (W1 wk : World) (b5 : Nat) (nm sl fb : Value) (vs : List Value) (bs : List (List UInt8)) : Prop where
  touch : Touch [b5] W1 wk
  box : wk.heap[b5]? = some (.cells #[nm, sl, fb] 71 (0, 0))
  own : wk.ownsRow W1.heap.size 31 1 fb bs.length vs
  each : ∀ (i : Nat) (b : List UInt8), bs[i]? = some b → ∃ (a : Addr) (xn xc : Nat), vs[i]? = some (.slice (some a) xn xc) ∧ W1.heap.size ≤ a.block ∧ (∃ c fz, wk.heap[a.block]? = some (Obj.cells c 5 fz) ∧ NoFz a c fz) ∧ Shows wk (some a) xn xc b
theorem CpB.start (h : W1.heap[b5]? = some (.cells #[nm, sl, .slice none 0 0] 71 (0, 0))) : CpB W1 W1 b5 nm sl (.slice none 0 0) [] [] := ⟨Touch.refl _ _, h, World.ownsRow_nil _ _ _ _, fun i b hb => by simp at hb⟩
theorem CpB.next (h : CpB W1 wk b5 nm sl fb vs bs) (hb : Below wk.heap.size wk Z) {a : Addr} {xn xc : Nat} {b : List UInt8} (ha : wk.heap.size ≤ a.block) (hka : ∃ c fz, Z.heap[a.block]? = some (Obj.cells c 5 fz) ∧ NoFz a c fz) (hs : Shows Z (some a) xn xc b)
    (ho : W6.ownsRow W1.heap.size 31 1 v' (bs.length + 1) (vs ++ [.slice (some a) xn xc])) (hf : (v'.ownBlock = fb.ownBlock ∧ Z.grownBy W6 fb.ownBlock) ∨ ((∀ g, v'.ownBlock = some g → Z.heap.size ≤ g) ∧ Z.grownBy W6 none)) :
    CpB W1 (W6.setCell ⟨b5, 2, none⟩ v') b5 nm sl v' (vs ++ [.slice (some a) xn xc]) (bs ++ [b]) ∧ W6.frozen? ⟨b5, 2, none⟩ = false ∧ W6.cell? ⟨b5, 2, none⟩ = some fb ∧ Touch [b5] W1 W6 := by
  obtain ⟨g1, _⟩ := grown_all hf
  have hoZ : Z.ownsRow W1.heap.size 31 1 fb bs.length vs := own_kept h.own fun g hg => hb.block g (own_block h.own hg).2
  have hbut : But 31 Z W6 := But.of_own hoZ hf
  have hboxZ : Z.heap[b5]? = some (.cells #[nm, sl, fb] 71 (0, 0)) := (hb.block b5 (lt_of_block h.box)).trans h.box
  have hbox6 : W6.heap[b5]? = some (.cells #[nm, sl, fb] 71 (0, 0)) := (hbut _ _ _ _ hboxZ (by decide)).trans hboxZ
  have hbut2 : But 71 W6 (W6.setCell ⟨b5, 2, none⟩ v') := But.setCell hbox6 _
  have tZ : Touch [b5] W1 Z := h.touch.trans (Touch.of_below (F := []) hb (Nat.le_refl _)) (by simp)
  have fbk : ∀ k, fb.ownBlock = some k → k ∈ [b5] ∨ W1.heap.size ≤ k := fun k hk => .inr (own_block h.own hk).1
  have t6 : Touch [b5] W1 W6 := tZ.grown g1 fbk
  have keep : ∀ k : Nat, (∃ c fz, Z.heap[k]? = some (Obj.cells c 5 fz)) → (W6.setCell ⟨b5, 2, none⟩ v').heap[k]? = Z.heap[k]? := fun k ⟨c, fz, hk⟩ => by
    have e1 := hbut k c 5 fz hk (by decide)
    exact (hbut2 k c 5 fz (e1.trans hk) (by decide)).trans e1
  refine ⟨⟨t6.setCell (.inl (by simp)) _, ?_, ?_, fun i b' hi => ?_⟩, unfrozen_row hbox6 2, by rw [cell_row hbox6]; rfl, ?_⟩
  · exact heap_setCell_row hbox6 2 v'
  · rw [List.length_append]
    exact hbut2.own ho (by decide)
  · by_cases hl : i < bs.length
    · rw [List.getElem?_append_left hl] at hi
      obtain ⟨a0, n0, c0, e0, l0, ⟨kc, kf, k0, kn⟩, s0⟩ := h.each i b' hi
      have eZ := hb.block a0.block (Array.getElem?_eq_some_iff.1 k0).1
      have kZ := eZ.trans k0
      have e6 := keep a0.block ⟨kc, kf, kZ⟩
      have hl2 : vs.length = bs.length := by simpa using h.own.1
      refine ⟨a0, n0, c0, by rw [List.getElem?_append_left (by omega)]; exact e0, l0, ⟨kc, kf, e6.trans kZ, kn⟩, shows_kept s0 (e6.trans eZ) (Array.getElem?_eq_some_iff.1 (e6.trans kZ)).1⟩
    · have hi2 := (List.getElem?_eq_some_iff.1 hi).1
      simp at hi2
      have hie : i = bs.length := by omega
      subst hie
      rw [List.getElem?_append_right (Nat.le_refl _), Nat.sub_self] at hi
      cases hi
      have hl2 : vs.length = bs.length := by simpa using h.own.1
      obtain ⟨kc, kf, kZ, kn⟩ := hka
      have e6 := keep a.block ⟨kc, kf, kZ⟩
      refine ⟨a, xn, xc, by rw [← hl2, List.getElem?_append_right (Nat.le_refl _), Nat.sub_self]; rfl, Nat.le_trans h.touch.size ha, ⟨kc, kf, e6.trans kZ, kn⟩, shows_kept hs e6 (Array.getElem?_eq_some_iff.1 (e6.trans kZ)).1⟩
  · exact t6
/-- the copy in the making: its box, its files so far. -/
structure CpIn (w wr : World) (b3 : Nat) (x : Value) (fo : Value) (m : List SFile) : Prop where
  touch : Touch [b3] w wr
  box : wr.heap[b3]? = some (.cells #[x, fo] 47 (0, 0))
  st : StateFr wr w.heap.size fo m
/-- a file is done. -/
theorem CpB.blocks (h : CpB W1 wk b5 nm sl fb vs bs) : BlocksFr wk W1.heap.size fb bs := by
  refine ⟨?_, fun i hi => ?_⟩
  · rcases h.own.2 with ⟨hv, h0⟩ | ⟨g, cap, cur, hv, _⟩
    · exact ⟨none, 0, by rw [hv, h0]⟩
    · exact ⟨_, _, hv⟩
  · obtain ⟨a, xn, xc, e, l, k, s⟩ := h.each i bs[i] (List.getElem?_eq_getElem hi)
    obtain ⟨G, gc, hv, hG, _, c, _⟩ := own_cell h.own e
    obtain ⟨kc, kf, kk⟩ := Lib.ownsRow_kind h.own G (by rw [hv]; rfl)
    exact ⟨G, gc, a, xn, xc, hv, hG, l, ⟨kc, kf, kk⟩, k, c, s⟩
/-- the file is put behind the others. -/
theorem CpIn.next {x : Value} {Q W7 : World} {o o' : Obj} {e : SFile} (h : CpIn w wr b3 x fo m) (hW1 : W1 = wr.alloc o) (hb : CpB W1 wk wr.heap.size nm sl fb vs bs) (hQ : Q = wk.alloc o') (he : e.file.blocks = bs) (hsv : e.sv = fb)
    (ho : W7.ownsRow w.heap.size 71 3 v' (m.length + 1) (m.flatMap SFile.cells ++ e.cells)) (hf : (v'.ownBlock = fo.ownBlock ∧ Q.grownBy W7 fo.ownBlock) ∨ ((∀ g, v'.ownBlock = some g → Q.heap.size ≤ g) ∧ Q.grownBy W7 none)) :
    CpIn w (W7.setCell ⟨b3, 1, none⟩ v') b3 x v' (m ++ [e]) ∧ W7.frozen? ⟨b3, 1, none⟩ = false ∧ W7.cell? ⟨b3, 1, none⟩ = some fo := by
  obtain ⟨g1, _⟩ := grown_all hf
  have hs0 := h.touch.size
  have s1 : W1.heap.size = wr.heap.size + 1 := by rw [hW1]; simp
  have b1 : Below wr.heap.size wr W1 := by rw [hW1]; exact (Below.refl _ _).alloc (Nat.le_refl _) _
  have bk : Below wr.heap.size wr wk := b1.trans (hb.touch.below (by omega) (by simp))
  have bQ : Below wr.heap.size wr Q := by rw [hQ]; exact bk.alloc bk.size _
  have kQ : Below wk.heap.size wk Q := by rw [hQ]; exact (Below.refl _ _).alloc (Nat.le_refl _) _
  have oQ : Q.ownsRow w.heap.size 71 3 fo m.length (m.flatMap SFile.cells) := own_kept h.st.own fun g hg => bQ.block g (own_block h.st.own hg).2
  have but : But 71 Q W7 := But.of_own oQ hf
  have xQ : Q.heap[b3]? = some (.cells #[x, fo] 47 (0, 0)) := (bQ.block b3 (lt_of_block h.box)).trans h.box
  have x7 : W7.heap[b3]? = some (.cells #[x, fo] 47 (0, 0)) := (but _ _ _ _ xQ (by decide)).trans xQ
  have but2 : But 47 W7 (W7.setCell ⟨b3, 1, none⟩ v') := But.setCell x7 _
  have keep : ∀ (k : Nat) (c : Array Value) (e : Nat) (fz : Nat × Nat), Q.heap[k]? = some (Obj.cells c e fz) → e = 31 ∨ e = 5 → (W7.setCell ⟨b3, 1, none⟩ v').heap[k]? = Q.heap[k]? := fun k c e fz hk he => by
    have e1 := but k c e fz hk (by rcases he with rfl | rfl <;> decide)
    exact (but2 k c e fz (e1.trans hk) (by rcases he with rfl | rfl <;> decide)).trans e1
  refine ⟨⟨?_, heap_setCell_row x7 1 v', ?_, fun e' he' => ?_⟩, unfrozen_row x7 1, by rw [cell_row x7]; rfl⟩
  · exact ((h.touch.trans (Touch.of_below (F := []) bQ (Nat.le_refl _)) (by simp)).grown g1 (fun k hk => .inr (own_block h.st.own hk).1)).setCell (.inl (by simp)) _
  · rw [List.length_append, List.flatMap_append]
    have := but2.own ho (by decide)
    simpa using this
  · rcases List.mem_append.1 he' with hm | hm
    · refine (h.st.each e' hm).kept fun b c e fz hb hw hk => ?_
      have eQ := bQ.block b (Array.getElem?_eq_some_iff.1 hw).1
      exact (keep b c e fz (eQ.trans hw) hk).trans eQ
    · simp at hm
      subst hm
      rw [he, hsv]
      refine (hb.blocks.mono (n' := w.heap.size) (by omega)).kept fun b c e fz hb hw hk => ?_
      have eQ := kQ.block b (Array.getElem?_eq_some_iff.1 hw).1
      exact (keep b c e fz (eQ.trans hw) hk).trans eQ
end
theorem conv_new (W : World) (d : List UInt8) : ∃ Yb c, (convert 9 31 (encStr d)).run Tryz.prog W = .ok (.slice (some ⟨W.heap.size, 0, none⟩) d.length c) Yb ∧ Below W.heap.size W Yb ∧ (∃ k fz, Yb.heap[W.heap.size]? = some (Obj.cells k 5 fz) ∧ NoFz ⟨W.heap.size, 0, none⟩ k fz) ∧ Shows Yb (some ⟨W.heap.size, 0, none⟩) d.length c d := by
  have hd : (⟨d.toArray⟩ : ByteArray).size = d.length := by simp [ByteArray.size]
  refine ⟨Lib.bytesWorld W 5 ⟨d.toArray⟩, grownCap W d.length 0 5, ?_, Lib.bytesWorld_below _ _ _, ⟨_, _, Lib.bytesWorld_at_new _ _ _, rfl, fun j hj hk => by have h1 := hk.1; simp only at h1; omega⟩, rfl, grownCap_ge W d.length 0 5, fun h0 => ⟨_, rfl, by rw [Lib.bytesWorld_size]; show W.heap.size < _; omega, fun j v hv => ?_⟩, fun e => by simp at e⟩
  · have h := Lib.run_convert_string_bytes (P := Tryz.prog) W 9 31 5 ⟨d.toArray⟩ Tryz.underlying9 Tryz.underlying31 Tryz.underlying5
    rw [hd] at h
    exact h
  · have hj : j < d.length := by
      have := (List.getElem?_eq_some_iff.1 hv).1
      rwa [Lib.byteCells_length] at this
    rw [add_zero_addr, Lib.bytesWorld_cell W 5 ⟨d.toArray⟩ j (by rw [hd]; exact hj), ← hv]
    simp [Lib.byteCells, hj, List.getD]

set_option maxHeartbeats 4000000 in
theorem CopyIn_any {w : World} {x : Int} {fv : Value} {l : List SFile} (h : StIn w fv l) (hl : l.length ≤ 1099511627776) (hnb : ∀ e ∈ l, e.file.blocks.length ≤ 1099511627776) :
    Calls Tryz.prog 13 #[.agg #[.int .i64 x, fv]] w fun e w' => ∃ fo m, e = .returned (.agg #[.int .i64 x, fo]) ∧ StateFr w' w.heap.size fo m ∧ m.map SFile.pub = l.map SFile.pub ∧ Below w.heap.size w w' := by
  obtain ⟨fa, fc, hfv⟩ := h.sl
  obtain ⟨L, hL⟩ : ∃ L, L = l.length := ⟨_, rfl⟩
  rw [← hL] at hl hfv
  have HL := hid hL
  obtain ⟨W0, hW0⟩ : ∃ W0, W0 = ((w.alloc (.cells #[.int .i64 x, fv] 47)).alloc (.cells #[.int .i64 0, .slice none 0 0] 47)).alloc (.cells #[.int .i64 x, .slice none 0 0] 47) := ⟨_, rfl⟩
  have z0 : Hid (W0.heap.size = w.heap.size + 1 + 1 + 1) := by rw [hW0]; show _ = _; simp
  have r1 : Hid (W0.heap[w.heap.size]? = some (.cells #[.int .i64 x, fv] 47 (0, 0))) := by rw [hW0]; show _ = _; rw [Below.heap_alloc _ _ _ (by simp; omega), Below.heap_alloc _ _ _ (by simp)]; exact heap_alloc_new _ _
  have r2 : Hid (W0.heap[w.heap.size + 1]? = some (.cells #[.int .i64 0, .slice none 0 0] 47 (0, 0))) := by rw [hW0]; show _ = _; rw [Below.heap_alloc _ _ _ (by simp)]; have := heap_alloc_new (w.alloc (.cells #[.int .i64 x, fv] 47)) (.cells #[.int .i64 0, .slice none 0 0] 47); simpa using this
  have r3 : Hid (W0.heap[w.heap.size + 1 + 1]? = some (.cells #[.int .i64 x, .slice none 0 0] 47 (0, 0))) := by rw [hW0]; show _ = _; have := heap_alloc_new ((w.alloc (.cells #[.int .i64 x, fv] 47)).alloc (.cells #[.int .i64 0, .slice none 0 0] 47)) (.cells #[.int .i64 x, .slice none 0 0] 47); simpa using this
  have bW : Hid (Below w.heap.size w W0) := by rw [hW0]; exact (((Below.refl _ w).alloc (Nat.le_refl _) _).alloc (by simp) _).alloc (by simp; omega) _
  have HE := hid hW0
  have HS := hid h
  have EACH : Hid (∀ e ∈ l, BlIn w e.sv e.file.blocks) := fun e he => by
    obtain ⟨k, hk⟩ := List.getElem?_of_mem he
    obtain ⟨_, _, _, _, _, _, _, hb⟩ := h.at_ k e hk
    exact hb
  have HFV := hid hfv
  have HNB := hid hnb
  rw [hfv] at r1 HE ⊢
  clear h hW0 hfv hnb hL
  go_enter Tryz.func13, Tryz.ntmps13
  go_wp2_with fail
  rw [← HE.out]
  go_loopw [4, 5, 6] (fun iv _ _ W => Hid (∃ (i : Nat) (fo : Value) (m : List SFile), iv = .int .i64 (i : Int) ∧ i ≤ L ∧ CpIn W0 W (w.heap.size + 1 + 1) (.int .i64 x) fo m ∧ m.map SFile.pub = (l.take i).map SFile.pub)) (fun iv _ _ _ => match iv with | .int _ i => L + 1 - i.toNat | _ => 0)
  case atStart => exact ⟨0, .slice none 0 0, [], rfl, Nat.zero_le _, ⟨Touch.refl _ _, r3.out, ⟨World.ownsRow_nil _ _ _ _, by simp⟩⟩, rfl⟩
  case round =>
    obtain ⟨Wr, hWr⟩ : ∃ W, W = wr := ⟨_, rfl⟩
    rw [← hWr] at hrel ⊢
    clear hWr
    obtain ⟨i, fo, m, rfl, hin, hcp, hpub⟩ := hrel.out
    clear hrel
    have z0' := z0.out
    have KB : Hid (∀ W', Touch [w.heap.size + 1 + 1] W0 W' → Below w.heap.size w W' ∧ W'.heap[w.heap.size]? = some (.cells #[.int .i64 x, .slice fa L fc] 47 (0, 0)) ∧ W'.heap[w.heap.size + 1]? = some (.cells #[.int .i64 0, .slice none 0 0] 47 (0, 0))) := fun W' ht => by
      refine ⟨bW.out.trans (ht.below bW.out.size (by simp; omega)), (ht.block _ (by omega) (by simp; omega)).trans r1.out, (ht.block _ (by omega) (by simp)).trans r2.out⟩
    have q1 := (KB.out _ hcp.touch).2.1
    have c1 := cell_row q1 1
    simp at c1
    rcases Nat.lt_or_eq_of_le hin with hlt | hlt
    · have hlt2 : i < l.length := by rw [← HL.out]; exact hlt
      obtain ⟨A, gc, hG⟩ := HS.out.one (by omega)
      rw [HFV.out, ← HL.out] at hG
      simp only [Value.slice.injEq, true_and] at hG
      obtain ⟨rfl, rfl⟩ := hG
      obtain ⟨e0, he0⟩ : ∃ e0, e0 = l[i] := ⟨_, rfl⟩
      have hem : e0 ∈ l := by rw [he0]; exact List.getElem_mem _
      obtain ⟨nm, hnm⟩ : ∃ nm, nm = e0.name := ⟨_, rfl⟩
      obtain ⟨sl, hsl⟩ : ∃ sl, sl = e0.file.shut := ⟨_, rfl⟩
      obtain ⟨bl, hbl⟩ : ∃ bl, bl = e0.file.blocks := ⟨_, rfl⟩
      obtain ⟨nb, hnbn⟩ : ∃ nb, nb = bl.length := ⟨_, rfl⟩
      have hnbl : nb ≤ 1099511627776 := by rw [hnbn, hbl]; exact HNB.out e0 hem
      obtain ⟨sa, sc, hsv⟩ := (EACH.out e0 hem).sl
      rw [← hbl, ← hnbn] at hsv
      have KS : Hid (∀ W', Touch [w.heap.size + 1 + 1] W0 W' → W'.cell? ⟨w.heap.size, 1, none⟩ = some (.slice (some A) L fc) ∧ W'.cell? (A.add (i * 3)) = some (encStr nm) ∧ W'.cell? ⟨(A.add (i * 3)).block, (A.add (i * 3)).off + 1, none⟩ = some (.bool sl) ∧ W'.cell? ⟨(A.add (i * 3)).block, (A.add (i * 3)).off + 2, none⟩ = some (.slice sa nb sc)) := fun W' ht => by
        obtain ⟨hb', hr1, _⟩ := KB.out W' ht
        have d1 := cell_row hr1 1
        simp at d1
        obtain ⟨a0, a1, a2, _⟩ := (HS.out.below hb').read (k := i) (A := A) (gc := fc) (List.getElem?_eq_getElem hlt2) (by rw [HFV.out, ← HL.out])
        rw [← he0] at a0 a1 a2
        rw [← hnm] at a0
        rw [← hsl] at a1
        rw [hsv] at a2
        exact ⟨d1, a0, a1, a2⟩
      have KSB : Hid (∀ k, k < nb → ∃ (Gb : Addr) (bc : Nat) (xa : Option Addr) (xn xc : Nat), sa = some Gb ∧ bc = sc ∧ ∀ W', Touch [w.heap.size + 1 + 1] W0 W' → W'.cell? (Gb.add k) = some (.slice xa xn xc) ∧ (convert 31 9 (.slice xa xn xc)).run Tryz.prog W' = .ok (encStr (bl[k]?.getD [])) W') := fun k hk => by
        obtain ⟨Gb, bc, xa, xn, xc, e1, lb1, c1, s1⟩ := (EACH.out e0 hem).at_ k (by rw [← hbl, ← hnbn]; exact hk)
        rw [hsv] at e1
        simp only [Value.slice.injEq] at e1
        refine ⟨Gb, bc, xa, xn, xc, e1.1, e1.2.2.symm, fun W' ht => ?_⟩
        obtain ⟨hb', _, _⟩ := KB.out W' ht
        refine ⟨(hb'.cell (p := Gb.add k) (World.block_lt_of_cell? w _ c1)).trans c1, ?_⟩
        have s2 := conv_shows (s1.touch (F := []) (Touch.of_below hb' (Nat.le_refl _)) (by simp))
        rw [s2]
        have : bl[k]? = some (e0.file.blocks[k]'(by rw [← hbl, ← hnbn]; exact hk)) := by
          rw [← List.getElem?_eq_getElem, hbl]
        rw [this]
        rfl
      have HIN := hid hcp
      have HPB := hid hpub
      have HEM := hid (And.intro he0 (And.intro hnm (And.intro hsl (And.intro hbl (And.intro hnbn hsv)))))
      obtain ⟨c5, c6, c7, c8⟩ := KS.out _ hcp.touch
      have hlt1 : (i : Int) < (L : Int) := by omega
      have V1 : IntKind.i64.wrap ((i : Int) + 1) = (i : Int) + 1 := by rw [IntKind.wrap_i64]; omega
      have TW := hid hcp.touch
      clear hcp hpub he0 hnm hsl hbl hnbn hsv c1 q1
      go_wp2_with fail
      refine wp_region_noPanic ?_
      refine wp_region_held_drew (S := fun W => W.cell? ⟨w.heap.size, 1, none⟩ = some (.slice (some A) L fc) ∧ W.cell? (A.add (i * 3)) = some (encStr nm) ∧ W.cell? ⟨(A.add (i * 3)).block, (A.add (i * 3)).off + 1, none⟩ = some (.bool sl) ∧ W.cell? ⟨(A.add (i * 3)).block, (A.add (i * 3)).off + 2, none⟩ = some (.slice sa nb sc)) (by kernel_rfl) (KS.out _ TW.out.drew) (fun hHeld => ?_)
      obtain ⟨Yd, hYd⟩ : ∃ Yd, Yd = Wr.drew := ⟨_, rfl⟩
      rw [← hYd] at hHeld ⊢
      have TD : Hid (Touch [w.heap.size + 1 + 1] W0 Yd) := by rw [hYd]; exact TW.out.drew
      have EYD := hid hYd
      clear hYd
      refine wpAnyH_take (i := 0) (v := ?_) (by simp only [List.getElem?_toArray, List.getElem?_cons_zero]; rfl) (by kernel_rfl) (by kernel_rfl) (by kernel_rfl) (fun _ _ _ h => h) (Or.inl ⟨by rfl, ?_⟩) (by assumption) ?_
      rotate_left 1
      · intro w hSw; (try dsimp only at hSw); go_simp; (try with_reducible rfl)
      try simp only [Act.put, List.setIfInBounds_toArray, List.set_cons_zero, List.set_cons_succ]
      refine wpAnyH_take (i := 1) (v := ?_) (by simp only [List.getElem?_toArray, List.getElem?_cons_succ, List.getElem?_cons_zero]; rfl) (by kernel_rfl) (by kernel_rfl) (by kernel_rfl) (fun _ _ _ h => h) (Or.inl ⟨by rfl, ?_⟩) (by assumption) ?_
      rotate_left 1
      · intro w hSw; (try dsimp only at hSw); go_simp; (try with_reducible rfl)
      try simp only [Act.put, List.setIfInBounds_toArray, List.set_cons_zero, List.set_cons_succ]
      refine wpAnyH_take (i := 2) (v := ?_) (by simp only [List.getElem?_toArray, List.getElem?_cons_succ, List.getElem?_cons_zero]; rfl) (by kernel_rfl) (by kernel_rfl) (by kernel_rfl) (fun _ _ _ h => h) (Or.inl ⟨by rfl, ?_⟩) (by assumption) ?_
      rotate_left 1
      · intro w hSw; (try dsimp only at hSw); go_simp; (try with_reducible rfl)
      try simp only [Act.put, List.setIfInBounds_toArray, List.set_cons_zero, List.set_cons_succ]
      refine wpAnyH_take (i := 3) (v := ?_) (by simp only [List.getElem?_toArray, List.getElem?_cons_succ, List.getElem?_cons_zero]; rfl) (by kernel_rfl) (by kernel_rfl) (by kernel_rfl) (fun _ _ _ h => h) (Or.inl ⟨by rfl, ?_⟩) (by assumption) ?_
      rotate_left 1
      · intro w hSw; (try dsimp only at hSw); go_simp; (try with_reducible rfl)
      try simp only [Act.put, List.setIfInBounds_toArray, List.set_cons_zero, List.set_cons_succ]
      refine wpAnyH_take (i := 4) (v := ?_) (by simp only [List.getElem?_toArray, List.getElem?_cons_succ, List.getElem?_cons_zero]; rfl) (by kernel_rfl) (by kernel_rfl) (by kernel_rfl) (fun _ _ _ h => h) (Or.inl ⟨by rfl, ?_⟩) (by assumption) ?_
      rotate_left 1
      · intro w hSw; (try dsimp only at hSw); go_simp; (try with_reducible rfl)
      try simp only [Act.put, List.setIfInBounds_toArray, List.set_cons_zero, List.set_cons_succ]
      refine wpAnyH_take (i := 5) (v := ?_) (by simp only [List.getElem?_toArray, List.getElem?_cons_succ, List.getElem?_cons_zero]; rfl) (by kernel_rfl) (by kernel_rfl) (by kernel_rfl) (fun _ _ _ h => h) (Or.inl ⟨by rfl, ?_⟩) (by assumption) ?_
      rotate_left 1
      · intro w hSw; (try dsimp only at hSw); go_simp; (try with_reducible rfl)
      try simp only [Act.put, List.setIfInBounds_toArray, List.set_cons_zero, List.set_cons_succ]
      refine wpAnyH_take (i := 6) (v := ?_) (by simp only [List.getElem?_toArray, List.getElem?_cons_succ, List.getElem?_cons_zero]; rfl) (by kernel_rfl) (by kernel_rfl) (by kernel_rfl) (fun _ _ _ h => h) (Or.inl ⟨by rfl, ?_⟩) (by assumption) ?_
      rotate_left 1
      · intro w hSw; (try dsimp only at hSw); go_simp; (try with_reducible rfl)
      try simp only [Act.put, List.setIfInBounds_toArray, List.set_cons_zero, List.set_cons_succ]
      refine wpAnyH_take (i := 7) (v := ?_) (by simp only [List.getElem?_toArray, List.getElem?_cons_succ, List.getElem?_cons_zero]; rfl) (by kernel_rfl) (by kernel_rfl) (by kernel_rfl) (fun _ _ _ h => h) (Or.inl ⟨by rfl, ?_⟩) (by assumption) ?_
      rotate_left 1
      · intro w hSw; (try dsimp only at hSw); go_simp; (try with_reducible rfl)
      try simp only [Act.put, List.setIfInBounds_toArray, List.set_cons_zero, List.set_cons_succ]
      refine wpAnyH_take (i := 8) (v := ?_) (by simp only [List.getElem?_toArray, List.getElem?_cons_succ, List.getElem?_cons_zero]; rfl) (by kernel_rfl) (by kernel_rfl) (by kernel_rfl) (fun _ _ _ h => h) (Or.inl ⟨by rfl, ?_⟩) (by assumption) ?_
      rotate_left 1
      · intro w hSw; (try dsimp only at hSw); go_simp; (try with_reducible rfl)
      try simp only [Act.put, List.setIfInBounds_toArray, List.set_cons_zero, List.set_cons_succ]
      refine wpAnyH_take (i := 9) (v := ?_) (by simp only [List.getElem?_toArray, List.getElem?_cons_succ, List.getElem?_cons_zero]; rfl) (by kernel_rfl) (by kernel_rfl) (by kernel_rfl) (fun _ _ _ h => h) (Or.inl ⟨by rfl, ?_⟩) (by assumption) ?_
      rotate_left 1
      · intro w hSw; (try dsimp only at hSw); go_simp; (try with_reducible rfl)
      try simp only [Act.put, List.setIfInBounds_toArray, List.set_cons_zero, List.set_cons_succ]
      refine wpAnyH_take (i := 10) (v := ?_) (by simp only [List.getElem?_toArray, List.getElem?_cons_succ, List.getElem?_cons_zero]; rfl) (by kernel_rfl) (by kernel_rfl) (by kernel_rfl) (fun _ _ _ h => h) (Or.inl ⟨by rfl, ?_⟩) (by assumption) ?_
      rotate_left 1
      · intro w hSw; (try dsimp only at hSw); go_simp; (try with_reducible rfl)
      try simp only [Act.put, List.setIfInBounds_toArray, List.set_cons_zero, List.set_cons_succ]
      refine wpAnyH_take (i := 11) (v := ?_) (by simp only [List.getElem?_toArray, List.getElem?_cons_succ, List.getElem?_cons_zero]; rfl) (by kernel_rfl) (by kernel_rfl) (by kernel_rfl) (fun _ _ _ h => h) (Or.inl ⟨by rfl, ?_⟩) (by assumption) ?_
      rotate_left 1
      · intro w hSw; (try dsimp only at hSw); go_simp; (try with_reducible rfl)
      try simp only [Act.put, List.setIfInBounds_toArray, List.set_cons_zero, List.set_cons_succ]
      refine wpAnyH_take (i := 12) (v := ?_) (by simp only [List.getElem?_toArray, List.getElem?_cons_succ, List.getElem?_cons_zero]; rfl) (by kernel_rfl) (by kernel_rfl) (by kernel_rfl) (fun _ _ _ h => h) (Or.inl ⟨by rfl, ?_⟩) (by assumption) ?_
      rotate_left 1
      · intro w hSw; (try dsimp only at hSw); go_simp; (try with_reducible rfl)
      try simp only [Act.put, List.setIfInBounds_toArray, List.set_cons_zero, List.set_cons_succ]
      refine wpAnyH_ready (rs := [13]) (by kernel_rfl) (by simp) ?_
      refine AllReadyH.cons (by simp only [List.getElem?_toArray, List.getElem?_cons_succ, List.getElem?_cons_zero]; rfl) (fun K hK => ?_) AllReadyH.nil
      go_simp
      have hz := heap_alloc_new Yd (.cells #[.string ⟨#[]⟩, .bool false, .slice none 0 0] 71)
      have TA : Hid (Touch [w.heap.size + 1 + 1] W0 (Yd.alloc (.cells #[.string ⟨#[]⟩, .bool false, .slice none 0 0] 71))) := TD.out.alloc _
      clear hHeld
      refine hK.out _ _ (KS.out _ TA.out) (fun hHeld => ?_)
      clear hK K
      try simp only [Act.put, List.setIfInBounds_toArray, List.set_cons_zero, List.set_cons_succ]
      refine wpAnyH_ready (rs := [14]) (by kernel_rfl) (by simp) ?_
      refine AllReadyH.cons (by simp only [List.getElem?_toArray, List.getElem?_cons_succ, List.getElem?_cons_zero]; rfl) (fun K hK => ?_) AllReadyH.nil
      go_simp
      obtain ⟨W1, hW1⟩ : ∃ W1, W1 = Yd.alloc (Obj.cells #[Value.string { data := nm.toArray }, Value.bool sl, Value.slice none 0 0] 71) := ⟨_, rfl⟩
      rw [← hW1]
      have TW1 : Hid (Touch [w.heap.size + 1 + 1] W0 W1) := by rw [hW1]; exact TD.out.alloc _
      have EW1 := hid hW1
      clear hW1 hz
      clear hHeld
      refine hK.out _ _ (KS.out _ TW1.out) (fun hHeld => ?_)
      clear hK K
      try simp only [Act.put, List.setIfInBounds_toArray, List.set_cons_zero, List.set_cons_succ]
      refine wpAnyH_done (by kernel_rfl) ?_ _
      refine NoPanic.normal ?_
      have LD : Hid (Yd.heap.size + 1 = W1.heap.size) := by rw [EW1.out]; show _ = _; simp
      have RB : Hid (W1.heap[Yd.heap.size]? = some (.cells #[encStr nm, .bool sl, .slice none 0 0] 71 (0, 0))) := by rw [EW1.out]; exact heap_alloc_new Yd _
      have HI2 : Hid (CpIn W0 Yd (w.heap.size + 1 + 1) (.int .i64 x) fo m) := by rw [EYD.out]; exact ⟨HIN.out.touch.drew, HIN.out.box, HIN.out.st.kept (fun _ _ _ => rfl)⟩
      have KT : Hid (∀ W', Touch [Yd.heap.size] W1 W' → Touch [w.heap.size + 1 + 1] W0 W') := fun W' ht => TW1.out.trans ht (fun b hb => by simp at hb; subst hb; exact .inr TD.out.size)
      clear HIN c5 c6 c7 c8
      go_wp2_with fail
      go_loopw [6] (fun kv W => Hid (∃ (k : Nat) (fb : Value) (vs : List Value), kv = .int .i64 (k : Int) ∧ k ≤ nb ∧ CpB W1 W Yd.heap.size (encStr nm) (.bool sl) fb vs (bl.take k))) (fun kv _ => match kv with | .int _ k => nb + 1 - k.toNat | _ => 0)
      case atStart => exact ⟨0, .slice none 0 0, [], rfl, Nat.zero_le _, CpB.start RB.out⟩
      case round =>
        obtain ⟨W2, hW2⟩ : ∃ W2, W2 = wr := ⟨_, rfl⟩
        rw [← hW2] at hrel ⊢
        clear hW2
        obtain ⟨k, fb, vs, rfl, hkn, hcb⟩ := hrel.out
        clear hrel
        have T9 := hid (KT.out _ hcb.touch)
        obtain ⟨d5, d6, d7, d8⟩ := KS.out _ T9.out
        have hbl2 : Hid (bl.length = nb) := HEM.out.2.2.2.2.1.symm
        have hkl : (bl.take k).length = k := by rw [List.length_take, hbl2.out]; omega
        rcases Nat.lt_or_eq_of_le hkn with hklt | hklt
        · obtain ⟨sb, cb0, hfb⟩ := sh_slice hcb.own
          rw [hkl] at hfb
          obtain ⟨Gb, bc, xa, xn, xc, hsa, hbc, hsh⟩ := KSB.out k hklt
          clear hbc
          obtain ⟨bk, hbk⟩ : ∃ bk, bk = bl[k]?.getD [] := ⟨_, rfl⟩
          rw [← hbk] at hsh
          have hbk2 : bl[k]? = some bk := by rw [hbk, List.getElem?_eq_getElem (by rw [hbl2.out]; exact hklt)]; rfl
          have BTK : Hid (bl.take k ++ [bk] = bl.take (k + 1)) := by show _ = _; rw [List.take_add_one, hbk2]; rfl
          have hsa2 := hsa
          rw [hsa2] at d8
          have K9 : Hid (∀ W', Touch [w.heap.size + 1 + 1] W0 W' → W'.cell? ⟨w.heap.size, 1, none⟩ = some (.slice (some A) L fc) ∧ W'.cell? (A.add (i * 3)) = some (encStr nm) ∧ W'.cell? ⟨(A.add (i * 3)).block, (A.add (i * 3)).off + 1, none⟩ = some (.bool sl) ∧ W'.cell? ⟨(A.add (i * 3)).block, (A.add (i * 3)).off + 2, none⟩ = some (.slice (some Gb) nb sc) ∧ W'.cell? (Gb.add k) = some (.slice xa xn xc) ∧ (convert 31 9 (.slice xa xn xc)).run Tryz.prog W' = .ok (encStr bk) W') := fun W' ht => by
            obtain ⟨a1, a2, a3, a4⟩ := KS.out _ ht
            rw [hsa2] at a4
            exact ⟨a1, a2, a3, a4, (hsh W' ht).1, (hsh W' ht).2⟩
          have K8 : Hid (∀ W', Below W2.heap.size W2 W' → W'.cell? ⟨w.heap.size, 1, none⟩ = some (.slice (some A) L fc) ∧ W'.cell? (A.add (i * 3)) = some (encStr nm) ∧ W'.cell? ⟨(A.add (i * 3)).block, (A.add (i * 3)).off + 1, none⟩ = some (.bool sl) ∧ W'.cell? ⟨(A.add (i * 3)).block, (A.add (i * 3)).off + 2, none⟩ = some (.slice (some Gb) nb sc) ∧ W'.cell? (Gb.add k) = some (.slice xa xn xc) ∧ (convert 31 9 (.slice xa xn xc)).run Tryz.prog W' = .ok (encStr bk) W') := fun W' hb => K9.out _ (T9.out.trans (Touch.of_below (F := []) hb (Nat.le_refl _)) (by simp))
          have KL : Hid (∀ W', Below W2.heap.size W2 W' → W'.cell? ⟨Yd.heap.size, 2, none⟩ = some (.slice sb k cb0)) := fun W' hb => by
            have hr := (hb.block _ (lt_of_block hcb.box)).trans hcb.box
            have d := cell_row hr 2
            rw [hfb] at d
            simpa using d
          have OWN : Hid (∀ W', Below W2.heap.size W2 W' → W'.ownsRow W1.heap.size 31 1 (.slice sb k cb0) k vs) := fun W' hb => by
            have ho := own_kept (w' := W') hcb.own fun g hg => hb.block g (own_block hcb.own hg).2
            rw [hkl, hfb] at ho
            exact ho
          have LW := hid hcb.touch.size
          have NXT : Hid (∀ (Z : World) (a : Addr) (yn yc : Nat) (s6 : Option Addr) (c6 : Nat) (W6 : World), Below W2.heap.size W2 Z → W2.heap.size ≤ a.block → (∃ c fz, Z.heap[a.block]? = some (Obj.cells c 5 fz) ∧ NoFz a c fz) → Shows Z (some a) yn yc bk → W6.ownsRow W1.heap.size 31 1 (.slice s6 (k + 1) c6) (k + 1) (vs ++ [.slice (some a) yn yc]) → (((Value.slice s6 (k + 1) c6).ownBlock = (Value.slice sb k cb0).ownBlock ∧ Z.grownBy W6 (Value.slice sb k cb0).ownBlock) ∨ ((∀ g, (Value.slice s6 (k + 1) c6).ownBlock = some g → Z.heap.size ≤ g) ∧ Z.grownBy W6 none)) →
              CpB W1 (W6.setCell ⟨Yd.heap.size, 2, none⟩ (.slice s6 (k + 1) c6)) Yd.heap.size (encStr nm) (.bool sl) (.slice s6 (k + 1) c6) (vs ++ [.slice (some a) yn yc]) (bl.take k ++ [bk]) ∧ W6.frozen? ⟨Yd.heap.size, 2, none⟩ = false ∧ W6.cell? ⟨Yd.heap.size, 2, none⟩ = some (.slice sb k cb0) ∧ Touch [Yd.heap.size] W1 W6) := fun Z a yn yc s6 c6 W6 hb ha hk hs ho hf => by
            have hf2 := hf
            rw [← hfb] at hf2
            have r := hcb.next (v' := .slice s6 (k + 1) c6) hb ha hk hs (by rw [hkl]; exact ho) hf2
            rw [hfb] at r
            exact r
          have hklt1 : (k : Int) < (nb : Int) := by omega
          have V2 : IntKind.i64.wrap ((k : Int) + 1) = (k : Int) + 1 := by rw [IntKind.wrap_i64]; omega
          have i0 : (0 : Int) ≤ (i : Int) := by omega
          have k0 : (0 : Int) ≤ (k : Int) := by omega
          clear hcb hfb hsh hbk hbk2 hkl hsa hsa2 KSB
          go_wp2_with fail
          refine wp_region_noPanic ?_
          refine wp_region_held_drew (S := fun W => W.cell? ⟨w.heap.size, 1, none⟩ = some (.slice (some A) L fc) ∧ W.cell? (A.add (i * 3)) = some (encStr nm) ∧ W.cell? ⟨(A.add (i * 3)).block, (A.add (i * 3)).off + 1, none⟩ = some (.bool sl) ∧ W.cell? ⟨(A.add (i * 3)).block, (A.add (i * 3)).off + 2, none⟩ = some (.slice (some Gb) nb sc) ∧ W.cell? (Gb.add k) = some (.slice xa xn xc) ∧ (convert 31 9 (.slice xa xn xc)).run Tryz.prog W = .ok (encStr bk) W) (by kernel_rfl) (K9.out _ T9.out.drew) (fun hHeld => ?_)
          obtain ⟨Ye, hYe⟩ : ∃ Ye, Ye = W2.drew := ⟨_, rfl⟩
          rw [← hYe] at hHeld ⊢
          have B0 : Hid (Below W2.heap.size W2 Ye) := by rw [hYe]; exact (Below.refl _ _).drew
          have Z0 : Hid (Ye.heap.size = W2.heap.size) := by rw [hYe]; rfl
          clear hYe
          obtain ⟨Yb, cb, hcv, bYb, kYb, sYb⟩ := conv_new Ye bk
          have BB : Hid (Below W2.heap.size W2 Yb) := B0.out.trans (bYb.mono B0.out.size)
          have SB := hid sYb
          have KB2 := hid kYb
          clear bYb kYb sYb
          refine wpAnyH_take (i := 0) (v := ?_) (by simp only [List.getElem?_toArray, List.getElem?_cons_zero]; rfl) (by kernel_rfl) (by kernel_rfl) (by kernel_rfl) (fun _ _ _ h => h) (Or.inl ⟨by rfl, ?_⟩) (by assumption) ?_
          rotate_left 1
          · intro w hSw; (try dsimp only at hSw); go_simp; (try with_reducible rfl)
          try simp only [Act.put, List.setIfInBounds_toArray, List.set_cons_zero, List.set_cons_succ]
          refine wpAnyH_take (i := 2) (v := ?_) (by simp only [List.getElem?_toArray, List.getElem?_cons_succ, List.getElem?_cons_zero]; rfl) (by kernel_rfl) (by kernel_rfl) (by kernel_rfl) (fun _ _ _ h => h) (Or.inl ⟨by rfl, ?_⟩) (by assumption) ?_
          rotate_left 1
          · intro w hSw; (try dsimp only at hSw); go_simp; (try with_reducible rfl)
          try simp only [Act.put, List.setIfInBounds_toArray, List.set_cons_zero, List.set_cons_succ]
          refine wpAnyH_take (i := 3) (v := ?_) (by simp only [List.getElem?_toArray, List.getElem?_cons_succ, List.getElem?_cons_zero]; rfl) (by kernel_rfl) (by kernel_rfl) (by kernel_rfl) (fun _ _ _ h => h) (Or.inl ⟨by rfl, ?_⟩) (by assumption) ?_
          rotate_left 1
          · intro w hSw; (try dsimp only at hSw); go_simp; (try with_reducible rfl)
          try simp only [Act.put, List.setIfInBounds_toArray, List.set_cons_zero, List.set_cons_succ]
          refine wpAnyH_take (i := 4) (v := ?_) (by simp only [List.getElem?_toArray, List.getElem?_cons_succ, List.getElem?_cons_zero]; rfl) (by kernel_rfl) (by kernel_rfl) (by kernel_rfl) (fun _ _ _ h => h) (Or.inl ⟨by rfl, ?_⟩) (by assumption) ?_
          rotate_left 1
          · intro w hSw; (try dsimp only at hSw); go_simp; (try with_reducible rfl)
          try simp only [Act.put, List.setIfInBounds_toArray, List.set_cons_zero, List.set_cons_succ]
          refine wpAnyH_take (i := 5) (v := ?_) (by simp only [List.getElem?_toArray, List.getElem?_cons_succ, List.getElem?_cons_zero]; rfl) (by kernel_rfl) (by kernel_rfl) (by kernel_rfl) (fun _ _ _ h => h) (Or.inl ⟨by rfl, ?_⟩) (by assumption) ?_
          rotate_left 1
          · intro w hSw; (try dsimp only at hSw); go_simp; (try with_reducible rfl)
          try simp only [Act.put, List.setIfInBounds_toArray, List.set_cons_zero, List.set_cons_succ]
          refine wpAnyH_take (i := 6) (v := ?_) (by simp only [List.getElem?_toArray, List.getElem?_cons_succ, List.getElem?_cons_zero]; rfl) (by kernel_rfl) (by kernel_rfl) (by kernel_rfl) (fun _ _ _ h => h) (Or.inl ⟨by rfl, ?_⟩) (by assumption) ?_
          rotate_left 1
          · intro w hSw; (try dsimp only at hSw); go_simp; (try with_reducible rfl)
          try simp only [Act.put, List.setIfInBounds_toArray, List.set_cons_zero, List.set_cons_succ]
          refine wpAnyH_take (i := 7) (v := ?_) (by simp only [List.getElem?_toArray, List.getElem?_cons_succ, List.getElem?_cons_zero]; rfl) (by kernel_rfl) (by kernel_rfl) (by kernel_rfl) (fun _ _ _ h => h) (Or.inl ⟨by rfl, ?_⟩) (by assumption) ?_
          rotate_left 1
          · intro w hSw; (try dsimp only at hSw); go_simp; (try with_reducible rfl)
          try simp only [Act.put, List.setIfInBounds_toArray, List.set_cons_zero, List.set_cons_succ]
          refine wpAnyH_take (i := 8) (v := ?_) (by simp only [List.getElem?_toArray, List.getElem?_cons_succ, List.getElem?_cons_zero]; rfl) (by kernel_rfl) (by kernel_rfl) (by kernel_rfl) (fun _ _ _ h => h) (Or.inl ⟨by rfl, ?_⟩) (by assumption) ?_
          rotate_left 1
          · intro w hSw; (try dsimp only at hSw); go_simp; (try with_reducible rfl)
          try simp only [Act.put, List.setIfInBounds_toArray, List.set_cons_zero, List.set_cons_succ]
          refine wpAnyH_take (i := 9) (v := ?_) (by simp only [List.getElem?_toArray, List.getElem?_cons_succ, List.getElem?_cons_zero]; rfl) (by kernel_rfl) (by kernel_rfl) (by kernel_rfl) (fun _ _ _ h => h) (Or.inl ⟨by rfl, ?_⟩) (by assumption) ?_
          rotate_left 1
          · intro w hSw; (try dsimp only at hSw); go_simp; (try with_reducible rfl)
          try simp only [Act.put, List.setIfInBounds_toArray, List.set_cons_zero, List.set_cons_succ]
          refine wpAnyH_take (i := 10) (v := ?_) (by simp only [List.getElem?_toArray, List.getElem?_cons_succ, List.getElem?_cons_zero]; rfl) (by kernel_rfl) (by kernel_rfl) (by kernel_rfl) (fun _ _ _ h => h) (Or.inl ⟨by rfl, ?_⟩) (by assumption) ?_
          rotate_left 1
          · intro w hSw; (try dsimp only at hSw); go_simp; (try with_reducible rfl)
          try simp only [Act.put, List.setIfInBounds_toArray, List.set_cons_zero, List.set_cons_succ]
          refine wpAnyH_take (i := 11) (v := ?_) (by simp only [List.getElem?_toArray, List.getElem?_cons_succ, List.getElem?_cons_zero]; rfl) (by kernel_rfl) (by kernel_rfl) (by kernel_rfl) (fun _ _ _ h => h) (Or.inl ⟨by rfl, ?_⟩) (by assumption) ?_
          rotate_left 1
          · intro w hSw; (try dsimp only at hSw); go_simp; (try with_reducible rfl)
          try simp only [Act.put, List.setIfInBounds_toArray, List.set_cons_zero, List.set_cons_succ]
          refine wpAnyH_ready (rs := [1, 12]) (by kernel_rfl) (by simp) ?_
          refine AllReadyH.cons (by simp only [List.getElem?_toArray, List.getElem?_cons_succ, List.getElem?_cons_zero]; rfl) (fun K hK => ?_) (AllReadyH.cons (by simp only [List.getElem?_toArray, List.getElem?_cons_succ, List.getElem?_cons_zero]; rfl) (fun K hK => ?_) AllReadyH.nil)
          · skip
            have cl := KL.out _ B0.out
            go_simp
            clear cl
            clear hHeld
            refine hK.out _ _ (K8.out _ B0.out) (fun hHeld => ?_)
            clear hK K
            try simp only [Act.put, List.setIfInBounds_toArray, List.set_cons_zero, List.set_cons_succ]
            refine wpAnyH_ready (rs := [12]) (by kernel_rfl) (by simp) ?_
            refine AllReadyH.cons (by simp only [List.getElem?_toArray, List.getElem?_cons_succ, List.getElem?_cons_zero]; rfl) (fun K hK => ?_) AllReadyH.nil
            go_simp
            clear hHeld
            refine hK.out _ _ (K8.out _ BB.out) (fun hHeld => ?_)
            clear hK K
            try simp only [Act.put, List.setIfInBounds_toArray, List.set_cons_zero, List.set_cons_succ]
            refine wpAnyH_ready (rs := [13]) (by kernel_rfl) (by simp) ?_
            refine AllReadyH.cons (by simp only [List.getElem?_toArray, List.getElem?_cons_succ, List.getElem?_cons_zero]; rfl) (fun K hK => ?_) AllReadyH.nil
            go_simp
            obtain ⟨Y5, hY5⟩ : ∃ Y5, Y5 = Yb.alloc (Obj.cells #[.slice (some ⟨Ye.heap.size, 0, none⟩) bk.length cb] 31) := ⟨_, rfl⟩
            rw [← hY5]
            have B5 : Hid (Below W2.heap.size W2 Y5) := by rw [hY5]; exact BB.out.alloc BB.out.size _
            have R5 : Hid (Y5.heap[Yb.heap.size]? = some (.cells #[.slice (some ⟨Ye.heap.size, 0, none⟩) bk.length cb] 31 (0, 0))) := by rw [hY5]; exact heap_alloc_new Yb _
            have BY5 : Hid (Below Yb.heap.size Yb Y5) := by rw [hY5]; exact (Below.refl _ _).alloc (Nat.le_refl _) _
            clear hY5
            clear hHeld
            refine hK.out _ _ (K8.out _ B5.out) (fun hHeld => ?_)
            clear hK K
            try simp only [Act.put, List.setIfInBounds_toArray, List.set_cons_zero, List.set_cons_succ]
            refine wpAnyH_ready (rs := [14]) (by kernel_rfl) (by simp) ?_
            refine AllReadyH.cons (by simp only [List.getElem?_toArray, List.getElem?_cons_succ, List.getElem?_cons_zero]; rfl) (fun K hK => ?_) AllReadyH.nil
            skip
            refine wp_far _ _ 51 31 _ 1 24 rfl Tryz.underlying51 info31 rfl (by decide) W1.heap.size k 1 1 (.slice sb k cb0) vs [.slice (some ⟨Ye.heap.size, 0, none⟩) bk.length cb] ⟨Yb.heap.size, 0, none⟩ rfl (OWN.out _ B5.out) rfl rfl (fun j u hu => by rw [add_zero_addr, cell_row R5.out]; simpa using hu) (fun u hu => by simp at hu; subst hu; rfl) (by omega) (by omega) (Nat.le_trans LW.out B5.out.size) ?_
            intro v6 W6 o6 f6
            obtain ⟨s6, c6, rfl⟩ := sh_slice o6
            obtain ⟨g1, g2, g3, g4⟩ := NXT.out Y5 ⟨Ye.heap.size, 0, none⟩ _ _ _ _ _ B5.out (by rw [Z0.out]; exact Nat.le_refl _) (by obtain ⟨kc, kf, kk, kn⟩ := KB2.out; exact ⟨kc, kf, (BY5.out.block _ (lt_of_block kk)).trans kk, kn⟩) (shows_kept SB.out (BY5.out.block _ (lt_of_block KB2.out.choose_spec.choose_spec.1)) (by have h1 := lt_of_block KB2.out.choose_spec.choose_spec.1; have h2 := BY5.out.size; show Ye.heap.size < _; omega)) o6 f6
            have CPN := hid g1
            have T6 := hid g4
            clear o6 f6 g1 g4
            clear hHeld
            refine hK.out _ _ (K9.out _ (KT.out _ T6.out)) (fun hHeld => ?_)
            clear hK K
            try simp only [Act.put, List.setIfInBounds_toArray, List.set_cons_zero, List.set_cons_succ]
            refine wpAnyH_take (i := 15) (v := ?_) (by simp only [List.getElem?_toArray, List.getElem?_cons_succ, List.getElem?_cons_zero]; rfl) (by kernel_rfl) (by kernel_rfl) (by kernel_rfl) (fun _ _ _ h => h) (Or.inl ⟨by rfl, ?_⟩) (by assumption) ?_
            rotate_left 1
            · intro w hSw; (try dsimp only at hSw); go_simp; (try with_reducible rfl)
            try simp only [Act.put, List.setIfInBounds_toArray, List.set_cons_zero, List.set_cons_succ]
            refine wpAnyH_ready (rs := [16]) (by kernel_rfl) (by simp) ?_
            refine AllReadyH.cons (by simp only [List.getElem?_toArray, List.getElem?_cons_succ, List.getElem?_cons_zero]; rfl) (fun K hK => ?_) AllReadyH.nil
            go_simp
            clear hHeld
            refine hK.out _ _ (K9.out _ (KT.out _ (T6.out.setCell (.inl (by simp)) _))) (fun hHeld => ?_)
            clear hK K
            try simp only [Act.put, List.setIfInBounds_toArray, List.set_cons_zero, List.set_cons_succ]
            refine wpAnyH_done (by kernel_rfl) ?_ _
            refine NoPanic.normal ?_
            clear g2 g3
            go_wp2_with fail
            clear V1 V2
            refine ⟨⟨k + 1, _, _, by go_num, by omega, BTK.out ▸ CPN.out⟩, ?_⟩
            show nb + 1 - ((k : Int) + 1).toNat < nb + 1 - (k : Int).toNat
            omega
          · go_simp
            clear hHeld
            refine hK.out _ _ (K8.out _ BB.out) (fun hHeld => ?_)
            clear hK K
            try simp only [Act.put, List.setIfInBounds_toArray, List.set_cons_zero, List.set_cons_succ]
            refine wpAnyH_ready (rs := [1, 13]) (by kernel_rfl) (by simp) ?_
            refine AllReadyH.cons (by simp only [List.getElem?_toArray, List.getElem?_cons_succ, List.getElem?_cons_zero]; rfl) (fun K hK => ?_) (AllReadyH.cons (by simp only [List.getElem?_toArray, List.getElem?_cons_succ, List.getElem?_cons_zero]; rfl) (fun K hK => ?_) AllReadyH.nil)
            · skip
              have cl := KL.out _ BB.out
              go_simp
              clear cl
              clear hHeld
              refine hK.out _ _ (K8.out _ BB.out) (fun hHeld => ?_)
              clear hK K
              try simp only [Act.put, List.setIfInBounds_toArray, List.set_cons_zero, List.set_cons_succ]
              refine wpAnyH_ready (rs := [13]) (by kernel_rfl) (by simp) ?_
              refine AllReadyH.cons (by simp only [List.getElem?_toArray, List.getElem?_cons_succ, List.getElem?_cons_zero]; rfl) (fun K hK => ?_) AllReadyH.nil
              go_simp
              obtain ⟨Y5, hY5⟩ : ∃ Y5, Y5 = Yb.alloc (Obj.cells #[.slice (some ⟨Ye.heap.size, 0, none⟩) bk.length cb] 31) := ⟨_, rfl⟩
              rw [← hY5]
              have B5 : Hid (Below W2.heap.size W2 Y5) := by rw [hY5]; exact BB.out.alloc BB.out.size _
              have R5 : Hid (Y5.heap[Yb.heap.size]? = some (.cells #[.slice (some ⟨Ye.heap.size, 0, none⟩) bk.length cb] 31 (0, 0))) := by rw [hY5]; exact heap_alloc_new Yb _
              have BY5 : Hid (Below Yb.heap.size Yb Y5) := by rw [hY5]; exact (Below.refl _ _).alloc (Nat.le_refl _) _
              clear hY5
              clear hHeld
              refine hK.out _ _ (K8.out _ B5.out) (fun hHeld => ?_)
              clear hK K
              try simp only [Act.put, List.setIfInBounds_toArray, List.set_cons_zero, List.set_cons_succ]
              refine wpAnyH_ready (rs := [14]) (by kernel_rfl) (by simp) ?_
              refine AllReadyH.cons (by simp only [List.getElem?_toArray, List.getElem?_cons_succ, List.getElem?_cons_zero]; rfl) (fun K hK => ?_) AllReadyH.nil
              skip
              refine wp_far _ _ 51 31 _ 1 24 rfl Tryz.underlying51 info31 rfl (by decide) W1.heap.size k 1 1 (.slice sb k cb0) vs [.slice (some ⟨Ye.heap.size, 0, none⟩) bk.length cb] ⟨Yb.heap.size, 0, none⟩ rfl (OWN.out _ B5.out) rfl rfl (fun j u hu => by rw [add_zero_addr, cell_row R5.out]; simpa using hu) (fun u hu => by simp at hu; subst hu; rfl) (by omega) (by omega) (Nat.le_trans LW.out B5.out.size) ?_
              intro v6 W6 o6 f6
              obtain ⟨s6, c6, rfl⟩ := sh_slice o6
              obtain ⟨g1, g2, g3, g4⟩ := NXT.out Y5 ⟨Ye.heap.size, 0, none⟩ _ _ _ _ _ B5.out (by rw [Z0.out]; exact Nat.le_refl _) (by obtain ⟨kc, kf, kk, kn⟩ := KB2.out; exact ⟨kc, kf, (BY5.out.block _ (lt_of_block kk)).trans kk, kn⟩) (shows_kept SB.out (BY5.out.block _ (lt_of_block KB2.out.choose_spec.choose_spec.1)) (by have h1 := lt_of_block KB2.out.choose_spec.choose_spec.1; have h2 := BY5.out.size; show Ye.heap.size < _; omega)) o6 f6
              have CPN := hid g1
              have T6 := hid g4
              clear o6 f6 g1 g4
              clear hHeld
              refine hK.out _ _ (K9.out _ (KT.out _ T6.out)) (fun hHeld => ?_)
              clear hK K
              try simp only [Act.put, List.setIfInBounds_toArray, List.set_cons_zero, List.set_cons_succ]
              refine wpAnyH_take (i := 15) (v := ?_) (by simp only [List.getElem?_toArray, List.getElem?_cons_succ, List.getElem?_cons_zero]; rfl) (by kernel_rfl) (by kernel_rfl) (by kernel_rfl) (fun _ _ _ h => h) (Or.inl ⟨by rfl, ?_⟩) (by assumption) ?_
              rotate_left 1
              · intro w hSw; (try dsimp only at hSw); go_simp; (try with_reducible rfl)
              try simp only [Act.put, List.setIfInBounds_toArray, List.set_cons_zero, List.set_cons_succ]
              refine wpAnyH_ready (rs := [16]) (by kernel_rfl) (by simp) ?_
              refine AllReadyH.cons (by simp only [List.getElem?_toArray, List.getElem?_cons_succ, List.getElem?_cons_zero]; rfl) (fun K hK => ?_) AllReadyH.nil
              go_simp
              clear hHeld
              refine hK.out _ _ (K9.out _ (KT.out _ (T6.out.setCell (.inl (by simp)) _))) (fun hHeld => ?_)
              clear hK K
              try simp only [Act.put, List.setIfInBounds_toArray, List.set_cons_zero, List.set_cons_succ]
              refine wpAnyH_done (by kernel_rfl) ?_ _
              refine NoPanic.normal ?_
              clear g2 g3
              go_wp2_with fail
              clear V1 V2
              refine ⟨⟨k + 1, _, _, by go_num, by omega, BTK.out ▸ CPN.out⟩, ?_⟩
              show nb + 1 - ((k : Int) + 1).toNat < nb + 1 - (k : Int).toNat
              omega
            · go_simp
              obtain ⟨Y5, hY5⟩ : ∃ Y5, Y5 = Yb.alloc (Obj.cells #[.slice (some ⟨Ye.heap.size, 0, none⟩) bk.length cb] 31) := ⟨_, rfl⟩
              rw [← hY5]
              have B5 : Hid (Below W2.heap.size W2 Y5) := by rw [hY5]; exact BB.out.alloc BB.out.size _
              have R5 : Hid (Y5.heap[Yb.heap.size]? = some (.cells #[.slice (some ⟨Ye.heap.size, 0, none⟩) bk.length cb] 31 (0, 0))) := by rw [hY5]; exact heap_alloc_new Yb _
              have BY5 : Hid (Below Yb.heap.size Yb Y5) := by rw [hY5]; exact (Below.refl _ _).alloc (Nat.le_refl _) _
              clear hY5
              clear hHeld
              refine hK.out _ _ (K8.out _ B5.out) (fun hHeld => ?_)
              clear hK K
              try simp only [Act.put, List.setIfInBounds_toArray, List.set_cons_zero, List.set_cons_succ]
              refine wpAnyH_ready (rs := [1]) (by kernel_rfl) (by simp) ?_
              refine AllReadyH.cons (by simp only [List.getElem?_toArray, List.getElem?_cons_succ, List.getElem?_cons_zero]; rfl) (fun K hK => ?_) AllReadyH.nil
              skip
              have cl := KL.out _ B5.out
              go_simp
              clear cl
              clear hHeld
              refine hK.out _ _ (K8.out _ B5.out) (fun hHeld => ?_)
              clear hK K
              try simp only [Act.put, List.setIfInBounds_toArray, List.set_cons_zero, List.set_cons_succ]
              refine wpAnyH_ready (rs := [14]) (by kernel_rfl) (by simp) ?_
              refine AllReadyH.cons (by simp only [List.getElem?_toArray, List.getElem?_cons_succ, List.getElem?_cons_zero]; rfl) (fun K hK => ?_) AllReadyH.nil
              skip
              refine wp_far _ _ 51 31 _ 1 24 rfl Tryz.underlying51 info31 rfl (by decide) W1.heap.size k 1 1 (.slice sb k cb0) vs [.slice (some ⟨Ye.heap.size, 0, none⟩) bk.length cb] ⟨Yb.heap.size, 0, none⟩ rfl (OWN.out _ B5.out) rfl rfl (fun j u hu => by rw [add_zero_addr, cell_row R5.out]; simpa using hu) (fun u hu => by simp at hu; subst hu; rfl) (by omega) (by omega) (Nat.le_trans LW.out B5.out.size) ?_
              intro v6 W6 o6 f6
              obtain ⟨s6, c6, rfl⟩ := sh_slice o6
              obtain ⟨g1, g2, g3, g4⟩ := NXT.out Y5 ⟨Ye.heap.size, 0, none⟩ _ _ _ _ _ B5.out (by rw [Z0.out]; exact Nat.le_refl _) (by obtain ⟨kc, kf, kk, kn⟩ := KB2.out; exact ⟨kc, kf, (BY5.out.block _ (lt_of_block kk)).trans kk, kn⟩) (shows_kept SB.out (BY5.out.block _ (lt_of_block KB2.out.choose_spec.choose_spec.1)) (by have h1 := lt_of_block KB2.out.choose_spec.choose_spec.1; have h2 := BY5.out.size; show Ye.heap.size < _; omega)) o6 f6
              have CPN := hid g1
              have T6 := hid g4
              clear o6 f6 g1 g4
              clear hHeld
              refine hK.out _ _ (K9.out _ (KT.out _ T6.out)) (fun hHeld => ?_)
              clear hK K
              try simp only [Act.put, List.setIfInBounds_toArray, List.set_cons_zero, List.set_cons_succ]
              refine wpAnyH_take (i := 15) (v := ?_) (by simp only [List.getElem?_toArray, List.getElem?_cons_succ, List.getElem?_cons_zero]; rfl) (by kernel_rfl) (by kernel_rfl) (by kernel_rfl) (fun _ _ _ h => h) (Or.inl ⟨by rfl, ?_⟩) (by assumption) ?_
              rotate_left 1
              · intro w hSw; (try dsimp only at hSw); go_simp; (try with_reducible rfl)
              try simp only [Act.put, List.setIfInBounds_toArray, List.set_cons_zero, List.set_cons_succ]
              refine wpAnyH_ready (rs := [16]) (by kernel_rfl) (by simp) ?_
              refine AllReadyH.cons (by simp only [List.getElem?_toArray, List.getElem?_cons_succ, List.getElem?_cons_zero]; rfl) (fun K hK => ?_) AllReadyH.nil
              go_simp
              clear hHeld
              refine hK.out _ _ (K9.out _ (KT.out _ (T6.out.setCell (.inl (by simp)) _))) (fun hHeld => ?_)
              clear hK K
              try simp only [Act.put, List.setIfInBounds_toArray, List.set_cons_zero, List.set_cons_succ]
              refine wpAnyH_done (by kernel_rfl) ?_ _
              refine NoPanic.normal ?_
              clear g2 g3
              go_wp2_with fail
              clear V1 V2
              refine ⟨⟨k + 1, _, _, by go_num, by omega, BTK.out ▸ CPN.out⟩, ?_⟩
              show nb + 1 - ((k : Int) + 1).toNat < nb + 1 - (k : Int).toNat
              omega
        · obtain ⟨sb, cb0, hfb⟩ := sh_slice hcb.own
          have hbt : bl.take k = bl := by rw [List.take_of_length_le]; rw [hbl2.out]; omega
          rw [hkl] at hfb
          obtain ⟨sf, cf, hfo⟩ := sh_slice HI2.out.st.own
          have hml : m.length = i := by
            have h1 := congrArg List.length HPB.out
            have h2 := HL.out
            simp at h1
            omega
          rw [hml] at hfo
          have z1 := z0.out
          have ztd := TD.out.size
          have hb3 : W2.heap[w.heap.size + 1 + 1]? = some (.cells #[.int .i64 x, fo] 47 (0, 0)) := by
            rw [hcb.touch.block _ (by have := LD.out; omega) (by simp; omega), EW1.out, Below.heap_alloc _ _ _ (by omega)]
            exact HI2.out.box
          have e1 := cell_row hb3 1
          simp at e1
          rw [hfo] at e1
          have hbx := hcb.box
          have x0 := cell_row hbx 0
          have x1 := cell_row hbx 1
          have x2 := cell_row hbx 2
          rw [hfb] at x2
          simp at x0 x1 x2
          have OWN : Hid (W2.ownsRow W0.heap.size 71 3 (.slice sf i cf) i (m.flatMap SFile.cells)) := by
            have ho := own_kept (w' := W2) HI2.out.st.own fun g hg => by
              have hg2 := (own_block HI2.out.st.own hg).2
              rw [hcb.touch.block g (by have := LD.out; omega) (by simp; omega), EW1.out, Below.heap_alloc _ _ _ hg2]
            rw [hml, hfo] at ho
            exact ho
          have LW : Hid (W0.heap.size ≤ W2.heap.size) := by
            have h1 := hcb.touch.size
            have h2 := LD.out
            show _ ≤ _
            omega
          have NXT : Hid (∀ (s6 : Option Addr) (c6 : Nat) (W7 : World), W7.ownsRow W0.heap.size 71 3 (.slice s6 (i + 1) c6) (i + 1) (m.flatMap SFile.cells ++ [encStr nm, .bool sl, .slice sb k cb0]) → (((Value.slice s6 (i + 1) c6).ownBlock = (Value.slice sf i cf).ownBlock ∧ (W2.alloc (.cells #[encStr nm, .bool sl, .slice sb k cb0] 71)).grownBy W7 (Value.slice sf i cf).ownBlock) ∨ ((∀ g, (Value.slice s6 (i + 1) c6).ownBlock = some g → (W2.alloc (.cells #[encStr nm, .bool sl, .slice sb k cb0] 71)).heap.size ≤ g) ∧ (W2.alloc (.cells #[encStr nm, .bool sl, .slice sb k cb0] 71)).grownBy W7 none)) →
              CpIn W0 (W7.setCell ⟨w.heap.size + 1 + 1, 1, none⟩ (.slice s6 (i + 1) c6)) (w.heap.size + 1 + 1) (.int .i64 x) (.slice s6 (i + 1) c6) (m ++ [⟨nm, ⟨sl, bl⟩, .slice sb k cb0, []⟩]) ∧ W7.frozen? ⟨w.heap.size + 1 + 1, 1, none⟩ = false ∧ W7.cell? ⟨w.heap.size + 1 + 1, 1, none⟩ = some (.slice sf i cf)) := fun s6 c6 W7 ho hf => by
            have hf2 := hf
            rw [← hfo] at hf2
            have hcb2 := hcb
            rw [hfb, hbt] at hcb2
            have r := CpIn.next (v' := .slice s6 (i + 1) c6) (e := ⟨nm, ⟨sl, bl⟩, .slice sb k cb0, []⟩) HI2.out EW1.out hcb2 rfl rfl rfl (by rw [hml]; exact ho) hf2
            rw [hfo] at r
            exact r
          have PBN : Hid ((m ++ [(⟨nm, ⟨sl, bl⟩, .slice sb k cb0, []⟩ : SFile)]).map SFile.pub = (l.take (i + 1)).map SFile.pub) := by
            obtain ⟨q1, q2, q3, q4, _⟩ := HEM.out
            have h3 : l[i]? = some e0 := by rw [q1]; exact List.getElem?_eq_getElem _
            show _ = _
            rw [List.map_append, HPB.out, List.take_add_one, h3, List.map_append]
            simp [SFile.pub, q2, q3, q4]
          have hklt1 : ¬ (k : Int) < (nb : Int) := by omega
          subst hklt
          clear hcb hfb hkl hbt hfo hml hb3 hbx z1 ztd KSB
          go_wp2_with (at_builtin; refine wpl_one rfl _ _ 45 rfl W0.heap.size 71 _ 3 48 Tryz.underlying45 inf71 rfl (by decide) (.slice sf i cf) i (m.flatMap SFile.cells) rfl OWN.out [encStr nm, .bool sl, .slice sb k cb0] 71 _ rfl rfl rfl (fun u hu => by simp at hu; rcases hu with rfl | rfl | rfl <;> rfl) (by omega) (by omega) LW.out ?_; intro v8 w8 o8 f8; obtain ⟨s8, c8, rfl⟩ := sh_slice o8; obtain ⟨n1, n2, n3⟩ := NXT.out _ _ _ o8 f8; have CIN := hid n1; clear o8 f8 n1)
          clear V1
          refine ⟨⟨i + 1, _, _, by go_num, by omega, CIN.out, PBN.out⟩, ?_⟩
          show L + 1 - ((i : Int) + 1).toNat < L + 1 - (i : Int).toNat
          omega
    · obtain ⟨sf, cf, hfo⟩ := sh_slice hcp.st.own
      have hml : m.length = L := by
        have h1 := congrArg List.length hpub
        have h2 := HL.out
        simp at h1
        omega
      rw [hml] at hfo
      have c30 := cell_row hcp.box 0
      have c31 := cell_row hcp.box 1
      rw [hfo] at c31
      simp at c30 c31
      have q2 := (KB.out _ hcp.touch).2.2
      have a0 := cell_row q2 0
      have a1 := cell_row q2 1
      have f0 := unfrozen_row q2 0
      have f1 := unfrozen_row q2 1
      simp at a0 a1
      have FIN : Hid (∀ u v : Value, StateFr ((Wr.setCell ⟨w.heap.size + 1, 0, none⟩ u).setCell ⟨w.heap.size + 1, 1, none⟩ v) w.heap.size (.slice sf L cf) m ∧ m.map SFile.pub = l.map SFile.pub ∧ Below w.heap.size w ((Wr.setCell ⟨w.heap.size + 1, 0, none⟩ u).setCell ⟨w.heap.size + 1, 1, none⟩ v)) := fun u v => by
        refine ⟨?_, ?_, ((KB.out _ hcp.touch).1.setCell (by show _ ≤ w.heap.size + 1; omega) _).setCell (by show _ ≤ w.heap.size + 1; omega) _⟩
        · have hs : StateFr ((Wr.setCell ⟨w.heap.size + 1, 0, none⟩ u).setCell ⟨w.heap.size + 1, 1, none⟩ v) W0.heap.size fo m := hcp.st.kept fun b hb _ => by
            have hbn : b ≠ w.heap.size + 1 := by omega
            rw [Below.heap_setCell _ _ _ _ hbn, Below.heap_setCell _ _ _ _ hbn]
          rw [hfo] at hs
          exact hs.mono (by omega)
        · rw [hpub, hlt, HL.out, List.take_length]
      have hlt1 : ¬ (i : Int) < (L : Int) := by omega
      clear hcp hpub hfo hml q1 q2
      go_wp2_with fail
      refine bodyPost_ret (v := .agg #[.int .i64 x, .slice sf L cf]) (by simp [results, Tryz.results13, go_sem, a0, a1]) rfl ?_
      exact ⟨_, rfl, m, FIN.out _ _⟩
end Go.Proofs.YtcpncfngadablaaGreatDoor.Fz
