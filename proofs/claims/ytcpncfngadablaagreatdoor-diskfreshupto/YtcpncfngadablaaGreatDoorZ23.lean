import Derived.Lib.ConvBytes
import Derived.Lib.AtoiErrMem
import Derived.Test.YtcpncfngadablaaGreatDoorZ22
/-
  Copy: what is being made.
-/
namespace Go.Proofs.YtcpncfngadablaaGreatDoor
open Go.RowKit Go.Deep ShfKit
set_option maxRecDepth 100000
/-- append of one, in the text's order, told where it lies. -/
theorem wpl_one {ops : Array Oper} {rest : List Oper} {o : Oper} {a : Act} {Q : Exit → Act → World → Prop} {W : World} (hg : o.guard = none) (s x : Operand) (t : TypeId) (hop : o.op = Op.call { callee := Callee.builtin Builtin.append, args := #[s, x], argTypes := #[t, t] })
    (B : Nat) (e : TypeId) (z : Value) (size bytes : Nat) (ht : Tryz.prog.underlying t = some (.slice e)) (hinf : (Tryz.prog.info? e).map (fun i => (i.zero, i.size, i.bytes)) = some (some z, size, bytes))
    (hzs : z.cells.size = size) (hsz : 0 < size) (v : Value) (n : Nat) (xs : List Value) (hs : a.eval s = v) (hown : W.ownsRow B e size v n xs) (news : List Value) (u : TypeId) (ad : Nat) (had : ad = W.heap.size) (hx : a.eval x = .slice (some ⟨ad, 0, none⟩) 1 1) (hl : news.length = size) (h1 : ∀ u ∈ news, u.oneCell' = true) (hn : n ≤ 1099511627776) (hby : (n + 1) * bytes ≤ 140737488355328) (hbase : B ≤ W.heap.size)
    (hK : ∀ v' w', w'.ownsRow B e size v' (n + 1) (xs ++ news) → ((v'.ownBlock = v.ownBlock ∧ (W.alloc (.cells news.toArray u)).grownBy w' v.ownBlock) ∨ ((∀ g, v'.ownBlock = some g → (W.alloc (.cells news.toArray u)).heap.size ≤ g) ∧ (W.alloc (.cells news.toArray u)).grownBy w' none)) → wpList Tryz.prog ops Q rest (a.put o.dst v') w') :
    wpList Tryz.prog ops Q (o :: rest) a (W.alloc (.cells news.toArray u)) := by
  subst had
  obtain ⟨i, hi, hz0, hz1, hz2⟩ := info_parts hinf
  exact wpList_append_far _ hg s x t hop B e i z size bytes ht hi hz0 hz1 hz2 hzs hsz v n xs hs (own_kept hown fun g hgv => Below.heap_alloc _ _ _ (own_block hown hgv).2) ⟨W.heap.size, 0, none⟩ 1 1 news hx (by rw [hl, Nat.one_mul]) (fun j u hu => by rw [add_zero_addr, cell_row (heap_alloc_new W _)]; simpa using hu) h1 (by unfold maxLen; omega) hby (by simp; omega) hK
theorem StateFr.mono {w : World} {n n' : Nat} {fv : Value} {l : List SFile} (h : StateFr w n fv l) (hn : n' ≤ n) : StateFr w n' fv l := ⟨own_base h.own hn, fun e he => (h.each e he).mono hn⟩
section
variable {w wr W1 wk Y Z W6 : World} {b3 b5 N : Nat} {nm sl fb v' fo : Value} {vs : List Value} {bs : List (List UInt8)} {m : List SFile}
/-- a file in the making: its box, its list of blocks so far. -/
structure CpB (W1 wk : World) (b5 : Nat) (nm sl fb : Value) (vs : List Value) (bs : List (List UInt8)) : Prop where
  touch : Touch [b5] W1 wk
  box : wk.heap[b5]? = some (.cells #[nm, sl, fb] 71 (0, 0))
  own : wk.ownsRow W1.heap.size 31 1 fb bs.length vs
  each : ∀ (i : Nat) (b : List UInt8), bs[i]? = some b → ∃ (a : Addr) (xn xc : Nat), vs[i]? = some (.slice (some a) xn xc) ∧ W1.heap.size ≤ a.block ∧ (∃ c fz, wk.heap[a.block]? = some (Obj.cells c 5 fz)) ∧ Shows wk (some a) xn xc b
theorem CpB.start (h : W1.heap[b5]? = some (.cells #[nm, sl, .slice none 0 0] 71 (0, 0))) : CpB W1 W1 b5 nm sl (.slice none 0 0) [] [] := ⟨Touch.refl _ _, h, World.ownsRow_nil _ _ _ _, fun i b hb => by simp at hb⟩
theorem CpB.next (h : CpB W1 wk b5 nm sl fb vs bs) (hb : Below wk.heap.size wk Z) {a : Addr} {xn xc : Nat} {b : List UInt8} (ha : wk.heap.size ≤ a.block) (hka : ∃ c fz, Z.heap[a.block]? = some (Obj.cells c 5 fz)) (hs : Shows Z (some a) xn xc b)
    (ho : W6.ownsRow W1.heap.size 31 1 v' (bs.length + 1) (vs ++ [.slice (some a) xn xc])) (hf : (v'.ownBlock = fb.ownBlock ∧ Z.grownBy W6 fb.ownBlock) ∨ ((∀ g, v'.ownBlock = some g → Z.heap.size ≤ g) ∧ Z.grownBy W6 none)) :
    CpB W1 (W6.setCell ⟨b5, 2, none⟩ v') b5 nm sl v' (vs ++ [.slice (some a) xn xc]) (bs ++ [b]) ∧ W6.frozen? ⟨b5, 2, none⟩ = false ∧ W6.cell? ⟨b5, 2, none⟩ = some fb ∧ Touch [b5] W1 W6 := by
  obtain ⟨g1, _⟩ := grown_all hf
  have hoZ : Z.ownsRow W1.heap.size 31 1 fb bs.length vs := own_kept h.own fun g hg => hb.block g (own_block h.own hg).2
  have hbut : But 31 Z W6 := But.of_own hoZ hf
  have hboxZ : Z.heap[b5]? = some (.cells #[nm, sl, fb] 71 (0, 0)) := (hb.block b5 (lt_of_block h.box)).trans h.box
  have hbox6 : W6.heap[b5]? = some (.cells #[nm, sl, fb] 71 (0, 0)) := (hbut _ _ _ _ hboxZ (by decide)).trans hboxZ
  have hbut2 : But 71 W6 (W6.setCell ⟨b5, 2, none⟩ v') := But.setCell hbox6 _
  have tZ : Touch [b5] W1 Z := h.touch.trans (Touch.of_below (F := []) hb (Nat.le_refl _)) (by simp)
  have fbk : ∀ k, fb.ownBlock = some k → k ∈ [b5] ∨ W1.heap.size ≤ k := fun k hk => .inr (own_block h.own hk).1
  have t6 : Touch [b5] W1 W6 := tZ.grown g1 fbk
  have keep : ∀ k : Nat, (∃ c fz, Z.heap[k]? = some (Obj.cells c 5 fz)) → (W6.setCell ⟨b5, 2, none⟩ v').heap[k]? = Z.heap[k]? := fun k ⟨c, fz, hk⟩ => by
    have e1 := hbut k c 5 fz hk (by decide)
    exact (hbut2 k c 5 fz (e1.trans hk) (by decide)).trans e1
  refine ⟨⟨t6.setCell (.inl (by simp)) _, ?_, ?_, fun i b' hi => ?_⟩, unfrozen_row hbox6 2, by rw [cell_row hbox6]; rfl, ?_⟩
  · exact heap_setCell_row hbox6 2 v'
  · rw [List.length_append]
    exact hbut2.own ho (by decide)
  · by_cases hl : i < bs.length
    · rw [List.getElem?_append_left hl] at hi
      obtain ⟨a0, n0, c0, e0, l0, ⟨kc, kf, k0⟩, s0⟩ := h.each i b' hi
      have eZ := hb.block a0.block (Array.getElem?_eq_some_iff.1 k0).1
      have kZ := eZ.trans k0
      have e6 := keep a0.block ⟨kc, kf, kZ⟩
      have hl2 : vs.length = bs.length := by simpa using h.own.1
      refine ⟨a0, n0, c0, by rw [List.getElem?_append_left (by omega)]; exact e0, l0, ⟨kc, kf, e6.trans kZ⟩, shows_kept s0 (e6.trans eZ) (Array.getElem?_eq_some_iff.1 (e6.trans kZ)).1⟩
    · have hi2 := (List.getElem?_eq_some_iff.1 hi).1
      simp at hi2
      have hie : i = bs.length := by omega
      subst hie
      rw [List.getElem?_append_right (Nat.le_refl _), Nat.sub_self] at hi
      cases hi
      have hl2 : vs.length = bs.length := by simpa using h.own.1
      obtain ⟨kc, kf, kZ⟩ := hka
      have e6 := keep a.block ⟨kc, kf, kZ⟩
      refine ⟨a, xn, xc, by rw [← hl2, List.getElem?_append_right (Nat.le_refl _), Nat.sub_self]; rfl, Nat.le_trans h.touch.size ha, ⟨kc, kf, e6.trans kZ⟩, shows_kept hs e6 (Array.getElem?_eq_some_iff.1 (e6.trans kZ)).1⟩
  · exact t6
/-- the copy in the making: its box, its files so far. -/
structure CpIn (w wr : World) (b3 : Nat) (x : Value) (fo : Value) (m : List SFile) : Prop where
  touch : Touch [b3] w wr
  box : wr.heap[b3]? = some (.cells #[x, fo] 47 (0, 0))
  st : StateFr wr w.heap.size fo m
/-- a file is done. -/
theorem CpB.blocks (h : CpB W1 wk b5 nm sl fb vs bs) : BlocksFr wk W1.heap.size fb bs := by
  refine ⟨?_, fun i hi => ?_⟩
  · rcases h.own.2 with ⟨hv, h0⟩ | ⟨g, cap, cur, hv, _⟩
    · exact ⟨none, 0, by rw [hv, h0]⟩
    · exact ⟨_, _, hv⟩
  · obtain ⟨a, xn, xc, e, l, k, s⟩ := h.each i bs[i] (List.getElem?_eq_getElem hi)
    obtain ⟨G, gc, hv, hG, _, c, _⟩ := own_cell h.own e
    obtain ⟨kc, kf, kk⟩ := Lib.ownsRow_kind h.own G (by rw [hv]; rfl)
    exact ⟨G, gc, a, xn, xc, hv, hG, l, ⟨kc, kf, kk⟩, k, c, s⟩
/-- the file is put behind the others. -/
theorem CpIn.next {x : Value} {Q W7 : World} {o o' : Obj} {e : SFile} (h : CpIn w wr b3 x fo m) (hW1 : W1 = wr.alloc o) (hb : CpB W1 wk wr.heap.size nm sl fb vs bs) (hQ : Q = wk.alloc o') (he : e.file.blocks = bs) (hsv : e.sv = fb)
    (ho : W7.ownsRow w.heap.size 71 3 v' (m.length + 1) (m.flatMap SFile.cells ++ e.cells)) (hf : (v'.ownBlock = fo.ownBlock ∧ Q.grownBy W7 fo.ownBlock) ∨ ((∀ g, v'.ownBlock = some g → Q.heap.size ≤ g) ∧ Q.grownBy W7 none)) :
    CpIn w (W7.setCell ⟨b3, 1, none⟩ v') b3 x v' (m ++ [e]) ∧ W7.frozen? ⟨b3, 1, none⟩ = false ∧ W7.cell? ⟨b3, 1, none⟩ = some fo := by
  obtain ⟨g1, _⟩ := grown_all hf
  have hs0 := h.touch.size
  have s1 : W1.heap.size = wr.heap.size + 1 := by rw [hW1]; simp
  have b1 : Below wr.heap.size wr W1 := by rw [hW1]; exact (Below.refl _ _).alloc (Nat.le_refl _) _
  have bk : Below wr.heap.size wr wk := b1.trans (hb.touch.below (by omega) (by simp))
  have bQ : Below wr.heap.size wr Q := by rw [hQ]; exact bk.alloc bk.size _
  have kQ : Below wk.heap.size wk Q := by rw [hQ]; exact (Below.refl _ _).alloc (Nat.le_refl _) _
  have oQ : Q.ownsRow w.heap.size 71 3 fo m.length (m.flatMap SFile.cells) := own_kept h.st.own fun g hg => bQ.block g (own_block h.st.own hg).2
  have but : But 71 Q W7 := But.of_own oQ hf
  have xQ : Q.heap[b3]? = some (.cells #[x, fo] 47 (0, 0)) := (bQ.block b3 (lt_of_block h.box)).trans h.box
  have x7 : W7.heap[b3]? = some (.cells #[x, fo] 47 (0, 0)) := (but _ _ _ _ xQ (by decide)).trans xQ
  have but2 : But 47 W7 (W7.setCell ⟨b3, 1, none⟩ v') := But.setCell x7 _
  have keep : ∀ (k : Nat) (c : Array Value) (e : Nat) (fz : Nat × Nat), Q.heap[k]? = some (Obj.cells c e fz) → e = 31 ∨ e = 5 → (W7.setCell ⟨b3, 1, none⟩ v').heap[k]? = Q.heap[k]? := fun k c e fz hk he => by
    have e1 := but k c e fz hk (by rcases he with rfl | rfl <;> decide)
    exact (but2 k c e fz (e1.trans hk) (by rcases he with rfl | rfl <;> decide)).trans e1
  refine ⟨⟨?_, heap_setCell_row x7 1 v', ?_, fun e' he' => ?_⟩, unfrozen_row x7 1, by rw [cell_row x7]; rfl⟩
  · exact ((h.touch.trans (Touch.of_below (F := []) bQ (Nat.le_refl _)) (by simp)).grown g1 (fun k hk => .inr (own_block h.st.own hk).1)).setCell (.inl (by simp)) _
  · rw [List.length_append, List.flatMap_append]
    have := but2.own ho (by decide)
    simpa using this
  · rcases List.mem_append.1 he' with hm | hm
    · refine (h.st.each e' hm).kept fun b c e fz hb hw hk => ?_
      have eQ := bQ.block b (Array.getElem?_eq_some_iff.1 hw).1
      exact (keep b c e fz (eQ.trans hw) hk).trans eQ
    · simp at hm
      subst hm
      rw [he, hsv]
      refine (hb.blocks.mono (n' := w.heap.size) (by omega)).kept fun b c e fz hb hw hk => ?_
      have eQ := kQ.block b (Array.getElem?_eq_some_iff.1 hw).1
      exact (keep b c e fz (eQ.trans hw) hk).trans eQ
end
end Go.Proofs.YtcpncfngadablaaGreatDoor
/-
  A disk and a shelf side by side; a state that was told and is kept.
-/
namespace Go.Proofs.YtcpncfngadablaaGreatDoor
open Go.RowKit Go.Deep ShfKit
set_option maxRecDepth 100000
section
variable {w w' w1 w2 : World} {n m : Nat} {F F' G : List Nat} {fv : Value} {l : List SFile} {E : Nat → Addr} {lo p mf mt B t t' : Nat} {D D' D'' : DiskC} {S S' S'' : Sg}
/-- a state that was told: its memory from n to m is as it was; the blocks of F lie elsewhere. -/
structure Told (w : World) (n m : Nat) (F : List Nat) (fv : Value) (l : List SFile) : Prop where
  snap : ∃ w0 : World, StateFr w0 n fv l ∧ w0.heap.size ≤ m ∧ ∀ b, n ≤ b → b < m → w.heap[b]? = w0.heap[b]?
  le : m ≤ w.heap.size
  free : ∀ b ∈ F, b < n ∨ m ≤ b
theorem Told.fr (h : Told w n m F fv l) : StateFr w n fv l := by
  obtain ⟨w0, h1, h2, h3⟩ := h.snap
  exact h1.kept fun b hb hl => h3 b hb (by omega)
theorem Told.step (h : Told w n m F fv l) (ht : Touch G w w') (hG : ∀ b ∈ G, b ∈ F ∨ w.heap.size ≤ b) (hF : ∀ b ∈ F', b ∈ F ∨ w.heap.size ≤ b) : Told w' n m F' fv l := by
  obtain ⟨w0, h1, h2, h3⟩ := h.snap
  refine ⟨⟨w0, h1, h2, fun b hb hl => ?_⟩, Nat.le_trans h.le ht.size, fun b hb => ?_⟩
  · rw [ht.block b (by have := h.le; omega) (fun hg => ?_)]
    · exact h3 b hb hl
    · rcases hG b hg with h4 | h4
      · rcases h.free b h4 with h5 | h5 <;> omega
      · have := h.le
        omega
  · rcases hF b hb with h4 | h4
    · exact h.free b h4
    · have := h.le
      exact .inr (by omega)
theorem Told.below (h : Told w n m F fv l) (hb : Below w.heap.size w w') : Told w' n m F fv l := h.step (G := []) (Touch.of_below hb (Nat.le_refl _)) (by simp) (fun b hb => .inl hb)
theorem Told.start (h : StateFr w n fv l) (hm : w.heap.size = m) (hF : ∀ b ∈ F, b < n) : Told w n m F fv l := ⟨⟨w, h, by omega, fun _ _ _ => rfl⟩, by omega, fun b hb => .inl (hF b hb)⟩

/-- a disk and a shelf. -/
structure Sy (w : World) (E : Nat → Addr) (lo p mf mt B t : Nat) (D : DiskC) (S : Sg) : Prop where
  env : Env w lo E
  run : Runs w lo p mf mt B t D
  sh : ShelfAt w S
  apart : ∀ b ∈ D.foot p mf mt, b ∉ S.foot
  slo : ∀ b ∈ S.foot, lo ≤ b
/-- from one such to another. -/
structure Stp (w w' : World) (p mf mt : Nat) (D D' : DiskC) (S S' : Sg) : Prop where
  touch : Touch (S.hdr ++ D.foot p mf mt) w w'
  hdr : ∀ b ∈ S'.hdr, b ∈ S.hdr ∨ w.heap.size ≤ b
  dft : ∀ b ∈ D'.foot p mf mt, b ∈ D.foot p mf mt ∨ w.heap.size ≤ b
  foot : ∀ b ∈ S'.foot, b ∈ S.foot ∨ w.heap.size ≤ b
theorem Stp.refl (w : World) (p mf mt : Nat) (D : DiskC) (S : Sg) : Stp w w p mf mt D D S S := ⟨Touch.refl _ _, fun _ h => .inl h, fun _ h => .inl h, fun _ h => .inl h⟩
theorem Stp.trans (h : Stp w w1 p mf mt D D' S S') (k : Stp w1 w2 p mf mt D' D'' S' S'') : Stp w w2 p mf mt D D'' S S'' := by
  have up : ∀ {F F' F'' : List Nat}, (∀ b ∈ F', b ∈ F ∨ w.heap.size ≤ b) → (∀ b ∈ F'', b ∈ F' ∨ w1.heap.size ≤ b) → ∀ b ∈ F'', b ∈ F ∨ w.heap.size ≤ b := fun h1 h2 b hb => by
    rcases h2 b hb with h3 | h3
    · exact h1 b h3
    · exact .inr (Nat.le_trans h.touch.size h3)
  refine ⟨h.touch.trans k.touch (fun b hb => ?_), up h.hdr k.hdr, up h.dft k.dft, up h.foot k.foot⟩
  rcases List.mem_append.1 hb with hb | hb
  · rcases h.hdr b hb with h1 | h1
    · exact .inl (List.mem_append.2 (.inl h1))
    · exact .inr h1
  · rcases h.dft b hb with h1 | h1
    · exact .inl (List.mem_append.2 (.inr h1))
    · exact .inr h1
theorem Stp.below (h : Stp w w1 p mf mt D D' S S') (k : Below w1.heap.size w1 w2) : Stp w w2 p mf mt D D' S S' := h.trans ⟨Touch.of_below k (Nat.le_refl _), fun _ h => .inl h, fun _ h => .inl h, fun _ h => .inl h⟩
theorem Sy.below (h : Sy w E lo p mf mt B t D S) (k : Below w.heap.size w w') : Sy w' E lo p mf mt B t D S := by
  have ht : Touch [] w w' := Touch.of_below k (Nat.le_refl _)
  exact ⟨h.env.touch ht (by simp), h.run.touch ht, h.sh.touch ht (by simp), h.apart, h.slo⟩
/-- what was told stays, over a step. -/
theorem Stp.told (h : Stp w w' p mf mt D D' S S') (k : Told w n m (S.hdr ++ D.foot p mf mt) fv l) : Told w' n m (S'.hdr ++ D'.foot p mf mt) fv l := k.step h.touch (fun b hb => .inl hb) (fun b hb => by
  rcases List.mem_append.1 hb with hb | hb
  · rcases h.hdr b hb with h1 | h1
    · exact .inl (List.mem_append.2 (.inl h1))
    · exact .inr h1
  · rcases h.dft b hb with h1 | h1
    · exact .inl (List.mem_append.2 (.inr h1))
    · exact .inr h1)
theorem Stp.held (h : Stp w w' p mf mt D D' S S') (k : Told w n m (S.foot ++ D.foot p mf mt) fv l) : Told w' n m (S'.foot ++ D'.foot p mf mt) fv l := k.step h.touch (fun b hb => by
  rcases List.mem_append.1 hb with hb | hb
  · exact .inl (List.mem_append.2 (.inl (hdr_foot hb)))
  · exact .inl (List.mem_append.2 (.inr hb))) (fun b hb => by
  rcases List.mem_append.1 hb with hb | hb
  · rcases h.foot b hb with h1 | h1
    · exact .inl (List.mem_append.2 (.inl h1))
    · exact .inr h1
  · rcases h.dft b hb with h1 | h1
    · exact .inl (List.mem_append.2 (.inr h1))
    · exact .inr h1)
/-- the shelf grows: lists are put on it. -/
theorem Sy.grow (h : Sy w E lo p mf mt B t D S) (hs : ShelfAt w' S') (hg : Grew w w' S S') (hf : ∀ b ∈ S'.foot, b ∈ S.foot ∨ (w.heap.size ≤ b) ∨ (lo ≤ b ∧ b ∉ D.foot p mf mt)) : Sy w' E lo p mf mt B t D S' := by
  have hn : ∀ b ∈ D.foot p mf mt, b ∉ S.hdr := fun b hb hm => h.apart b hb (hdr_foot hm)
  refine ⟨h.env.touch hg.touch (fun b hb => h.slo b (hdr_foot hb)), ⟨h.run.rep.touch hg.touch hn, h.run.T, h.run.inv, h.run.B⟩, hs, fun b hb hm => ?_, fun b hb => ?_⟩
  · rcases hf b hm with h1 | h1 | h1
    · exact h.apart b hb h1
    · have := h.run.rep.lt b hb
      omega
    · exact h1.2 hb
  · rcases hf b hb with h1 | h1 | h1
    · exact h.slo b h1
    · exact Nat.le_trans h.env.room h1
    · exact h1.1
/-- the disk does something. -/
theorem Sy.disk (h : Sy w E lo p mf mt B t D S) (hr : Runs w' lo p mf mt B t' D') (ht : Touch (D.foot p mf mt) w w') (hf : ∀ b ∈ D'.foot p mf mt, b ∈ D.foot p mf mt ∨ w.heap.size ≤ b) : Sy w' E lo p mf mt B t' D' S ∧ Stp w w' p mf mt D D' S S := by
  refine ⟨⟨h.env.touch ht (fun b hb => h.run.rep.base b hb), hr, h.sh.touch ht (fun b hb hm => h.apart b hm hb), fun b hb hm => ?_, h.slo⟩, ⟨ht.mono (fun b hb => List.mem_append.2 (.inr hb)), fun _ h => .inl h, hf, fun _ h => .inl h⟩⟩
  rcases hf b hb with h1 | h1
  · exact h.apart b h1 hm
  · have := h.sh.lt b hm
    omega
end
end Go.Proofs.YtcpncfngadablaaGreatDoor
