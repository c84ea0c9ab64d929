import Derived.Laws.IdiomStrings
import Derived.Test.YtcpncfngadablaaGreatDoorZ19
/-
  States that can be read, in memory from a place on.
-/
namespace Go.Proofs.YtcpncfngadablaaGreatDoor
open Go.RowKit Go.Deep ShfKit
set_option maxRecDepth 100000
section
variable {w w' W : World} {n n' : Nat} {sv fv : Value} {blocks : List (List UInt8)} {l : List SFile}
structure BlocksFr (w : World) (n : Nat) (sv : Value) (blocks : List (List UInt8)) : Prop where
  sl : ∃ a c, sv = .slice a blocks.length c
  at_ : ∀ i (hi : i < blocks.length), ∃ (G gc : Nat) (a : Addr) (xn xc : Nat), sv = .slice (some ⟨G, 0, none⟩) blocks.length gc ∧ n ≤ G ∧ n ≤ a.block ∧ (∃ c fz, w.heap[G]? = some (Obj.cells c 31 fz)) ∧ (∃ c fz, w.heap[a.block]? = some (Obj.cells c 5 fz)) ∧ w.cell? ⟨G, i, none⟩ = some (.slice (some a) xn xc) ∧ Shows w (some a) xn xc blocks[i]
theorem BlocksFr.sh (h : BlocksFr w n sv blocks) : BlocksSh w sv blocks := ⟨h.sl, fun i hi => by
  obtain ⟨G, gc, a, xn, xc, e, _, _, _, _, c, s⟩ := h.at_ i hi
  exact ⟨G, gc, _, xn, xc, e, c, s⟩⟩
theorem shows_kept {a : Addr} {xn xc : Nat} {d : List UInt8} (h : Shows w (some a) xn xc d) (hk : w'.heap[a.block]? = w.heap[a.block]?) (hs : a.block < w'.heap.size) : Shows w' (some a) xn xc d :=
  ⟨h.len, h.cap, fun h0 => by
    obtain ⟨a', e, hl, hc⟩ := h.at_ h0
    cases e
    exact ⟨a, rfl, hs, fun j v hv => by
      have hb : (a.add j).block = a.block := by unfold Addr.add; split <;> rfl
      rw [World.cell?_of_block (w := w) (w' := w') (a := a.add j) (by rw [hb]; exact hk)]
      exact hc j v hv⟩, fun e => by simp at e⟩
theorem BlocksFr.kept (h : BlocksFr w n sv blocks) (hk : ∀ (b : Nat) (c : Array Value) (e : Nat) (fz : Nat × Nat), n ≤ b → w.heap[b]? = some (Obj.cells c e fz) → e = 31 ∨ e = 5 → w'.heap[b]? = w.heap[b]?) : BlocksFr w' n sv blocks := ⟨h.sl, fun i hi => by
  obtain ⟨G, gc, a, xn, xc, e, g1, g2, ⟨c1, f1, k1⟩, ⟨c2, f2, k2⟩, c, s⟩ := h.at_ i hi
  have e1 := hk G c1 31 f1 g1 k1 (.inl rfl)
  have e2 := hk a.block c2 5 f2 g2 k2 (.inr rfl)
  exact ⟨G, gc, a, xn, xc, e, g1, g2, ⟨c1, f1, e1.trans k1⟩, ⟨c2, f2, e2.trans k2⟩, (World.cell?_of_block (w := w) (w' := w') (a := ⟨G, i, none⟩) e1).trans c, shows_kept s e2 (Array.getElem?_eq_some_iff.1 (e2.trans k2)).1⟩⟩
theorem BlocksFr.mono (h : BlocksFr w n sv blocks) (hn : n' ≤ n) : BlocksFr w n' sv blocks := ⟨h.sl, fun i hi => by
  obtain ⟨G, gc, a, xn, xc, e, g1, g2, r⟩ := h.at_ i hi
  exact ⟨G, gc, a, xn, xc, e, by omega, by omega, r⟩⟩
structure StateFr (w : World) (n : Nat) (fv : Value) (l : List SFile) : Prop where
  own : w.ownsRow n 71 3 fv l.length (l.flatMap SFile.cells)
  each : ∀ e ∈ l, BlocksFr w n e.sv e.file.blocks
theorem StateFr.sh (h : StateFr w n fv l) : StateSh w n fv l := ⟨h.own, fun e he => (h.each e he).sh⟩
/-- all its memory is as it was. -/
theorem StateFr.kept (h : StateFr w n fv l) (hk : ∀ b, n ≤ b → b < w.heap.size → w'.heap[b]? = w.heap[b]?) : StateFr w' n fv l :=
  ⟨own_kept h.own fun g hg => hk g (own_block h.own hg).1 (own_block h.own hg).2, fun e he => (h.each e he).kept fun b _ _ _ hb hw _ => hk b hb (Array.getElem?_eq_some_iff.1 hw).1⟩
theorem BlocksAt.fr {B : Nat} {bs : List Nat} (h : BlocksAt w B sv bs blocks) (hf : FreshB n sv bs) : BlocksFr w n sv blocks := by
  refine ⟨h.sliceL, fun i hi => ?_⟩
  obtain ⟨g, cap, b, e, c, hl, hby, hm⟩ := h.at hi
  have hg : sv.ownBlock = some g := by rw [e]; rfl
  obtain ⟨c1, f1, k1⟩ := Lib.ownsRow_kind h.own g hg
  exact ⟨g, cap, ⟨b, 0, none⟩, B, B, e, hf.1 g hg, hf.2.1 b (List.mem_of_getElem? hm), ⟨c1, f1, k1⟩, ⟨_, _, hby⟩, c, bytes_shows hby hl⟩
theorem StateAt.fr {B : Nat} (h : StateAt w n B fv l) : StateFr w n fv l := ⟨h.own, fun e he => (h.each e he).fr (h.from_ e he)⟩
end
end Go.Proofs.YtcpncfngadablaaGreatDoor
/-
  The shelf: a list is written over; a list is grown and put back.
-/
namespace Go.Proofs.YtcpncfngadablaaGreatDoor
open Go Go.RowKit ShfKit
set_option maxRecDepth 100000
section
variable {w w' w1 w2 : World} {S S' S'' : Sg} {i : Nat} {x y : Rw}
theorem blks_set {L : List Rw} {b : Nat} (h : b ∈ blks (L.set i y)) : b ∈ blks L ∨ y.1.ownBlock = some b := by
  obtain ⟨j, z, hz, hb⟩ := mem_blks.1 h
  rw [List.getElem?_set] at hz
  split at hz
  · split at hz
    · cases hz
      exact .inr hb
    · cases hz
  · exact .inl (mem_blks.2 ⟨j, z, hz, hb⟩)
theorem map_same {α β : Type} {f : α → β} {L : List α} {a b : α} (h : L[i]? = some a) (e : f b = f a) : (L.set i b).map f = L.map f := by
  rw [List.map_set]
  have : (L.map f)[i]? = some (f a) := by rw [List.getElem?_map, h]; rfl
  rw [e]
  exact (List.getElem?_eq_some_iff.1 this).2 ▸ List.set_getElem_self _
theorem grown_of_touch {g : Nat} (h : Touch [g] w w') : w.grownBy w' (some g) := ⟨h.os, h.tape, h.output, h.size, fun k hk hne => h.block k hk (by simp; intro e; exact hne (by rw [e]))⟩

/-- a list of bytes is written over. -/
theorem ShelfAt.inB (h : ShelfAt w S) (hx : S.Lb[i]? = some x) {m : Nat} {xs : List Value} (ho : w1.ownsRow 0 5 1 x.1 m xs) (hg : w.grownBy w1 x.1.ownBlock) :
    ShelfAt w1 { S with Lb := S.Lb.set i (x.1, m, xs) } ∧ Moved w w1 S { S with Lb := S.Lb.set i (x.1, m, xs) } := by
  have b1 : But 5 w w1 := But.of_grown hg (Lib.ownsRow_kind (h.fb.own i x hx))
  have r1 := shelf_row h b1 (by decide)
  have e1 : (S.Lb.set i (x.1, m, xs)).map (·.1) = S.Lb.map (·.1) := map_same hx rfl
  refine ⟨⟨r1, ?_, b1.own h.rt (by decide), b1.own h.rs (by decide), h.fb.turn (y := (x.1, m, xs)) hx ho (.inl ⟨rfl, hg⟩), b1.fam h.ft (by decide), b1.fam h.fs (by decide)⟩, ⟨?_, ?_⟩⟩
  · show World.ownsRow _ 0 31 1 S.bv (S.Lb.set i (x.1, m, xs)).length ((S.Lb.set i (x.1, m, xs)).map (·.1))
    rw [e1, List.length_set]
    exact b1.own h.rb (by decide)
  · refine (Touch.refl S.foot w).grown hg (fun k hk => .inl ?_)
    have := mem_blks.2 ⟨i, x, hx, hk⟩
    simp [Sg.foot, this]
  · intro b hb
    simp only [Sg.foot, Sg.hdr, List.mem_append, List.mem_cons] at hb ⊢
    rcases hb with hb | hb | hb | hb
    · exact .inl (.inl hb)
    · rcases blks_set hb with h1 | h1
      · exact .inl (.inr (.inl h1))
      · exact .inl (.inr (.inl (mem_blks.2 ⟨i, x, hx, h1⟩)))
    · exact .inl (.inr (.inr (.inl hb)))
    · exact .inl (.inr (.inr (.inr hb)))

/-- a list of bytes is grown, and put back into its place. -/
theorem ShelfAt.turnB (h : ShelfAt w S) (hx : S.Lb[i]? = some x) {gb cb : Nat} (hv : S.bv = .slice (some ⟨gb, 0, none⟩) S.Lb.length cb) (ho : w1.ownsRow 0 5 1 y.1 y.2.1 y.2.2)
    (hf : (y.1.ownBlock = x.1.ownBlock ∧ w.grownBy w1 x.1.ownBlock) ∨ ((∀ g, y.1.ownBlock = some g → w.heap.size ≤ g) ∧ w.grownBy w1 none)) :
    ShelfAt (w1.setCell ⟨gb, i, none⟩ y.1) { S with Lb := S.Lb.set i y } ∧ Moved w (w1.setCell ⟨gb, i, none⟩ y.1) S { S with Lb := S.Lb.set i y } ∧ w1.frozen? ⟨gb, i, none⟩ = false ∧ w1.cell? ⟨gb, i, none⟩ = some x.1 ∧ w1.cell? ⟨S.p, 0, none⟩ = some S.bv := by
  have b1 : But 5 w w1 := But.of_own (h.fb.own i x hx) hf
  have r1 := shelf_row h b1 (by decide)
  have o1 := b1.own h.rb (by decide)
  have hob : S.bv.ownBlock = some gb := by rw [hv]; rfl
  obtain ⟨s1, s2⟩ := own_set o1 (j := i) hv y.1
  have b2 : But 31 w1 (w1.setCell ⟨gb, i, none⟩ y.1) := But.of_grown s2 (Lib.ownsRow_kind o1)
  obtain ⟨g1, g2⟩ := grown_all hf
  obtain ⟨g', c', e', _, _, c1, f1⟩ := own_cell o1 (j := i) (x := x.1) (by rw [List.getElem?_map, hx]; rfl)
  rw [hv] at e'
  simp only [Value.slice.injEq, Option.some.injEq, Addr.mk.injEq] at e'
  obtain ⟨⟨rfl, _⟩, _⟩ := e'
  refine ⟨⟨(b2 _ _ _ _ r1 (by decide)).trans r1, ?_, b2.own (b1.own h.rt (by decide)) (by decide), b2.own (b1.own h.rs (by decide)) (by decide), b2.fam (h.fb.turn (y := y) hx ho hf) (by decide), b2.fam (b1.fam h.ft (by decide)) (by decide), b2.fam (b1.fam h.fs (by decide)) (by decide)⟩, ⟨?_, ?_⟩, f1, c1, ?_⟩
  · show World.ownsRow _ 0 31 1 S.bv (S.Lb.set i y).length ((S.Lb.set i y).map (·.1))
    rw [List.map_set, List.length_set]
    exact s1
  · refine ((Touch.refl S.foot w).grown g1 (fun k hk => .inl ?_)).grown s2 (fun k hk => .inl ?_)
    · have := mem_blks.2 ⟨i, x, hx, hk⟩
      simp [Sg.foot, this]
    · simp [Sg.foot, Sg.hdr, hk]
  · intro b hb
    simp only [Sg.foot, Sg.hdr, List.mem_append, List.mem_cons] at hb ⊢
    rcases hb with hb | hb | hb | hb
    · exact .inl (.inl hb)
    · rcases blks_set hb with h1 | h1
      · exact .inl (.inr (.inl h1))
      · rcases g2 b h1 with h2 | h2
        · exact .inl (.inr (.inl (mem_blks.2 ⟨i, x, hx, h2⟩)))
        · exact .inr h2
    · exact .inl (.inr (.inr (.inl hb)))
    · exact .inl (.inr (.inr (.inr hb)))
  · rw [cell_row r1]
    rfl

/-- a list of names is written over. -/
theorem ShelfAt.inT (h : ShelfAt w S) (hx : S.Lt[i]? = some x) {m : Nat} {xs : List Value} (ho : w1.ownsRow 0 9 1 x.1 m xs) (hg : w.grownBy w1 x.1.ownBlock) :
    ShelfAt w1 { S with Lt := S.Lt.set i (x.1, m, xs) } ∧ Moved w w1 S { S with Lt := S.Lt.set i (x.1, m, xs) } := by
  have b1 : But 9 w w1 := But.of_grown hg (Lib.ownsRow_kind (h.ft.own i x hx))
  have r1 := shelf_row h b1 (by decide)
  have e1 : (S.Lt.set i (x.1, m, xs)).map (·.1) = S.Lt.map (·.1) := map_same hx rfl
  refine ⟨⟨r1, b1.own h.rb (by decide), ?_, b1.own h.rs (by decide), b1.fam h.fb (by decide), h.ft.turn (y := (x.1, m, xs)) hx ho (.inl ⟨rfl, hg⟩), b1.fam h.fs (by decide)⟩, ⟨?_, ?_⟩⟩
  · show World.ownsRow _ 0 32 1 S.tv (S.Lt.set i (x.1, m, xs)).length ((S.Lt.set i (x.1, m, xs)).map (·.1))
    rw [e1, List.length_set]
    exact b1.own h.rt (by decide)
  · refine (Touch.refl S.foot w).grown hg (fun k hk => .inl ?_)
    have := mem_blks.2 ⟨i, x, hx, hk⟩
    simp [Sg.foot, this]
  · intro b hb
    simp only [Sg.foot, Sg.hdr, List.mem_append, List.mem_cons] at hb ⊢
    rcases hb with hb | hb | hb | hb
    · exact .inl (.inl hb)
    · exact .inl (.inr (.inl hb))
    · rcases blks_set hb with h1 | h1
      · exact .inl (.inr (.inr (.inl h1)))
      · exact .inl (.inr (.inr (.inl (mem_blks.2 ⟨i, x, hx, h1⟩))))
    · exact .inl (.inr (.inr (.inr hb)))

/-- a list of names is grown, and put back into its place. -/
theorem ShelfAt.turnT (h : ShelfAt w S) (hx : S.Lt[i]? = some x) {gb cb : Nat} (hv : S.tv = .slice (some ⟨gb, 0, none⟩) S.Lt.length cb) (ho : w1.ownsRow 0 9 1 y.1 y.2.1 y.2.2)
    (hf : (y.1.ownBlock = x.1.ownBlock ∧ w.grownBy w1 x.1.ownBlock) ∨ ((∀ g, y.1.ownBlock = some g → w.heap.size ≤ g) ∧ w.grownBy w1 none)) :
    ShelfAt (w1.setCell ⟨gb, i, none⟩ y.1) { S with Lt := S.Lt.set i y } ∧ Moved w (w1.setCell ⟨gb, i, none⟩ y.1) S { S with Lt := S.Lt.set i y } ∧ w1.frozen? ⟨gb, i, none⟩ = false ∧ w1.cell? ⟨gb, i, none⟩ = some x.1 ∧ w1.cell? ⟨S.p, 1, none⟩ = some S.tv := by
  have b1 : But 9 w w1 := But.of_own (h.ft.own i x hx) hf
  have r1 := shelf_row h b1 (by decide)
  have o1 := b1.own h.rt (by decide)
  have hob : S.tv.ownBlock = some gb := by rw [hv]; rfl
  obtain ⟨s1, s2⟩ := own_set o1 (j := i) hv y.1
  have b2 : But 32 w1 (w1.setCell ⟨gb, i, none⟩ y.1) := But.of_grown s2 (Lib.ownsRow_kind o1)
  obtain ⟨g1, g2⟩ := grown_all hf
  obtain ⟨g', c', e', _, _, c1, f1⟩ := own_cell o1 (j := i) (x := x.1) (by rw [List.getElem?_map, hx]; rfl)
  rw [hv] at e'
  simp only [Value.slice.injEq, Option.some.injEq, Addr.mk.injEq] at e'
  obtain ⟨⟨rfl, _⟩, _⟩ := e'
  refine ⟨⟨(b2 _ _ _ _ r1 (by decide)).trans r1, b2.own (b1.own h.rb (by decide)) (by decide), ?_, b2.own (b1.own h.rs (by decide)) (by decide), b2.fam (b1.fam h.fb (by decide)) (by decide), b2.fam (h.ft.turn (y := y) hx ho hf) (by decide), b2.fam (b1.fam h.fs (by decide)) (by decide)⟩, ⟨?_, ?_⟩, f1, c1, ?_⟩
  · show World.ownsRow _ 0 32 1 S.tv (S.Lt.set i y).length ((S.Lt.set i y).map (·.1))
    rw [List.map_set, List.length_set]
    exact s1
  · refine ((Touch.refl S.foot w).grown g1 (fun k hk => .inl ?_)).grown s2 (fun k hk => .inl ?_)
    · have := mem_blks.2 ⟨i, x, hx, hk⟩
      simp [Sg.foot, this]
    · simp [Sg.foot, Sg.hdr, hk]
  · intro b hb
    simp only [Sg.foot, Sg.hdr, List.mem_append, List.mem_cons] at hb ⊢
    rcases hb with hb | hb | hb | hb
    · exact .inl (.inl hb)
    · exact .inl (.inr (.inl hb))
    · rcases blks_set hb with h1 | h1
      · exact .inl (.inr (.inr (.inl h1)))
      · rcases g2 b h1 with h2 | h2
        · exact .inl (.inr (.inr (.inl (mem_blks.2 ⟨i, x, hx, h2⟩))))
        · exact .inr h2
    · exact .inl (.inr (.inr (.inr hb)))
  · rw [cell_row r1]
    rfl

theorem flat_set {f : Int × Rw → List Value} (hf : ∀ z, f z = [.int .i64 z.1, z.2.1]) {L : List (Int × Rw)} {q : Int} {u : Rw} (h : L[i]? = some (q, u)) (z : Rw) : (L.set i (q, z)).flatMap f = (L.flatMap f).set (i * 2 + 1) z.1 := by
  induction L generalizing i with
  | nil => simp at h
  | cons a L ih =>
    cases i with
    | zero =>
      simp at h
      subst h
      simp [hf]
    | succ i =>
      simp at h
      rw [List.set_cons_succ, List.flatMap_cons, List.flatMap_cons, ih h, hf]
      rw [show (i + 1) * 2 + 1 = (i * 2 + 1) + 1 + 1 by omega]
      rfl
theorem flat_get {f : Int × Rw → List Value} (hf : ∀ z, f z = [.int .i64 z.1, z.2.1]) {L : List (Int × Rw)} {q : Int} {u : Rw} (h : L[i]? = some (q, u)) : (L.flatMap f)[i * 2]? = some (.int .i64 q) ∧ (L.flatMap f)[i * 2 + 1]? = some u.1 := by
  induction L generalizing i with
  | nil => simp at h
  | cons a L ih =>
    cases i with
    | zero =>
      simp at h
      subst h
      simp [hf]
    | succ i =>
      simp at h
      rw [List.flatMap_cons, hf]
      rw [show (i + 1) * 2 = (i * 2) + 1 + 1 by omega, show i * 2 + 1 + 1 + 1 = (i * 2 + 1) + 1 + 1 by omega]
      exact ih h
theorem Sg.get (S : Sg) {q : Int} (h : S.Ls[i]? = some (q, x)) : S.cells[i * 2]? = some (.int .i64 q) ∧ S.cells[i * 2 + 1]? = some x.1 := flat_get (fun _ => rfl) h
theorem ls_get {L : List (Int × Rw)} {q : Int} (h : L[i]? = some (q, x)) : (L.map (·.2))[i]? = some x := by rw [List.getElem?_map, h]; rfl

/-- a list of files is written over. -/
theorem ShelfAt.inS (h : ShelfAt w S) {q : Int} (hx : S.Ls[i]? = some (q, x)) {m : Nat} {xs : List Value} (ho : w1.ownsRow 0 71 3 x.1 m xs) (hg : w.grownBy w1 x.1.ownBlock) :
    ShelfAt w1 { S with Ls := S.Ls.set i (q, x.1, m, xs) } ∧ Moved w w1 S { S with Ls := S.Ls.set i (q, x.1, m, xs) } := by
  have hx2 := ls_get hx
  have b1 : But 71 w w1 := But.of_grown hg (Lib.ownsRow_kind (h.fs.own i x hx2))
  have r1 := shelf_row h b1 (by decide)
  have e1 : Sg.cells { S with Ls := S.Ls.set i (q, x.1, m, xs) } = S.cells := by
    show (S.Ls.set i (q, x.1, m, xs)).flatMap _ = _
    rw [flat_set (fun _ => rfl) hx]
    exact (List.getElem?_eq_some_iff.1 (S.get hx).2).2 ▸ List.set_getElem_self _
  refine ⟨⟨r1, b1.own h.rb (by decide), b1.own h.rt (by decide), ?_, b1.fam h.fb (by decide), b1.fam h.ft (by decide), ?_⟩, ⟨?_, ?_⟩⟩
  · show World.ownsRow _ 0 47 2 S.sv (S.Ls.set i (q, x.1, m, xs)).length _
    rw [e1, List.length_set]
    exact b1.own h.rs (by decide)
  · show Fam w1 0 71 3 ((S.Ls.set i (q, x.1, m, xs)).map (·.2))
    rw [List.map_set]
    exact h.fs.turn (y := (x.1, m, xs)) hx2 ho (.inl ⟨rfl, hg⟩)
  · refine (Touch.refl S.foot w).grown hg (fun k hk => .inl ?_)
    have := mem_blks.2 ⟨i, x, hx2, hk⟩
    unfold Sg.foot
    simp only [List.mem_append]
    exact .inr (.inr (.inr this))
  · intro b hb
    simp only [Sg.foot, Sg.hdr, List.mem_append, List.mem_cons] at hb ⊢
    rcases hb with hb | hb | hb | hb
    · exact .inl (.inl hb)
    · exact .inl (.inr (.inl hb))
    · exact .inl (.inr (.inr (.inl hb)))
    · rw [List.map_set] at hb
      rcases blks_set hb with h1 | h1
      · exact .inl (.inr (.inr (.inr h1)))
      · exact .inl (.inr (.inr (.inr (mem_blks.2 ⟨i, x, hx2, h1⟩))))

/-- a list of files is grown, and put back into its place. -/
theorem ShelfAt.turnS (h : ShelfAt w S) {q : Int} (hx : S.Ls[i]? = some (q, x)) {gb cb : Nat} (hv : S.sv = .slice (some ⟨gb, 0, none⟩) S.Ls.length cb) (ho : w1.ownsRow 0 71 3 y.1 y.2.1 y.2.2)
    (hf : (y.1.ownBlock = x.1.ownBlock ∧ w.grownBy w1 x.1.ownBlock) ∨ ((∀ g, y.1.ownBlock = some g → w.heap.size ≤ g) ∧ w.grownBy w1 none)) :
    ShelfAt (w1.setCell ⟨gb, i * 2 + 1, none⟩ y.1) { S with Ls := S.Ls.set i (q, y) } ∧ Moved w (w1.setCell ⟨gb, i * 2 + 1, none⟩ y.1) S { S with Ls := S.Ls.set i (q, y) } ∧ w1.frozen? ⟨gb, i * 2 + 1, none⟩ = false ∧ w1.cell? ⟨gb, i * 2 + 1, none⟩ = some x.1 ∧ w1.cell? ⟨S.p, 2, none⟩ = some S.sv := by
  have hx2 := ls_get hx
  have b1 : But 71 w w1 := But.of_own (h.fs.own i x hx2) hf
  have r1 := shelf_row h b1 (by decide)
  have o1 := b1.own h.rs (by decide)
  have hob : S.sv.ownBlock = some gb := by rw [hv]; rfl
  obtain ⟨s1, s2⟩ := own_set o1 (j := i * 2 + 1) hv y.1
  have b2 : But 47 w1 (w1.setCell ⟨gb, i * 2 + 1, none⟩ y.1) := But.of_grown s2 (Lib.ownsRow_kind o1)
  obtain ⟨g1, g2⟩ := grown_all hf
  obtain ⟨g', c', e', _, _, c1, f1⟩ := own_cell o1 (S.get hx).2
  rw [hv] at e'
  simp only [Value.slice.injEq, Option.some.injEq, Addr.mk.injEq] at e'
  obtain ⟨⟨rfl, _⟩, _⟩ := e'
  refine ⟨⟨(b2 _ _ _ _ r1 (by decide)).trans r1, b2.own (b1.own h.rb (by decide)) (by decide), b2.own (b1.own h.rt (by decide)) (by decide), ?_, b2.fam (b1.fam h.fb (by decide)) (by decide), b2.fam (b1.fam h.ft (by decide)) (by decide), ?_⟩, ⟨?_, ?_⟩, f1, c1, ?_⟩
  · show World.ownsRow _ 0 47 2 S.sv (S.Ls.set i (q, y)).length ((S.Ls.set i (q, y)).flatMap _)
    rw [flat_set (fun _ => rfl) hx, List.length_set]
    exact s1
  · show Fam _ 0 71 3 ((S.Ls.set i (q, y)).map (·.2))
    rw [List.map_set]
    exact b2.fam (h.fs.turn (y := y) hx2 ho hf) (by decide)
  · refine ((Touch.refl S.foot w).grown g1 (fun k hk => .inl ?_)).grown s2 (fun k hk => .inl ?_)
    · have := mem_blks.2 ⟨i, x, hx2, hk⟩
      unfold Sg.foot
      simp only [List.mem_append]
      exact .inr (.inr (.inr this))
    · simp [Sg.foot, Sg.hdr, hk]
  · intro b hb
    simp only [Sg.foot, Sg.hdr, List.mem_append, List.mem_cons] at hb ⊢
    rcases hb with hb | hb | hb | hb
    · exact .inl (.inl hb)
    · exact .inl (.inr (.inl hb))
    · exact .inl (.inr (.inr (.inl hb)))
    · rw [List.map_set] at hb
      rcases blks_set hb with h1 | h1
      · exact .inl (.inr (.inr (.inr h1)))
      · rcases g2 b h1 with h2 | h2
        · exact .inl (.inr (.inr (.inr (mem_blks.2 ⟨i, x, hx2, h2⟩))))
        · exact .inr h2
  · rw [cell_row r1]
    rfl
end
end Go.Proofs.YtcpncfngadablaaGreatDoor
namespace Go.Proofs.YtcpncfngadablaaGreatDoor
open Go.RowKit Go.Deep

/-- the mark of a number, at a place. -/
def mk (n : Int) (k : Nat) : Int := n / 2 ^ (8 * (k % 3)) % 256

section
variable {w : World}

set_option maxRecDepth 100000 in
set_option maxHeartbeats 400000 in
theorem fill_row {g m c : Nat} {cs : Array Value} (n : Int) (h : w.heap[g]? = some (.cells cs 5 (0, 0))) (hm : m ≤ cs.size) (hb : ∀ j, j < m → ∃ x : Int, cs[j]? = some (.int .u8 x)) (hm2 : m ≤ 1099511627776) :
    Calls Tryz.prog 43 #[.slice (some ⟨g, 0, none⟩) m c, .int .i64 n] w fun e w' => e = .returned (.tuple #[]) ∧ (∃ cs' : Array Value, w'.heap[g]? = some (.cells cs' 5 (0, 0)) ∧ cs'.size = cs.size ∧ ∀ j, j < m → cs'[j]? = some (.int .u8 (mk n j))) ∧ Touch [g] w w' := by
  have H := hid h
  have HB := hid hb
  clear h hb
  go_enter Tryz.func43, Tryz.ntmps43
  go_wp2
  go_loopw [4] (fun i wr => ∃ k : Nat, k ≤ m ∧ i = .int .i64 k ∧ (∃ cs' : Array Value, wr.heap[g]? = some (.cells cs' 5 (0, 0)) ∧ cs'.size = cs.size ∧ (∀ j, j < m → ∃ x : Int, cs'[j]? = some (.int .u8 x)) ∧ (∀ j, j < k → cs'[j]? = some (.int .u8 (mk n j)))) ∧ Touch [g] w wr) (fun i _ => m - (intOf i).toNat)
  case atStart => exact ⟨0, Nat.zero_le _, rfl, ⟨cs, H.out, rfl, HB.out, fun j hj => by omega⟩, Touch.refl _ _⟩
  case round =>
    obtain ⟨k, hk, rfl, ⟨cs', hrow, hsz, hb, hd⟩, ht⟩ := hrel
    by_cases hlt : k < m
    · obtain ⟨x, hx⟩ := hb k hlt
      have c0 := cell_row hrow k
      rw [hx] at c0
      have f0 := unfrozen_row hrow k
      have HROW := hid hrow
      have HBB := hid hb
      have HD := hid hd
      have HT := hid ht
      clear hrow hb ht hx hd
      go_wp2
      have hrow2 := heap_setCell_row HROW.out k (.int .u8 (n / 2 ^ (8 * (k % 3)) % 256))
      refine ⟨⟨k + 1, by omega, by go_num, ⟨_, hrow2, by simpa using hsz, ?_, ?_⟩, HT.out.setCell (by simp) _⟩, by simp [intOf]; omega⟩
      · intro j hj
        by_cases e : j = k
        · subst e
          exact ⟨_, by rw [Array.getElem?_setIfInBounds_self_of_lt (by omega)]⟩
        · rw [Array.getElem?_setIfInBounds_ne (by omega)]
          exact HBB.out j hj
      · intro j hj
        by_cases e : j = k
        · subst e
          rw [Array.getElem?_setIfInBounds_self_of_lt (by omega)]
          rfl
        · rw [Array.getElem?_setIfInBounds_ne (by omega)]
          exact HD.out j (by omega)
    · have e : k = m := by omega
      subst e
      go_wp2
      go_end0
      exact ⟨rfl, ⟨cs', hrow, hsz, hd⟩, ht⟩

set_option maxRecDepth 100000 in
set_option maxHeartbeats 400000 in
theorem filled_row {g m c : Nat} {cs : Array Value} (n : Int) (h : w.heap[g]? = some (.cells cs 5 (0, 0))) (hm : m ≤ cs.size) (h64 : 64 < m) (hb : ∀ j, j < m → cs[j]? = some (.int .u8 (mk n (if m - 64 ≤ j then j - (m - 64) else j)))) (hm2 : m ≤ 1099511627776) :
    Calls Tryz.prog 77 #[.slice (some ⟨g, 0, none⟩) m c, .int .i64 n] w fun e w' => e = .returned (.bool true) ∧ Touch [] w w' := by
  have H := hid h
  have HB := hid hb
  clear h hb
  go_enter Tryz.func77, Tryz.ntmps77
  go_wp2
  go_loopw [6] (fun i wr => ∃ k : Nat, k ≤ m ∧ i = .int .i64 k ∧ wr.heap[g]? = some (.cells cs 5 (0, 0)) ∧ Touch [] w wr) (fun i _ => m - (intOf i).toNat)
  case atStart => exact ⟨0, Nat.zero_le _, rfl, H.out, Touch.refl _ _⟩
  case round =>
    obtain ⟨k, hk, rfl, hrow, ht⟩ := hrel
    by_cases hlt : k < m
    · have c0 := cell_row hrow k
      rw [HB.out k hlt] at c0
      have HROW := hid hrow
      have HT := hid ht
      clear hrow ht
      by_cases hd : m - 64 ≤ k
      · rw [if_pos hd] at c0
        obtain ⟨d, rfl⟩ : ∃ d, k = (m - 64) + d := ⟨k - (m - 64), by omega⟩
        have e1 : m - 64 + d - (m - 64) = d := by omega
        rw [e1] at c0
        clear e1
        have hdd : ((m - 64 : Nat) : Int) + (d : Int) - ((m : Int) - 64) = (d : Int) := by omega
        go_wp2
        simp only [mk] at c0
        go_quiet (fail)
        go_wp2
        exact ⟨⟨m - 64 + d + 1, by omega, by go_num, HROW.out, HT.out.drewN _⟩, by simp [intOf]; omega⟩
      · rw [if_neg hd] at c0
        simp only [mk] at c0
        go_wp2
        go_quiet (fail)
        go_wp2
        exact ⟨⟨k + 1, by omega, by go_num, HROW.out, HT.out.drewN _⟩, by simp [intOf]; omega⟩
    · have e : k = m := by omega
      subst e
      go_wp2
      go_ret
      exact ⟨rfl, ht⟩

def u8 (x : Int) : UInt8 := UInt8.ofNat (x % 256).toNat
theorem u8_val (x : Int) : ((u8 x).toNat : Int) = x % 256 := by
  unfold u8
  rw [UInt8.toNat_ofNat']
  omega
/-- the three letters of a number. -/
def th (n : Int) : List UInt8 := [u8 n, u8 (n / 256), u8 (n / 65536)]

theorem three_conv (n : Int) (w : World) : (convert 31 9 (.slice (some ⟨w.heap.size, 0, none⟩) 3 3)).run Tryz.prog (w.alloc (.cells #[.int .u8 (n % 256), .int .u8 (n / 256 % 256), .int .u8 (n / 65536 % 256)] 5)) = .ok (.string ⟨(th n).toArray⟩) (w.alloc (.cells #[.int .u8 (n % 256), .int .u8 (n / 256 % 256), .int .u8 (n / 65536 % 256)] 5)) := by
  refine run_convert_bytes_back (P := Tryz.prog) _ 31 9 5 ⟨w.heap.size, 0, none⟩ 3 (th n) Tryz.underlying31 Tryz.underlying5 Tryz.underlying9 fun j hj => ?_
  have hr := heap_alloc_new w (.cells #[.int .u8 (n % 256), .int .u8 (n / 256 % 256), .int .u8 (n / 65536 % 256)] 5)
  have hc := cell_row hr j
  have h3 : j < 3 := hj
  have e : (⟨w.heap.size, 0, none⟩ : Addr).add j = ⟨w.heap.size, j, none⟩ := by simp [Addr.add]; intro e; exact e.symm
  rw [e, hc]
  match j, h3 with
  | 0, _ => simp [th, u8_val]
  | 1, _ => simp [th, u8_val]
  | 2, _ => simp [th, u8_val]

set_option maxRecDepth 100000 in
set_option maxHeartbeats 400000 in
theorem three_any (n : Int) : Calls Tryz.prog 44 #[.int .i64 n] w fun e w' => e = .returned (.string ⟨(th n).toArray⟩) ∧ Touch [] w w' := by
  have hc := three_conv n w
  go_enter Tryz.func44, Tryz.ntmps44
  go_wp2
  go_ret
  exact ⟨rfl, (Touch.refl [] w).alloc _⟩
end
end Go.Proofs.YtcpncfngadablaaGreatDoor
