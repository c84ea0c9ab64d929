import Derived.Test.YtcpncfngadablaaGreatDoorZ23
/-
  What asks has in hand: the disk, the shelf, what was told so far.
-/
namespace Go.Proofs.YtcpncfngadablaaGreatDoor
open Go.RowKit Go.Deep ShfKit
set_option maxRecDepth 100000
/-- a state told: from, to, its slice, its files. -/
structure Tl where
  n : Nat
  m : Nat
  fv : Value
  l : List SFile
def Tl.row (B : Nat) (q : Tl) : Int × Rw := ((B : Int), q.fv, q.l.length, q.l.flatMap SFile.cells)
def nmRow (names : List (List UInt8)) (v : Value) : Rw := (v, names.length, names.map encStr)
section
variable {w0 w w' w1 : World} {E : Nat → Addr} {lo p mf mt B t t' : Nat} {D0 D D' : DiskC} {S0 S S' : Sg} {tl : List Tl} {nl : List Value} {ex : List Rw}
structure As (w0 w : World) (E : Nat → Addr) (lo p mf mt B : Nat) (D0 : DiskC) (S0 : Sg) (t : Nat) (D : DiskC) (S : Sg) (tl : List Tl) (nl : List Value) (ex : List Rw) : Prop where
  sy : Sy w E lo p mf mt B t D S
  stp : Stp w0 w p mf mt D0 D S0 S
  pub : D.ents.map Ent.pub = D0.ents.map Ent.pub
  sp : S.p = S0.p
  ls : S.Ls = S0.Ls ++ tl.map (Tl.row B)
  lt : S.Lt = S0.Lt ++ nl.map (nmRow (D0.ents.map Ent.name))
  lb : S.Lb = S0.Lb ++ ex
  told : ∀ q ∈ tl, Told w q.n q.m (S.hdr ++ D.foot p mf mt) q.fv q.l ∧ q.l.map SFile.pub = D0.ents.map Ent.pub
  ok : ∀ x ∈ ex, ByteOk x
theorem As.start (h : Sy w E lo p mf mt B t D S) : As w w E lo p mf mt B D S t D S [] [] [] := ⟨h, Stp.refl _ _ _ _ _ _, rfl, rfl, by simp, by simp, by simp, by simp, by simp⟩
theorem As.below (h : As w0 w E lo p mf mt B D0 S0 t D S tl nl ex) (hb : Below w.heap.size w w') : As w0 w' E lo p mf mt B D0 S0 t D S tl nl ex :=
  ⟨h.sy.below hb, h.stp.below hb, h.pub, h.sp, h.ls, h.lt, h.lb, fun q hq => ⟨(h.told q hq).1.below hb, (h.told q hq).2⟩, h.ok⟩
theorem As.names (h : As w0 w E lo p mf mt B D0 S0 t D S tl nl ex) : D.ents.map Ent.name = D0.ents.map Ent.name := by
  have h1 := congrArg (List.map Prod.fst) h.pub
  simpa [List.map_map, Function.comp_def, Ent.pub] using h1
theorem As.bound (h : As w0 w E lo p mf mt B D0 S0 t D S tl nl ex) (ht : t ≤ 1049000) : total (D0.ents.map Ent.pub) ≤ 1049000 ∧ D0.ents.length ≤ 1049000 := by
  have h1 := h.sy.run.inv.total
  have h2 := h.sy.run.inv.few
  have h3 : D.pub.files = D0.ents.map Ent.pub := h.pub
  rw [h3] at h1 h2
  simp at h2
  omega
/-- a state is told and put on the shelf. -/
theorem As.tell (h : As w0 w E lo p mf mt B D0 S0 t D S tl nl ex) (h64 : 64 ≤ B) (h65 : B ≤ 65536) {fv : Value} {l : List SFile} (hst : StateAt w1 w.heap.size B fv l) (hpub : l.map SFile.pub = D.ents.map Ent.pub) (hb : Below w.heap.size w w1) {bv sv : Value}
    (hs : ShelfAt w' { S with bv := bv, sv := sv, Lb := S.Lb ++ ysAll B l, Ls := S.Ls ++ [((B : Int), fv, l.length, l.flatMap SFile.cells)] })
    (hg : Grew w1 w' S { S with bv := bv, sv := sv, Lb := S.Lb ++ ysAll B l, Ls := S.Ls ++ [((B : Int), fv, l.length, l.flatMap SFile.cells)] }) :
    As w0 w' E lo p mf mt B D0 S0 t D { S with bv := bv, sv := sv, Lb := S.Lb ++ ysAll B l, Ls := S.Ls ++ [((B : Int), fv, l.length, l.flatMap SFile.cells)] } (tl ++ [⟨w.heap.size, w1.heap.size, fv, l⟩]) nl (ex ++ ysAll B l) := by
  have h1 := h.below hb
  have hnew : ∀ b ∈ ({ S with bv := bv, sv := sv, Lb := S.Lb ++ ysAll B l, Ls := S.Ls ++ [((B : Int), fv, l.length, l.flatMap SFile.cells)] } : Sg).foot, b ∈ S.foot ∨ w.heap.size ≤ b := fun b hm => by
    rcases List.mem_append.1 hm with hm | hm
    · rcases hg.hdr b hm with h2 | h2
      · exact .inl (hdr_foot h2)
      · exact .inr (Nat.le_trans hb.size h2)
    · simp only [List.mem_append] at hm
      rcases hm with hm | hm | hm
      · rw [blks_append] at hm
        rcases List.mem_append.1 hm with hm | hm
        · exact .inl (by simp [Sg.foot, hm])
        · obtain ⟨e, he, hbe⟩ := ysAll_blks hm
          exact .inr ((hst.from_ e he).2.1 b hbe)
      · exact .inl (by simp [Sg.foot, hm])
      · rw [List.map_append, blks_append] at hm
        rcases List.mem_append.1 hm with hm | hm
        · exact .inl (by unfold Sg.foot; simp only [List.mem_append]; exact .inr (.inr (.inr hm)))
        · obtain ⟨i, y, hy, hyb⟩ := mem_blks.1 hm
          cases i with
          | zero => cases hy; exact .inr (own_block hst.own hyb).1
          | succ i => simp at hy
  have hsy : Sy w' E lo p mf mt B t D { S with bv := bv, sv := sv, Lb := S.Lb ++ ysAll B l, Ls := S.Ls ++ [((B : Int), fv, l.length, l.flatMap SFile.cells)] } := h1.sy.grow hs hg (fun b hm => by
    rcases hnew b hm with h2 | h2
    · exact .inl h2
    · exact .inr (.inr ⟨Nat.le_trans h.sy.env.room h2, fun hd => by have := h.sy.run.rep.lt b hd; omega⟩))
  have hstp : Stp w w' p mf mt D D S { S with bv := bv, sv := sv, Lb := S.Lb ++ ysAll B l, Ls := S.Ls ++ [((B : Int), fv, l.length, l.flatMap SFile.cells)] } := by
    refine ⟨((Touch.of_below (F := S.hdr ++ D.foot p mf mt) hb (Nat.le_refl _)).trans hg.touch (fun b hm => .inl (List.mem_append.2 (.inl hm)))), fun b hm => ?_, fun b hm => .inl hm, hnew⟩
    rcases hg.hdr b hm with h2 | h2
    · exact .inl h2
    · exact .inr (Nat.le_trans hb.size h2)
  refine ⟨hsy, h.stp.trans hstp, h.pub, h.sp, by rw [List.map_append, ← List.append_assoc, ← h.ls]; rfl, h.lt, by show S.Lb ++ ysAll B l = _; rw [h.lb, List.append_assoc], fun q hq => ?_, fun x hx => ?_⟩
  · rcases List.mem_append.1 hq with hq | hq
    · exact ⟨hstp.told (h.told q hq).1, (h.told q hq).2⟩
    · simp at hq
      subst hq
      refine ⟨?_, hpub.trans h.pub⟩
      have k0 : Told w1 w.heap.size w1.heap.size (S.hdr ++ D.foot p mf mt) fv l := Told.start hst.fr rfl (fun b hm => by
        rcases List.mem_append.1 hm with hm | hm
        · exact h.sy.sh.lt b (hdr_foot hm)
        · exact h.sy.run.rep.lt b hm)
      refine k0.step hg.touch (fun b hm => .inl (List.mem_append.2 (.inl hm))) (fun b hm => ?_)
      rcases List.mem_append.1 hm with hm | hm
      · rcases hg.hdr b hm with h2 | h2
        · exact .inl (List.mem_append.2 (.inl h2))
        · exact .inr h2
      · exact .inl (List.mem_append.2 (.inr hm))
  · rcases List.mem_append.1 hx with hx | hx
    · exact h.ok x hx
    · unfold ysAll at hx
      obtain ⟨e, he, hxe⟩ := List.mem_flatMap.1 hx
      exact ys_ok h64 h65 x hxe
/-- a list is put on the shelf: names. -/
theorem As.pushT (h : As w0 w E lo p mf mt B D0 S0 t D S tl nl ex) {nv tv : Value} (hn : w.ownsRow 0 9 1 nv (D0.ents.map Ent.name).length ((D0.ents.map Ent.name).map encStr)) (hlo : ∀ g, nv.ownBlock = some g → lo ≤ g ∧ g ∉ S.foot ∧ g ∉ D.foot p mf mt)
    (ho : w'.ownsRow 0 32 1 tv (S.Lt.length + 1) (S.Lt.map (·.1) ++ [nv])) (hf : (tv.ownBlock = S.tv.ownBlock ∧ w.grownBy w' S.tv.ownBlock) ∨ ((∀ g, tv.ownBlock = some g → w.heap.size ≤ g) ∧ w.grownBy w' none)) (hnew : ∀ g, nv.ownBlock = some g → w0.heap.size ≤ g) :
    As w0 (w'.setCell ⟨S.p, 1, none⟩ tv) E lo p mf mt B D0 S0 t D { S with tv := tv, Lt := S.Lt ++ [nmRow (D0.ents.map Ent.name) nv] } tl (nl ++ [nv]) ex ∧ w'.cell? ⟨S.p, 1, none⟩ = some S.tv ∧ w'.frozen? ⟨S.p, 1, none⟩ = false := by
  have hfam : Fam w 0 9 1 (S.Lt ++ [nmRow (D0.ents.map Ent.name) nv]) := by
    refine Fam.join h.sy.sh.ft ⟨fun i y hy => ?_, fun i j y z g hy hz hij => ?_⟩ (fun b hb1 hb2 => ?_)
    · cases i with
      | zero => cases hy; exact hn
      | succ i => simp at hy
    · have h1 := (List.getElem?_eq_some_iff.1 hy).1
      have h2 := (List.getElem?_eq_some_iff.1 hz).1
      simp at h1 h2
      omega
    · obtain ⟨i, y, hy, hyb⟩ := mem_blks.1 hb2
      cases i with
      | zero => cases hy; exact (hlo b hyb).2.1 (by simp [Sg.foot, hb1])
      | succ i => simp at hy
  obtain ⟨s1, s2, s3, s4⟩ := h.sy.sh.pushT (tv' := tv) (ys := [nmRow (D0.ents.map Ent.name) nv]) (by simpa [nmRow] using ho) hf hfam
  have hfoot : ∀ b ∈ ({ S with tv := tv, Lt := S.Lt ++ [nmRow (D0.ents.map Ent.name) nv] } : Sg).foot, b ∈ S.foot ∨ w.heap.size ≤ b ∨ nv.ownBlock = some b := fun b hm => by
    rcases List.mem_append.1 hm with hm | hm
    · rcases s2.hdr b hm with h2 | h2
      · exact .inl (hdr_foot h2)
      · exact .inr (.inl h2)
    · simp only [List.mem_append] at hm
      rcases hm with hm | hm | hm
      · exact .inl (by simp [Sg.foot, hm])
      · rw [blks_append] at hm
        rcases List.mem_append.1 hm with hm | hm
        · exact .inl (by simp [Sg.foot, hm])
        · obtain ⟨i, y, hy, hyb⟩ := mem_blks.1 hm
          cases i with
          | zero => cases hy; exact .inr (.inr hyb)
          | succ i => simp at hy
      · exact .inl (by unfold Sg.foot; simp only [List.mem_append]; exact .inr (.inr (.inr hm)))
  have hsy := h.sy.grow s1 s2 (fun b hm => by
    rcases hfoot b hm with h2 | h2 | h2
    · exact .inl h2
    · exact .inr (.inl h2)
    · exact .inr (.inr ⟨(hlo b h2).1, (hlo b h2).2.2⟩))
  have htl : Touch (S.hdr ++ D.foot p mf mt) w (w'.setCell ⟨S.p, 1, none⟩ tv) := s2.touch.mono (fun b hm => List.mem_append.2 (.inl hm))
  have hup : ∀ b ∈ ({ S with tv := tv, Lt := S.Lt ++ [nmRow (D0.ents.map Ent.name) nv] } : Sg).hdr, b ∈ S.hdr ∨ w.heap.size ≤ b := s2.hdr
  refine ⟨⟨hsy, ⟨h.stp.touch.trans htl (fun b hm => ?_), fun b hm => ?_, h.stp.dft, fun b hm => ?_⟩, h.pub, h.sp, h.ls, by show S.Lt ++ _ = _; rw [h.lt, List.map_append, List.append_assoc]; rfl, h.lb, fun q hq => ⟨(h.told q hq).1.step htl (fun b hm => .inl hm) (fun b hm => ?_), (h.told q hq).2⟩, h.ok⟩, s3, s4⟩
  · rcases List.mem_append.1 hm with hm | hm
    · rcases h.stp.hdr b hm with h2 | h2
      · exact .inl (List.mem_append.2 (.inl h2))
      · exact .inr h2
    · rcases h.stp.dft b hm with h2 | h2
      · exact .inl (List.mem_append.2 (.inr h2))
      · exact .inr h2
  · rcases hup b hm with h2 | h2
    · exact h.stp.hdr b h2
    · exact .inr (Nat.le_trans h.stp.touch.size h2)
  · rcases hfoot b hm with h2 | h2 | h2
    · exact h.stp.foot b h2
    · exact .inr (Nat.le_trans h.stp.touch.size h2)
    · exact .inr (hnew b h2)
  · rcases List.mem_append.1 hm with hm | hm
    · rcases hup b hm with h2 | h2
      · exact .inl (List.mem_append.2 (.inl h2))
      · exact .inr h2
    · exact .inl (List.mem_append.2 (.inr hm))
/-- the disk does something that leaves what it holds. -/
theorem As.disk (h : As w0 w E lo p mf mt B D0 S0 t D S tl nl ex) (hr : Runs w' lo p mf mt B t' D') (hpub : D'.ents.map Ent.pub = D.ents.map Ent.pub) (ht : Touch (D.foot p mf mt) w w') (hf : ∀ b ∈ D'.foot p mf mt, b ∈ D.foot p mf mt ∨ w.heap.size ≤ b) : As w0 w' E lo p mf mt B D0 S0 t' D' S tl nl ex := by
  obtain ⟨s1, s2⟩ := h.sy.disk hr ht hf
  exact ⟨s1, h.stp.trans s2, hpub.trans h.pub, h.sp, h.ls, h.lt, h.lb, fun q hq => ⟨s2.told (h.told q hq).1, (h.told q hq).2⟩, h.ok⟩
end
end Go.Proofs.YtcpncfngadablaaGreatDoor
/-
  A list of bytes is put on the shelf; a file is found by its name.
-/
namespace Go.Proofs.YtcpncfngadablaaGreatDoor
open Go.RowKit Go.Deep ShfKit
set_option maxRecDepth 100000
section
variable {w0 w w' w1 : World} {E : Nat → Addr} {lo p mf mt B t t' : Nat} {D0 D D' : DiskC} {S0 S S' : Sg} {tl : List Tl} {nl : List Value} {ex : List Rw}
/-- a list is put on the shelf: bytes. -/
theorem As.pushB (h : As w0 w E lo p mf mt B D0 S0 t D S tl nl ex) {y0 : Rw} {bv : Value} (hn : w.ownsRow 0 5 1 y0.1 y0.2.1 y0.2.2) (hok : ByteOk y0) (hlo : ∀ g, y0.1.ownBlock = some g → lo ≤ g ∧ g ∉ S.foot ∧ g ∉ D.foot p mf mt)
    (ho : w'.ownsRow 0 31 1 bv (S.Lb.length + 1) (S.Lb.map (·.1) ++ [y0.1])) (hf : (bv.ownBlock = S.bv.ownBlock ∧ w.grownBy w' S.bv.ownBlock) ∨ ((∀ g, bv.ownBlock = some g → w.heap.size ≤ g) ∧ w.grownBy w' none)) (hnew : ∀ g, y0.1.ownBlock = some g → w0.heap.size ≤ g) :
    As w0 (w'.setCell ⟨S.p, 0, none⟩ bv) E lo p mf mt B D0 S0 t D { S with bv := bv, Lb := S.Lb ++ [y0] } tl nl (ex ++ [y0]) ∧ w'.cell? ⟨S.p, 0, none⟩ = some S.bv ∧ w'.frozen? ⟨S.p, 0, none⟩ = false ∧ Grew w (w'.setCell ⟨S.p, 0, none⟩ bv) S { S with bv := bv, Lb := S.Lb ++ [y0] } := by
  have hfam : Fam w 0 5 1 (S.Lb ++ [y0]) := by
    refine Fam.join h.sy.sh.fb ⟨fun i y hy => ?_, fun i j y z g hy hz hij => ?_⟩ (fun b hb1 hb2 => ?_)
    · cases i with
      | zero => cases hy; exact hn
      | succ i => simp at hy
    · have h1 := (List.getElem?_eq_some_iff.1 hy).1
      have h2 := (List.getElem?_eq_some_iff.1 hz).1
      simp at h1 h2
      omega
    · obtain ⟨i, y, hy, hyb⟩ := mem_blks.1 hb2
      cases i with
      | zero => cases hy; exact (hlo b hyb).2.1 (by simp [Sg.foot, hb1])
      | succ i => simp at hy
  obtain ⟨s1, s2, s3, s4⟩ := h.sy.sh.pushB (bv' := bv) (ys := [y0]) (by simpa using ho) hf hfam
  have hfoot : ∀ b ∈ ({ S with bv := bv, Lb := S.Lb ++ [y0] } : Sg).foot, b ∈ S.foot ∨ w.heap.size ≤ b ∨ y0.1.ownBlock = some b := fun b hm => by
    rcases List.mem_append.1 hm with hm | hm
    · rcases s2.hdr b hm with h2 | h2
      · exact .inl (hdr_foot h2)
      · exact .inr (.inl h2)
    · simp only [List.mem_append] at hm
      rcases hm with hm | hm | hm
      · rw [blks_append] at hm
        rcases List.mem_append.1 hm with hm | hm
        · exact .inl (by simp [Sg.foot, hm])
        · obtain ⟨i, y, hy, hyb⟩ := mem_blks.1 hm
          cases i with
          | zero => cases hy; exact .inr (.inr hyb)
          | succ i => simp at hy
      · exact .inl (by simp [Sg.foot, hm])
      · exact .inl (by unfold Sg.foot; simp only [List.mem_append]; exact .inr (.inr (.inr hm)))
  have hsy := h.sy.grow s1 s2 (fun b hm => by
    rcases hfoot b hm with h2 | h2 | h2
    · exact .inl h2
    · exact .inr (.inl h2)
    · exact .inr (.inr ⟨(hlo b h2).1, (hlo b h2).2.2⟩))
  have htl : Touch (S.hdr ++ D.foot p mf mt) w (w'.setCell ⟨S.p, 0, none⟩ bv) := s2.touch.mono (fun b hm => List.mem_append.2 (.inl hm))
  have hup : ∀ b ∈ ({ S with bv := bv, Lb := S.Lb ++ [y0] } : Sg).hdr, b ∈ S.hdr ∨ w.heap.size ≤ b := s2.hdr
  refine ⟨⟨hsy, ⟨h.stp.touch.trans htl (fun b hm => ?_), fun b hm => ?_, h.stp.dft, fun b hm => ?_⟩, h.pub, h.sp, h.ls, h.lt, by show S.Lb ++ _ = _; rw [h.lb, List.append_assoc], fun q hq => ⟨(h.told q hq).1.step htl (fun b hm => .inl hm) (fun b hm => ?_), (h.told q hq).2⟩, fun z hz => ?_⟩, s3, s4, s2⟩
  · rcases List.mem_append.1 hm with hm | hm
    · rcases h.stp.hdr b hm with h2 | h2
      · exact .inl (List.mem_append.2 (.inl h2))
      · exact .inr h2
    · rcases h.stp.dft b hm with h2 | h2
      · exact .inl (List.mem_append.2 (.inr h2))
      · exact .inr h2
  · rcases hup b hm with h2 | h2
    · exact h.stp.hdr b h2
    · exact .inr (Nat.le_trans h.stp.touch.size h2)
  · rcases hfoot b hm with h2 | h2 | h2
    · exact h.stp.foot b h2
    · exact .inr (Nat.le_trans h.stp.touch.size h2)
    · exact .inr (hnew b h2)
  · rcases List.mem_append.1 hm with hm | hm
    · rcases hup b hm with h2 | h2
      · exact .inl (List.mem_append.2 (.inl h2))
      · exact .inr h2
    · exact .inl (List.mem_append.2 (.inr hm))
  · rcases List.mem_append.1 hz with hz | hz
    · exact h.ok z hz
    · simp at hz
      subst hz
      exact hok
theorem find_name {files : List (List UInt8 × FileA)} {i : Nat} {e : List UInt8 × FileA} (h : files[i]? = some e) (hp : files.Pairwise fun a b => a.1 ≠ b.1) : findA files e.1 = some e.2 := by
  unfold findA
  have : files.find? (fun x => decide (x.1 = e.1)) = some e := by
    rw [List.find?_eq_some_iff_getElem]
    refine ⟨by simp, i, (List.getElem?_eq_some_iff.1 h).1, (List.getElem?_eq_some_iff.1 h).2, fun j hj => ?_⟩
    have h1 := List.pairwise_iff_getElem.1 hp j i (by have := (List.getElem?_eq_some_iff.1 h).1; omega) (List.getElem?_eq_some_iff.1 h).1 hj
    rw [(List.getElem?_eq_some_iff.1 h).2] at h1
    simpa using h1
  rw [this]
  rfl
/-- a block of a sealed file is read: it is told in new memory. -/
theorem As.read (h : As w0 w E lo p mf mt B D0 S0 t D S tl nl ex) (ht : t ≤ 1049000) {i k : Nat} {name : List UInt8} {f : FileA} {bl : List UInt8} (he : (D0.ents.map Ent.pub)[i]? = some (name, f)) (hsh : f.shut = true) (hk : f.blocks[k]? = some bl) :
    Calls Tryz.prog 28 #[ptr p, encStr name, .int .i64 (k : Int)] w fun e w' => ∃ g, e = .returned (.tuple #[sliceV g B, .int .i64 0]) ∧ w.heap.size ≤ g ∧ BytesAt w' g bl ∧ bl.length = B ∧ g ∉ S.foot ∧ ∃ D', As w0 w' E lo p mf mt B D0 S0 (t + 1) D' S tl nl ex ∧ g ∉ D'.foot p mf mt ∧ Touch (D.foot p mf mt) w w' ∧ D'.foot p mf mt = D.foot p mf mt := by
  have hmem : (name, f) ∈ D.pub.files := by
    show (name, f) ∈ D.ents.map Ent.pub
    rw [h.pub]
    exact List.mem_of_getElem? he
  have hnm : nameB ⟨name.toArray⟩ = true := h.sy.run.inv.names _ hmem
  have hfd : findA D.pub.files (nm ⟨name.toArray⟩) = some f := by
    have h1 : D.pub.files[i]? = some (name, f) := by
      show (D.ents.map Ent.pub)[i]? = _
      rw [h.pub]
      exact he
    have h2 := find_name h1 h.sy.run.keys
    simpa [nm] using h2
  have hkl : k < f.blocks.length := (List.getElem?_eq_some_iff.1 hk).1
  have hr := Read_any h.sy.env h.sy.run.rep h.sy.run.T h.sy.run.inv.on (h.sy.run.inv.small (by omega)) ⟨name.toArray⟩ (k : Int)
  have hA : readA ⟨name.toArray⟩ (k : Int) D.pub = (some bl, 0, { D.pub with c := { D.pub.c with calls := D.pub.c.calls + 1, reads := D.pub.c.reads + 1 } }) := by
    unfold readA
    rw [if_pos hnm, hfd]
    simp [hsh, hkl]
    exact (List.getElem?_eq_some_iff.1 hk).2
  have hI := h.sy.run.inv.read ⟨name.toArray⟩ (k : Int)
  rw [hA] at hr hI
  refine hr.mono ?_
  rintro e w' ⟨v, rfl, ⟨g, rfl, hg, hby, hl⟩, D', R', hp, hT, htc, hft⟩
  have hDB : D'.B = D.B := congrArg PubA.B hp
  have hrun : Runs w' lo p mf mt B (t + 1) D' := ⟨R', hT, by rw [hp]; exact hI, hDB.trans h.sy.run.B⟩
  have hpub : D'.ents.map Ent.pub = D.ents.map Ent.pub := congrArg PubA.files hp
  have hB := h.sy.run.B
  rw [hB] at hl ⊢
  refine ⟨g, rfl, hg, hby, hl, fun hm => ?_, D', h.disk hrun hpub htc (fun b hb => .inl (hft ▸ hb)), fun hm => ?_, htc, hft⟩
  · have := h.sy.sh.lt g hm
    omega
  · have := h.sy.run.rep.lt g (hft ▸ hm)
    omega
end
end Go.Proofs.YtcpncfngadablaaGreatDoor
