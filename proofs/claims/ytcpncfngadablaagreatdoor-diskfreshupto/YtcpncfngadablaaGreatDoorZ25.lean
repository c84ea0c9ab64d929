import Derived.Test.YtcpncfngadablaaGreatDoorZ24
/-
  The calls of asks, as steps.
-/
namespace Go.Proofs.YtcpncfngadablaaGreatDoor
open Go.RowKit Go.Deep ShfKit
set_option maxRecDepth 100000
section
variable {w0 w w' w1 Q : World} {E : Nat → Addr} {lo p mf mt B t t' : Nat} {D0 D D' : DiskC} {S0 S S' : Sg} {tl : List Tl} {nl : List Value} {ex : List Rw}
theorem As.base {v : World} (h : As w0 w E lo p mf mt B D0 S0 t D S tl nl ex) (hb : Below v.heap.size v w0) : As v w E lo p mf mt B D0 S0 t D S tl nl ex :=
  ⟨h.sy, ((Stp.refl v p mf mt D0 S0).below hb).trans h.stp, h.pub, h.sp, h.ls, h.lt, h.lb, h.told, h.ok⟩
theorem As.state1 (h : As w0 w E lo p mf mt B D0 S0 t D S tl nl ex) (ht : t ≤ 1049000) :
    Calls Tryz.prog 14 #[ptr p] w fun e w1 => ∃ fv l, e = .returned (.agg #[.int .i64 (B : Int), fv]) ∧ StateAt w1 w.heap.size B fv l ∧ ApartS l ∧ l.map SFile.pub = D.ents.map Ent.pub ∧ Below w.heap.size w w1 := by
  have hr := State_apart h.sy.run.rep (h.sy.run.inv.small (by omega))
  rw [h.sy.run.B] at hr
  refine hr.mono ?_
  rintro e w1 ⟨fv, l, rfl, h1, h2, h3, h4⟩
  exact ⟨fv, l, rfl, h1, h3, h2, h4⟩
theorem As.state2 (h : As w0 w E lo p mf mt B D0 S0 t D S tl nl ex) (ht : t ≤ 1049000) (h64 : 64 ≤ B) (h65 : B ≤ 65536) (hls : S.Ls.length ≤ 1000) (hlb : S.Lb.length ≤ 100000000) {fv : Value} {l : List SFile} (hst : StateAt w1 w.heap.size B fv l) (hap : ApartS l) (hpub : l.map SFile.pub = D.ents.map Ent.pub) (hb : Below w.heap.size w w1) {sp : Nat} (hsp : sp = S0.p) :
    Calls Tryz.prog 39 #[.pointer (some ⟨sp, 0, none⟩), .agg #[.int .i64 (B : Int), fv]] w1 fun e w' => e = .returned (.tuple #[]) ∧ ∃ S', As w0 w' E lo p mf mt B D0 S0 t D S' (tl ++ [⟨w.heap.size, w1.heap.size, fv, l⟩]) nl (ex ++ ysAll B l) := by
  obtain ⟨b1, b2⟩ := h.bound ht
  have h1 : ShelfAt w1 S := h.sy.sh.kept fun b hm => hb.block b (h.sy.sh.lt b hm)
  have hlp := hpub.trans h.pub
  have hll : l.length = D0.ents.length := by simpa using congrArg List.length hlp
  have hc := state_any (x := (B : Int)) h1 hst hap (fun b hm => h.sy.sh.lt b hm) h65 (by omega) (by rw [hlp]; omega) (by omega)
  rw [hsp, ← h.sp]
  refine hc.mono ?_
  rintro e w' ⟨bv, sv, rfl, hs, hg⟩
  exact ⟨rfl, _, h.tell h64 h65 hst hpub hb hs hg⟩
theorem As.names1 (h : As w0 w E lo p mf mt B D0 S0 t D S tl nl ex) (ht : t ≤ 1049000) :
    Calls Tryz.prog 30 #[ptr p] w fun e w1 => ∃ sn cn, e = .returned (.slice sn D0.ents.length cn) ∧ w1.ownsRow w.heap.size 9 1 (.slice sn D0.ents.length cn) D0.ents.length ((D0.ents.map Ent.name).map encStr) ∧ As w0 w1 E lo p mf mt B D0 S0 t D S tl nl ex := by
  obtain ⟨b1, b2⟩ := h.bound ht
  have hl : D.ents.length = D0.ents.length := by simpa using congrArg List.length h.pub
  have hr := Names_any h.sy.run.rep h.sy.run.inv.on (by omega)
  rw [h.names, hl] at hr
  refine hr.mono ?_
  rintro e w1 ⟨v, rfl, h1, _, h2⟩
  obtain ⟨sn, cn, hv⟩ := sh_slice h1
  subst hv
  exact ⟨sn, cn, rfl, h1, h.below h2⟩
/-- the names that were told last. -/
theorem As.name_at {nv : Value} (h : As w0 w E lo p mf mt B D0 S0 t D S tl (nl ++ [nv]) ex) : w.ownsRow 0 9 1 nv D0.ents.length ((D0.ents.map Ent.name).map encStr) := by
  have hx : S.Lt[S0.Lt.length + nl.length]? = some (nmRow (D0.ents.map Ent.name) nv) := by
    rw [h.lt, List.getElem?_append_right (by omega), Nat.add_sub_cancel_left, List.map_append, List.getElem?_append_right (by simp)]
    simp
  have := h.sy.sh.ft.own _ _ hx
  simpa [nmRow] using this
/-- the names are put on the shelf: what the walk needs. -/
theorem As.putT {sp : Nat} {sn : Option Addr} {cn N : Nat} {v' : Value} (h : As w0 w E lo p mf mt B D0 S0 t D S tl nl ex) (hsp : sp = S0.p) (hw : w0.heap.size ≤ w1.heap.size) (hN : N = D0.ents.length) (hlo : lo ≤ w1.heap.size) (hn : w.ownsRow w1.heap.size 9 1 (.slice sn N cn) N ((D0.ents.map Ent.name).map encStr)) (hfr : ∀ b ∈ S.foot ++ D.foot p mf mt, b < w1.heap.size)
    (ho : w'.ownsRow 0 32 1 v' (S.Lt.length + 1) (S.Lt.map (·.1) ++ [.slice sn N cn])) (hf : (v'.ownBlock = S.tv.ownBlock ∧ w.grownBy w' S.tv.ownBlock) ∨ ((∀ g, v'.ownBlock = some g → w.heap.size ≤ g) ∧ w.grownBy w' none)) :
    (∃ S', As w0 (w'.setCell ⟨sp, 1, none⟩ v') E lo p mf mt B D0 S0 t D S' tl (nl ++ [.slice sn N cn]) ex) ∧ w'.cell? ⟨sp, 1, none⟩ = some S.tv ∧ w'.frozen? ⟨sp, 1, none⟩ = false := by
  subst hN
  have r := h.pushT (nv := .slice sn D0.ents.length cn) (tv := v') (by rw [List.length_map]; exact own_base hn (Nat.zero_le _)) (fun g hg => by
    have h1 := (own_block hn hg).1
    refine ⟨by omega, fun hm => ?_, fun hm => ?_⟩
    · have := hfr g (List.mem_append.2 (.inl hm))
      omega
    · have := hfr g (List.mem_append.2 (.inr hm))
      omega) ho hf (fun g hg => by have := (own_block hn hg).1; omega)
  rw [hsp, ← h.sp]
  exact ⟨⟨_, r.1⟩, r.2⟩
/-- a block is put on the shelf: what the walk needs. -/
theorem As.putB {sp g : Nat} {bl : List UInt8} {v' : Value} (h : As w0 w E lo p mf mt B D0 S0 t D S tl nl ex) (hsp : sp = S0.p) (h64 : 64 ≤ B) (h65 : B ≤ 65536) (hg : w0.heap.size ≤ g) (hby : BytesAt w g bl) (hl : bl.length = B) (hlo : lo ≤ g) (hgs : g ∉ S.foot) (hgd : g ∉ D.foot p mf mt)
    (ho : w'.ownsRow 0 31 1 v' (S.Lb.length + 1) (S.Lb.map (·.1) ++ [sliceV g B])) (hf : (v'.ownBlock = S.bv.ownBlock ∧ w.grownBy w' S.bv.ownBlock) ∨ ((∀ g, v'.ownBlock = some g → w.heap.size ≤ g) ∧ w.grownBy w' none)) :
    (∃ S', As w0 (w'.setCell ⟨sp, 0, none⟩ v') E lo p mf mt B D0 S0 t D S' tl nl (ex ++ [(sliceV g B, B, Lib.byteCells bl)]) ∧ Grew w (w'.setCell ⟨sp, 0, none⟩ v') S S') ∧ w'.cell? ⟨sp, 0, none⟩ = some S.bv ∧ w'.frozen? ⟨sp, 0, none⟩ = false := by
  have hown : w.ownsRow 0 5 1 (sliceV g B) B (Lib.byteCells bl) := by
    refine ⟨by rw [Lib.byteCells_length, hl, Nat.mul_one], .inr ⟨g, B, _, rfl, Nat.zero_le _, hby, Nat.le_refl _, by unfold maxLen; omega, by simp [Lib.byteCells_length, hl], ?_⟩⟩
    rw [List.toList_toArray, List.take_of_length_le (by rw [Lib.byteCells_length, hl]; omega)]
  have hok : ByteOk (sliceV g B, B, Lib.byteCells bl) := ⟨h64, h65, fun u hu => by
    simp only [Lib.byteCells, List.mem_map] at hu
    obtain ⟨c, _, rfl⟩ := hu
    exact ⟨_, rfl⟩⟩
  have hgb : ∀ g', (sliceV g B).ownBlock = some g' → g' = g := fun g' e => by simpa [Value.ownBlock] using e.symm
  have r := h.pushB (y0 := (sliceV g B, B, Lib.byteCells bl)) (bv := v') hown hok (fun g' e => by rw [hgb g' e]; exact ⟨hlo, hgs, hgd⟩) ho hf (fun g' e => by rw [hgb g' e]; exact hg)
  rw [hsp, ← h.sp]
  exact ⟨⟨_, r.1, r.2.2.2⟩, r.2.1, r.2.2.1⟩
/-- the names are put on the shelf, for the walk. -/
theorem As.nameStep {w6 w7 : World} {sp N cn : Nat} {sn : Option Addr} (h6 : As w0 w6 E lo p mf mt B D0 S0 t D S tl nl ex) (h7 : As w0 w7 E lo p mf mt B D0 S0 t D S tl nl ex) (on : w7.ownsRow w6.heap.size 9 1 (.slice sn N cn) N ((D0.ents.map Ent.name).map encStr)) (hsp : sp = S0.p) (hN : N = D0.ents.length) (hl : S0.Lt.length ≤ 100) (hnl : nl.length ≤ 2) :
    ∃ st ct nt, nt ≤ 102 ∧ w7.cell? ⟨sp, 1, none⟩ = some (.slice st nt ct) ∧ Hid (w7.ownsRow 0 32 1 (.slice st nt ct) nt (S.Lt.map (·.1))) ∧ Hid (∀ (s8 : Option Addr) (c8 : Nat) (w8 : World), w8.ownsRow 0 32 1 (.slice s8 (nt + 1) c8) (nt + 1) (S.Lt.map (·.1) ++ [.slice sn N cn]) → (((Value.slice s8 (nt + 1) c8).ownBlock = (Value.slice st nt ct).ownBlock ∧ (w7.alloc (.cells #[.slice sn N cn] 32)).grownBy w8 (Value.slice st nt ct).ownBlock) ∨ ((∀ g, (Value.slice s8 (nt + 1) c8).ownBlock = some g → (w7.alloc (.cells #[.slice sn N cn] 32)).heap.size ≤ g) ∧ (w7.alloc (.cells #[.slice sn N cn] 32)).grownBy w8 none)) →
      (∃ S', As w0 (w8.setCell ⟨sp, 1, none⟩ (.slice s8 (nt + 1) c8)) E lo p mf mt B D0 S0 t D S' tl (nl ++ [.slice sn N cn]) ex) ∧ w8.cell? ⟨sp, 1, none⟩ = some (.slice st nt ct) ∧ w8.frozen? ⟨sp, 1, none⟩ = false) := by
  obtain ⟨st, ct, htv⟩ := sh_slice h7.sy.sh.rt
  have hlen : S.Lt.length = S0.Lt.length + nl.length := by rw [h7.lt, List.length_append, List.length_map]
  have hb : Below w7.heap.size w7 (w7.alloc (.cells #[.slice sn N cn] 32)) := (Below.refl _ _).alloc (Nat.le_refl _) _
  have c1 := cell_row h7.sy.sh.row 1
  have c1' : w7.cell? ⟨S.p, 1, none⟩ = some S.tv := by simpa using c1
  rw [h7.sp, ← hsp, htv] at c1'
  refine ⟨st, ct, S.Lt.length, by omega, c1', ?_, fun s8 c8 w8 ho hf => ?_⟩
  · have := h7.sy.sh.rt
    rw [htv] at this
    exact this
  · rw [← htv] at hf
    have r := (h7.below hb).putT (w1 := w6) (sp := sp) (v' := .slice s8 (S.Lt.length + 1) c8) hsp h6.stp.touch.size hN h6.sy.env.room (own_kept on fun g hg => hb.block g (own_block on hg).2) (fun b hm => by
      rcases List.mem_append.1 hm with hm | hm
      · exact h6.sy.sh.lt b hm
      · exact h6.sy.run.rep.lt b hm) ho hf
    rw [htv] at r
    exact r
/-- a block is put on the shelf, for the walk. -/
theorem As.byteStep {w7 : World} {sp g : Nat} {bl : List UInt8} (h7 : As w0 w7 E lo p mf mt B D0 S0 t D S tl nl ex) (hsp : sp = S0.p) (h64 : 64 ≤ B) (h65 : B ≤ 65536) (hg : w0.heap.size ≤ g) (hby : BytesAt w7 g bl) (hl : bl.length = B) (hlo : lo ≤ g) (hgs : g ∉ S.foot) (hgd : g ∉ D.foot p mf mt) (hb0 : S0.Lb.length ≤ 10000000) (hex : ex.length ≤ 10000000) :
    ∃ st ct nt, nt ≤ 20000000 ∧ w7.cell? ⟨sp, 0, none⟩ = some (.slice st nt ct) ∧ Hid (w7.ownsRow 0 31 1 (.slice st nt ct) nt (S.Lb.map (·.1))) ∧ Hid (∀ (s8 : Option Addr) (c8 : Nat) (w8 : World), w8.ownsRow 0 31 1 (.slice s8 (nt + 1) c8) (nt + 1) (S.Lb.map (·.1) ++ [sliceV g B]) → (((Value.slice s8 (nt + 1) c8).ownBlock = (Value.slice st nt ct).ownBlock ∧ (w7.alloc (.cells #[sliceV g B] 31)).grownBy w8 (Value.slice st nt ct).ownBlock) ∨ ((∀ gq, (Value.slice s8 (nt + 1) c8).ownBlock = some gq → (w7.alloc (.cells #[sliceV g B] 31)).heap.size ≤ gq) ∧ (w7.alloc (.cells #[sliceV g B] 31)).grownBy w8 none)) →
      (∃ S', As w0 (w8.setCell ⟨sp, 0, none⟩ (.slice s8 (nt + 1) c8)) E lo p mf mt B D0 S0 t D S' tl nl (ex ++ [(sliceV g B, B, Lib.byteCells bl)]) ∧ Grew (w7.alloc (.cells #[sliceV g B] 31)) (w8.setCell ⟨sp, 0, none⟩ (.slice s8 (nt + 1) c8)) S S') ∧ w8.cell? ⟨sp, 0, none⟩ = some (.slice st nt ct) ∧ w8.frozen? ⟨sp, 0, none⟩ = false) := by
  obtain ⟨st, ct, htv⟩ := sh_slice h7.sy.sh.rb
  have hlen : S.Lb.length = S0.Lb.length + ex.length := by rw [h7.lb, List.length_append]
  have hb : Below w7.heap.size w7 (w7.alloc (.cells #[sliceV g B] 31)) := (Below.refl _ _).alloc (Nat.le_refl _) _
  have c1 := cell_row h7.sy.sh.row 0
  have c1' : w7.cell? ⟨S.p, 0, none⟩ = some S.bv := by simpa using c1
  rw [h7.sp, ← hsp, htv] at c1'
  refine ⟨st, ct, S.Lb.length, by omega, c1', ?_, fun s8 c8 w8 ho hf => ?_⟩
  · have := h7.sy.sh.rb
    rw [htv] at this
    exact this
  · rw [← htv] at hf
    have r := (h7.below hb).putB (sp := sp) (v' := .slice s8 (S.Lb.length + 1) c8) hsp h64 h65 hg ((hb.block _ (lt_of_block hby)).trans hby) hl hlo hgs hgd ho hf
    rw [htv] at r
    exact r
end
end Go.Proofs.YtcpncfngadablaaGreatDoor
