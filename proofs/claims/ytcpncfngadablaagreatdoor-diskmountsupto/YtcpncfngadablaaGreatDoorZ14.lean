import Derived.Test.YtcpncfngadablaaGreatDoorZ13
/-
  The document's disk: Spoil.
-/
namespace Go.Proofs.YtcpncfngadablaaGreatDoor
open Go.RowKit Go.Deep ShfKit
set_option maxRecDepth 100000
theorem flat_set_one {α β : Type} {f : α → List β} {e e' : α} {j : Nat} {y : β} (hf : f e' = (f e).set j y) (hj : j < (f e).length) : ∀ {l : List α} {k : Nat}, l[k]? = some e → ∃ q, (l.flatMap f)[q]? = (f e)[j]? ∧ (l.set k e').flatMap f = (l.flatMap f).set q y
  | [], k, h => by simp at h
  | a :: l, 0, h => by
    simp at h
    subst h
    refine ⟨j, ?_, ?_⟩
    · rw [List.flatMap_cons, List.getElem?_append_left hj]
    · rw [List.set_cons_zero, List.flatMap_cons, List.flatMap_cons, hf, List.set_append_left _ _ hj]
  | a :: l, k + 1, h => by
    simp at h
    obtain ⟨q, h1, h2⟩ := flat_set_one hf hj h
    refine ⟨(f a).length + q, ?_, ?_⟩
    · rw [List.flatMap_cons, List.getElem?_append_right (by omega), show (f a).length + q - (f a).length = q by omega, h1]
    · rw [List.set_cons_succ, List.flatMap_cons, List.flatMap_cons, h2, List.set_append_right _ _ (by omega), show (f a).length + q - (f a).length = q by omega]
def RFile.turned (e : RFile) (j : Nat) (bl : List UInt8) : RFile := { e with file := { e.file with blocks := e.file.blocks.set j bl } }
def RefD.turned (R : RefD) (k : Nat) (e : RFile) (j : Nat) (bl : List UInt8) : RefD := { R with fs := R.fs.set k (e.turned j bl) }
theorem RefAt.turn {w : World} {R : RefD} (h : RefAt w R) {k j : Nat} {e : RFile} {bl : List UInt8} {v : Value} (he : R.fs[k]? = some e) (hb : e.file.blocks[j]? = some bl) (hv : e.vs[j]? = some v) {g bc : Nat} (hs : v = .slice (some ⟨g, 0, none⟩) R.B bc) (q : Nat) (c : UInt8) :
    RefAt (w.setCell ⟨g, q, none⟩ (.int .u8 (c.toNat : Int))) (R.turned k e j (bl.set q c)) ∧ (R.turned k e j (bl.set q c)).foot = R.foot ∧ g ∈ R.foot := by
  have hlen := h.len e (List.mem_of_getElem? he)
  have hj : j < (e.r5 R.B).length := by
    have := (List.getElem?_eq_some_iff.1 hb).1
    unfold RFile.r5
    simp [hlen]
    omega
  have hx : (e.r5 R.B)[j]? = some (v, R.B, Lib.byteCells bl) := by
    have hz : (e.vs.zip e.file.blocks)[j]? = some (v, bl) := List.getElem?_zip_eq_some.2 ⟨hv, hb⟩
    unfold RFile.r5
    rw [List.getElem?_map, hz]
    rfl
  have hr5 : (e.turned j (bl.set q c)).r5 R.B = (e.r5 R.B).set j (v, R.B, (Lib.byteCells bl).set q (.int .u8 (c.toNat : Int))) := by
    unfold RFile.r5 RFile.turned
    apply List.ext_getElem?
    intro i
    rw [List.getElem?_set]
    by_cases hi : j = i
    · subst hi
      have h1 : (e.vs.zip (e.file.blocks.set j (bl.set q c)))[j]? = some (v, bl.set q c) := List.getElem?_zip_eq_some.2 ⟨hv, by rw [List.getElem?_set, if_pos rfl, if_pos (List.getElem?_eq_some_iff.1 hb).1]⟩
      have hj2 := hj
      unfold RFile.r5 at hj2
      rw [List.getElem?_map, h1, if_pos rfl, if_pos hj2]
      simp [Lib.byteCells, List.map_set]
    · rw [if_neg hi, List.getElem?_map, List.getElem?_map]
      congr 1
      unfold List.zip
      rw [List.getElem?_zipWith, List.getElem?_zipWith, List.getElem?_set, if_neg hi]
  obtain ⟨z, h1, h2⟩ := flat_set_one (f := RFile.r5 R.B) hr5 hj he
  rw [hx] at h1
  have hc : (e.turned j (bl.set q c)).cells = e.cells := rfl
  have h31 : (e.turned j (bl.set q c)).r31 = e.r31 := by unfold RFile.r31 RFile.turned; simp
  have m31 : (R.fs.set k (e.turned j (bl.set q c))).map RFile.r31 = R.fs.map RFile.r31 := by
    rw [List.map_set, h31]
    apply List.ext_getElem?
    intro i
    rw [List.getElem?_set]
    by_cases hi : k = i
    · subst hi
      rw [if_pos rfl]
      split
      · rw [List.getElem?_map, he]; rfl
      · next hk => exact absurd (by simpa using (List.getElem?_eq_some_iff.1 he).1) hk
    · rw [if_neg hi]
  have gk : w.ownsRow 0 5 1 v R.B (Lib.byteCells bl) := h.f5.own z _ h1
  obtain ⟨c5, z5, r5⟩ := Lib.ownsRow_kind gk g (by rw [hs]; rfl)
  have hbut : But 5 w (w.setCell ⟨g, q, none⟩ (.int .u8 (c.toNat : Int))) := But.setCell r5 _
  have hfoot : (R.turned k e j (bl.set q c)).foot = R.foot := by
    unfold RefD.foot RefD.turned
    simp only [m31]
    rw [h2]
    have : blks ((R.fs.flatMap (RFile.r5 R.B)).set z (v, R.B, (Lib.byteCells bl).set q (.int .u8 (c.toNat : Int)))) = blks (R.fs.flatMap (RFile.r5 R.B)) := by
      unfold blks
      exact flat_same (by rfl) h1
    rw [this]
  refine ⟨⟨(hbut _ _ _ _ h.row (by decide)).trans h.row, ?_, hbut.own h.tro (by decide), ?_, ?_, ?_⟩, hfoot, ?_⟩
  · have e1 : (R.turned k e j (bl.set q c)).fs.flatMap RFile.cells = R.fs.flatMap RFile.cells := flat_same hc he
    have e2 : (R.turned k e j (bl.set q c)).fs.length = R.fs.length := by simp [RefD.turned]
    rw [e1, e2]
    exact hbut.own h.own (by decide)
  · have e1 : (R.turned k e j (bl.set q c)).fs.map RFile.r31 = R.fs.map RFile.r31 := m31
    rw [e1]
    exact hbut.fam h.f31 (by decide)
  · have e1 : (R.turned k e j (bl.set q c)).fs.flatMap (RFile.r5 (R.turned k e j (bl.set q c)).B) = (R.fs.flatMap (RFile.r5 R.B)).set z (v, R.B, (Lib.byteCells bl).set q (.int .u8 (c.toNat : Int))) := h2
    rw [e1]
    exact h.f5.write h1 hs _
  · intro f hf
    rcases List.mem_or_eq_of_mem_set (show f ∈ R.fs.set k (e.turned j (bl.set q c)) from hf) with h3 | h3
    · exact h.len f h3
    · subst h3
      show e.vs.length = (e.file.blocks.set j _).length
      simp [hlen]
  · unfold RefD.foot
    simp only [List.mem_cons, List.mem_append]
    exact .inr (.inr (.inr (.inr (mem_blks.2 ⟨z, _, h1, by rw [hs]; rfl⟩))))
def RefD.spoilR (R : RefD) (key : List UInt8) (ix bit : Int) : Int × RefD :=
  if nameB ⟨key.toArray⟩ then (if R.has key then
    match R.fs[findI R.names key]? with
    | none => (0, R)
    | some e => if ix < 0 ∨ (e.file.blocks.length : Int) ≤ ix ∨ bit < 0 ∨ 8 * (R.B : Int) ≤ bit then (16, R) else
      (0, R.turned (findI R.names key) e ix.toNat ((e.file.blocks[ix.toNat]?.getD []).set (bit / 8).toNat (flipB ((e.file.blocks[ix.toNat]?.getD [])[(bit / 8).toNat]?.getD 0) bit)))
  else (12, R)) else (11, R)
theorem has_at {R : RefD} {key : List UInt8} (h : R.has key = true) : ∃ e, R.fs[findI R.names key]? = some e ∧ e.name = key := by
  unfold RefD.has at h
  simp only [RefD.names, List.getElem?_map, beq_iff_eq, Option.map_eq_some_iff] at h
  exact h
set_option maxHeartbeats 4000000 in
theorem rSpoil_any {w : World} {R : RefD} (h : RefAt w R) (key : List UInt8) (ix bit : Int) (hk : key.length ≤ 1099511627776) (hn : R.fs.length ≤ 1099511627776) (hB : 0 < R.B) (hB2 : R.B ≤ 65536) :
    Calls Tryz.prog 85 #[.pointer (some ⟨R.p, 0, none⟩), encStr key, .int .i64 ix, .int .i64 bit] w fun e w' => e = .returned (.int .i64 (R.spoilR key ix bit).1) ∧ RefAt w' (R.spoilR key ix bit).2 ∧ Touch R.foot w w' ∧ (R.spoilR key ix bit).2.foot = R.foot := by
  have HN := hid (fun W => named_any ⟨key.toArray⟩ (by simpa [ByteArray.size] using hk) W)
  have HF := hid (find_any h key hn)
  obtain ⟨p, hp⟩ : ∃ p, p = R.p := ⟨_, rfl⟩
  rw [← hp] at HF ⊢
  cases hb : nameB ⟨key.toArray⟩ with
  | false =>
    have HS : Hid (R.spoilR key ix bit = (11, R)) := by show _ = _; unfold RefD.spoilR; rw [hb]; rfl
    rw [hb] at HN
    have HR := hid h
    clear h hp hb
    go_enter Tryz.func85, Tryz.ntmps85
    go_wp2_with (go_at_call 60; refine (HN.out _).mono ?_; rintro e w1 ⟨rfl, rfl⟩)
    go_ret
    rw [HS.out]
    exact ⟨rfl, HR.out, Touch.refl _ _, rfl⟩
  | true =>
    rw [hb] at HN
    cases hh : R.has key with
    | false =>
      have HS : Hid (R.spoilR key ix bit = (12, R)) := by show _ = _; unfold RefD.spoilR; rw [hb, hh]; rfl
      rw [hh] at HF
      have HR := hid h
      clear h hp hb hh
      go_enter Tryz.func85, Tryz.ntmps85
      go_wp2_with (first
        | (go_at_call 96; refine HF.out.mono ?_; rintro e w2 ⟨rfl, hq⟩; have HQ := hid hq; clear hq)
        | (go_at_call 60; refine (HN.out _).mono ?_; rintro e w1 ⟨rfl, rfl⟩))
      go_ret
      rw [HS.out]
      exact ⟨rfl, HR.out.below (quiet_below HQ.out), Touch.of_below (quiet_below HQ.out) (Nat.le_refl _), rfl⟩
    | true =>
      rw [hh] at HF
      obtain ⟨e0, he0, _⟩ := has_at hh
      obtain ⟨G, gc, hfv, hG, _, c1, c2, _⟩ := h.file he0
      obtain ⟨i, hi⟩ : ∃ i, i = findI R.names key := ⟨_, rfl⟩
      obtain ⟨n, hnn⟩ : ∃ n, n = R.fs.length := ⟨_, rfl⟩
      rw [← hi] at HF he0 c1 c2
      have hin : i < n := by rw [hnn]; exact (List.getElem?_eq_some_iff.1 he0).1
      have hlt1 : (i : Int) < (n : Int) := by omega
      have i0 : (0 : Int) ≤ (i : Int) := by omega
      have hpl : p < w.heap.size := by rw [hp]; exact lt_of_block h.row
      have p2 : w.cell? ⟨p, 2, none⟩ = some (.slice (some ⟨G, 0, none⟩) n gc) := by
        rw [hp, cell_row h.row]
        show some R.fv = _
        rw [hfv, hnn]
      obtain ⟨B, hBB⟩ : ∃ B, B = R.B := ⟨_, rfl⟩
      have p0 : w.cell? ⟨p, 0, none⟩ = some (.int .i64 (B : Int)) := by rw [hp, cell_row h.row, hBB]; rfl
      obtain ⟨m, hm⟩ : ∃ m, m = e0.file.blocks.length := ⟨_, rfl⟩
      obtain ⟨sa, sc, hsv⟩ := sh_slice (h.f31.own i _ (by rw [List.getElem?_map, he0]; rfl) : w.ownsRow 0 31 1 e0.sv e0.file.blocks.length e0.vs)
      rw [hsv, ← hm] at c2
      rw [← hBB] at hB hB2
      have upq : Hid (∀ w2, Quiet w w2 → w2.cell? ⟨p, 2, none⟩ = some (.slice (some ⟨G, 0, none⟩) n gc) ∧ w2.cell? ⟨G, i * 3 + 2, none⟩ = some (.slice sa m sc) ∧ w2.cell? ⟨p, 0, none⟩ = some (.int .i64 (B : Int))) := fun w2 hq => by
        have hb := quiet_below hq
        exact ⟨(hb.cell (p := ⟨p, 2, none⟩) hpl).trans p2, (hb.cell (p := ⟨G, i * 3 + 2, none⟩) hG).trans c2, (hb.cell (p := ⟨p, 0, none⟩) hpl).trans p0⟩
      have V8 : IntKind.i64.wrap (8 * (B : Int)) = 8 * (B : Int) := by rw [IntKind.wrap_i64]; omega
      by_cases hix : ix < 0 ∨ (m : Int) ≤ ix ∨ bit < 0 ∨ 8 * (B : Int) ≤ bit
      · have HS : Hid (R.spoilR key ix bit = (16, R)) := by
          show _ = _
          unfold RefD.spoilR
          rw [hb, hh, ← hi, he0]
          simp only [if_true]
          rw [← hm, ← hBB, if_pos hix]
        have HR := hid h
        have hx2 : ix < 0 ∨ (¬ ix < 0 ∧ (m : Int) ≤ ix) ∨ (¬ ix < 0 ∧ ¬ (m : Int) ≤ ix ∧ bit < 0) ∨ (¬ ix < 0 ∧ ¬ (m : Int) ≤ ix ∧ ¬ bit < 0 ∧ 8 * (B : Int) ≤ bit) := by omega
        clear h hp he0 hfv hi hnn p2 c1 c2 hb hh hm hsv hix hBB p0
        rcases hx2 with x1 | ⟨x1, x2⟩ | ⟨x1, x2, x3⟩ | ⟨x1, x2, x3, x4⟩
        all_goals
          go_enter Tryz.func85, Tryz.ntmps85
          go_wp2_with (first
            | (go_at_call 96; refine HF.out.mono ?_; rintro e w2 ⟨rfl, hq⟩; obtain ⟨d0, d1, d2⟩ := upq.out _ hq; have HQ := hid hq; clear hq)
            | (go_at_call 60; refine (HN.out _).mono ?_; rintro e w1 ⟨rfl, rfl⟩))
          go_ret
          rw [HS.out]
          exact ⟨rfl, HR.out.below (quiet_below HQ.out), Touch.of_below (quiet_below HQ.out) (Nat.le_refl _), rfl⟩
      · obtain ⟨j, rfl⟩ : ∃ j : Nat, ix = (j : Int) := ⟨ix.toNat, by omega⟩
        have hjm : j < m := by omega
        have hx1 : ¬ (j : Int) < 0 := by omega
        have hx2 : ¬ (m : Int) ≤ (j : Int) := by omega
        have hx3 : (0 : Int) ≤ (j : Int) := by omega
        have hx4 : (j : Int) < (m : Int) := by omega
        have hy1 : ¬ bit < 0 := by omega
        have hy2 : ¬ 8 * (B : Int) ≤ bit := by omega
        have hy3 : 0 ≤ bit := by omega
        have hy4 : bit < 8 * (B : Int) := by omega
        obtain ⟨bl, hbl⟩ : ∃ bl, e0.file.blocks[j]? = some bl := ⟨_, List.getElem?_eq_getElem (by rw [← hm]; exact hjm)⟩
        obtain ⟨v, hv, ho, hbB, Gs, sc', hs', hcv, hne⟩ := h.block he0 hbl
        rw [hsv] at hs'
        simp only [Value.slice.injEq, true_and] at hs'
        obtain ⟨rfl, rfl⟩ := hs'
        obtain ⟨g, bc, hvs, _, hcs⟩ := own_at ho (by rw [Lib.byteCells_length, hbB, ← hBB]; exact hB)
        obtain ⟨c, hc⟩ : ∃ c, bl[(bit / 8).toNat]? = some c := ⟨_, List.getElem?_eq_getElem (by rw [hbB, ← hBB]; omega)⟩
        have cb : w.cell? ⟨g, (bit / 8).toNat, none⟩ = some (.int .u8 (c.toNat : Int)) := hcs _ _ (by unfold Lib.byteCells; rw [List.getElem?_map, hc]; rfl)
        obtain ⟨c5, z5, r5⟩ := Lib.ownsRow_kind ho g (by rw [hvs]; rfl)
        have fb : w.frozen? ⟨g, (bit / 8).toNat, none⟩ = false := by
          rcases ho.2 with ⟨e', _⟩ | ⟨g', cap, cur, e', _, hr, _⟩
          · rw [hvs] at e'
            cases e'
          · rw [hvs] at e'
            simp only [Value.slice.injEq, Option.some.injEq, Addr.mk.injEq] at e'
            obtain ⟨⟨rfl, _⟩, _⟩ := e'
            exact unfrozen_row hr _
        rw [hvs] at hcv
        have hTU := h.turn he0 hbl hv hvs (bit / 8).toNat (flipB c bit)
        have HS : Hid (R.spoilR key (j : Int) bit = (0, R.turned i e0 j (bl.set (bit / 8).toNat (flipB c bit)))) := by
          show _ = _
          unfold RefD.spoilR
          rw [hb, hh, ← hi, he0]
          simp only [if_true]
          rw [← hm, ← hBB, if_neg hix, Int.toNat_natCast, hbl]
          simp [hc]
        have FIN : Hid (∀ w2, Quiet w w2 → RefAt (w2.setCell ⟨g, (bit / 8).toNat, none⟩ (.int .u8 ((flipB c bit).toNat : Int))) (R.turned i e0 j (bl.set (bit / 8).toNat (flipB c bit)))) := fun w2 hq => ((h.below (quiet_below hq)).turn he0 hbl hv hvs (bit / 8).toNat (flipB c bit)).1
        have up2 : Hid (∀ w2, Quiet w w2 → w2.cell? ⟨Gs, j, none⟩ = some (.slice (some ⟨g, 0, none⟩) B bc) ∧ w2.cell? ⟨g, (bit / 8).toNat, none⟩ = some (.int .u8 (c.toNat : Int)) ∧ w2.frozen? ⟨g, (bit / 8).toNat, none⟩ = false) := fun w2 hq => by
          rw [hBB]
          exact ⟨(Quiet.cell hq _).trans hcv, (Quiet.cell hq _).trans cb, (Quiet.frozen hq _).trans fb⟩
        have FT := hid hTU.2
        have HV := hid (flip_val c bit)
        have HR := hid h
        clear h hp he0 hfv hi hnn p2 c1 c2 hb hh hm hsv hix hBB p0 hbl hv ho hbB hcv hne hvs hcs hc cb fb r5 hTU
        go_enter Tryz.func85, Tryz.ntmps85
        go_wp2_with (first
          | (go_at_call 96; refine HF.out.mono ?_; rintro e w2 ⟨rfl, hq⟩; obtain ⟨d0, d1, d2⟩ := upq.out _ hq; obtain ⟨d3, d4, d5⟩ := up2.out _ hq; have HQ := hid hq; clear hq)
          | (go_at_call 60; refine (HN.out _).mono ?_; rintro e w1 ⟨rfl, rfl⟩))
        go_region
        go_wp2
        go_ret
        rw [HS.out]
        have hfv := HV.out
        try rw [hfv]
        refine ⟨rfl, (FIN.out _ HQ.out).below ?_, ?_, FT.out.1⟩
        · exact ⟨rfl, rfl, rfl, Nat.le_refl _, fun _ _ => rfl⟩
        · exact (((Touch.of_below (F := R.foot) (quiet_below HQ.out) (Nat.le_refl _)).setCell (.inl FT.out.2) _)).drew
end Go.Proofs.YtcpncfngadablaaGreatDoor
/-
  The landed disk and the document's, 2: Append, Spoil.
-/
namespace Go.Proofs.YtcpncfngadablaaGreatDoor
open Go.RowKit Go.Deep ShfKit
set_option linter.unusedSimpArgs false
section
variable {R : RefD}
theorem append_same (hr : Rise R.pub.files) (s : ByteArray) (bl : List UInt8) (v bv : Value) : ((R.appR (nm s) bl v bv).1, (R.appR (nm s) bl v bv).2.pub) = appendB s bl R.troub R.pub := by
  unfold appendB
  have hon : R.pub.on = R.on := rfl
  rw [hon]
  unfold RefD.appR RefD.known
  cases ho : R.on with
  | false => simp
  | true =>
    simp only [if_true, nm_mk]
    unfold appendA
    cases hn : nameB s with
    | false => simp [befX]
    | true =>
      simp only [if_true]
      rcases R.at_ hr (nm s) with ⟨e, he, hen, hh, hf, hs, hd⟩ | ⟨hh, hf, hins⟩
      · have hcut : cutX s bl R.troub.bytes R.pub = { R.pub with on := false, files := setA (nm s) { e.file with blocks := e.file.blocks ++ [cutB R.troub.bytes.toNat bl] } R.pub.files, c := { R.pub.c with calls := R.pub.c.calls + 1, used := R.pub.c.used + 1, most := max R.pub.c.most (R.pub.c.used + 1) } } := by
          unfold cutX
          rw [hf]
        rw [hh, hf, he]
        simp only [if_true]
        cases hsh : e.file.shut with
        | true => simp [befX]
        | false =>
          simp only [Bool.false_eq_true, if_false]
          by_cases hl : bl.length ≠ R.B
          · have hl' : bl.length ≠ R.pub.B := hl
            rw [if_pos hl, if_pos hl']
            simp [befX]
          · have hl' : ¬ bl.length ≠ R.pub.B := hl
            rw [if_neg hl, if_neg hl']
            by_cases hu : R.Bs ≤ R.c.used
            · have hu' : R.pub.Bs ≤ R.pub.c.used := hu
              rw [if_pos hu, if_pos hu']
              simp only [befX]
              rw [if_neg (by decide)]
              rfl
            · have hu' : ¬ R.pub.Bs ≤ R.pub.c.used := hu
              rw [if_neg hu, if_neg hu']
              have hfs : ∀ bl' : List UInt8, (R.fs.set (findI R.names (nm s)) (e.more v bv bl')).map RFile.pub = setA (nm s) { shut := false, blocks := e.file.blocks ++ [bl'] } R.pub.files := fun bl' => by
                rw [hs]
                unfold RefD.pub
                simp only [List.map_set]
                simp [RFile.pub, RFile.more, hen, hsh]
              have hfs2 : ∀ bl' : List UInt8, (R.fs.set (findI R.names (nm s)) (e.more v bv bl')).map RFile.pub = setA (nm s) { e.file with blocks := e.file.blocks ++ [bl'] } R.pub.files := fun bl' => by
                rw [hs]
                unfold RefD.pub
                simp only [List.map_set]
                simp [RFile.pub, RFile.more, hen]
              rcases befall_cases R false with ⟨h1, _, hb⟩ | ⟨h1, hb⟩ | ⟨h1, h2, hb⟩
              · rw [hb]
                simp only [befX, h1, if_true, Bool.false_eq_true, if_false]
                rfl
              · rw [hb]
                simp only [befX, h1, if_true]
                rw [if_neg (show ¬ (2 : Int) = 1 by decide)]
                by_cases hy : 0 < R.troub.bytes
                · simp only [hy, decide_true, if_true]
                  rw [if_neg (show ¬ (10 : Int) = 0 by decide)]
                  refine Prod.ext rfl ?_
                  show PubA.mk _ _ _ ((R.fs.set (findI R.names (nm s)) (e.more v bv (cutB R.troub.bytes.toNat bl))).map RFile.pub) _ = _
                  rw [hfs2, hcut]
                  rfl
                · simp only [hy, decide_false, if_false, Bool.false_eq_true]
                  rfl
              · rw [hb]
                have h1' : R.troub.kind ≠ 1 := by simpa using h1
                simp only [befX, h1', h2, if_true, if_false]
                refine Prod.ext rfl ?_
                show PubA.mk _ _ _ ((R.fs.set (findI R.names (nm s)) (e.more v bv bl)).map RFile.pub) _ = _
                rw [hfs]
                rfl
      · rw [hh, hf]
        simp [befX]
theorem spoil_same (hr : Rise R.pub.files) (s : ByteArray) (i bit : Int) : ((R.spoilR (nm s) i bit).1, (R.spoilR (nm s) i bit).2.pub) = spoilA s i bit R.pub := by
  unfold RefD.spoilR spoilA
  rw [nm_mk]
  cases hn : nameB s with
  | false => simp
  | true =>
    simp only [if_true]
    rcases R.at_ hr (nm s) with ⟨e, he, hen, hh, hf, hs, hd⟩ | ⟨hh, hf, hins⟩
    · rw [hh, hf, he]
      simp only [if_true]
      by_cases hi : (0 ≤ i ∧ i < (e.file.blocks.length : Int)) ∧ 0 ≤ bit ∧ bit < 8 * (R.B : Int)
      · have hi' : (0 ≤ i ∧ i < (e.file.blocks.length : Int)) ∧ 0 ≤ bit ∧ bit < 8 * (R.pub.B : Int) := hi
        rw [if_neg (by omega), if_pos hi']
        refine Prod.ext rfl ?_
        have hfs : ∀ bl' : List UInt8, (R.fs.set (findI R.names (nm s)) (e.turned i.toNat bl')).map RFile.pub = setA (nm s) { e.file with blocks := e.file.blocks.set i.toNat bl' } R.pub.files := fun bl' => by
          rw [hs]
          unfold RefD.pub
          simp only [List.map_set]
          simp [RFile.pub, RFile.turned, hen]
        show PubA.mk _ _ _ ((R.fs.set (findI R.names (nm s)) (e.turned i.toNat _)).map RFile.pub) _ = _
        rw [hfs]
        rfl
      · have hi' : ¬ ((0 ≤ i ∧ i < (e.file.blocks.length : Int)) ∧ 0 ≤ bit ∧ bit < 8 * (R.pub.B : Int)) := hi
        rw [if_pos (by omega), if_neg hi']
    · rw [hh, hf]
      simp
/-- the troubles and the place stay. -/
theorem seal_keeps (key : List UInt8) : (R.sealR key).2.trs = R.trs ∧ (R.sealR key).2.p = R.p := by
  unfold RefD.sealR RefD.befall RefD.met
  (repeat' split) <;> exact ⟨rfl, rfl⟩
theorem create_keeps (key : List UInt8) : (R.createR key).2.trs = R.trs ∧ (R.createR key).2.p = R.p := by
  unfold RefD.createR RefD.befall RefD.met
  (repeat' split) <;> exact ⟨rfl, rfl⟩
theorem delete_keeps (key : List UInt8) : (R.delR key).2.trs = R.trs ∧ (R.delR key).2.p = R.p := by
  unfold RefD.delR RefD.befall RefD.met
  (repeat' split) <;> exact ⟨rfl, rfl⟩
theorem read_keeps (key : List UInt8) (i : Int) : (R.readR key i).2.2.trs = R.trs ∧ (R.readR key i).2.2.p = R.p := by
  unfold RefD.readR RefD.befall RefD.met
  (repeat' split) <;> exact ⟨rfl, rfl⟩
theorem append_keeps (key bl : List UInt8) (v bv : Value) : (R.appR key bl v bv).2.trs = R.trs ∧ (R.appR key bl v bv).2.p = R.p := by
  unfold RefD.appR RefD.befall RefD.met
  (repeat' split) <;> exact ⟨rfl, rfl⟩
theorem spoil_keeps (key : List UInt8) (i bit : Int) : (R.spoilR key i bit).2.trs = R.trs ∧ (R.spoilR key i bit).2.p = R.p := by
  unfold RefD.spoilR
  (repeat' split) <;> exact ⟨rfl, rfl⟩
end
end Go.Proofs.YtcpncfngadablaaGreatDoor
/-
  A step of both disks, told by what they hold; what holds behind t steps.
-/
namespace Go.Proofs.YtcpncfngadablaaGreatDoor
open Go.RowKit Go.Deep ShfKit
set_option linter.unusedSimpArgs false
/-- an operation under a trouble: what is told, what is held then. -/
def stepB (o : OpA) (t : TrA) (A : PubA) : ToldA × PubA :=
  if o.kind = 1 then (.err (createB o.name t A).1, (createB o.name t A).2)
  else if o.kind = 2 then (.err (appendB o.name (dataA o.N A.B o.data) t A).1, (appendB o.name (dataA o.N A.B o.data) t A).2)
  else if o.kind = 3 then (.err (sealB o.name t A).1, (sealB o.name t A).2)
  else if o.kind = 4 then (⟨(readB o.name o.N t A).2.1, 0, false, (readB o.name o.N t A).1.getD [], [], cnt0⟩, (readB o.name o.N t A).2.2)
  else if o.kind = 5 then (.err (deleteB o.name t A).1, (deleteB o.name t A).2)
  else if o.kind = 6 then (⟨(lengthB o.name A).2.2, (lengthB o.name A).1, (lengthB o.name A).2.1, [], [], cnt0⟩, A)
  else if o.kind = 7 then (⟨0, 0, false, [], if A.on then A.files.map Prod.fst else [], cnt0⟩, A)
  else if o.kind = 8 then (⟨0, 0, false, [], [], A.c⟩, A)
  else if o.kind = 9 then (.err (spoilA o.name o.N o.bit A).1, (spoilA o.name o.N o.bit A).2)
  else (.err 0, A)
/-! ### names that rise -/
theorem Rise.ne {l : List (List UInt8 × FileA)} (h : Rise l) : l.Pairwise fun a b => a.1 ≠ b.1 := h.imp fun hb => before_ne hb
theorem rise_set {l : List (List UInt8 × FileA)} (h : Rise l) (k : List UInt8) (f : FileA) : Rise (setA k f l) := by
  unfold Rise setA
  rw [List.pairwise_map]
  refine h.imp fun {a b} hb => ?_
  have e : ∀ x : List UInt8 × FileA, (if x.1 = k then (x.1, f) else x).1 = x.1 := fun x => by split <;> rfl
  rw [e, e]
  exact hb
theorem rise_drop {l : List (List UInt8 × FileA)} (h : Rise l) (k : List UInt8) : Rise (dropA k l) := h.filter _
theorem rise_ins {l : List (List UInt8 × FileA)} (h : Rise l) {k : List UInt8} (hn : findA l k = none) (f : FileA) : Rise (insA (k, f) l) := by
  have hne : ∀ x ∈ l, x.1 ≠ k := fun x hx e => by
    unfold findA at hn
    rw [Option.map_eq_none_iff, List.find?_eq_none] at hn
    exact hn x hx (by simpa using e)
  obtain ⟨A, C, e, _, hA, hC⟩ := h.part (key := k)
  have hCk : ∀ c ∈ C, bytesBefore k c.1 = true := fun c hc => by
    rcases WideAt.bytes_total _ _ (hne c (by rw [e]; simp [hc])) with h1 | h1
    · rw [hC c hc] at h1
      cases h1
    · exact h1
  rw [e, ins_part hCk hA]
  unfold Rise at h ⊢
  rw [e] at h
  obtain ⟨h1, h2, h3⟩ := List.pairwise_append.1 h
  refine List.pairwise_append.2 ⟨h1, List.pairwise_cons.2 ⟨hCk, h2⟩, fun a ha b hb => ?_⟩
  rcases List.mem_cons.1 hb with rfl | hb
  · exact hA a ha
  · exact h3 a ha b hb
/-! ### what holds behind t steps -/
structure IB (t : Nat) (A : PubA) : Prop where
  size : 64 ≤ A.B ∧ A.B ≤ 65536
  calls : 0 ≤ A.c.calls ∧ A.c.calls ≤ t
  reads : 0 ≤ A.c.reads ∧ A.c.reads ≤ t
  appends : 0 ≤ A.c.appends ∧ A.c.appends ≤ t
  faults : 0 ≤ A.c.faults ∧ A.c.faults ≤ t
  full : 0 ≤ A.c.full ∧ A.c.full ≤ t
  used : A.c.used = (total A.files : Int)
  most : A.c.used ≤ A.c.most
  total : total A.files ≤ t
  few : A.files.length ≤ t
  rise : Rise A.files
section
variable {t : Nat} {A : PubA}
theorem IB.small (h : IB t A) (ht : t ≤ 1099511627776) : Small A := by
  have h1 := h.calls
  have h2 := h.reads
  have h3 := h.appends
  have h4 := h.full
  have h5 := h.used
  have h6 := h.total
  have h7 := h.few
  exact ⟨by omega, by omega, by omega, by omega, by omega, by omega, fun e he => by have := le_total e he; omega, h.size⟩
theorem IB.more (h : IB t A) : IB (t + 1) A := by
  have h1 := h.calls
  have h2 := h.reads
  have h3 := h.appends
  have h4 := h.full
  have h5 := h.faults
  have h6 := h.total
  have h7 := h.few
  exact ⟨h.size, by omega, by omega, by omega, by omega, by omega, h.used, h.most, by omega, by omega, h.rise⟩
theorem IB.flag (h : IB t A) (b : Bool) : IB t { A with on := b } := ⟨h.size, h.calls, h.reads, h.appends, h.faults, h.full, h.used, h.most, h.total, h.few, h.rise⟩
theorem IB.faulted (h : IB t A) : IB (t + 1) A.faulted := by
  have h1 := h.calls
  have h5 := h.faults
  have h := h.more
  exact ⟨h.size, by show 0 ≤ A.c.calls + 1 ∧ A.c.calls + 1 ≤ _; omega, h.reads, h.appends, by show 0 ≤ A.c.faults + 1 ∧ A.c.faults + 1 ≤ _; omega, h.full, h.used, h.most, h.total, h.few, h.rise⟩
theorem IB.called (h : IB t A) : IB (t + 1) { A with c := { A.c with calls := A.c.calls + 1 } } := by
  have h1 := h.calls
  have h := h.more
  exact ⟨h.size, by show 0 ≤ A.c.calls + 1 ∧ A.c.calls + 1 ≤ _; omega, h.reads, h.appends, h.faults, h.full, h.used, h.most, h.total, h.few, h.rise⟩
theorem IB.shut (h : IB t A) : IB (t + 1) A.shut := h.called.flag false
theorem IB.create (h : IB t A) (s : ByteArray) : IB (t + 1) (createA s A).2 := by
  unfold createA
  split
  · split
    · exact h.more
    · next hn =>
      have hn' : findA A.files (nm s) = none := by simpa using hn
      have hp := perm_ins (nm s, (⟨false, []⟩ : FileA)) A.files
      have ht := total_perm hp
      have hl := hp.length_eq
      have e1 : YtcpncfngadablaaGreatDoor.total ((nm s, (⟨false, []⟩ : FileA)) :: A.files) = YtcpncfngadablaaGreatDoor.total A.files := by simp [YtcpncfngadablaaGreatDoor.total]
      have h1 := h.calls
      have h6 := h.total
      have h7 := h.few
      have hm := h.more
      refine ⟨hm.size, by show 0 ≤ A.c.calls + 1 ∧ A.c.calls + 1 ≤ _; omega, hm.reads, hm.appends, hm.faults, hm.full, ?_, hm.most, ?_, ?_, rise_ins h.rise hn' _⟩
      · show A.c.used = _
        rw [ht, e1]
        exact h.used
      · show YtcpncfngadablaaGreatDoor.total (insA _ A.files) ≤ _
        rw [ht, e1]
        omega
      · show (insA _ A.files).length ≤ _
        rw [hl]
        simp
        omega
  · exact h.more
theorem IB.setF (h : IB t A) {k : List UInt8} {f f' : FileA} (hf : findA A.files k = some f) {c : Cnt} {d : Nat} (hd : f'.blocks.length = f.blocks.length + d) (hd1 : d ≤ 1) (hu : c.used = A.c.used + d) (hm : c.used ≤ c.most)
    (h1 : 0 ≤ c.calls ∧ c.calls ≤ (t : Int) + 1) (h2 : 0 ≤ c.reads ∧ c.reads ≤ (t : Int) + 1) (h3 : 0 ≤ c.appends ∧ c.appends ≤ (t : Int) + 1) (h4 : 0 ≤ c.faults ∧ c.faults ≤ (t : Int) + 1) (h5 : 0 ≤ c.full ∧ c.full ≤ (t : Int) + 1) (b : Bool) : IB (t + 1) ⟨A.B, A.Bs, b, setA k f' A.files, c⟩ := by
  have ht := total_set (f' := f') h.rise.ne hf
  have h6 := h.total
  have h7 := h.few
  have h8 := h.used
  refine ⟨h.size, by show 0 ≤ c.calls ∧ c.calls ≤ ((t + 1 : Nat) : Int); omega, by show 0 ≤ c.reads ∧ c.reads ≤ ((t + 1 : Nat) : Int); omega, by show 0 ≤ c.appends ∧ c.appends ≤ ((t + 1 : Nat) : Int); omega, by show 0 ≤ c.faults ∧ c.faults ≤ ((t + 1 : Nat) : Int); omega, by show 0 ≤ c.full ∧ c.full ≤ ((t + 1 : Nat) : Int); omega, ?_, hm, ?_, ?_, rise_set h.rise _ _⟩
  · show c.used = _
    rw [hu]
    show A.c.used + d = (YtcpncfngadablaaGreatDoor.total (setA k f' A.files) : Int)
    omega
  · show YtcpncfngadablaaGreatDoor.total (setA k f' A.files) ≤ _
    omega
  · show (setA k f' A.files).length ≤ _
    rw [set_len]
    omega
theorem IB.seal (h : IB t A) (s : ByteArray) : IB (t + 1) (sealA s A).2 := by
  unfold sealA
  have h1 := h.calls
  have h2 := h.reads
  have h3 := h.appends
  have h4 := h.faults
  have h5 := h.full
  split
  · split
    · exact h.more
    · next f hf =>
      split
      · exact h.more
      · exact h.setF hf (f' := { f with shut := true }) (c := { A.c with calls := A.c.calls + 1 }) (d := 0) rfl (by omega) (by simp) h.most (by show 0 ≤ A.c.calls + 1 ∧ A.c.calls + 1 ≤ (t : Int) + 1; omega) (by show 0 ≤ A.c.reads ∧ A.c.reads ≤ (t : Int) + 1; omega) (by show 0 ≤ A.c.appends ∧ A.c.appends ≤ (t : Int) + 1; omega) (by show 0 ≤ A.c.faults ∧ A.c.faults ≤ (t : Int) + 1; omega) (by show 0 ≤ A.c.full ∧ A.c.full ≤ (t : Int) + 1; omega) _
  · exact h.more
theorem IB.spoil (h : IB t A) (s : ByteArray) (i bit : Int) : IB (t + 1) (spoilA s i bit A).2 := by
  unfold spoilA
  have h1 := h.calls
  have h2 := h.reads
  have h3 := h.appends
  have h4 := h.faults
  have h5 := h.full
  split
  · split
    · exact h.more
    · next f hf =>
      split
      · exact h.setF hf (c := A.c) (d := 0) (by simp) (by omega) (by simp) h.most (by show 0 ≤ A.c.calls ∧ A.c.calls ≤ (t : Int) + 1; omega) (by show 0 ≤ A.c.reads ∧ A.c.reads ≤ (t : Int) + 1; omega) (by show 0 ≤ A.c.appends ∧ A.c.appends ≤ (t : Int) + 1; omega) (by show 0 ≤ A.c.faults ∧ A.c.faults ≤ (t : Int) + 1; omega) (by show 0 ≤ A.c.full ∧ A.c.full ≤ (t : Int) + 1; omega) _
      · exact h.more
  · exact h.more
theorem IB.append (h : IB t A) (s : ByteArray) (bl : List UInt8) : IB (t + 1) (appendA s bl A).2 := by
  unfold appendA
  have h1 := h.calls
  have h2 := h.reads
  have h3 := h.appends
  have h4 := h.faults
  have h5 := h.full
  split
  · split
    · exact h.more
    · next f hf =>
      split
      · exact h.more
      · split
        · exact h.more
        · split
          · have hm := h.more
            exact ⟨hm.size, hm.calls, hm.reads, hm.appends, hm.faults, by show 0 ≤ A.c.full + 1 ∧ A.c.full + 1 ≤ _; omega, hm.used, hm.most, hm.total, hm.few, hm.rise⟩
          · exact h.setF hf (c := { A.c with calls := A.c.calls + 1, appends := A.c.appends + 1, used := A.c.used + 1, most := max A.c.most (A.c.used + 1) }) (d := 1) (by simp) (by omega) (by simp) (by show A.c.used + 1 ≤ max A.c.most (A.c.used + 1); omega) (by show 0 ≤ A.c.calls + 1 ∧ A.c.calls + 1 ≤ (t : Int) + 1; omega) (by show 0 ≤ A.c.reads ∧ A.c.reads ≤ (t : Int) + 1; omega) (by show 0 ≤ A.c.appends + 1 ∧ A.c.appends + 1 ≤ (t : Int) + 1; omega) (by show 0 ≤ A.c.faults ∧ A.c.faults ≤ (t : Int) + 1; omega) (by show 0 ≤ A.c.full ∧ A.c.full ≤ (t : Int) + 1; omega) _
  · exact h.more
theorem IB.cutX (h : IB t A) (s : ByteArray) (bl : List UInt8) (y : Int) : IB (t + 1) (cutX s bl y A) := by
  unfold YtcpncfngadablaaGreatDoor.cutX
  have h1 := h.calls
  have h2 := h.reads
  have h3 := h.appends
  have h4 := h.faults
  have h5 := h.full
  split
  · next f hf => exact h.setF hf (c := { A.c with calls := A.c.calls + 1, used := A.c.used + 1, most := max A.c.most (A.c.used + 1) }) (d := 1) (by simp) (by omega) (by simp) (by show A.c.used + 1 ≤ max A.c.most (A.c.used + 1); omega) (by show 0 ≤ A.c.calls + 1 ∧ A.c.calls + 1 ≤ (t : Int) + 1; omega) (by show 0 ≤ A.c.reads ∧ A.c.reads ≤ (t : Int) + 1; omega) (by show 0 ≤ A.c.appends ∧ A.c.appends ≤ (t : Int) + 1; omega) (by show 0 ≤ A.c.faults ∧ A.c.faults ≤ (t : Int) + 1; omega) (by show 0 ≤ A.c.full ∧ A.c.full ≤ (t : Int) + 1; omega) _
  · exact h.more
theorem IB.delete (h : IB t A) (s : ByteArray) : IB (t + 1) (deleteA s A).2 := by
  unfold deleteA
  have h1 := h.calls
  have h6 := h.total
  have h7 := h.few
  have h8 := h.used
  have h9 := h.most
  split
  · split
    · exact h.more
    · next f hf =>
      have ht := total_drop h.rise.ne hf
      have hm := h.more
      refine ⟨hm.size, by show 0 ≤ A.c.calls + 1 ∧ A.c.calls + 1 ≤ _; omega, hm.reads, hm.appends, hm.faults, hm.full, ?_, ?_, ?_, ?_, rise_drop h.rise _⟩
      · show A.c.used - f.blocks.length = (YtcpncfngadablaaGreatDoor.total (dropA (nm s) A.files) : Int)
        omega
      · show A.c.used - f.blocks.length ≤ max A.c.most (A.c.used - f.blocks.length)
        omega
      · show YtcpncfngadablaaGreatDoor.total (dropA (nm s) A.files) ≤ _
        omega
      · show (dropA (nm s) A.files).length ≤ _
        have : (dropA (nm s) A.files).length ≤ A.files.length := List.length_filter_le _ _
        omega
  · exact h.more
theorem IB.read (h : IB t A) (s : ByteArray) (i k : Int) : IB (t + 1) (readX s i k A).2.2 := by
  have h1 := h.calls
  have h2 := h.reads
  have hr : IB (t + 1) (readA s i A).2.2 := by
    unfold readA
    have hm := h.more
    split
    · split
      · exact hm
      · split
        · split
          · exact ⟨hm.size, by show 0 ≤ A.c.calls + 1 ∧ A.c.calls + 1 ≤ _; omega, by show 0 ≤ A.c.reads + 1 ∧ A.c.reads + 1 ≤ _; omega, hm.appends, hm.faults, hm.full, hm.used, hm.most, hm.total, hm.few, hm.rise⟩
          · exact hm
        · exact hm
    · exact hm
  unfold readX
  split
  · split
    · exact h.faulted
    · split
      · exact h.shut
      · exact hr
  · exact hr
theorem IB.bef (h : IB t A) {k y : Int} {r : Int × PubA} {part : PubA} (hr : IB (t + 1) r.2) (hp : IB (t + 1) part) : IB (t + 1) (befX k y A r part).2 := by
  unfold befX
  split
  · split
    · exact h.faulted
    · split
      · show IB (t + 1) (if 0 < y then part else A.shut)
        split
        · exact hp
        · exact h.shut
      · exact hr
  · exact hr
theorem IB.step (h : IB t A) (o : OpA) (tr : TrA) : IB (t + 1) (stepB o tr A).2 := by
  have hif : ∀ x : Int × PubA, IB (t + 1) x.2 → IB (t + 1) (if A.on then x else (10, A)).2 := fun x hx => by
    split
    · exact hx
    · exact h.more
  unfold stepB
  split
  · exact hif _ (h.bef (h.create _) ((h.create _).flag false))
  split
  · exact hif _ (h.bef (h.append _ _) (h.cutX _ _ _))
  split
  · exact hif _ (h.bef (h.seal _) ((h.seal _).flag false))
  split
  · show IB (t + 1) (readB _ _ _ A).2.2
    unfold readB
    split
    · exact h.read _ _ _
    · exact h.more
  split
  · exact hif _ (h.bef (h.delete _) ((h.delete _).flag false))
  split
  · exact h.more
  split
  · exact h.more
  split
  · exact h.more
  split
  · exact h.spoil _ _ _
  exact h.more
theorem bef_size {k y : Int} {r : Int × PubA} {part : PubA} (hr : r.2.B = A.B ∧ r.2.Bs = A.Bs) (hp : part.B = A.B ∧ part.Bs = A.Bs) : (befX k y A r part).2.B = A.B ∧ (befX k y A r part).2.Bs = A.Bs := by
  unfold befX
  (repeat' split) <;> first | exact ⟨rfl, rfl⟩ | exact hr | exact hp | (show (if 0 < y then part else A.shut).B = A.B ∧ (if 0 < y then part else A.shut).Bs = A.Bs; split <;> first | exact hp | exact ⟨rfl, rfl⟩)
theorem stepB_size (o : OpA) (tr : TrA) (A : PubA) : (stepB o tr A).2.B = A.B ∧ (stepB o tr A).2.Bs = A.Bs := by
  have hif : ∀ x : Int × PubA, (x.2.B = A.B ∧ x.2.Bs = A.Bs) → (if A.on then x else (10, A)).2.B = A.B ∧ (if A.on then x else (10, A)).2.Bs = A.Bs := fun x hx => by
    split
    · exact hx
    · exact ⟨rfl, rfl⟩
  have hc : ∀ s, (createA s A).2.B = A.B ∧ (createA s A).2.Bs = A.Bs := fun s => by unfold createA; (repeat' split) <;> exact ⟨rfl, rfl⟩
  have hs : ∀ s, (sealA s A).2.B = A.B ∧ (sealA s A).2.Bs = A.Bs := fun s => by unfold sealA; (repeat' split) <;> exact ⟨rfl, rfl⟩
  have hd : ∀ s, (deleteA s A).2.B = A.B ∧ (deleteA s A).2.Bs = A.Bs := fun s => by unfold deleteA; (repeat' split) <;> exact ⟨rfl, rfl⟩
  have ha : ∀ s bl, (appendA s bl A).2.B = A.B ∧ (appendA s bl A).2.Bs = A.Bs := fun s bl => by unfold appendA; (repeat' split) <;> exact ⟨rfl, rfl⟩
  have hx : ∀ s bl y, (cutX s bl y A).B = A.B ∧ (cutX s bl y A).Bs = A.Bs := fun s bl y => by unfold cutX; split <;> exact ⟨rfl, rfl⟩
  have hp : ∀ s i bit, (spoilA s i bit A).2.B = A.B ∧ (spoilA s i bit A).2.Bs = A.Bs := fun s i bit => by unfold spoilA; (repeat' split) <;> exact ⟨rfl, rfl⟩
  unfold stepB
  split
  · exact hif _ (bef_size (hc _) (hc _))
  split
  · exact hif _ (bef_size (ha _ _) (hx _ _ _))
  split
  · exact hif _ (bef_size (hs _) (hs _))
  split
  · show (readB _ _ _ A).2.2.B = A.B ∧ (readB _ _ _ A).2.2.Bs = A.Bs
    unfold readB readX readA
    (repeat' split) <;> exact ⟨rfl, rfl⟩
  split
  · exact hif _ (bef_size (hd _) (hd _))
  split
  · exact ⟨rfl, rfl⟩
  split
  · exact ⟨rfl, rfl⟩
  split
  · exact ⟨rfl, rfl⟩
  split
  · exact hp _ _ _
  exact ⟨rfl, rfl⟩
end
end Go.Proofs.YtcpncfngadablaaGreatDoor
