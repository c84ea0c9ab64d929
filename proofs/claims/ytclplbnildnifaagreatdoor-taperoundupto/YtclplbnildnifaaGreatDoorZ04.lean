import Derived.Test.YtclplbnildnifaaGreatDoorZ03
/-
  The landed disk, told exactly under what befalls a call: Append.
-/
namespace Go.Proofs.YtclplbnildnifaaGreatDoor
open Go.RowKit Go.Deep

/-- what a cut leaves of an Append: the block's first bytes. -/
def cutX (s : ByteArray) (bl : List UInt8) (y : Int) (A : PubA) : PubA :=
  match findA A.files (nm s) with
  | some f => { A with on := false, files := setA (nm s) { f with blocks := f.blocks ++ [cutB y.toNat bl] } A.files, c := { A.c with calls := A.c.calls + 1, used := A.c.used + 1, most := max A.c.most (A.c.used + 1) } }
  | none => A

section
variable {w w' : World} {E : Nat → Addr} {lo p mf mt : Nat} {D : DiskC}

theorem Append_x (V : Env w lo E) (R : Rep w lo p mf mt D) (ho : D.on = true) (hS : Small D.pub) (hfl : 0 ≤ D.c.faults ∧ D.c.faults ≤ 1099511627776) (hcc : D.c.calls + 1 ≤ 1099511627776) {x k y : Int} (hT : TroubleIs D.T D.c.calls x k y) (s : ByteArray) {sa : Option Addr} {n c : Nat} {bl : List UInt8} (hh : Hand w p mf mt D sa n c bl) :
    Calls Tryz.prog 144 #[ptr p, .string s, .slice sa n c] w fun e w' => ∃ v A', e = .returned (.int .i64 v) ∧ Did3 w w' lo p mf mt D A' ∧ OutX k y D.pub (appendA s bl D.pub) (cutX s bl y D.pub) v A' := by
  have hfp : findA D.pub.files (nm s) = (findE D.ents (nm s)).map Ent.file := find_pub _ _
  have err : ∀ (j : Nat) (r : Int), j < 11 → j ≠ 1 → j ≠ 9 → code j = r → appendA s bl D.pub = (r, D.pub) → (Calls Tryz.prog 202 #[ptr p, .string s, .slice sa n c] w fun e w' => e = .returned (errV E j) ∧ Touch [] w w') →
      Calls Tryz.prog 144 #[ptr p, .string s, .slice sa n c] w fun e w' => ∃ v A', e = .returned (.int .i64 v) ∧ Did3 w w' lo p mf mt D A' ∧ OutX k y D.pub (appendA s bl D.pub) (cutX s bl y D.pub) v A' := fun j r hj h1 h9 hcd hr h => by
    have hj0 : r ≠ 0 := by
      subst hcd
      unfold code
      split <;> decide
    have h2 := Append_err2 (v := code j) (Post2 := fun w' => Did3 w w' lo p mf mt D D.pub) h fun w1 ht => (answer_err (V.touch ht (by simp)).sents j hj h1 h9).mono fun e w2 ⟨e1, e2⟩ => ⟨e1, by subst e2; exact Did3.same R ht⟩
    exact h2.mono fun e w' ⟨e1, e2⟩ => ⟨code j, D.pub, e1, e2, OutX.no (by rw [hcd]; exact hr) (by rw [hcd]; exact hj0)⟩
  by_cases hn : nameB s = true
  · cases hf : findE D.ents (nm s) with
    | none =>
      exact err 4 12 (by omega) (by omega) (by omega) rfl (by unfold appendA; rw [if_pos hn, hfp, hf]; rfl) (put_err s 4 _ (fun o1 o2 => find_none ((V.alloc o1).alloc o2).sents ((R.alloc o1).alloc o2) s ho hn hf) rfl)
    | some e0 =>
      cases hs : e0.file.shut with
      | true => exact err 6 14 (by omega) (by omega) (by omega) rfl (by unfold appendA; rw [if_pos hn, hfp, hf]; simp [hs]) (put_no V R s ho hn hf 6 (.inl ⟨hs, rfl⟩))
      | false =>
        by_cases hl : bl.length = D.B
        · have hl' : ¬ bl.length ≠ D.pub.B := fun h => h hl
          by_cases hu : D.Bs ≤ D.c.used
          · have hu' : D.pub.Bs ≤ D.pub.c.used := hu
            have hr : appendA s bl D.pub = (17, { D.pub with c := { D.pub.c with full := D.pub.c.full + 1 } }) := by
              unfold appendA
              rw [if_pos hn, hfp, hf]
              simp only [Option.map_some, hs, Bool.false_eq_true, if_false]
              rw [if_neg hl', if_pos hu']
            have hnB : n = D.B := hh.len.symm.trans hl
            have h := Append_err2 (sa := sa) (c := c) (n := n) (s := s) (v := 17) (Post2 := fun w' => Did3 w w' lo p mf mt D { D.pub with c := { D.pub.c with full := D.pub.c.full + 1 } }) (put_no V R s ho hn hf 9 (.inr (.inr ⟨hs, hnB, hu, rfl⟩))) fun w1 ht => by
              have R1 := R.touch ht (by simp)
              have V1 := V.touch ht (by simp)
              refine (answer_full V1.sents R1 hS.full.1 hS.full.2 fun v => (V1.touch (F := [p]) ((Touch.refl [p] w1).setCell (p := ⟨p, 9, none⟩) (by simp) _) (fun b hb => by simp at hb; subst hb; exact R.base b (by simp [DiskC.foot]))).sents).mono fun e w2 ⟨e1, hR, ht2⟩ => ⟨e1, _, hR, rfl, .inl ⟨rfl, rfl⟩, ?_, fun b hb => .inl hb⟩
              exact ((ht.mono (by simp)).trans ht2 (fun b hb => by simp at hb; subst hb; exact .inl (by simp [DiskC.foot])))
            exact h.mono fun e w' ⟨e1, e2⟩ => ⟨17, _, e1, e2, OutX.no hr (by decide)⟩
          · have hu' : ¬ D.pub.Bs ≤ D.pub.c.used := hu
            have hr : appendA s bl D.pub = (0, { D.pub with files := setA (nm s) { e0.file with blocks := e0.file.blocks ++ [bl] } D.pub.files, c := { D.pub.c with calls := D.pub.c.calls + 1, appends := D.pub.c.appends + 1, used := D.pub.c.used + 1, most := max D.pub.c.most (D.pub.c.used + 1) } }) := by
              unfold appendA
              rw [if_pos hn, hfp, hf]
              simp only [Option.map_some, hs, Bool.false_eq_true, if_false]
              rw [if_neg hl', if_neg hu']
            have hB := hS.size
            simp only [DiskC.pub] at hB
            obtain ⟨a, rfl, ha, hout, hsrc⟩ := hh.at_ (by have := hh.len; omega)
            have hnB : n = D.B := hh.len.symm.trans hl
            subst hnB
            have hap : a.block ≠ p := fun e => hout (by simp [DiskC.foot, e])
            have ham : a.block ≠ mt := fun e => hout (by simp [DiskC.foot, e])
            have hG : ∀ b ∈ p :: mt :: e0.lay.foot, b ∈ D.foot p mf mt := fun b hb => by
              rcases List.mem_cons.1 hb with rfl | hb
              · simp [DiskC.foot]
              · rcases List.mem_cons.1 hb with rfl | hb
                · simp [DiskC.foot]
                · exact foot_ent hf b hb
            have hF : ∀ b ∈ p :: mt :: e0.lay.foot, lo ≤ b := fun b hb => R.base b (hG b hb)
            have hS2 := small_number hS hcc
            have hadd : ∀ j, (a.add j).block = a.block := fun j => by unfold Addr.add; split <;> rfl
            have hsr2 : ∀ w2, Touch [p, mt] w w2 → ∀ j v, (Lib.byteCells bl)[j]? = some v → w2.cell? (a.add j) = some v := fun w2 t j v h => by
              rw [t.cell (p := a.add j) (by rw [hadd]; exact ha) (by rw [hadd]; simp [hap, ham])]
              exact hsrc j v h
            by_cases k1 : k = 1
            · subst k1
              have hc := put_gen V R s ho hn hf hs (c := c) (a := a) (by omega) hT hS.calls.1 hS.calls.2 (v := errV E 1) (Post := fun w2 w3 => Touch [] w2 w3) fun w2 bf bb bd V2 R2 _ _ _ _ => (carry_fault V2 x y _).mono fun e w3 ⟨h1, h2⟩ => ⟨h1, h2, h2.mono (by simp)⟩
              have h := Append_err2 (v := 9) (Post2 := fun w' => Did3 w w' lo p mf mt D D.pub.faulted) hc fun w1 ⟨⟨w2, _, R2, t2⟩, t⟩ => by
                have R1 : Rep w1 lo p mf mt D.numbered := R2.touch t2 (by simp)
                refine (answer_fault (V.touch t hF) R1 hfl.1 hfl.2).mono fun e w' ⟨h1, h2, h3⟩ => ⟨h1, _, h2, rfl, .inr ⟨rfl, rfl⟩, ?_, fun b hb => .inl hb⟩
                exact (t.mono hG).trans (h3.mono (G := D.foot p mf mt) (by simp [DiskC.foot])) (fun b hb => .inl hb)
              exact h.mono fun e w' ⟨h1, h2⟩ => ⟨9, _, h1, h2, OutX.fault (by rw [hr])⟩
            · by_cases k2 : k = 2
              · subst k2
                by_cases hy : 0 < y
                · have hc := put_gen V R s ho hn hf hs (c := c) (a := a) (by omega) hT hS.calls.1 hS.calls.2 (v := errV E 2) (Post := fun w2 w3 => ∃ L, Rep w3 lo p mf mt { D.numbered.off with ents := setE (nm s) { e0.file with blocks := e0.file.blocks ++ [cutB y.toNat bl] } L D.ents, c := { D.numbered.c with used := D.c.used + 1, most := max D.c.most (D.c.used + 1) } } ∧ ∀ b ∈ L.foot, b ∈ e0.lay.foot ∨ w2.heap.size ≤ b) fun w2 bf bb bd V2 R2 t2 hbf hbb hbd => by
                    rw [← hl] at hbb
                    exact carry_put_cut V2 R2 bf bb bd hy hf hS2 a c hl (by rw [hl]; exact hh.cap) (hsr2 w2 t2) (by have := t2.size; omega) hap hbf hbb hbd
                  have h := Append_err2 (v := 10) (Post2 := fun w' => Did3 w w' lo p mf mt D { D.pub with on := false, files := setA (nm s) { e0.file with blocks := e0.file.blocks ++ [cutB y.toNat bl] } D.pub.files, c := { D.pub.c with calls := D.pub.c.calls + 1, used := D.pub.c.used + 1, most := max D.pub.c.most (D.pub.c.used + 1) } }) hc fun w1 ⟨⟨w2, t2, _, L, R3, hL⟩, t⟩ => by
                    refine (answer_err (V.touch t hF).sents 2 (by omega) (by omega) (by omega)).mono fun e w' ⟨h1, h2⟩ => ?_
                    subst h2
                    refine ⟨h1, _, R3, ?_, .inr ⟨rfl, rfl⟩, t.mono hG, foot_set hf rfl fun b hb => ?_⟩
                    · simp only [DiskC.pub, DiskC.numbered, set_pub]
                    · rcases hL b hb with h | h
                      · exact .inl h
                      · right; have := t2.size; omega
                  exact h.mono fun e w' ⟨h1, h2⟩ => ⟨10, _, h1, h2, by
                    have e9 : cutX s bl y D.pub = { D.pub with on := false, files := setA (nm s) { e0.file with blocks := e0.file.blocks ++ [cutB y.toNat bl] } D.pub.files, c := { D.pub.c with calls := D.pub.c.calls + 1, used := D.pub.c.used + 1, most := max D.pub.c.most (D.pub.c.used + 1) } } := by
                      unfold cutX
                      rw [hfp, hf]
                      rfl
                    rw [← e9]
                    exact OutX.part (by rw [hr]) hy⟩
                · have hc := put_gen V R s ho hn hf hs (c := c) (a := a) (by omega) hT hS.calls.1 hS.calls.2 (v := errV E 2) (Post := fun w2 w3 => Rep w3 lo p mf mt D.numbered.off) fun w2 bf bb bd V2 R2 _ _ _ _ =>
                    (carry_cut0 V2 R2 x y (by omega) _).mono fun e w3 ⟨h1, h2, h3⟩ => ⟨h1, h2, h3.mono (by simp)⟩
                  have h := Append_err2 (v := 10) (Post2 := fun w' => Did3 w w' lo p mf mt D D.pub.shut) hc fun w1 ⟨⟨w2, _, _, R3⟩, t⟩ => by
                    refine (answer_err (V.touch t hF).sents 2 (by omega) (by omega) (by omega)).mono fun e w' ⟨h1, h2⟩ => ?_
                    subst h2
                    exact ⟨h1, _, R3, rfl, .inr ⟨rfl, rfl⟩, t.mono hG, fun b hb => .inl hb⟩
                  exact h.mono fun e w' ⟨h1, h2⟩ => ⟨10, _, h1, h2, OutX.shut (by rw [hr]) hy⟩
              · have h := Append_ok2 V R s ho hn hf hs hl (by rw [hl]; exact hh.cap) hsrc ha hap ham (by omega) hT (by simp [k1]) (by simp [k2]) hS hcc
                refine h.mono fun e w1 ⟨h1, ⟨L, hR, hL⟩, ht⟩ => ⟨0, (appendA s bl D.pub).2, h1, ⟨_, hR, by rw [hr]; simp only [DiskC.pub, DiskC.numbered, set_pub, hs], .inr ⟨rfl, rfl⟩, ht.mono hG, foot_set hf rfl hL⟩, OutX.ok (by rw [hr]) k1 k2⟩
        · have hl' : bl.length ≠ D.pub.B := hl
          exact err 8 16 (by omega) (by omega) (by omega) rfl (by
            unfold appendA
            rw [if_pos hn, hfp, hf]
            simp only [Option.map_some, hs, Bool.false_eq_true, if_false]
            rw [if_pos hl']) (put_no V R s ho hn hf 8 (.inr (.inl ⟨hs, fun h => hl (hh.len.trans h), rfl⟩)))
  · exact err 3 11 (by omega) (by omega) (by omega) rfl (by unfold appendA; rw [if_neg hn]) (put_err s 3 _ (fun o1 o2 => find_bad ((V.alloc o1).alloc o2).sents ((R.alloc o1).alloc o2) s ho (by simpa using hn)) rfl)
end

end Go.Proofs.YtclplbnildnifaaGreatDoor
namespace Go.Proofs.YtclplbnildnifaaGreatDoor
open Go.RowKit Go.Deep

section
variable {w w' : World} {E : Nat → Addr} {lo p mf mt : Nat} {D : DiskC}

theorem FileAt.slice {B : Nat} {L : Lay} {f : FileA} (h : FileAt w B L f) : ∃ a c, L.sv = .slice a f.blocks.length c := by
  rcases h.own.2 with ⟨h1, h2⟩ | ⟨g, cap, cur, h1, _⟩
  · exact ⟨none, 0, by rw [h1, h2]⟩
  · exact ⟨_, cap, h1⟩

/-! ### Length -/
set_option maxHeartbeats 400000 in
theorem Length_err (V : Env w lo E) (s : ByteArray) (i : Nat) (hi : i < 11)
    (hf : Calls Tryz.prog 150 #[ptr p, .string s] w fun e w' => e = .returned (.tuple #[.pointer none, errV E i]) ∧ ∃ n, w' = w.drewN n) :
    Calls Tryz.prog 87 #[ptr p, .string s] w fun e w' => e = .returned (.tuple #[.int .i64 0, .bool false, .int .i64 (code i)]) ∧ Touch [] w w' := by
  have H := hid hf
  clear hf
  go_enter Tryz.func87, Tryz.ntmps87
  go_wp2_with (first | (go_at_call 150; refine H.out.mono ?_; rintro e w1 ⟨rfl, hq⟩; have HT := hid (tell_err (Quiet.env hq V).sents i hi); have HQ := hid (Quiet.touch hq []); clear hq) | (go_at_call 39; refine HT.out.mono ?_; rintro e w2 ⟨rfl, rfl⟩))
  go_ret3
  exact ⟨rfl, HQ.out⟩

set_option maxHeartbeats 400000 in
theorem Length_ok (R : Rep w lo p mf mt D) (s : ByteArray) (ho : D.on = true) (hn : nameB s = true) {e0 : Ent} (hf : findE D.ents (nm s) = some e0) :
    Calls Tryz.prog 87 #[ptr p, .string s] w fun e w' => e = .returned (.tuple #[.int .i64 e0.file.blocks.length, .bool e0.file.shut, .int .i64 0]) ∧ Touch [] w w' := by
  have H := hid (find_some R s ho hn hf)
  have hat := R.each e0 (findE_mem hf).1
  obtain ⟨ga, gc, hsv⟩ := hat.slice
  have c0 := cell_row hat.row 0
  have c1 := cell_row hat.row 1
  rw [hsv] at c0 c1
  simp at c0 c1
  clear hf hat hsv R
  cases hs : e0.file.shut
  all_goals
    rw [hs] at c0
    simp at c0
    go_enter Tryz.func87, Tryz.ntmps87
    go_wp2_with (go_at_call 150; refine H.out.mono ?_; rintro e w1 ⟨rfl, hq⟩; have d0 := (Quiet.cell hq _).trans c0; have d1 := (Quiet.cell hq _).trans c1; have HQ := hid (Quiet.touch hq []); clear hq)
    go_quiet (fail)
    go_wp2
    go_ret3
    exact ⟨rfl, HQ.out.drewN _⟩

def lengthA (s : ByteArray) (A : PubA) : Int × Bool × Int :=
  if nameB s then
    match findA A.files (nm s) with
    | none => (0, false, 12)
    | some f => (f.blocks.length, f.shut, 0)
  else (0, false, 11)

theorem Length_any (V : Env w lo E) (R : Rep w lo p mf mt D) (ho : D.on = true) (s : ByteArray) :
    Calls Tryz.prog 87 #[ptr p, .string s] w fun e w' => e = .returned (.tuple #[.int .i64 (lengthA s D.pub).1, .bool (lengthA s D.pub).2.1, .int .i64 (lengthA s D.pub).2.2]) ∧ Touch [] w w' := by
  unfold lengthA
  have hfp : findA D.pub.files (nm s) = (findE D.ents (nm s)).map Ent.file := find_pub _ _
  by_cases hn : nameB s = true
  · rw [if_pos hn, hfp]
    cases hf : findE D.ents (nm s) with
    | none => exact Length_err V s 4 (by omega) (find_none V.sents R s ho hn hf)
    | some e0 => exact Length_ok R s ho hn hf
  · rw [if_neg hn]
    exact Length_err V s 3 (by omega) (find_bad V.sents R s ho (by simpa using hn))

/-! ### has -/
set_option maxHeartbeats 400000 in
theorem has_any {B : Nat} {L : Lay} {f : FileA} (hat : FileAt w B L f) (i : Int) :
    Calls Tryz.prog 86 #[ptr L.fb, .int .i64 i] w fun e w' => e = .returned (.bool (decide (0 ≤ i ∧ i < f.blocks.length))) ∧ w' = w := by
  obtain ⟨ga, gc, hsv⟩ := hat.slice
  have c1 := cell_row hat.row 1
  rw [hsv] at c1
  simp at c1
  clear hat hsv
  by_cases h0 : 0 ≤ i
  · by_cases h1 : i < (f.blocks.length : Int)
    · have hd : decide (0 ≤ i ∧ i < (f.blocks.length : Int)) = true := by simp [h0, h1]
      rw [hd]
      clear hd
      go_enter Tryz.func86, Tryz.ntmps86
      go_wp2
      go_ret
      exact ⟨rfl, rfl⟩
    · have hd : decide (0 ≤ i ∧ i < (f.blocks.length : Int)) = false := by simp; omega
      rw [hd]
      clear hd
      go_enter Tryz.func86, Tryz.ntmps86
      go_wp2
      go_ret
      exact ⟨rfl, rfl⟩
  · have hd : decide (0 ≤ i ∧ i < (f.blocks.length : Int)) = false := by simp; omega
    rw [hd]
    clear hd
    go_enter Tryz.func86, Tryz.ntmps86
    go_wp2
    go_ret
    exact ⟨rfl, rfl⟩
end
end Go.Proofs.YtclplbnildnifaaGreatDoor
namespace Go.Proofs.YtclplbnildnifaaGreatDoor
open Go.RowKit Go.Deep

section
variable {w w' : World} {E : Nat → Addr} {lo p mf mt : Nat} {D : DiskC}

set_option maxHeartbeats 400000 in
theorem carry_fetch (R : Rep w lo p mf mt D) {a k b : Int} (hk1 : (k == 1) = false) (hk2 : (k == 2) = false) :
    Calls Tryz.prog 192 #[ptr p, .agg #[.int .i64 a, .int .i64 k, .int .i64 b], .func (.func 234) #[] #[]] w fun e w' => e = .returned .nilIface ∧ Touch [] w w' := by
  have k0 := R.cell 0
  simp only [dRow] at k0
  have hp := lt_of_block R.row
  go_enter Tryz.func192, Tryz.ntmps192
  go_wp2_with go_in
  go_end0
  go_wp2
  go_ret
  exact ⟨rfl, (Touch.refl [] w).alloc _⟩

set_option maxHeartbeats 400000 in
theorem fetch_err (s : ByteArray) (i : Int) (j : Nat)
    (hf : Calls Tryz.prog 150 #[ptr p, .string s] w fun e w' => e = .returned (.tuple #[.pointer none, errV E j]) ∧ ∃ n, w' = w.drewN n) :
    Calls Tryz.prog 206 #[ptr p, .string s, .int .i64 i] w fun e w' => e = .returned (.tuple #[.slice none 0 0, errV E j]) ∧ Touch [] w w' := by
  have H := hid hf
  clear hf
  go_enter Tryz.func206, Tryz.ntmps206
  go_wp2_with (go_at_call 150; refine H.out.mono ?_; rintro e w1 ⟨rfl, hq⟩; have HQ := hid (Quiet.touch hq []); clear hq)
  go_ret2
  exact ⟨rfl, HQ.out⟩

set_option maxHeartbeats 400000 in
theorem fetch_open (V : Env w lo E) (R : Rep w lo p mf mt D) (s : ByteArray) (i : Int) (ho : D.on = true) (hn : nameB s = true) {e0 : Ent} (hf : findE D.ents (nm s) = some e0) (hs : e0.file.shut = false) :
    Calls Tryz.prog 206 #[ptr p, .string s, .int .i64 i] w fun e w' => e = .returned (.tuple #[.slice none 0 0, errV E 7]) ∧ Touch [] w w' := by
  have H := hid (find_some R s ho hn hf)
  have c0 := cell_row (R.each e0 (findE_mem hf).1).row 0
  simp [hs] at c0
  have c7 := V.sents.var7
  clear hf hs
  go_enter Tryz.func206, Tryz.ntmps206
  go_wp2_with (go_at_call 150; refine H.out.mono ?_; rintro e w1 ⟨rfl, hq⟩; have d0 := (Quiet.cell hq _).trans c0; have d7 := (Quiet.cell hq _).trans c7; have HQ := hid (Quiet.touch hq []); clear hq c0 c7)
  go_quiet (fail)
  go_wp2
  go_ret2
  exact ⟨rfl, HQ.out.drewN _⟩

set_option maxHeartbeats 400000 in
theorem fetch_out (V : Env w lo E) (R : Rep w lo p mf mt D) (s : ByteArray) (i : Int) (ho : D.on = true) (hn : nameB s = true) {e0 : Ent} (hf : findE D.ents (nm s) = some e0) (hs : e0.file.shut = true) (hi : ¬ (0 ≤ i ∧ i < e0.file.blocks.length)) :
    Calls Tryz.prog 206 #[ptr p, .string s, .int .i64 i] w fun e w' => e = .returned (.tuple #[.slice none 0 0, errV E 8]) ∧ Touch [] w w' := by
  have H := hid (find_some R s ho hn hf)
  have hat := R.each e0 (findE_mem hf).1
  have c0 := cell_row hat.row 0
  simp [hs] at c0
  have c8 := V.sents.var8
  have hd : decide (0 ≤ i ∧ i < (e0.file.blocks.length : Int)) = false := by simpa using hi
  have HA := hid hat
  clear hf hs hi hat
  go_enter Tryz.func206, Tryz.ntmps206
  go_wp2_with (first
    | (go_at_call 150; refine H.out.mono ?_; rintro e w1 ⟨rfl, hq⟩; have d0 := (Quiet.cell hq _).trans c0; have d8 := (Quiet.cell hq _).trans c8; have HQ := hid hq; clear hq c0 c8)
    | (go_at_call 86; refine (has_any (HA.out.kept fun b _ => by rw [Quiet.heap HQ.out]) i).mono ?_; rintro e w2 ⟨rfl, rfl⟩))
  go_quiet (fail)
  go_wp2
  go_ret2
  exact ⟨rfl, (Quiet.touch HQ.out []).drewN _⟩

/-- where block i of a file lies. -/
theorem FileAt.at {B : Nat} {L : Lay} {f : FileA} (h : FileAt w B L f) {i : Nat} (hi : i < f.blocks.length) :
    ∃ g cap b, L.sv = .slice (some ⟨g, 0, none⟩) f.blocks.length cap ∧ f.blocks.length ≤ cap ∧ w.cell? ⟨g, i, none⟩ = some (sliceV b B) ∧ f.blocks[i].length = B ∧ BytesAt w b f.blocks[i] ∧ L.bs[i]? = some b ∧ L.sv.ownBlock = some g := by
  have hlen := h.len
  have hb : L.bs[i]? = some (L.bs[i]'(by omega)) := List.getElem?_eq_getElem (by omega)
  have hbl := h.bytes i _ f.blocks[i] hb (List.getElem?_eq_getElem hi)
  rcases h.own.2 with ⟨_, h2⟩ | ⟨g, cap, cur, h1, _, hg, hc, _⟩
  · omega
  · refine ⟨g, cap, _, h1, hc, ?_, hbl.1, hbl.2, hb, by rw [h1]; rfl⟩
    have hc2 := h.own.cells (g := g) (by rw [h1]; rfl) i (sliceV (L.bs[i]'(by omega)) B) (by simp [hb])
    have hadd : (⟨g, 0, none⟩ : Addr).add i = ⟨g, i, none⟩ := by unfold Addr.add; split <;> simp_all
    rw [hadd] at hc2
    exact hc2

theorem bytes_src {b : Nat} {bl : List UInt8} (h : BytesAt w b bl) : ∀ j v, (Lib.byteCells bl)[j]? = some v → w.cell? ((⟨b, 0, none⟩ : Addr).add j) = some v := by
  intro j v hv
  have hadd : (⟨b, 0, none⟩ : Addr).add j = ⟨b, j, none⟩ := by unfold Addr.add; split <;> simp_all
  rw [hadd, cell_row h j]
  simpa using hv

theorem copy_at {b B : Nat} {bl : List UInt8} (h : BytesAt w b bl) (hl : bl.length = B) (h1 : 64 ≤ B) (h2 : B ≤ 65536) :
    Calls Tryz.prog 191 #[sliceV b B, .int .i64 B] w fun e w' => e = .returned (sliceV w.heap.size B) ∧ BytesAt w' w.heap.size bl ∧ Touch [] w w' ∧ w'.heap.size = w.heap.size + 1 := by
  have h3 := copyBlock_any bl ⟨b, 0, none⟩ bl.length (B : Int) w (by omega) (Nat.le_refl _) (by omega) (by omega) (bytes_src h) (lt_of_block h)
  rw [cutB_whole (by omega), hl] at h3
  exact h3

set_option maxRecDepth 100000 in
set_option maxHeartbeats 400000 in
theorem fetch_ok (R : Rep w lo p mf mt D) (s : ByteArray) (i : Int) (ho : D.on = true) (hn : nameB s = true) {e0 : Ent} (hf : findE D.ents (nm s) = some e0) (hs : e0.file.shut = true) (hi0 : 0 ≤ i) (hi1 : i < e0.file.blocks.length) {a k b : Int} (hT : TroubleIs D.T D.c.calls a k b) (hk1 : (k == 1) = false) (hk2 : (k == 2) = false) (hS : Small D.pub) :
    Calls Tryz.prog 206 #[ptr p, .string s, .int .i64 i] w fun e w' => ∃ g, e = .returned (.tuple #[sliceV g D.B, .nilIface]) ∧ w.heap.size ≤ g ∧ BytesAt w' g (e0.file.blocks[i.toNat]'(by omega)) ∧ Rep w' lo p mf mt D.numbered ∧ Touch [p, mt] w w' := by
  have H := hid (find_some R s ho hn hf)
  have hm := (findE_mem hf).1
  have hat := R.each e0 hm
  have c0 := cell_row hat.row 0
  simp [hs] at c0
  have hd : decide (0 ≤ i ∧ i < (e0.file.blocks.length : Int)) = true := by simp; omega
  have h0 := hS.calls.1
  have h1 := hS.calls.2
  have hB := hS.size
  simp only [DiskC.pub] at h0 h1 hB
  obtain ⟨hB1, hB2⟩ := hB
  have HA := hid hat
  have HR := hid R
  clear hf hs hat R hS
  go_enter Tryz.func206, Tryz.ntmps206
  go_wp2_with (first
    | (go_at_call 150; refine H.out.mono ?_; rintro e w1 ⟨rfl, hq⟩; have d0 := (Quiet.cell hq _).trans c0; have HQ := hid hq; clear hq c0)
    | (go_at_call 86; refine (has_any (HA.out.kept fun b _ => by rw [Quiet.heap HQ.out]) i).mono ?_; rintro e w2 ⟨rfl, rfl⟩)
    | (go_at_call 193; refine (number_any (Quiet.rep HQ.out HR.out) hT h0 h1).mono ?_; rintro e w3 ⟨rfl, hR3, ht3⟩)
    | (go_at_call 192; refine (carry_fetch hR3 hk1 hk2).mono ?_; rintro e w4 ⟨rfl, ht4⟩; have hR4 := hR3.touch ht4 (by simp); obtain ⟨g, cap, bb, hsv, hcap, hcg, hlen, hby, _, _⟩ := (hR4.each e0 hm).at (i := i.toNat) (by omega); have r1 := cell_row (hR4.each e0 hm).row 1; have r0 := hR4.cell 0; rw [hsv] at r1; simp only [dRow] at r0; have HC := hid (copy_at (w := w4.drew) hby hlen hB1 hB2); have HR4 := hid hR4; clear hby hlen hR4 hsv))
  go_region_held3 (fun W => W.cell? ⟨e0.lay.fb, 1, none⟩ = some (.slice (some ⟨g, 0, none⟩) e0.file.blocks.length cap) ∧ W.cell? ⟨g, i.toNat, none⟩ = some (sliceV bb D.B) ∧ W.cell? ⟨p, 0, none⟩ = some (.int .i64 D.B)) (go_keep)
    (first | (go_at_call 191; refine HC.out.mono ?_; rintro e w5 ⟨rfl, hb5, ht5, hz5⟩; have HB5 := hid hb5; have HT5 := hid ht5; have v1 := (ht5.cell (p := ⟨e0.lay.fb, 1, none⟩) (World.block_lt_of_cell? w4 _ r1) (by simp)).trans r1; have v2 := (ht5.cell (p := ⟨g, i.toNat, none⟩) (World.block_lt_of_cell? w4 _ hcg) (by simp)).trans hcg; have v3 := (ht5.cell (p := ⟨p, 0, none⟩) (World.block_lt_of_cell? w4 _ r0) (by simp)).trans r0; clear hb5 ht5 hz5))
  go_wp2
  go_ret2
  have t4 : Touch [p, mt] w w4 := ((Quiet.touch HQ.out [p, mt]).trans ht3 (by simp)).trans ht4 (by simp)
  have t5 : Touch [] w4 w5 := (Touch.refl [] w4).drew.trans HT5.out (by simp)
  exact ⟨w4.heap.size, rfl, t4.size, HB5.out, HR4.out.touch t5 (by simp), t4.trans t5 (by simp)⟩

/-! ### Read -/
set_option maxHeartbeats 400000 in
theorem Read_err {s : ByteArray} {i : Int} {j : Nat} (V : Env w lo E) (hj : j < 11) (h1 : j ≠ 1) (h9 : j ≠ 9) (h : Calls Tryz.prog 206 #[ptr p, .string s, .int .i64 i] w fun e w' => e = .returned (.tuple #[.slice none 0 0, errV E j]) ∧ Touch [] w w') :
    Calls Tryz.prog 151 #[ptr p, .string s, .int .i64 i] w fun e w' => e = .returned (.tuple #[.slice none 0 0, .int .i64 (code j)]) ∧ Touch [] w w' := by
  have H := hid h
  clear h
  go_enter Tryz.func151, Tryz.ntmps151
  go_wp2_with (first | (go_at_call 206; refine H.out.mono ?_; rintro e w1 ⟨rfl, ht⟩; have HA := hid (answer_err (p := p) (V.touch ht (by simp)).sents j hj h1 h9)) | (go_at_call 141; refine HA.out.mono ?_; rintro e w2 ⟨rfl, rfl⟩))
  go_ret2
  exact ⟨rfl, ht⟩


def readA (s : ByteArray) (i : Int) (A : PubA) : Option (List UInt8) × Int × PubA :=
  if nameB s then
    match findA A.files (nm s) with
    | none => (none, 12, A)
    | some f => if f.shut then
        if 0 ≤ i ∧ i < f.blocks.length then (f.blocks[i.toNat]?, 0, { A with c := { A.c with calls := A.c.calls + 1, reads := A.c.reads + 1 } }) else (none, 16, A)
      else (none, 15, A)
  else (none, 11, A)

/-- what Read hands back: nothing, or new memory that holds the block. -/
def Told1 (w' : World) (n B : Nat) (o : Option (List UInt8)) (v : Value) : Prop :=
  match o with
  | none => v = .slice none 0 0
  | some bl => ∃ g, v = sliceV g B ∧ n ≤ g ∧ BytesAt w' g bl ∧ bl.length = B


end
end Go.Proofs.YtclplbnildnifaaGreatDoor
/-
  The landed disk, told exactly: Read under what befalls it; every call of a disk that is off.
-/
namespace Go.Proofs.YtclplbnildnifaaGreatDoor
open Go.RowKit Go.Deep

section
variable {w w' : World} {E : Nat → Addr} {lo p mf mt : Nat} {D : DiskC}

set_option maxHeartbeats 400000 in
theorem carry_fetch_cut (V : Env w lo E) (R : Rep w lo p mf mt D) (a b : Int) :
    Calls Tryz.prog 192 #[ptr p, .agg #[.int .i64 a, .int .i64 2, .int .i64 b], .func (.func 234) #[] #[]] w fun e w' => e = .returned (errV E 2) ∧ Rep w' lo p mf mt D.off ∧ Touch [p] w w' := by
  by_cases hb : 0 < b
  · have hlop : lo ≤ p := R.base p (by simp [DiskC.foot])
    have VO := V.touch R.off.2 (by simp; exact hlop)
    have c2 : ∀ o : Obj, ((w.setCell ⟨p, 2, none⟩ (.bool false)).alloc o).cell? ⟨1, 0, none⟩ = some (errV E 2) := fun o => (VO.alloc o).sents.var2
    have k2 := R.cell 2
    simp only [dRow] at k2
    have f2 := R.unfrozen 2
    have HR := hid R.off
    have hp := lt_of_block R.row
    clear V VO
    go_enter Tryz.func192, Tryz.ntmps192
    go_wp2_with go_in
    go_end0
    go_wp2
    go_ret
    exact ⟨rfl, HR.out.1.alloc _, HR.out.2.alloc _⟩
  · exact carry_cut0 V R a b (by omega) _

set_option maxRecDepth 100000 in
set_option maxHeartbeats 400000 in
theorem fetch_no (V : Env w lo E) (R : Rep w lo p mf mt D) (s : ByteArray) (i : Int) (ho : D.on = true) (hn : nameB s = true) {e0 : Ent} (hf : findE D.ents (nm s) = some e0) (hs : e0.file.shut = true) (hi0 : 0 ≤ i) (hi1 : i < e0.file.blocks.length) {a k b : Int} (hT : TroubleIs D.T D.c.calls a k b) (hS : Small D.pub) {j : Nat} {Post : World → World → Prop}
    (HC : ∀ w3, Env w3 lo E → Rep w3 lo p mf mt D.numbered → Calls Tryz.prog 192 #[ptr p, .agg #[.int .i64 a, .int .i64 k, .int .i64 b], .func (.func 234) #[] #[]] w3 fun e w4 => e = .returned (errV E j) ∧ Post w3 w4 ∧ Touch [p] w3 w4) :
    Calls Tryz.prog 206 #[ptr p, .string s, .int .i64 i] w fun e w' => e = .returned (.tuple #[.slice none 0 0, errV E j]) ∧ (∃ w3, Rep w3 lo p mf mt D.numbered ∧ Post w3 w') ∧ Touch [p, mt] w w' := by
  have H := hid (find_some R s ho hn hf)
  have hm := (findE_mem hf).1
  have hat := R.each e0 hm
  have c0 := cell_row hat.row 0
  simp [hs] at c0
  have hd : decide (0 ≤ i ∧ i < (e0.file.blocks.length : Int)) = true := by simp; omega
  have h0 := hS.calls.1
  have h1 := hS.calls.2
  simp only [DiskC.pub] at h0 h1
  have HA := hid hat
  have HR := hid R
  have HV := hid V
  have HCC := hid HC
  have hlop : Hid (lo ≤ p ∧ lo ≤ mt) := hid ⟨R.base p (by simp [DiskC.foot]), R.base mt (by simp [DiskC.foot])⟩
  clear hf hs hat R hS V HC
  go_enter Tryz.func206, Tryz.ntmps206
  go_wp2_with (first
    | (go_at_call 150; refine H.out.mono ?_; rintro e w1 ⟨rfl, hq⟩; have d0 := (Quiet.cell hq _).trans c0; have HQ := hid hq; clear hq c0)
    | (go_at_call 86; refine (has_any (HA.out.kept fun b _ => by rw [Quiet.heap HQ.out]) i).mono ?_; rintro e w2 ⟨rfl, rfl⟩)
    | (go_at_call 193; refine (number_any (Quiet.rep HQ.out HR.out) hT h0 h1).mono ?_; rintro e w3 ⟨rfl, hR3, ht3⟩)
    | (go_at_call 192; refine (HCC.out w3 ((Quiet.env HQ.out HV.out).touch ht3 (by simp; exact hlop.out)) hR3).mono ?_; rintro e w4 ⟨rfl, hp4, ht4⟩))
  go_ret2
  exact ⟨rfl, ⟨w3, hR3, hp4⟩, ((Quiet.touch HQ.out [p, mt]).trans ht3 (by simp)).trans ht4 (by simp)⟩

set_option maxHeartbeats 400000 in
theorem Read_err2 {s : ByteArray} {i : Int} {j : Nat} {v : Int} {Post Post2 : World → Prop} (h : Calls Tryz.prog 206 #[ptr p, .string s, .int .i64 i] w fun e w' => e = .returned (.tuple #[.slice none 0 0, errV E j]) ∧ Post w')
    (ha : ∀ w1, Post w1 → Calls Tryz.prog 141 #[ptr p, errV E j] w1 fun e w' => e = .returned (.int .i64 v) ∧ Post2 w') :
    Calls Tryz.prog 151 #[ptr p, .string s, .int .i64 i] w fun e w' => e = .returned (.tuple #[.slice none 0 0, .int .i64 v]) ∧ Post2 w' := by
  have H := hid h
  have HA := hid ha
  clear h ha
  go_enter Tryz.func151, Tryz.ntmps151
  go_wp2_with (first | (go_at_call 206; refine H.out.mono ?_; rintro e w1 ⟨rfl, ht⟩; have HT := hid ht; clear ht) | (go_at_call 141; refine (HA.out _ HT.out).mono ?_; rintro e w2 ⟨rfl, hp⟩))
  go_ret2
  exact ⟨rfl, hp⟩

set_option maxRecDepth 100000 in
set_option maxHeartbeats 400000 in
theorem Read_ok2 (V : Env w lo E) (R : Rep w lo p mf mt D) (s : ByteArray) (i : Int) (ho : D.on = true) (hn : nameB s = true) {e0 : Ent} (hf : findE D.ents (nm s) = some e0) (hs : e0.file.shut = true) (hi0 : 0 ≤ i) (hi1 : i < e0.file.blocks.length) {a k b : Int} (hT : TroubleIs D.T D.c.calls a k b) (hk1 : (k == 1) = false) (hk2 : (k == 2) = false) (hS : Small D.pub) :
    Calls Tryz.prog 151 #[ptr p, .string s, .int .i64 i] w fun e w' => ∃ g, e = .returned (.tuple #[sliceV g D.B, .int .i64 0]) ∧ w.heap.size ≤ g ∧ BytesAt w' g (e0.file.blocks[i.toNat]'(by omega)) ∧ Rep w' lo p mf mt { D.numbered with c := { D.numbered.c with reads := D.c.reads + 1 } } ∧ Touch [p, mt] w w' := by
  have H := hid (fetch_ok R s i ho hn hf hs hi0 hi1 hT hk1 hk2 hS)
  have hF : ∀ b ∈ [p, mt], lo ≤ b := fun b hb => R.base b (by simp at hb; rcases hb with rfl | rfl <;> simp [DiskC.foot])
  have hr := hS.reads
  simp only [DiskC.pub] at hr
  obtain ⟨hr1, hr2⟩ := hr
  have hp := lt_of_block R.row
  clear hf hs R hS hT
  go_enter Tryz.func151, Tryz.ntmps151
  go_wp2_with (first
    | (go_at_call 206; refine H.out.mono ?_; rintro e w1 ⟨g, rfl, hg, hb1, hR1, ht1⟩; have k6 := hR1.cell 6; have f6 := hR1.unfrozen 6; simp only [dRow, DiskC.numbered] at k6; have HR1 := hid hR1; have HB1 := hid hb1; have HV1 := hid (V.touch ht1 hF); have HT1 := hid ht1; clear hR1 hb1 ht1)
    | (go_at_call 141; refine (answer_nil (E := E) (p := p) ?_).mono ?_; exact (HV1.out.touch (F := [p]) ((Touch.refl [p] w1).setCell (p := ⟨p, 6, none⟩) (by simp) _) (fun b hb => hF b (by simp at hb; simp [hb]))).sents; rintro e w2 ⟨rfl, rfl⟩))
  go_ret2
  have t1 : Touch [p] w1 (w1.setCell ⟨p, 6, none⟩ (.int .i64 (D.c.reads + 1))) := (Touch.refl [p] w1).setCell (by simp) _
  refine ⟨g, rfl, hg, ?_, HR1.out.setRow rfl rfl rfl t1 ?_, HT1.out.trans t1 (by simp)⟩
  · show (w1.setCell _ _).heap[g]? = _
    rw [Below.heap_setCell _ _ _ _ (by show g ≠ p; omega)]
    exact HB1.out
  · rw [heap_setCell_row HR1.out.row 6]
    rfl

/-- what a Read answers under a trouble. -/
def readX (s : ByteArray) (i k : Int) (A : PubA) : Option (List UInt8) × Int × PubA :=
  if (readA s i A).2.1 = 0 then (if k = 1 then (none, 9, A.faulted) else if k = 2 then (none, 10, A.shut) else readA s i A) else readA s i A

/-- as 'Did3', the disk's memory being where it was. -/
def DidIn3 (w w' : World) (lo p mf mt : Nat) (D : DiskC) (A' : PubA) : Prop :=
  ∃ D', Rep w' lo p mf mt D' ∧ D'.pub = A' ∧ ((D'.T = D.T ∧ D'.c.calls = D.c.calls) ∨ (D'.T = D.T.del (.int .i64 D.c.calls) ∧ D'.c.calls = D.c.calls + 1)) ∧ Touch (D.foot p mf mt) w w' ∧ D'.foot p mf mt = D.foot p mf mt

theorem Read_x (V : Env w lo E) (R : Rep w lo p mf mt D) (ho : D.on = true) (hS : Small D.pub) (hfl : 0 ≤ D.c.faults ∧ D.c.faults ≤ 1099511627776) {a k b : Int} (hT : TroubleIs D.T D.c.calls a k b) (s : ByteArray) (i : Int) :
    Calls Tryz.prog 151 #[ptr p, .string s, .int .i64 i] w fun e w' => ∃ v, e = .returned (.tuple #[v, .int .i64 (readX s i k D.pub).2.1]) ∧ Told1 w' w.heap.size D.B (readX s i k D.pub).1 v ∧ DidIn3 w w' lo p mf mt D (readX s i k D.pub).2.2 := by
  have hfp : findA D.pub.files (nm s) = (findE D.ents (nm s)).map Ent.file := find_pub _ _
  have err : ∀ (j : Nat) (r : Int), j < 11 → j ≠ 1 → j ≠ 9 → code j = r → r ≠ 0 → readA s i D.pub = (none, r, D.pub) → (Calls Tryz.prog 206 #[ptr p, .string s, .int .i64 i] w fun e w' => e = .returned (.tuple #[.slice none 0 0, errV E j]) ∧ Touch [] w w') →
      Calls Tryz.prog 151 #[ptr p, .string s, .int .i64 i] w fun e w' => ∃ v, e = .returned (.tuple #[v, .int .i64 (readX s i k D.pub).2.1]) ∧ Told1 w' w.heap.size D.B (readX s i k D.pub).1 v ∧ DidIn3 w w' lo p mf mt D (readX s i k D.pub).2.2 := fun j r hj h1 h9 hc h0 hr h => by
    have e9 : readX s i k D.pub = (none, r, D.pub) := by unfold readX; rw [hr, if_neg h0]
    rw [e9, ← hc]
    exact (Read_err V hj h1 h9 h).mono fun e w1 ⟨e1, ht⟩ => ⟨.slice none 0 0, e1, rfl, D, R.touch ht (by simp), rfl, .inl ⟨rfl, rfl⟩, ht.mono (by simp), rfl⟩
  by_cases hn : nameB s = true
  · cases hf : findE D.ents (nm s) with
    | none => exact err 4 12 (by omega) (by omega) (by omega) rfl (by decide) (by unfold readA; rw [if_pos hn, hfp, hf]; rfl) (fetch_err s i 4 (find_none V.sents R s ho hn hf))
    | some e0 =>
      cases hs : e0.file.shut with
      | false => exact err 7 15 (by omega) (by omega) (by omega) rfl (by decide) (by unfold readA; rw [if_pos hn, hfp, hf]; simp [hs]) (fetch_open V R s i ho hn hf hs)
      | true =>
        by_cases hi : 0 ≤ i ∧ i < e0.file.blocks.length
        · have hr : readA s i D.pub = (e0.file.blocks[i.toNat]?, 0, { D.pub with c := { D.pub.c with calls := D.pub.c.calls + 1, reads := D.pub.c.reads + 1 } }) := by
            unfold readA
            rw [if_pos hn, hfp, hf]
            simp only [Option.map_some, hs, if_true]
            rw [if_pos hi]
          have hG : ∀ b ∈ [p, mt], b ∈ D.foot p mf mt := fun b hb => by
            simp at hb
            rcases hb with rfl | rfl <;> simp [DiskC.foot]
          have hF : ∀ b ∈ [p, mt], lo ≤ b := fun b hb => R.base b (hG b hb)
          by_cases k1 : k = 1
          · subst k1
            have e9 : readX s i 1 D.pub = (none, 9, D.pub.faulted) := by unfold readX; rw [hr, if_pos rfl, if_pos rfl]
            rw [e9]
            have hc := fetch_no V R s i ho hn hf hs hi.1 hi.2 hT hS (j := 1) (Post := fun w3 w4 => Touch [] w3 w4) fun w3 V3 R3 => (carry_fault V3 a b _).mono fun e w4 ⟨h1, h2⟩ => ⟨h1, h2, h2.mono (by simp)⟩
            have h := Read_err2 (v := 9) (Post2 := fun w' => DidIn3 w w' lo p mf mt D D.pub.faulted) hc fun w1 ⟨⟨w3, R3, t3⟩, t⟩ => by
              have R1 : Rep w1 lo p mf mt D.numbered := R3.touch t3 (by simp)
              refine (answer_fault (V.touch t hF) R1 hfl.1 hfl.2).mono fun e w' ⟨h1, h2, h3⟩ => ⟨h1, _, h2, rfl, .inr ⟨rfl, rfl⟩, ?_, rfl⟩
              exact (t.mono hG).trans (h3.mono (G := D.foot p mf mt) (by simp [DiskC.foot])) (fun b hb => .inl hb)
            exact h.mono fun e w' ⟨h1, h2⟩ => ⟨_, h1, rfl, h2⟩
          · by_cases k2 : k = 2
            · subst k2
              have e9 : readX s i 2 D.pub = (none, 10, D.pub.shut) := by unfold readX; rw [hr, if_pos rfl, if_neg (by decide), if_pos rfl]
              rw [e9]
              have hc := fetch_no V R s i ho hn hf hs hi.1 hi.2 hT hS (j := 2) (Post := fun w3 w4 => Rep w4 lo p mf mt D.numbered.off) fun w3 V3 R3 => (carry_fetch_cut V3 R3 a b).mono fun e w4 ⟨h1, h2, h3⟩ => ⟨h1, h2, h3⟩
              have h := Read_err2 (v := 10) (Post2 := fun w' => DidIn3 w w' lo p mf mt D D.pub.shut) hc fun w1 ⟨⟨w3, _, R3⟩, t⟩ => by
                refine (answer_err (V.touch t hF).sents 2 (by omega) (by omega) (by omega)).mono fun e w' ⟨h1, h2⟩ => ?_
                subst h2
                exact ⟨h1, _, R3, rfl, .inr ⟨rfl, rfl⟩, t.mono hG, rfl⟩
              exact h.mono fun e w' ⟨h1, h2⟩ => ⟨_, h1, rfl, h2⟩
            · have e9 : readX s i k D.pub = readA s i D.pub := by unfold readX; rw [if_neg k1, if_neg k2]; split <;> rfl
              rw [e9, hr]
              refine (Read_ok2 V R s i ho hn hf hs hi.1 hi.2 hT (by simp [k1]) (by simp [k2]) hS).mono fun e w1 ⟨g, e1, hg, hb, hR, ht⟩ => ⟨sliceV g D.B, e1, ?_, _, hR, rfl, .inr ⟨rfl, rfl⟩, ht.mono hG, rfl⟩
              rw [List.getElem?_eq_getElem (by omega)]
              refine ⟨g, rfl, hg, hb, ?_⟩
              exact ((R.each e0 (findE_mem hf).1).at (i := i.toNat) (by omega)).choose_spec.choose_spec.choose_spec.2.2.2.1
        · exact err 8 16 (by omega) (by omega) (by omega) rfl (by decide) (by unfold readA; rw [if_pos hn, hfp, hf]; simp only [Option.map_some, hs, if_true]; rw [if_neg hi]) (fetch_out V R s i ho hn hf hs hi)
  · exact err 3 11 (by omega) (by omega) (by omega) rfl (by decide) (by unfold readA; rw [if_neg hn]) (fetch_err s i 3 (find_bad V.sents R s ho (by simpa using hn)))

/-! ### a disk that is off -/
theorem Create_off (V : Env w lo E) (R : Rep w lo p mf mt D) (ho : D.on = false) (s : ByteArray) :
    Calls Tryz.prog 78 #[ptr p, .string s] w fun e w' => e = .returned (.int .i64 10) ∧ Did3 w w' lo p mf mt D D.pub := by
  have h := Create_of (i := some 2) (create_off V R s ho) (v := 10) fun w1 ht => answer_err (V.touch ht (by simp)).sents 2 (by omega) (by omega) (by omega)
  exact h.mono fun e w1 ⟨h1, h2⟩ => ⟨h1, Did3.same R h2⟩
theorem Seal_off (V : Env w lo E) (R : Rep w lo p mf mt D) (ho : D.on = false) (s : ByteArray) :
    Calls Tryz.prog 83 #[ptr p, .string s] w fun e w' => e = .returned (.int .i64 10) ∧ Did3 w w' lo p mf mt D D.pub := by
  have h := Seal_of (i := some 2) (seal_err s 2 (find_off V.sents R s ho)) (v := 10) fun w1 ht => answer_err (V.touch ht (by simp)).sents 2 (by omega) (by omega) (by omega)
  exact h.mono fun e w1 ⟨h1, h2⟩ => ⟨h1, Did3.same R h2⟩
theorem Append_off (V : Env w lo E) (R : Rep w lo p mf mt D) (ho : D.on = false) (s : ByteArray) (sa : Option Addr) (n c : Nat) :
    Calls Tryz.prog 144 #[ptr p, .string s, .slice sa n c] w fun e w' => e = .returned (.int .i64 10) ∧ Did3 w w' lo p mf mt D D.pub := by
  have h2 := Append_err2 (v := 10) (Post2 := fun w' => Did3 w w' lo p mf mt D D.pub) (put_err s 2 (.slice sa n c) (fun o1 o2 => find_off ((V.alloc o1).alloc o2).sents ((R.alloc o1).alloc o2) s ho) rfl) fun w1 ht => (answer_err (V.touch ht (by simp)).sents 2 (by omega) (by omega) (by omega)).mono fun e w2 ⟨e1, e2⟩ => ⟨e1, by subst e2; exact Did3.same R ht⟩
  exact h2
theorem Read_off (V : Env w lo E) (R : Rep w lo p mf mt D) (ho : D.on = false) (s : ByteArray) (i : Int) :
    Calls Tryz.prog 151 #[ptr p, .string s, .int .i64 i] w fun e w' => ∃ v, e = .returned (.tuple #[v, .int .i64 10]) ∧ Told1 w' w.heap.size D.B none v ∧ DidIn3 w w' lo p mf mt D D.pub :=
  (Read_err V (j := 2) (by omega) (by omega) (by omega) (fetch_err s i 2 (find_off V.sents R s ho))).mono fun e w1 ⟨e1, ht⟩ => ⟨.slice none 0 0, e1, rfl, D, R.touch ht (by simp), rfl, .inl ⟨rfl, rfl⟩, ht.mono (by simp), rfl⟩
theorem Length_off (V : Env w lo E) (R : Rep w lo p mf mt D) (ho : D.on = false) (s : ByteArray) :
    Calls Tryz.prog 87 #[ptr p, .string s] w fun e w' => e = .returned (.tuple #[.int .i64 0, .bool false, .int .i64 10]) ∧ Touch [] w w' :=
  Length_err V s 2 (by omega) (find_off V.sents R s ho)
end

end Go.Proofs.YtclplbnildnifaaGreatDoor
namespace Go.Proofs.YtclplbnildnifaaGreatDoor
open Go.RowKit Go.Deep

section
variable {w w' : World} {E : Nat → Addr} {lo p mf mt : Nat} {D : DiskC}

set_option maxRecDepth 100000 in
set_option maxHeartbeats 400000 in
theorem checkSetup_ok {B : Int} {Bs : Int} {v : Value} {ga : Option Addr} {gn gc : Nat} (hv : v = .slice ga gn gc) (h1 : 64 ≤ B) (h2 : B ≤ 65536) (h3 : B % 32 = 0) (h4 : 0 ≤ Bs) (h5 : Bs ≤ 1099511627776) (w : World) :
    Calls Tryz.prog 74 #[.agg #[.int .i64 B, .int .i64 Bs, v]] w fun e w' => e = .returned .nilIface ∧ Below w.heap.size w w' := by
  subst hv
  have h3' : (B.tmod 32 != 0) = false := by rw [Int.tmod_eq_emod_of_nonneg (by omega), h3]; decide
  go_enter Tryz.func74, Tryz.ntmps74
  go_wp2
  go_ret
  exact ⟨rfl, (Below.refl _ w).alloc (Nat.le_refl _) _⟩

set_option maxRecDepth 100000 in
set_option maxHeartbeats 400000 in
theorem byCall_nil (w : World) :
    Calls Tryz.prog 140 #[.slice none 0 0] w fun e w' => e = .returned (.map (some w.heap.size)) ∧ w' = w.alloc (.map #[] 0) := by
  have hmm := @run_makeMap Tryz.prog
  go_enter Tryz.func140, Tryz.ntmps140
  go_wp2
  refine wp_loop_rounds 1 ?_
  rw [rounds_succ]
  go_wp2
  go_ret
  exact ⟨rfl, rfl⟩

/-- a new disk. -/
def DiskC.new (B : Nat) (Bs : Int) : DiskC := ⟨B, Bs, true, [], .map [], ⟨0, 0, 0, 0, 0, 0, 0⟩⟩

theorem Rep.new {B : Nat} {Bs : Int} (hrow : w.heap[p]? = some (.cells (dRow (.new B Bs) mf mt) 97 (0, 0))) (hf : w.ownsMap Tryz.prog 9 ptrElem mf 0 (.map [])) (ht : w.ownsMap Tryz.prog 3 trElem mt 0 (.map [])) (h1 : p ≠ mf) (h2 : p ≠ mt) (h3 : mf ≠ mt) (hb : lo ≤ p ∧ lo ≤ mf ∧ lo ≤ mt) : Rep w lo p mf mt (.new B Bs) :=
  ⟨hrow, hf, ⟨0, ht⟩, by simp [DiskC.new], by simp [DiskC.foot, DiskC.new, h1, h2, h3], by simp [DiskC.foot, DiskC.new]; exact hb, by simp [DiskC.new]⟩

theorem empty_map (w : World) (b : Nat) (k : TypeId) (R : Value → Option (DataW Unit × List MemPlace)) (h : w.heap[b]? = some (.map #[] 0)) : w.ownsMap Tryz.prog k R b 0 (.map []) :=
  ⟨#[], 0, h, ⟨by simp, MapKept.stamped_empty 0, by simp⟩, Nat.le_refl _, rfl⟩

theorem heap_four (w : World) (o1 o2 o3 o4 : Obj) : ((((w.alloc o1).alloc o2).alloc o3).alloc o4).heap[w.heap.size + 1]? = some o2 ∧ ((((w.alloc o1).alloc o2).alloc o3).alloc o4).heap[w.heap.size + 1 + 1]? = some o3 ∧ ((((w.alloc o1).alloc o2).alloc o3).alloc o4).heap[w.heap.size + 1 + 1 + 1]? = some o4 := by
  have h1 : (w.alloc o1).heap.size = w.heap.size + 1 := by simp
  have h2 : ((w.alloc o1).alloc o2).heap.size = w.heap.size + 1 + 1 := by simp
  have h3 : (((w.alloc o1).alloc o2).alloc o3).heap.size = w.heap.size + 1 + 1 + 1 := by simp
  have a := heap_two (w.alloc o1) o2 o3
  rw [h1] at a
  refine ⟨?_, ?_, ?_⟩
  · rw [Below.heap_alloc _ _ _ (by omega)]; exact a.1
  · rw [Below.heap_alloc _ _ _ (by omega)]; exact a.2
  · rw [← h3]; exact heap_alloc_new _ _

theorem new_rep {B : Nat} {Bs : Int} (w : World) (o : Obj) (mf mt : Nat) (h : (mf = w.heap.size + 1 ∧ mt = w.heap.size + 1 + 1) ∨ (mf = w.heap.size + 1 + 1 ∧ mt = w.heap.size + 1)) :
    Rep ((((w.alloc o).alloc (.map #[] 0)).alloc (.map #[] 0)).alloc (.cells (dRow (.new B Bs) mf mt) 97)).drew w.heap.size (w.heap.size + 1 + 1 + 1) mf mt (.new B Bs) ∧ Below w.heap.size w ((((w.alloc o).alloc (.map #[] 0)).alloc (.map #[] 0)).alloc (.cells (dRow (.new B Bs) mf mt) 97)).drew := by
  have hf := heap_four w o (.map #[] 0) (.map #[] 0) (.cells (dRow (.new B Bs) mf mt) 97)
  refine ⟨Rep.new hf.2.2 (empty_map _ _ _ _ ?_) (empty_map _ _ _ _ ?_) ?_ ?_ ?_ ⟨by omega, by omega, by omega⟩, ((((Below.refl _ w).alloc (Nat.le_refl _) _).alloc (by simp) _).alloc (by simp; omega) _).alloc (by simp; omega) _ |>.drew⟩
  · rcases h with ⟨rfl, _⟩ | ⟨rfl, _⟩
    · exact hf.1
    · exact hf.2.1
  · rcases h with ⟨_, rfl⟩ | ⟨_, rfl⟩
    · exact hf.2.1
    · exact hf.1
  · omega
  · omega
  · omega

theorem Rep.lower (R : Rep w lo p mf mt D) {n : Nat} (h : n ≤ lo) : Rep w n p mf mt D := ⟨R.row, R.files, R.troubles, R.each, R.apart, fun b hb => Nat.le_trans h (R.base b hb), R.names⟩

theorem box_up3 {a b c : Value} {t : TypeId} {w1 : World} (h : Below (w.alloc (.cells #[a, b, c] t)).heap.size (w.alloc (.cells #[a, b, c] t)) w1) : w1.cell? ⟨w.heap.size, 0, none⟩ = some a ∧ w1.cell? ⟨w.heap.size, 1, none⟩ = some b ∧ w1.cell? ⟨w.heap.size, 2, none⟩ = some c ∧ w.heap.size < w1.heap.size := by
  have hr : w1.heap[w.heap.size]? = some (.cells #[a, b, c] t (0, 0)) := (h.block _ (by simp)).trans (heap_alloc_new w _)
  exact ⟨cell_row hr 0, cell_row hr 1, cell_row hr 2, lt_of_block hr⟩

set_option maxRecDepth 100000 in
set_option maxHeartbeats 400000 in
theorem empty_any {B : Nat} {Bs : Int} (w : World) :
    Calls Tryz.prog 75 #[.agg #[.int .i64 B, .int .i64 Bs, .slice none 0 0]] w fun e w' => ∃ p mf mt, e = .returned (ptr p) ∧ Rep w' w.heap.size p mf mt (.new B Bs) ∧ Below w.heap.size w w' := by
  have hmm := @run_makeMap Tryz.prog
  go_enter Tryz.func75, Tryz.ntmps75
  go_wp2
  go_region_held3 (fun V => V.cell? ⟨w.heap.size, 0, none⟩ = some (.int .i64 B) ∧ V.cell? ⟨w.heap.size, 1, none⟩ = some (.int .i64 Bs) ∧ V.cell? ⟨w.heap.size, 2, none⟩ = some (.slice none 0 0)) (go_keep)
    (first | (go_at_call 140; refine (byCall_nil _).mono ?_; rintro e w2 ⟨rfl, rfl⟩))
  all_goals
    go_wp2
    go_ret
  · have h := new_rep (B := B) (Bs := Bs) w (.cells #[.int .i64 B, .int .i64 Bs, .slice none 0 0] 56) (w.heap.size + 1) (w.heap.size + 1 + 1) (.inl ⟨rfl, rfl⟩)
    exact ⟨_, _, _, rfl, h.1, h.2⟩
  · have h := new_rep (B := B) (Bs := Bs) w (.cells #[.int .i64 B, .int .i64 Bs, .slice none 0 0] 56) (w.heap.size + 1 + 1) (w.heap.size + 1) (.inr ⟨rfl, rfl⟩)
    exact ⟨_, _, _, rfl, h.1, h.2⟩

set_option maxRecDepth 100000 in
set_option maxHeartbeats 400000 in
theorem New_ok {B : Nat} {Bs : Int} (h1 : 64 ≤ B) (h2 : B ≤ 65536) (h3 : (B : Int) % 32 = 0) (h4 : 0 ≤ Bs) (h5 : Bs ≤ 1099511627776) (w : World) :
    Calls Tryz.prog 32 #[.agg #[.int .i64 B, .int .i64 Bs, .slice none 0 0]] w fun e w' => ∃ p mf mt, e = .returned (.tuple #[ptr p, .int .i64 0]) ∧ Rep w' w.heap.size p mf mt (.new B Bs) ∧ Below w.heap.size w w' := by
  have HC := hid (fun W => checkSetup_ok (B := (B : Int)) (Bs := Bs) (v := .slice none 0 0) rfl (by omega) (by omega) h3 h4 h5 W)
  clear h3
  go_enter Tryz.func32, Tryz.ntmps32
  go_wp2_with (first
    | (go_at_call 74; refine (HC.out _).mono ?_; rintro e w1 ⟨rfl, hb1⟩; obtain ⟨q0, q1, q2, lz⟩ := box_up3 hb1; have HB1 := hid hb1; clear hb1)
    | (go_at_call 75; refine (empty_any _).mono ?_; rintro e w2 ⟨p, mf, mt, rfl, hR, hb2⟩))
  go_ret2
  have h0 : Below w.heap.size w w1 := ((Below.refl _ w).alloc (Nat.le_refl _) _).trans (HB1.out.mono (by simp))
  exact ⟨p, mf, mt, rfl, hR.lower (by omega), h0.trans (hb2.mono (by omega))⟩
end
end Go.Proofs.YtclplbnildnifaaGreatDoor
namespace Go.Proofs.YtclplbnildnifaaGreatDoor
open Go.RowKit Go.Deep

section
variable {w w' : World} {E : Nat → Addr} {lo p mf mt : Nat} {D : DiskC}

set_option maxHeartbeats 400000 in
theorem On_any (R : Rep w lo p mf mt D) : Calls Tryz.prog 67 #[ptr p] w fun e w' => e = .returned (.bool D.on) ∧ w' = w := by
  have k2 := R.cell 2
  simp only [dRow] at k2
  go_enter Tryz.func67, Tryz.ntmps67
  go_wp2
  go_ret
  exact ⟨rfl, rfl⟩

/-- the counts as a value. -/
def Cnt.val (c : Cnt) : Value := .agg #[.int .i64 c.calls, .int .i64 c.reads, .int .i64 c.appends, .int .i64 c.faults, .int .i64 c.full, .int .i64 c.used, .int .i64 c.most]

set_option maxRecDepth 100000 in
set_option maxHeartbeats 400000 in
theorem Counts_any (R : Rep w lo p mf mt D) : Calls Tryz.prog 18 #[ptr p] w fun e w' => e = .returned D.c.val ∧ Below w.heap.size w w' := by
  have k5 := R.cell 5
  have k6 := R.cell 6
  have k7 := R.cell 7
  have k8 := R.cell 8
  have k9 := R.cell 9
  have k10 := R.cell 10
  have k11 := R.cell 11
  simp only [dRow] at k5 k6 k7 k8 k9 k10 k11
  have hp := lt_of_block R.row
  unfold Cnt.val
  go_enter Tryz.func18, Tryz.ntmps18
  go_wp2
  refine bodyPost_ret (v := .agg #[.int .i64 D.c.calls, .int .i64 D.c.reads, .int .i64 D.c.appends, .int .i64 D.c.faults, .int .i64 D.c.full, .int .i64 D.c.used, .int .i64 D.c.most]) (by simp [results, Tryz.results18, go_sem]) rfl ⟨rfl, ?_⟩
  exact (Below.refl _ w).alloc (Nat.le_refl _) _

/-! ### Spoil -/









end
end Go.Proofs.YtclplbnildnifaaGreatDoor
