import Derived.Test.YtcpncfngadablaaGreatDoorZ08
/-
  The landed disk, told exactly under what befalls a call: Create, Seal, Delete.
-/
namespace Go.Proofs.YtcpncfngadablaaGreatDoor
open Go.RowKit Go.Deep

/-- what a call answers that would answer r; part: what a cut leaves of it. -/
def befX (k y : Int) (A : PubA) (r : Int × PubA) (part : PubA) : Int × PubA :=
  if r.1 = 0 then (if k = 1 then (9, A.faulted) else if k = 2 then (10, if 0 < y then part else A.shut) else r) else r
def OutX (k y : Int) (A : PubA) (r : Int × PubA) (part : PubA) (v : Int) (A' : PubA) : Prop := befX k y A r part = (v, A')
theorem OutX.no {k y : Int} {A : PubA} {r : Int × PubA} {part : PubA} {v : Int} {A' : PubA} (h : r = (v, A')) (h0 : v ≠ 0) : OutX k y A r part v A' := by
  subst h
  unfold OutX befX
  rw [if_neg h0]
theorem OutX.fault {y : Int} {A : PubA} {r : Int × PubA} {part : PubA} (h : r.1 = 0) : OutX 1 y A r part 9 A.faulted := by
  unfold OutX befX
  rw [if_pos h, if_pos rfl]
theorem OutX.part {y : Int} {A : PubA} {r : Int × PubA} {part : PubA} (h : r.1 = 0) (hy : 0 < y) : OutX 2 y A r part 10 part := by
  unfold OutX befX
  rw [if_pos h, if_neg (by decide), if_pos rfl, if_pos hy]
theorem OutX.shut {y : Int} {A : PubA} {r : Int × PubA} {part : PubA} (h : r.1 = 0) (hy : ¬ 0 < y) : OutX 2 y A r part 10 A.shut := by
  unfold OutX befX
  rw [if_pos h, if_neg (by decide), if_pos rfl, if_neg hy]
theorem OutX.ok {k y : Int} {A : PubA} {r : Int × PubA} {part : PubA} (h : r.1 = 0) (h1 : k ≠ 1) (h2 : k ≠ 2) : OutX k y A r part 0 r.2 := by
  unfold OutX befX
  rw [if_pos h, if_neg h1, if_neg h2]
  exact Prod.ext h rfl

/-- A call of the disk has been made; how its troubles went on. -/
def Did3 (w w' : World) (lo p mf mt : Nat) (D : DiskC) (A' : PubA) : Prop :=
  ∃ D', Rep w' lo p mf mt D' ∧ D'.pub = A' ∧ ((D'.T = D.T ∧ D'.c.calls = D.c.calls) ∨ (D'.T = D.T.del (.int .i64 D.c.calls) ∧ D'.c.calls = D.c.calls + 1)) ∧ Touch (D.foot p mf mt) w w' ∧ ∀ b ∈ D'.foot p mf mt, b ∈ D.foot p mf mt ∨ w.heap.size ≤ b

section
variable {w w' : World} {E : Nat → Addr} {lo p mf mt : Nat} {D : DiskC}

theorem Did3.same (R : Rep w lo p mf mt D) (ht : Touch [] w w') : Did3 w w' lo p mf mt D D.pub :=
  ⟨D, R.touch ht (by simp), rfl, .inl ⟨rfl, rfl⟩, ht.mono (by simp), fun _ h => .inl h⟩

theorem Did3.wrap {W w1 w2 : World} {A : PubA} {G : List Nat} (R : Rep w lo p mf mt D) (h1 : Touch [] w W) (h : Did3 W w1 lo p mf mt D A) (h2 : Touch G w1 w2) (hG : ∀ b ∈ G, w.heap.size ≤ b ∧ b < W.heap.size ∨ w1.heap.size ≤ b) : Did3 w w2 lo p mf mt D A := by
  obtain ⟨D', R', hp, hT, ht, hf⟩ := h
  have hs := h1.size
  have hs2 := ht.size
  refine ⟨D', R'.touch h2 ?_, hp, hT, ((h1.mono (by simp)).trans ht (fun b hb => .inl hb)).trans h2 (fun b hb => .inr (by have := hG b hb; omega)), fun b hb => ?_⟩
  · intro b hb hbG
    have hlt := R'.lt b hb
    rcases hf b hb with h | h
    · have := R.lt b h
      have := hG b hbG
      omega
    · have := hG b hbG
      omega
  · rcases hf b hb with h | h
    · exact .inl h
    · exact .inr (by omega)

theorem Create_x (V : Env w lo E) (R : Rep w lo p mf mt D) (ho : D.on = true) (hS : Small D.pub) (hfl : 0 ≤ D.c.faults ∧ D.c.faults ≤ 1099511627776) {a k b : Int} (hT : TroubleIs D.T D.c.calls a k b) (s : ByteArray) :
    Calls Tryz.prog 9 #[ptr p, .string s] w fun e w' => ∃ v A', e = .returned (.int .i64 v) ∧ Did3 w w' lo p mf mt D A' ∧ OutX k b D.pub (createA s D.pub) { (createA s D.pub).2 with on := false } v A' := by
  have hfp : findA D.pub.files (nm s) = (findE D.ents (nm s)).map Ent.file := find_pub _ _
  have F3 := foot3 R
  have hF : ∀ b ∈ [p, mf, mt], lo ≤ b := fun b hb => (F3 b hb).2
  have hG : ∀ b ∈ [p, mf, mt], b ∈ D.foot p mf mt := fun b hb => (F3 b hb).1
  by_cases hn : nameB s = true
  · cases hf : findE D.ents (nm s) with
    | some e0 =>
      have hr : createA s D.pub = (13, D.pub) := by unfold createA; rw [if_pos hn, hfp, hf]; rfl
      have h := Create_of (i := some 5) (create_there V R s ho hn hf) (v := 13) fun w1 ht => answer_err (V.touch ht (by simp)).sents 5 (by omega) (by omega) (by omega)
      exact h.mono fun e w1 ⟨h1, h2⟩ => ⟨13, D.pub, h1, Did3.same R h2, OutX.no hr (by decide)⟩
    | none =>
      have hr : createA s D.pub = (0, { D.pub with files := insA (nm s, ⟨false, []⟩) D.pub.files, c := { D.pub.c with calls := D.pub.c.calls + 1 } }) := by unfold createA; rw [if_pos hn, hfp, hf]; rfl
      have hfl' : D.ents.length ≤ 1099511627776 := by have := hS.files; simpa [DiskC.pub] using this
      by_cases k1 : k = 1
      · subst k1
        have hc := create_gen V R s ho hn hf hT hS.calls.1 hS.calls.2 (v := errV E 1) (Post := fun w2 w3 => Touch [] w2 w3) fun w2 bd bn V2 R2 _ _ _ => (carry_fault V2 a b _).mono fun e w3 ⟨h1, h2⟩ => ⟨h1, h2, h2.mono (by simp)⟩
        have h := Create_of2 (v := 9) (Post2 := fun w' => Did3 w w' lo p mf mt D D.pub.faulted) hc fun w1 ⟨⟨w2, hz, R2, t2⟩, t⟩ => by
          have R1 : Rep w1 lo p mf mt D.numbered := R2.touch t2 (by simp)
          refine (answer_fault (V.touch t hF) R1 hfl.1 hfl.2).mono fun e w' ⟨h1, h2, h3⟩ => ⟨h1, _, h2, rfl, .inr ⟨rfl, rfl⟩, ?_, fun b hb => .inl hb⟩
          exact (t.mono hG).trans (h3.mono (G := D.foot p mf mt) (by simp [DiskC.foot])) (fun b hb => .inl hb)
        exact h.mono fun e w' ⟨h1, h2⟩ => ⟨9, _, h1, h2, OutX.fault (by rw [hr])⟩
      · by_cases k2 : k = 2
        · subst k2
          by_cases hb : 0 < b
          · have hc := create_gen V R s ho hn hf hT hS.calls.1 hS.calls.2 (v := errV E 2) (Post := fun w2 w3 => ∃ fb, w2.heap.size ≤ fb ∧ Rep w3 lo p mf mt { D.numbered.off with ents := insE ⟨nm s, ⟨false, []⟩, ⟨fb, .slice none 0 0, []⟩⟩ D.ents }) fun w2 bd bn V2 R2 _ hbd hbn =>
              carry_create_cut V2 R2 bd bn hb (name_size hn) hf hfl' hbd hbn
            have h := Create_of2 (v := 10) (Post2 := fun w' => Did3 w w' lo p mf mt D { (createA s D.pub).2 with on := false }) hc fun w1 ⟨⟨w2, hz, _, fb, hfb, R3⟩, t⟩ => by
              refine (answer_err (V.touch t hF).sents 2 (by omega) (by omega) (by omega)).mono fun e w' ⟨h1, h2⟩ => ?_
              subst h2
              refine ⟨h1, _, R3, ?_, .inr ⟨rfl, rfl⟩, t.mono hG, foot_insert rfl (by simp [Lay.foot, Value.ownBlock]; omega)⟩
              rw [hr]
              simp only [DiskC.pub, DiskC.numbered, ins_pub]
              rfl
            exact h.mono fun e w' ⟨h1, h2⟩ => ⟨10, _, h1, h2, OutX.part (by rw [hr]) hb⟩
          · have hc := create_gen V R s ho hn hf hT hS.calls.1 hS.calls.2 (v := errV E 2) (Post := fun w2 w3 => Rep w3 lo p mf mt D.numbered.off) fun w2 bd bn V2 R2 _ _ _ =>
              (carry_cut0 V2 R2 a b (by omega) _).mono fun e w3 ⟨h1, h2, h3⟩ => ⟨h1, h2, h3.mono (by simp)⟩
            have h := Create_of2 (v := 10) (Post2 := fun w' => Did3 w w' lo p mf mt D D.pub.shut) hc fun w1 ⟨⟨w2, hz, _, R3⟩, t⟩ => by
              refine (answer_err (V.touch t hF).sents 2 (by omega) (by omega) (by omega)).mono fun e w' ⟨h1, h2⟩ => ?_
              subst h2
              exact ⟨h1, _, R3, rfl, .inr ⟨rfl, rfl⟩, t.mono hG, fun b hb => .inl hb⟩
            exact h.mono fun e w' ⟨h1, h2⟩ => ⟨10, _, h1, h2, OutX.shut (by rw [hr]) hb⟩
        · have hc := create_ok V R s ho hn hf hT (by simp [k1]) (by simp [k2]) hS.calls.1 hS.calls.2 hfl'
          have h := Create_of2 (v := 0) (Post2 := fun w' => Did3 w w' lo p mf mt D (createA s D.pub).2) hc fun w1 ⟨⟨fb, hfb, R3⟩, t⟩ => by
            refine (answer_nil (V.touch t hF).sents).mono fun e w' ⟨h1, h2⟩ => ?_
            subst h2
            refine ⟨h1, _, R3, ?_, .inr ⟨rfl, rfl⟩, t.mono hG, foot_insert rfl (by simp [Lay.foot, Value.ownBlock]; omega)⟩
            rw [hr]
            simp only [DiskC.pub, DiskC.numbered, ins_pub]
            rfl
          exact h.mono fun e w' ⟨h1, h2⟩ => ⟨0, _, h1, h2, OutX.ok (by rw [hr]) k1 k2⟩
  · have hr : createA s D.pub = (11, D.pub) := by unfold createA; rw [if_neg hn]
    have h := Create_of (i := some 3) (create_bad V R s ho (by simpa using hn)) (v := 11) fun w1 ht => answer_err (V.touch ht (by simp)).sents 3 (by omega) (by omega) (by omega)
    exact h.mono fun e w1 ⟨h1, h2⟩ => ⟨11, D.pub, h1, Did3.same R h2, OutX.no hr (by decide)⟩

theorem Seal_x (V : Env w lo E) (R : Rep w lo p mf mt D) (ho : D.on = true) (hS : Small D.pub) (hfl : 0 ≤ D.c.faults ∧ D.c.faults ≤ 1099511627776) {a k b : Int} (hT : TroubleIs D.T D.c.calls a k b) (s : ByteArray) :
    Calls Tryz.prog 12 #[ptr p, .string s] w fun e w' => ∃ v A', e = .returned (.int .i64 v) ∧ Did3 w w' lo p mf mt D A' ∧ OutX k b D.pub (sealA s D.pub) { (sealA s D.pub).2 with on := false } v A' := by
  have hfp : findA D.pub.files (nm s) = (findE D.ents (nm s)).map Ent.file := find_pub _ _
  by_cases hn : nameB s = true
  · cases hf : findE D.ents (nm s) with
    | none =>
      have hr : sealA s D.pub = (12, D.pub) := by unfold sealA; rw [if_pos hn, hfp, hf]; rfl
      have h := Seal_of (i := some 4) (seal_err s 4 (find_none V.sents R s ho hn hf)) (v := 12) fun w1 ht => answer_err (V.touch ht (by simp)).sents 4 (by omega) (by omega) (by omega)
      exact h.mono fun e w1 ⟨h1, h2⟩ => ⟨12, D.pub, h1, Did3.same R h2, OutX.no hr (by decide)⟩
    | some e0 =>
      cases hs : e0.file.shut with
      | true =>
        have hr : sealA s D.pub = (14, D.pub) := by unfold sealA; rw [if_pos hn, hfp, hf]; simp [hs]
        have h := Seal_of (i := some 6) (seal_shut V R s ho hn hf hs) (v := 14) fun w1 ht => answer_err (V.touch ht (by simp)).sents 6 (by omega) (by omega) (by omega)
        exact h.mono fun e w1 ⟨h1, h2⟩ => ⟨14, D.pub, h1, Did3.same R h2, OutX.no hr (by decide)⟩
      | false =>
        have hr : sealA s D.pub = (0, { D.pub with files := setA (nm s) { e0.file with shut := true } D.pub.files, c := { D.pub.c with calls := D.pub.c.calls + 1 } }) := by unfold sealA; rw [if_pos hn, hfp, hf]; simp [hs]
        have hfb : e0.lay.fb ∈ D.foot p mf mt := foot_ent hf _ (by simp [Lay.foot])
        have hG : ∀ b ∈ [p, mt, e0.lay.fb], b ∈ D.foot p mf mt := fun b hb => by
          simp at hb
          rcases hb with rfl | rfl | rfl
          · simp [DiskC.foot]
          · simp [DiskC.foot]
          · exact hfb
        have hF : ∀ b ∈ [p, mt, e0.lay.fb], lo ≤ b := fun b hb => R.base b (hG b hb)
        have hm := (findE_mem hf).1
        have hne := R.ent_ne hm (b := e0.lay.fb) (by simp [Lay.foot])
        by_cases k1 : k = 1
        · subst k1
          have hc := seal_gen V R s ho hn hf hs hT hS.calls.1 hS.calls.2 (v := errV E 1) (Post := fun w2 w3 => Touch [] w2 w3) fun w2 bf V2 R2 _ _ => (carry_fault V2 a b _).mono fun e w3 ⟨h1, h2⟩ => ⟨h1, h2, h2.mono (by simp)⟩
          have h := Seal_of2 (v := 9) (Post2 := fun w' => Did3 w w' lo p mf mt D D.pub.faulted) hc fun w1 ⟨⟨w2, hz, R2, t2⟩, t⟩ => by
            have R1 : Rep w1 lo p mf mt D.numbered := R2.touch t2 (by simp)
            refine (answer_fault (V.touch t hF) R1 hfl.1 hfl.2).mono fun e w' ⟨h1, h2, h3⟩ => ⟨h1, _, h2, rfl, .inr ⟨rfl, rfl⟩, ?_, fun b hb => .inl hb⟩
            exact (t.mono hG).trans (h3.mono (G := D.foot p mf mt) (by simp [DiskC.foot])) (fun b hb => .inl hb)
          exact h.mono fun e w' ⟨h1, h2⟩ => ⟨9, _, h1, h2, OutX.fault (by rw [hr])⟩
        · by_cases k2 : k = 2
          · subst k2
            by_cases hb : 0 < b
            · have hc := seal_gen V R s ho hn hf hs hT hS.calls.1 hS.calls.2 (v := errV E 2) (Post := fun w2 w3 => Rep w3 lo p mf mt { D.numbered.off with ents := setE (nm s) { e0.file with shut := true } e0.lay D.ents }) fun w2 bf V2 R2 hz hbf => by
                have hat := R2.each e0 hm
                refine (carry_seal_cut V2 R2 bf e0.lay.fb hb (R.base _ hfb) hne.1 hbf hat.row).mono fun e w3 ⟨h1, w1, R1, t1, t3, hr3⟩ => ?_
                have hnd := R1.parts.1 e0 hm
                have hat3 := (R1.each e0 hm).shut hnd t3 hr3
                refine ⟨h1, R1.setFile hf rfl hat3 (fun b hb => .inl hb) hnd (t3.mono (by simp [Lay.foot])) (Nat.le_trans V2.room t1.size), (t1.mono (by simp)).trans t3 (by simp)⟩
              have h := Seal_of2 (v := 10) (Post2 := fun w' => Did3 w w' lo p mf mt D { (sealA s D.pub).2 with on := false }) hc fun w1 ⟨⟨w2, hz, _, R3⟩, t⟩ => by
                refine (answer_err (V.touch t hF).sents 2 (by omega) (by omega) (by omega)).mono fun e w' ⟨h1, h2⟩ => ?_
                subst h2
                refine ⟨h1, _, R3, ?_, .inr ⟨rfl, rfl⟩, t.mono hG, foot_set hf rfl fun b hb => .inl hb⟩
                rw [hr]
                simp only [DiskC.pub, DiskC.numbered, set_pub]
              exact h.mono fun e w' ⟨h1, h2⟩ => ⟨10, _, h1, h2, OutX.part (by rw [hr]) hb⟩
            · have hc := seal_gen V R s ho hn hf hs hT hS.calls.1 hS.calls.2 (v := errV E 2) (Post := fun w2 w3 => Rep w3 lo p mf mt D.numbered.off) fun w2 bf V2 R2 _ _ =>
                (carry_cut0 V2 R2 a b (by omega) _).mono fun e w3 ⟨h1, h2, h3⟩ => ⟨h1, h2, h3.mono (by simp)⟩
              have h := Seal_of2 (v := 10) (Post2 := fun w' => Did3 w w' lo p mf mt D D.pub.shut) hc fun w1 ⟨⟨w2, hz, _, R3⟩, t⟩ => by
                refine (answer_err (V.touch t hF).sents 2 (by omega) (by omega) (by omega)).mono fun e w' ⟨h1, h2⟩ => ?_
                subst h2
                exact ⟨h1, _, R3, rfl, .inr ⟨rfl, rfl⟩, t.mono hG, fun b hb => .inl hb⟩
              exact h.mono fun e w' ⟨h1, h2⟩ => ⟨10, _, h1, h2, OutX.shut (by rw [hr]) hb⟩
          · have hc := seal_ok R s ho hn hf hs hT (by simp [k1]) (by simp [k2]) hS.calls.1 hS.calls.2 V.room
            have h := Seal_of2 (v := 0) (Post2 := fun w' => Did3 w w' lo p mf mt D (sealA s D.pub).2) hc fun w1 ⟨R3, t⟩ => by
              refine (answer_nil (V.touch t hF).sents).mono fun e w' ⟨h1, h2⟩ => ?_
              subst h2
              refine ⟨h1, _, R3, ?_, .inr ⟨rfl, rfl⟩, t.mono hG, foot_set hf rfl fun b hb => .inl hb⟩
              rw [hr]
              simp only [DiskC.pub, DiskC.numbered, set_pub]
            exact h.mono fun e w' ⟨h1, h2⟩ => ⟨0, _, h1, h2, OutX.ok (by rw [hr]) k1 k2⟩
  · have hr : sealA s D.pub = (11, D.pub) := by unfold sealA; rw [if_neg hn]
    have h := Seal_of (i := some 3) (seal_err s 3 (find_bad V.sents R s ho (by simpa using hn))) (v := 11) fun w1 ht => answer_err (V.touch ht (by simp)).sents 3 (by omega) (by omega) (by omega)
    exact h.mono fun e w1 ⟨h1, h2⟩ => ⟨11, D.pub, h1, Did3.same R h2, OutX.no hr (by decide)⟩

theorem Delete_x (V : Env w lo E) (R : Rep w lo p mf mt D) (ho : D.on = true) (hS : Small D.pub) (hcc : D.c.calls + 1 ≤ 1099511627776) {a k b : Int} (hT : TroubleIs D.T D.c.calls a k b) (s : ByteArray) :
    Calls Tryz.prog 16 #[ptr p, .string s] w fun e w' => ∃ v A', e = .returned (.int .i64 v) ∧ Did3 w w' lo p mf mt D A' ∧ OutX (if k = 1 then 0 else k) b D.pub (deleteA s D.pub) { (deleteA s D.pub).2 with on := false } v A' := by
  have hfp : findA D.pub.files (nm s) = (findE D.ents (nm s)).map Ent.file := find_pub _ _
  have F3 := foot3 R
  have hF : ∀ b ∈ [p, mf, mt], lo ≤ b := fun b hb => (F3 b hb).2
  have hG : ∀ b ∈ [p, mf, mt], b ∈ D.foot p mf mt := fun b hb => (F3 b hb).1
  by_cases hn : nameB s = true
  · cases hf : findE D.ents (nm s) with
    | none =>
      have hr : deleteA s D.pub = (12, D.pub) := by unfold deleteA; rw [if_pos hn, hfp, hf]; rfl
      have h := Delete_of (i := some 4) (drop_err s 4 fun o1 o2 => find_none ((V.alloc o1).alloc o2).sents ((R.alloc o1).alloc o2) s ho hn hf) (v := 12) fun w1 ht => answer_err (V.touch ht (by simp)).sents 4 (by omega) (by omega) (by omega)
      exact h.mono fun e w1 ⟨h1, h2⟩ => ⟨12, D.pub, h1, Did3.same R h2, OutX.no hr (by decide)⟩
    | some e0 =>
      have hr1 : (deleteA s D.pub).1 = 0 := by unfold deleteA; rw [if_pos hn, hfp, hf]; rfl
      have hpub : ({ D.numbered with ents := dropE (nm s) D.ents, c := { D.numbered.c with used := D.c.used - e0.file.blocks.length, most := max D.c.most (D.c.used - e0.file.blocks.length) } } : DiskC).pub = (deleteA s D.pub).2 := by
        unfold deleteA
        rw [if_pos hn, hfp, hf]
        simp only [DiskC.pub, DiskC.numbered, drop_pub]
        rfl
      have hS2 := small_number hS hcc
      by_cases k2 : k = 2
      · subst k2
        by_cases hb : 0 < b
        · have hc := drop_gen V R s ho hn hf hT hS.calls.1 hS.calls.2 (v := errV E 2) (Post := fun w2 w3 => Rep w3 lo p mf mt { D.numbered.off with ents := dropE (nm s) D.ents, c := { D.numbered.c with used := D.c.used - e0.file.blocks.length, most := max D.c.most (D.c.used - e0.file.blocks.length) } }) fun w2 bd bn bf V2 R2 _ hbd hbn hbf => by
            rw [if_neg (by decide)]
            exact carry_drop_cut V2 R2 bd bn bf hb (name_size hn) hf hS2 hbd hbn hbf
          have h := Delete_of2 (v := 10) (Post2 := fun w' => Did3 w w' lo p mf mt D { (deleteA s D.pub).2 with on := false }) hc fun w1 ⟨⟨w2, hz, _, R3⟩, t⟩ => by
            refine (answer_err (V.touch t hF).sents 2 (by omega) (by omega) (by omega)).mono fun e w' ⟨h1, h2⟩ => ?_
            subst h2
            refine ⟨h1, _, R3, ?_, .inr ⟨rfl, rfl⟩, t.mono hG, foot_drop rfl⟩
            rw [← hpub]
            rfl
          exact h.mono fun e w' ⟨h1, h2⟩ => ⟨10, _, h1, h2, OutX.part hr1 hb⟩
        · have hc := drop_gen V R s ho hn hf hT hS.calls.1 hS.calls.2 (v := errV E 2) (Post := fun w2 w3 => Rep w3 lo p mf mt D.numbered.off) fun w2 bd bn bf V2 R2 _ _ _ _ => by
            rw [if_neg (by decide)]
            exact (carry_cut0 V2 R2 a b (by omega) _).mono fun e w3 ⟨h1, h2, h3⟩ => ⟨h1, h2, h3.mono (by simp)⟩
          have h := Delete_of2 (v := 10) (Post2 := fun w' => Did3 w w' lo p mf mt D D.pub.shut) hc fun w1 ⟨⟨w2, hz, _, R3⟩, t⟩ => by
            refine (answer_err (V.touch t hF).sents 2 (by omega) (by omega) (by omega)).mono fun e w' ⟨h1, h2⟩ => ?_
            subst h2
            exact ⟨h1, _, R3, rfl, .inr ⟨rfl, rfl⟩, t.mono hG, fun b hb => .inl hb⟩
          exact h.mono fun e w' ⟨h1, h2⟩ => ⟨10, _, h1, h2, OutX.shut hr1 hb⟩
      · have hc := drop_gen V R s ho hn hf hT hS.calls.1 hS.calls.2 (v := .nilIface) (Post := fun w2 w3 => Rep w3 lo p mf mt { D.numbered with ents := dropE (nm s) D.ents, c := { D.numbered.c with used := D.c.used - e0.file.blocks.length, most := max D.c.most (D.c.used - e0.file.blocks.length) } }) fun w2 bd bn bf V2 R2 _ hbd hbn hbf => by
          by_cases k1 : k = 1
          · rw [if_pos k1]
            exact carry_drop R2 bd bn bf (by decide) (by decide) (name_size hn) hf hS2 hbd hbn hbf
          · rw [if_neg k1]
            exact carry_drop R2 bd bn bf (by simp [k1]) (by simp [k2]) (name_size hn) hf hS2 hbd hbn hbf
        have h := Delete_of2 (v := 0) (Post2 := fun w' => Did3 w w' lo p mf mt D (deleteA s D.pub).2) hc fun w1 ⟨⟨w2, hz, _, R3⟩, t⟩ => by
          refine (answer_nil (V.touch t hF).sents).mono fun e w' ⟨h1, h2⟩ => ?_
          subst h2
          exact ⟨h1, _, R3, hpub, .inr ⟨rfl, rfl⟩, t.mono hG, foot_drop rfl⟩
        exact h.mono fun e w' ⟨h1, h2⟩ => ⟨0, _, h1, h2, OutX.ok hr1 (by split <;> omega) (by split <;> omega)⟩
  · have hr : deleteA s D.pub = (11, D.pub) := by unfold deleteA; rw [if_neg hn]
    have h := Delete_of (i := some 3) (drop_err s 3 fun o1 o2 => find_bad ((V.alloc o1).alloc o2).sents ((R.alloc o1).alloc o2) s ho (by simpa using hn)) (v := 11) fun w1 ht => answer_err (V.touch ht (by simp)).sents 3 (by omega) (by omega) (by omega)
    exact h.mono fun e w1 ⟨h1, h2⟩ => ⟨11, D.pub, h1, Did3.same R h2, OutX.no hr (by decide)⟩

end

end Go.Proofs.YtcpncfngadablaaGreatDoor
/-
  The landed disk, told exactly under what befalls a call: Append.
-/
namespace Go.Proofs.YtcpncfngadablaaGreatDoor
open Go.RowKit Go.Deep

/-- what a cut leaves of an Append: the block's first bytes. -/
def cutX (s : ByteArray) (bl : List UInt8) (y : Int) (A : PubA) : PubA :=
  match findA A.files (nm s) with
  | some f => { A with on := false, files := setA (nm s) { f with blocks := f.blocks ++ [cutB y.toNat bl] } A.files, c := { A.c with calls := A.c.calls + 1, used := A.c.used + 1, most := max A.c.most (A.c.used + 1) } }
  | none => A

section
variable {w w' : World} {E : Nat → Addr} {lo p mf mt : Nat} {D : DiskC}

theorem Append_x (V : Env w lo E) (R : Rep w lo p mf mt D) (ho : D.on = true) (hS : Small D.pub) (hfl : 0 ≤ D.c.faults ∧ D.c.faults ≤ 1099511627776) (hcc : D.c.calls + 1 ≤ 1099511627776) {x k y : Int} (hT : TroubleIs D.T D.c.calls x k y) (s : ByteArray) {sa : Option Addr} {n c : Nat} {bl : List UInt8} (hh : Hand w p mf mt D sa n c bl) :
    Calls Tryz.prog 10 #[ptr p, .string s, .slice sa n c] w fun e w' => ∃ v A', e = .returned (.int .i64 v) ∧ Did3 w w' lo p mf mt D A' ∧ OutX k y D.pub (appendA s bl D.pub) (cutX s bl y D.pub) v A' := by
  have hfp : findA D.pub.files (nm s) = (findE D.ents (nm s)).map Ent.file := find_pub _ _
  have err : ∀ (j : Nat) (r : Int), j < 11 → j ≠ 1 → j ≠ 9 → code j = r → appendA s bl D.pub = (r, D.pub) → (Calls Tryz.prog 35 #[ptr p, .string s, .slice sa n c] w fun e w' => e = .returned (errV E j) ∧ Touch [] w w') →
      Calls Tryz.prog 10 #[ptr p, .string s, .slice sa n c] w fun e w' => ∃ v A', e = .returned (.int .i64 v) ∧ Did3 w w' lo p mf mt D A' ∧ OutX k y D.pub (appendA s bl D.pub) (cutX s bl y D.pub) v A' := fun j r hj h1 h9 hcd hr h => by
    have hj0 : r ≠ 0 := by
      subst hcd
      unfold code
      split <;> decide
    have h2 := Append_err2 (v := code j) (Post2 := fun w' => Did3 w w' lo p mf mt D D.pub) h fun w1 ht => (answer_err (V.touch ht (by simp)).sents j hj h1 h9).mono fun e w2 ⟨e1, e2⟩ => ⟨e1, by subst e2; exact Did3.same R ht⟩
    exact h2.mono fun e w' ⟨e1, e2⟩ => ⟨code j, D.pub, e1, e2, OutX.no (by rw [hcd]; exact hr) (by rw [hcd]; exact hj0)⟩
  by_cases hn : nameB s = true
  · cases hf : findE D.ents (nm s) with
    | none =>
      exact err 4 12 (by omega) (by omega) (by omega) rfl (by unfold appendA; rw [if_pos hn, hfp, hf]; rfl) (put_err s 4 _ (fun o1 o2 => find_none ((V.alloc o1).alloc o2).sents ((R.alloc o1).alloc o2) s ho hn hf) rfl)
    | some e0 =>
      cases hs : e0.file.shut with
      | true => exact err 6 14 (by omega) (by omega) (by omega) rfl (by unfold appendA; rw [if_pos hn, hfp, hf]; simp [hs]) (put_no V R s ho hn hf 6 (.inl ⟨hs, rfl⟩))
      | false =>
        by_cases hl : bl.length = D.B
        · have hl' : ¬ bl.length ≠ D.pub.B := fun h => h hl
          by_cases hu : D.Bs ≤ D.c.used
          · have hu' : D.pub.Bs ≤ D.pub.c.used := hu
            have hr : appendA s bl D.pub = (17, { D.pub with c := { D.pub.c with full := D.pub.c.full + 1 } }) := by
              unfold appendA
              rw [if_pos hn, hfp, hf]
              simp only [Option.map_some, hs, Bool.false_eq_true, if_false]
              rw [if_neg hl', if_pos hu']
            have hnB : n = D.B := hh.len.symm.trans hl
            have h := Append_err2 (sa := sa) (c := c) (n := n) (s := s) (v := 17) (Post2 := fun w' => Did3 w w' lo p mf mt D { D.pub with c := { D.pub.c with full := D.pub.c.full + 1 } }) (put_no V R s ho hn hf 9 (.inr (.inr ⟨hs, hnB, hu, rfl⟩))) fun w1 ht => by
              have R1 := R.touch ht (by simp)
              have V1 := V.touch ht (by simp)
              refine (answer_full V1.sents R1 hS.full.1 hS.full.2 fun v => (V1.touch (F := [p]) ((Touch.refl [p] w1).setCell (p := ⟨p, 9, none⟩) (by simp) _) (fun b hb => by simp at hb; subst hb; exact R.base b (by simp [DiskC.foot]))).sents).mono fun e w2 ⟨e1, hR, ht2⟩ => ⟨e1, _, hR, rfl, .inl ⟨rfl, rfl⟩, ?_, fun b hb => .inl hb⟩
              exact ((ht.mono (by simp)).trans ht2 (fun b hb => by simp at hb; subst hb; exact .inl (by simp [DiskC.foot])))
            exact h.mono fun e w' ⟨e1, e2⟩ => ⟨17, _, e1, e2, OutX.no hr (by decide)⟩
          · have hu' : ¬ D.pub.Bs ≤ D.pub.c.used := hu
            have hr : appendA s bl D.pub = (0, { D.pub with files := setA (nm s) { e0.file with blocks := e0.file.blocks ++ [bl] } D.pub.files, c := { D.pub.c with calls := D.pub.c.calls + 1, appends := D.pub.c.appends + 1, used := D.pub.c.used + 1, most := max D.pub.c.most (D.pub.c.used + 1) } }) := by
              unfold appendA
              rw [if_pos hn, hfp, hf]
              simp only [Option.map_some, hs, Bool.false_eq_true, if_false]
              rw [if_neg hl', if_neg hu']
            have hB := hS.size
            simp only [DiskC.pub] at hB
            obtain ⟨a, rfl, ha, hout, hsrc⟩ := hh.at_ (by have := hh.len; omega)
            have hnB : n = D.B := hh.len.symm.trans hl
            subst hnB
            have hap : a.block ≠ p := fun e => hout (by simp [DiskC.foot, e])
            have ham : a.block ≠ mt := fun e => hout (by simp [DiskC.foot, e])
            have hG : ∀ b ∈ p :: mt :: e0.lay.foot, b ∈ D.foot p mf mt := fun b hb => by
              rcases List.mem_cons.1 hb with rfl | hb
              · simp [DiskC.foot]
              · rcases List.mem_cons.1 hb with rfl | hb
                · simp [DiskC.foot]
                · exact foot_ent hf b hb
            have hF : ∀ b ∈ p :: mt :: e0.lay.foot, lo ≤ b := fun b hb => R.base b (hG b hb)
            have hS2 := small_number hS hcc
            have hadd : ∀ j, (a.add j).block = a.block := fun j => by unfold Addr.add; split <;> rfl
            have hsr2 : ∀ w2, Touch [p, mt] w w2 → ∀ j v, (Lib.byteCells bl)[j]? = some v → w2.cell? (a.add j) = some v := fun w2 t j v h => by
              rw [t.cell (p := a.add j) (by rw [hadd]; exact ha) (by rw [hadd]; simp [hap, ham])]
              exact hsrc j v h
            by_cases k1 : k = 1
            · subst k1
              have hc := put_gen V R s ho hn hf hs (c := c) (a := a) (by omega) hT hS.calls.1 hS.calls.2 (v := errV E 1) (Post := fun w2 w3 => Touch [] w2 w3) fun w2 bf bb bd V2 R2 _ _ _ _ => (carry_fault V2 x y _).mono fun e w3 ⟨h1, h2⟩ => ⟨h1, h2, h2.mono (by simp)⟩
              have h := Append_err2 (v := 9) (Post2 := fun w' => Did3 w w' lo p mf mt D D.pub.faulted) hc fun w1 ⟨⟨w2, _, R2, t2⟩, t⟩ => by
                have R1 : Rep w1 lo p mf mt D.numbered := R2.touch t2 (by simp)
                refine (answer_fault (V.touch t hF) R1 hfl.1 hfl.2).mono fun e w' ⟨h1, h2, h3⟩ => ⟨h1, _, h2, rfl, .inr ⟨rfl, rfl⟩, ?_, fun b hb => .inl hb⟩
                exact (t.mono hG).trans (h3.mono (G := D.foot p mf mt) (by simp [DiskC.foot])) (fun b hb => .inl hb)
              exact h.mono fun e w' ⟨h1, h2⟩ => ⟨9, _, h1, h2, OutX.fault (by rw [hr])⟩
            · by_cases k2 : k = 2
              · subst k2
                by_cases hy : 0 < y
                · have hc := put_gen V R s ho hn hf hs (c := c) (a := a) (by omega) hT hS.calls.1 hS.calls.2 (v := errV E 2) (Post := fun w2 w3 => ∃ L, Rep w3 lo p mf mt { D.numbered.off with ents := setE (nm s) { e0.file with blocks := e0.file.blocks ++ [cutB y.toNat bl] } L D.ents, c := { D.numbered.c with used := D.c.used + 1, most := max D.c.most (D.c.used + 1) } } ∧ ∀ b ∈ L.foot, b ∈ e0.lay.foot ∨ w2.heap.size ≤ b) fun w2 bf bb bd V2 R2 t2 hbf hbb hbd => by
                    rw [← hl] at hbb
                    exact carry_put_cut V2 R2 bf bb bd hy hf hS2 a c hl (by rw [hl]; exact hh.cap) (hsr2 w2 t2) (by have := t2.size; omega) hap hbf hbb hbd
                  have h := Append_err2 (v := 10) (Post2 := fun w' => Did3 w w' lo p mf mt D { D.pub with on := false, files := setA (nm s) { e0.file with blocks := e0.file.blocks ++ [cutB y.toNat bl] } D.pub.files, c := { D.pub.c with calls := D.pub.c.calls + 1, used := D.pub.c.used + 1, most := max D.pub.c.most (D.pub.c.used + 1) } }) hc fun w1 ⟨⟨w2, t2, _, L, R3, hL⟩, t⟩ => by
                    refine (answer_err (V.touch t hF).sents 2 (by omega) (by omega) (by omega)).mono fun e w' ⟨h1, h2⟩ => ?_
                    subst h2
                    refine ⟨h1, _, R3, ?_, .inr ⟨rfl, rfl⟩, t.mono hG, foot_set hf rfl fun b hb => ?_⟩
                    · simp only [DiskC.pub, DiskC.numbered, set_pub]
                    · rcases hL b hb with h | h
                      · exact .inl h
                      · right; have := t2.size; omega
                  exact h.mono fun e w' ⟨h1, h2⟩ => ⟨10, _, h1, h2, by
                    have e9 : cutX s bl y D.pub = { D.pub with on := false, files := setA (nm s) { e0.file with blocks := e0.file.blocks ++ [cutB y.toNat bl] } D.pub.files, c := { D.pub.c with calls := D.pub.c.calls + 1, used := D.pub.c.used + 1, most := max D.pub.c.most (D.pub.c.used + 1) } } := by
                      unfold cutX
                      rw [hfp, hf]
                      rfl
                    rw [← e9]
                    exact OutX.part (by rw [hr]) hy⟩
                · have hc := put_gen V R s ho hn hf hs (c := c) (a := a) (by omega) hT hS.calls.1 hS.calls.2 (v := errV E 2) (Post := fun w2 w3 => Rep w3 lo p mf mt D.numbered.off) fun w2 bf bb bd V2 R2 _ _ _ _ =>
                    (carry_cut0 V2 R2 x y (by omega) _).mono fun e w3 ⟨h1, h2, h3⟩ => ⟨h1, h2, h3.mono (by simp)⟩
                  have h := Append_err2 (v := 10) (Post2 := fun w' => Did3 w w' lo p mf mt D D.pub.shut) hc fun w1 ⟨⟨w2, _, _, R3⟩, t⟩ => by
                    refine (answer_err (V.touch t hF).sents 2 (by omega) (by omega) (by omega)).mono fun e w' ⟨h1, h2⟩ => ?_
                    subst h2
                    exact ⟨h1, _, R3, rfl, .inr ⟨rfl, rfl⟩, t.mono hG, fun b hb => .inl hb⟩
                  exact h.mono fun e w' ⟨h1, h2⟩ => ⟨10, _, h1, h2, OutX.shut (by rw [hr]) hy⟩
              · have h := Append_ok2 V R s ho hn hf hs hl (by rw [hl]; exact hh.cap) hsrc ha hap ham (by omega) hT (by simp [k1]) (by simp [k2]) hS hcc
                refine h.mono fun e w1 ⟨h1, ⟨L, hR, hL⟩, ht⟩ => ⟨0, (appendA s bl D.pub).2, h1, ⟨_, hR, by rw [hr]; simp only [DiskC.pub, DiskC.numbered, set_pub, hs], .inr ⟨rfl, rfl⟩, ht.mono hG, foot_set hf rfl hL⟩, OutX.ok (by rw [hr]) k1 k2⟩
        · have hl' : bl.length ≠ D.pub.B := hl
          exact err 8 16 (by omega) (by omega) (by omega) rfl (by
            unfold appendA
            rw [if_pos hn, hfp, hf]
            simp only [Option.map_some, hs, Bool.false_eq_true, if_false]
            rw [if_pos hl']) (put_no V R s ho hn hf 8 (.inr (.inl ⟨hs, fun h => hl (hh.len.trans h), rfl⟩)))
  · exact err 3 11 (by omega) (by omega) (by omega) rfl (by unfold appendA; rw [if_neg hn]) (put_err s 3 _ (fun o1 o2 => find_bad ((V.alloc o1).alloc o2).sents ((R.alloc o1).alloc o2) s ho (by simpa using hn)) rfl)
end

end Go.Proofs.YtcpncfngadablaaGreatDoor
/-
  The landed disk, told exactly: Read under what befalls it; every call of a disk that is off.
-/
namespace Go.Proofs.YtcpncfngadablaaGreatDoor
open Go.RowKit Go.Deep

section
variable {w w' : World} {E : Nat → Addr} {lo p mf mt : Nat} {D : DiskC}

set_option maxHeartbeats 400000 in
theorem carry_fetch_cut (V : Env w lo E) (R : Rep w lo p mf mt D) (a b : Int) :
    Calls Tryz.prog 67 #[ptr p, .agg #[.int .i64 a, .int .i64 2, .int .i64 b], .func (.func 91) #[] #[]] w fun e w' => e = .returned (errV E 2) ∧ Rep w' lo p mf mt D.off ∧ Touch [p] w w' := by
  by_cases hb : 0 < b
  · have hlop : lo ≤ p := R.base p (by simp [DiskC.foot])
    have VO := V.touch R.off.2 (by simp; exact hlop)
    have c2 : ∀ o : Obj, ((w.setCell ⟨p, 2, none⟩ (.bool false)).alloc o).cell? ⟨2, 0, none⟩ = some (errV E 2) := fun o => (VO.alloc o).sents.var 2 (by omega)
    have k2 := R.cell 2
    simp only [dRow] at k2
    have f2 := R.unfrozen 2
    have HR := hid R.off
    have hp := lt_of_block R.row
    clear V VO
    go_enter Tryz.func67, Tryz.ntmps67
    go_wp2_with go_in
    go_end0
    go_wp2
    go_ret
    exact ⟨rfl, HR.out.1.alloc _, HR.out.2.alloc _⟩
  · exact carry_cut0 V R a b (by omega) _

set_option maxRecDepth 100000 in
set_option maxHeartbeats 400000 in
theorem fetch_no (V : Env w lo E) (R : Rep w lo p mf mt D) (s : ByteArray) (i : Int) (ho : D.on = true) (hn : nameB s = true) {e0 : Ent} (hf : findE D.ents (nm s) = some e0) (hs : e0.file.shut = true) (hi0 : 0 ≤ i) (hi1 : i < e0.file.blocks.length) {a k b : Int} (hT : TroubleIs D.T D.c.calls a k b) (hS : Small D.pub) {j : Nat} {Post : World → World → Prop}
    (HC : ∀ w3, Env w3 lo E → Rep w3 lo p mf mt D.numbered → Calls Tryz.prog 67 #[ptr p, .agg #[.int .i64 a, .int .i64 k, .int .i64 b], .func (.func 91) #[] #[]] w3 fun e w4 => e = .returned (errV E j) ∧ Post w3 w4 ∧ Touch [p] w3 w4) :
    Calls Tryz.prog 64 #[ptr p, .string s, .int .i64 i] w fun e w' => e = .returned (.tuple #[.slice none 0 0, errV E j]) ∧ (∃ w3, Rep w3 lo p mf mt D.numbered ∧ Post w3 w') ∧ Touch [p, mt] w w' := by
  have H := hid (find_some R s ho hn hf)
  have hm := (findE_mem hf).1
  have hat := R.each e0 hm
  have c0 := cell_row hat.row 0
  simp [hs] at c0
  have hd : decide (0 ≤ i ∧ i < (e0.file.blocks.length : Int)) = true := by simp; omega
  have h0 := hS.calls.1
  have h1 := hS.calls.2
  simp only [DiskC.pub] at h0 h1
  have HA := hid hat
  have HR := hid R
  have HV := hid V
  have HCC := hid HC
  have hlop : Hid (lo ≤ p ∧ lo ≤ mt) := hid ⟨R.base p (by simp [DiskC.foot]), R.base mt (by simp [DiskC.foot])⟩
  clear hf hs hat R hS V HC
  go_enter Tryz.func64, Tryz.ntmps64
  go_wp2_with (first
    | (go_at_call 65; refine H.out.mono ?_; rintro e w1 ⟨rfl, hq⟩; have d0 := (Quiet.cell hq _).trans c0; have HQ := hid hq; clear hq c0)
    | (go_at_call 90; refine (has_any (HA.out.kept fun b _ => by rw [Quiet.heap HQ.out]) i).mono ?_; rintro e w2 ⟨rfl, rfl⟩)
    | (go_at_call 68; refine (number_any (Quiet.rep HQ.out HR.out) hT h0 h1).mono ?_; rintro e w3 ⟨rfl, hR3, ht3⟩)
    | (go_at_call 67; refine (HCC.out w3 ((Quiet.env HQ.out HV.out).touch ht3 (by simp; exact hlop.out)) hR3).mono ?_; rintro e w4 ⟨rfl, hp4, ht4⟩))
  go_ret2
  exact ⟨rfl, ⟨w3, hR3, hp4⟩, ((Quiet.touch HQ.out [p, mt]).trans ht3 (by simp)).trans ht4 (by simp)⟩

set_option maxHeartbeats 400000 in
theorem Read_err2 {s : ByteArray} {i : Int} {j : Nat} {v : Int} {Post Post2 : World → Prop} (h : Calls Tryz.prog 64 #[ptr p, .string s, .int .i64 i] w fun e w' => e = .returned (.tuple #[.slice none 0 0, errV E j]) ∧ Post w')
    (ha : ∀ w1, Post w1 → Calls Tryz.prog 33 #[ptr p, errV E j] w1 fun e w' => e = .returned (.int .i64 v) ∧ Post2 w') :
    Calls Tryz.prog 28 #[ptr p, .string s, .int .i64 i] w fun e w' => e = .returned (.tuple #[.slice none 0 0, .int .i64 v]) ∧ Post2 w' := by
  have H := hid h
  have HA := hid ha
  clear h ha
  go_enter Tryz.func28, Tryz.ntmps28
  go_wp2_with (first | (go_at_call 64; refine H.out.mono ?_; rintro e w1 ⟨rfl, ht⟩; have HT := hid ht; clear ht) | (go_at_call 33; refine (HA.out _ HT.out).mono ?_; rintro e w2 ⟨rfl, hp⟩))
  go_ret2
  exact ⟨rfl, hp⟩

set_option maxRecDepth 100000 in
set_option maxHeartbeats 400000 in
theorem Read_ok2 (V : Env w lo E) (R : Rep w lo p mf mt D) (s : ByteArray) (i : Int) (ho : D.on = true) (hn : nameB s = true) {e0 : Ent} (hf : findE D.ents (nm s) = some e0) (hs : e0.file.shut = true) (hi0 : 0 ≤ i) (hi1 : i < e0.file.blocks.length) {a k b : Int} (hT : TroubleIs D.T D.c.calls a k b) (hk1 : (k == 1) = false) (hk2 : (k == 2) = false) (hS : Small D.pub) :
    Calls Tryz.prog 28 #[ptr p, .string s, .int .i64 i] w fun e w' => ∃ g, e = .returned (.tuple #[sliceV g D.B, .int .i64 0]) ∧ w.heap.size ≤ g ∧ BytesAt w' g (e0.file.blocks[i.toNat]'(by omega)) ∧ Rep w' lo p mf mt { D.numbered with c := { D.numbered.c with reads := D.c.reads + 1 } } ∧ Touch [p, mt] w w' := by
  have H := hid (fetch_ok R s i ho hn hf hs hi0 hi1 hT hk1 hk2 hS)
  have hF : ∀ b ∈ [p, mt], lo ≤ b := fun b hb => R.base b (by simp at hb; rcases hb with rfl | rfl <;> simp [DiskC.foot])
  have hr := hS.reads
  simp only [DiskC.pub] at hr
  obtain ⟨hr1, hr2⟩ := hr
  have hp := lt_of_block R.row
  clear hf hs R hS hT
  go_enter Tryz.func28, Tryz.ntmps28
  go_wp2_with (first
    | (go_at_call 64; refine H.out.mono ?_; rintro e w1 ⟨g, rfl, hg, hb1, hR1, ht1⟩; have k6 := hR1.cell 6; have f6 := hR1.unfrozen 6; simp only [dRow, DiskC.numbered] at k6; have HR1 := hid hR1; have HB1 := hid hb1; have HV1 := hid (V.touch ht1 hF); have HT1 := hid ht1; clear hR1 hb1 ht1)
    | (go_at_call 33; refine (answer_nil (E := E) (p := p) ?_).mono ?_; exact (HV1.out.touch (F := [p]) ((Touch.refl [p] w1).setCell (p := ⟨p, 6, none⟩) (by simp) _) (fun b hb => hF b (by simp at hb; simp [hb]))).sents; rintro e w2 ⟨rfl, rfl⟩))
  go_ret2
  have t1 : Touch [p] w1 (w1.setCell ⟨p, 6, none⟩ (.int .i64 (D.c.reads + 1))) := (Touch.refl [p] w1).setCell (by simp) _
  refine ⟨g, rfl, hg, ?_, HR1.out.setRow rfl rfl rfl t1 ?_, HT1.out.trans t1 (by simp)⟩
  · show (w1.setCell _ _).heap[g]? = _
    rw [Below.heap_setCell _ _ _ _ (by show g ≠ p; omega)]
    exact HB1.out
  · rw [heap_setCell_row HR1.out.row 6]
    rfl

/-- what a Read answers under a trouble. -/
def readX (s : ByteArray) (i k : Int) (A : PubA) : Option (List UInt8) × Int × PubA :=
  if (readA s i A).2.1 = 0 then (if k = 1 then (none, 9, A.faulted) else if k = 2 then (none, 10, A.shut) else readA s i A) else readA s i A

/-- as 'Did3', the disk's memory being where it was. -/
def DidIn3 (w w' : World) (lo p mf mt : Nat) (D : DiskC) (A' : PubA) : Prop :=
  ∃ D', Rep w' lo p mf mt D' ∧ D'.pub = A' ∧ ((D'.T = D.T ∧ D'.c.calls = D.c.calls) ∨ (D'.T = D.T.del (.int .i64 D.c.calls) ∧ D'.c.calls = D.c.calls + 1)) ∧ Touch (D.foot p mf mt) w w' ∧ D'.foot p mf mt = D.foot p mf mt

theorem Read_x (V : Env w lo E) (R : Rep w lo p mf mt D) (ho : D.on = true) (hS : Small D.pub) (hfl : 0 ≤ D.c.faults ∧ D.c.faults ≤ 1099511627776) {a k b : Int} (hT : TroubleIs D.T D.c.calls a k b) (s : ByteArray) (i : Int) :
    Calls Tryz.prog 28 #[ptr p, .string s, .int .i64 i] w fun e w' => ∃ v, e = .returned (.tuple #[v, .int .i64 (readX s i k D.pub).2.1]) ∧ Told1 w' w.heap.size D.B (readX s i k D.pub).1 v ∧ DidIn3 w w' lo p mf mt D (readX s i k D.pub).2.2 := by
  have hfp : findA D.pub.files (nm s) = (findE D.ents (nm s)).map Ent.file := find_pub _ _
  have err : ∀ (j : Nat) (r : Int), j < 11 → j ≠ 1 → j ≠ 9 → code j = r → r ≠ 0 → readA s i D.pub = (none, r, D.pub) → (Calls Tryz.prog 64 #[ptr p, .string s, .int .i64 i] w fun e w' => e = .returned (.tuple #[.slice none 0 0, errV E j]) ∧ Touch [] w w') →
      Calls Tryz.prog 28 #[ptr p, .string s, .int .i64 i] w fun e w' => ∃ v, e = .returned (.tuple #[v, .int .i64 (readX s i k D.pub).2.1]) ∧ Told1 w' w.heap.size D.B (readX s i k D.pub).1 v ∧ DidIn3 w w' lo p mf mt D (readX s i k D.pub).2.2 := fun j r hj h1 h9 hc h0 hr h => by
    have e9 : readX s i k D.pub = (none, r, D.pub) := by unfold readX; rw [hr, if_neg h0]
    rw [e9, ← hc]
    exact (Read_err V hj h1 h9 h).mono fun e w1 ⟨e1, ht⟩ => ⟨.slice none 0 0, e1, rfl, D, R.touch ht (by simp), rfl, .inl ⟨rfl, rfl⟩, ht.mono (by simp), rfl⟩
  by_cases hn : nameB s = true
  · cases hf : findE D.ents (nm s) with
    | none => exact err 4 12 (by omega) (by omega) (by omega) rfl (by decide) (by unfold readA; rw [if_pos hn, hfp, hf]; rfl) (fetch_err s i 4 (find_none V.sents R s ho hn hf))
    | some e0 =>
      cases hs : e0.file.shut with
      | false => exact err 7 15 (by omega) (by omega) (by omega) rfl (by decide) (by unfold readA; rw [if_pos hn, hfp, hf]; simp [hs]) (fetch_open V R s i ho hn hf hs)
      | true =>
        by_cases hi : 0 ≤ i ∧ i < e0.file.blocks.length
        · have hr : readA s i D.pub = (e0.file.blocks[i.toNat]?, 0, { D.pub with c := { D.pub.c with calls := D.pub.c.calls + 1, reads := D.pub.c.reads + 1 } }) := by
            unfold readA
            rw [if_pos hn, hfp, hf]
            simp only [Option.map_some, hs, if_true]
            rw [if_pos hi]
          have hG : ∀ b ∈ [p, mt], b ∈ D.foot p mf mt := fun b hb => by
            simp at hb
            rcases hb with rfl | rfl <;> simp [DiskC.foot]
          have hF : ∀ b ∈ [p, mt], lo ≤ b := fun b hb => R.base b (hG b hb)
          by_cases k1 : k = 1
          · subst k1
            have e9 : readX s i 1 D.pub = (none, 9, D.pub.faulted) := by unfold readX; rw [hr, if_pos rfl, if_pos rfl]
            rw [e9]
            have hc := fetch_no V R s i ho hn hf hs hi.1 hi.2 hT hS (j := 1) (Post := fun w3 w4 => Touch [] w3 w4) fun w3 V3 R3 => (carry_fault V3 a b _).mono fun e w4 ⟨h1, h2⟩ => ⟨h1, h2, h2.mono (by simp)⟩
            have h := Read_err2 (v := 9) (Post2 := fun w' => DidIn3 w w' lo p mf mt D D.pub.faulted) hc fun w1 ⟨⟨w3, R3, t3⟩, t⟩ => by
              have R1 : Rep w1 lo p mf mt D.numbered := R3.touch t3 (by simp)
              refine (answer_fault (V.touch t hF) R1 hfl.1 hfl.2).mono fun e w' ⟨h1, h2, h3⟩ => ⟨h1, _, h2, rfl, .inr ⟨rfl, rfl⟩, ?_, rfl⟩
              exact (t.mono hG).trans (h3.mono (G := D.foot p mf mt) (by simp [DiskC.foot])) (fun b hb => .inl hb)
            exact h.mono fun e w' ⟨h1, h2⟩ => ⟨_, h1, rfl, h2⟩
          · by_cases k2 : k = 2
            · subst k2
              have e9 : readX s i 2 D.pub = (none, 10, D.pub.shut) := by unfold readX; rw [hr, if_pos rfl, if_neg (by decide), if_pos rfl]
              rw [e9]
              have hc := fetch_no V R s i ho hn hf hs hi.1 hi.2 hT hS (j := 2) (Post := fun w3 w4 => Rep w4 lo p mf mt D.numbered.off) fun w3 V3 R3 => (carry_fetch_cut V3 R3 a b).mono fun e w4 ⟨h1, h2, h3⟩ => ⟨h1, h2, h3⟩
              have h := Read_err2 (v := 10) (Post2 := fun w' => DidIn3 w w' lo p mf mt D D.pub.shut) hc fun w1 ⟨⟨w3, _, R3⟩, t⟩ => by
                refine (answer_err (V.touch t hF).sents 2 (by omega) (by omega) (by omega)).mono fun e w' ⟨h1, h2⟩ => ?_
                subst h2
                exact ⟨h1, _, R3, rfl, .inr ⟨rfl, rfl⟩, t.mono hG, rfl⟩
              exact h.mono fun e w' ⟨h1, h2⟩ => ⟨_, h1, rfl, h2⟩
            · have e9 : readX s i k D.pub = readA s i D.pub := by unfold readX; rw [if_neg k1, if_neg k2]; split <;> rfl
              rw [e9, hr]
              refine (Read_ok2 V R s i ho hn hf hs hi.1 hi.2 hT (by simp [k1]) (by simp [k2]) hS).mono fun e w1 ⟨g, e1, hg, hb, hR, ht⟩ => ⟨sliceV g D.B, e1, ?_, _, hR, rfl, .inr ⟨rfl, rfl⟩, ht.mono hG, rfl⟩
              rw [List.getElem?_eq_getElem (by omega)]
              refine ⟨g, rfl, hg, hb, ?_⟩
              exact ((R.each e0 (findE_mem hf).1).at (i := i.toNat) (by omega)).choose_spec.choose_spec.choose_spec.2.2.2.1
        · exact err 8 16 (by omega) (by omega) (by omega) rfl (by decide) (by unfold readA; rw [if_pos hn, hfp, hf]; simp only [Option.map_some, hs, if_true]; rw [if_neg hi]) (fetch_out V R s i ho hn hf hs hi)
  · exact err 3 11 (by omega) (by omega) (by omega) rfl (by decide) (by unfold readA; rw [if_neg hn]) (fetch_err s i 3 (find_bad V.sents R s ho (by simpa using hn)))

/-! ### a disk that is off -/
theorem Create_off (V : Env w lo E) (R : Rep w lo p mf mt D) (ho : D.on = false) (s : ByteArray) :
    Calls Tryz.prog 9 #[ptr p, .string s] w fun e w' => e = .returned (.int .i64 10) ∧ Did3 w w' lo p mf mt D D.pub := by
  have h := Create_of (i := some 2) (create_off V R s ho) (v := 10) fun w1 ht => answer_err (V.touch ht (by simp)).sents 2 (by omega) (by omega) (by omega)
  exact h.mono fun e w1 ⟨h1, h2⟩ => ⟨h1, Did3.same R h2⟩
theorem Seal_off (V : Env w lo E) (R : Rep w lo p mf mt D) (ho : D.on = false) (s : ByteArray) :
    Calls Tryz.prog 12 #[ptr p, .string s] w fun e w' => e = .returned (.int .i64 10) ∧ Did3 w w' lo p mf mt D D.pub := by
  have h := Seal_of (i := some 2) (seal_err s 2 (find_off V.sents R s ho)) (v := 10) fun w1 ht => answer_err (V.touch ht (by simp)).sents 2 (by omega) (by omega) (by omega)
  exact h.mono fun e w1 ⟨h1, h2⟩ => ⟨h1, Did3.same R h2⟩
theorem Delete_off (V : Env w lo E) (R : Rep w lo p mf mt D) (ho : D.on = false) (s : ByteArray) :
    Calls Tryz.prog 16 #[ptr p, .string s] w fun e w' => e = .returned (.int .i64 10) ∧ Did3 w w' lo p mf mt D D.pub := by
  have h := Delete_of (i := some 2) (drop_err s 2 fun o1 o2 => find_off ((V.alloc o1).alloc o2).sents ((R.alloc o1).alloc o2) s ho) (v := 10) fun w1 ht => answer_err (V.touch ht (by simp)).sents 2 (by omega) (by omega) (by omega)
  exact h.mono fun e w1 ⟨h1, h2⟩ => ⟨h1, Did3.same R h2⟩
theorem Append_off (V : Env w lo E) (R : Rep w lo p mf mt D) (ho : D.on = false) (s : ByteArray) (sa : Option Addr) (n c : Nat) :
    Calls Tryz.prog 10 #[ptr p, .string s, .slice sa n c] w fun e w' => e = .returned (.int .i64 10) ∧ Did3 w w' lo p mf mt D D.pub := by
  have h2 := Append_err2 (v := 10) (Post2 := fun w' => Did3 w w' lo p mf mt D D.pub) (put_err s 2 (.slice sa n c) (fun o1 o2 => find_off ((V.alloc o1).alloc o2).sents ((R.alloc o1).alloc o2) s ho) rfl) fun w1 ht => (answer_err (V.touch ht (by simp)).sents 2 (by omega) (by omega) (by omega)).mono fun e w2 ⟨e1, e2⟩ => ⟨e1, by subst e2; exact Did3.same R ht⟩
  exact h2
theorem Read_off (V : Env w lo E) (R : Rep w lo p mf mt D) (ho : D.on = false) (s : ByteArray) (i : Int) :
    Calls Tryz.prog 28 #[ptr p, .string s, .int .i64 i] w fun e w' => ∃ v, e = .returned (.tuple #[v, .int .i64 10]) ∧ Told1 w' w.heap.size D.B none v ∧ DidIn3 w w' lo p mf mt D D.pub :=
  (Read_err V (j := 2) (by omega) (by omega) (by omega) (fetch_err s i 2 (find_off V.sents R s ho))).mono fun e w1 ⟨e1, ht⟩ => ⟨.slice none 0 0, e1, rfl, D, R.touch ht (by simp), rfl, .inl ⟨rfl, rfl⟩, ht.mono (by simp), rfl⟩
theorem Length_off (V : Env w lo E) (R : Rep w lo p mf mt D) (ho : D.on = false) (s : ByteArray) :
    Calls Tryz.prog 29 #[ptr p, .string s] w fun e w' => e = .returned (.tuple #[.int .i64 0, .bool false, .int .i64 10]) ∧ Touch [] w w' :=
  Length_err V s 2 (by omega) (find_off V.sents R s ho)
set_option maxHeartbeats 400000 in
theorem Names_off (R : Rep w lo p mf mt D) (ho : D.on = false) :
    Calls Tryz.prog 30 #[ptr p] w fun e w' => e = .returned (.slice none 0 0) ∧ Touch [] w w' := by
  have k2 := R.cell 2
  simp only [dRow, ho] at k2
  go_enter Tryz.func30, Tryz.ntmps30
  go_wp2
  go_ret
  exact ⟨rfl, Touch.refl [] w⟩
end

end Go.Proofs.YtcpncfngadablaaGreatDoor
