import Derived.Test.YtcpncfngadablaaGreatDoorZ12
/-
  The landed disk and the document's: what both hold, and what each call makes of it.
-/
namespace Go.Proofs.YtcpncfngadablaaGreatDoor
open Go.RowKit Go.Deep ShfKit
set_option linter.unusedSimpArgs false

theorem nm_mk (s : ByteArray) : (⟨(nm s).toArray⟩ : ByteArray) = s := by cases s; simp [nm]
/-- the names rise. -/
def Rise (l : List (List UInt8 × FileA)) : Prop := l.Pairwise fun a b => bytesBefore a.1 b.1 = true
theorem before_not {a b : List UInt8} (h : bytesBefore a b = true) : bytesBefore b a = false := by
  cases hb : bytesBefore b a with
  | false => rfl
  | true =>
    have := WideShapes.bytes_trans _ _ _ h hb
    rw [WideAt.bytes_irrefl] at this
    cases this
theorem before_ne {a b : List UInt8} (h : bytesBefore a b = true) : a ≠ b := fun e => by
  subst e
  rw [WideAt.bytes_irrefl] at h
  cases h
/-- a list parted at a name's place. -/
theorem Rise.part {key : List UInt8} : ∀ {l : List (List UInt8 × FileA)}, Rise l → ∃ A C, l = A ++ C ∧ A.length = findI (l.map Prod.fst) key ∧ (∀ a ∈ A, bytesBefore a.1 key = true) ∧ ∀ c ∈ C, bytesBefore c.1 key = false
  | [], _ => ⟨[], [], rfl, rfl, by simp, by simp⟩
  | x :: r, h => by
    obtain ⟨hx, hr⟩ := List.pairwise_cons.1 h
    cases hb : bytesBefore x.1 key with
    | false =>
      refine ⟨[], x :: r, rfl, ?_, by simp, fun c hc => ?_⟩
      · simp [findI, hb]
      · rcases List.mem_cons.1 hc with rfl | hc
        · exact hb
        · cases hq : bytesBefore c.1 key with
          | false => rfl
          | true =>
            have := WideShapes.bytes_trans _ _ _ (hx c hc) hq
            rw [hb] at this
            cases this
    | true =>
      obtain ⟨A, C, e, hl, hA, hC⟩ := Rise.part (key := key) hr
      refine ⟨x :: A, C, by rw [e]; rfl, ?_, fun a ha => ?_, hC⟩
      · have : findI ((x :: r).map Prod.fst) key = findI (r.map Prod.fst) key + 1 := by simp [findI, hb]
        rw [this, List.length_cons, hl]
      · rcases List.mem_cons.1 ha with rfl | ha
        · exact hb
        · exact hA a ha
theorem find_none_of {l : List (List UInt8 × FileA)} {key : List UInt8} (h : ∀ x ∈ l, x.1 ≠ key) : findA l key = none := by
  unfold findA
  rw [List.find?_eq_none.2 (fun x hx => by simpa using h x hx)]
  rfl
theorem ins_part {key : List UInt8} {f : FileA} {C : List (List UInt8 × FileA)} (hC : ∀ c ∈ C, bytesBefore key c.1 = true) : ∀ {A : List (List UInt8 × FileA)}, (∀ a ∈ A, bytesBefore a.1 key = true) → insA (key, f) (A ++ C) = A ++ (key, f) :: C
  | [], _ => by
    cases C with
    | nil => rfl
    | cons c r =>
      have : (Lit.string key).before (.string c.1) = true := hC c (by simp)
      simp only [List.nil_append, insA]
      rw [this]
      rfl
  | a :: A, h => by
    have : (Lit.string key).before (.string a.1) = false := before_not (h a (by simp))
    simp only [List.cons_append, insA]
    rw [this]
    simp only [Bool.false_eq_true, if_false]
    rw [ins_part hC (fun x hx => h x (List.mem_cons_of_mem _ hx))]
/-- where a name is, or would be. -/
theorem Rise.at_ {key : List UInt8} {l : List (List UInt8 × FileA)} (h : Rise l) :
    (∃ A f C, l = A ++ (key, f) :: C ∧ A.length = findI (l.map Prod.fst) key ∧ findA l key = some f ∧ (∀ f', setA key f' l = A ++ (key, f') :: C) ∧ dropA key l = A ++ C) ∨
    (∃ A C, l = A ++ C ∧ A.length = findI (l.map Prod.fst) key ∧ (∀ x ∈ l, x.1 ≠ key) ∧ findA l key = none ∧ ∀ f, insA (key, f) l = A ++ (key, f) :: C) := by
  obtain ⟨A, C, e, hl, hA, hC⟩ := h.part (key := key)
  have nA : ∀ a ∈ A, a.1 ≠ key := fun a ha => before_ne (hA a ha)
  cases C with
  | nil =>
    refine .inr ⟨A, [], e, hl, ?_, ?_, fun f => by rw [e]; exact ins_part (by simp) hA⟩
    · intro x hx
      rw [e, List.append_nil] at hx
      exact nA x hx
    · rw [e, List.append_nil]
      exact find_none_of nA
  | cons c C =>
    by_cases hc : c.1 = key
    · obtain ⟨k, f⟩ := c
      simp only at hc
      subst hc
      have hp : ((k, f) :: C).Pairwise fun a b => bytesBefore a.1 b.1 = true := by
        have := h
        unfold Rise at this
        rw [e] at this
        exact (List.pairwise_append.1 this).2.1
      have nC : ∀ x ∈ C, x.1 ≠ k := fun x hx => (before_ne ((List.pairwise_cons.1 hp).1 x hx)).symm
      refine .inl ⟨A, f, C, e, hl, ?_, fun f' => ?_, ?_⟩
      · unfold findA
        rw [e, List.find?_append, List.find?_eq_none.2 (fun x hx => by simpa using nA x hx)]
        simp
      · rw [e]
        unfold setA
        rw [List.map_append, List.map_cons, if_pos rfl]
        congr 1
        · conv => rhs; rw [← List.map_id A]
          exact List.map_congr_left fun x hx => by simp [nA x hx]
        · congr 1
          conv => rhs; rw [← List.map_id C]
          exact List.map_congr_left fun x hx => by simp [nC x hx]
      · rw [e]
        unfold dropA
        rw [List.filter_append, List.filter_cons]
        simp only [decide_true, Bool.not_true, Bool.false_eq_true, if_false]
        congr 1
        · exact List.filter_eq_self.2 fun x hx => by simp [nA x hx]
        · exact List.filter_eq_self.2 fun x hx => by simp [nC x hx]
    · have hp : (c :: C).Pairwise fun a b => bytesBefore a.1 b.1 = true := by
        have := h
        unfold Rise at this
        rw [e] at this
        exact (List.pairwise_append.1 this).2.1
      have hck : bytesBefore key c.1 = true := by
        rcases WideAt.bytes_total _ _ hc with h1 | h1
        · rw [hC c (by simp)] at h1
          cases h1
        · exact h1
      have hCk : ∀ x ∈ c :: C, bytesBefore key x.1 = true := fun x hx => by
        rcases List.mem_cons.1 hx with rfl | hx
        · exact hck
        · exact WideShapes.bytes_trans _ _ _ hck ((List.pairwise_cons.1 hp).1 x hx)
      have nl : ∀ x ∈ l, x.1 ≠ key := fun x hx => by
        rw [e] at hx
        rcases List.mem_append.1 hx with h1 | h1
        · exact nA x h1
        · exact (before_ne (hCk x h1)).symm
      exact .inr ⟨A, c :: C, e, hl, nl, find_none_of nl, fun f => by rw [e]; exact ins_part hCk hA⟩

section
variable {R : RefD}
theorem RefD.names_pub (R : RefD) : R.names = R.pub.files.map Prod.fst := by
  unfold RefD.names RefD.pub
  simp only [List.map_map]
  rfl
theorem pub_at {k : Nat} {e : RFile} (h : R.fs[k]? = some e) : R.pub.files[k]? = some (e.name, e.file) := by
  unfold RefD.pub
  simp only [List.getElem?_map, h]
  rfl
/-- a name's place in the document's disk. -/
theorem RefD.at_ (hr : Rise R.pub.files) (key : List UInt8) :
    (∃ e, R.fs[findI R.names key]? = some e ∧ e.name = key ∧ R.has key = true ∧ findA R.pub.files key = some e.file ∧ (∀ f', setA key f' R.pub.files = R.pub.files.set (findI R.names key) (key, f')) ∧ dropA key R.pub.files = R.pub.files.take (findI R.names key) ++ R.pub.files.drop (findI R.names key + 1)) ∨
    (R.has key = false ∧ findA R.pub.files key = none ∧ ∀ f, insA (key, f) R.pub.files = R.pub.files.take (findI R.names key) ++ (key, f) :: R.pub.files.drop (findI R.names key)) := by
  have hnp := R.names_pub
  obtain ⟨i, hi⟩ : ∃ i, i = findI R.names key := ⟨_, rfl⟩
  rcases hr.at_ (key := key) with ⟨A, f, C, e, hl, hf, hs, hd⟩ | ⟨A, C, e, hl, hn, hf, hins⟩
  · rw [← hnp, ← hi] at hl
    have hg : R.pub.files[i]? = some (key, f) := by rw [e, ← hl]; simp
    have hlt : i < R.fs.length := by
      have := (List.getElem?_eq_some_iff.1 hg).1
      simpa [RefD.pub] using this
    obtain ⟨e0, he0⟩ : ∃ e0, R.fs[i]? = some e0 := ⟨_, List.getElem?_eq_getElem hlt⟩
    have h2 := pub_at he0
    rw [hg] at h2
    simp only [Option.some.injEq, Prod.mk.injEq] at h2
    obtain ⟨h2, h3⟩ := h2
    have hq : R.has key = true := by
      unfold RefD.has
      rw [← hi, hnp, List.getElem?_map, hg]
      simp
    left
    rw [← hi]
    refine ⟨e0, he0, h2.symm, hq, by rw [hf, h3], fun f' => ?_, ?_⟩
    · rw [hs f', e, ← hl]
      simp
    · rw [hd, e, ← hl]
      simp
  · rw [← hnp, ← hi] at hl
    have hq : R.has key = false := by
      unfold RefD.has
      rw [← hi, hnp, List.getElem?_map]
      cases hg : R.pub.files[i]? with
      | none => simp
      | some x =>
        have := hn x (List.mem_of_getElem? hg)
        simpa using this
    right
    rw [← hi]
    refine ⟨hq, hf, fun f => ?_⟩
    rw [hins f, e, ← hl]
    simp
end

/-! ### the calls, under what befalls them -/
def createB (s : ByteArray) (t : TrA) (A : PubA) : Int × PubA := if A.on then befX t.kind t.bytes A (createA s A) { (createA s A).2 with on := false } else (10, A)
def sealB (s : ByteArray) (t : TrA) (A : PubA) : Int × PubA := if A.on then befX t.kind t.bytes A (sealA s A) { (sealA s A).2 with on := false } else (10, A)
def deleteB (s : ByteArray) (t : TrA) (A : PubA) : Int × PubA := if A.on then befX (if t.kind = 1 then 0 else t.kind) t.bytes A (deleteA s A) { (deleteA s A).2 with on := false } else (10, A)
def appendB (s : ByteArray) (bl : List UInt8) (t : TrA) (A : PubA) : Int × PubA := if A.on then befX t.kind t.bytes A (appendA s bl A) (cutX s bl t.bytes A) else (10, A)
def readB (s : ByteArray) (i : Int) (t : TrA) (A : PubA) : Option (List UInt8) × Int × PubA := if A.on then readX s i t.kind A else (none, 10, A)
def lengthB (s : ByteArray) (A : PubA) : Int × Bool × Int := if A.on then lengthA s A else (0, false, 10)

section
variable {R : RefD}
theorem befall_cases (R : RefD) (b : Bool) :
    (R.troub.kind = 1 ∧ b = false ∧ R.befall b = (9, false, { R.called with c := { R.called.c with faults := R.c.faults + 1 } })) ∨
    (R.troub.kind = 2 ∧ R.befall b = (10, decide (0 < R.troub.bytes), { R.called with on := false })) ∨
    ((R.troub.kind ≠ 1 ∨ b = true) ∧ R.troub.kind ≠ 2 ∧ R.befall b = (0, true, R.called)) := by
  unfold RefD.befall RefD.met
  by_cases h1 : R.troub.kind = 1
  · rw [if_pos h1]
    cases b with
    | false => exact .inl ⟨h1, rfl, rfl⟩
    | true => exact .inr (.inr ⟨.inr rfl, by omega, rfl⟩)
  · rw [if_neg h1]
    by_cases h2 : R.troub.kind = 2
    · rw [if_pos h2]
      exact .inr (.inl ⟨h2, rfl⟩)
    · rw [if_neg h2]
      exact .inr (.inr ⟨.inl h1, h2, rfl⟩)

theorem seal_same (hr : Rise R.pub.files) (s : ByteArray) : ((R.sealR (nm s)).1, (R.sealR (nm s)).2.pub) = sealB s R.troub R.pub := by
  unfold sealB
  have hon : R.pub.on = R.on := rfl
  rw [hon]
  unfold RefD.sealR RefD.known
  cases ho : R.on with
  | false => simp
  | true =>
    simp only [if_true, nm_mk]
    unfold sealA
    cases hn : nameB s with
    | false => simp [befX]
    | true =>
      simp only [if_true]
      rcases R.at_ hr (nm s) with ⟨e, he, hen, hh, hf, hs, hd⟩ | ⟨hh, hf, hins⟩
      · rw [hh, hf, he]
        simp only [if_true]
        cases hsh : e.file.shut with
        | true => simp [befX]
        | false =>
          simp only [Bool.false_eq_true, if_false]
          have hfs : (R.fs.set (findI R.names (nm s)) e.sealed).map RFile.pub = setA (nm s) { e.file with shut := true } R.pub.files := by
            rw [hs]
            unfold RefD.pub
            simp only [List.map_set]
            simp [RFile.pub, RFile.sealed, hen]
          rcases befall_cases R false with ⟨h1, _, hb⟩ | ⟨h1, hb⟩ | ⟨h1, h2, hb⟩
          · rw [hb]
            simp only [befX, h1, if_true, Bool.false_eq_true, if_false]
            rfl
          · rw [hb]
            simp only [befX, h1, if_true]
            rw [if_neg (show ¬ (2 : Int) = 1 by decide)]
            by_cases hy : 0 < R.troub.bytes
            · simp only [hy, decide_true, if_true]
              refine Prod.ext rfl ?_
              show PubA.mk _ _ _ ((R.fs.set (findI R.names (nm s)) e.sealed).map RFile.pub) _ = _
              rw [hfs]
              rfl
            · simp only [hy, decide_false, if_false, Bool.false_eq_true]
              rfl
          · rw [hb]
            have h1' : R.troub.kind ≠ 1 := by simpa using h1
            simp only [befX, h1', h2, if_true, if_false]
            refine Prod.ext rfl ?_
            show PubA.mk _ _ _ ((R.fs.set (findI R.names (nm s)) e.sealed).map RFile.pub) _ = _
            rw [hfs]
            rfl
      · rw [hh, hf]
        simp [befX]
theorem create_same (hr : Rise R.pub.files) (s : ByteArray) : ((R.createR (nm s)).1, (R.createR (nm s)).2.pub) = createB s R.troub R.pub := by
  unfold createB
  have hon : R.pub.on = R.on := rfl
  rw [hon]
  unfold RefD.createR
  cases ho : R.on with
  | false => simp
  | true =>
    simp only [if_true, nm_mk]
    unfold createA
    cases hn : nameB s with
    | false => simp [befX]
    | true =>
      simp only [if_true]
      rcases R.at_ hr (nm s) with ⟨e, he, hen, hh, hf, hs, hd⟩ | ⟨hh, hf, hins⟩
      · rw [hh, hf]
        simp [befX]
      · rw [hh, hf]
        simp only [Option.isSome_none, Bool.false_eq_true, if_false]
        have hfs : (R.fs.take (findI R.names (nm s)) ++ RFile.fresh (nm s) :: R.fs.drop (findI R.names (nm s))).map RFile.pub = insA (nm s, ⟨false, []⟩) R.pub.files := by
          rw [hins]
          unfold RefD.pub
          simp [RFile.pub, RFile.fresh]
        rcases befall_cases R false with ⟨h1, _, hb⟩ | ⟨h1, hb⟩ | ⟨h1, h2, hb⟩
        · rw [hb]
          simp only [befX, h1, if_true, Bool.false_eq_true, if_false]
          rfl
        · rw [hb]
          simp only [befX, h1, if_true]
          rw [if_neg (show ¬ (2 : Int) = 1 by decide)]
          by_cases hy : 0 < R.troub.bytes
          · simp only [hy, decide_true, if_true]
            refine Prod.ext rfl ?_
            show PubA.mk _ _ _ ((R.fs.take (findI R.names (nm s)) ++ RFile.fresh (nm s) :: R.fs.drop (findI R.names (nm s))).map RFile.pub) _ = _
            rw [hfs]
            rfl
          · simp only [hy, decide_false, if_false, Bool.false_eq_true]
            rfl
        · rw [hb]
          have h1' : R.troub.kind ≠ 1 := by simpa using h1
          simp only [befX, h1', h2, if_true, if_false]
          refine Prod.ext rfl ?_
          show PubA.mk _ _ _ ((R.fs.take (findI R.names (nm s)) ++ RFile.fresh (nm s) :: R.fs.drop (findI R.names (nm s))).map RFile.pub) _ = _
          rw [hfs]
          rfl
theorem delete_same (hr : Rise R.pub.files) (s : ByteArray) (hm : R.c.used ≤ R.c.most) : ((R.delR (nm s)).1, (R.delR (nm s)).2.pub) = deleteB s R.troub R.pub := by
  unfold deleteB
  have hon : R.pub.on = R.on := rfl
  rw [hon]
  unfold RefD.delR RefD.known
  cases ho : R.on with
  | false => simp
  | true =>
    simp only [if_true, nm_mk]
    unfold deleteA
    cases hn : nameB s with
    | false => simp [befX]
    | true =>
      simp only [if_true]
      rcases R.at_ hr (nm s) with ⟨e, he, hen, hh, hf, hs, hd⟩ | ⟨hh, hf, hins⟩
      · rw [hh, hf, he]
        simp only [if_true]
        have hfs : (R.fs.take (findI R.names (nm s)) ++ R.fs.drop (findI R.names (nm s) + 1)).map RFile.pub = dropA (nm s) R.pub.files := by
          rw [hd]
          unfold RefD.pub
          simp
        have hmx : max R.pub.c.most (R.pub.c.used - e.file.blocks.length) = R.c.most := by
          show max R.c.most (R.c.used - e.file.blocks.length) = R.c.most
          omega
        rw [hmx]
        rcases befall_cases R true with ⟨_, h1, _⟩ | ⟨h1, hb⟩ | ⟨h1, h2, hb⟩
        · cases h1
        · rw [hb]
          simp only [befX, h1, if_true]
          rw [if_neg (show ¬ (2 : Int) = 1 by decide)]
          by_cases hy : 0 < R.troub.bytes
          · simp only [hy, decide_true, if_true]
            refine Prod.ext rfl ?_
            show PubA.mk _ _ _ ((R.fs.take (findI R.names (nm s)) ++ R.fs.drop (findI R.names (nm s) + 1)).map RFile.pub) _ = _
            rw [hfs]
            rfl
          · simp only [hy, decide_false, if_false, Bool.false_eq_true]
            rfl
        · rw [hb]
          have e1 : (if R.troub.kind = 1 then 0 else R.troub.kind) ≠ 1 := by split <;> omega
          have e2 : (if R.troub.kind = 1 then 0 else R.troub.kind) ≠ 2 := by split <;> omega
          simp only [befX, e1, e2, if_true, if_false]
          refine Prod.ext rfl ?_
          show PubA.mk _ _ _ ((R.fs.take (findI R.names (nm s)) ++ R.fs.drop (findI R.names (nm s) + 1)).map RFile.pub) _ = _
          rw [hfs]
          rfl
      · rw [hh, hf]
        simp [befX]
theorem read_same (hr : Rise R.pub.files) (s : ByteArray) (i : Int) : ((R.readR (nm s) i).2.1, (R.readR (nm s) i).1, (R.readR (nm s) i).2.2.pub) = readB s i R.troub R.pub := by
  unfold readB
  have hon : R.pub.on = R.on := rfl
  rw [hon]
  unfold RefD.readR RefD.known
  cases ho : R.on with
  | false => simp
  | true =>
    simp only [if_true, nm_mk]
    unfold readX readA
    cases hn : nameB s with
    | false => simp
    | true =>
      simp only [if_true]
      rcases R.at_ hr (nm s) with ⟨e, he, hen, hh, hf, hs, hd⟩ | ⟨hh, hf, hins⟩
      · rw [hh, hf, he]
        simp only [if_true]
        cases hsh : e.file.shut with
        | false => simp
        | true =>
          simp only [if_true]
          by_cases hi : 0 ≤ i ∧ i < (e.file.blocks.length : Int)
          · rw [if_neg (by omega), if_pos hi]
            simp only [if_true]
            rcases befall_cases R false with ⟨h1, _, hb⟩ | ⟨h1, hb⟩ | ⟨h1, h2, hb⟩
            · rw [hb]
              simp [h1]
              rfl
            · rw [hb]
              simp [h1]
              rfl
            · rw [hb]
              have h1' : R.troub.kind ≠ 1 := by simpa using h1
              simp only [h1', h2, if_true, if_false]
              rfl
          · rw [if_pos (by omega), if_neg hi]
            simp
      · rw [hh, hf]
        simp
theorem length_same (hr : Rise R.pub.files) (s : ByteArray) : lengthB s R.pub = (if (R.known (nm s)).2 = 0 then (match R.fs[findI R.names (nm s)]? with | some e => ((e.file.blocks.length : Int), e.file.shut, 0) | none => (0, false, 0)) else (0, false, (R.known (nm s)).2)) := by
  unfold lengthB
  have hon : R.pub.on = R.on := rfl
  rw [hon]
  unfold RefD.known
  cases ho : R.on with
  | false => simp
  | true =>
    simp only [if_true, nm_mk]
    unfold lengthA
    cases hn : nameB s with
    | false => simp
    | true =>
      simp only [if_true]
      rcases R.at_ hr (nm s) with ⟨e, he, hen, hh, hf, hs, hd⟩ | ⟨hh, hf, hins⟩
      · rw [hh, hf, he]
        simp
      · rw [hh, hf]
        simp
end
end Go.Proofs.YtcpncfngadablaaGreatDoor
/-
  The document's disk: Append.
-/
namespace Go.Proofs.YtcpncfngadablaaGreatDoor
open Go.RowKit Go.Deep ShfKit
set_option maxRecDepth 100000
abbrev RefD.fulled (R : RefD) : RefD := { R with c := { R.c with full := R.c.full + 1 } }
abbrev RefD.appended (R : RefD) : RefD := { R with c := { R.c with appends := R.c.appends + 1 } }
/-- what Append answers; v, bv: where the file's list and the new block lie. -/
def RefD.appR (R : RefD) (key : List UInt8) (bl : List UInt8) (v bv : Value) : Int × RefD :=
  if (R.known key).2 = 0 then
    match R.fs[findI R.names key]? with
    | none => (0, R)
    | some e => if e.file.shut then (14, R) else if bl.length ≠ R.B then (16, R) else if R.Bs ≤ R.c.used then (17, R.fulled) else
      if (R.befall false).2.1 then
        (if (R.befall false).1 = 0 then (0, ((R.befall false).2.2.grew (findI R.names key) e v bv bl).appended)
        else ((R.befall false).1, (R.befall false).2.2.grew (findI R.names key) e v bv (cutB R.troub.bytes.toNat bl)))
      else ((R.befall false).1, (R.befall false).2.2)
  else ((R.known key).2, R)
/-- Append has been called. -/
def AppDone (w w' : World) (R : RefD) (key bl : List UInt8) (e : Ending) : Prop :=
  ∃ v bv, e = .returned (.int .i64 (R.appR key bl v bv).1) ∧ RefAt w' (R.appR key bl v bv).2 ∧ Touch R.foot w w' ∧ ∀ b ∈ (R.appR key bl v bv).2.foot, b ∈ R.foot ∨ w.heap.size ≤ b
theorem cut_set {bl : List UInt8} {i : Nat} {c : UInt8} (h : bl[i]? = some c) : (Lib.byteCells (cutB i bl)).toArray.setIfInBounds i (.int .u8 (c.toNat : Int)) = (Lib.byteCells (cutB (i + 1) bl)).toArray := by
  have hi := (List.getElem?_eq_some_iff.1 h).1
  have h2 := (List.getElem?_eq_some_iff.1 h).2
  have e : cutB (i + 1) bl = (cutB i bl).set i c := by
    unfold cutB
    have hl : bl.length - i = (bl.length - (i + 1)) + 1 := by omega
    have ht : (bl.take i).length = i := by rw [List.length_take]; omega
    rw [hl, List.replicate_succ, List.set_append_right _ _ (by omega), ht, Nat.sub_self, List.set_cons_zero, List.take_succ_eq_append_getElem hi, h2, List.append_assoc]
    rfl
  rw [e]
  unfold Lib.byteCells
  simp
theorem cut_zero (bl : List UInt8) : madeCells #[(Value.int .u8 0)] bl.length = (Lib.byteCells (cutB 0 bl)).toArray := by
  have := made_zeros bl.length 0
  simp only [List.drop_zero, Nat.sub_zero] at this
  apply Array.toList_inj.1
  rw [this]
  simp [cutB]
theorem grew_foot {R : RefD} {k : Nat} {e : RFile} {v bv : Value} {bl : List UInt8} (he : R.fs[k]? = some e) (hl : e.vs.length = e.file.blocks.length) : ∀ b ∈ (R.grew k e v bv bl).foot, b ∈ R.foot ∨ v.ownBlock = some b ∨ bv.ownBlock = some b := fun b hb => by
  have s1 : ∀ {α : Type} {f : RFile → α} , (R.fs.set k (e.more v bv bl)).map f = (R.fs.map f).set k (f (e.more v bv bl)) := by intros; rw [List.map_set]
  unfold RefD.foot at hb ⊢
  simp only [List.mem_cons, List.mem_append] at hb ⊢
  rcases hb with h | h | h | h | h
  · exact .inl (.inl h)
  · exact .inl (.inr (.inl h))
  · exact .inl (.inr (.inr (.inl h)))
  · obtain ⟨j, x, hx, hg⟩ := mem_blks.1 h
    have hx2 : ((R.fs.set k (e.more v bv bl)).map RFile.r31)[j]? = some x := hx
    rw [s1, List.getElem?_set] at hx2
    split at hx2
    · split at hx2
      · simp only [Option.some.injEq] at hx2
        subst hx2
        exact .inr (.inl hg)
      · simp at hx2
    · exact .inl (.inr (.inr (.inr (.inl (mem_blks.2 ⟨j, x, hx2, hg⟩)))))
  · obtain ⟨j, x, hx, hg⟩ := mem_blks.1 h
    have hm := List.mem_of_getElem? hx
    obtain ⟨f, hf, hxf⟩ := List.mem_flatMap.1 hm
    have back : ∀ f' ∈ R.fs, x ∈ f'.r5 R.B → b ∈ blks (R.fs.flatMap (RFile.r5 R.B)) := fun f' h1 h2 => by
      obtain ⟨q, hq⟩ := List.getElem?_of_mem (List.mem_flatMap.2 ⟨f', h1, h2⟩)
      exact mem_blks.2 ⟨q, x, hq, hg⟩
    have hf2 : f ∈ R.fs.set k (e.more v bv bl) := hf
    rcases List.mem_or_eq_of_mem_set hf2 with h1 | h1
    · exact .inl (.inr (.inr (.inr (.inr (back f h1 hxf)))))
    · subst h1
      have hx3 : x ∈ (e.more v bv bl).r5 R.B := hxf
      unfold RFile.r5 RFile.more at hx3
      simp only [List.mem_map] at hx3
      obtain ⟨⟨a, c⟩, hz, rfl⟩ := hx3
      rw [List.zip_append hl] at hz
      rcases List.mem_append.1 hz with h2 | h2
      · exact .inl (.inr (.inr (.inr (.inr (back e (List.mem_of_getElem? he) (by unfold RFile.r5; exact List.mem_map.2 ⟨(a, c), h2, rfl⟩))))))
      · simp at h2
        obtain ⟨rfl, rfl⟩ := h2
        exact .inr (.inr hg)
set_option maxHeartbeats 4000000 in
theorem rAppend_any {w : World} {R : RefD} (h : RefAt w R) (key : List UInt8) (hk : key.length ≤ 1099511627776) (hn : R.fs.length ≤ 1099511627776) (hc : 0 ≤ R.c.calls ∧ R.c.calls ≤ 1099511627776) (hf : 0 ≤ R.c.faults ∧ R.c.faults ≤ 1099511627776) (hl : R.trs.length ≤ 1099511627776) (hu : 0 ≤ R.c.used ∧ R.c.used ≤ 1099511627776) (hfu : 0 ≤ R.c.full ∧ R.c.full ≤ 1099511627776) (hap : 0 ≤ R.c.appends ∧ R.c.appends ≤ 1099511627776) (hbl : ∀ e ∈ R.fs, e.file.blocks.length < 1099511627776) (hB : 0 < R.B) (hB2 : R.B ≤ 65536)
    {bl : List UInt8} {sa : Option Addr} {m sc : Nat} (hs : Shows w sa m sc bl) (hsp : ∀ a, sa = some a → a.block ≠ R.p) :
    Calls Tryz.prog 79 #[.pointer (some ⟨R.p, 0, none⟩), encStr key, .slice sa m sc] w fun e w' => AppDone w w' R key bl e := by
  have HK := hid (known_any h key hk hn)
  have hm := hs.len
  obtain ⟨p, hp⟩ : ∃ p, p = R.p := ⟨_, rfl⟩
  rw [← hp] at HK ⊢
  have PF : Hid (p ∈ R.foot) := by rw [hp]; show _ ∈ _; simp [RefD.foot]
  by_cases hcd : (R.known key).2 = 0
  · obtain ⟨h1, _, _, e0, he0, _⟩ := R.known_at hcd
    rw [h1, hcd] at HK
    obtain ⟨G, gc, hfv, hG, _, c1, _, _⟩ := h.file he0
    obtain ⟨i, hi⟩ : ∃ i, i = findI R.names key := ⟨_, rfl⟩
    obtain ⟨n, hnn⟩ : ∃ n, n = R.fs.length := ⟨_, rfl⟩
    rw [← hi] at HK he0 c1
    have hin : i < n := by rw [hnn]; exact (List.getElem?_eq_some_iff.1 he0).1
    have hlt1 : (i : Int) < (n : Int) := by omega
    have i0 : (0 : Int) ≤ (i : Int) := by omega
    have hpl : p < w.heap.size := by rw [hp]; exact lt_of_block h.row
    have p2 : w.cell? ⟨p, 2, none⟩ = some (.slice (some ⟨G, 0, none⟩) n gc) := by
      rw [hp, cell_row h.row]
      show some R.fv = _
      rw [hfv, hnn]
    obtain ⟨B, hBB⟩ : ∃ B, B = R.B := ⟨_, rfl⟩
    obtain ⟨Bs, hBs⟩ : ∃ Bs, Bs = R.Bs := ⟨_, rfl⟩
    obtain ⟨us, hus⟩ : ∃ us, us = R.c.used := ⟨_, rfl⟩
    obtain ⟨fu, hfuu⟩ : ∃ fu, fu = R.c.full := ⟨_, rfl⟩
    have p0 : w.cell? ⟨p, 0, none⟩ = some (.int .i64 (B : Int)) := by rw [hp, cell_row h.row, hBB]; rfl
    have p1 : w.cell? ⟨p, 1, none⟩ = some (.int .i64 Bs) := by rw [hp, cell_row h.row, hBs]; rfl
    have p9 : w.cell? ⟨p, 9, none⟩ = some (.int .i64 us) := by rw [hp, cell_row h.row, hus]; rfl
    have p8 : w.cell? ⟨p, 8, none⟩ = some (.int .i64 fu) := by rw [hp, cell_row h.row, hfuu]; rfl
    have upq : Hid (∀ w2, Quiet w w2 → w2.cell? ⟨p, 2, none⟩ = some (.slice (some ⟨G, 0, none⟩) n gc) ∧ w2.cell? ⟨G, i * 3 + 1, none⟩ = some (.bool e0.file.shut) ∧ w2.cell? ⟨p, 0, none⟩ = some (.int .i64 (B : Int)) ∧ w2.cell? ⟨p, 1, none⟩ = some (.int .i64 Bs) ∧ w2.cell? ⟨p, 9, none⟩ = some (.int .i64 us) ∧ w2.cell? ⟨p, 8, none⟩ = some (.int .i64 fu) ∧ w2.frozen? ⟨p, 8, none⟩ = false) := fun w2 hq => by
      have hb := quiet_below hq
      exact ⟨(hb.cell (p := ⟨p, 2, none⟩) hpl).trans p2, (hb.cell (p := ⟨G, i * 3 + 1, none⟩) hG).trans c1, (hb.cell (p := ⟨p, 0, none⟩) hpl).trans p0, (hb.cell (p := ⟨p, 1, none⟩) hpl).trans p1, (hb.cell (p := ⟨p, 9, none⟩) hpl).trans p9, (hb.cell (p := ⟨p, 8, none⟩) hpl).trans p8, by rw [Quiet.frozen hq, hp]; exact unfrozen_row h.row 8⟩
    rw [← hBB] at hB hB2
    rw [← hus] at hu
    rw [← hfuu] at hfu
    cases hsh : e0.file.shut with
    | true =>
      have HS : Hid (∀ v bv, R.appR key bl v bv = (14, R)) := by intro v bv; unfold RefD.appR; rw [if_pos hcd, ← hi, he0]; simp [hsh]
      have HR := hid h
      rw [hsh] at upq
      clear h hp h1 he0 hfv hcd hi hnn p2 c1 hsh hs hsp hm hBB hBs hus hfuu p0 p1 p9 p8 hbl
      go_enter Tryz.func79, Tryz.ntmps79
      go_wp2_with (go_at_call 99; refine HK.out.mono ?_; rintro e w2 ⟨rfl, hq⟩; obtain ⟨d0, d1, d2, d3, d4, d5, d6⟩ := upq.out _ hq; have HQ := hid hq; clear hq)
      go_ret
      refine ⟨.nilIface, .nilIface, ?_⟩
      rw [HS.out]
      exact ⟨rfl, HR.out.below (quiet_below HQ.out), Touch.of_below (quiet_below HQ.out) (Nat.le_refl _), fun b hb => .inl hb⟩
    | false =>
      rw [hsh] at upq
      by_cases hmB : m = B
      · by_cases hfull : Bs ≤ us
        · have HS : Hid (∀ v bv, R.appR key bl v bv = (17, R.fulled)) := by
            intro v bv
            unfold RefD.appR
            rw [if_pos hcd, ← hi, he0]
            simp only [hsh, Bool.false_eq_true, if_false]
            rw [if_neg (by rw [hm, hmB, hBB]; simp), if_pos (by rw [← hBs, ← hus]; exact hfull)]
          have hnb : ((m : Int) != (B : Int)) = false := by simp [hmB]
          have V1 : IntKind.i64.wrap (fu + 1) = fu + 1 := by rw [IntKind.wrap_i64]; omega
          have FIN : Hid (∀ w2, Quiet w w2 → RefAt (w2.setCell ⟨p, 8, none⟩ (.int .i64 (fu + 1))) R.fulled) := fun w2 hq => by
            have hr := h.below (quiet_below hq)
            rw [hp, hfuu]
            exact hr.reset rfl rfl rfl rfl rfl rfl (heap_setCell_row hr.row 8 _) (But.setCell hr.row _)
          clear h hp h1 he0 hfv hcd hi hnn p2 c1 hsh hs hsp hm hBB hBs hus hfuu p0 p1 p9 p8 hbl hmB
          go_enter Tryz.func79, Tryz.ntmps79
          go_wp2_with (go_at_call 99; refine HK.out.mono ?_; rintro e w2 ⟨rfl, hq⟩; obtain ⟨d0, d1, d2, d3, d4, d5, d6⟩ := upq.out _ hq; have HQ := hid hq; clear hq)
          go_quiet (fail)
          go_wp2
          go_ret
          refine ⟨.nilIface, .nilIface, ?_⟩
          rw [HS.out]
          refine ⟨rfl, FIN.out _ (quiet_more HQ.out _), ?_, fun b hb => .inl hb⟩
          exact ((Touch.of_below (F := R.foot) (quiet_below (quiet_more HQ.out _)) (Nat.le_refl _))).setCell (.inl PF.out) _
        · obtain ⟨a, hsa, hal, hcl⟩ := hs.at_ (by omega)
          subst hsa
          have hapn : a.block ≠ p := by rw [hp]; exact hsp a rfl
          obtain ⟨t, ht⟩ : ∃ t, t = R.troub := ⟨_, rfl⟩
          obtain ⟨c, hcde⟩ : ∃ c, c = (R.befall false).1 := ⟨_, rfl⟩
          obtain ⟨d, hdn⟩ : ∃ d, d = (R.befall false).2.1 := ⟨_, rfl⟩
          obtain ⟨R2, hR2⟩ : ∃ R2, R2 = (R.befall false).2.2 := ⟨_, rfl⟩
          obtain ⟨ap, happ⟩ : ∃ ap, ap = R.c.appends := ⟨_, rfl⟩
          rw [← happ] at hap
          have ways : (c = 9 ∧ d = false) ∨ (c = 10 ∧ d = decide (0 < t.bytes)) ∨ (c = 0 ∧ d = true) := by
            rw [hcde, hdn, ht]
            unfold RefD.befall RefD.met
            by_cases q1 : R.troub.kind = 1
            · rw [if_pos q1]; exact .inl ⟨rfl, rfl⟩
            · rw [if_neg q1]
              by_cases q2 : R.troub.kind = 2
              · rw [if_pos q2]; exact .inr (.inl ⟨rfl, rfl⟩)
              · rw [if_neg q2]; exact .inr (.inr ⟨rfl, rfl⟩)
          have hkp := R.called.met_keeps R.troub false
          have k1 : R2.fs = R.fs := by rw [hR2]; exact hkp.1
          have k2 : R2.fv = R.fv := by rw [hR2]; exact hkp.2.1
          have k3 : R2.p = R.p := by rw [hR2]; exact hkp.2.2.1
          have k4 : R2.foot = R.foot := by rw [hR2]; exact hkp.2.2.2.1
          have k6 : R2.B = R.B := by rw [hR2]; exact hkp.2.2.2.2
          have k7 : R2.c.appends = ap ∧ R2.c.used = us := by
            rw [hR2, happ, hus]
            unfold RefD.befall RefD.met
            (repeat' split) <;> exact ⟨rfl, rfl⟩
          have HS : Hid (∀ v bv, R.appR key bl v bv = if d then (if c = 0 then (0, (R2.grew i e0 v bv bl).appended) else (c, R2.grew i e0 v bv (cutB t.bytes.toNat bl))) else (c, R2)) := by
            intro v bv
            unfold RefD.appR
            rw [if_pos hcd, ← hi, he0]
            simp only [hsh, Bool.false_eq_true, if_false]
            rw [if_neg (by rw [hm, hmB, hBB]; simp), if_neg (by rw [← hBs, ← hus]; exact hfull), ← hdn, ← hcde, ← hR2, ← ht]
          have C97 : Hid (∀ w2, Quiet w w2 → Calls Tryz.prog 97 #[.pointer (some ⟨p, 0, none⟩)] w2 fun e w' => e = .returned (.agg #[.int .i64 t.at_, .int .i64 t.kind, .int .i64 t.bytes]) ∧ RefAt w' R.called ∧ Touch [p] w2 w') := fun w2 hq => by
            have r := trouble_any (h.below (quiet_below hq)) hc hl
            rw [← ht, ← hp] at r
            exact r
          have C98 : Hid (∀ W4, RefAt W4 R.called → Calls Tryz.prog 98 #[.pointer (some ⟨p, 0, none⟩), .agg #[.int .i64 t.at_, .int .i64 t.kind, .int .i64 t.bytes], .bool false] W4 fun e w' => e = .returned (.tuple #[.int .i64 c, .bool d]) ∧ RefAt w' R2 ∧ Touch [p] W4 w') := fun W4 hr => by
            have r := met_any hr t false hf
            have e1 : R.called.met t false = R.befall false := by unfold RefD.befall; rw [ht]
            rw [e1, ← hcde, ← hdn, ← hR2] at r
            rw [hp]
            exact r
          have hmm : bl.length = B := by rw [hm, hmB]
          have he2 : R2.fs[i]? = some e0 := by rw [k1]; exact he0
          have GROW : Hid (∀ W g bl', RefAt W R2 → W.ownsRow 0 5 1 (.slice (some ⟨g, 0, none⟩) B B) B (Lib.byteCells bl') → g ∉ blks (R2.fs.flatMap (RFile.r5 R2.B)) → Calls Tryz.prog 100 #[.pointer (some ⟨p, 0, none⟩), .int .i64 (i : Int), .slice (some ⟨g, 0, none⟩) B B] W fun e w' => e = .returned (.tuple #[]) ∧ ∃ v, RefAt w' (R2.grew i e0 v (.slice (some ⟨g, 0, none⟩) B B) bl') ∧ Touch R.foot W w' ∧ ∀ g, v.ownBlock = some g → g ∈ R.foot ∨ W.heap.size ≤ g) := fun W g bl' hr ho hg => by
            have e1 : B = R2.B := by rw [hBB, k6]
            have r := grow_any hr he2 (bs := some ⟨g, 0, none⟩) (bc := B) (bl := bl') (by rw [← e1]; exact ho) (fun g' h' => by simp only [Value.ownBlock, Option.some.injEq] at h'; subst h'; exact hg) (hbl e0 (List.mem_of_getElem? he0)) (by rw [k7.2]; exact hu)
            rw [← e1, k3, ← hp, k4] at r
            exact r
          have APP : Hid (∀ W v bv bl', RefAt W (R2.grew i e0 v bv bl') → W.cell? ⟨p, 6, none⟩ = some (.int .i64 ap) ∧ W.frozen? ⟨p, 6, none⟩ = false ∧ RefAt (W.setCell ⟨p, 6, none⟩ (.int .i64 (ap + 1))) (R2.grew i e0 v bv bl').appended) := fun W v bv bl' hr => by
            have e1 : p = (R2.grew i e0 v bv bl').p := by show p = R2.p; rw [k3]; exact hp
            have e2 : ap = (R2.grew i e0 v bv bl').c.appends := k7.1.symm
            rw [e1, e2]
            exact ⟨cell_row hr.row 6, unfrozen_row hr.row 6, hr.reset rfl rfl rfl rfl rfl rfl (heap_setCell_row hr.row 6 _) (But.setCell hr.row _)⟩
          have FOOT : Hid (∀ v bv bl' w5, (∀ b, v.ownBlock = some b → b ∈ R.foot ∨ w5 ≤ b) → (∀ b, bv.ownBlock = some b → w5 ≤ b) → ∀ b ∈ (R2.grew i e0 v bv bl').foot, b ∈ R.foot ∨ w5 ≤ b) := fun v bv bl' w5 h1 h2 b hb => by
            rcases grew_foot he2 (h.len e0 (List.mem_of_getElem? he0)) b hb with h3 | h3 | h3
            · rw [k4] at h3
              exact .inl h3
            · exact h1 b h3
            · exact .inr (h2 b h3)
          have P0 : Hid (∀ w5, RefAt w5 R2 → w5.cell? ⟨p, 0, none⟩ = some (.int .i64 (B : Int)) ∧ ∀ b ∈ blks (R2.fs.flatMap (RFile.r5 R2.B)), b < w5.heap.size) := fun w5 hr => by
            refine ⟨?_, blks_lt hr.f5⟩
            rw [hp, ← k3, cell_row hr.row, hBB, ← k6]
            rfl
          have SRC : Hid (∀ W F, Touch F w W → a.block ∉ F → ∀ (j : Nat) c, bl[j]? = some c → W.cell? (a.add j) = some (.int .u8 (c.toNat : Int))) := fun W F ht hF j c hj => by
            have hadd : (a.add j).block = a.block := by unfold Addr.add; split <;> rfl
            rw [ht.cell (p := a.add j) (by rw [hadd]; exact hal) (by rw [hadd]; exact hF)]
            exact hcl j _ (by unfold Lib.byteCells; rw [List.getElem?_map, hj]; rfl)
          have K4 := hid k4
          have HPP : Hid (p = R.called.p) := hp
          have HMM := hid hmm
          have HPA := hid hapn
          have HAL := hid hal
          have hnb : ((m : Int) != (B : Int)) = false := by simp [hmB]
          have V1 : IntKind.i64.wrap (ap + 1) = ap + 1 := by rw [IntKind.wrap_i64]; omega
          clear h hp h1 he0 hfv hcd hi hnn p2 c1 hsh hs hsp hm hBB hBs hus hfuu p0 p1 p9 p8 hbl ht hcde hdn hR2 hkp k1 k2 k3 k4 k6 k7 happ he2 hmm hapn hal hcl
          rcases ways with ⟨rfl, rfl⟩ | ⟨rfl, hd⟩ | ⟨rfl, rfl⟩
          · go_enter Tryz.func79, Tryz.ntmps79
            go_wp2_with (go_at_call 99; refine HK.out.mono ?_; rintro e w2 ⟨rfl, hq⟩; obtain ⟨d0, d1, d2, d3, d4, d5, d6⟩ := upq.out _ hq; have HQ := hid hq; clear hq)
            go_quiet (fail)
            go_wp2_with (first
              | (have q := R3; clear q; go_at_call 98; refine (C98.out _ (R3.out.below ((Below.refl _ _).alloc (Nat.le_refl _) _))).mono ?_; rintro e w5 ⟨rfl, r5, t5⟩; have R5 := hid r5; have T5 := hid t5; clear r5 t5)
              | (have q := HQ; clear q; go_at_call 97; refine (C97.out _ (quiet_more HQ.out _)).mono ?_; rintro e w3 ⟨rfl, r3, t3⟩; have R3 := hid r3; have T3 := hid t3; clear r3 t3))
            go_ret
            refine ⟨.nilIface, .nilIface, ?_⟩
            rw [HS.out]
            refine ⟨rfl, R5.out, ?_, fun b hb => .inl (by have h9 := K4.out; rw [← h9]; exact hb)⟩
            exact (((Touch.of_below (F := R.foot) (quiet_below (quiet_more HQ.out _)) (Nat.le_refl _)).trans T3.out (fun b hb => by simp at hb; subst hb; exact .inl PF.out)).alloc _).trans T5.out (fun b hb => by simp at hb; subst hb; exact .inl PF.out)
          · by_cases hd0 : 0 < t.bytes
            · have hd1 : d = true := by rw [hd]; simp [hd0]
              subst hd1
              clear hd
              have hmk : ∀ W : World, (Instr.makeSlice 31 (.int .i64 (B : Int)) (.int .i64 (B : Int))).run Tryz.prog W = .ok (.slice (some ⟨W.heap.size, 0, none⟩) B B) (W.alloc (.cells (madeCells #[.int .u8 0] B) 5)) := fun W =>
                run_make_row' (P := Tryz.prog) 31 5 (.int .u8 0) 1 Tryz.underlying31 Tryz.info5 rfl .i64 .i64 B (by omega) (by omega) W
              have MK : Hid (madeCells #[(Value.int .u8 0)] B = (Lib.byteCells (cutB 0 bl)).toArray) := by
                have := cut_zero bl
                rw [HMM.out] at this
                exact this
              generalize hMM : madeCells #[Value.int .u8 0] B = M at *
              clear hMM
              go_enter Tryz.func79, Tryz.ntmps79
              go_wp2_with (go_at_call 99; refine HK.out.mono ?_; rintro e w2 ⟨rfl, hq⟩; obtain ⟨d0, d1, d2, d3, d4, d5, d6⟩ := upq.out _ hq; have HQ := hid hq; clear hq)
              go_quiet (fail)
              go_wp2_with (first
                | (have q := R3; clear q; go_at_call 98; refine (C98.out _ (R3.out.below ((Below.refl _ _).alloc (Nat.le_refl _) _))).mono ?_; rintro e w5 ⟨rfl, r5, t5⟩; obtain ⟨m0, m1⟩ := P0.out _ r5; have M1 := hid m1; have box := kept_row (heap_alloc_new w3 (.cells #[.int .i64 t.at_, .int .i64 t.kind, .int .i64 t.bytes] 65)) t5 (by simp; omega); have BOX := hid box; have R5 := hid r5; have T5 := hid t5; clear r5 t5 m1 box)
                | (have q := HQ; clear q; go_at_call 97; refine (C97.out _ (quiet_more HQ.out _)).mono ?_; rintro e w3 ⟨rfl, r3, t3⟩; have lp := lt_of_block r3.row; have e9 := HPP.out; rw [← e9] at lp; clear e9; have R3 := hid r3; have T3 := hid t3; clear r3 t3))
              have T15 : Hid (Touch [p] w w5) := ((((Touch.of_below (F := [p]) (quiet_below (quiet_more HQ.out _)) (Nat.le_refl _)).trans T3.out (fun b hb => .inl hb)).alloc _).trans T5.out (fun b hb => .inl hb))
              go_loopw [12] (fun kv W => Hid (∃ j : Nat, kv = .int .i64 (j : Int) ∧ j ≤ min B t.bytes.toNat ∧ W.heap[w5.heap.size]? = some (.cells (Lib.byteCells (cutB j bl)).toArray 5 (0, 0)) ∧ Below w5.heap.size w5 W)) (fun kv _ => match kv with | .int _ j => B - j.toNat | _ => 0)
              case atStart =>
                refine ⟨0, rfl, Nat.zero_le _, ?_, (Below.refl _ _).alloc (Nat.le_refl _) _⟩
                rw [← MK.out]
                exact heap_alloc_new _ _
              case round =>
                obtain ⟨W, hW⟩ : ∃ W, W = wr := ⟨_, rfl⟩
                rw [← hW] at hrel ⊢
                clear hW
                obtain ⟨j, rfl, hj, hrow, hbw⟩ := hrel.out
                clear hrel
                obtain ⟨g, hg⟩ : ∃ g, g = w5.heap.size := ⟨_, rfl⟩
                rw [← hg] at hrow hbw
                have HG := hid hg
                rw [← hg]
                clear hg
                have lg := lt_of_block hrow
                have q0 : W.cell? ⟨p, 0, none⟩ = some (.int .i64 (B : Int)) := (hbw.cell (p := ⟨p, 0, none⟩) (by have := World.block_lt_of_cell? w5 _ m0; have := HG.out; simp only at *; omega)).trans m0
                have TW : Hid (Touch [p] w W) := T15.out.trans (Touch.of_below (F := []) hbw (by have := HG.out; omega)) (by simp)
                have src := SRC.out W _ TW.out (by simp; exact HPA.out)
                have q5 : W.cell? ⟨w3.heap.size, 2, none⟩ = some (.int .i64 t.bytes) := cell_row ((hbw.block _ (by have := lt_of_block BOX.out; have := HG.out; omega)).trans BOX.out) 2
                have HRW := hid hrow
                have HBW := hid hbw
                by_cases hlt : j < min B t.bytes.toNat
                · obtain ⟨c, hc⟩ : ∃ c, bl[j]? = some c := ⟨_, List.getElem?_eq_getElem (by rw [HMM.out]; omega)⟩
                  have q1 := src j c hc
                  have q2 : ∃ x, W.cell? ⟨g, j, none⟩ = some x := by
                    rw [cell_row hrow]
                    exact ⟨_, Array.getElem?_eq_getElem (by simp [Lib.byteCells_length, cutB_length, HMM.out]; omega)⟩
                  obtain ⟨x, q3⟩ := q2
                  have q4 := unfrozen_row hrow j
                  have l1 : (j : Int) < (B : Int) := by omega
                  have l2 : (0 : Int) ≤ (j : Int) := by omega
                  have l3 : (j : Int) < (m : Int) := by omega
                  have HC := hid hc
                  have HLT := hid hlt
                  have l4 : (j : Int) < t.bytes := by omega
                  have V2 : IntKind.i64.wrap ((j : Int) + 1) = (j : Int) + 1 := by rw [IntKind.wrap_i64]; omega
                  clear hrow hbw src hc
                  go_wp2
                  refine ⟨⟨j + 1, by simp, by have := HLT.out; omega, ?_, HBW.out.setCell (Nat.le_refl _) _⟩, by simp; omega⟩
                  rw [heap_setCell_row HRW.out j, cut_set HC.out]
                · have ej : Hid (cutB j bl = cutB t.bytes.toNat bl) := by
                    show _ = _
                    by_cases hb9 : t.bytes.toNat ≤ B
                    · rw [show j = t.bytes.toNat by omega]
                    · rw [cutB_whole (by rw [HMM.out]; omega), cutB_whole (by rw [HMM.out]; omega)]
                  have own : Hid (W.ownsRow 0 5 1 (.slice (some ⟨g, 0, none⟩) B B) B (Lib.byteCells (cutB t.bytes.toNat bl))) := by
                    have e2 : (cutB j bl).length = B := by rw [cutB_length]; exact HMM.out
                    have e3 := ej.out
                    rw [← e3]
                    exact ⟨by simp [Lib.byteCells_length, e2], .inr ⟨g, B, _, rfl, Nat.zero_le _, hrow, Nat.le_refl _, by unfold maxLen; omega, by simp [Lib.byteCells_length, e2], by rw [List.take_of_length_le (by simp [Lib.byteCells_length, e2])]⟩⟩
                  have RW : Hid (RefAt W R2) := R5.out.below (by have := HG.out; rw [this] at hbw; exact hbw)
                  have NG : Hid (g ∉ blks (R2.fs.flatMap (RFile.r5 R2.B))) := fun hm => by have := M1.out _ hm; have := HG.out; omega
                  have l4 : ¬ (j : Int) < (B : Int) ∨ ((j : Int) < (B : Int) ∧ ¬ (j : Int) < t.bytes) := by omega
                  clear hrow hbw src
                  rcases l4 with l4 | ⟨l4, l5⟩
                  · go_wp2_with (go_at_call 100; refine (GROW.out W _ _ RW.out own.out NG.out).mono ?_; rintro e w9 ⟨rfl, v, r9, t9, f9⟩; obtain ⟨x0, x1, x2⟩ := APP.out _ _ _ _ r9; have R9 := hid r9; have T9 := hid t9; have F9 := hid f9; have X2 := hid x2; clear r9 t9 f9 x2)
                    go_ret
                    refine ⟨v, .slice (some ⟨g, 0, none⟩) B B, ?_⟩
                    rw [HS.out]
                    have tt : Touch R.foot w w9 := (TW.out.mono (by simp; exact PF.out)).trans T9.out (fun b hb => .inl hb)
                    refine ⟨rfl, R9.out, tt, ?_⟩
                    exact FOOT.out v _ _ _ (fun b hb => (F9.out b hb).imp id (fun h8 => Nat.le_trans TW.out.size h8)) (fun b hb => by simp only [Value.ownBlock, Option.some.injEq] at hb; subst hb; have := HG.out; have := T15.out.size; omega)
                  · go_wp2_with (go_at_call 100; refine (GROW.out W _ _ RW.out own.out NG.out).mono ?_; rintro e w9 ⟨rfl, v, r9, t9, f9⟩; obtain ⟨x0, x1, x2⟩ := APP.out _ _ _ _ r9; have R9 := hid r9; have T9 := hid t9; have F9 := hid f9; have X2 := hid x2; clear r9 t9 f9 x2)
                    go_ret
                    refine ⟨v, .slice (some ⟨g, 0, none⟩) B B, ?_⟩
                    rw [HS.out]
                    have tt : Touch R.foot w w9 := (TW.out.mono (by simp; exact PF.out)).trans T9.out (fun b hb => .inl hb)
                    refine ⟨rfl, R9.out, tt, ?_⟩
                    exact FOOT.out v _ _ _ (fun b hb => (F9.out b hb).imp id (fun h8 => Nat.le_trans TW.out.size h8)) (fun b hb => by simp only [Value.ownBlock, Option.some.injEq] at hb; subst hb; have := HG.out; have := T15.out.size; omega)
            · have hd1 : d = false := by rw [hd]; simp [hd0]
              subst hd1
              clear hd
              go_enter Tryz.func79, Tryz.ntmps79
              go_wp2_with (go_at_call 99; refine HK.out.mono ?_; rintro e w2 ⟨rfl, hq⟩; obtain ⟨d0, d1, d2, d3, d4, d5, d6⟩ := upq.out _ hq; have HQ := hid hq; clear hq)
              go_quiet (fail)
              go_wp2_with (first
                | (have q := R3; clear q; go_at_call 98; refine (C98.out _ (R3.out.below ((Below.refl _ _).alloc (Nat.le_refl _) _))).mono ?_; rintro e w5 ⟨rfl, r5, t5⟩; have R5 := hid r5; have T5 := hid t5; clear r5 t5)
                | (have q := HQ; clear q; go_at_call 97; refine (C97.out _ (quiet_more HQ.out _)).mono ?_; rintro e w3 ⟨rfl, r3, t3⟩; have R3 := hid r3; have T3 := hid t3; clear r3 t3))
              go_ret
              refine ⟨.nilIface, .nilIface, ?_⟩
              rw [HS.out]
              refine ⟨rfl, R5.out, ?_, fun b hb => .inl (by have h9 := K4.out; rw [← h9]; exact hb)⟩
              exact (((Touch.of_below (F := R.foot) (quiet_below (quiet_more HQ.out _)) (Nat.le_refl _)).trans T3.out (fun b hb => by simp at hb; subst hb; exact .inl PF.out)).alloc _).trans T5.out (fun b hb => by simp at hb; subst hb; exact .inl PF.out)
          · have hmk : ∀ W : World, (Instr.makeSlice 31 (.int .i64 (B : Int)) (.int .i64 (B : Int))).run Tryz.prog W = .ok (.slice (some ⟨W.heap.size, 0, none⟩) B B) (W.alloc (.cells (madeCells #[.int .u8 0] B) 5)) := fun W =>
              run_make_row' (P := Tryz.prog) 31 5 (.int .u8 0) 1 Tryz.underlying31 Tryz.info5 rfl .i64 .i64 B (by omega) (by omega) W
            have MK : Hid (madeCells #[(Value.int .u8 0)] B = (Lib.byteCells (cutB 0 bl)).toArray) := by
              have := cut_zero bl
              rw [HMM.out] at this
              exact this
            generalize hMM : madeCells #[Value.int .u8 0] B = M at *
            clear hMM
            go_enter Tryz.func79, Tryz.ntmps79
            go_wp2_with (go_at_call 99; refine HK.out.mono ?_; rintro e w2 ⟨rfl, hq⟩; obtain ⟨d0, d1, d2, d3, d4, d5, d6⟩ := upq.out _ hq; have HQ := hid hq; clear hq)
            go_quiet (fail)
            go_wp2_with (first
              | (have q := R3; clear q; go_at_call 98; refine (C98.out _ (R3.out.below ((Below.refl _ _).alloc (Nat.le_refl _) _))).mono ?_; rintro e w5 ⟨rfl, r5, t5⟩; obtain ⟨m0, m1⟩ := P0.out _ r5; have M1 := hid m1; have box := kept_row (heap_alloc_new w3 (.cells #[.int .i64 t.at_, .int .i64 t.kind, .int .i64 t.bytes] 65)) t5 (by simp; omega); have BOX := hid box; have R5 := hid r5; have T5 := hid t5; clear r5 t5 m1 box)
              | (have q := HQ; clear q; go_at_call 97; refine (C97.out _ (quiet_more HQ.out _)).mono ?_; rintro e w3 ⟨rfl, r3, t3⟩; have lp := lt_of_block r3.row; have e9 := HPP.out; rw [← e9] at lp; clear e9; have R3 := hid r3; have T3 := hid t3; clear r3 t3))
            have T15 : Hid (Touch [p] w w5) := ((((Touch.of_below (F := [p]) (quiet_below (quiet_more HQ.out _)) (Nat.le_refl _)).trans T3.out (fun b hb => .inl hb)).alloc _).trans T5.out (fun b hb => .inl hb))
            go_loopw [12] (fun kv W => Hid (∃ j : Nat, kv = .int .i64 (j : Int) ∧ j ≤ B ∧ W.heap[w5.heap.size]? = some (.cells (Lib.byteCells (cutB j bl)).toArray 5 (0, 0)) ∧ Below w5.heap.size w5 W)) (fun kv _ => match kv with | .int _ j => B - j.toNat | _ => 0)
            case atStart =>
              refine ⟨0, rfl, Nat.zero_le _, ?_, (Below.refl _ _).alloc (Nat.le_refl _) _⟩
              rw [← MK.out]
              exact heap_alloc_new _ _
            case round =>
              obtain ⟨W, hW⟩ : ∃ W, W = wr := ⟨_, rfl⟩
              rw [← hW] at hrel ⊢
              clear hW
              obtain ⟨j, rfl, hj, hrow, hbw⟩ := hrel.out
              clear hrel
              obtain ⟨g, hg⟩ : ∃ g, g = w5.heap.size := ⟨_, rfl⟩
              rw [← hg] at hrow hbw
              have HG := hid hg
              rw [← hg]
              clear hg
              have lg := lt_of_block hrow
              have q0 : W.cell? ⟨p, 0, none⟩ = some (.int .i64 (B : Int)) := (hbw.cell (p := ⟨p, 0, none⟩) (by have := World.block_lt_of_cell? w5 _ m0; have := HG.out; simp only at *; omega)).trans m0
              have TW : Hid (Touch [p] w W) := T15.out.trans (Touch.of_below (F := []) hbw (by have := HG.out; omega)) (by simp)
              have src := SRC.out W _ TW.out (by simp; exact HPA.out)
              have HRW := hid hrow
              have HBW := hid hbw
              by_cases hlt : j < B
              · obtain ⟨c, hc⟩ : ∃ c, bl[j]? = some c := ⟨_, List.getElem?_eq_getElem (by rw [HMM.out]; omega)⟩
                have q1 := src j c hc
                have q2 : ∃ x, W.cell? ⟨g, j, none⟩ = some x := by
                  rw [cell_row hrow]
                  exact ⟨_, Array.getElem?_eq_getElem (by simp [Lib.byteCells_length, cutB_length, HMM.out]; omega)⟩
                obtain ⟨x, q3⟩ := q2
                have q4 := unfrozen_row hrow j
                have l1 : (j : Int) < (B : Int) := by omega
                have l2 : (0 : Int) ≤ (j : Int) := by omega
                have l3 : (j : Int) < (m : Int) := by omega
                have HC := hid hc
                have HLT := hid hlt
                have V2 : IntKind.i64.wrap ((j : Int) + 1) = (j : Int) + 1 := by rw [IntKind.wrap_i64]; omega
                clear hrow hbw src hc
                go_wp2
                refine ⟨⟨j + 1, by simp, by have := HLT.out; omega, ?_, HBW.out.setCell (Nat.le_refl _) _⟩, by simp; omega⟩
                rw [heap_setCell_row HRW.out j, cut_set HC.out]
              · have ej : Hid (cutB j bl = bl) := by show _ = _; exact cutB_whole (by rw [HMM.out]; omega)
                have own : Hid (W.ownsRow 0 5 1 (.slice (some ⟨g, 0, none⟩) B B) B (Lib.byteCells (bl))) := by
                  have e2 : (cutB j bl).length = B := by rw [cutB_length]; exact HMM.out
                  have e3 := ej.out
                  rw [← e3]
                  exact ⟨by simp [Lib.byteCells_length, e2], .inr ⟨g, B, _, rfl, Nat.zero_le _, hrow, Nat.le_refl _, by unfold maxLen; omega, by simp [Lib.byteCells_length, e2], by rw [List.take_of_length_le (by simp [Lib.byteCells_length, e2])]⟩⟩
                have RW : Hid (RefAt W R2) := R5.out.below (by have := HG.out; rw [this] at hbw; exact hbw)
                have NG : Hid (g ∉ blks (R2.fs.flatMap (RFile.r5 R2.B))) := fun hm => by have := M1.out _ hm; have := HG.out; omega
                have l4 : ¬ (j : Int) < (B : Int) := by omega
                clear hrow hbw src
                go_wp2_with (go_at_call 100; refine (GROW.out W _ _ RW.out own.out NG.out).mono ?_; rintro e w9 ⟨rfl, v, r9, t9, f9⟩; obtain ⟨x0, x1, x2⟩ := APP.out _ _ _ _ r9; have R9 := hid r9; have T9 := hid t9; have F9 := hid f9; have X2 := hid x2; clear r9 t9 f9 x2)
                go_ret
                refine ⟨v, .slice (some ⟨g, 0, none⟩) B B, ?_⟩
                rw [HS.out]
                have tt : Touch R.foot w w9 := (TW.out.mono (by simp; exact PF.out)).trans T9.out (fun b hb => .inl hb)
                refine ⟨rfl, X2.out, tt.setCell (.inl PF.out) _, ?_⟩
                exact FOOT.out v _ bl _ (fun b hb => (F9.out b hb).imp id (fun h8 => Nat.le_trans TW.out.size h8)) (fun b hb => by simp only [Value.ownBlock, Option.some.injEq] at hb; subst hb; have := HG.out; have := T15.out.size; omega)
      · have HS : Hid (∀ v bv, R.appR key bl v bv = (16, R)) := by
          intro v bv
          unfold RefD.appR
          rw [if_pos hcd, ← hi, he0]
          simp only [hsh, Bool.false_eq_true, if_false]
          rw [if_pos (by rw [hm, ← hBB]; exact hmB)]
        have HR := hid h
        have hnb : ((m : Int) != (B : Int)) = true := by simp; omega
        clear h hp h1 he0 hfv hcd hi hnn p2 c1 hsh hs hsp hm hBB hBs hus hfuu p0 p1 p9 p8 hbl hmB
        go_enter Tryz.func79, Tryz.ntmps79
        go_wp2_with (go_at_call 99; refine HK.out.mono ?_; rintro e w2 ⟨rfl, hq⟩; obtain ⟨d0, d1, d2, d3, d4, d5, d6⟩ := upq.out _ hq; have HQ := hid hq; clear hq)
        go_ret
        refine ⟨.nilIface, .nilIface, ?_⟩
        rw [HS.out]
        exact ⟨rfl, HR.out.below (quiet_below HQ.out), Touch.of_below (quiet_below HQ.out) (Nat.le_refl _), fun b hb => .inl hb⟩
  · obtain ⟨c, hcc⟩ : ∃ c, c = (R.known key).2 := ⟨_, rfl⟩
    have HS : Hid (∀ v bv, R.appR key bl v bv = (c, R)) := by intro v bv; unfold RefD.appR; rw [if_neg hcd, hcc]
    rw [← hcc] at HK hcd
    have HR := hid h
    clear h hp hcc hs hsp hm hbl
    go_enter Tryz.func79, Tryz.ntmps79
    go_wp2_with (go_at_call 99; refine HK.out.mono ?_; rintro e w2 ⟨rfl, hq⟩; have HQ := hid hq; clear hq)
    go_ret
    refine ⟨.nilIface, .nilIface, ?_⟩
    rw [HS.out]
    exact ⟨rfl, HR.out.below (quiet_below HQ.out), Touch.of_below (quiet_below HQ.out) (Nat.le_refl _), fun b hb => .inl hb⟩
end Go.Proofs.YtcpncfngadablaaGreatDoor
