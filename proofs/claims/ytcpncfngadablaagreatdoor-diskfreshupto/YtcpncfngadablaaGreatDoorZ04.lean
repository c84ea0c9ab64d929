import Derived.Test.YtcpncfngadablaaGreatDoorZ03
namespace Go.Proofs.YtcpncfngadablaaGreatDoor
open Go.RowKit Go.Deep

section
variable {w w' : World} {E : Nat → Addr} {lo p mf mt : Nat} {D : DiskC}

set_option maxHeartbeats 400000 in
theorem is_nil (b : Addr) (w : World) :
    Calls Tryz.prog 62 #[.nilIface, .iface 183 (.pointer (some b))] w fun e w' => e = .returned (.bool false) ∧ w' = w := by
  have hn := run_eql_iface_nil_left (P := Tryz.prog) w 183 (.pointer (some b)) Tryz.underlying75
  go_enter Tryz.func62, Tryz.ntmps62
  go_wp2
  go_ret
  exact ⟨rfl, rfl⟩

set_option maxHeartbeats 400000 in
theorem answer_nil (S : Sents w E) : Calls Tryz.prog 33 #[ptr p, .nilIface] w fun e w' => e = .returned (.int .i64 0) ∧ w' = w := by
  have c1 := S.var 1 (by omega)
  have c9 := S.var 9 (by omega)
  go_enter Tryz.func33, Tryz.ntmps33
  go_wp2_with (first | (go_at_call 62; refine (is_nil _ _).mono ?_; rintro e w1 ⟨rfl, rfl⟩) | (go_at_call 26; refine (tell_nil _).mono ?_; rintro e w1 ⟨rfl, rfl⟩))
  go_ret
  exact ⟨rfl, rfl⟩

set_option maxHeartbeats 400000 in
theorem answer_err (S : Sents w E) (i : Nat) (hi : i < 11) (h1 : i ≠ 1) (h9 : i ≠ 9) : Calls Tryz.prog 33 #[ptr p, errV E i] w fun e w' => e = .returned (.int .i64 (code i)) ∧ w' = w := by
  have c1 := S.var 1 (by omega)
  have c9 := S.var 9 (by omega)
  have d1 : decide (i = 1) = false := by simp [h1]
  have d9 : decide (i = 9) = false := by simp [h9]
  have H1 := hid (is_at S i 1 hi (by omega))
  have H9 := hid (is_at S i 9 hi (by omega))
  have HT := hid (tell_err S i hi)
  clear h1 h9 hi
  go_enter Tryz.func33, Tryz.ntmps33
  go_wp2_with fail
  refine H1.out.mono ?_
  rintro e w1 ⟨rfl, rfl⟩
  go_wp2_with fail
  refine H9.out.mono ?_
  rintro e w1 ⟨rfl, rfl⟩
  go_wp2_with fail
  refine HT.out.mono ?_
  rintro e w1 ⟨rfl, rfl⟩
  go_wp2
  go_ret
  exact ⟨rfl, rfl⟩
end

/-! ### what a disk holds, without where it lies -/
structure PubA where
  B : Nat
  Bs : Int
  on : Bool
  files : List (List UInt8 × FileA)
  c : Cnt

def Ent.pub (e : Ent) : List UInt8 × FileA := (e.name, e.file)
def DiskC.pub (D : DiskC) : PubA := ⟨D.B, D.Bs, D.on, D.ents.map Ent.pub, D.c⟩
def findA (l : List (List UInt8 × FileA)) (k : List UInt8) : Option FileA := (l.find? fun e => decide (e.1 = k)).map Prod.snd
def insA (e : List UInt8 × FileA) : List (List UInt8 × FileA) → List (List UInt8 × FileA)
  | [] => [e]
  | y :: r => if (Lit.string e.1).before (.string y.1) then e :: y :: r else y :: insA e r
def dropA (k : List UInt8) (l : List (List UInt8 × FileA)) : List (List UInt8 × FileA) := l.filter fun e => !decide (e.1 = k)
def setA (k : List UInt8) (f : FileA) (l : List (List UInt8 × FileA)) : List (List UInt8 × FileA) := l.map fun e => if e.1 = k then (e.1, f) else e

theorem find_pub (l : List Ent) (k : List UInt8) : findA (l.map Ent.pub) k = (findE l k).map Ent.file := by
  unfold findA findE
  rw [List.find?_map, Option.map_map]
  rfl
theorem ins_pub (e : Ent) : ∀ l : List Ent, (insE e l).map Ent.pub = insA e.pub (l.map Ent.pub)
  | [] => rfl
  | y :: r => by
    unfold insE
    simp only [List.map_cons, insA]
    have h : ((Lit.string e.pub.1).before (.string y.pub.1)) = (Lit.string e.name).before (.string y.name) := rfl
    rw [h]
    split
    · rfl
    · simp [ins_pub e r]
theorem drop_pub (k : List UInt8) (l : List Ent) : (dropE k l).map Ent.pub = dropA k (l.map Ent.pub) := by
  unfold dropE dropA
  rw [List.filter_map]
  rfl

/-- the numbers one may hand on. -/
structure Small (A : PubA) : Prop where
  calls : 0 ≤ A.c.calls ∧ A.c.calls ≤ 1099511627776
  reads : 0 ≤ A.c.reads ∧ A.c.reads ≤ 1099511627776
  appends : 0 ≤ A.c.appends ∧ A.c.appends ≤ 1099511627776
  full : 0 ≤ A.c.full ∧ A.c.full ≤ 1099511627776
  used : 0 ≤ A.c.used ∧ A.c.used ≤ 1099511627776
  files : A.files.length ≤ 1099511627776
  blocks : ∀ e ∈ A.files, e.2.blocks.length ≤ 1099511627776
  size : 64 ≤ A.B ∧ A.B ≤ 65536

/-- A call of the disk has been made: it holds A' now; only its own memory has turned. -/
def Did (w w' : World) (lo p mf mt : Nat) (D : DiskC) (A' : PubA) : Prop :=
  ∃ D', Rep w' lo p mf mt D' ∧ D'.pub = A' ∧ D'.T = .map [] ∧ Touch (D.foot p mf mt) w w' ∧ ∀ b ∈ D'.foot p mf mt, b ∈ D.foot p mf mt ∨ w.heap.size ≤ b

theorem no_trouble (n : Int) : TroubleIs (.map []) n 0 0 0 := rfl

section
variable {w w' : World} {E : Nat → Addr} {lo p mf mt : Nat} {D : DiskC}

theorem Did.same (R : Rep w lo p mf mt D) (hT : D.T = .map []) (ht : Touch [] w w') : Did w w' lo p mf mt D D.pub :=
  ⟨D, R.touch ht (by simp), rfl, hT, ht.mono (by simp), fun _ h => .inl h⟩

/-! ### Create -/
def createA (s : ByteArray) (A : PubA) : Int × PubA :=
  if nameB s then
    if (findA A.files (nm s)).isSome then (13, A) else (0, { A with files := insA (nm s, ⟨false, []⟩) A.files, c := { A.c with calls := A.c.calls + 1 } })
  else (11, A)

theorem foot_insert {e : Ent} {D' : DiskC} (he : D'.ents = insE e D.ents) (hfoot : ∀ b ∈ e.lay.foot, w.heap.size ≤ b) : ∀ b ∈ D'.foot p mf mt, b ∈ D.foot p mf mt ∨ w.heap.size ≤ b := by
  intro b hb
  simp only [DiskC.foot, List.mem_cons, List.mem_flatMap, he] at hb ⊢
  rcases hb with h | h | h | ⟨x, hx, h⟩
  · exact .inl (.inl h)
  · exact .inl (.inr (.inl h))
  · exact .inl (.inr (.inr (.inl h)))
  · rcases List.mem_cons.1 ((insE_perm e D.ents).mem_iff.1 hx) with rfl | hx
    · exact .inr (hfoot b h)
    · exact .inl (.inr (.inr (.inr ⟨x, hx, h⟩)))

set_option maxHeartbeats 400000 in
theorem Create_of {i : Option Nat} {s : ByteArray} {Post : World → Prop} (h : Calls Tryz.prog 34 #[ptr p, .string s] w fun e w' => e = .returned (i.elim .nilIface (errV E)) ∧ Post w') {v : Int}
    (ha : ∀ w1, Post w1 → Calls Tryz.prog 33 #[ptr p, i.elim .nilIface (errV E)] w1 fun e w' => e = .returned (.int .i64 v) ∧ w' = w1) :
    Calls Tryz.prog 9 #[ptr p, .string s] w fun e w' => e = .returned (.int .i64 v) ∧ Post w' := by
  have H := hid h
  have HA := hid ha
  clear h ha
  go_enter Tryz.func9, Tryz.ntmps9
  go_wp2_with (first | (go_at_call 34; refine H.out.mono ?_; rintro e w1 ⟨rfl, hp⟩) | (go_at_call 33; refine (HA.out _ hp).mono ?_; rintro e w2 ⟨rfl, rfl⟩))
  go_ret
  exact ⟨rfl, hp⟩

theorem Create_any (V : Env w lo E) (R : Rep w lo p mf mt D) (hT : D.T = .map []) (ho : D.on = true) (hS : Small D.pub) (s : ByteArray) :
    Calls Tryz.prog 9 #[ptr p, .string s] w fun e w' => e = .returned (.int .i64 (createA s D.pub).1) ∧ Did w w' lo p mf mt D (createA s D.pub).2 := by
  unfold createA
  have hfp : findA D.pub.files (nm s) = (findE D.ents (nm s)).map Ent.file := find_pub _ _
  by_cases hn : nameB s = true
  · rw [if_pos hn, hfp]
    cases hf : findE D.ents (nm s) with
    | some e0 =>
      have h := Create_of (i := some 5) (create_there V R s ho hn hf) (v := 13) fun w1 ht => answer_err (V.touch ht (by simp)).sents 5 (by omega) (by omega) (by omega)
      simp only [Option.map_some, Option.isSome_some, if_true]
      exact h.mono fun e w1 ⟨h1, h2⟩ => ⟨h1, Did.same R hT h2⟩
    | none =>
      have hc := create_ok V R s ho hn hf (a := 0) (k := 0) (b := 0) (by rw [hT]; exact no_trouble _) (by decide) (by decide) hS.calls.1 hS.calls.2 (by have := hS.files; simpa [DiskC.pub] using this)
      have hF : ∀ b ∈ [p, mf, mt], lo ≤ b := fun b hb => R.base b (by simp at hb; rcases hb with rfl | rfl | rfl <;> simp [DiskC.foot])
      have h := Create_of (E := E) (i := none) hc (v := 0) fun w1 h => answer_nil (V.touch h.2 hF).sents
      simp only [Option.map_none, Option.isSome_none, Bool.false_eq_true, if_false]
      refine h.mono fun e w1 ⟨h1, ⟨fb, hfb, hR⟩, ht⟩ => ⟨h1, _, hR, ?_, ?_, ht.mono ?_, ?_⟩
      · simp only [DiskC.pub, DiskC.numbered, ins_pub]
        rfl
      · show D.T.del _ = _
        rw [hT]
        rfl
      · intro b hb
        simp at hb
        rcases hb with rfl | rfl | rfl <;> simp [DiskC.foot]
      · exact foot_insert rfl (by simp [Lay.foot, Value.ownBlock]; exact hfb)
  · rw [if_neg hn]
    have h := Create_of (i := some 3) (create_bad V R s ho (by simpa using hn)) (v := 11) fun w1 ht => answer_err (V.touch ht (by simp)).sents 3 (by omega) (by omega) (by omega)
    exact h.mono fun e w1 ⟨h1, h2⟩ => ⟨h1, Did.same R hT h2⟩
end
end Go.Proofs.YtcpncfngadablaaGreatDoor
namespace Go.Proofs.YtcpncfngadablaaGreatDoor
open Go.RowKit Go.Deep

/-- a file's content and place set anew. -/
def setE (k : List UInt8) (f : FileA) (L : Lay) (l : List Ent) : List Ent := l.map fun e => if e.name = k then ⟨e.name, f, L⟩ else e

theorem set_pub (k : List UInt8) (f : FileA) (L : Lay) (l : List Ent) : (setE k f L l).map Ent.pub = setA k f (l.map Ent.pub) := by
  unfold setE setA
  rw [List.map_map, List.map_map]
  apply List.map_congr_left
  intro e _
  simp only [Function.comp]
  by_cases h : e.name = k
  · simp [h, Ent.pub]
  · simp [h, Ent.pub]

theorem findE_mem {l : List Ent} {k : List UInt8} {e : Ent} (h : findE l k = some e) : e ∈ l ∧ e.name = k :=
  ⟨List.mem_of_find?_eq_some h, by simpa using List.find?_some h⟩

section
variable {w w' : World} {E : Nat → Addr} {lo p mf mt : Nat} {D : DiskC}

theorem Rep.uniq (R : Rep w lo p mf mt D) : D.ents.Pairwise fun a b => a.name ≠ b.name := by
  obtain ⟨es, h, hp⟩ := R.files.tidy (Maps.string_keyed Tryz.underlying9)
  simp only [mapOf, DataW.map.injEq] at h
  subst h
  rw [List.pairwise_map] at hp
  exact hp.imp fun h e => h (by simp [Ent.key, e])

theorem pairwise_eq {α : Type} {r : α → α → Prop} {l : List α} (h : l.Pairwise r) {a b : α} (ha : a ∈ l) (hb : b ∈ l) (h1 : ¬ r a b) (h2 : ¬ r b a) : a = b := by
  induction h with
  | nil => cases ha
  | cons hd _ ih =>
    rcases List.mem_cons.1 ha with e1 | ha'
    · rcases List.mem_cons.1 hb with e2 | hb'
      · rw [e1, e2]
      · rw [e1] at h1
        exact absurd (hd _ hb') h1
    · rcases List.mem_cons.1 hb with e2 | hb'
      · rw [e2] at h2
        exact absurd (hd _ ha') h2
      · exact ih ha' hb'

theorem Rep.one (R : Rep w lo p mf mt D) {k : List UInt8} {e0 : Ent} (hf : findE D.ents k = some e0) : ∀ a ∈ D.ents, a.name = k → a = e0 := by
  intro a ha hn
  obtain ⟨he, hk⟩ := findE_mem hf
  exact pairwise_eq R.uniq ha he (fun h => h (hn.trans hk.symm)) (fun h => h (hk.trans hn.symm))

theorem Rep.parts (R : Rep w lo p mf mt D) : (∀ e ∈ D.ents, e.lay.foot.Nodup) ∧ D.ents.Pairwise (fun a b => ∀ x ∈ a.lay.foot, ∀ y ∈ b.lay.foot, x ≠ y) := by
  have ha := R.apart
  simp only [DiskC.foot, List.nodup_cons] at ha
  have h := ha.2.2.2
  unfold List.Nodup at h
  rw [List.pairwise_flatMap] at h
  exact h

/-- One file has been changed, in its own memory. -/
theorem Rep.setFile (R : Rep w lo p mf mt D) {k : List UInt8} {e0 : Ent} (hf : findE D.ents k = some e0) {L : Lay} {f : FileA} (hfb : L.fb = e0.lay.fb) (hat : FileAt w' D.B L f) (hfoot : ∀ b ∈ L.foot, b ∈ e0.lay.foot ∨ w.heap.size ≤ b) (hnd : L.foot.Nodup)
    (ht : Touch e0.lay.foot w w') (hlo : lo ≤ w.heap.size) : Rep w' lo p mf mt { D with ents := setE k f L D.ents } := by
  obtain ⟨he0, hk0⟩ := findE_mem hf
  have h1 := R.one hf
  obtain ⟨n, hT⟩ := R.troubles
  have hin : ∀ b ∈ e0.lay.foot, b ≠ p ∧ b ≠ mf ∧ b ≠ mt := fun b hb => ⟨(R.ent_ne he0 hb).1, (R.ent_ne he0 hb).2.1, (R.ent_ne he0 hb).2.2.1⟩
  have hm : mapOf (setE k f L D.ents) = mapOf D.ents := by
    unfold mapOf setE
    rw [List.map_map]
    congr 1
    apply List.map_congr_left
    intro e he
    simp only [Function.comp]
    by_cases hn : e.name = k
    · rw [if_pos hn]
      have := h1 e he hn
      subst this
      simp [Ent.key, hfb]
    · rw [if_neg hn]
  have hold : ∀ b, b < w.heap.size → (b = p ∨ b = mf ∨ b = mt) → w'.heap[b]? = w.heap[b]? := fun b hb h => ht.block b hb fun hm => by
    have := hin b hm
    rcases h with h | h | h <;> simp [h] at this
  have hlt : ∀ b ∈ [p, mf, mt], b < w.heap.size := fun b hb => R.lt b (by simp at hb; rcases hb with rfl | rfl | rfl <;> simp [DiskC.foot])
  have hLne : ∀ x ∈ L.foot, x ≠ p ∧ x ≠ mf ∧ x ≠ mt := by
    intro x hx
    rcases hfoot x hx with h | h
    · exact hin x h
    · have a := hlt p (by simp); have b := hlt mf (by simp); have c := hlt mt (by simp)
      refine ⟨?_, ?_, ?_⟩ <;> omega
  have hmem : ∀ x ∈ setE k f L D.ents, (∃ e ∈ D.ents, e.name ≠ k ∧ x = e) ∨ (x.name = k ∧ x.file = f ∧ x.lay = L) := by
    intro x hx
    obtain ⟨e, he, rfl⟩ := List.mem_map.1 hx
    by_cases hn : e.name = k
    · right; simp [hn]
    · left; exact ⟨e, he, hn, by simp [hn]⟩
  have hother : ∀ e ∈ D.ents, e.name ≠ k → ∀ x ∈ e.lay.foot, x ∉ e0.lay.foot := by
    intro e he hn x hx hx0
    have hne : e ≠ e0 := fun h => hn (h ▸ hk0)
    exact hne (pairwise_eq R.parts.2 he he0 (fun h => h x hx x hx0 rfl) (fun h => h x hx0 x hx rfl))
  refine ⟨(hold p (hlt p (by simp)) (by simp)).trans R.row, ?_, ⟨n, ownsMap_kept hT (hold mt (hlt mt (by simp)) (by simp))⟩, ?_, ?_, ?_, ?_⟩
  · show w'.ownsMap Tryz.prog 9 ptrElem mf (setE k f L D.ents).length (mapOf (setE k f L D.ents))
    rw [hm]
    have : (setE k f L D.ents).length = D.ents.length := by simp [setE]
    rw [this]
    exact ownsMap_kept R.files (hold mf (hlt mf (by simp)) (by simp))
  · intro x hx
    rcases hmem x hx with ⟨e, he, hn, rfl⟩ | ⟨_, h2, h3⟩
    · exact (R.each _ he).kept fun b hb => ht.block b (R.ent_ne he hb).2.2.2.1 (hother _ he hn b hb)
    · rw [h2, h3]; exact hat
  · simp only [DiskC.foot, List.nodup_cons, List.mem_cons, not_or, List.mem_flatMap, not_exists, not_and]
    have hne := R.p_ne
    have hx : ∀ x ∈ setE k f L D.ents, ∀ b ∈ x.lay.foot, b ≠ p ∧ b ≠ mf ∧ b ≠ mt := by
      intro x hx b hb
      rcases hmem x hx with ⟨e, he, hn, rfl⟩ | ⟨_, h2, h3⟩
      · exact ⟨(R.ent_ne he hb).1, (R.ent_ne he hb).2.1, (R.ent_ne he hb).2.2.1⟩
      · rw [h3] at hb; exact hLne b hb
    refine ⟨⟨hne.2.1, hne.1, fun x hm hb => (hx x hm p hb).1 rfl⟩, ⟨hne.2.2, fun x hm hb => (hx x hm mf hb).2.1 rfl⟩, fun x hm hb => (hx x hm mt hb).2.2 rfl, ?_⟩
    unfold List.Nodup
    rw [List.pairwise_flatMap]
    refine ⟨fun x hx => ?_, ?_⟩
    · rcases hmem x hx with ⟨e, he, hn, rfl⟩ | ⟨_, h2, h3⟩
      · exact R.parts.1 _ he
      · rw [h3]; exact hnd
    · unfold setE
      rw [List.pairwise_map]
      refine (R.parts.2.and R.uniq).imp_of_mem fun {a b} ha hb ⟨hd, hu⟩ => ?_
      intro x hx y hy
      by_cases hna : a.name = k
      · have hnb : b.name ≠ k := fun h => hu (hna.trans h.symm)
        rw [if_pos hna] at hx
        rw [if_neg hnb] at hy
        rcases hfoot x hx with h | h
        · have := h1 a ha hna
          subst this
          exact hd x h y hy
        · have := (R.ent_ne hb hy).2.2.2.1
          omega
      · rw [if_neg hna] at hx
        by_cases hnb : b.name = k
        · rw [if_pos hnb] at hy
          rcases hfoot y hy with h | h
          · have := h1 b hb hnb
            subst this
            exact hd x hx y h
          · have := (R.ent_ne ha hx).2.2.2.1
            omega
        · rw [if_neg hnb] at hy
          exact hd x hx y hy
  · intro b hb
    simp only [DiskC.foot, List.mem_cons, List.mem_flatMap] at hb
    rcases hb with rfl | rfl | rfl | ⟨x, hx, hb⟩
    · exact R.base _ (by simp [DiskC.foot])
    · exact R.base _ (by simp [DiskC.foot])
    · exact R.base _ (by simp [DiskC.foot])
    · rcases hmem x hx with ⟨e, he, hn, rfl⟩ | ⟨_, h2, h3⟩
      · exact (R.ent_ne he hb).2.2.2.2
      · rw [h3] at hb
        rcases hfoot b hb with h | h
        · exact (R.ent_ne he0 h).2.2.2.2
        · omega
  · intro x hx
    rcases hmem x hx with ⟨e, he, hn, rfl⟩ | ⟨h1, _, _⟩
    · exact R.names _ he
    · rw [h1, ← hk0]; exact R.names _ he0

theorem foot_set {k : List UInt8} {e0 : Ent} (hf : findE D.ents k = some e0) {L : Lay} {f : FileA} {D' : DiskC} (he : D'.ents = setE k f L D.ents) (hfoot : ∀ b ∈ L.foot, b ∈ e0.lay.foot ∨ w.heap.size ≤ b) : ∀ b ∈ D'.foot p mf mt, b ∈ D.foot p mf mt ∨ w.heap.size ≤ b := by
  intro b hb
  simp only [DiskC.foot, List.mem_cons, List.mem_flatMap, he] at hb ⊢
  rcases hb with h | h | h | ⟨x, hx, h⟩
  · exact .inl (.inl h)
  · exact .inl (.inr (.inl h))
  · exact .inl (.inr (.inr (.inl h)))
  · obtain ⟨e, hm, rfl⟩ := List.mem_map.1 hx
    by_cases hn : e.name = k
    · rw [if_pos hn] at h
      rcases hfoot b h with h | h
      · exact .inl (.inr (.inr (.inr ⟨e0, (findE_mem hf).1, h⟩)))
      · exact .inr h
    · rw [if_neg hn] at h
      exact .inl (.inr (.inr (.inr ⟨e, hm, h⟩)))
theorem foot_ent {k : List UInt8} {e0 : Ent} (hf : findE D.ents k = some e0) : ∀ b ∈ e0.lay.foot, b ∈ D.foot p mf mt := by
  intro b hb
  simp only [DiskC.foot, List.mem_cons, List.mem_flatMap]
  exact .inr (.inr (.inr ⟨e0, (findE_mem hf).1, hb⟩))
end
end Go.Proofs.YtcpncfngadablaaGreatDoor
