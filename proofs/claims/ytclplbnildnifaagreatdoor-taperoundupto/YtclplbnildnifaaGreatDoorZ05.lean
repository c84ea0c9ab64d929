import Derived.Conc.MuLone
import Derived.KernelRfl
import Derived.WalkKit
import Derived.WalkSpells
import Derived.WalkLawsBesides
import Derived.Defers
import Derived.Laws.LoneSync
import Derived.Below
import Derived.Deep.QuietTactic
import Derived.Deep.RegionWith
import Derived.Deep.RegionHeld3
import Derived.Test.YtclplbnildnifaaGreatDoorRows
import Derived.Test.YtclplbnildnifaaGreatDoorZ04
/-
  The disk told exactly, its troubles by their list (out of the disk's own seat).
-/
namespace Go.Proofs.YtclplbnildnifaaGreatDoor
open Go.RowKit Go.Deep
set_option linter.unusedSimpArgs false
set_option maxRecDepth 100000

structure TrA where
  at_ : Int
  kind : Int
  bytes : Int
def TrA.hits (t : TrA) (k : Int) : Bool := t.at_ == k && (t.kind == 1 || t.kind == 2)
/-- the first trouble of a list that befalls the call n. -/
def trFirst (l : List TrA) (n : Int) : TrA := (l.find? fun t => t.hits n).getD ⟨0, 0, 0⟩
/-- what is still to come: the troubles of the numbers from n on. -/
def TFrom (T : DataW Unit) (l : List TrA) (n : Int) : Prop := ∀ m : Int, n ≤ m → TroubleIs T m (trFirst l m).at_ (trFirst l m).kind (trFirst l m).bytes
theorem TFrom.del {T : DataW Unit} {l : List TrA} {n : Int} (h : TFrom T l n) : TFrom (T.del (.int .i64 n)) l (n + 1) := fun m hm => by
  have := h m (by omega)
  unfold TroubleIs at this ⊢
  rw [Maps.atKey_del_other (by simp; omega)]
  exact this
def total (l : List (List UInt8 × FileA)) : Nat := (l.map fun e => e.2.blocks.length).sum
theorem set_absent {k : List UInt8} {f : FileA} : ∀ {l : List (List UInt8 × FileA)}, (∀ e ∈ l, e.1 ≠ k) → setA k f l = l
  | [], _ => rfl
  | a :: l, h => by
    have h1 := h a (by simp)
    have h2 := set_absent (k := k) (f := f) (l := l) (fun e he => h e (by simp [he]))
    simp only [setA, List.map_cons] at h2 ⊢
    rw [if_neg h1, h2]
theorem total_set {k : List UInt8} {f f' : FileA} : ∀ {l : List (List UInt8 × FileA)}, (l.Pairwise fun a b => a.1 ≠ b.1) → findA l k = some f → total (setA k f' l) + f.blocks.length = total l + f'.blocks.length
  | [], _, h => by simp [findA] at h
  | a :: l, hp, h => by
    rw [List.pairwise_cons] at hp
    by_cases ha : a.1 = k
    · have hf : f = a.2 := by simp [findA, ha] at h; exact h.symm
      have hs := set_absent (k := k) (f := f') (l := l) (fun e he e1 => hp.1 e he (by rw [ha, e1]))
      simp only [setA, List.map_cons] at hs ⊢
      rw [if_pos ha, hs]
      simp only [total, List.map_cons, List.sum_cons, hf]
      omega
    · have hf : findA l k = some f := by simpa [findA, ha] using h
      have := total_set (f' := f') hp.2 hf
      simp only [setA, List.map_cons] at this ⊢
      rw [if_neg ha]
      simp only [total, List.map_cons, List.sum_cons] at this ⊢
      omega
theorem perm_ins (e : List UInt8 × FileA) : ∀ l : List (List UInt8 × FileA), (insA e l).Perm (e :: l)
  | [] => List.Perm.refl _
  | a :: l => by
    unfold insA
    split
    · exact List.Perm.refl _
    · exact ((perm_ins e l).cons a).trans (List.Perm.swap e a l)
theorem total_perm {l l' : List (List UInt8 × FileA)} (h : l.Perm l') : total l = total l' := (h.map _).sum_nat
theorem le_total {l : List (List UInt8 × FileA)} : ∀ e ∈ l, e.2.blocks.length ≤ total l := by
  induction l with
  | nil => simp
  | cons a l ih =>
    intro e he
    simp only [List.mem_cons] at he
    rcases he with rfl | he
    · simp only [total, List.map_cons, List.sum_cons]
      omega
    · have := ih e he
      simp only [total, List.map_cons, List.sum_cons] at this ⊢
      omega
theorem set_len (k : List UInt8) (f : FileA) (l : List (List UInt8 × FileA)) : (setA k f l).length = l.length := by simp [setA]
/-- where a name stands, or would. -/
def findI (names : List (List UInt8)) (key : List UInt8) : Nat := (names.takeWhile fun a => bytesBefore a key).length
/-- the names rise. -/
def Rise (l : List (List UInt8 × FileA)) : Prop := l.Pairwise fun a b => bytesBefore a.1 b.1 = true
theorem before_not {a b : List UInt8} (h : bytesBefore a b = true) : bytesBefore b a = false := by
  cases hb : bytesBefore b a with
  | false => rfl
  | true =>
    have := WideShapes.bytes_trans _ _ _ h hb
    rw [WideAt.bytes_irrefl] at this
    cases this
theorem before_ne {a b : List UInt8} (h : bytesBefore a b = true) : a ≠ b := fun e => by
  subst e
  rw [WideAt.bytes_irrefl] at h
  cases h
/-- a list parted at a name's place. -/
theorem Rise.part {key : List UInt8} : ∀ {l : List (List UInt8 × FileA)}, Rise l → ∃ A C, l = A ++ C ∧ A.length = findI (l.map Prod.fst) key ∧ (∀ a ∈ A, bytesBefore a.1 key = true) ∧ ∀ c ∈ C, bytesBefore c.1 key = false
  | [], _ => ⟨[], [], rfl, rfl, by simp, by simp⟩
  | x :: r, h => by
    obtain ⟨hx, hr⟩ := List.pairwise_cons.1 h
    cases hb : bytesBefore x.1 key with
    | false =>
      refine ⟨[], x :: r, rfl, ?_, by simp, fun c hc => ?_⟩
      · simp [findI, hb]
      · rcases List.mem_cons.1 hc with rfl | hc
        · exact hb
        · cases hq : bytesBefore c.1 key with
          | false => rfl
          | true =>
            have := WideShapes.bytes_trans _ _ _ (hx c hc) hq
            rw [hb] at this
            cases this
    | true =>
      obtain ⟨A, C, e, hl, hA, hC⟩ := Rise.part (key := key) hr
      refine ⟨x :: A, C, by rw [e]; rfl, ?_, fun a ha => ?_, hC⟩
      · have : findI ((x :: r).map Prod.fst) key = findI (r.map Prod.fst) key + 1 := by simp [findI, hb]
        rw [this, List.length_cons, hl]
      · rcases List.mem_cons.1 ha with rfl | ha
        · exact hb
        · exact hA a ha
theorem ins_part {key : List UInt8} {f : FileA} {C : List (List UInt8 × FileA)} (hC : ∀ c ∈ C, bytesBefore key c.1 = true) : ∀ {A : List (List UInt8 × FileA)}, (∀ a ∈ A, bytesBefore a.1 key = true) → insA (key, f) (A ++ C) = A ++ (key, f) :: C
  | [], _ => by
    cases C with
    | nil => rfl
    | cons c r =>
      have : (Lit.string key).before (.string c.1) = true := hC c (by simp)
      simp only [List.nil_append, insA]
      rw [this]
      rfl
  | a :: A, h => by
    have : (Lit.string key).before (.string a.1) = false := before_not (h a (by simp))
    simp only [List.cons_append, insA]
    rw [this]
    simp only [Bool.false_eq_true, if_false]
    rw [ins_part hC (fun x hx => h x (List.mem_cons_of_mem _ hx))]
def createB (s : ByteArray) (t : TrA) (A : PubA) : Int × PubA := if A.on then befX t.kind t.bytes A (createA s A) { (createA s A).2 with on := false } else (10, A)
def sealB (s : ByteArray) (t : TrA) (A : PubA) : Int × PubA := if A.on then befX t.kind t.bytes A (sealA s A) { (sealA s A).2 with on := false } else (10, A)
def appendB (s : ByteArray) (bl : List UInt8) (t : TrA) (A : PubA) : Int × PubA := if A.on then befX t.kind t.bytes A (appendA s bl A) (cutX s bl t.bytes A) else (10, A)
def readB (s : ByteArray) (i : Int) (t : TrA) (A : PubA) : Option (List UInt8) × Int × PubA := if A.on then readX s i t.kind A else (none, 10, A)
def lengthB (s : ByteArray) (A : PubA) : Int × Bool × Int := if A.on then lengthA s A else (0, false, 10)
theorem Rise.ne {l : List (List UInt8 × FileA)} (h : Rise l) : l.Pairwise fun a b => a.1 ≠ b.1 := h.imp fun hb => before_ne hb
theorem rise_set {l : List (List UInt8 × FileA)} (h : Rise l) (k : List UInt8) (f : FileA) : Rise (setA k f l) := by
  unfold Rise setA
  rw [List.pairwise_map]
  refine h.imp fun {a b} hb => ?_
  have e : ∀ x : List UInt8 × FileA, (if x.1 = k then (x.1, f) else x).1 = x.1 := fun x => by split <;> rfl
  rw [e, e]
  exact hb
theorem rise_ins {l : List (List UInt8 × FileA)} (h : Rise l) {k : List UInt8} (hn : findA l k = none) (f : FileA) : Rise (insA (k, f) l) := by
  have hne : ∀ x ∈ l, x.1 ≠ k := fun x hx e => by
    unfold findA at hn
    rw [Option.map_eq_none_iff, List.find?_eq_none] at hn
    exact hn x hx (by simpa using e)
  obtain ⟨A, C, e, _, hA, hC⟩ := h.part (key := k)
  have hCk : ∀ c ∈ C, bytesBefore k c.1 = true := fun c hc => by
    rcases WideAt.bytes_total _ _ (hne c (by rw [e]; simp [hc])) with h1 | h1
    · rw [hC c hc] at h1
      cases h1
    · exact h1
  rw [e, ins_part hCk hA]
  unfold Rise at h ⊢
  rw [e] at h
  obtain ⟨h1, h2, h3⟩ := List.pairwise_append.1 h
  refine List.pairwise_append.2 ⟨h1, List.pairwise_cons.2 ⟨hCk, h2⟩, fun a ha b hb => ?_⟩
  rcases List.mem_cons.1 hb with rfl | hb
  · exact hA a ha
  · exact h3 a ha b hb
structure IB (t : Nat) (A : PubA) : Prop where
  size : 64 ≤ A.B ∧ A.B ≤ 65536
  calls : 0 ≤ A.c.calls ∧ A.c.calls ≤ t
  reads : 0 ≤ A.c.reads ∧ A.c.reads ≤ t
  appends : 0 ≤ A.c.appends ∧ A.c.appends ≤ t
  faults : 0 ≤ A.c.faults ∧ A.c.faults ≤ t
  full : 0 ≤ A.c.full ∧ A.c.full ≤ t
  used : A.c.used = (total A.files : Int)
  most : A.c.used ≤ A.c.most
  total : total A.files ≤ t
  few : A.files.length ≤ t
  rise : Rise A.files
section
variable {t : Nat} {A : PubA}
theorem IB.small (h : IB t A) (ht : t ≤ 1099511627776) : Small A := by
  have h1 := h.calls
  have h2 := h.reads
  have h3 := h.appends
  have h4 := h.full
  have h5 := h.used
  have h6 := h.total
  have h7 := h.few
  exact ⟨by omega, by omega, by omega, by omega, by omega, by omega, fun e he => by have := le_total e he; omega, h.size⟩
theorem IB.more (h : IB t A) : IB (t + 1) A := by
  have h1 := h.calls
  have h2 := h.reads
  have h3 := h.appends
  have h4 := h.full
  have h5 := h.faults
  have h6 := h.total
  have h7 := h.few
  exact ⟨h.size, by omega, by omega, by omega, by omega, by omega, h.used, h.most, by omega, by omega, h.rise⟩
theorem IB.flag (h : IB t A) (b : Bool) : IB t { A with on := b } := ⟨h.size, h.calls, h.reads, h.appends, h.faults, h.full, h.used, h.most, h.total, h.few, h.rise⟩
theorem IB.faulted (h : IB t A) : IB (t + 1) A.faulted := by
  have h1 := h.calls
  have h5 := h.faults
  have h := h.more
  exact ⟨h.size, by show 0 ≤ A.c.calls + 1 ∧ A.c.calls + 1 ≤ _; omega, h.reads, h.appends, by show 0 ≤ A.c.faults + 1 ∧ A.c.faults + 1 ≤ _; omega, h.full, h.used, h.most, h.total, h.few, h.rise⟩
theorem IB.called (h : IB t A) : IB (t + 1) { A with c := { A.c with calls := A.c.calls + 1 } } := by
  have h1 := h.calls
  have h := h.more
  exact ⟨h.size, by show 0 ≤ A.c.calls + 1 ∧ A.c.calls + 1 ≤ _; omega, h.reads, h.appends, h.faults, h.full, h.used, h.most, h.total, h.few, h.rise⟩
theorem IB.shut (h : IB t A) : IB (t + 1) A.shut := h.called.flag false
theorem IB.create (h : IB t A) (s : ByteArray) : IB (t + 1) (createA s A).2 := by
  unfold createA
  split
  · split
    · exact h.more
    · next hn =>
      have hn' : findA A.files (nm s) = none := by simpa using hn
      have hp := perm_ins (nm s, (⟨false, []⟩ : FileA)) A.files
      have ht := total_perm hp
      have hl := hp.length_eq
      have e1 : YtclplbnildnifaaGreatDoor.total ((nm s, (⟨false, []⟩ : FileA)) :: A.files) = YtclplbnildnifaaGreatDoor.total A.files := by simp [YtclplbnildnifaaGreatDoor.total]
      have h1 := h.calls
      have h6 := h.total
      have h7 := h.few
      have hm := h.more
      refine ⟨hm.size, by show 0 ≤ A.c.calls + 1 ∧ A.c.calls + 1 ≤ _; omega, hm.reads, hm.appends, hm.faults, hm.full, ?_, hm.most, ?_, ?_, rise_ins h.rise hn' _⟩
      · show A.c.used = _
        rw [ht, e1]
        exact h.used
      · show YtclplbnildnifaaGreatDoor.total (insA _ A.files) ≤ _
        rw [ht, e1]
        omega
      · show (insA _ A.files).length ≤ _
        rw [hl]
        simp
        omega
  · exact h.more
theorem IB.setF (h : IB t A) {k : List UInt8} {f f' : FileA} (hf : findA A.files k = some f) {c : Cnt} {d : Nat} (hd : f'.blocks.length = f.blocks.length + d) (hd1 : d ≤ 1) (hu : c.used = A.c.used + d) (hm : c.used ≤ c.most)
    (h1 : 0 ≤ c.calls ∧ c.calls ≤ (t : Int) + 1) (h2 : 0 ≤ c.reads ∧ c.reads ≤ (t : Int) + 1) (h3 : 0 ≤ c.appends ∧ c.appends ≤ (t : Int) + 1) (h4 : 0 ≤ c.faults ∧ c.faults ≤ (t : Int) + 1) (h5 : 0 ≤ c.full ∧ c.full ≤ (t : Int) + 1) (b : Bool) : IB (t + 1) ⟨A.B, A.Bs, b, setA k f' A.files, c⟩ := by
  have ht := total_set (f' := f') h.rise.ne hf
  have h6 := h.total
  have h7 := h.few
  have h8 := h.used
  refine ⟨h.size, by show 0 ≤ c.calls ∧ c.calls ≤ ((t + 1 : Nat) : Int); omega, by show 0 ≤ c.reads ∧ c.reads ≤ ((t + 1 : Nat) : Int); omega, by show 0 ≤ c.appends ∧ c.appends ≤ ((t + 1 : Nat) : Int); omega, by show 0 ≤ c.faults ∧ c.faults ≤ ((t + 1 : Nat) : Int); omega, by show 0 ≤ c.full ∧ c.full ≤ ((t + 1 : Nat) : Int); omega, ?_, hm, ?_, ?_, rise_set h.rise _ _⟩
  · show c.used = _
    rw [hu]
    show A.c.used + d = (YtclplbnildnifaaGreatDoor.total (setA k f' A.files) : Int)
    omega
  · show YtclplbnildnifaaGreatDoor.total (setA k f' A.files) ≤ _
    omega
  · show (setA k f' A.files).length ≤ _
    rw [set_len]
    omega
theorem IB.seal (h : IB t A) (s : ByteArray) : IB (t + 1) (sealA s A).2 := by
  unfold sealA
  have h1 := h.calls
  have h2 := h.reads
  have h3 := h.appends
  have h4 := h.faults
  have h5 := h.full
  split
  · split
    · exact h.more
    · next f hf =>
      split
      · exact h.more
      · exact h.setF hf (f' := { f with shut := true }) (c := { A.c with calls := A.c.calls + 1 }) (d := 0) rfl (by omega) (by simp) h.most (by show 0 ≤ A.c.calls + 1 ∧ A.c.calls + 1 ≤ (t : Int) + 1; omega) (by show 0 ≤ A.c.reads ∧ A.c.reads ≤ (t : Int) + 1; omega) (by show 0 ≤ A.c.appends ∧ A.c.appends ≤ (t : Int) + 1; omega) (by show 0 ≤ A.c.faults ∧ A.c.faults ≤ (t : Int) + 1; omega) (by show 0 ≤ A.c.full ∧ A.c.full ≤ (t : Int) + 1; omega) _
  · exact h.more
theorem IB.append (h : IB t A) (s : ByteArray) (bl : List UInt8) : IB (t + 1) (appendA s bl A).2 := by
  unfold appendA
  have h1 := h.calls
  have h2 := h.reads
  have h3 := h.appends
  have h4 := h.faults
  have h5 := h.full
  split
  · split
    · exact h.more
    · next f hf =>
      split
      · exact h.more
      · split
        · exact h.more
        · split
          · have hm := h.more
            exact ⟨hm.size, hm.calls, hm.reads, hm.appends, hm.faults, by show 0 ≤ A.c.full + 1 ∧ A.c.full + 1 ≤ _; omega, hm.used, hm.most, hm.total, hm.few, hm.rise⟩
          · exact h.setF hf (c := { A.c with calls := A.c.calls + 1, appends := A.c.appends + 1, used := A.c.used + 1, most := max A.c.most (A.c.used + 1) }) (d := 1) (by simp) (by omega) (by simp) (by show A.c.used + 1 ≤ max A.c.most (A.c.used + 1); omega) (by show 0 ≤ A.c.calls + 1 ∧ A.c.calls + 1 ≤ (t : Int) + 1; omega) (by show 0 ≤ A.c.reads ∧ A.c.reads ≤ (t : Int) + 1; omega) (by show 0 ≤ A.c.appends + 1 ∧ A.c.appends + 1 ≤ (t : Int) + 1; omega) (by show 0 ≤ A.c.faults ∧ A.c.faults ≤ (t : Int) + 1; omega) (by show 0 ≤ A.c.full ∧ A.c.full ≤ (t : Int) + 1; omega) _
  · exact h.more
theorem IB.cutX (h : IB t A) (s : ByteArray) (bl : List UInt8) (y : Int) : IB (t + 1) (cutX s bl y A) := by
  unfold YtclplbnildnifaaGreatDoor.cutX
  have h1 := h.calls
  have h2 := h.reads
  have h3 := h.appends
  have h4 := h.faults
  have h5 := h.full
  split
  · next f hf => exact h.setF hf (c := { A.c with calls := A.c.calls + 1, used := A.c.used + 1, most := max A.c.most (A.c.used + 1) }) (d := 1) (by simp) (by omega) (by simp) (by show A.c.used + 1 ≤ max A.c.most (A.c.used + 1); omega) (by show 0 ≤ A.c.calls + 1 ∧ A.c.calls + 1 ≤ (t : Int) + 1; omega) (by show 0 ≤ A.c.reads ∧ A.c.reads ≤ (t : Int) + 1; omega) (by show 0 ≤ A.c.appends ∧ A.c.appends ≤ (t : Int) + 1; omega) (by show 0 ≤ A.c.faults ∧ A.c.faults ≤ (t : Int) + 1; omega) (by show 0 ≤ A.c.full ∧ A.c.full ≤ (t : Int) + 1; omega) _
  · exact h.more
theorem IB.read (h : IB t A) (s : ByteArray) (i k : Int) : IB (t + 1) (readX s i k A).2.2 := by
  have h1 := h.calls
  have h2 := h.reads
  have hr : IB (t + 1) (readA s i A).2.2 := by
    unfold readA
    have hm := h.more
    split
    · split
      · exact hm
      · split
        · split
          · exact ⟨hm.size, by show 0 ≤ A.c.calls + 1 ∧ A.c.calls + 1 ≤ _; omega, by show 0 ≤ A.c.reads + 1 ∧ A.c.reads + 1 ≤ _; omega, hm.appends, hm.faults, hm.full, hm.used, hm.most, hm.total, hm.few, hm.rise⟩
          · exact hm
        · exact hm
    · exact hm
  unfold readX
  split
  · split
    · exact h.faulted
    · split
      · exact h.shut
      · exact hr
  · exact hr
theorem IB.bef (h : IB t A) {k y : Int} {r : Int × PubA} {part : PubA} (hr : IB (t + 1) r.2) (hp : IB (t + 1) part) : IB (t + 1) (befX k y A r part).2 := by
  unfold befX
  split
  · split
    · exact h.faulted
    · split
      · show IB (t + 1) (if 0 < y then part else A.shut)
        split
        · exact hp
        · exact h.shut
      · exact hr
  · exact hr
end
section
variable {w w' : World} {E : Nat → Addr} {lo p mf mt : Nat} {D : DiskC}
/-- what the landed disk wants for a call. -/
structure Rdy (w : World) (E : Nat → Addr) (lo p mf mt : Nat) (D : DiskC) (t : TrA) : Prop where
  env : Env w lo E
  rep : Rep w lo p mf mt D
  small : Small D.pub
  faults : 0 ≤ D.c.faults ∧ D.c.faults ≤ 1099511627776
  more : D.c.calls + 1 ≤ 1099511627776
  tr : TroubleIs D.T D.c.calls t.at_ t.kind t.bytes
variable {t : TrA}
theorem Create_b (h : Rdy w E lo p mf mt D t) (s : ByteArray) : Calls Tryz.prog 78 #[ptr p, .string s] w fun e w' => e = .returned (.int .i64 (createB s t D.pub).1) ∧ Did3 w w' lo p mf mt D (createB s t D.pub).2 := by
  unfold createB
  cases ho : D.on with
  | true =>
    have hon : D.pub.on = true := ho
    rw [if_pos hon]
    refine (Create_x h.env h.rep ho h.small h.faults h.tr s).mono fun e w' ⟨v, A', h1, h2, h3⟩ => ?_
    have h4 : befX t.kind t.bytes D.pub (createA s D.pub) { (createA s D.pub).2 with on := false } = (v, A') := h3
    rw [h4]
    exact ⟨h1, h2⟩
  | false =>
    have hon : ¬ D.pub.on = true := by show ¬ D.on = true; rw [ho]; simp
    rw [if_neg hon]
    exact Create_off h.env h.rep ho s
theorem Seal_b (h : Rdy w E lo p mf mt D t) (s : ByteArray) : Calls Tryz.prog 83 #[ptr p, .string s] w fun e w' => e = .returned (.int .i64 (sealB s t D.pub).1) ∧ Did3 w w' lo p mf mt D (sealB s t D.pub).2 := by
  unfold sealB
  cases ho : D.on with
  | true =>
    have hon : D.pub.on = true := ho
    rw [if_pos hon]
    refine (Seal_x h.env h.rep ho h.small h.faults h.tr s).mono fun e w' ⟨v, A', h1, h2, h3⟩ => ?_
    have h4 : befX t.kind t.bytes D.pub (sealA s D.pub) { (sealA s D.pub).2 with on := false } = (v, A') := h3
    rw [h4]
    exact ⟨h1, h2⟩
  | false =>
    have hon : ¬ D.pub.on = true := by show ¬ D.on = true; rw [ho]; simp
    rw [if_neg hon]
    exact Seal_off h.env h.rep ho s
theorem Append_b (h : Rdy w E lo p mf mt D t) (s : ByteArray) {sa : Option Addr} {n c : Nat} {bl : List UInt8} (hh : Hand w p mf mt D sa n c bl) : Calls Tryz.prog 144 #[ptr p, .string s, .slice sa n c] w fun e w' => e = .returned (.int .i64 (appendB s bl t D.pub).1) ∧ Did3 w w' lo p mf mt D (appendB s bl t D.pub).2 := by
  unfold appendB
  cases ho : D.on with
  | true =>
    have hon : D.pub.on = true := ho
    rw [if_pos hon]
    refine (Append_x h.env h.rep ho h.small h.faults h.more h.tr s hh).mono fun e w' ⟨v, A', h1, h2, h3⟩ => ?_
    have h4 : befX t.kind t.bytes D.pub (appendA s bl D.pub) (cutX s bl t.bytes D.pub) = (v, A') := h3
    rw [h4]
    exact ⟨h1, h2⟩
  | false =>
    have hon : ¬ D.pub.on = true := by show ¬ D.on = true; rw [ho]; simp
    rw [if_neg hon]
    exact Append_off h.env h.rep ho s sa n c
theorem Read_b (h : Rdy w E lo p mf mt D t) (s : ByteArray) (i : Int) : Calls Tryz.prog 151 #[ptr p, .string s, .int .i64 i] w fun e w' => ∃ v, e = .returned (.tuple #[v, .int .i64 (readB s i t D.pub).2.1]) ∧ Told1 w' w.heap.size D.B (readB s i t D.pub).1 v ∧ DidIn3 w w' lo p mf mt D (readB s i t D.pub).2.2 := by
  unfold readB
  cases ho : D.on with
  | true =>
    have hon : D.pub.on = true := ho
    rw [if_pos hon]
    exact Read_x h.env h.rep ho h.small h.faults h.tr s i
  | false =>
    have hon : ¬ D.pub.on = true := by show ¬ D.on = true; rw [ho]; simp
    rw [if_neg hon]
    exact Read_off h.env h.rep ho s i
theorem Length_b (h : Rdy w E lo p mf mt D t) (s : ByteArray) : Calls Tryz.prog 87 #[ptr p, .string s] w fun e w' => e = .returned (.tuple #[.int .i64 (lengthB s D.pub).1, .bool (lengthB s D.pub).2.1, .int .i64 (lengthB s D.pub).2.2]) ∧ Touch [] w w' := by
  unfold lengthB
  cases ho : D.on with
  | true =>
    have hon : D.pub.on = true := ho
    rw [if_pos hon]
    exact Length_any h.env h.rep ho s
  | false =>
    have hon : ¬ D.pub.on = true := by show ¬ D.on = true; rw [ho]; simp
    rw [if_neg hon]
    exact Length_off h.env h.rep ho s
set_option maxHeartbeats 400000 in
theorem Block_any (R : Rep w lo p mf mt D) : Calls Tryz.prog 9 #[ptr p] w fun e w' => e = .returned (.int .i64 (D.B : Int)) ∧ w' = w := by
  have k0 := R.cell 0
  simp only [dRow] at k0
  go_enter Tryz.func9, Tryz.ntmps9
  go_wp2
  go_ret
  exact ⟨rfl, rfl⟩
end
end Go.Proofs.YtclplbnildnifaaGreatDoor
namespace Go.Proofs.YtclplbnildnifaaGreatDoor.Pu
set_option maxRecDepth 100000
abbrev muLink : Go.Conc.Locks.MuLink := { lock := 44, unlock := 45, ilock := 90, iunlock := 91, lockSlow := 159, unlockSlow := 162, disable := 155, enable := 157, acquire := 158, relMerge := 160, cas32 := 156, add32 := 161, tMutex := 146, tIMutex := 144, tPMutex := 107, tPIMutex := 210, tPI32 := 212, tUP := 214, tNoCopy := 141, tU32 := 142 }
theorem muLib : Go.Conc.Locks.MuLib Tryz.prog muLink :=
  ⟨Tryz.func44, Tryz.func45, Tryz.func90, Tryz.func91, Tryz.func155, Tryz.func157, Tryz.func158, Tryz.func160, Tryz.func156, Tryz.func161, Tryz.underlying144, Tryz.runUnderlying144, Tryz.sizeOf144, Tryz.isAgg144, Tryz.zeroValue144, Tryz.underlying146, Tryz.runUnderlying146, Tryz.sizeOf146, Tryz.isAgg146, Tryz.zeroValue146, Tryz.underlying107, Tryz.runUnderlying107, Tryz.sizeOf107, Tryz.isAgg107, Tryz.zeroValue107, Tryz.underlying210, Tryz.runUnderlying210, Tryz.sizeOf210, Tryz.isAgg210, Tryz.zeroValue210, Tryz.underlying212, Tryz.runUnderlying212, Tryz.sizeOf212, Tryz.isAgg212, Tryz.zeroValue212, Tryz.underlying214, Tryz.runUnderlying214, Tryz.sizeOf214, Tryz.isAgg214, Tryz.zeroValue214, Tryz.underlying141, Tryz.runUnderlying141, Tryz.sizeOf141, Tryz.isAgg141, Tryz.zeroValue141, Tryz.underlying21, Tryz.runUnderlying21, Tryz.sizeOf21, Tryz.isAgg21, Tryz.zeroValue21, (by kernel_rfl)⟩
end Go.Proofs.YtclplbnildnifaaGreatDoor.Pu
namespace Go.Proofs.YtclplbnildnifaaGreatDoor.Pu
set_option maxRecDepth 100000
open Go.RowKit Go.MuLone

/-! ### what a run may have touched -/
section
variable {F G : List Nat} {a w w' : World}
end

/-! ### rows -/
/-- What a purse keeps. -/
structure St where
  limit : Int
  lb : Nat
  whole : Value
  hand : Int
  lent : Int
  parts : Int
  closed : Bool
  peak : Int

abbrev St.row (s : St) : Array Value := #[.int .i64 s.limit, ptr s.lb, s.whole, .int .i64 s.hand, .int .i64 s.lent, .int .i64 s.parts, .bool s.closed, .int .i64 s.peak]

/-- its numbers are right. -/
structure St.Good (s : St) : Prop where
  hand : 0 ≤ s.hand
  lent : 0 ≤ s.lent
  out : s.hand + s.lent ≤ s.limit
  limit : s.limit ≤ 9223372036854775807
  parts : 0 ≤ s.parts
  partsLe : s.parts ≤ 4611686018427387904
  peak : s.hand + s.lent ≤ s.peak
  peakLe : s.peak ≤ s.limit

abbrev PurseAt (w : World) (b : Nat) (s : St) : Prop := w.heap[b]? = some (.cells s.row 114 (0, 0))
abbrev LockAt (w : World) (lb : Nat) (k : Int) : Prop := w.heap[lb]? = some (.cells #[.int .i32 k, .int .u32 0] 146 (0, 0))

def moveE (s : St) (n : Int) : Int := if s.closed then 6 else if n < 0 then 1 else 0
def leaveE (s : St) (n : Int) : Int := if s.closed then 6 else if n < 0 then 1 else if n > s.limit - (s.hand + s.lent) then 2 else 0
def giveE (s : St) (n : Int) : Int := if s.closed then 6 else if n < 0 then 1 else if n > s.hand then 20 else 0

section
variable {w : World} {b : Nat} {s : St}

set_option maxRecDepth 100000 in
set_option maxHeartbeats 400000 in
theorem mayMove_any (h : PurseAt w b s) (n : Int) : Calls Tryz.prog 154 #[ptr b, .int .i64 n] w fun e w' => e = .returned (.int .i64 (moveE s n)) ∧ w' = w := by
  have c := fun i => cell_row h i
  clear h
  cases hc : s.closed with
  | true =>
    have HB := hid (show moveE s n = 6 by simp [moveE, hc])
    go_enter Tryz.func154, Tryz.ntmps154
    go_wp2
    go_ret
    rw [HB.out]
    exact ⟨rfl, rfl⟩
  | false =>
    by_cases hn : n < 0
    · have HB := hid (show moveE s n = 1 by simp [moveE, hc, hn])
      go_enter Tryz.func154, Tryz.ntmps154
      go_wp2
      go_ret
      rw [HB.out]
      exact ⟨rfl, rfl⟩
    · have HB := hid (show moveE s n = 0 by simp [moveE, hc, hn])
      go_enter Tryz.func154, Tryz.ntmps154
      go_wp2
      go_ret
      rw [HB.out]
      exact ⟨rfl, rfl⟩
end
end Go.Proofs.YtclplbnildnifaaGreatDoor.Pu
namespace Go.Proofs.YtclplbnildnifaaGreatDoor.Pu
set_option maxRecDepth 100000
open Go.RowKit Go.MuLone


section
variable {w : World} {b : Nat} {s : St}

set_option maxRecDepth 100000 in
set_option maxHeartbeats 400000 in
theorem out_any' (h : PurseAt w b s) (g1 : 0 ≤ s.hand) (g2 : 0 ≤ s.lent) (g3 : s.hand + s.lent ≤ s.limit) (g4 : s.limit ≤ 9223372036854775807) : Calls Tryz.prog 46 #[ptr b] w fun e w' => e = .returned (.int .i64 (s.hand + s.lent)) ∧ ∃ n, w' = w.drewN n := by
  have c := fun i => cell_row h i
  have hw : IntKind.i64.wrap (s.hand + s.lent) = s.hand + s.lent := (IntWalk.i64_left _).trans <| IntWalk.wrap64_in _ ⟨by omega, by omega⟩
  clear h
  go_enter Tryz.func46, Tryz.ntmps46
  go_wp2
  go_quiet (fail)
  all_goals go_wp2
  go_ret
  exact ⟨by simp, _, rfl⟩

theorem out_any (h : PurseAt w b s) (g : s.Good) : Calls Tryz.prog 46 #[ptr b] w fun e w' => e = .returned (.int .i64 (s.hand + s.lent)) ∧ ∃ n, w' = w.drewN n :=
  out_any' h g.hand g.lent g.out g.limit

set_option maxRecDepth 100000 in
set_option maxHeartbeats 400000 in
theorem free_any (h : PurseAt w b s) (g : s.Good) : Calls Tryz.prog 136 #[ptr b] w fun e w' => e = .returned (.int .i64 (s.limit - (s.hand + s.lent))) ∧ ∃ n, w' = w.drewN n := by
  have c := fun i => cell_row h i
  have hw : IntKind.i64.wrap (s.limit - (s.hand + s.lent)) = s.limit - (s.hand + s.lent) := (IntWalk.i64_left _).trans <| IntWalk.wrap64_in _ ⟨by have := g.out; omega, by have := g.hand; have := g.lent; have := g.limit; omega⟩
  have HO := hid (fun n => out_any (w := w.drewN n) (b := b) (s := s) h g)
  clear h g
  go_enter Tryz.func136, Tryz.ntmps136
  go_wp2
  go_quiet (first | (go_at_call 46; exact Calls.quiet_of (HO.out _)))
  all_goals go_wp2
  go_ret
  exact ⟨by simp, _, rfl⟩

set_option maxRecDepth 100000 in
set_option maxHeartbeats 400000 in
theorem load_any {a : Addr} {x : Int} (c : w.cell? a = some (.int .i64 x)) : Calls Tryz.prog 48 #[.pointer (some a)] w fun e w' => e = .returned (.int .i64 x) ∧ w' = w := by
  have hl := run_call_load (P := Tryz.prog) Tryz.func92 (by kernel_rfl) (by kernel_rfl) (by kernel_rfl) .i64 (by kernel_rfl) c
  go_enter Tryz.func48, Tryz.ntmps48
  go_wp2
  go_ret
  exact ⟨rfl, rfl⟩

set_option maxRecDepth 100000 in
set_option maxHeartbeats 400000 in
theorem store_any {a : Addr} {u : Value} (y : Int) (c : w.cell? a = some u) (z : w.frozen? a = false) : Calls Tryz.prog 165 #[.pointer (some a), .int .i64 y] w fun e w' => e = .returned (.tuple #[]) ∧ w' = w.setCell a (.int .i64 y) := by
  have hl := run_call_store (P := Tryz.prog) Tryz.func220 (by kernel_rfl) (by kernel_rfl) (by kernel_rfl) (by kernel_rfl) (k := .i64) (y := y) c z
  go_enter Tryz.func165, Tryz.ntmps165
  go_wp2
  go_end0
  exact ⟨rfl, rfl⟩

set_option maxRecDepth 100000 in
set_option maxHeartbeats 400000 in
theorem mayLeave_any (h : PurseAt w b s) (g : s.Good) (n : Int) : Calls Tryz.prog 100 #[ptr b, .int .i64 n] w fun e w' => e = .returned (.int .i64 (leaveE s n)) ∧ ∃ n, w' = w.drewN n := by
  have HM := hid (mayMove_any h n)
  have HF := hid (free_any h g)
  by_cases hc : s.closed = true
  · have e1 : moveE s n = 6 := by simp [moveE, hc]
    have HB := hid (show leaveE s n = 6 by simp [leaveE, hc])
    rw [e1] at HM
    clear h g e1
    go_enter Tryz.func100, Tryz.ntmps100
    go_wp2_with (first | (go_at_call 154; refine HM.out.mono ?_; rintro e w' ⟨rfl, rfl⟩))
    go_ret
    rw [HB.out]
    exact ⟨rfl, 0, rfl⟩
  · by_cases hn : n < 0
    · have e1 : moveE s n = 1 := by simp [moveE, hc, hn]
      have HB := hid (show leaveE s n = 1 by simp [leaveE, hc, hn])
      rw [e1] at HM
      clear h g e1
      go_enter Tryz.func100, Tryz.ntmps100
      go_wp2_with (first | (go_at_call 154; refine HM.out.mono ?_; rintro e w' ⟨rfl, rfl⟩))
      go_ret
      rw [HB.out]
      exact ⟨rfl, 0, rfl⟩
    · have e1 : moveE s n = 0 := by simp [moveE, hc, hn]
      rw [e1] at HM
      by_cases hf : n > s.limit - (s.hand + s.lent)
      · have HB := hid (show leaveE s n = 2 by simp [leaveE, hc, hn, hf])
        clear h g e1 hc hn
        go_enter Tryz.func100, Tryz.ntmps100
        go_wp2_with (first | (go_at_call 136; refine HF.out.mono ?_; rintro e w' ⟨rfl, m, rfl⟩) | (go_at_call 154; refine HM.out.mono ?_; rintro e w' ⟨rfl, rfl⟩))
        go_ret
        rw [HB.out]
        exact ⟨rfl, m, rfl⟩
      · have HB := hid (show leaveE s n = 0 by simp only [leaveE, hc, hn, hf, if_false]; simp)
        clear h g e1 hc hn
        go_enter Tryz.func100, Tryz.ntmps100
        go_wp2_with (first | (go_at_call 136; refine HF.out.mono ?_; rintro e w' ⟨rfl, m, rfl⟩) | (go_at_call 154; refine HM.out.mono ?_; rintro e w' ⟨rfl, rfl⟩))
        go_ret
        rw [HB.out]
        exact ⟨rfl, m, rfl⟩
end
end Go.Proofs.YtclplbnildnifaaGreatDoor.Pu
namespace Go.Proofs.YtclplbnildnifaaGreatDoor.Pu
set_option maxRecDepth 100000
open Go.RowKit Go.MuLone

section
variable {w : World} {b : Nat} {s : St}

set_option maxRecDepth 100000 in
set_option maxHeartbeats 400000 in
theorem raise_any (h : PurseAt w b s) (g1 : 0 ≤ s.hand) (g2 : 0 ≤ s.lent) (g3 : s.hand + s.lent ≤ s.limit) (g4 : s.limit ≤ 9223372036854775807) :
    Calls Tryz.prog 101 #[ptr b] w fun e w' => e = .returned (.tuple #[]) ∧ ∃ n, w' = (w.drewN n).setCell ⟨b, 7, none⟩ (.int .i64 (max s.peak (s.hand + s.lent))) := by
  have HO : Hid (∀ W, PurseAt W b s → Calls Tryz.prog 46 #[ptr b] W fun e w' => e = .returned (.int .i64 (s.hand + s.lent)) ∧ ∃ n, w' = W.drewN n) := hid fun W hW => by
    exact out_any' hW g1 g2 g3 g4
  have HH := hid h
  have HL := hid (fun W (hW : PurseAt W b s) => load_any (w := W) (a := ⟨b, 7, none⟩) (x := s.peak) (cell_row hW 7))
  have HS := hid (fun W (hW : PurseAt W b s) (y : Int) => store_any (w := W) (a := ⟨b, 7, none⟩) (u := .int .i64 s.peak) y (cell_row hW 7) (unfrozen_row hW 7))
  clear h g1 g2 g3 g4
  by_cases hp : s.hand + s.lent > s.peak
  · have HB := hid (show max s.peak (s.hand + s.lent) = s.hand + s.lent by omega)
    go_enter Tryz.func101, Tryz.ntmps101
    go_wp2
    go_region_with (first | (go_at_call 165; refine (HS.out _ ?_ _).mono ?_; exact HH.out; rintro e w' ⟨rfl, rfl⟩) | (go_at_call 46; refine (HO.out _ ?_).mono ?_; exact HH.out; rintro e w' ⟨rfl, m, rfl⟩) | (go_at_call 48; refine (HL.out _ ?_).mono ?_; exact HH.out; rintro e w' ⟨rfl, rfl⟩))
    all_goals go_wp2
    all_goals go_end0
    all_goals (rw [HB.out]; exact ⟨rfl, _, rfl⟩)
  · have HB := hid (show max s.peak (s.hand + s.lent) = s.peak by omega)
    go_enter Tryz.func101, Tryz.ntmps101
    go_wp2
    go_region_with (first | (go_at_call 165; refine (HS.out _ ?_ _).mono ?_; exact HH.out; rintro e w' ⟨rfl, rfl⟩) | (go_at_call 46; refine (HO.out _ ?_).mono ?_; exact HH.out; rintro e w' ⟨rfl, m, rfl⟩) | (go_at_call 48; refine (HL.out _ ?_).mono ?_; exact HH.out; rintro e w' ⟨rfl, rfl⟩))
    all_goals go_wp2
    all_goals go_end0
    all_goals (rw [HB.out]; exact ⟨rfl, _, rfl⟩)

theorem raise_at (h : PurseAt w b s) (g1 : 0 ≤ s.hand) (g2 : 0 ≤ s.lent) (g3 : s.hand + s.lent ≤ s.limit) (g4 : s.limit ≤ 9223372036854775807) :
    Calls Tryz.prog 101 #[ptr b] w fun e w' => e = .returned (.tuple #[]) ∧ PurseAt w' b { s with peak := max s.peak (s.hand + s.lent) } ∧ Touch [b] w w' := by
  refine (raise_any h g1 g2 g3 g4).mono ?_
  rintro e w' ⟨rfl, n, rfl⟩
  exact ⟨rfl, heap_setCell_row (w := w.drewN n) h 7 _, ((Touch.refl [b] w).drewN n).setCell (by simp) _⟩

theorem lock_any (h : PurseAt w b s) (hl : LockAt w s.lb 0) (hne : b ≠ s.lb) :
    Calls Tryz.prog 44 #[ptr s.lb] w fun e w' => e = .returned (.tuple #[]) ∧ PurseAt w' b s ∧ LockAt w' s.lb 1 ∧ Touch [s.lb] w w' := by
  refine (lock_free muLib ⟨s.lb, 0, none⟩ w (cell_row hl 0) (unfrozen_row hl 0)).mono ?_
  rintro e w' ⟨rfl, rfl⟩
  exact ⟨rfl, (Below.heap_setCell w _ _ b hne).trans h, heap_setCell_row hl 0 _, (Touch.refl [s.lb] w).setCell (by simp) _⟩

theorem unlock_any (u : FrameMode) (h : PurseAt w b s) {lb : Nat} (hl : LockAt w lb 1) (hne : b ≠ lb) :
    CallsD Tryz.prog 45 #[ptr lb] u w fun e u' w' => u' = u ∧ e = .returned (.tuple #[]) ∧ PurseAt w' b s ∧ LockAt w' lb 0 ∧ Touch [lb] w w' := by
  refine (unlock_deferred muLib ⟨lb, 0, none⟩ u w (cell_row hl 0) (unfrozen_row hl 0)).mono ?_
  rintro e u' w' ⟨rfl, rfl, rfl⟩
  exact ⟨rfl, rfl, (Below.heap_setCell w _ _ b hne).trans h, heap_setCell_row hl 0 _, (Touch.refl [lb] w).setCell (by simp) _⟩

theorem LockAt.touch {w' : World} {F : List Nat} {lb : Nat} {k : Int} (h : LockAt w lb k) (t : Touch F w w') (hn : lb ∉ F) : LockAt w' lb k := (t.block lb (lt_of_block h) hn).trans h
theorem PurseAt.touch {w' : World} {F : List Nat} (h : PurseAt w b s) (t : Touch F w w') (hn : b ∉ F) : PurseAt w' b s := (t.block b (lt_of_block h) hn).trans h

theorem PurseAt.quiet {w' : World} (h : PurseAt w b s) (hq : Quiet w w') : PurseAt w' b s := by obtain ⟨n, rfl⟩ := hq; exact h

def St.take (s : St) (n : Int) : St := if leaveE s n = 0 then { s with hand := s.hand + n, peak := max s.peak (s.hand + n + s.lent) } else s
def St.give (s : St) (n : Int) : St := if giveE s n = 0 then { s with hand := s.hand - n } else s

set_option maxRecDepth 100000 in
set_option maxHeartbeats 400000 in
theorem take_any (h : PurseAt w b s) (hl : LockAt w s.lb 0) (hne : b ≠ s.lb) (g : s.Good) (n : Int) :
    Calls Tryz.prog 113 #[ptr b, .int .i64 n] w fun e w' => e = .returned (.int .i64 (leaveE s n)) ∧ PurseAt w' b (s.take n) ∧ LockAt w' s.lb 0 ∧ Touch [b, s.lb] w w' := by
  have c := fun i => cell_row h i
  have HL := hid (lock_any h hl hne)
  have HM := hid (fun W (hW : PurseAt W b s) => mayLeave_any hW g n)
  by_cases he : leaveE s n = 0
  · rw [he] at HM
    have HTK := hid (show s.take n = { s with hand := s.hand + n, peak := max s.peak (s.hand + n + s.lent) } by simp [St.take, he])
    have HE := hid he
    have hn : 0 ≤ n ∧ n ≤ s.limit - (s.hand + s.lent) := by
      unfold leaveE at he
      split at he
      · simp at he
      split at he
      · simp at he
      split at he
      · simp at he
      omega
    have hw : wrap64 (s.hand + n) = s.hand + n := IntWalk.wrap64_in _ ⟨by have := g.hand; omega, by have := g.out; have := g.lent; have := g.limit; omega⟩
    have HR := hid (fun W (hW : PurseAt W b { s with hand := s.hand + n }) => raise_at hW (by have := g.hand; show (0 : Int) ≤ s.hand + n; omega) g.lent (by show s.hand + n + s.lent ≤ s.limit; omega) g.limit)
    have HN := hid hne
    clear h hl hne g he hn
    go_enter_defers Tryz.func113, Tryz.ntmps113
    go_wp2_with (first
      | (go_at_call 101; refine (HR.out _ ?_).mono ?_; exact heap_setCell_row HP2.out 3 _; rintro e w3 ⟨rfl, hp3, ht3⟩; have HP3 := hid hp3; have HT3 := hid ht3; clear hp3 ht3)
      | (go_at_call 100; refine (HM.out _ HP1.out).mono ?_; rintro e w2 ⟨rfl, hq⟩; have hp2 := PurseAt.quiet HP1.out hq; have HP2 := hid hp2; have HQ := hid hq; have c2 := (fun i => cell_row hp2 i); have f2 := (fun i => unfrozen_row hp2 i); clear hp2 hq)
      | (go_at_call 44; refine HL.out.mono ?_; rintro e w1 ⟨rfl, hp1, hl1, ht1⟩; have HP1 := hid hp1; have HL1 := hid hl1; have HT1 := hid ht1; have c1 := (fun i => cell_row hp1 i); clear hp1 hl1 ht1))
    refine leaves_cons (f := 45) (args := #[ptr s.lb]) (by simp) (by simp [go_sem]) ?_
    have t2 : Touch [b, s.lb] w w2 := (HT1.out.mono (by simp)).trans (Quiet.touch HQ.out []) (by simp)
    have t3 : Touch [b, s.lb] w w3 := (t2.setCell (p := ⟨b, 3, none⟩) (by simp) _).trans HT3.out (by simp)
    have hl3 : LockAt w3 s.lb 1 := LockAt.touch (w := w2.setCell ⟨b, 3, none⟩ (.int .i64 (s.hand + n))) ((Below.heap_setCell w2 _ _ s.lb (by simpa using HN.out.symm)).trans (LockAt.touch HL1.out (Quiet.touch HQ.out []) (by simp))) HT3.out (by simpa using HN.out.symm)
    refine (unlock_any .returning HP3.out hl3 HN.out).mono ?_
    rintro e u' w4 ⟨rfl, rfl, hp4, hl4, ht4⟩
    refine ⟨_, results_tmp rfl _ _ _, ?_⟩
    rw [HE.out, HTK.out]
    exact ⟨rfl, hp4, hl4, t3.trans ht4 (by simp)⟩
  · have HTK := hid (show s.take n = s by simp [St.take, he])
    have hk : (leaveE s n != 0) = true := by simpa using he
    have HN := hid hne
    clear h hl hne g he
    go_enter_defers Tryz.func113, Tryz.ntmps113
    go_wp2_with (first
      | (go_at_call 100; refine (HM.out _ HP1.out).mono ?_; rintro e w2 ⟨rfl, hq⟩; have hp2 := PurseAt.quiet HP1.out hq; have HP2 := hid hp2; have HQ := hid hq; clear hp2 hq)
      | (go_at_call 44; refine HL.out.mono ?_; rintro e w1 ⟨rfl, hp1, hl1, ht1⟩; have HP1 := hid hp1; have HL1 := hid hl1; have HT1 := hid ht1; have c1 := (fun i => cell_row hp1 i); clear hp1 hl1 ht1))
    refine leaves_cons (f := 45) (args := #[ptr s.lb]) (by simp) (by simp [go_sem]) ?_
    have t2 : Touch [b, s.lb] w w2 := (HT1.out.mono (by simp)).trans (Quiet.touch HQ.out []) (by simp)
    refine (unlock_any .returning HP2.out (LockAt.touch HL1.out (Quiet.touch HQ.out []) (by simp)) HN.out).mono ?_
    rintro e u' w4 ⟨rfl, rfl, hp4, hl4, ht4⟩
    refine ⟨_, results_tmp rfl _ _ _, ?_⟩
    rw [HTK.out]
    exact ⟨rfl, hp4, hl4, t2.trans ht4 (by simp)⟩
end
end Go.Proofs.YtclplbnildnifaaGreatDoor.Pu
namespace Go.Proofs.YtclplbnildnifaaGreatDoor.Pu
set_option maxRecDepth 100000
open Go.RowKit Go.MuLone

section
variable {w : World} {b : Nat} {s : St}

set_option maxRecDepth 100000 in
set_option maxHeartbeats 400000 in
theorem give_any (h : PurseAt w b s) (hl : LockAt w s.lb 0) (hne : b ≠ s.lb) (g : s.Good) (n : Int) :
    Calls Tryz.prog 89 #[ptr b, .int .i64 n] w fun e w' => e = .returned (.int .i64 (giveE s n)) ∧ PurseAt w' b (s.give n) ∧ LockAt w' s.lb 0 ∧ Touch [b, s.lb] w w' := by
  have c := fun i => cell_row h i
  have HL := hid (lock_any h hl hne)
  have HM := hid (fun W (hW : PurseAt W b s) => mayMove_any hW n)
  have HN := hid hne
  by_cases he : moveE s n = 0
  · rw [he] at HM
    have hn : s.closed = false ∧ 0 ≤ n := by
      unfold moveE at he
      split at he
      · simp at he
      split at he
      · simp at he
      rename_i h1 h2
      exact ⟨by simpa using h1, by omega⟩
    by_cases hg : n > s.hand
    · have HE := hid (show giveE s n = 20 by simp only [giveE, hn.1, hg]; simp; omega)
      have HTK := hid (show s.give n = s by simp [St.give, HE.out])
      clear h hl hne g he hn
      go_enter_defers Tryz.func89, Tryz.ntmps89
      go_wp2_with (first
        | (go_at_call 154; refine (HM.out _ HP1.out).mono ?_; rintro e w2 ⟨rfl, rfl⟩)
        | (go_at_call 44; refine HL.out.mono ?_; rintro e w1 ⟨rfl, hp1, hl1, ht1⟩; have HP1 := hid hp1; have HL1 := hid hl1; have HT1 := hid ht1; have c1 := (fun i => cell_row hp1 i); clear hp1 hl1 ht1))
      refine leaves_cons (f := 45) (args := #[ptr s.lb]) (by simp) (by simp [go_sem]) ?_
      refine (unlock_any .returning HP1.out HL1.out HN.out).mono ?_
      rintro e u' w4 ⟨rfl, rfl, hp4, hl4, ht4⟩
      refine ⟨_, results_tmp rfl _ _ _, ?_⟩
      rw [HE.out, HTK.out]
      exact ⟨rfl, hp4, hl4, (HT1.out.mono (by simp)).trans ht4 (by simp)⟩
    · have HE := hid (show giveE s n = 0 by simp only [giveE, hn.1, hg]; simp; omega)
      have HTK := hid (show s.give n = { s with hand := s.hand - n } by simp [St.give, HE.out])
      have hw : wrap64 (s.hand - n) = s.hand - n := IntWalk.wrap64_in _ ⟨by omega, by have := g.hand; have := g.lent; have := g.out; have := g.limit; omega⟩
      clear h hl hne g he hn
      go_enter_defers Tryz.func89, Tryz.ntmps89
      go_wp2_with (first
        | (go_at_call 154; refine (HM.out _ HP1.out).mono ?_; rintro e w2 ⟨rfl, rfl⟩)
        | (go_at_call 44; refine HL.out.mono ?_; rintro e w1 ⟨rfl, hp1, hl1, ht1⟩; have HP1 := hid hp1; have HL1 := hid hl1; have HT1 := hid ht1; have c1 := (fun i => cell_row hp1 i); have f1 := (fun i => unfrozen_row hp1 i); clear hp1 hl1 ht1))
      refine leaves_cons (f := 45) (args := #[ptr s.lb]) (by simp) (by simp [go_sem]) ?_
      have hp2 : PurseAt (w2.setCell ⟨b, 3, none⟩ (.int .i64 (s.hand - n))) b { s with hand := s.hand - n } := heap_setCell_row HP1.out 3 _
      have hl2 : LockAt (w2.setCell ⟨b, 3, none⟩ (.int .i64 (s.hand - n))) s.lb 1 := (Below.heap_setCell w2 _ _ s.lb (by simpa using HN.out.symm)).trans HL1.out
      refine (unlock_any .returning hp2 hl2 HN.out).mono ?_
      rintro e u' w4 ⟨rfl, rfl, hp4, hl4, ht4⟩
      refine ⟨_, results_tmp rfl _ _ _, ?_⟩
      rw [HE.out, HTK.out]
      exact ⟨rfl, hp4, hl4, ((HT1.out.mono (by simp)).setCell (by simp) _).trans ht4 (by simp)⟩
  · have HE := hid (show giveE s n = moveE s n by unfold moveE giveE at *; split at he <;> simp_all)
    have hne0 : giveE s n ≠ 0 := by rw [HE.out]; exact he
    have HTK := hid (show s.give n = s by simp [St.give, hne0])
    have hk : (moveE s n != 0) = true := by simpa using he
    clear h hl hne g he hne0
    go_enter_defers Tryz.func89, Tryz.ntmps89
    go_wp2_with (first
      | (go_at_call 154; refine (HM.out _ HP1.out).mono ?_; rintro e w2 ⟨rfl, rfl⟩)
      | (go_at_call 44; refine HL.out.mono ?_; rintro e w1 ⟨rfl, hp1, hl1, ht1⟩; have HP1 := hid hp1; have HL1 := hid hl1; have HT1 := hid ht1; have c1 := (fun i => cell_row hp1 i); clear hp1 hl1 ht1))
    refine leaves_cons (f := 45) (args := #[ptr s.lb]) (by simp) (by simp [go_sem]) ?_
    refine (unlock_any .returning HP1.out HL1.out HN.out).mono ?_
    rintro e u' w4 ⟨rfl, rfl, hp4, hl4, ht4⟩
    refine ⟨_, results_tmp rfl _ _ _, ?_⟩
    rw [HE.out, HTK.out]
    exact ⟨rfl, hp4, hl4, (HT1.out.mono (by simp)).trans ht4 (by simp)⟩

set_option maxRecDepth 100000 in
set_option maxHeartbeats 400000 in
theorem used_any (h : PurseAt w b s) (hl : LockAt w s.lb 0) (hne : b ≠ s.lb) (g : s.Good) :
    Calls Tryz.prog 15 #[ptr b] w fun e w' => e = .returned (.int .i64 (s.hand + s.lent)) ∧ PurseAt w' b s ∧ LockAt w' s.lb 0 ∧ Touch [b, s.lb] w w' := by
  have c := fun i => cell_row h i
  have HL := hid (lock_any h hl hne)
  have HO := hid (fun W (hW : PurseAt W b s) => out_any hW g)
  have HN := hid hne
  clear h hl hne g
  go_enter_defers Tryz.func15, Tryz.ntmps15
  go_wp2_with (first
    | (go_at_call 46; refine (HO.out _ HP1.out).mono ?_; rintro e w2 ⟨rfl, hq⟩; have hp2 := PurseAt.quiet HP1.out hq; have HP2 := hid hp2; have HQ := hid hq; clear hp2 hq)
    | (go_at_call 44; refine HL.out.mono ?_; rintro e w1 ⟨rfl, hp1, hl1, ht1⟩; have HP1 := hid hp1; have HL1 := hid hl1; have HT1 := hid ht1; have c1 := (fun i => cell_row hp1 i); clear hp1 hl1 ht1))
  refine leaves_cons (f := 45) (args := #[ptr s.lb]) (by simp) (by simp [go_sem]) ?_
  have t2 : Touch [b, s.lb] w w2 := (HT1.out.mono (by simp)).trans (Quiet.touch HQ.out []) (by simp)
  refine (unlock_any .returning HP2.out (LockAt.touch HL1.out (Quiet.touch HQ.out []) (by simp)) HN.out).mono ?_
  rintro e u' w4 ⟨rfl, rfl, hp4, hl4, ht4⟩
  refine ⟨_, results_tmp rfl _ _ _, ?_⟩
  exact ⟨rfl, hp4, hl4, t2.trans ht4 (by simp)⟩



set_option maxRecDepth 100000 in
set_option maxHeartbeats 400000 in
theorem peak_any (h : PurseAt w b s) : Calls Tryz.prog 19 #[ptr b] w fun e w' => e = .returned (.int .i64 s.peak) ∧ w' = w := by
  have HP := hid (load_any (w := w) (a := ⟨b, 7, none⟩) (x := s.peak) (cell_row h 7))
  clear h
  go_enter Tryz.func19, Tryz.ntmps19
  go_wp2_with (go_at_call 48; refine HP.out.mono ?_; rintro e w' ⟨rfl, rfl⟩)
  go_ret
  exact ⟨rfl, rfl⟩


theorem heap_new (w : World) (o : Obj) : (w.alloc o).heap[w.heap.size]? = some o := by show (w.heap.push o)[w.heap.size]? = some o; simp
theorem heap_two (w : World) (o p : Obj) : ((w.alloc o).alloc p).heap[w.heap.size]? = some o ∧ ((w.alloc o).alloc p).heap[w.heap.size + 1]? = some p := by
  have h1 : (w.alloc o).heap.size = w.heap.size + 1 := by simp
  refine ⟨(Below.heap_alloc _ p _ (by omega)).trans (heap_new w o), ?_⟩
  have := heap_new (w.alloc o) p
  rwa [h1] at this

abbrev St.new (n : Int) (lb : Nat) : St := ⟨n, lb, .pointer none, 0, 0, 0, false, 0⟩

set_option maxRecDepth 100000 in
set_option maxHeartbeats 400000 in
theorem new_any {n : Int} (hn : 0 ≤ n) (w : World) : Calls Tryz.prog 33 #[.int .i64 n] w fun e w' =>
    ∃ b lb, e = .returned (.tuple #[ptr b, .int .i64 0]) ∧ w.heap.size ≤ b ∧ w.heap.size ≤ lb ∧ b ≠ lb ∧ PurseAt w' b (.new n lb) ∧ LockAt w' lb 0 ∧ Touch [] w w' := by
  go_enter Tryz.func33, Tryz.ntmps33
  go_wp2
  go_ret2
  refine ⟨w.heap.size + 1, w.heap.size, rfl, by omega, Nat.le_refl _, by omega, ?_, ?_, ((Touch.refl [] w).alloc _).alloc _⟩
  · exact (heap_two w _ _).2
  · exact (heap_two w _ _).1
end
end Go.Proofs.YtclplbnildnifaaGreatDoor.Pu
/-
  The sum by numbers alone: CRC-32 as a linear map; a table of 256 words does the same; one burst is told.
-/
namespace Go.Proofs.YtclplbnildnifaaGreatDoor.PureCrc
set_option maxRecDepth 100000

def poly : Nat := 3988292384

/-- One step of the register. -/
def T (r : Nat) : Nat := (r / 2) ^^^ (if r % 2 = 1 then poly else 0)

theorem half_xor (a b : Nat) : (a ^^^ b) / 2 = a / 2 ^^^ b / 2 := by
  have := Nat.shiftRight_xor_distrib (a := a) (b := b) (i := 1)
  simpa only [Nat.shiftRight_eq_div_pow, Nat.pow_one] using this


theorem odd_xor (a b : Nat) : (a ^^^ b) % 2 = 1 ↔ ¬ (a % 2 = 1 ↔ b % 2 = 1) := Nat.xor_mod_two_eq_one

theorem T_xor (a b : Nat) : T (a ^^^ b) = T a ^^^ T b := by
  unfold T
  rw [half_xor]
  have h := odd_xor a b
  by_cases ha : a % 2 = 1 <;> by_cases hb : b % 2 = 1
  · have : ¬ (a ^^^ b) % 2 = 1 := by rw [h]; simp [ha, hb]
    rw [if_neg this, if_pos ha, if_pos hb, Nat.xor_zero]
    rw [Nat.xor_assoc, Nat.xor_comm poly, Nat.xor_assoc, Nat.xor_self, Nat.xor_zero]
  · have : (a ^^^ b) % 2 = 1 := by rw [h]; simp [ha, hb]
    rw [if_pos this, if_pos ha, if_neg hb, Nat.xor_zero, Nat.xor_assoc, Nat.xor_comm (b / 2), ← Nat.xor_assoc]
  · have : (a ^^^ b) % 2 = 1 := by rw [h]; simp [ha, hb]
    rw [if_pos this, if_neg ha, if_pos hb, Nat.xor_zero, Nat.xor_assoc]
  · have : ¬ (a ^^^ b) % 2 = 1 := by rw [h]; simp [ha, hb]
    rw [if_neg this, if_neg ha, if_neg hb, Nat.xor_zero, Nat.xor_zero, Nat.xor_zero]

theorem T_zero : T 0 = 0 := by decide
theorem T_two (x : Nat) : T (2 * x) = x := by
  unfold T
  rw [if_neg (by omega), Nat.xor_zero]
  omega

theorem T_lt {r : Nat} (h : r < 2 ^ 32) : T r < 2 ^ 32 := by
  unfold T
  refine Nat.xor_lt_two_pow (by omega) ?_
  split <;> decide


def iter : Nat → Nat → Nat
  | 0, r => r
  | n + 1, r => iter n (T r)

theorem iter_xor : ∀ (n a b : Nat), iter n (a ^^^ b) = iter n a ^^^ iter n b
  | 0, _, _ => rfl
  | n + 1, a, b => by simp only [iter, T_xor, iter_xor n]
theorem iter_zero : ∀ n, iter n 0 = 0
  | 0 => rfl
  | n + 1 => by simp only [iter, T_zero, iter_zero n]
theorem iter_pow : ∀ (n x : Nat), iter n (x * 2 ^ n) = x
  | 0, x => by simp [iter]
  | n + 1, x => by
    have : x * 2 ^ (n + 1) = 2 * (x * 2 ^ n) := by rw [Nat.pow_succ, ← Nat.mul_assoc, Nat.mul_comm]
    rw [iter, this, T_two, iter_pow n x]
theorem iter_add : ∀ (n m r : Nat), iter (n + m) r = iter m (iter n r)
  | 0, m, r => by simp [iter]
  | n + 1, m, r => by rw [Nat.succ_add]; simp only [iter]; exact iter_add n m (T r)
theorem iter_lt : ∀ (n : Nat) {r : Nat}, r < 2 ^ 32 → iter n r < 2 ^ 32
  | 0, _, h => h
  | n + 1, _, h => iter_lt n (T_lt h)

/-- The register behind some bytes. -/
def reg (r : Nat) (l : List Nat) : Nat := l.foldl (fun r b => iter 8 (r ^^^ b)) r

/-- The number of bytes, the low one first. -/
def num : List Nat → Nat
  | [] => 0
  | b :: l => b + 256 * num l

theorem num_lt : ∀ {l : List Nat}, (∀ b ∈ l, b < 256) → num l < 256 ^ l.length
  | [], _ => by simp [num]
  | b :: l, h => by
    have h1 := num_lt (l := l) fun x hx => h x (List.mem_cons_of_mem _ hx)
    have h2 := h b (List.mem_cons_self ..)
    simp only [num, List.length_cons, Nat.pow_succ]
    omega

theorem low_xor {b : Nat} (hb : b < 256) (x : Nat) : b + 256 * x = b ^^^ (x * 2 ^ 8) := by
  have h1 : x * 2 ^ 8 = x <<< 8 := by rw [Nat.shiftLeft_eq]
  have h2 := Nat.shiftLeft_add_eq_or_of_lt (b := b) (i := 8) (by omega) x
  have h3 : (x <<< 8) ||| b = (x <<< 8) ^^^ b := by
    apply Nat.eq_of_testBit_eq
    intro i
    simp only [Nat.testBit_or, Nat.testBit_xor, Nat.testBit_shiftLeft]
    by_cases hi : i ≥ 8
    · have : b.testBit i = false := Nat.testBit_lt_two_pow (Nat.lt_of_lt_of_le hb (by
        have : (256 : Nat) = 2 ^ 8 := by decide
        rw [this]; exact Nat.pow_le_pow_right (by decide) hi))
      simp [this]
    · simp [hi]
  rw [h1, Nat.xor_comm, ← h3, ← h2, Nat.shiftLeft_eq]
  omega


/-- The sum. -/
def crc (l : List Nat) : Nat := reg 4294967295 l ^^^ 4294967295

theorem reg_append (r : Nat) (a b : List Nat) : reg r (a ++ b) = reg (reg r a) b := by simp [reg]
theorem reg_lt {l : List Nat} (h : ∀ b ∈ l, b < 256) {r : Nat} (hr : r < 2 ^ 32) : reg r l < 2 ^ 32 := by
  induction l generalizing r with
  | nil => exact hr
  | cons b l ih =>
    have hb := h b (List.mem_cons_self ..)
    exact ih (fun x hx => h x (List.mem_cons_of_mem _ hx)) (iter_lt 8 (Nat.xor_lt_two_pow hr (by omega)))







/-- The table's word of a byte, and the step by it. -/
theorem step_table (r x : Nat) : iter 8 ((r % 256) ^^^ x) ^^^ r / 256 = iter 8 (r ^^^ x) := by
  have h1 : r = r % 256 + 256 * (r / 256) := by omega
  have h2 : r = (r % 256) ^^^ (r / 256 * 2 ^ 8) := by
    rw [← low_xor (Nat.mod_lt _ (by decide))]; omega
  have h3 : r ^^^ x = ((r % 256) ^^^ x) ^^^ (r / 256 * 2 ^ 8) := by
    rw [Nat.xor_assoc, Nat.xor_comm x, ← Nat.xor_assoc, ← h2]
  rw [h3, iter_xor 8 (r % 256 ^^^ x) (r / 256 * 2 ^ 8), iter_pow]

theorem mul_poly (r : Nat) : T r = (r / 2) ^^^ (poly * (r % 2)) := by
  unfold T
  have : r % 2 = 0 ∨ r % 2 = 1 := by omega
  rcases this with h | h <;> simp [h]


/-! ### numbers as bytes -/
/-- n bytes of a number, the low one first. -/
def le : Nat → Nat → List Nat
  | 0, _ => []
  | n + 1, v => v % 256 :: le n (v / 256)

theorem le_length : ∀ (n v : Nat), (le n v).length = n
  | 0, _ => rfl
  | n + 1, v => by simp [le, le_length n]
theorem le_lt : ∀ (n v : Nat), ∀ b ∈ le n v, b < 256
  | 0, _ => by intro b hb; cases hb
  | n + 1, v => by
    intro b hb
    rcases List.mem_cons.1 hb with rfl | hb
    · exact Nat.mod_lt _ (by decide)
    · exact le_lt n _ b hb
theorem num_le : ∀ (n v : Nat), num (le n v) = v % 256 ^ n
  | 0, v => by simp [le, num, Nat.mod_one]
  | n + 1, v => by
    simp only [le, num, num_le n]
    rw [Nat.pow_succ, Nat.mul_comm (256 ^ n) 256, Nat.mod_mul]
theorem num_le_of_lt {n v : Nat} (h : v < 256 ^ n) : num (le n v) = v := by rw [num_le, Nat.mod_eq_of_lt h]
theorem num_append : ∀ (a b : List Nat), num (a ++ b) = num a + 256 ^ a.length * num b
  | [], b => by simp [num]
  | x :: a, b => by
    simp only [List.cons_append, num, num_append a b, List.length_cons, Nat.pow_succ]
    rw [Nat.mul_add, ← Nat.add_assoc, Nat.mul_comm (256 ^ a.length) 256, Nat.mul_assoc]

/-! ### bits turned -/






end Go.Proofs.YtclplbnildnifaaGreatDoor.PureCrc
