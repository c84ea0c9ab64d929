import Derived.Test.YtcpncfngadablaaDoorE8
namespace Go.Proofs.YtcpncfngadablaaDoor
open Go.RowKit Go.Deep

def total (l : List (List UInt8 × FileA)) : Nat := (l.map fun e => e.2.blocks.length).sum

theorem set_absent {k : List UInt8} {f : FileA} : ∀ {l : List (List UInt8 × FileA)}, (∀ e ∈ l, e.1 ≠ k) → setA k f l = l
  | [], _ => rfl
  | a :: l, h => by
    have h1 := h a (by simp)
    have h2 := set_absent (k := k) (f := f) (l := l) (fun e he => h e (by simp [he]))
    simp only [setA, List.map_cons] at h2 ⊢
    rw [if_neg h1, h2]

theorem drop_absent {k : List UInt8} {l : List (List UInt8 × FileA)} (h : ∀ e ∈ l, e.1 ≠ k) : dropA k l = l := by
  unfold dropA
  rw [List.filter_eq_self]
  intro e he
  simp [h e he]

theorem total_set {k : List UInt8} {f f' : FileA} : ∀ {l : List (List UInt8 × FileA)}, (l.Pairwise fun a b => a.1 ≠ b.1) → findA l k = some f → total (setA k f' l) + f.blocks.length = total l + f'.blocks.length
  | [], _, h => by simp [findA] at h
  | a :: l, hp, h => by
    rw [List.pairwise_cons] at hp
    by_cases ha : a.1 = k
    · have hf : f = a.2 := by simp [findA, ha] at h; exact h.symm
      have hs := set_absent (k := k) (f := f') (l := l) (fun e he e1 => hp.1 e he (by rw [ha, e1]))
      simp only [setA, List.map_cons] at hs ⊢
      rw [if_pos ha, hs]
      simp only [total, List.map_cons, List.sum_cons, hf]
      omega
    · have hf : findA l k = some f := by simpa [findA, ha] using h
      have := total_set (f' := f') hp.2 hf
      simp only [setA, List.map_cons] at this ⊢
      rw [if_neg ha]
      simp only [total, List.map_cons, List.sum_cons] at this ⊢
      omega

theorem total_drop {k : List UInt8} {f : FileA} : ∀ {l : List (List UInt8 × FileA)}, (l.Pairwise fun a b => a.1 ≠ b.1) → findA l k = some f → total (dropA k l) + f.blocks.length = total l
  | [], _, h => by simp [findA] at h
  | a :: l, hp, h => by
    rw [List.pairwise_cons] at hp
    by_cases ha : a.1 = k
    · have hf : f = a.2 := by simp [findA, ha] at h; exact h.symm
      have hs := drop_absent (k := k) (l := l) (fun e he e1 => hp.1 e he (by rw [ha, e1]))
      simp only [dropA, List.filter_cons, ha] at hs ⊢
      simp only [decide_true, Bool.not_true, Bool.false_eq_true, if_false]
      rw [hs]
      simp only [total, List.map_cons, List.sum_cons, hf]
      omega
    · have hf : findA l k = some f := by simpa [findA, ha] using h
      have := total_drop hp.2 hf
      simp only [dropA, List.filter_cons, ha, decide_false, Bool.not_false, if_true] at this ⊢
      simp only [total, List.map_cons, List.sum_cons] at this ⊢
      omega

theorem perm_ins (e : List UInt8 × FileA) : ∀ l : List (List UInt8 × FileA), (insA e l).Perm (e :: l)
  | [] => List.Perm.refl _
  | a :: l => by
    unfold insA
    split
    · exact List.Perm.refl _
    · exact ((perm_ins e l).cons a).trans (List.Perm.swap e a l)

theorem total_perm {l l' : List (List UInt8 × FileA)} (h : l.Perm l') : total l = total l' := (h.map _).sum_nat

theorem find_len {k : List UInt8} {f : FileA} {l : List (List UInt8 × FileA)} (h : findA l k = some f) : f.blocks.length ≤ total l := by
  induction l with
  | nil => simp [findA] at h
  | cons a l ih =>
    by_cases ha : a.1 = k
    · have hf : f = a.2 := by simp [findA, ha] at h; exact h.symm
      simp only [total, List.map_cons, List.sum_cons, hf]
      omega
    · have := ih (by simpa [findA, ha] using h)
      simp only [total, List.map_cons, List.sum_cons] at this ⊢
      omega

/-- what holds behind t steps. -/
structure Inv (t : Nat) (A : PubA) : Prop where
  on : A.on = true
  size : 64 ≤ A.B ∧ A.B ≤ 65536
  Bs : A.Bs = 1099511627776
  calls : 0 ≤ A.c.calls ∧ A.c.calls ≤ t
  reads : 0 ≤ A.c.reads ∧ A.c.reads ≤ t
  appends : 0 ≤ A.c.appends ∧ A.c.appends ≤ t
  full : 0 ≤ A.c.full ∧ A.c.full ≤ t
  used : A.c.used = (total A.files : Int)
  total : total A.files ≤ t
  few : A.files.length ≤ t
  names : ∀ e ∈ A.files, nameB ⟨e.1.toArray⟩ = true

theorem le_total {l : List (List UInt8 × FileA)} : ∀ e ∈ l, e.2.blocks.length ≤ total l := by
  induction l with
  | nil => simp
  | cons a l ih =>
    intro e he
    simp only [List.mem_cons] at he
    rcases he with rfl | he
    · simp only [total, List.map_cons, List.sum_cons]
      omega
    · have := ih e he
      simp only [total, List.map_cons, List.sum_cons] at this ⊢
      omega

theorem Inv.small {t : Nat} {A : PubA} (h : Inv t A) (ht : t ≤ 1099511627776) : Small A := by
  have h1 := h.calls
  have h2 := h.reads
  have h3 := h.appends
  have h4 := h.full
  have h5 := h.used
  have h6 := h.total
  have h7 := h.few
  exact ⟨by omega, by omega, by omega, by omega, by omega, by omega, fun e he => by have := le_total e he; omega, h.size⟩

theorem Inv.more {t : Nat} {A : PubA} (h : Inv t A) : Inv (t + 1) A := by
  have h1 := h.calls
  have h2 := h.reads
  have h3 := h.appends
  have h4 := h.full
  have h6 := h.total
  have h7 := h.few
  exact ⟨h.on, h.size, h.Bs, by omega, by omega, by omega, by omega, h.used, by omega, by omega, h.names⟩

theorem set_len (k : List UInt8) (f : FileA) (l : List (List UInt8 × FileA)) : (setA k f l).length = l.length := by simp [setA]
theorem set_names {k : List UInt8} {f : FileA} {l : List (List UInt8 × FileA)} (h : ∀ e ∈ l, nameB ⟨e.1.toArray⟩ = true) : ∀ e ∈ setA k f l, nameB ⟨e.1.toArray⟩ = true := by
  intro e he
  simp only [setA, List.mem_map] at he
  obtain ⟨a, ha, rfl⟩ := he
  split
  · exact h a ha
  · exact h a ha

theorem total_cons0 (k : List UInt8) (b : Bool) (l : List (List UInt8 × FileA)) : total ((k, ⟨b, []⟩) :: l) = total l := by simp [total]

theorem Inv.create {t : Nat} {A : PubA} (h : Inv t A) (s : ByteArray) : Inv (t + 1) (createA s A).2 := by
  have hm := h.more
  obtain ⟨g1, g2, g3, g4, g5, g6, g7, g8, g9, g10, g11⟩ := h
  unfold createA
  split
  · rename_i hn
    split
    · exact hm
    · have hp := perm_ins (nm s, ⟨false, []⟩) A.files
      have ht := total_perm hp
      have hl := hp.length_eq
      rw [total_cons0] at ht
      simp only [List.length_cons] at hl
      refine ⟨g1, g2, g3, by simp only []; omega, by simp only []; omega, by simp only []; omega, by simp only []; omega, ?_, ?_, ?_, ?_⟩
      · simp only []
        omega
      · simp only []
        omega
      · simp only []
        omega
      · intro e he
        rcases List.mem_cons.1 (hp.mem_iff.1 he) with rfl | he
        · exact hn
        · exact g11 e he
  · exact hm

theorem Inv.seal {t : Nat} {A : PubA} (h : Inv t A) (hp : A.files.Pairwise fun a b => a.1 ≠ b.1) (s : ByteArray) : Inv (t + 1) (sealA s A).2 := by
  have hm := h.more
  obtain ⟨g1, g2, g3, g4, g5, g6, g7, g8, g9, g10, g11⟩ := h
  unfold sealA
  split
  · split
    · exact hm
    · rename_i f hf
      split
      · exact hm
      · have ht := total_set (f' := { f with shut := true }) hp hf
        have hl := set_len (nm s) { f with shut := true } A.files
        simp only at ht
        refine ⟨g1, g2, g3, by simp only []; omega, by simp only []; omega, by simp only []; omega, by simp only []; omega, ?_, ?_, ?_, set_names g11⟩
        · simp only []
          omega
        · simp only []
          omega
        · simp only []
          omega
  · exact hm

theorem Inv.append {t : Nat} {A : PubA} (h : Inv t A) (hp : A.files.Pairwise fun a b => a.1 ≠ b.1) (s : ByteArray) (bl : List UInt8) : Inv (t + 1) (appendA s bl A).2 := by
  have hm := h.more
  obtain ⟨g1, g2, g3, g4, g5, g6, g7, g8, g9, g10, g11⟩ := h
  unfold appendA
  split
  · split
    · exact hm
    · rename_i f hf
      split
      · exact hm
      · split
        · exact hm
        · split
          · exact ⟨g1, g2, g3, by simp only []; omega, by simp only []; omega, by simp only []; omega, by simp only []; omega, g8, by simp only []; omega, by simp only []; omega, g11⟩
          · have ht := total_set (f' := { f with blocks := f.blocks ++ [bl] }) hp hf
            have hl := set_len (nm s) { f with blocks := f.blocks ++ [bl] } A.files
            simp only [List.length_append, List.length_cons, List.length_nil] at ht
            refine ⟨g1, g2, g3, by simp only []; omega, by simp only []; omega, by simp only []; omega, by simp only []; omega, ?_, ?_, ?_, set_names g11⟩
            · simp only []
              omega
            · simp only []
              omega
            · simp only []
              omega
  · exact hm

theorem Inv.delete {t : Nat} {A : PubA} (h : Inv t A) (hp : A.files.Pairwise fun a b => a.1 ≠ b.1) (s : ByteArray) : Inv (t + 1) (deleteA s A).2 := by
  have hm := h.more
  obtain ⟨g1, g2, g3, g4, g5, g6, g7, g8, g9, g10, g11⟩ := h
  unfold deleteA
  split
  · split
    · exact hm
    · rename_i f hf
      have ht := total_drop hp hf
      have hl : (dropA (nm s) A.files).length ≤ A.files.length := List.length_filter_le _ _
      refine ⟨g1, g2, g3, by simp only []; omega, by simp only []; omega, by simp only []; omega, by simp only []; omega, ?_, ?_, ?_, fun e he => g11 e (List.mem_filter.1 he).1⟩
      · simp only []
        omega
      · simp only []
        omega
      · simp only []
        omega
  · exact hm

theorem Inv.spoil {t : Nat} {A : PubA} (h : Inv t A) (hp : A.files.Pairwise fun a b => a.1 ≠ b.1) (s : ByteArray) (i bit : Int) : Inv (t + 1) (spoilA s i bit A).2 := by
  have hm := h.more
  obtain ⟨g1, g2, g3, g4, g5, g6, g7, g8, g9, g10, g11⟩ := h
  unfold spoilA
  split
  · split
    · exact hm
    · rename_i f hf
      split
      · have ht := total_set (f' := { f with blocks := f.blocks.set i.toNat ((f.blocks[i.toNat]?.getD []).set (bit / 8).toNat (flipB ((f.blocks[i.toNat]?.getD [])[(bit / 8).toNat]?.getD 0) bit)) }) hp hf
        have hl := set_len (nm s) { f with blocks := f.blocks.set i.toNat ((f.blocks[i.toNat]?.getD []).set (bit / 8).toNat (flipB ((f.blocks[i.toNat]?.getD [])[(bit / 8).toNat]?.getD 0) bit)) } A.files
        simp only [List.length_set] at ht
        refine ⟨g1, g2, g3, by simp only []; omega, by simp only []; omega, by simp only []; omega, by simp only []; omega, ?_, ?_, ?_, set_names g11⟩
        · simp only []
          omega
        · simp only []
          omega
        · simp only []
          omega
      · exact hm
  · exact hm

theorem Inv.read {t : Nat} {A : PubA} (h : Inv t A) (s : ByteArray) (i : Int) : Inv (t + 1) (readA s i A).2.2 := by
  have hm := h.more
  obtain ⟨g1, g2, g3, g4, g5, g6, g7, g8, g9, g10, g11⟩ := h
  unfold readA
  repeat' split
  all_goals first | exact hm | exact ⟨g1, g2, g3, by simp only []; omega, by simp only []; omega, by simp only []; omega, by simp only []; omega, g8, by simp only []; omega, by simp only []; omega, g11⟩

theorem Inv.step {t : Nat} {A : PubA} (h : Inv t A) (hp : A.files.Pairwise fun a b => a.1 ≠ b.1) (o : OpA) : Inv (t + 1) (stepA o A).2 := by
  unfold stepA
  repeat' split
  · exact h.create _
  · exact h.append hp _ _
  · exact h.seal hp _
  · exact h.read _ _
  · exact h.delete hp _
  · exact h.more
  · exact h.more
  · exact h.more
  · exact h.spoil hp _ _ _
  · exact h.more

theorem step_size (o : OpA) (A : PubA) : (stepA o A).2.B = A.B ∧ (stepA o A).2.Bs = A.Bs := by
  have h1 : ∀ s, (createA s A).2.B = A.B ∧ (createA s A).2.Bs = A.Bs := fun s => by unfold createA; (repeat' split) <;> exact ⟨rfl, rfl⟩
  have h2 : ∀ s b, (appendA s b A).2.B = A.B ∧ (appendA s b A).2.Bs = A.Bs := fun s b => by unfold appendA; (repeat' split) <;> exact ⟨rfl, rfl⟩
  have h3 : ∀ s, (sealA s A).2.B = A.B ∧ (sealA s A).2.Bs = A.Bs := fun s => by unfold sealA; (repeat' split) <;> exact ⟨rfl, rfl⟩
  have h4 : ∀ s i, (readA s i A).2.2.B = A.B ∧ (readA s i A).2.2.Bs = A.Bs := fun s i => by unfold readA; (repeat' split) <;> exact ⟨rfl, rfl⟩
  have h5 : ∀ s, (deleteA s A).2.B = A.B ∧ (deleteA s A).2.Bs = A.Bs := fun s => by unfold deleteA; (repeat' split) <;> exact ⟨rfl, rfl⟩
  have h9 : ∀ s i b, (spoilA s i b A).2.B = A.B ∧ (spoilA s i b A).2.Bs = A.Bs := fun s i b => by unfold spoilA; (repeat' split) <;> exact ⟨rfl, rfl⟩
  unfold stepA
  split
  · exact h1 _
  split
  · exact h2 _ _
  split
  · exact h3 _
  split
  · exact h4 _ _
  split
  · exact h5 _
  split
  · exact ⟨rfl, rfl⟩
  split
  · exact ⟨rfl, rfl⟩
  split
  · exact ⟨rfl, rfl⟩
  split
  · exact h9 _ _ _
  · exact ⟨rfl, rfl⟩
end Go.Proofs.YtcpncfngadablaaDoor
