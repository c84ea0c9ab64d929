import Derived.Test.YtcpncfngadablaaDoorZ19
namespace Go.Proofs.YtcpncfngadablaaDoor
open Go.RowKit Go.Deep

def total (l : List (List UInt8 × FileA)) : Nat := (l.map fun e => e.2.blocks.length).sum

theorem set_absent {k : List UInt8} {f : FileA} : ∀ {l : List (List UInt8 × FileA)}, (∀ e ∈ l, e.1 ≠ k) → setA k f l = l
  | [], _ => rfl
  | a :: l, h => by
    have h1 := h a (by simp)
    have h2 := set_absent (k := k) (f := f) (l := l) (fun e he => h e (by simp [he]))
    simp only [setA, List.map_cons] at h2 ⊢
    rw [if_neg h1, h2]

theorem drop_absent {k : List UInt8} {l : List (List UInt8 × FileA)} (h : ∀ e ∈ l, e.1 ≠ k) : dropA k l = l := by
  unfold dropA
  rw [List.filter_eq_self]
  intro e he
  simp [h e he]

theorem total_set {k : List UInt8} {f f' : FileA} : ∀ {l : List (List UInt8 × FileA)}, (l.Pairwise fun a b => a.1 ≠ b.1) → findA l k = some f → total (setA k f' l) + f.blocks.length = total l + f'.blocks.length
  | [], _, h => by simp [findA] at h
  | a :: l, hp, h => by
    rw [List.pairwise_cons] at hp
    by_cases ha : a.1 = k
    · have hf : f = a.2 := by simp [findA, ha] at h; exact h.symm
      have hs := set_absent (k := k) (f := f') (l := l) (fun e he e1 => hp.1 e he (by rw [ha, e1]))
      simp only [setA, List.map_cons] at hs ⊢
      rw [if_pos ha, hs]
      simp only [total, List.map_cons, List.sum_cons, hf]
      omega
    · have hf : findA l k = some f := by simpa [findA, ha] using h
      have := total_set (f' := f') hp.2 hf
      simp only [setA, List.map_cons] at this ⊢
      rw [if_neg ha]
      simp only [total, List.map_cons, List.sum_cons] at this ⊢
      omega

theorem total_drop {k : List UInt8} {f : FileA} : ∀ {l : List (List UInt8 × FileA)}, (l.Pairwise fun a b => a.1 ≠ b.1) → findA l k = some f → total (dropA k l) + f.blocks.length = total l
  | [], _, h => by simp [findA] at h
  | a :: l, hp, h => by
    rw [List.pairwise_cons] at hp
    by_cases ha : a.1 = k
    · have hf : f = a.2 := by simp [findA, ha] at h; exact h.symm
      have hs := drop_absent (k := k) (l := l) (fun e he e1 => hp.1 e he (by rw [ha, e1]))
      simp only [dropA, List.filter_cons, ha] at hs ⊢
      simp only [decide_true, Bool.not_true, Bool.false_eq_true, if_false]
      rw [hs]
      simp only [total, List.map_cons, List.sum_cons, hf]
      omega
    · have hf : findA l k = some f := by simpa [findA, ha] using h
      have := total_drop hp.2 hf
      simp only [dropA, List.filter_cons, ha, decide_false, Bool.not_false, if_true] at this ⊢
      simp only [total, List.map_cons, List.sum_cons] at this ⊢
      omega

theorem perm_ins (e : List UInt8 × FileA) : ∀ l : List (List UInt8 × FileA), (insA e l).Perm (e :: l)
  | [] => List.Perm.refl _
  | a :: l => by
    unfold insA
    split
    · exact List.Perm.refl _
    · exact ((perm_ins e l).cons a).trans (List.Perm.swap e a l)

theorem total_perm {l l' : List (List UInt8 × FileA)} (h : l.Perm l') : total l = total l' := (h.map _).sum_nat

theorem find_len {k : List UInt8} {f : FileA} {l : List (List UInt8 × FileA)} (h : findA l k = some f) : f.blocks.length ≤ total l := by
  induction l with
  | nil => simp [findA] at h
  | cons a l ih =>
    by_cases ha : a.1 = k
    · have hf : f = a.2 := by simp [findA, ha] at h; exact h.symm
      simp only [total, List.map_cons, List.sum_cons, hf]
      omega
    · have := ih (by simpa [findA, ha] using h)
      simp only [total, List.map_cons, List.sum_cons] at this ⊢
      omega

/-- what holds behind t steps. -/
structure Inv (t : Nat) (A : PubA) : Prop where
  on : A.on = true
  size : 64 ≤ A.B ∧ A.B ≤ 65536
  Bs : A.Bs = 1099511627776
  calls : 0 ≤ A.c.calls ∧ A.c.calls ≤ t
  reads : 0 ≤ A.c.reads ∧ A.c.reads ≤ t
  appends : 0 ≤ A.c.appends ∧ A.c.appends ≤ t
  full : 0 ≤ A.c.full ∧ A.c.full ≤ t
  used : A.c.used = (total A.files : Int)
  total : total A.files ≤ t
  few : A.files.length ≤ t
  names : ∀ e ∈ A.files, nameB ⟨e.1.toArray⟩ = true

theorem le_total {l : List (List UInt8 × FileA)} : ∀ e ∈ l, e.2.blocks.length ≤ total l := by
  induction l with
  | nil => simp
  | cons a l ih =>
    intro e he
    simp only [List.mem_cons] at he
    rcases he with rfl | he
    · simp only [total, List.map_cons, List.sum_cons]
      omega
    · have := ih e he
      simp only [total, List.map_cons, List.sum_cons] at this ⊢
      omega

theorem Inv.small {t : Nat} {A : PubA} (h : Inv t A) (ht : t ≤ 1099511627776) : Small A := by
  have h1 := h.calls
  have h2 := h.reads
  have h3 := h.appends
  have h4 := h.full
  have h5 := h.used
  have h6 := h.total
  have h7 := h.few
  exact ⟨by omega, by omega, by omega, by omega, by omega, by omega, fun e he => by have := le_total e he; omega, h.size⟩

theorem Inv.more {t : Nat} {A : PubA} (h : Inv t A) : Inv (t + 1) A := by
  have h1 := h.calls
  have h2 := h.reads
  have h3 := h.appends
  have h4 := h.full
  have h6 := h.total
  have h7 := h.few
  exact ⟨h.on, h.size, h.Bs, by omega, by omega, by omega, by omega, h.used, by omega, by omega, h.names⟩

theorem set_len (k : List UInt8) (f : FileA) (l : List (List UInt8 × FileA)) : (setA k f l).length = l.length := by simp [setA]
theorem set_names {k : List UInt8} {f : FileA} {l : List (List UInt8 × FileA)} (h : ∀ e ∈ l, nameB ⟨e.1.toArray⟩ = true) : ∀ e ∈ setA k f l, nameB ⟨e.1.toArray⟩ = true := by
  intro e he
  simp only [setA, List.mem_map] at he
  obtain ⟨a, ha, rfl⟩ := he
  split
  · exact h a ha
  · exact h a ha

theorem total_cons0 (k : List UInt8) (b : Bool) (l : List (List UInt8 × FileA)) : total ((k, ⟨b, []⟩) :: l) = total l := by simp [total]

theorem Inv.create {t : Nat} {A : PubA} (h : Inv t A) (s : ByteArray) : Inv (t + 1) (createA s A).2 := by
  have hm := h.more
  obtain ⟨g1, g2, g3, g4, g5, g6, g7, g8, g9, g10, g11⟩ := h
  unfold createA
  split
  · rename_i hn
    split
    · exact hm
    · have hp := perm_ins (nm s, ⟨false, []⟩) A.files
      have ht := total_perm hp
      have hl := hp.length_eq
      rw [total_cons0] at ht
      simp only [List.length_cons] at hl
      refine ⟨g1, g2, g3, by simp only []; omega, by simp only []; omega, by simp only []; omega, by simp only []; omega, ?_, ?_, ?_, ?_⟩
      · simp only []
        omega
      · simp only []
        omega
      · simp only []
        omega
      · intro e he
        rcases List.mem_cons.1 (hp.mem_iff.1 he) with rfl | he
        · exact hn
        · exact g11 e he
  · exact hm

theorem Inv.seal {t : Nat} {A : PubA} (h : Inv t A) (hp : A.files.Pairwise fun a b => a.1 ≠ b.1) (s : ByteArray) : Inv (t + 1) (sealA s A).2 := by
  have hm := h.more
  obtain ⟨g1, g2, g3, g4, g5, g6, g7, g8, g9, g10, g11⟩ := h
  unfold sealA
  split
  · split
    · exact hm
    · rename_i f hf
      split
      · exact hm
      · have ht := total_set (f' := { f with shut := true }) hp hf
        have hl := set_len (nm s) { f with shut := true } A.files
        simp only at ht
        refine ⟨g1, g2, g3, by simp only []; omega, by simp only []; omega, by simp only []; omega, by simp only []; omega, ?_, ?_, ?_, set_names g11⟩
        · simp only []
          omega
        · simp only []
          omega
        · simp only []
          omega
  · exact hm

theorem Inv.append {t : Nat} {A : PubA} (h : Inv t A) (hp : A.files.Pairwise fun a b => a.1 ≠ b.1) (s : ByteArray) (bl : List UInt8) : Inv (t + 1) (appendA s bl A).2 := by
  have hm := h.more
  obtain ⟨g1, g2, g3, g4, g5, g6, g7, g8, g9, g10, g11⟩ := h
  unfold appendA
  split
  · split
    · exact hm
    · rename_i f hf
      split
      · exact hm
      · split
        · exact hm
        · split
          · exact ⟨g1, g2, g3, by simp only []; omega, by simp only []; omega, by simp only []; omega, by simp only []; omega, g8, by simp only []; omega, by simp only []; omega, g11⟩
          · have ht := total_set (f' := { f with blocks := f.blocks ++ [bl] }) hp hf
            have hl := set_len (nm s) { f with blocks := f.blocks ++ [bl] } A.files
            simp only [List.length_append, List.length_cons, List.length_nil] at ht
            refine ⟨g1, g2, g3, by simp only []; omega, by simp only []; omega, by simp only []; omega, by simp only []; omega, ?_, ?_, ?_, set_names g11⟩
            · simp only []
              omega
            · simp only []
              omega
            · simp only []
              omega
  · exact hm

theorem Inv.delete {t : Nat} {A : PubA} (h : Inv t A) (hp : A.files.Pairwise fun a b => a.1 ≠ b.1) (s : ByteArray) : Inv (t + 1) (deleteA s A).2 := by
  have hm := h.more
  obtain ⟨g1, g2, g3, g4, g5, g6, g7, g8, g9, g10, g11⟩ := h
  unfold deleteA
  split
  · split
    · exact hm
    · rename_i f hf
      have ht := total_drop hp hf
      have hl : (dropA (nm s) A.files).length ≤ A.files.length := List.length_filter_le _ _
      refine ⟨g1, g2, g3, by simp only []; omega, by simp only []; omega, by simp only []; omega, by simp only []; omega, ?_, ?_, ?_, fun e he => g11 e (List.mem_filter.1 he).1⟩
      · simp only []
        omega
      · simp only []
        omega
      · simp only []
        omega
  · exact hm

theorem Inv.spoil {t : Nat} {A : PubA} (h : Inv t A) (hp : A.files.Pairwise fun a b => a.1 ≠ b.1) (s : ByteArray) (i bit : Int) : Inv (t + 1) (spoilA s i bit A).2 := by
  have hm := h.more
  obtain ⟨g1, g2, g3, g4, g5, g6, g7, g8, g9, g10, g11⟩ := h
  unfold spoilA
  split
  · split
    · exact hm
    · rename_i f hf
      split
      · have ht := total_set (f' := { f with blocks := f.blocks.set i.toNat ((f.blocks[i.toNat]?.getD []).set (bit / 8).toNat (flipB ((f.blocks[i.toNat]?.getD [])[(bit / 8).toNat]?.getD 0) bit)) }) hp hf
        have hl := set_len (nm s) { f with blocks := f.blocks.set i.toNat ((f.blocks[i.toNat]?.getD []).set (bit / 8).toNat (flipB ((f.blocks[i.toNat]?.getD [])[(bit / 8).toNat]?.getD 0) bit)) } A.files
        simp only [List.length_set] at ht
        refine ⟨g1, g2, g3, by simp only []; omega, by simp only []; omega, by simp only []; omega, by simp only []; omega, ?_, ?_, ?_, set_names g11⟩
        · simp only []
          omega
        · simp only []
          omega
        · simp only []
          omega
      · exact hm
  · exact hm

theorem Inv.read {t : Nat} {A : PubA} (h : Inv t A) (s : ByteArray) (i : Int) : Inv (t + 1) (readA s i A).2.2 := by
  have hm := h.more
  obtain ⟨g1, g2, g3, g4, g5, g6, g7, g8, g9, g10, g11⟩ := h
  unfold readA
  repeat' split
  all_goals first | exact hm | exact ⟨g1, g2, g3, by simp only []; omega, by simp only []; omega, by simp only []; omega, by simp only []; omega, g8, by simp only []; omega, by simp only []; omega, g11⟩

theorem Inv.step {t : Nat} {A : PubA} (h : Inv t A) (hp : A.files.Pairwise fun a b => a.1 ≠ b.1) (o : OpA) : Inv (t + 1) (stepA o A).2 := by
  unfold stepA
  repeat' split
  · exact h.create _
  · exact h.append hp _ _
  · exact h.seal hp _
  · exact h.read _ _
  · exact h.delete hp _
  · exact h.more
  · exact h.more
  · exact h.more
  · exact h.spoil hp _ _ _
  · exact h.more

theorem step_size (o : OpA) (A : PubA) : (stepA o A).2.B = A.B ∧ (stepA o A).2.Bs = A.Bs := by
  have h1 : ∀ s, (createA s A).2.B = A.B ∧ (createA s A).2.Bs = A.Bs := fun s => by unfold createA; (repeat' split) <;> exact ⟨rfl, rfl⟩
  have h2 : ∀ s b, (appendA s b A).2.B = A.B ∧ (appendA s b A).2.Bs = A.Bs := fun s b => by unfold appendA; (repeat' split) <;> exact ⟨rfl, rfl⟩
  have h3 : ∀ s, (sealA s A).2.B = A.B ∧ (sealA s A).2.Bs = A.Bs := fun s => by unfold sealA; (repeat' split) <;> exact ⟨rfl, rfl⟩
  have h4 : ∀ s i, (readA s i A).2.2.B = A.B ∧ (readA s i A).2.2.Bs = A.Bs := fun s i => by unfold readA; (repeat' split) <;> exact ⟨rfl, rfl⟩
  have h5 : ∀ s, (deleteA s A).2.B = A.B ∧ (deleteA s A).2.Bs = A.Bs := fun s => by unfold deleteA; (repeat' split) <;> exact ⟨rfl, rfl⟩
  have h9 : ∀ s i b, (spoilA s i b A).2.B = A.B ∧ (spoilA s i b A).2.Bs = A.Bs := fun s i b => by unfold spoilA; (repeat' split) <;> exact ⟨rfl, rfl⟩
  unfold stepA
  split
  · exact h1 _
  split
  · exact h2 _ _
  split
  · exact h3 _
  split
  · exact h4 _ _
  split
  · exact h5 _
  split
  · exact ⟨rfl, rfl⟩
  split
  · exact ⟨rfl, rfl⟩
  split
  · exact ⟨rfl, rfl⟩
  split
  · exact h9 _ _ _
  · exact ⟨rfl, rfl⟩
end Go.Proofs.YtcpncfngadablaaDoor
namespace Go.Proofs.YtcpncfngadablaaDoor
open Go.RowKit Go.Deep

theorem field_B (B : Int) (v1 v2 : Value) (W : World) : (Instr.field 29 (.agg #[.int .i64 B, v1, v2]) 0).run Tryd.prog W = .ok (.int .i64 B) W := by
  simp [Instr.field, run_underlying Tryd.underlying29, go_sem, asAgg]
theorem field_Used (c : Cnt) (W : World) : (Instr.field 34 c.val 5).run Tryd.prog W = .ok (.int .i64 c.used) W := by
  unfold Cnt.val
  simp [Instr.field, run_underlying Tryd.underlying34, go_sem, asAgg]

section
variable {w w' : World} {E : Nat → Addr} {lo p mf mt : Nat} {D : DiskC}

/-- a script, as a slice shows it. -/
structure OpsAt (w : World) (sa : Option Addr) (l : List OpA) : Prop where
  at_ : ∀ k (hk : k < l.length), ∃ a sb m c, sa = some a ∧ a.block < w.heap.size ∧ w.cell? (a.add (k * 5)) = some (.int .i64 l[k].kind) ∧ w.cell? ⟨(a.add (k * 5)).block, (a.add (k * 5)).off + 1, none⟩ = some (.string l[k].name) ∧ w.cell? ⟨(a.add (k * 5)).block, (a.add (k * 5)).off + 2, none⟩ = some (.int .i64 l[k].N) ∧ w.cell? ⟨(a.add (k * 5)).block, (a.add (k * 5)).off + 3, none⟩ = some (.int .i64 l[k].bit) ∧ w.cell? ⟨(a.add (k * 5)).block, (a.add (k * 5)).off + 4, none⟩ = some (.slice sb m c) ∧ Shows w sb m c l[k].data ∧ m ≤ 1073741824

/-- what holds behind t steps of a disk in memory. -/
structure Runs (w : World) (lo p mf mt B t : Nat) (D : DiskC) : Prop where
  rep : Rep w lo p mf mt D
  T : D.T = .map []
  inv : Inv t D.pub
  B : D.B = B

theorem Runs.keys {B t : Nat} (h : Runs w lo p mf mt B t D) : D.pub.files.Pairwise fun a b => a.1 ≠ b.1 := by
  show (D.ents.map Ent.pub).Pairwise _
  rw [List.pairwise_map]
  exact h.rep.uniq

theorem Runs.step {B t : Nat} (h : Runs w lo p mf mt B t D) (o : OpA) {w2 : World} (hd : Did w w2 lo p mf mt D (stepA o D.pub).2) : ∃ D', Runs w2 lo p mf mt B (t + 1) D' ∧ D'.pub = (stepA o D.pub).2 ∧ Touch (D.foot p mf mt) w w2 ∧ ∀ b ∈ D'.foot p mf mt, b ∈ D.foot p mf mt ∨ w.heap.size ≤ b := by
  obtain ⟨D', R', hp, hT, ht, hf⟩ := hd
  refine ⟨D', ⟨R', hT, ?_, ?_⟩, hp, ht, hf⟩
  · rw [hp]
    exact h.inv.step h.keys o
  · have h1 : D'.pub.B = (stepA o D.pub).2.B := by rw [hp]
    rw [(step_size o D.pub).1] at h1
    have h2 : D'.B = D.B := h1
    rw [h2, h.B]

/-- 'program' on it. -/
theorem Runs.program {B t : Nat} (h : Runs w lo p mf mt B t D) (V : Env w lo E) (ht : t + 1 ≤ 1099511627776) (o : OpA) {sa : Option Addr} {n c : Nat} (hd : Shows w sa n c o.data) (hn : n ≤ 1073741824) :
    Calls Tryd.prog 7 #[ptr p, opV o.kind o.name o.N o.bit sa n c, .int .i64 B] w fun e w' => ∃ v D', e = .returned (.tuple #[v, .bool true]) ∧ ToldAt w' w.heap.size (stepA o D.pub).1 v ∧ Runs w' lo p mf mt B (t + 1) D' ∧ D'.pub = (stepA o D.pub).2 ∧ Touch (D.foot p mf mt) w w' ∧ ∀ b ∈ D'.foot p mf mt, b ∈ D.foot p mf mt ∨ w.heap.size ≤ b := by
  have hc := h.inv.calls
  have h1 := program_any V h.rep h.T h.inv.on (h.inv.small (by omega)) (by simp only [DiskC.pub] at hc; omega) o hd hn
  rw [h.B] at h1
  refine h1.mono fun e w2 ⟨v, e1, e2, e3⟩ => ?_
  obtain ⟨D', r1, r2, r3, r4⟩ := h.step o e3
  exact ⟨v, D', e1, e2, r1, r2, r3, r4⟩

theorem Runs.touch {B t : Nat} (h : Runs w lo p mf mt B t D) (ht : Touch [] w w') : Runs w' lo p mf mt B t D := ⟨h.rep.touch ht (by simp), h.T, h.inv, h.B⟩

theorem below_foot {base : Nat} {w0 w1 w2 : World} {F : List Nat} (h : Below base w0 w1) (ht : Touch F w1 w2) (hF : ∀ b ∈ F, base ≤ b) (hs : base ≤ w1.heap.size) : Below base w0 w2 := h.trans (ht.below hs hF)

theorem add_block (a : Addr) (j : Nat) : (a.add j).block = a.block := by unfold Addr.add; split <;> rfl

/-- the k-th operation, read in a later world. -/
theorem OpsAt.read {sa : Option Addr} {l : List OpA} (h : OpsAt w sa l) {k : Nat} (hk : k < l.length) (hb : Below w.heap.size w w') : ∃ a sb m c, sa = some a ∧ w'.cell? (a.add (k * 5)) = some (.int .i64 l[k].kind) ∧ w'.cell? ⟨(a.add (k * 5)).block, (a.add (k * 5)).off + 1, none⟩ = some (.string l[k].name) ∧ w'.cell? ⟨(a.add (k * 5)).block, (a.add (k * 5)).off + 2, none⟩ = some (.int .i64 l[k].N) ∧ w'.cell? ⟨(a.add (k * 5)).block, (a.add (k * 5)).off + 3, none⟩ = some (.int .i64 l[k].bit) ∧ w'.cell? ⟨(a.add (k * 5)).block, (a.add (k * 5)).off + 4, none⟩ = some (.slice sb m c) ∧ Shows w' sb m c l[k].data ∧ m ≤ 1073741824 ∧ a.block < w.heap.size := by
  obtain ⟨a, sb, m, c, e, hblk, c0, c1, c2, c3, c4, hs, hm⟩ := h.at_ k hk
  have hc : ∀ q : Addr, q.block = (a.add (k * 5)).block → w'.cell? q = w.cell? q := fun q hq => hb.cell (by rw [hq, add_block]; exact hblk)
  exact ⟨a, sb, m, c, e, (hc _ rfl).trans c0, (hc ⟨(a.add (k * 5)).block, (a.add (k * 5)).off + 1, none⟩ rfl).trans c1, (hc ⟨(a.add (k * 5)).block, (a.add (k * 5)).off + 2, none⟩ rfl).trans c2, (hc ⟨(a.add (k * 5)).block, (a.add (k * 5)).off + 3, none⟩ rfl).trans c3, (hc ⟨(a.add (k * 5)).block, (a.add (k * 5)).off + 4, none⟩ rfl).trans c4, hs.touch (Touch.of_below (F := []) hb (Nat.le_refl _)) (by simp), hm, hblk⟩

theorem inv_new {B : Nat} (h1 : 64 ≤ B) (h2 : B ≤ 65536) : Inv 0 (DiskC.new B 1099511627776).pub := ⟨rfl, ⟨h1, h2⟩, rfl, by simp [DiskC.new, DiskC.pub], by simp [DiskC.new, DiskC.pub], by simp [DiskC.new, DiskC.pub], by simp [DiskC.new, DiskC.pub], by simp [DiskC.new, DiskC.pub, total], by simp [DiskC.new, DiskC.pub, total], by simp [DiskC.new, DiskC.pub], by simp [DiskC.new, DiskC.pub]⟩

theorem used_total (l : List SFile) : usedN l l.length = total (l.map SFile.pub) := by
  unfold usedN total
  rw [List.take_length, List.map_map]
  rfl

theorem Runs.good {B t : Nat} {l : List SFile} (h : Runs w lo p mf mt B t D) (hl : l.map SFile.pub = D.ents.map Ent.pub) (ht : t ≤ 1099511627776) : GoodL l ∧ (usedN l l.length : Int) = D.c.used ∧ usedN l l.length ≤ t := by
  have hu : usedN l l.length = total D.pub.files := by rw [used_total, hl]; rfl
  have h1 := h.inv.used
  have h2 := h.inv.total
  have h3 := h.inv.few
  have hlen : l.length = D.ents.length := by simpa using congrArg List.length hl
  have h4 : D.pub.files.length = D.ents.length := by simp [DiskC.pub]
  refine ⟨⟨?_, ?_, by omega, by omega⟩, ?_, by omega⟩
  · intro e he
    have : e.pub ∈ D.pub.files := by
      show e.pub ∈ D.ents.map Ent.pub
      rw [← hl]
      exact List.mem_map_of_mem he
    exact h.inv.names _ this
  · have hr := h.rep.rising
    have e1 : (l.map SFile.pub).Pairwise fun a b => bytesBefore a.1 b.1 = true := by
      rw [hl, List.pairwise_map]
      exact hr
    rw [List.pairwise_map] at e1
    exact e1
  · rw [hu]
    exact h1.symm

/-- the mounted disk: it holds the same. -/
theorem Runs.mounted {B t : Nat} {l : List SFile} {w2 : World} {lo2 p2 mf2 mt2 : Nat} {D2 : DiskC} (h : Runs w lo p mf mt B t D) (hl : l.map SFile.pub = D.ents.map Ent.pub) (ht : t ≤ 1099511627776) (R2 : Rep w2 lo2 p2 mf2 mt2 D2) (hp : D2.pub = mountA B 1099511627776 l l.length) (hT : D2.T = .map []) (hlo : lo ≤ lo2) :
    Runs w2 lo p2 mf2 mt2 B t D2 ∧ Like D.c D.pub D2.pub ∧ D2.c = ⟨0, 0, 0, 0, 0, D.c.used, D.c.used⟩ := by
  obtain ⟨g1, g2, g3⟩ := h.good hl ht
  have hf : D2.pub.files = D.pub.files := by
    rw [hp]
    show (l.take l.length).map SFile.pub = D.ents.map Ent.pub
    rw [List.take_length, hl]
  have hc : D2.c = ⟨0, 0, 0, 0, 0, D.c.used, D.c.used⟩ := by
    have : D2.pub.c = (mountA B 1099511627776 l l.length).c := by rw [hp]
    have e : D2.c = (mountA B 1099511627776 l l.length).c := this
    rw [e]
    simp only [mountA, g2]
  have hB : D2.pub.B = B := by rw [hp]; rfl
  have hBs : D2.pub.Bs = 1099511627776 := by rw [hp]; rfl
  have hon : D2.pub.on = true := by rw [hp]; rfl
  have hcp : D2.pub.c = ⟨0, 0, 0, 0, 0, D.c.used, D.c.used⟩ := hc
  have i1 := h.inv
  refine ⟨⟨R2.lower hlo, hT, ⟨hon, by rw [hB, ← h.B]; exact i1.size, hBs, by rw [hcp]; simp, by rw [hcp]; simp, by rw [hcp]; simp, by rw [hcp]; simp, by rw [hcp, hf]; exact i1.used, by rw [hf]; exact i1.total, by rw [hf]; exact i1.few, by rw [hf]; exact i1.names⟩, hB⟩, ⟨?_, ?_, ?_, hf.symm, ?_, ?_, ?_, ?_⟩, hc⟩
  · rw [hB]
    exact h.B
  · rw [hBs]
    exact i1.Bs
  · rw [hon]
    exact i1.on
  · rw [hcp]
    rfl
  · rw [hcp]
    show D.c.calls - D.c.calls = 0
    omega
  · rw [hcp]
    show D.c.reads - D.c.reads = 0
    omega
  · rw [hcp]
    show D.c.appends - D.c.appends = 0
    omega
end
end Go.Proofs.YtcpncfngadablaaDoor
