import Derived.Test.YtcpncfngadablaaGreatDoorZ15
namespace Go.Proofs.YtcpncfngadablaaGreatDoor
open Go.RowKit Go.Deep

section
variable {w w' : World} {E : Nat → Addr} {lo p mf mt : Nat} {D : DiskC}

/-- the block's length of 'sane'. -/
def saneB (n : Int) : Int := 64 + 32 * (n % 4)

theorem sane_num (n : Int) : (0 ≤ n.tmod 4 ∧ n.tmod 4 = n % 4 ∧ n.tmod 4 ≤ 3) ∨ (n.tmod 4 < 0 ∧ n.tmod 4 + 4 = n % 4 ∧ -3 ≤ n.tmod 4) := by
  by_cases h : 0 ≤ n
  · rw [Int.tmod_eq_emod_of_nonneg h]
    omega
  · have h1 : n.tmod 4 = -((-n) % 4) := by
      have e : n = -(-n) := by omega
      rw [e, Int.neg_tmod, Int.tmod_eq_emod_of_nonneg (by omega)]
      simp
    rw [h1]
    omega

set_option maxRecDepth 100000 in
set_option maxHeartbeats 400000 in
theorem sane_any (n : Int) (w : World) :
    Calls Tryz.prog 7 #[.int .i64 n] w fun e w' => e = .returned (.agg #[.int .i64 (saneB n), .int .i64 1099511627776, .slice none 0 0]) ∧ Below w.heap.size w w' := by
  have hm := sane_num n
  rcases hm with ⟨h1, h2, h3⟩ | ⟨h1, h2, h3⟩
  · have HB : Hid (64 + 32 * n.tmod 4 = saneB n) := by show _ = _; unfold saneB; rw [h2]
    clear h2
    go_enter Tryz.func7, Tryz.ntmps7
    go_wp2
    refine bodyPost_ret (v := .agg #[.int .i64 (64 + 32 * n.tmod 4), .int .i64 1099511627776, .slice none 0 0]) (by simp [results, Tryz.results7, go_sem]) rfl ?_
    rw [HB.out]
    exact ⟨rfl, (Below.refl _ w).alloc (Nat.le_refl _) _⟩
  · have HB : Hid (64 + 32 * (n.tmod 4 + 4) = saneB n) := by show _ = _; unfold saneB; rw [h2]
    clear h2
    go_enter Tryz.func7, Tryz.ntmps7
    go_wp2
    refine bodyPost_ret (v := .agg #[.int .i64 (64 + 32 * (n.tmod 4 + 4)), .int .i64 1099511627776, .slice none 0 0]) (by simp [results, Tryz.results7, go_sem]) rfl ?_
    rw [HB.out]
    exact ⟨rfl, (Below.refl _ w).alloc (Nat.le_refl _) _⟩

set_option maxRecDepth 100000 in
set_option maxHeartbeats 400000 in
theorem checkSetup_ok {B : Int} {Bs : Int} {v : Value} {ga : Option Addr} {gn gc : Nat} (hv : v = .slice ga gn gc) (h1 : 64 ≤ B) (h2 : B ≤ 65536) (h3 : B % 32 = 0) (h4 : 0 ≤ Bs) (h5 : Bs ≤ 1099511627776) (w : World) :
    Calls Tryz.prog 25 #[.agg #[.int .i64 B, .int .i64 Bs, v]] w fun e w' => e = .returned .nilIface ∧ Below w.heap.size w w' := by
  subst hv
  have h3' : (B.tmod 32 != 0) = false := by rw [Int.tmod_eq_emod_of_nonneg (by omega), h3]; decide
  go_enter Tryz.func25, Tryz.ntmps25
  go_wp2
  go_ret
  exact ⟨rfl, (Below.refl _ w).alloc (Nat.le_refl _) _⟩

set_option maxRecDepth 100000 in
set_option maxHeartbeats 400000 in
theorem byCall_nil (w : World) :
    Calls Tryz.prog 63 #[.slice none 0 0] w fun e w' => e = .returned (.map (some w.heap.size)) ∧ w' = w.alloc (.map #[] 0) := by
  have hmm := @run_makeMap Tryz.prog
  go_enter Tryz.func63, Tryz.ntmps63
  go_wp2
  refine wp_loop_rounds 1 ?_
  rw [rounds_succ]
  go_wp2
  go_ret
  exact ⟨rfl, rfl⟩

/-- a new disk. -/
def DiskC.new (B : Nat) (Bs : Int) : DiskC := ⟨B, Bs, true, [], .map [], ⟨0, 0, 0, 0, 0, 0, 0⟩⟩

theorem Rep.new {B : Nat} {Bs : Int} (hrow : w.heap[p]? = some (.cells (dRow (.new B Bs) mf mt) 91 (0, 0))) (hf : w.ownsMap Tryz.prog 9 ptrElem mf 0 (.map [])) (ht : w.ownsMap Tryz.prog 3 trElem mt 0 (.map [])) (h1 : p ≠ mf) (h2 : p ≠ mt) (h3 : mf ≠ mt) (hb : lo ≤ p ∧ lo ≤ mf ∧ lo ≤ mt) : Rep w lo p mf mt (.new B Bs) :=
  ⟨hrow, hf, ⟨0, ht⟩, by simp [DiskC.new], by simp [DiskC.foot, DiskC.new, h1, h2, h3], by simp [DiskC.foot, DiskC.new]; exact hb, by simp [DiskC.new]⟩

theorem empty_map (w : World) (b : Nat) (k : TypeId) (R : Value → Option (DataW Unit × List MemPlace)) (h : w.heap[b]? = some (.map #[] 0)) : w.ownsMap Tryz.prog k R b 0 (.map []) :=
  ⟨#[], 0, h, ⟨by simp, MapKept.stamped_empty 0, by simp⟩, Nat.le_refl _, rfl⟩

theorem heap_four (w : World) (o1 o2 o3 o4 : Obj) : ((((w.alloc o1).alloc o2).alloc o3).alloc o4).heap[w.heap.size + 1]? = some o2 ∧ ((((w.alloc o1).alloc o2).alloc o3).alloc o4).heap[w.heap.size + 1 + 1]? = some o3 ∧ ((((w.alloc o1).alloc o2).alloc o3).alloc o4).heap[w.heap.size + 1 + 1 + 1]? = some o4 := by
  have h1 : (w.alloc o1).heap.size = w.heap.size + 1 := by simp
  have h2 : ((w.alloc o1).alloc o2).heap.size = w.heap.size + 1 + 1 := by simp
  have h3 : (((w.alloc o1).alloc o2).alloc o3).heap.size = w.heap.size + 1 + 1 + 1 := by simp
  have a := heap_two (w.alloc o1) o2 o3
  rw [h1] at a
  refine ⟨?_, ?_, ?_⟩
  · rw [Below.heap_alloc _ _ _ (by omega)]; exact a.1
  · rw [Below.heap_alloc _ _ _ (by omega)]; exact a.2
  · rw [← h3]; exact heap_alloc_new _ _

theorem new_rep {B : Nat} {Bs : Int} (w : World) (o : Obj) (mf mt : Nat) (h : (mf = w.heap.size + 1 ∧ mt = w.heap.size + 1 + 1) ∨ (mf = w.heap.size + 1 + 1 ∧ mt = w.heap.size + 1)) :
    Rep ((((w.alloc o).alloc (.map #[] 0)).alloc (.map #[] 0)).alloc (.cells (dRow (.new B Bs) mf mt) 91)).drew w.heap.size (w.heap.size + 1 + 1 + 1) mf mt (.new B Bs) ∧ Below w.heap.size w ((((w.alloc o).alloc (.map #[] 0)).alloc (.map #[] 0)).alloc (.cells (dRow (.new B Bs) mf mt) 91)).drew := by
  have hf := heap_four w o (.map #[] 0) (.map #[] 0) (.cells (dRow (.new B Bs) mf mt) 91)
  refine ⟨Rep.new hf.2.2 (empty_map _ _ _ _ ?_) (empty_map _ _ _ _ ?_) ?_ ?_ ?_ ⟨by omega, by omega, by omega⟩, ((((Below.refl _ w).alloc (Nat.le_refl _) _).alloc (by simp) _).alloc (by simp; omega) _).alloc (by simp; omega) _ |>.drew⟩
  · rcases h with ⟨rfl, _⟩ | ⟨rfl, _⟩
    · exact hf.1
    · exact hf.2.1
  · rcases h with ⟨_, rfl⟩ | ⟨_, rfl⟩
    · exact hf.2.1
    · exact hf.1
  · omega
  · omega
  · omega

theorem Rep.lower (R : Rep w lo p mf mt D) {n : Nat} (h : n ≤ lo) : Rep w n p mf mt D := ⟨R.row, R.files, R.troubles, R.each, R.apart, fun b hb => Nat.le_trans h (R.base b hb), R.names⟩

theorem box_up3 {a b c : Value} {t : TypeId} {w1 : World} (h : Below (w.alloc (.cells #[a, b, c] t)).heap.size (w.alloc (.cells #[a, b, c] t)) w1) : w1.cell? ⟨w.heap.size, 0, none⟩ = some a ∧ w1.cell? ⟨w.heap.size, 1, none⟩ = some b ∧ w1.cell? ⟨w.heap.size, 2, none⟩ = some c ∧ w.heap.size < w1.heap.size := by
  have hr : w1.heap[w.heap.size]? = some (.cells #[a, b, c] t (0, 0)) := (h.block _ (by simp)).trans (heap_alloc_new w _)
  exact ⟨cell_row hr 0, cell_row hr 1, cell_row hr 2, lt_of_block hr⟩

set_option maxRecDepth 100000 in
set_option maxHeartbeats 400000 in
theorem empty_any {B : Nat} {Bs : Int} (w : World) :
    Calls Tryz.prog 27 #[.agg #[.int .i64 B, .int .i64 Bs, .slice none 0 0]] w fun e w' => ∃ p mf mt, e = .returned (ptr p) ∧ Rep w' w.heap.size p mf mt (.new B Bs) ∧ Below w.heap.size w w' := by
  have hmm := @run_makeMap Tryz.prog
  go_enter Tryz.func27, Tryz.ntmps27
  go_wp2
  go_region_held3 (fun V => V.cell? ⟨w.heap.size, 0, none⟩ = some (.int .i64 B) ∧ V.cell? ⟨w.heap.size, 1, none⟩ = some (.int .i64 Bs) ∧ V.cell? ⟨w.heap.size, 2, none⟩ = some (.slice none 0 0)) (go_keep)
    (first | (go_at_call 63; refine (byCall_nil _).mono ?_; rintro e w2 ⟨rfl, rfl⟩))
  all_goals
    go_wp2
    go_ret
  · have h := new_rep (B := B) (Bs := Bs) w (.cells #[.int .i64 B, .int .i64 Bs, .slice none 0 0] 29) (w.heap.size + 1) (w.heap.size + 1 + 1) (.inl ⟨rfl, rfl⟩)
    exact ⟨_, _, _, rfl, h.1, h.2⟩
  · have h := new_rep (B := B) (Bs := Bs) w (.cells #[.int .i64 B, .int .i64 Bs, .slice none 0 0] 29) (w.heap.size + 1 + 1) (w.heap.size + 1) (.inr ⟨rfl, rfl⟩)
    exact ⟨_, _, _, rfl, h.1, h.2⟩

set_option maxRecDepth 100000 in
set_option maxHeartbeats 400000 in
theorem New_ok {B : Nat} {Bs : Int} (h1 : 64 ≤ B) (h2 : B ≤ 65536) (h3 : (B : Int) % 32 = 0) (h4 : 0 ≤ Bs) (h5 : Bs ≤ 1099511627776) (w : World) :
    Calls Tryz.prog 6 #[.agg #[.int .i64 B, .int .i64 Bs, .slice none 0 0]] w fun e w' => ∃ p mf mt, e = .returned (.tuple #[ptr p, .int .i64 0]) ∧ Rep w' w.heap.size p mf mt (.new B Bs) ∧ Below w.heap.size w w' := by
  have HC := hid (fun W => checkSetup_ok (B := (B : Int)) (Bs := Bs) (v := .slice none 0 0) rfl (by omega) (by omega) h3 h4 h5 W)
  clear h3
  go_enter Tryz.func6, Tryz.ntmps6
  go_wp2_with (first
    | (go_at_call 25; refine (HC.out _).mono ?_; rintro e w1 ⟨rfl, hb1⟩; obtain ⟨q0, q1, q2, lz⟩ := box_up3 hb1; have HB1 := hid hb1; clear hb1)
    | (go_at_call 27; refine (empty_any _).mono ?_; rintro e w2 ⟨p, mf, mt, rfl, hR, hb2⟩))
  go_ret2
  have h0 : Below w.heap.size w w1 := ((Below.refl _ w).alloc (Nat.le_refl _) _).trans (HB1.out.mono (by simp))
  exact ⟨p, mf, mt, rfl, hR.lower (by omega), h0.trans (hb2.mono (by omega))⟩
end
end Go.Proofs.YtcpncfngadablaaGreatDoor
namespace Go.Proofs.YtcpncfngadablaaGreatDoor
open Go.RowKit Go.Deep

/-- an operation of a script. -/
structure OpA where
  kind : Int
  name : ByteArray
  N : Int
  bit : Int
  data : List UInt8

def stepA (o : OpA) (A : PubA) : ToldA × PubA :=
  if o.kind = 1 then (.err (createA o.name A).1, (createA o.name A).2)
  else if o.kind = 2 then (.err (appendA o.name (dataA o.N A.B o.data) A).1, (appendA o.name (dataA o.N A.B o.data) A).2)
  else if o.kind = 3 then (.err (sealA o.name A).1, (sealA o.name A).2)
  else if o.kind = 4 then (⟨(readA o.name o.N A).2.1, 0, false, (readA o.name o.N A).1.getD [], [], cnt0⟩, (readA o.name o.N A).2.2)
  else if o.kind = 5 then (.err (deleteA o.name A).1, (deleteA o.name A).2)
  else if o.kind = 6 then (⟨(lengthA o.name A).2.2, (lengthA o.name A).1, (lengthA o.name A).2.1, [], [], cnt0⟩, A)
  else if o.kind = 7 then (⟨0, 0, false, [], A.files.map Prod.fst, cnt0⟩, A)
  else if o.kind = 8 then (⟨0, 0, false, [], [], A.c⟩, A)
  else if o.kind = 9 then (.err (spoilA o.name o.N o.bit A).1, (spoilA o.name o.N o.bit A).2)
  else (.err 0, A)

section
variable {w w' : World} {E : Nat → Addr} {lo p mf mt : Nat} {D : DiskC}

theorem program_any (V : Env w lo E) (R : Rep w lo p mf mt D) (hT : D.T = .map []) (ho : D.on = true) (hS : Small D.pub) (hcc : D.c.calls + 1 ≤ 1099511627776) (o : OpA) {sa : Option Addr} {n c : Nat} (hd : Shows w sa n c o.data) (hn : n ≤ 1073741824) :
    Calls Tryz.prog 8 #[ptr p, opV o.kind o.name o.N o.bit sa n c, .int .i64 D.B] w fun e w' => ∃ v, e = .returned (.tuple #[v, .bool true]) ∧ ToldAt w' w.heap.size (stepA o D.pub).1 v ∧ Did w w' lo p mf mt D (stepA o D.pub).2 := by
  obtain ⟨k, s, N, bit, d⟩ := o
  unfold stepA
  simp only
  by_cases h1 : k = 1
  · subst h1
    exact program_1 V R hT ho hS hcc s N bit sa n c
  rw [if_neg h1, ]
  by_cases h2 : k = 2
  · subst h2
    exact program_2 V R hT ho hS hcc s N bit hd hn
  rw [if_neg h2]
  by_cases h3 : k = 3
  · subst h3
    exact program_3 V R hT ho hS hcc s N bit sa n c
  rw [if_neg h3]
  by_cases h4 : k = 4
  · subst h4
    exact program_4 V R hT ho hS s N bit sa n c
  rw [if_neg h4]
  by_cases h5 : k = 5
  · subst h5
    exact program_5 V R hT ho hS hcc s N bit sa n c
  rw [if_neg h5]
  by_cases h6 : k = 6
  · subst h6
    exact program_6 V R hT ho s N bit sa n c
  rw [if_neg h6]
  by_cases h7 : k = 7
  · subst h7
    have h := program_7 R hT ho hS s N bit sa n c
    have e : D.pub.files.map Prod.fst = D.ents.map Ent.name := by simp [DiskC.pub, Ent.pub]
    rw [if_pos rfl, e]
    exact h
  rw [if_neg h7]
  by_cases h8 : k = 8
  · subst h8
    exact program_8 R hT s N bit sa n c
  rw [if_neg h8]
  by_cases h9 : k = 9
  · subst h9
    exact program_9 V R hT ho hS hcc s N bit sa n c
  rw [if_neg h9]
  exact program_0 R hT k (by simpa using h1) (by simpa using h2) (by simpa using h3) (by simpa using h4) (by simpa using h5) (by simpa using h6) (by simpa using h7) (by simpa using h8) (by simpa using h9) s N bit sa n c
end









end Go.Proofs.YtcpncfngadablaaGreatDoor
namespace Go.Proofs.YtcpncfngadablaaGreatDoor
open Go.RowKit Go.Deep

def total (l : List (List UInt8 × FileA)) : Nat := (l.map fun e => e.2.blocks.length).sum

theorem set_absent {k : List UInt8} {f : FileA} : ∀ {l : List (List UInt8 × FileA)}, (∀ e ∈ l, e.1 ≠ k) → setA k f l = l
  | [], _ => rfl
  | a :: l, h => by
    have h1 := h a (by simp)
    have h2 := set_absent (k := k) (f := f) (l := l) (fun e he => h e (by simp [he]))
    simp only [setA, List.map_cons] at h2 ⊢
    rw [if_neg h1, h2]

theorem drop_absent {k : List UInt8} {l : List (List UInt8 × FileA)} (h : ∀ e ∈ l, e.1 ≠ k) : dropA k l = l := by
  unfold dropA
  rw [List.filter_eq_self]
  intro e he
  simp [h e he]

theorem total_set {k : List UInt8} {f f' : FileA} : ∀ {l : List (List UInt8 × FileA)}, (l.Pairwise fun a b => a.1 ≠ b.1) → findA l k = some f → total (setA k f' l) + f.blocks.length = total l + f'.blocks.length
  | [], _, h => by simp [findA] at h
  | a :: l, hp, h => by
    rw [List.pairwise_cons] at hp
    by_cases ha : a.1 = k
    · have hf : f = a.2 := by simp [findA, ha] at h; exact h.symm
      have hs := set_absent (k := k) (f := f') (l := l) (fun e he e1 => hp.1 e he (by rw [ha, e1]))
      simp only [setA, List.map_cons] at hs ⊢
      rw [if_pos ha, hs]
      simp only [total, List.map_cons, List.sum_cons, hf]
      omega
    · have hf : findA l k = some f := by simpa [findA, ha] using h
      have := total_set (f' := f') hp.2 hf
      simp only [setA, List.map_cons] at this ⊢
      rw [if_neg ha]
      simp only [total, List.map_cons, List.sum_cons] at this ⊢
      omega

theorem total_drop {k : List UInt8} {f : FileA} : ∀ {l : List (List UInt8 × FileA)}, (l.Pairwise fun a b => a.1 ≠ b.1) → findA l k = some f → total (dropA k l) + f.blocks.length = total l
  | [], _, h => by simp [findA] at h
  | a :: l, hp, h => by
    rw [List.pairwise_cons] at hp
    by_cases ha : a.1 = k
    · have hf : f = a.2 := by simp [findA, ha] at h; exact h.symm
      have hs := drop_absent (k := k) (l := l) (fun e he e1 => hp.1 e he (by rw [ha, e1]))
      simp only [dropA, List.filter_cons, ha] at hs ⊢
      simp only [decide_true, Bool.not_true, Bool.false_eq_true, if_false]
      rw [hs]
      simp only [total, List.map_cons, List.sum_cons, hf]
      omega
    · have hf : findA l k = some f := by simpa [findA, ha] using h
      have := total_drop hp.2 hf
      simp only [dropA, List.filter_cons, ha, decide_false, Bool.not_false, if_true] at this ⊢
      simp only [total, List.map_cons, List.sum_cons] at this ⊢
      omega

theorem perm_ins (e : List UInt8 × FileA) : ∀ l : List (List UInt8 × FileA), (insA e l).Perm (e :: l)
  | [] => List.Perm.refl _
  | a :: l => by
    unfold insA
    split
    · exact List.Perm.refl _
    · exact ((perm_ins e l).cons a).trans (List.Perm.swap e a l)

theorem total_perm {l l' : List (List UInt8 × FileA)} (h : l.Perm l') : total l = total l' := (h.map _).sum_nat


/-- what holds behind t steps. -/
structure Inv (t : Nat) (A : PubA) : Prop where
  on : A.on = true
  size : 64 ≤ A.B ∧ A.B ≤ 65536
  Bs : A.Bs = 1099511627776
  calls : 0 ≤ A.c.calls ∧ A.c.calls ≤ t
  reads : 0 ≤ A.c.reads ∧ A.c.reads ≤ t
  appends : 0 ≤ A.c.appends ∧ A.c.appends ≤ t
  full : 0 ≤ A.c.full ∧ A.c.full ≤ t
  used : A.c.used = (total A.files : Int)
  total : total A.files ≤ t
  few : A.files.length ≤ t
  names : ∀ e ∈ A.files, nameB ⟨e.1.toArray⟩ = true

theorem le_total {l : List (List UInt8 × FileA)} : ∀ e ∈ l, e.2.blocks.length ≤ total l := by
  induction l with
  | nil => simp
  | cons a l ih =>
    intro e he
    simp only [List.mem_cons] at he
    rcases he with rfl | he
    · simp only [total, List.map_cons, List.sum_cons]
      omega
    · have := ih e he
      simp only [total, List.map_cons, List.sum_cons] at this ⊢
      omega

theorem Inv.small {t : Nat} {A : PubA} (h : Inv t A) (ht : t ≤ 1099511627776) : Small A := by
  have h1 := h.calls
  have h2 := h.reads
  have h3 := h.appends
  have h4 := h.full
  have h5 := h.used
  have h6 := h.total
  have h7 := h.few
  exact ⟨by omega, by omega, by omega, by omega, by omega, by omega, fun e he => by have := le_total e he; omega, h.size⟩

theorem Inv.more {t : Nat} {A : PubA} (h : Inv t A) : Inv (t + 1) A := by
  have h1 := h.calls
  have h2 := h.reads
  have h3 := h.appends
  have h4 := h.full
  have h6 := h.total
  have h7 := h.few
  exact ⟨h.on, h.size, h.Bs, by omega, by omega, by omega, by omega, h.used, by omega, by omega, h.names⟩

theorem set_len (k : List UInt8) (f : FileA) (l : List (List UInt8 × FileA)) : (setA k f l).length = l.length := by simp [setA]
theorem set_names {k : List UInt8} {f : FileA} {l : List (List UInt8 × FileA)} (h : ∀ e ∈ l, nameB ⟨e.1.toArray⟩ = true) : ∀ e ∈ setA k f l, nameB ⟨e.1.toArray⟩ = true := by
  intro e he
  simp only [setA, List.mem_map] at he
  obtain ⟨a, ha, rfl⟩ := he
  split
  · exact h a ha
  · exact h a ha

theorem total_cons0 (k : List UInt8) (b : Bool) (l : List (List UInt8 × FileA)) : total ((k, ⟨b, []⟩) :: l) = total l := by simp [total]

theorem Inv.create {t : Nat} {A : PubA} (h : Inv t A) (s : ByteArray) : Inv (t + 1) (createA s A).2 := by
  have hm := h.more
  obtain ⟨g1, g2, g3, g4, g5, g6, g7, g8, g9, g10, g11⟩ := h
  unfold createA
  split
  · rename_i hn
    split
    · exact hm
    · have hp := perm_ins (nm s, ⟨false, []⟩) A.files
      have ht := total_perm hp
      have hl := hp.length_eq
      rw [total_cons0] at ht
      simp only [List.length_cons] at hl
      refine ⟨g1, g2, g3, by simp only []; omega, by simp only []; omega, by simp only []; omega, by simp only []; omega, ?_, ?_, ?_, ?_⟩
      · simp only []
        omega
      · simp only []
        omega
      · simp only []
        omega
      · intro e he
        rcases List.mem_cons.1 (hp.mem_iff.1 he) with rfl | he
        · exact hn
        · exact g11 e he
  · exact hm

theorem Inv.seal {t : Nat} {A : PubA} (h : Inv t A) (hp : A.files.Pairwise fun a b => a.1 ≠ b.1) (s : ByteArray) : Inv (t + 1) (sealA s A).2 := by
  have hm := h.more
  obtain ⟨g1, g2, g3, g4, g5, g6, g7, g8, g9, g10, g11⟩ := h
  unfold sealA
  split
  · split
    · exact hm
    · rename_i f hf
      split
      · exact hm
      · have ht := total_set (f' := { f with shut := true }) hp hf
        have hl := set_len (nm s) { f with shut := true } A.files
        simp only at ht
        refine ⟨g1, g2, g3, by simp only []; omega, by simp only []; omega, by simp only []; omega, by simp only []; omega, ?_, ?_, ?_, set_names g11⟩
        · simp only []
          omega
        · simp only []
          omega
        · simp only []
          omega
  · exact hm

theorem Inv.append {t : Nat} {A : PubA} (h : Inv t A) (hp : A.files.Pairwise fun a b => a.1 ≠ b.1) (s : ByteArray) (bl : List UInt8) : Inv (t + 1) (appendA s bl A).2 := by
  have hm := h.more
  obtain ⟨g1, g2, g3, g4, g5, g6, g7, g8, g9, g10, g11⟩ := h
  unfold appendA
  split
  · split
    · exact hm
    · rename_i f hf
      split
      · exact hm
      · split
        · exact hm
        · split
          · exact ⟨g1, g2, g3, by simp only []; omega, by simp only []; omega, by simp only []; omega, by simp only []; omega, g8, by simp only []; omega, by simp only []; omega, g11⟩
          · have ht := total_set (f' := { f with blocks := f.blocks ++ [bl] }) hp hf
            have hl := set_len (nm s) { f with blocks := f.blocks ++ [bl] } A.files
            simp only [List.length_append, List.length_cons, List.length_nil] at ht
            refine ⟨g1, g2, g3, by simp only []; omega, by simp only []; omega, by simp only []; omega, by simp only []; omega, ?_, ?_, ?_, set_names g11⟩
            · simp only []
              omega
            · simp only []
              omega
            · simp only []
              omega
  · exact hm

theorem Inv.delete {t : Nat} {A : PubA} (h : Inv t A) (hp : A.files.Pairwise fun a b => a.1 ≠ b.1) (s : ByteArray) : Inv (t + 1) (deleteA s A).2 := by
  have hm := h.more
  obtain ⟨g1, g2, g3, g4, g5, g6, g7, g8, g9, g10, g11⟩ := h
  unfold deleteA
  split
  · split
    · exact hm
    · rename_i f hf
      have ht := total_drop hp hf
      have hl : (dropA (nm s) A.files).length ≤ A.files.length := List.length_filter_le _ _
      refine ⟨g1, g2, g3, by simp only []; omega, by simp only []; omega, by simp only []; omega, by simp only []; omega, ?_, ?_, ?_, fun e he => g11 e (List.mem_filter.1 he).1⟩
      · simp only []
        omega
      · simp only []
        omega
      · simp only []
        omega
  · exact hm

theorem Inv.spoil {t : Nat} {A : PubA} (h : Inv t A) (hp : A.files.Pairwise fun a b => a.1 ≠ b.1) (s : ByteArray) (i bit : Int) : Inv (t + 1) (spoilA s i bit A).2 := by
  have hm := h.more
  obtain ⟨g1, g2, g3, g4, g5, g6, g7, g8, g9, g10, g11⟩ := h
  unfold spoilA
  split
  · split
    · exact hm
    · rename_i f hf
      split
      · have ht := total_set (f' := { f with blocks := f.blocks.set i.toNat ((f.blocks[i.toNat]?.getD []).set (bit / 8).toNat (flipB ((f.blocks[i.toNat]?.getD [])[(bit / 8).toNat]?.getD 0) bit)) }) hp hf
        have hl := set_len (nm s) { f with blocks := f.blocks.set i.toNat ((f.blocks[i.toNat]?.getD []).set (bit / 8).toNat (flipB ((f.blocks[i.toNat]?.getD [])[(bit / 8).toNat]?.getD 0) bit)) } A.files
        simp only [List.length_set] at ht
        refine ⟨g1, g2, g3, by simp only []; omega, by simp only []; omega, by simp only []; omega, by simp only []; omega, ?_, ?_, ?_, set_names g11⟩
        · simp only []
          omega
        · simp only []
          omega
        · simp only []
          omega
      · exact hm
  · exact hm

theorem Inv.read {t : Nat} {A : PubA} (h : Inv t A) (s : ByteArray) (i : Int) : Inv (t + 1) (readA s i A).2.2 := by
  have hm := h.more
  obtain ⟨g1, g2, g3, g4, g5, g6, g7, g8, g9, g10, g11⟩ := h
  unfold readA
  repeat' split
  all_goals first | exact hm | exact ⟨g1, g2, g3, by simp only []; omega, by simp only []; omega, by simp only []; omega, by simp only []; omega, g8, by simp only []; omega, by simp only []; omega, g11⟩

theorem Inv.step {t : Nat} {A : PubA} (h : Inv t A) (hp : A.files.Pairwise fun a b => a.1 ≠ b.1) (o : OpA) : Inv (t + 1) (stepA o A).2 := by
  unfold stepA
  repeat' split
  · exact h.create _
  · exact h.append hp _ _
  · exact h.seal hp _
  · exact h.read _ _
  · exact h.delete hp _
  · exact h.more
  · exact h.more
  · exact h.more
  · exact h.spoil hp _ _ _
  · exact h.more

theorem step_size (o : OpA) (A : PubA) : (stepA o A).2.B = A.B ∧ (stepA o A).2.Bs = A.Bs := by
  have h1 : ∀ s, (createA s A).2.B = A.B ∧ (createA s A).2.Bs = A.Bs := fun s => by unfold createA; (repeat' split) <;> exact ⟨rfl, rfl⟩
  have h2 : ∀ s b, (appendA s b A).2.B = A.B ∧ (appendA s b A).2.Bs = A.Bs := fun s b => by unfold appendA; (repeat' split) <;> exact ⟨rfl, rfl⟩
  have h3 : ∀ s, (sealA s A).2.B = A.B ∧ (sealA s A).2.Bs = A.Bs := fun s => by unfold sealA; (repeat' split) <;> exact ⟨rfl, rfl⟩
  have h4 : ∀ s i, (readA s i A).2.2.B = A.B ∧ (readA s i A).2.2.Bs = A.Bs := fun s i => by unfold readA; (repeat' split) <;> exact ⟨rfl, rfl⟩
  have h5 : ∀ s, (deleteA s A).2.B = A.B ∧ (deleteA s A).2.Bs = A.Bs := fun s => by unfold deleteA; (repeat' split) <;> exact ⟨rfl, rfl⟩
  have h9 : ∀ s i b, (spoilA s i b A).2.B = A.B ∧ (spoilA s i b A).2.Bs = A.Bs := fun s i b => by unfold spoilA; (repeat' split) <;> exact ⟨rfl, rfl⟩
  unfold stepA
  split
  · exact h1 _
  split
  · exact h2 _ _
  split
  · exact h3 _
  split
  · exact h4 _ _
  split
  · exact h5 _
  split
  · exact ⟨rfl, rfl⟩
  split
  · exact ⟨rfl, rfl⟩
  split
  · exact ⟨rfl, rfl⟩
  split
  · exact h9 _ _ _
  · exact ⟨rfl, rfl⟩
end Go.Proofs.YtcpncfngadablaaGreatDoor
