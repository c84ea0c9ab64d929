import Derived.Deep.RegionHeld3
import Derived.Test.YtclplbnildnifaaGreatDoorZ07
/-
  The bench: a disk and a purse side by side, and what a call of one of them makes of both.
-/
namespace Go.Proofs.YtclplbnildnifaaGreatDoor
open Go.RowKit Go.Deep
set_option linter.unusedSimpArgs false
set_option linter.unusedVariables false

/-- where a disk and a purse lie; the troubles that the disk was made with. -/
structure Bn where
  E : Nat → Addr
  lo : Nat
  p : Nat
  mf : Nat
  mt : Nat
  q : Nat
  l : List TrA

/-- the trouble of the next call. -/
def Bn.tr (b : Bn) (A : PubA) : TrA := trFirst b.l A.c.calls

/-- the disk lies there: all its memory is Fd. -/
def DAt (w : World) (b : Bn) (A : PubA) (Fd : List Nat) : Prop :=
  ∃ D, Rep w b.lo b.p b.mf b.mt D ∧ D.pub = A ∧ TFrom D.T b.l D.c.calls ∧ Fd = D.foot b.p b.mf b.mt

/-- the disk and the purse stand; all their memory is F; n: what has been counted is no more. -/
structure Stand (w : World) (b : Bn) (n : Nat) (A : PubA) (s : Pu.St) (F : List Nat) : Prop where
  disk : ∃ Fd, DAt w b A Fd ∧ F = b.q :: s.lb :: Fd ∧ b.q ∉ Fd ∧ s.lb ∉ Fd
  env : Env w b.lo b.E
  inv : IB n A
  pur : Pu.PurseAt w b.q s
  lock : Pu.LockAt w s.lb 0
  good : s.Good
  ne : b.q ≠ s.lb
  low : b.lo ≤ b.q ∧ b.lo ≤ s.lb

/-- a call has been made, that wrote on its own blocks G besides. -/
def Went (w w' : World) (b : Bn) (n : Nat) (A : PubA) (s : Pu.St) (F G : List Nat) : Prop :=
  ∃ F', Stand w' b n A s F' ∧ Touch (G ++ F) w w' ∧ ∀ x ∈ F', x ∈ F ∨ w.heap.size ≤ x

section
variable {w w' w1 w2 W : World} {b : Bn} {n m : Nat} {A A' : PubA} {s s' : Pu.St} {F F1 G G' : List Nat}

theorem DAt.touch (h : DAt w b A F) (t : Touch G w w') (hG : ∀ x ∈ G, x ∉ F) : DAt w' b A F := by
  obtain ⟨D, R, h1, h2, rfl⟩ := h
  exact ⟨D, R.touch t (fun x hx hg => hG x hg hx), h1, h2, rfl⟩
theorem DAt.lt (h : DAt w b A F) : ∀ x ∈ F, x < w.heap.size := by
  obtain ⟨D, R, _, _, rfl⟩ := h
  exact R.lt
theorem DAt.base (h : DAt w b A F) : ∀ x ∈ F, b.lo ≤ x := by
  obtain ⟨D, R, _, _, rfl⟩ := h
  exact R.base

theorem Stand.lt (h : Stand w b n A s F) : ∀ x ∈ F, x < w.heap.size := by
  obtain ⟨Fd, hd, rfl, _, _⟩ := h.disk
  intro x hx
  simp only [List.mem_cons] at hx
  rcases hx with rfl | rfl | hx
  · exact lt_of_block h.pur
  · exact lt_of_block h.lock
  · exact hd.lt x hx
theorem Stand.base (h : Stand w b n A s F) : ∀ x ∈ F, b.lo ≤ x := by
  obtain ⟨Fd, hd, rfl, _, _⟩ := h.disk
  intro x hx
  simp only [List.mem_cons] at hx
  rcases hx with rfl | rfl | hx
  · exact h.low.1
  · exact h.low.2
  · exact hd.base x hx
theorem Stand.touch (h : Stand w b n A s F) (t : Touch G w w') (hG : ∀ x ∈ G, x ∉ F ∧ b.lo ≤ x) : Stand w' b n A s F := by
  obtain ⟨Fd, hd, rfl, h1, h2⟩ := h.disk
  have hq : b.q ∉ G := fun hx => (hG _ hx).1 (by simp)
  have hl : s.lb ∉ G := fun hx => (hG _ hx).1 (by simp)
  exact ⟨⟨Fd, hd.touch t (fun x hx hf => (hG x hx).1 (by simp [hf])), rfl, h1, h2⟩, h.env.touch t (fun x hx => (hG x hx).2), h.inv, h.pur.touch t hq, h.lock.touch t hl, h.good, h.ne, h.low⟩
theorem Stand.quiet (h : Stand w b n A s F) (t : Touch [] w w') : Stand w' b n A s F := h.touch t (by simp)
theorem IB.mono {t t' : Nat} (h : IB t A) (ht : t ≤ t') : IB t' A := by
  induction ht with
  | refl => exact h
  | step _ ih => exact ih.more
theorem Stand.mono (h : Stand w b n A s F) (hn : n ≤ m) : Stand w b m A s F := ⟨h.disk, h.env, h.inv.mono hn, h.pur, h.lock, h.good, h.ne, h.low⟩
theorem Stand.room (h : Stand w b n A s F) : b.lo ≤ w.heap.size := h.env.room

theorem Went.quiet (h : Stand w b n A s F) (t : Touch [] w w') : Went w w' b n A s F [] := ⟨F, h.quiet t, t.mono (by simp), fun x hx => .inl hx⟩
theorem Went.mono (h : Went w w' b n A s F G) (hG : ∀ x ∈ G, x ∈ G') : Went w w' b n A s F G' := by
  obtain ⟨F', S, t, f⟩ := h
  refine ⟨F', S, t.mono fun x hx => ?_, f⟩
  rcases List.mem_append.1 hx with h | h
  · exact List.mem_append.2 (.inl (hG x h))
  · exact List.mem_append.2 (.inr h)
/-- two calls, one behind the other. -/
theorem Went.then (t1 : Touch (G ++ F) w w1) (f1 : ∀ x ∈ F1, x ∈ F ∨ w.heap.size ≤ x) (h : Went w1 w2 b n A s F1 G') (hG : ∀ x ∈ G', x ∈ G ∨ w.heap.size ≤ x) : Went w w2 b n A s F G := by
  obtain ⟨F', S, t, f⟩ := h
  refine ⟨F', S, t1.trans t fun x hx => ?_, fun x hx => ?_⟩
  · rcases List.mem_append.1 hx with h | h
    · rcases hG x h with h | h
      · exact .inl (List.mem_append.2 (.inl h))
      · exact .inr h
    · rcases f1 x h with h | h
      · exact .inl (List.mem_append.2 (.inr h))
      · exact .inr h
  · rcases f x hx with h | h
    · exact f1 x h
    · exact .inr (Nat.le_trans t1.size h)
/-- a call behind new memory. -/
theorem Went.pre (t1 : Touch [] w W) (h : Went W w' b n A s F G) (hG : ∀ x ∈ G, x ∈ G' ∨ w.heap.size ≤ x) : Went w w' b n A s F G' :=
  Went.then (F1 := F) (t1.mono (by simp)) (fun x hx => .inl hx) h hG

/-! ### the disk's calls -/
theorem Stand.rdy (h : Stand w b n A s F) (hn : n < 1099511627776) : ∃ D Fd, Rdy w b.E b.lo b.p b.mf b.mt D (b.tr A) ∧ D.pub = A ∧ TFrom D.T b.l D.c.calls ∧ F = b.q :: s.lb :: Fd ∧ Fd = D.foot b.p b.mf b.mt ∧ b.q ∉ Fd ∧ s.lb ∉ Fd := by
  obtain ⟨Fd, ⟨D, R, rfl, hT, rfl⟩, rfl, h1, h2⟩ := h.disk
  have hc := h.inv.calls
  have hf := h.inv.faults
  have e1 : D.pub.c = D.c := rfl
  rw [e1] at hc hf
  exact ⟨D, _, ⟨h.env, R, h.inv.small (by omega), by omega, by omega, hT _ (Int.le_refl _)⟩, rfl, hT, rfl, rfl, h1, h2⟩

/-- behind a call of the disk. -/
theorem Stand.did (h : Stand w b n A s F) {D : DiskC} {Fd : List Nat} (hF : F = b.q :: s.lb :: Fd) (hFd : Fd = D.foot b.p b.mf b.mt) (h1 : b.q ∉ Fd) (h2 : s.lb ∉ Fd) (hT : TFrom D.T b.l D.c.calls) (hd : Did3 w w' b.lo b.p b.mf b.mt D A') (hi : IB m A') : Went w w' b m A' s F [] := by
  obtain ⟨D', R', e1, e2, t, f⟩ := hd
  rw [← hFd] at t f
  have lq := lt_of_block h.pur
  have ll := lt_of_block h.lock
  have q1 : b.q ∉ D'.foot b.p b.mf b.mt := fun hx => by rcases f _ hx with h | h; exact h1 h; omega
  have q2 : s.lb ∉ D'.foot b.p b.mf b.mt := fun hx => by rcases f _ hx with h | h; exact h2 h; omega
  have hT' : TFrom D'.T b.l D'.c.calls := by
    rcases e2 with ⟨e3, e4⟩ | ⟨e3, e4⟩
    · rw [e3, e4]; exact hT
    · rw [e3, e4]; exact hT.del
  have hb : ∀ x ∈ Fd, b.lo ≤ x := by
    intro x hx
    have := h.base x (by rw [hF]; simp [hx])
    exact this
  refine ⟨b.q :: s.lb :: D'.foot b.p b.mf b.mt, ⟨⟨_, ⟨D', R', e1, hT', rfl⟩, rfl, q1, q2⟩, h.env.touch t hb, hi, h.pur.touch t h1, h.lock.touch t h2, h.good, h.ne, h.low⟩, t.mono (by rw [hF]; simp; intro x hx; simp [hx]), fun x hx => ?_⟩
  rw [hF]
  simp only [List.mem_cons] at hx ⊢
  rcases hx with hx | hx | hx
  · exact .inl (.inl hx)
  · exact .inl (.inr (.inl hx))
  · rcases f x hx with h | h
    · exact .inl (.inr (.inr h))
    · exact .inr h

theorem IB.createB (h : IB n A) (x : ByteArray) (t : TrA) : IB (n + 1) (createB x t A).2 := by
  unfold YtclplbnildnifaaGreatDoor.createB
  split
  · exact h.bef (h.create x) ((h.create x).flag false)
  · exact h.more
theorem IB.sealB (h : IB n A) (x : ByteArray) (t : TrA) : IB (n + 1) (sealB x t A).2 := by
  unfold YtclplbnildnifaaGreatDoor.sealB
  split
  · exact h.bef (h.seal x) ((h.seal x).flag false)
  · exact h.more
theorem IB.appendB (h : IB n A) (x : ByteArray) (bl : List UInt8) (t : TrA) : IB (n + 1) (appendB x bl t A).2 := by
  unfold YtclplbnildnifaaGreatDoor.appendB
  split
  · exact h.bef (h.append x bl) (h.cutX x bl _)
  · exact h.more
theorem IB.readB (h : IB n A) (x : ByteArray) (i : Int) (t : TrA) : IB (n + 1) (readB x i t A).2.2 := by
  unfold YtclplbnildnifaaGreatDoor.readB
  split
  · exact h.read x i _
  · exact h.more

theorem create_s (h : Stand w b n A s F) (hn : n < 1099511627776) (x : ByteArray) : Calls Tryz.prog 78 #[ptr b.p, .string x] w fun e w' => e = .returned (.int .i64 (createB x (b.tr A) A).1) ∧ Went w w' b (n + 1) (createB x (b.tr A) A).2 s F [] := by
  obtain ⟨D, Fd, hr, rfl, hT, hF, hFd, h1, h2⟩ := h.rdy hn
  exact (Create_b hr x).mono fun e w' ⟨e1, hd⟩ => ⟨e1, h.did hF hFd h1 h2 hT hd (h.inv.createB x _)⟩
theorem seal_s (h : Stand w b n A s F) (hn : n < 1099511627776) (x : ByteArray) : Calls Tryz.prog 83 #[ptr b.p, .string x] w fun e w' => e = .returned (.int .i64 (sealB x (b.tr A) A).1) ∧ Went w w' b (n + 1) (sealB x (b.tr A) A).2 s F [] := by
  obtain ⟨D, Fd, hr, rfl, hT, hF, hFd, h1, h2⟩ := h.rdy hn
  exact (Seal_b hr x).mono fun e w' ⟨e1, hd⟩ => ⟨e1, h.did hF hFd h1 h2 hT hd (h.inv.sealB x _)⟩
/-- a block that is handed in: new memory, or at least none of the disk's. -/
theorem append_s (h : Stand w b n A s F) (hn : n < 1099511627776) (x : ByteArray) {g : Nat} {bl : List UInt8} (hg : BytesAt w g bl) (hgF : g ∉ F) : Calls Tryz.prog 144 #[ptr b.p, .string x, sliceV g bl.length] w fun e w' => e = .returned (.int .i64 (appendB x bl (b.tr A) A).1) ∧ Went w w' b (n + 1) (appendB x bl (b.tr A) A).2 s F [] := by
  obtain ⟨D, Fd, hr, rfl, hT, hF, hFd, h1, h2⟩ := h.rdy hn
  have hh : Hand w b.p b.mf b.mt D (some ⟨g, 0, none⟩) bl.length bl.length bl := ⟨rfl, Nat.le_refl _, fun _ => ⟨_, rfl, lt_of_block hg, fun hx => hgF (by rw [hF, hFd]; simp [hx]), bytes_src hg⟩⟩
  exact (Append_b hr x hh).mono fun e w' ⟨e1, hd⟩ => ⟨e1, h.did hF hFd h1 h2 hT hd (h.inv.appendB x bl _)⟩
theorem read_s (h : Stand w b n A s F) (hn : n < 1099511627776) (x : ByteArray) (i : Int) : Calls Tryz.prog 151 #[ptr b.p, .string x, .int .i64 i] w fun e w' => ∃ v, e = .returned (.tuple #[v, .int .i64 (readB x i (b.tr A) A).2.1]) ∧ Told1 w' w.heap.size A.B (readB x i (b.tr A) A).1 v ∧ Went w w' b (n + 1) (readB x i (b.tr A) A).2.2 s F [] := by
  obtain ⟨D, Fd, hr, rfl, hT, hF, hFd, h1, h2⟩ := h.rdy hn
  refine (Read_b hr x i).mono fun e w' ⟨v, e1, hv, D', R', e2, e3, t, f⟩ => ⟨v, e1, hv, h.did hF hFd h1 h2 hT ⟨D', R', e2, e3, t, fun y hy => .inl (by rw [f] at hy; exact hy)⟩ (h.inv.readB x i _)⟩
theorem length_s (h : Stand w b n A s F) (hn : n < 1099511627776) (x : ByteArray) : Calls Tryz.prog 87 #[ptr b.p, .string x] w fun e w' => e = .returned (.tuple #[.int .i64 (lengthB x A).1, .bool (lengthB x A).2.1, .int .i64 (lengthB x A).2.2]) ∧ Touch [] w w' := by
  obtain ⟨D, Fd, hr, rfl, _⟩ := h.rdy hn
  exact Length_b hr x
theorem on_s (h : Stand w b n A s F) : Calls Tryz.prog 67 #[ptr b.p] w fun e w' => e = .returned (.bool A.on) ∧ w' = w := by
  obtain ⟨Fd, ⟨D, R, rfl, _⟩, _⟩ := h.disk
  exact On_any R
theorem block_s (h : Stand w b n A s F) : Calls Tryz.prog 9 #[ptr b.p] w fun e w' => e = .returned (.int .i64 (A.B : Int)) ∧ w' = w := by
  obtain ⟨Fd, ⟨D, R, rfl, _⟩, _⟩ := h.disk
  exact Block_any R
theorem counts_s (h : Stand w b n A s F) : Calls Tryz.prog 18 #[ptr b.p] w fun e w' => e = .returned A.c.val ∧ Touch [] w w' := by
  obtain ⟨Fd, ⟨D, R, rfl, _⟩, _⟩ := h.disk
  exact (Counts_any R).mono fun e w' ⟨e1, hb⟩ => ⟨e1, Touch.of_below hb (Nat.le_refl _)⟩

/-! ### the purse's calls -/
theorem Pu.St.Good.take {s : Pu.St} (h : s.Good) (k : Int) : (s.take k).Good := by
  unfold Pu.St.take
  split
  · next he =>
    unfold Pu.leaveE at he
    have h1 := h.hand
    have h2 := h.lent
    have h3 := h.out
    have h4 := h.limit
    split at he
    · omega
    · split at he
      · omega
      · split at he
        · omega
        · have h5 := h.peakLe
          exact ⟨by show 0 ≤ s.hand + k; omega, h2, by show s.hand + k + s.lent ≤ s.limit; omega, h4, h.parts, h.partsLe, by show s.hand + k + s.lent ≤ max s.peak (s.hand + k + s.lent); omega, by show max s.peak (s.hand + k + s.lent) ≤ s.limit; omega⟩
  · exact h
theorem Pu.St.Good.give {s : Pu.St} (h : s.Good) (k : Int) : (s.give k).Good := by
  unfold Pu.St.give
  split
  · next he =>
    unfold Pu.giveE at he
    have h1 := h.hand
    have h2 := h.lent
    have h3 := h.out
    have h4 := h.limit
    split at he
    · omega
    · split at he
      · omega
      · split at he
        · omega
        · have h5 := h.peakLe
          have h6 := h.peak
          exact ⟨by show 0 ≤ s.hand - k; omega, h2, by show s.hand - k + s.lent ≤ s.limit; omega, h4, h.parts, h.partsLe, by show s.hand - k + s.lent ≤ s.peak; omega, h5⟩
  · exact h
theorem Pu.take_lb (s : Pu.St) (k : Int) : (s.take k).lb = s.lb := by unfold Pu.St.take; split <;> rfl
theorem Pu.give_lb (s : Pu.St) (k : Int) : (s.give k).lb = s.lb := by unfold Pu.St.give; split <;> rfl

theorem Stand.pursed (h : Stand w b n A s F) (hp : Pu.PurseAt w' b.q s') (hl : Pu.LockAt w' s'.lb 0) (hg : s'.Good) (e : s'.lb = s.lb) (t : Touch [b.q, s.lb] w w') : Went w w' b n A s' F [] := by
  obtain ⟨Fd, hd, rfl, h1, h2⟩ := h.disk
  refine ⟨b.q :: s'.lb :: Fd, ⟨⟨Fd, hd.touch t (by intro x hx; simp at hx; rcases hx with rfl | rfl <;> assumption), rfl, h1, by rw [e]; exact h2⟩, h.env.touch t (by intro x hx; simp at hx; rcases hx with rfl | rfl; exact h.low.1; exact h.low.2), h.inv, hp, hl, hg, by rw [e]; exact h.ne, by rw [e]; exact h.low⟩, t.mono (by simp), fun x hx => .inl (by rw [e] at hx; exact hx)⟩

theorem take_s (h : Stand w b n A s F) (k : Int) : Calls Tryz.prog 113 #[ptr b.q, .int .i64 k] w fun e w' => e = .returned (.int .i64 (Pu.leaveE s k)) ∧ Went w w' b n A (s.take k) F [] :=
  (Pu.take_any h.pur h.lock h.ne h.good k).mono fun e w' ⟨e1, hp, hl, t⟩ => ⟨e1, h.pursed hp (by rw [Pu.take_lb]; exact hl) (h.good.take k) (Pu.take_lb s k) t⟩
theorem give_s (h : Stand w b n A s F) (k : Int) : Calls Tryz.prog 89 #[ptr b.q, .int .i64 k] w fun e w' => e = .returned (.int .i64 (Pu.giveE s k)) ∧ Went w w' b n A (s.give k) F [] :=
  (Pu.give_any h.pur h.lock h.ne h.good k).mono fun e w' ⟨e1, hp, hl, t⟩ => ⟨e1, h.pursed hp (by rw [Pu.give_lb]; exact hl) (h.good.give k) (Pu.give_lb s k) t⟩
theorem used_s (h : Stand w b n A s F) : Calls Tryz.prog 15 #[ptr b.q] w fun e w' => e = .returned (.int .i64 (s.hand + s.lent)) ∧ Went w w' b n A s F [] :=
  (Pu.used_any h.pur h.lock h.ne h.good).mono fun e w' ⟨e1, hp, hl, t⟩ => ⟨e1, h.pursed hp hl h.good rfl t⟩
theorem peak_s (h : Stand w b n A s F) : Calls Tryz.prog 19 #[ptr b.q] w fun e w' => e = .returned (.int .i64 s.peak) ∧ w' = w := Pu.peak_any h.pur
end
end Go.Proofs.YtclplbnildnifaaGreatDoor
/-
  Desk: what a call asks first (mayMake, mayRead, Ready).
-/
namespace Go.Proofs.YtclplbnildnifaaGreatDoor
open Go.RowKit Go.Deep
set_option linter.unusedSimpArgs false
set_option linter.unusedVariables false

/-- a list of texts that is handed in. -/
structure StrsAt (w : World) (sa : Option Addr) (l : List ByteArray) : Prop where
  at_ : ∀ k (hk : k < l.length), ∃ a, sa = some a ∧ a.block < w.heap.size ∧ w.cell? (a.add k) = some (.string l[k])

theorem add_block (a : Addr) (k : Nat) : (a.add k).block = a.block := by unfold Addr.add; split <;> rfl
theorem StrsAt.touch {w w' : World} {sa : Option Addr} {l : List ByteArray} {G : List Nat} (h : StrsAt w sa l) (t : Touch G w w') (hG : ∀ a, sa = some a → a.block ∉ G) : StrsAt w' sa l :=
  ⟨fun k hk => by
    obtain ⟨a, e, hb, hc⟩ := h.at_ k hk
    exact ⟨a, e, Nat.lt_of_lt_of_le hb t.size, (t.cell (p := a.add k) (by rw [add_block]; exact hb) (by rw [add_block]; exact hG a e)).trans hc⟩⟩
theorem StrsAt.nil (w : World) (sa : Option Addr) : StrsAt w sa [] := ⟨fun k hk => absurd hk (by simp)⟩

/-- a desk. -/
def DeskAt (w : World) (kb : Nat) (b : Bn) (K T : Int) : Prop := w.heap[kb]? = some (.cells #[ptr b.p, ptr b.q, .int .i64 K, .int .i64 T] 93 (0, 0))
theorem DeskAt.touch {w w' : World} {kb : Nat} {b : Bn} {K T : Int} {G : List Nat} (h : DeskAt w kb b K T) (t : Touch G w w') (hG : kb ∉ G) : DeskAt w' kb b K T := (t.block kb (lt_of_block h) hG).trans h

def makeOf (e : Int) : Int := if e = 0 then 13 else if e = 12 then 0 else e
def makeE (A : PubA) (x : ByteArray) : Int := makeOf (lengthB x A).2.2
def readOf (s : Bool) (e : Int) : Int := if e = 0 ∧ s = false then 15 else e
def readE (A : PubA) (x : ByteArray) : Int := readOf (lengthB x A).2.1 (lengthB x A).2.2
def readyOut (A : PubA) : List (List UInt8) → List ByteArray → Int
  | _, [] => 0
  | seen, x :: r => if makeE A x ≠ 0 then makeE A x else if nm x ∈ seen then 13 else readyOut A (seen ++ [nm x]) r
def readyIn (A : PubA) : List ByteArray → Int
  | [] => 0
  | x :: r => if readE A x ≠ 0 then readE A x else readyIn A r
def readyE (A : PubA) (i o : List ByteArray) : Int := if A.on = false then 10 else if readyOut A [] o ≠ 0 then readyOut A [] o else readyIn A i

section
variable {w w' : World} {b : Bn} {n : Nat} {A : PubA} {s : Pu.St} {F : List Nat} {kb : Nat} {K T : Int}

set_option maxHeartbeats 400000 in
theorem mayMake_any (S : Stand w b n A s F) (hn : n < 1099511627776) (hk : DeskAt w kb b K T) (x : ByteArray) :
    Calls Tryz.prog 180 #[ptr kb, .string x] w fun e w' => e = .returned (.int .i64 (makeE A x)) ∧ Touch [] w w' := by
  unfold makeE
  have H := hid (length_s S hn x)
  have c0 := cell_row hk 0
  simp at c0
  generalize (lengthB x A).1 = e1 at H
  generalize (lengthB x A).2.1 = e2 at H
  generalize (lengthB x A).2.2 = e3 at H ⊢
  clear S hk
  by_cases h0 : e3 = 0
  · subst h0
    have HR := hid (show makeOf 0 = 13 by rfl)
    go_enter Tryz.func180, Tryz.ntmps180
    go_wp2_with (go_at_call 87; refine H.out.mono ?_; rintro e w1 ⟨rfl, ht⟩)
    go_ret
    exact ⟨by rw [HR.out]; rfl, ht⟩
  · by_cases h12 : e3 = 12
    · subst h12
      have HR := hid (show makeOf 12 = 0 by rfl)
      go_enter Tryz.func180, Tryz.ntmps180
      go_wp2_with (go_at_call 87; refine H.out.mono ?_; rintro e w1 ⟨rfl, ht⟩)
      go_ret
      exact ⟨by rw [HR.out]; rfl, ht⟩
    · have HR := hid (show makeOf e3 = e3 by unfold makeOf; rw [if_neg h0, if_neg h12])
      go_enter Tryz.func180, Tryz.ntmps180
      go_wp2_with (go_at_call 87; refine H.out.mono ?_; rintro e w1 ⟨rfl, ht⟩)
      go_ret
      exact ⟨by rw [HR.out]; rfl, ht⟩

set_option maxHeartbeats 400000 in
theorem mayRead_any (S : Stand w b n A s F) (hn : n < 1099511627776) (hk : DeskAt w kb b K T) (x : ByteArray) :
    Calls Tryz.prog 181 #[ptr kb, .string x] w fun e w' => e = .returned (.int .i64 (readE A x)) ∧ Touch [] w w' := by
  unfold readE
  have H := hid (length_s S hn x)
  have c0 := cell_row hk 0
  simp at c0
  generalize (lengthB x A).1 = e1 at H
  generalize (lengthB x A).2.1 = e2 at H ⊢
  generalize (lengthB x A).2.2 = e3 at H ⊢
  clear S hk
  by_cases h0 : e3 = 0
  · subst h0
    cases e2 with
    | true =>
      have HR := hid (show readOf true 0 = 0 by rfl)
      go_enter Tryz.func181, Tryz.ntmps181
      go_wp2_with (go_at_call 87; refine H.out.mono ?_; rintro e w1 ⟨rfl, ht⟩)
      go_ret
      exact ⟨by rw [HR.out]; rfl, ht⟩
    | false =>
      have HR := hid (show readOf false 0 = 15 by rfl)
      go_enter Tryz.func181, Tryz.ntmps181
      go_wp2_with (go_at_call 87; refine H.out.mono ?_; rintro e w1 ⟨rfl, ht⟩)
      go_ret
      exact ⟨by rw [HR.out]; rfl, ht⟩
  · have HR := hid (show readOf e2 e3 = e3 by unfold readOf; rw [if_neg (fun h => h0 h.1)])
    go_enter Tryz.func181, Tryz.ntmps181
    go_wp2_with (go_at_call 87; refine H.out.mono ?_; rintro e w1 ⟨rfl, ht⟩)
    go_ret
    exact ⟨by rw [HR.out]; rfl, ht⟩

theorem readyOut_cons {seen : List (List UInt8)} {x : ByteArray} {r : List ByteArray} (h1 : makeE A x = 0) (h2 : nm x ∉ seen) : readyOut A seen (x :: r) = readyOut A (seen ++ [nm x]) r := by
  show (if makeE A x ≠ 0 then makeE A x else if nm x ∈ seen then 13 else readyOut A (seen ++ [nm x]) r) = _
  rw [if_neg (by simp [h1]), if_neg h2]
theorem readyOut_twice {seen : List (List UInt8)} {x : ByteArray} {r : List ByteArray} (h1 : makeE A x = 0) (h2 : nm x ∈ seen) : readyOut A seen (x :: r) = 13 := by
  show (if makeE A x ≠ 0 then makeE A x else if nm x ∈ seen then 13 else readyOut A (seen ++ [nm x]) r) = _
  rw [if_neg (by simp [h1]), if_pos h2]
theorem readyOut_bad {seen : List (List UInt8)} {x : ByteArray} {r : List ByteArray} (h1 : makeE A x ≠ 0) : readyOut A seen (x :: r) = makeE A x := by
  show (if makeE A x ≠ 0 then makeE A x else if nm x ∈ seen then 13 else readyOut A (seen ++ [nm x]) r) = _
  rw [if_pos h1]
theorem readyIn_cons {x : ByteArray} {r : List ByteArray} (h1 : readE A x = 0) : readyIn A (x :: r) = readyIn A r := by
  show (if readE A x ≠ 0 then readE A x else readyIn A r) = _
  rw [if_neg (by simp [h1])]
theorem readyIn_bad {x : ByteArray} {r : List ByteArray} (h1 : readE A x ≠ 0) : readyIn A (x :: r) = readE A x := by
  show (if readE A x ≠ 0 then readE A x else readyIn A r) = _
  rw [if_pos h1]
theorem makeE_name {x : ByteArray} (h : makeE A x = 0) (ho : A.on = true) : x.size ≤ 32 := by
  unfold makeE makeOf lengthB lengthA at h
  rw [if_pos ho] at h
  by_cases hn : nameB x = true
  · exact name_size hn
  · rw [if_neg hn] at h
    simp at h

/-- the set of the names that have been seen. -/
def SeenAt (w : World) (mb : Nat) (l : List (List UInt8)) : Prop := ∃ D : DataW Unit, w.ownsMap Tryz.prog 9 unitElem mb l.length D ∧ ∀ k : List UInt8, Maps.has D (.string k) = decide (k ∈ l)
theorem SeenAt.touch {mb : Nat} {l : List (List UInt8)} {G : List Nat} (h : SeenAt w mb l) (t : Touch G w w') (hG : mb ∉ G) : SeenAt w' mb l := by
  obtain ⟨D, h1, h2⟩ := h
  exact ⟨D, ownsMap_kept h1 (t.block mb h1.lt hG), h2⟩
theorem SeenAt.look {mb : Nat} {l : List (List UInt8)} (h : SeenAt w mb l) {x : ByteArray} (hx : x.size ≤ 32) :
    (Instr.lookup 234 (.map (some mb)) (.string x) true).run Tryz.prog w = .ok (.tuple #[.agg #[], .bool (decide (nm x ∈ l))]) w := by
  obtain ⟨D, h1, h2⟩ := h
  obtain ⟨v, ps, hrun, hv⟩ := h1.look_ok (t := 234) (e := 108) (z := .agg #[]) (zd := .agg []) (zp := []) (Maps.string_keyed Tryz.underlying9) Tryz.underlying234 (by kernel_rfl) (unitElem_mk) (WideMaps.keyOf_string_mk Tryz.underlying9 (s := x) (by unfold maxLen; omega))
  obtain ⟨rfl, _⟩ := unitElem_inv hv
  rw [hrun, h2]
theorem SeenAt.put {mb : Nat} {l : List (List UInt8)} (h : SeenAt w mb l) (hl : l.length ≤ 1099511627776) {x : ByteArray} (hx : x.size ≤ 32) :
    ∃ w2, (Instr.mapUpdate 234 (.map (some mb)) (.string x) (.agg #[])).run Tryz.prog w = .ok () w2 ∧ SeenAt w2 mb (l ++ [nm x]) ∧ Touch [mb] w w2 := by
  obtain ⟨D, h1, h2⟩ := h
  obtain ⟨w2, r1, r2, r3⟩ := h1.store (t := 234) (e := 108) (Maps.string_keyed Tryz.underlying9) Tryz.underlying234 (by unfold maxLen; omega) (WideMaps.keyOf_string_mk Tryz.underlying9 (s := x) (by unfold maxLen; omega)) (val := .agg #[]) (d := .agg []) (ps := []) unitElem_mk
  refine ⟨w2, r1, ⟨_, by rw [List.length_append]; exact r2, fun k => ?_⟩, (Touch.refl [mb] w).grown r3.grown (by simp)⟩
  by_cases hk : k = nm x
  · subst hk
    rw [Maps.has_put_same h1.isMap (by simp [WideAt.IsKeyLit])]
    simp
  · rw [Maps.has_put_other (by intro e; cases e; exact hk rfl), h2]
    simp [hk]
end
end Go.Proofs.YtclplbnildnifaaGreatDoor
/-
  Desk.Ready.
-/
namespace Go.Proofs.YtclplbnildnifaaGreatDoor
open Go.RowKit Go.Deep
set_option linter.unusedSimpArgs false
set_option linter.unusedVariables false

section
variable {w w' : World} {b : Bn} {n : Nat} {A : PubA} {s : Pu.St} {F : List Nat} {kb : Nat} {K T : Int}

theorem readyOut_at {seen : List (List UInt8)} {l : List ByteArray} {k : Nat} (hk : k < l.length) : l.drop k = l[k] :: l.drop (k + 1) := List.drop_eq_getElem_cons hk
theorem take_nm {l : List ByteArray} {k : Nat} (hk : k < l.length) : (l.take k).map nm ++ [nm l[k]] = (l.take (k + 1)).map nm := by
  rw [List.take_succ_eq_append_getElem hk, List.map_append]
  rfl

theorem run_makeMap_room (n : Nat) (w : World) : (Instr.makeMap 234 (some (.int .i64 (n : Int)))).run Tryz.prog w = .ok (.map (some w.heap.size)) (w.alloc (.map #[] 0)) := by
  simp [Instr.makeMap, run_underlying Tryz.underlying234, asInt, asIntOf]

set_option maxRecDepth 100000 in
set_option maxHeartbeats 1000000 in
theorem Ready_any (S : Stand w b n A s F) (hn : n < 1099511627776) (hk : DeskAt w kb b K T) {si so : Option Addr} {ci co : Nat} {li lo : List ByteArray} (hi : StrsAt w si li) (ho : StrsAt w so lo) (h1 : li.length ≤ 1099511627776) (h2 : lo.length ≤ 1099511627776) :
    Calls Tryz.prog 127 #[ptr kb, .slice si li.length ci, .slice so lo.length co] w fun e w' => e = .returned (.int .i64 (readyE A li lo)) ∧ Touch [] w w' := by
  have HO := hid (on_s S)
  have c0 := cell_row hk 0
  simp at c0
  have HM : Hid (∀ W, Touch [] w W → ∀ x : ByteArray, Calls Tryz.prog 180 #[ptr kb, .string x] W fun e w' => e = .returned (.int .i64 (makeE A x)) ∧ Touch [] W w') := fun W t x => mayMake_any (S.quiet t) hn (hk.touch t (by simp)) x
  have HR : Hid (∀ W, Touch [] w W → ∀ x : ByteArray, Calls Tryz.prog 181 #[ptr kb, .string x] W fun e w' => e = .returned (.int .i64 (readE A x)) ∧ Touch [] W w') := fun W t x => mayRead_any (S.quiet t) hn (hk.touch t (by simp)) x
  have HI := hid (fun W (t : Touch [] w W) => hi.touch t (by simp))
  have HU := hid (fun W (t : Touch [] w W) => ho.touch t (by simp))
  clear hi ho hk S
  cases hon : A.on with
  | false =>
    have HE := hid (show readyE A li lo = 10 by unfold readyE; rw [if_pos hon])
    rw [hon] at HO
    clear hon
    go_enter Tryz.func127, Tryz.ntmps127
    go_wp2_with (go_at_call 67; refine HO.out.mono ?_; rintro e w1 ⟨rfl, rfl⟩)
    go_ret
    exact ⟨by rw [HE.out]; rfl, Touch.refl _ _⟩
  | true =>
    have HE := hid (show readyE A li lo = if readyOut A [] lo ≠ 0 then readyOut A [] lo else readyIn A li by unfold readyE; rw [if_neg (by simp [hon])])
    have HON := hid hon
    rw [hon] at HO
    clear hon
    go_enter Tryz.func127, Tryz.ntmps127
    go_wp2_with (go_at_call 67; refine HO.out.mono ?_; rintro e w1 ⟨rfl, hw⟩; have hw := hw.symm; subst hw)
    rw [run_makeMap_room lo.length w]
    obtain ⟨mb, hmb⟩ : ∃ mb, mb = w.heap.size := ⟨_, rfl⟩
    have hm0 : SeenAt (w.alloc (.map #[] 0)) mb [] := ⟨.map [], by rw [hmb]; exact empty_map _ _ _ _ (heap_alloc_new w _), fun k => by simp [Maps.has]⟩
    have t0 : Touch [] w (w.alloc (.map #[] 0)) := (Touch.refl [] w).alloc _
    generalize w.alloc (.map #[] 0) = W0 at hm0 t0 ⊢
    rw [← hmb]
    have HB := hid hmb
    clear hmb
    have HM0 := hid hm0
    have HT0 := hid t0
    clear hm0 t0
    go_wp2_with fail
    go_loopw [27] (fun i W => ∃ k : Nat, k ≤ lo.length ∧ i = .int .i64 k ∧ readyOut A [] lo = readyOut A ((lo.take k).map nm) (lo.drop k) ∧ SeenAt W mb ((lo.take k).map nm) ∧ Touch [] w W) (fun i _ => lo.length - (intOf i).toNat)
    case atStart => exact ⟨0, Nat.zero_le _, rfl, rfl, HM0.out, HT0.out⟩
    case round =>
      obtain ⟨k, hk, rfl, heq, hs, ht⟩ := hrel
      by_cases hlt : k < lo.length
      · obtain ⟨a, rfl, hab, hc⟩ := (HU.out wr ht).at_ k hlt
        have hd := readyOut_at (l := lo) hlt (seen := [])
        by_cases hm : makeE A lo[k] = 0
        · have hsz := makeE_name hm HON.out
          have HL := hid (fun W (h : SeenAt W mb ((lo.take k).map nm)) => h.look hsz)
          have HP := hid (fun W (h : SeenAt W mb ((lo.take k).map nm)) => h.put (by simp; omega) hsz)
          have HMM := hid (HM.out wr ht lo[k])
          rw [hm] at HMM
          by_cases hin : nm lo[k] ∈ (lo.take k).map nm
          · have HQ := hid (show readyE A li lo = 13 by rw [HE.out, heq, hd, readyOut_twice hm hin, if_pos (by decide)])
            have HS := hid hs
            have HT := hid ht
            have HI := hid hin
            clear heq hs ht hd hab hm hin hsz
            go_wp2_with (go_at_call 180; refine HMM.out.mono ?_; rintro e w1 ⟨rfl, ht1⟩; have hl := HL.out w1 (HS.out.touch ht1 (by simp)); rw [decide_eq_true HI.out] at hl; have HT1 := hid ht1; clear ht1)
            go_ret
            exact ⟨by rw [HQ.out]; rfl, (HT.out.trans HT1.out (by simp)).alloc _⟩
          · have HQ := hid (show readyOut A [] lo = readyOut A ((lo.take (k + 1)).map nm) (lo.drop (k + 1)) by rw [heq, hd, readyOut_cons hm hin, take_nm hlt])
            have HS := hid hs
            have HT := hid ht
            have HI := hid hin
            have HK := hid (take_nm hlt)
            have HBB := hid (show mb < W0.heap.size by obtain ⟨D, hD, _⟩ := HM0.out; exact hD.lt)
            clear heq hs ht hd hab hm hin hsz
            go_wp2_with (go_at_call 180; refine HMM.out.mono ?_; rintro e w1 ⟨rfl, ht1⟩; have hs1 := HS.out.touch ht1 (by simp); have hl := HL.out w1 hs1; rw [decide_eq_false HI.out] at hl; obtain ⟨w2, hp, hs2, ht2⟩ := HP.out (w1.alloc (.cells #[] 108)) (hs1.touch ((Touch.refl [] w1).alloc _) (by simp)); have HT1 := hid ht1; have HS2 := hid hs2; have HT2 := hid ht2; clear ht1 hs1 hs2 ht2)
            refine ⟨⟨k + 1, hlt, rfl, HQ.out, by rw [← HK.out]; exact HS2.out, ?_⟩, by simp [intOf]; omega⟩
            have t1 : Touch [] w (w1.alloc (.cells #[] 108)) := (HT.out.trans HT1.out (by simp)).alloc _
            exact (t1.trans HT2.out (by intro y hy; right; simp at hy; rw [hy, HB.out]; exact Nat.le_refl _))
        · have HQ := hid (show readyE A li lo = makeE A lo[k] by rw [HE.out, heq, hd, readyOut_bad hm, if_pos hm])
          have HMM := hid (HM.out wr ht lo[k])
          generalize makeE A lo[k] = er at HMM HQ hm
          have HT := hid ht
          clear heq hs ht hd hab
          go_wp2_with (go_at_call 180; refine HMM.out.mono ?_; rintro e w1 ⟨rfl, ht1⟩)
          go_ret
          exact ⟨by rw [HQ.out]; rfl, HT.out.trans ht1 (by simp)⟩
      · obtain rfl : k = lo.length := by omega
        have HQ := hid (show readyE A li lo = readyIn A li by rw [HE.out, heq]; simp [readyOut])
        have HT := hid ht
        clear heq hs ht
        go_wp2_with fail
        go_loopw [50] (fun i W => ∃ k : Nat, k ≤ li.length ∧ i = .int .i64 k ∧ readyIn A li = readyIn A (li.drop k) ∧ Touch [] w W) (fun i _ => li.length - (intOf i).toNat)
        case atStart => exact ⟨0, Nat.zero_le _, rfl, rfl, HT.out⟩
        case round =>
          obtain ⟨k, hk, rfl, heq, ht⟩ := hrel
          by_cases hlt : k < li.length
          · obtain ⟨a, rfl, hab, hc⟩ := (HI.out _ ht).at_ k hlt
            have hd := readyOut_at (l := li) hlt (seen := [])
            have HMM := hid (HR.out _ ht li[k])
            by_cases hm : readE A li[k] = 0
            · have HQ2 := hid (show readyIn A li = readyIn A (li.drop (k + 1)) by rw [heq, hd, readyIn_cons hm])
              rw [hm] at HMM
              have HT2 := hid ht
              clear heq ht hd hab hm
              go_wp2_with (go_at_call 181; refine HMM.out.mono ?_; rintro e w1 ⟨rfl, ht1⟩)
              exact ⟨⟨k + 1, hlt, rfl, HQ2.out, HT2.out.trans ht1 (by simp)⟩, by simp [intOf]; omega⟩
            · have HQ2 := hid (show readyE A li lo = readE A li[k] by rw [HQ.out, heq, hd, readyIn_bad hm])
              generalize readE A li[k] = er at HMM HQ2 hm
              have HT2 := hid ht
              clear heq ht hd hab
              go_wp2_with (go_at_call 181; refine HMM.out.mono ?_; rintro e w1 ⟨rfl, ht1⟩)
              go_ret
              exact ⟨by rw [HQ2.out]; rfl, HT2.out.trans ht1 (by simp)⟩
          · obtain rfl : k = li.length := by omega
            have HQ2 := hid (show readyE A li lo = 0 by rw [HQ.out, heq]; simp [readyIn])
            have HT2 := hid ht
            clear heq ht
            go_wp2_with fail
            go_ret
            exact ⟨by rw [HQ2.out]; rfl, HT2.out⟩
end
end Go.Proofs.YtclplbnildnifaaGreatDoor
/-
  What a writer and a reader share: hold, release, refusal, tell.
-/
namespace Go.Proofs.YtclplbnildnifaaGreatDoor
open Go.RowKit Go.Deep
set_option linter.unusedSimpArgs false
set_option linter.unusedVariables false

def heldV (kb : Nat) (x : ByteArray) (kind : Int) : Value := .agg #[ptr kb, .string x, .int .i64 kind, .slice none 0 0, .int .i64 0, .bool false]
def held0 : Value := .agg #[.pointer none, .string { data := #[] }, .int .i64 0, .slice none 0 0, .int .i64 0, .bool false]
def holdE (A : PubA) (s : Pu.St) (K kind : Int) (li lo : List ByteArray) : Int := if kind < 1 ∨ kind > 5 then 1 else if readyE A li lo ≠ 0 then readyE A li lo else if Pu.leaveE s K ≠ 0 then 2 else 0

section
variable {w w' : World} {b : Bn} {n : Nat} {A : PubA} {s : Pu.St} {F : List Nat} {kb : Nat} {K T : Int}

theorem Pu.take_no {s : Pu.St} {k : Int} (h : Pu.leaveE s k ≠ 0) : s.take k = s := by unfold Pu.St.take; rw [if_neg h]

theorem box6 {w2 : World} {b : Nat} {t : TypeId} {u0 u1 u2 u3 u4 u5 : Value} (hr : w2.heap[b]? = some (.cells #[u0, u1, u2, u3, u4, u5] t (0, 0))) (v0 v1 v2 v3 v4 v5 : Value) :
    ∃ W2, W2 = (((((w2.setCell ⟨b, 0, none⟩ v0).setCell ⟨b, 1, none⟩ v1).setCell ⟨b, 2, none⟩ v2).setCell ⟨b, 3, none⟩ v3).setCell ⟨b, 4, none⟩ v4).setCell ⟨b, 5, none⟩ v5 ∧
      W2.heap[b]? = some (.cells #[v0, v1, v2, v3, v4, v5] t (0, 0)) ∧ Touch [b] w2 W2 := by
  refine ⟨_, rfl, ?_, ?_⟩
  · refine (heap_setCell_row (heap_setCell_row (heap_setCell_row (heap_setCell_row (heap_setCell_row (heap_setCell_row hr 0 _) 1 _) 2 _) 3 _) 4 _) 5 _).trans ?_
    simp
  · repeat' refine Touch.setCell ?_ (by simp) _
    exact Touch.refl _ _

theorem Went.box {W w2 W2 : World} {n0 m : Nat} {A0 A' : PubA} {s0 s' : Pu.St} {G B : List Nat} (S : Stand w b n0 A0 s0 F) (t1 : Touch [] w W) (h : Went W w2 b m A' s' F G) (t2 : Touch B w2 W2) (hB : ∀ y ∈ B, w.heap.size ≤ y ∧ y < W.heap.size) : Went w W2 b m A' s' F G := by
  obtain ⟨F', S', t', f'⟩ := h
  refine ⟨F', S'.touch t2 (fun y hy => ⟨fun hx => ?_, Nat.le_trans S.room (hB y hy).1⟩), ((t1.mono (by simp)).trans t' (fun y hy => .inl hy)).trans t2 (fun y hy => .inr (hB y hy).1), fun y hy => ?_⟩
  · have h1 := hB y hy
    rcases f' y hx with h | h
    · have := S.lt y h; omega
    · omega
  · rcases f' y hy with h | h
    · exact .inl h
    · exact .inr (Nat.le_trans t1.size h)


/-- .. and then its own blocks have been written. -/
theorem Went.own {w1 w2 : World} {m : Nat} {A' : PubA} {s' : Pu.St} {G G' B : List Nat} (h : Went w w1 b m A' s' F G) (t : Touch B w1 w2) (hB : ∀ y ∈ B, y ∈ G' ∧ y ∉ F ∧ y < w.heap.size ∧ b.lo ≤ y) (hG : ∀ y ∈ G, y ∈ G') : Went w w2 b m A' s' F G' := by
  obtain ⟨F', S', t', f'⟩ := h
  refine ⟨F', S'.touch t (fun y hy => ⟨fun hx => ?_, (hB y hy).2.2.2⟩), (t'.mono fun y hy => ?_).trans t (fun y hy => .inl (List.mem_append.2 (.inl (hB y hy).1))), f'⟩
  · rcases f' y hx with h | h
    · exact (hB y hy).2.1 h
    · have := (hB y hy).2.2.1; omega
  · rcases List.mem_append.1 hy with h | h
    · exact List.mem_append.2 (.inl (hG y h))
    · exact List.mem_append.2 (.inr h)


set_option maxRecDepth 100000 in
set_option maxHeartbeats 1000000 in
theorem hold_any (S : Stand w b n A s F) (hn : n < 1099511627776) (hk : DeskAt w kb b K T) (hkF : kb ∉ F) {si so : Option Addr} {ci co : Nat} {li lo : List ByteArray} (hi : StrsAt w si li) (ho : StrsAt w so lo) (h1 : li.length ≤ 1099511627776) (h2 : lo.length ≤ 1099511627776) (x : ByteArray) (kind : Int) :
    Calls Tryz.prog 77 #[ptr kb, .string x, .int .i64 kind, .slice si li.length ci, .slice so lo.length co] w fun e w' =>
      (holdE A s K kind li lo ≠ 0 ∧ e = .returned (.tuple #[held0, .int .i64 (holdE A s K kind li lo)]) ∧ Went w w' b n A s F []) ∨
      (holdE A s K kind li lo = 0 ∧ Pu.leaveE s K = 0 ∧ e = .returned (.tuple #[heldV kb x kind, .int .i64 0]) ∧ Went w w' b n A (s.take K) F []) := by
  have HY : Hid (∀ W, Touch [] w W → Calls Tryz.prog 127 #[ptr kb, .slice si li.length ci, .slice so lo.length co] W fun e w' => e = .returned (.int .i64 (readyE A li lo)) ∧ Touch [] W w') := fun W t => Ready_any (S.quiet t) hn (hk.touch t (by simp)) (hi.touch t (by simp)) (ho.touch t (by simp)) h1 h2
  have HT : Hid (∀ W, Touch [] w W → Calls Tryz.prog 113 #[ptr b.q, .int .i64 K] W fun e w' => e = .returned (.int .i64 (Pu.leaveE s K)) ∧ Went W w' b n A (s.take K) F []) := fun W t => take_s (S.quiet t) K
  have HK : Hid (∀ W, Touch [] w W → W.cell? ⟨kb, 1, none⟩ = some (ptr b.q) ∧ W.cell? ⟨kb, 2, none⟩ = some (.int .i64 K)) := fun W t => ⟨by rw [cell_row (hk.touch t (by simp)) 1]; rfl, by rw [cell_row (hk.touch t (by simp)) 2]; rfl⟩
  have HS := hid S
  have HKF := hid hkF
  have hkl := lt_of_block hk
  clear hi ho S hk hkF
  unfold holdE heldV
  by_cases hkind : kind < 1 ∨ kind > 5
  · rw [if_pos hkind]
    rcases hkind with hkind | hkind
    · go_enter Tryz.func77, Tryz.ntmps77
      go_wp2
      have hb := heap_alloc_new w (.cells #[.pointer none, .string { data := #[] }, .int .i64 0, .slice none 0 0, .int .i64 0, .bool false] 104)
      have q := fun i => cell_row hb i
      refine bodyPost_ret (v := .tuple #[held0, .int .i64 1]) (by simp [results, Tryz.results77, go_sem, q, held0]) rfl ?_
      exact .inl ⟨by decide, rfl, Went.quiet HS.out ((Touch.refl [] w).alloc _)⟩
    · have hk1 : ¬ kind < 1 := by omega
      go_enter Tryz.func77, Tryz.ntmps77
      go_wp2
      have hb := heap_alloc_new w (.cells #[.pointer none, .string { data := #[] }, .int .i64 0, .slice none 0 0, .int .i64 0, .bool false] 104)
      have q := fun i => cell_row hb i
      refine bodyPost_ret (v := .tuple #[held0, .int .i64 1]) (by simp [results, Tryz.results77, go_sem, q, held0]) rfl ?_
      exact ⟨rfl, Went.quiet HS.out ((Touch.refl [] w).alloc _)⟩
  · rw [if_neg hkind]
    have hk1 : ¬ kind < 1 := by omega
    have hk2 : ¬ kind > 5 := by omega
    by_cases hr : readyE A li lo = 0
    · rw [if_neg (by simp [hr])]
      rw [hr] at HY
      clear hr hkind
      go_enter Tryz.func77, Tryz.ntmps77
      go_wp2_with (go_at_call 127; refine (HY.out _ ((Touch.refl [] w).alloc _)).mono ?_; rintro e w1 ⟨rfl, ht⟩; have hb := (ht.block w.heap.size (by simp) (by simp)).trans (heap_alloc_new w (.cells #[.pointer none, .string { data := #[] }, .int .i64 0, .slice none 0 0, .int .i64 0, .bool false] 104)); have HTT := hid ((Touch.refl [] w).alloc (.cells #[.pointer none, .string { data := #[] }, .int .i64 0, .slice none 0 0, .int .i64 0, .bool false] 104) |>.trans ht (by simp)); have HB := hid hb; have hck := HK.out w1 HTT.out; clear ht hb)
      go_region_held3 (fun W => W.cell? ⟨kb, 1, none⟩ = some (ptr b.q) ∧ W.cell? ⟨kb, 2, none⟩ = some (.int .i64 K)) (go_keep)
        (first | (go_at_call 113; refine (HT.out _ HTT.out.drew).mono ?_; rintro e w2 ⟨rfl, hg⟩; have z2 : w2.cell? ⟨kb, 1, none⟩ = some (ptr b.q) ∧ w2.cell? ⟨kb, 2, none⟩ = some (.int .i64 K) := (by obtain ⟨_, _, t, _⟩ := hg; exact ⟨(t.cell (p := ⟨kb, 1, none⟩) (by have := HTT.out.size; show kb < w1.heap.size; omega) (by simp; exact HKF.out)).trans hck.1, (t.cell (p := ⟨kb, 2, none⟩) (by have := HTT.out.size; show kb < w1.heap.size; omega) (by simp; exact HKF.out)).trans hck.2⟩); have HG := hid hg; clear hg))
      have hb2 : w2.heap[w.heap.size]? = some (.cells #[.pointer none, .string { data := #[] }, .int .i64 0, .slice none 0 0, .int .i64 0, .bool false] 104 (0, 0)) := by
        obtain ⟨_, _, t, _⟩ := HG.out
        refine (t.block _ (lt_of_block HB.out) ?_).trans HB.out
        intro hx
        have := HS.out.lt _ (by simpa using hx)
        omega
      have HB2 := hid hb2
      have hl1 := lt_of_block HB.out
      have HN : Hid (∀ W2, Touch [w.heap.size] w2 W2 → Went w W2 b n A (s.take K) F []) := fun W2 t => Went.box HS.out HTT.out.drew HG.out t (by intro y hy; simp at hy; subst hy; exact ⟨Nat.le_refl _, hl1⟩)
      clear hb2
      by_cases hl : Pu.leaveE s K = 0
      · have c := fun i => cell_row HB2.out i
        have f := fun i => unfrozen_row HB2.out i
        rw [hl]
        go_wp2
        obtain ⟨W2, hW2, q2, t2⟩ := box6 HB2.out (ptr kb) (.string x) (.int .i64 kind) (.slice none 0 0) (.int .i64 0) (.bool false)
        rw [← hW2]
        clear c f hW2
        have q := fun i => cell_row q2 i
        refine bodyPost_ret (v := .tuple #[heldV kb x kind, .int .i64 0]) (by simp [results, Tryz.results77, go_sem, q, heldV]) rfl ⟨rfl, HN.out _ t2⟩
      · have c := fun i => cell_row HB2.out i
        have f := fun i => unfrozen_row HB2.out i
        go_wp2
        obtain ⟨W2, hW2, q2, t2⟩ := box6 HB2.out (.pointer none) (.string { data := #[] }) (.int .i64 0) (.slice none 0 0) (.int .i64 0) (.bool false)
        rw [← hW2]
        clear c f hW2
        have q := fun i => cell_row q2 i
        have hw := HN.out _ t2
        rw [Pu.take_no hl] at hw
        refine bodyPost_ret (v := .tuple #[held0, .int .i64 2]) (by simp [results, Tryz.results77, go_sem, q, held0]) rfl ⟨rfl, hw⟩
    · rw [if_pos hr]
      generalize readyE A li lo = er at HY hr
      clear hkind
      go_enter Tryz.func77, Tryz.ntmps77
      go_wp2_with (go_at_call 127; refine (HY.out _ ((Touch.refl [] w).alloc _)).mono ?_; rintro e w1 ⟨rfl, ht⟩; have hb := (ht.block w.heap.size (by simp) (by simp)).trans (heap_alloc_new w (.cells #[.pointer none, .string { data := #[] }, .int .i64 0, .slice none 0 0, .int .i64 0, .bool false] 104)); have HTT := hid ((Touch.refl [] w).alloc (.cells #[.pointer none, .string { data := #[] }, .int .i64 0, .slice none 0 0, .int .i64 0, .bool false] 104) |>.trans ht (by simp)); have c := fun i => cell_row hb i; have f := fun i => unfrozen_row hb i; have HB := hid hb; clear ht hb)
      obtain ⟨W2, hW2, q2, t2⟩ := box6 HB.out (.pointer none) (.string { data := #[] }) (.int .i64 0) (.slice none 0 0) (.int .i64 0) (.bool false)
      rw [← hW2]
      clear c f hW2
      have q := fun i => cell_row q2 i
      refine bodyPost_ret (v := .tuple #[held0, .int .i64 er]) (by simp [results, Tryz.results77, go_sem, q, held0]) rfl (.inl ⟨hr, rfl, Went.quiet HS.out ?_⟩)
      exact HTT.out.trans t2 (by simp)

/-! ### an object whose first six cells are what is held -/
/-- cells 0 to 5 of the block hb. -/
structure HeldAt (w : World) (hb kb : Nat) (x : ByteArray) (kind : Int) (lv : Value) (dead : Int) (cl : Bool) : Prop where
  row : ∃ c t, w.heap[hb]? = some (.cells c t (0, 0)) ∧ c[0]? = some (ptr kb) ∧ c[1]? = some (.string x) ∧ c[2]? = some (.int .i64 kind) ∧ c[3]? = some lv ∧ c[4]? = some (.int .i64 dead) ∧ c[5]? = some (.bool cl)

variable {hb : Nat} {x : ByteArray} {kind dead : Int} {lv : Value} {cl : Bool}
theorem HeldAt.cells (h : HeldAt w hb kb x kind lv dead cl) : w.cell? ⟨hb, 0, none⟩ = some (ptr kb) ∧ w.cell? ⟨hb, 1, none⟩ = some (.string x) ∧ w.cell? ⟨hb, 2, none⟩ = some (.int .i64 kind) ∧ w.cell? ⟨hb, 3, none⟩ = some lv ∧ w.cell? ⟨hb, 4, none⟩ = some (.int .i64 dead) ∧ w.cell? ⟨hb, 5, none⟩ = some (.bool cl) := by
  obtain ⟨c, t, h0, h1, h2, h3, h4, h5, h6⟩ := h.row
  exact ⟨(cell_row h0 0).trans h1, (cell_row h0 1).trans h2, (cell_row h0 2).trans h3, (cell_row h0 3).trans h4, (cell_row h0 4).trans h5, (cell_row h0 5).trans h6⟩
theorem HeldAt.unfrozen (h : HeldAt w hb kb x kind lv dead cl) (i : Nat) : w.frozen? ⟨hb, i, none⟩ = false := by
  obtain ⟨c, t, h0, _⟩ := h.row
  exact unfrozen_row h0 i
theorem HeldAt.lt (h : HeldAt w hb kb x kind lv dead cl) : hb < w.heap.size := by
  obtain ⟨c, t, h0, _⟩ := h.row
  exact lt_of_block h0

set_option maxRecDepth 100000 in
theorem refusal_any (h : HeldAt w hb kb x kind lv dead cl) : Calls Tryz.prog 79 #[ptr hb] w fun e w' => e = .returned (.int .i64 (if cl = true then 6 else dead)) ∧ w' = w := by
  obtain ⟨_, _, _, _, c4, c5⟩ := h.cells
  clear h
  cases cl with
  | true =>
    go_enter Tryz.func79, Tryz.ntmps79
    go_wp2
    go_ret
    exact ⟨rfl, rfl⟩
  | false =>
    go_enter Tryz.func79, Tryz.ntmps79
    go_wp2
    go_ret
    exact ⟨rfl, rfl⟩



end
end Go.Proofs.YtclplbnildnifaaGreatDoor
/-
  held.release, called and deferred.
-/
namespace Go.Proofs.YtclplbnildnifaaGreatDoor
open Go.RowKit Go.Deep
set_option linter.unusedSimpArgs false
set_option linter.unusedVariables false

section
variable {w w' : World} {b : Bn} {n : Nat} {A : PubA} {s : Pu.St} {F : List Nat} {kb hb : Nat} {K T : Int} {x : ByteArray} {kind dead : Int} {lv : Value} {cl : Bool}

/-- behind a release: the row hb, and all else. -/
def Freed (w w' : World) (b : Bn) (n : Nat) (A : PubA) (s : Pu.St) (F : List Nat) (hb : Nat) (K : Int) : Prop :=
  (∀ c t, w.heap[hb]? = some (.cells c t (0, 0)) → w'.heap[hb]? = some (.cells ((c.setIfInBounds 5 (.bool true)).setIfInBounds 3 (.slice none 0 0)) t (0, 0))) ∧ Went w w' b n A (s.give K) F [hb]

theorem freed_of {w1 : World} (S : Stand w b n A s F) (h : HeldAt w hb kb x kind lv dead cl) (hF : hb ∉ F) (e : w1 = (w.setCell ⟨hb, 5, none⟩ (.bool true)).setCell ⟨hb, 3, none⟩ (.slice none 0 0)) (g : Went w1 w' b n A (s.give K) F []) : Freed w w' b n A s F hb K := by
  have t1 : Touch [hb] w w1 := by rw [e]; exact ((Touch.refl [hb] w).setCell (by simp) _).setCell (by simp) _
  obtain ⟨F', S', t, f⟩ := g
  refine ⟨fun c t0 h0 => ?_, F', S', (t1.mono (by simp)).trans t (fun y hy => .inl (by simp at hy ⊢; exact .inr hy)), fun y hy => ?_⟩
  · have r1 : w1.heap[hb]? = some (.cells ((c.setIfInBounds 5 (.bool true)).setIfInBounds 3 (.slice none 0 0)) t0 (0, 0)) := by rw [e]; exact heap_setCell_row (heap_setCell_row h0 5 _) 3 _
    exact (t.block hb (lt_of_block r1) (by simpa using hF)).trans r1
  · rcases f y hy with h | h
    · exact .inl h
    · exact .inr (Nat.le_trans t1.size h)


set_option maxRecDepth 100000 in
set_option maxHeartbeats 1000000 in
theorem release_any (S : Stand w b n A s F) (hk : DeskAt w kb b K T) (hkF : kb ∉ F) (h : HeldAt w hb kb x kind lv dead cl) (hF : hb ∉ F) (hlo : b.lo ≤ hb) (hne : hb ≠ kb) : Calls Tryz.prog 43 #[ptr hb] w fun e w' => e = .returned (.tuple #[]) ∧ Freed w w' b n A s F hb K := by
  obtain ⟨c0, _, _, c3, _, c5⟩ := h.cells
  have f5 := h.unfrozen 5
  have f3 := h.unfrozen 3
  have k1 := cell_row hk 1
  have k2 := cell_row hk 2
  simp at k1 k2
  obtain ⟨W1, hW1⟩ : ∃ W1, W1 = (w.setCell ⟨hb, 5, none⟩ (.bool true)).setCell ⟨hb, 3, none⟩ (.slice none 0 0) := ⟨_, rfl⟩
  have t1 : Touch [hb] w W1 := by rw [hW1]; exact ((Touch.refl [hb] w).setCell (by simp) _).setCell (by simp) _
  have S1 : Stand W1 b n A s F := S.touch t1 (fun y hy => by simp at hy; subst hy; exact ⟨hF, hlo⟩)
  have d0 : W1.cell? ⟨hb, 0, none⟩ = some (ptr kb) := by
    obtain ⟨c, t, h0, h1, _⟩ := h.row
    have r1 : W1.heap[hb]? = some (.cells ((c.setIfInBounds 5 (.bool true)).setIfInBounds 3 (.slice none 0 0)) t (0, 0)) := by rw [hW1]; exact heap_setCell_row (heap_setCell_row h0 5 _) 3 _
    rw [cell_row r1 0]
    simpa using h1
  have d1 : W1.cell? ⟨kb, 1, none⟩ = some (ptr b.q) := (t1.cell (p := ⟨kb, 1, none⟩) (lt_of_block hk) (by simp; exact fun e => hne e.symm)).trans k1
  have d2 : W1.cell? ⟨kb, 2, none⟩ = some (.int .i64 K) := (t1.cell (p := ⟨kb, 2, none⟩) (lt_of_block hk) (by simp; exact fun e => hne e.symm)).trans k2
  have lk1 : kb < W1.heap.size := Nat.lt_of_lt_of_le (lt_of_block hk) t1.size
  have lh1 : hb < W1.heap.size := Nat.lt_of_lt_of_le h.lt t1.size
  have HG := hid (fun n => give_s (S1.quiet ((Touch.refl [] W1).drewN n)) K)
  have HF := hid (fun w' g => freed_of (w' := w') (K := K) S h hF hW1 g)
  have HE := hid hW1
  have HKF := hid hkF
  have HHF := hid hF
  clear S hk hkF h hF hlo S1 t1 hW1 k1 k2
  go_enter Tryz.func43, Tryz.ntmps43
  go_wp2_with fail
  rw [← HE.out]
  clear c0 c3 c5 f5 f3
  go_region_held3 (fun W => W.cell? ⟨hb, 0, none⟩ = some (ptr kb) ∧ W.cell? ⟨kb, 1, none⟩ = some (ptr b.q) ∧ W.cell? ⟨kb, 2, none⟩ = some (.int .i64 K)) (go_keep)
    (first | (go_at_call 89; refine (HG.out 1).mono ?_; rintro e w2 ⟨rfl, hg⟩; have z2 : w2.cell? ⟨hb, 0, none⟩ = some (ptr kb) ∧ w2.cell? ⟨kb, 1, none⟩ = some (ptr b.q) ∧ w2.cell? ⟨kb, 2, none⟩ = some (.int .i64 K) := (by obtain ⟨_, _, t, _⟩ := hg; exact ⟨(t.cell (p := ⟨hb, 0, none⟩) lh1 (by simp; exact HHF.out)).trans d0, (t.cell (p := ⟨kb, 1, none⟩) lk1 (by simp; exact HKF.out)).trans d1, (t.cell (p := ⟨kb, 2, none⟩) lk1 (by simp; exact HKF.out)).trans d2⟩); have HGG := hid hg; clear hg))
  go_end0
  exact ⟨rfl, HF.out _ (HGG.out.pre ((Touch.refl [] W1).drewN 1) (by simp))⟩

set_option maxRecDepth 100000 in
set_option maxHeartbeats 1000000 in
theorem release_d (S : Stand w b n A s F) (hk : DeskAt w kb b K T) (hkF : kb ∉ F) (h : HeldAt w hb kb x kind lv dead cl) (hF : hb ∉ F) (hlo : b.lo ≤ hb) (hne : hb ≠ kb) (u : FrameMode) : CallsD Tryz.prog 43 #[ptr hb] u w fun e u' w' => u' = u ∧ (e = .returned (.tuple #[]) ∧ Freed w w' b n A s F hb K) := by
  obtain ⟨c0, _, _, c3, _, c5⟩ := h.cells
  have f5 := h.unfrozen 5
  have f3 := h.unfrozen 3
  have k1 := cell_row hk 1
  have k2 := cell_row hk 2
  simp at k1 k2
  obtain ⟨W1, hW1⟩ : ∃ W1, W1 = (w.setCell ⟨hb, 5, none⟩ (.bool true)).setCell ⟨hb, 3, none⟩ (.slice none 0 0) := ⟨_, rfl⟩
  have t1 : Touch [hb] w W1 := by rw [hW1]; exact ((Touch.refl [hb] w).setCell (by simp) _).setCell (by simp) _
  have S1 : Stand W1 b n A s F := S.touch t1 (fun y hy => by simp at hy; subst hy; exact ⟨hF, hlo⟩)
  have d0 : W1.cell? ⟨hb, 0, none⟩ = some (ptr kb) := by
    obtain ⟨c, t, h0, h1, _⟩ := h.row
    have r1 : W1.heap[hb]? = some (.cells ((c.setIfInBounds 5 (.bool true)).setIfInBounds 3 (.slice none 0 0)) t (0, 0)) := by rw [hW1]; exact heap_setCell_row (heap_setCell_row h0 5 _) 3 _
    rw [cell_row r1 0]
    simpa using h1
  have d1 : W1.cell? ⟨kb, 1, none⟩ = some (ptr b.q) := (t1.cell (p := ⟨kb, 1, none⟩) (lt_of_block hk) (by simp; exact fun e => hne e.symm)).trans k1
  have d2 : W1.cell? ⟨kb, 2, none⟩ = some (.int .i64 K) := (t1.cell (p := ⟨kb, 2, none⟩) (lt_of_block hk) (by simp; exact fun e => hne e.symm)).trans k2
  have lk1 : kb < W1.heap.size := Nat.lt_of_lt_of_le (lt_of_block hk) t1.size
  have lh1 : hb < W1.heap.size := Nat.lt_of_lt_of_le h.lt t1.size
  have HG := hid (fun n => give_s (S1.quiet ((Touch.refl [] W1).drewN n)) K)
  have HF := hid (fun w' g => freed_of (w' := w') (K := K) S h hF hW1 g)
  have HE := hid hW1
  have HKF := hid hkF
  have HHF := hid hF
  clear S hk hkF h hF hlo S1 t1 hW1 k1 k2
  go_enter_d Tryz.func43, Tryz.ntmps43
  go_wp2_with fail
  rw [← HE.out]
  clear c0 c3 c5 f5 f3
  go_region_held3 (fun W => W.cell? ⟨hb, 0, none⟩ = some (ptr kb) ∧ W.cell? ⟨kb, 1, none⟩ = some (ptr b.q) ∧ W.cell? ⟨kb, 2, none⟩ = some (.int .i64 K)) (go_keep)
    (first | (go_at_call 89; refine (HG.out 1).mono ?_; rintro e w2 ⟨rfl, hg⟩; have z2 : w2.cell? ⟨hb, 0, none⟩ = some (ptr kb) ∧ w2.cell? ⟨kb, 1, none⟩ = some (ptr b.q) ∧ w2.cell? ⟨kb, 2, none⟩ = some (.int .i64 K) := (by obtain ⟨_, _, t, _⟩ := hg; exact ⟨(t.cell (p := ⟨hb, 0, none⟩) lh1 (by simp; exact HHF.out)).trans d0, (t.cell (p := ⟨kb, 1, none⟩) lk1 (by simp; exact HKF.out)).trans d1, (t.cell (p := ⟨kb, 2, none⟩) lk1 (by simp; exact HKF.out)).trans d2⟩); have HGG := hid hg; clear hg))
  go_end0
  exact ⟨rfl, HF.out _ (HGG.out.pre ((Touch.refl [] W1).drewN 1) (by simp))⟩
end
end Go.Proofs.YtclplbnildnifaaGreatDoor
/-
  Desk.Write.
-/
namespace Go.Proofs.YtclplbnildnifaaGreatDoor
open Go.RowKit Go.Deep
set_option linter.unusedSimpArgs false
set_option linter.unusedVariables false

/-- as 'Went'; N: new blocks that are none of the bench's. -/
def WentN (w w' : World) (b : Bn) (n : Nat) (A : PubA) (s : Pu.St) (F G N : List Nat) : Prop :=
  ∃ F', Stand w' b n A s F' ∧ Touch (G ++ F) w w' ∧ (∀ x ∈ F', x ∈ F ∨ w.heap.size ≤ x) ∧ ∀ y ∈ N, y ∉ F' ∧ w.heap.size ≤ y ∧ y < w'.heap.size

/-- a writer that is open: its records ws lie in the row g. -/
structure WrAt (w : World) (wb kb : Nat) (x : ByteArray) (kind : Int) (ws : List Nat) (dead : Int) (blocks count : Int) (g K : Nat) : Prop where
  row : w.heap[wb]? = some (.cells #[ptr kb, .string x, .int .i64 kind, .slice (some ⟨g, 0, none⟩) (ws.length / 4) K, .int .i64 dead, .bool false, .int .i64 blocks, .int .i64 count] 152 (0, 0))
  list : ∃ rest, Rx.WRow w g (ws ++ rest) ∧ (ws ++ rest).length = 4 * K
  few : ws.length % 4 = 0 ∧ ws.length < 4 * K
  small : ∀ y ∈ ws, y < 18446744073709551616

section
variable {w w' : World} {b : Bn} {n : Nat} {A : PubA} {s : Pu.St} {F : List Nat} {kb : Nat} {K : Nat} {T : Int}

theorem run_make_list (k : Nat) (hk : k ≤ 65536) (w : World) : (Instr.makeSlice 22 (.int .i64 0) (.int .i64 (k : Int))).run Tryz.prog w = .ok (.slice (some ⟨w.heap.size, 0, none⟩) 0 k) (w.alloc (.cells (Rx.wc (PureCrc.zeros (4 * k))) 38)) := by
  have hi := Rx.Tryz.info38
  cases h : Tryz.prog.info? 38 with
  | none => rw [h] at hi; simp at hi
  | some i =>
    rw [h] at hi
    simp only [Option.map_some, Option.some.injEq, Prod.mk.injEq] at hi
    obtain ⟨hz, hs, hb⟩ := hi
    have := run_make (P := Tryz.prog) w 22 38 i _ Tryz.underlying22 h hz .i64 .i64 0 k (by omega) (by omega) (by rw [hb]; omega) (by omega)
    rw [hs, Int.toNat_natCast, Rx.made_recs] at this
    exact this


set_option maxRecDepth 100000 in
set_option maxHeartbeats 1000000 in
theorem Write_ok (S : Stand w b n A s F) (hn : n < 1099511627776) (hk : DeskAt w kb b K T) (hkF : kb ∉ F) (hK : 1 ≤ K ∧ K ≤ 2047) (x : ByteArray) (kind : Int) (he : holdE A s K kind [] [x] = 0) (hc : (createB x (b.tr A) A).1 = 0) :
    Calls Tryz.prog 35 #[ptr kb, .string x, .int .i64 kind] w fun e w' => ∃ wb g, e = .returned (.tuple #[ptr wb, .int .i64 0]) ∧ WentN w w' b (n + 1) (createB x (b.tr A) A).2 (s.take K) F [] [wb, g] ∧ wb ≠ g ∧ WrAt w' wb kb x kind [] 0 0 0 g K := by
  obtain ⟨W0, hW0⟩ : ∃ W0, W0 = w.alloc (.cells #[.string x] 9) := ⟨_, rfl⟩
  have t0 : Touch [] w W0 := by rw [hW0]; exact (Touch.refl [] w).alloc _
  have hs : StrsAt W0 (some ⟨w.heap.size, 0, none⟩) [x] := ⟨fun k hk => by
    have : k = 0 := by simpa using hk
    subst this
    refine ⟨_, rfl, by rw [hW0]; simp, ?_⟩
    rw [hW0]
    exact cell_row (heap_alloc_new w (.cells #[.string x] 9)) 0⟩
  have H := hid (hold_any (S.quiet t0) hn (hk.touch t0 (by simp)) hkF (StrsAt.nil W0 none) hs (by simp) (by simp) (ci := 0) (co := 1) x kind)
  rw [he] at H
  unfold held0 heldV at H
  have HC : Hid (∀ W F1, Stand W b n A (s.take K) F1 → Calls Tryz.prog 78 #[ptr b.p, .string x] W fun e w' => e = .returned (.int .i64 0) ∧ Went W w' b (n + 1) (createB x (b.tr A) A).2 (s.take K) F1 []) := fun W F1 S1 => by
    have := create_s S1 hn x
    rw [hc] at this
    exact this
  have HK : Hid (∀ W, Touch F w W → W.cell? ⟨kb, 0, none⟩ = some (ptr b.p) ∧ W.cell? ⟨kb, 2, none⟩ = some (.int .i64 K)) := fun W t => ⟨by rw [cell_row (hk.touch t hkF) 0]; rfl, by rw [cell_row (hk.touch t hkF) 2]; rfl⟩
  generalize (createB x (b.tr A) A).2 = A1 at HC ⊢
  have HT := hid t0
  have HE := hid hW0
  have HS := hid S
  have HKK := hid hK
  have HKL := hid (lt_of_block hk)
  clear S hk t0 hs hW0 hc he hK
  go_enter Tryz.func35, Tryz.ntmps35
  go_wp2_with fail
  rw [← HE.out]
  go_wp2_with (first
    | (go_at_call 77; refine H.out.mono ?_; rintro e w1 (⟨h0, _⟩ | ⟨_, _, rfl, hg⟩); exact absurd rfl h0; obtain ⟨F1, S1, g1, f1⟩ := hg; have tF := (HT.out.mono (F := []) (G := F) (by simp)).trans g1 (fun y hy => .inl (by simpa using hy)); have hck := (fun o : Obj => HK.out (w1.alloc o) (tF.alloc o)); have hc0 := (fun o : Obj => (hck o).1); have HS1 := hid S1; have HG1 := hid g1; have HF1 := hid f1; have HTF := hid tF; clear S1 g1 f1 tF hck)
    | (go_at_call 78; refine (HC.out _ F1 (HS1.out.quiet ((Touch.refl [] w1).alloc _))).mono ?_; rintro e w3 ⟨rfl, hg3⟩; obtain ⟨F3, S3, g3, f3⟩ := hg3; have hl0 : w1.heap.size ∉ F1 := (fun hx => Nat.lt_irrefl _ (HS1.out.lt _ hx)); have hb3 := (g3.block w1.heap.size (by simp) (by simpa using hl0)).trans (heap_alloc_new w1 _); have HB3 := hid hb3; have c3 := (fun i => cell_row hb3 i); have u3 := (fun i => unfrozen_row hb3 i); have HS3 := hid S3; have HG3 := hid g3; have HF3 := hid f3; have tF3 : Touch F w w3 := (HTF.out.alloc _).trans g3 (fun y hy => by rcases HF1.out y (by simpa using hy) with h | h; exact .inl h; exact .inr (Nat.le_trans HT.out.size h)); have HT3 := hid tF3; have k2 := (HK.out w3 tF3).2; have hmk := run_make_list K (by have := HKK.out; omega) w3; have l3 := lt_of_block hb3; have lk3 := Nat.lt_of_lt_of_le HKL.out tF3.size; clear S3 g3 f3 hb3 hl0 tF3))
  go_ret2
  have hb1 : w1.heap.size ∉ F3 := fun hx => by
    rcases HF3.out _ hx with h | h
    · exact Nat.lt_irrefl _ (HS1.out.lt _ h)
    · rw [World.size_alloc] at h; omega
  have hlo : b.lo ≤ w1.heap.size := HS1.out.room
  have hz : (w3.setCell ⟨w1.heap.size, 3, none⟩ (.slice (some ⟨w3.heap.size, 0, none⟩) 0 K)).heap.size = w3.heap.size := by simp [World.setCell]
  have t4 : Touch [w1.heap.size] w3 (((w3.setCell ⟨w1.heap.size, 3, none⟩ (.slice (some ⟨w3.heap.size, 0, none⟩) 0 K)).alloc (.cells (Rx.wc (PureCrc.zeros (4 * K))) 38)).alloc (.cells #[ptr kb, .string x, .int .i64 kind, .slice (some ⟨w3.heap.size, 0, none⟩) 0 K, .int .i64 0, .bool false, .int .i64 0, .int .i64 0] 152)) :=
    ((((Touch.refl [w1.heap.size] w3).setCell (by simp) _).alloc _).alloc _)
  have hw1 := HTF.out.size
  have e2 := heap_two (w3.setCell ⟨w1.heap.size, 3, none⟩ (.slice (some ⟨w3.heap.size, 0, none⟩) 0 K)) (.cells (Rx.wc (PureCrc.zeros (4 * K))) 38) (.cells #[ptr kb, .string x, .int .i64 kind, .slice (some ⟨w3.heap.size, 0, none⟩) 0 K, .int .i64 0, .bool false, .int .i64 0, .int .i64 0] 152)
  rw [hz] at e2
  refine ⟨w3.heap.size + 1, w3.heap.size, rfl, ⟨F3, HS3.out.touch t4 (fun y hy => by simp at hy; subst hy; exact ⟨hb1, hlo⟩), (HT3.out.trans t4 (fun y hy => .inr (by simp at hy; omega))).mono (by simp), fun y hy => ?_, fun y hy => ?_⟩, by omega, ⟨e2.2, ⟨PureCrc.zeros (4 * K), e2.1, by simp [PureCrc.zeros]⟩, ⟨rfl, by have := HKK.out; simp; omega⟩, by simp⟩⟩
  · rcases HF3.out y hy with h | h
    · rcases HF1.out y h with h | h
      · exact .inl h
      · exact .inr (Nat.le_trans HT.out.size h)
    · exact .inr (by rw [World.size_alloc] at h; omega)
  · have hlt : ∀ z ∈ F3, z < w3.heap.size := HS3.out.lt
    simp only [List.mem_cons, List.not_mem_nil, or_false] at hy
    have h3 := HT3.out.size
    refine ⟨fun hx => ?_, ?_, ?_⟩
    · have := hlt y hx
      rcases hy with rfl | rfl <;> omega
    · rcases hy with rfl | rfl <;> omega
    · simp [World.setCell]
      rcases hy with rfl | rfl <;> omega
end
end Go.Proofs.YtclplbnildnifaaGreatDoor
