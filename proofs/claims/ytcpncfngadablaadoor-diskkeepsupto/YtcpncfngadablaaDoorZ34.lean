import Derived.Test.YtcpncfngadablaaDoorZ33
import Derived.Test.YtcpncfngadablaaDoorZ28
namespace Go.Proofs.YtcpncfngadablaaDoor
open Go.RowKit Go.Deep

section
variable {t : Nat} {A C A' : PubA} {o : OpA} {r : Int}

theorem Small.off (h : Small A) : Small { A with on := false } := ⟨h.calls, h.reads, h.appends, h.full, h.used, h.files, h.blocks, h.size⟩

theorem set_mem {k : List UInt8} {f : FileA} {l : List (List UInt8 × FileA)} {e : List UInt8 × FileA} (h : e ∈ setA k f l) : e ∈ l ∨ e.2 = f := by
  unfold setA at h
  obtain ⟨x, hx, rfl⟩ := List.mem_map.1 h
  split
  · exact .inr rfl
  · exact .inl hx

theorem Akin.small (h : Akin t A C) (ht : t + 1 ≤ 1099511627776) (hk : changesB o.kind = true) (hp : A.files.Pairwise fun a b => a.1 ≠ b.1) (ho : Out A (stepT o A) (partT o A) r A') : Small A' := by
  have hi := h.a.more.small ht
  have hc := h.a.calls
  have h2 := h.a.step hp o
  rw [(stepT_A hk A).2] at h2
  rcases ho with ⟨_, rfl⟩ | ⟨h0, ⟨_, rfl⟩ | ⟨_, rfl | hc'⟩⟩
  · exact h2.small ht
  · exact ⟨by show 0 ≤ A.c.calls + 1 ∧ A.c.calls + 1 ≤ _; omega, hi.reads, hi.appends, hi.full, hi.used, hi.files, hi.blocks, hi.size⟩
  · exact ⟨by show 0 ≤ A.c.calls + 1 ∧ A.c.calls + 1 ≤ _; omega, hi.reads, hi.appends, hi.full, hi.used, hi.files, hi.blocks, hi.size⟩
  · unfold partT at hc'
    split at hc'
    · obtain ⟨f, m, hf, rfl⟩ := hc'
      have hu := h.a.used
      have htl := h.a.total
      refine ⟨by show 0 ≤ A.c.calls + 1 ∧ A.c.calls + 1 ≤ _; omega, hi.reads, hi.appends, hi.full, by show 0 ≤ A.c.used + 1 ∧ A.c.used + 1 ≤ _; omega, by show (setA _ _ _).length ≤ _; rw [set_len]; exact hi.files, fun e he => ?_, hi.size⟩
      rcases set_mem he with he | he
      · exact hi.blocks e he
      · rw [he]
        have := find_len hf
        simp
        omega
    · rw [hc']
      exact (h2.small ht).off
end

/-- the first disk is off: what it holds. -/
def CutOf (o : OpA) (files : List (List UInt8 × FileA)) (C : PubA) : Prop :=
  files = C.files ∨ (o.kind ≠ 2 ∧ files = (stepT o C).2.files) ∨ (o.kind = 2 ∧ ∃ f m, findA C.files (nm o.name) = some f ∧ files = setA (nm o.name) { f with blocks := f.blocks ++ [cutB m (dataA o.N C.B o.data)] } C.files)

/-- the loop's state. -/
structure Loops (w wr : World) (lo p mf mt p2 mf2 mt2 B k sb : Nat) (row : Array Value) (D C : DiskC) : Prop where
  keep : Keep wr lo p mf mt p2 mf2 mt2 B k D C
  box : wr.heap[sb]? = some (.cells row 29 (0, 0))
  n1 : sb ∉ D.foot p mf mt
  n2 : sb ∉ C.foot p2 mf2 mt2
  low : Below lo w wr
  room : lo ≤ wr.heap.size

/-- .. behind a call of the first. -/
structure Half (w wr : World) (lo p mf mt p2 mf2 mt2 B k sb : Nat) (row : Array Value) (D C : DiskC) (A' : PubA) : Prop where
  was : Was wr lo p mf mt p2 mf2 mt2 B k D C A'
  box : wr.heap[sb]? = some (.cells row 29 (0, 0))
  n1 : sb ∉ D.foot p mf mt
  n2 : sb ∉ C.foot p2 mf2 mt2
  low : Below lo w wr
  room : lo ≤ wr.heap.size

section
variable {w wr w' : World} {E : Nat → Addr} {lo p mf mt p2 mf2 mt2 B k sb : Nat} {row : Array Value} {D C : DiskC} {A' : PubA} {o : OpA}

theorem Loops.touch (h : Loops w wr lo p mf mt p2 mf2 mt2 B k sb row D C) (ht : Touch [] wr w') : Loops w w' lo p mf mt p2 mf2 mt2 B k sb row D C :=
  ⟨h.keep.touch ht, kept_row h.box ht (by simp), h.n1, h.n2, h.low.trans (ht.below h.room (by simp)), Nat.le_trans h.room ht.size⟩
theorem Loops.more (h : Loops w wr lo p mf mt p2 mf2 mt2 B k sb row D C) : Loops w wr lo p mf mt p2 mf2 mt2 B (k + 1) sb row D C := ⟨h.keep.more, h.box, h.n1, h.n2, h.low, h.room⟩
theorem Half.touch (h : Half w wr lo p mf mt p2 mf2 mt2 B k sb row D C A') (ht : Touch [] wr w') : Half w w' lo p mf mt p2 mf2 mt2 B k sb row D C A' :=
  ⟨h.was.touch ht, kept_row h.box ht (by simp), h.n1, h.n2, h.low.trans (ht.below h.room (by simp)), Nat.le_trans h.room ht.size⟩
theorem Half.keep (h : Half w wr lo p mf mt p2 mf2 mt2 B k sb row D C A') (hA : Akin (k + 1) A' C.pub) : Loops w wr lo p mf mt p2 mf2 mt2 B (k + 1) sb row D C := ⟨h.was.keep hA, h.box, h.n1, h.n2, h.low, h.room⟩

/-- 'program' on the first disk. -/
theorem Loops.first (h : Loops w wr lo p mf mt p2 mf2 mt2 B k sb row D C) (V : Env wr lo E) (ht : k + 1 < 1099511627776) (hk : changesB o.kind = true) {sa : Option Addr} {n c : Nat} (hd : Shows wr sa n c o.data) (hn : n ≤ 1073741824) :
    Calls Tryd.prog 7 #[ptr p, opV o.kind o.name o.N o.bit sa n c, .int .i64 B] wr fun e w' => ∃ r v, e = .returned (.tuple #[v, .bool true]) ∧ ToldAt w' wr.heap.size (.err r) v ∧ (∀ b, b < wr.heap.size → b ∉ D.foot p mf mt → w'.heap[b]? = wr.heap[b]?) ∧
      ((r = 0 ∧ ∃ D' A', Half w w' lo p mf mt p2 mf2 mt2 B k sb row D' C A' ∧ (stepT o C.pub).1 = 0 ∧ Akin (k + 1) A' (stepT o C.pub).2) ∨
       (r ≠ 0 ∧ r ≠ 10 ∧ r ≠ 17 ∧ ∃ D', Loops w w' lo p mf mt p2 mf2 mt2 B (k + 1) sb row D' C) ∨
       (r = 10 ∧ ∃ D' A', Half w w' lo p mf mt p2 mf2 mt2 B k sb row D' C A' ∧ (stepT o C.pub).1 = 0 ∧ D'.on = false ∧ D'.B = B ∧ Small D'.pub ∧ CutOf o (D'.ents.map Ent.pub) C.pub)) := by
  have hA := h.keep.akin
  have hkeys := h.keep.keys
  have hc := hA.a.calls
  have hf := hA.faults
  obtain ⟨x, kd, y, hT⟩ := h.keep.T.trouble D.c.calls
  have h1 := program_t V h.keep.d hA.a.on (hA.a.small (by omega)) (by simp only [DiskC.pub] at hf; omega) (by simp only [DiskC.pub] at hc; omega) hT o hk hd hn
  rw [h.keep.size] at h1
  refine h1.mono ?_
  rintro e w2 ⟨r, A', ⟨v, rfl, hv⟩, hdid, hout⟩
  obtain ⟨D', hwas, htou, hft⟩ := h.keep.was hdid
  have hhalf : Half w w2 lo p mf mt p2 mf2 mt2 B k sb row D' C A' := by
    refine ⟨hwas, kept_row h.box htou h.n1, fun hb => ?_, h.n2, h.low.trans (htou.below h.room (fun b hb => h.keep.d.base b hb)), Nat.le_trans h.room htou.size⟩
    rcases hft sb hb with h1 | h1
    · exact h.n1 h1
    · have := lt_of_block h.box
      omega
  refine ⟨r, v, rfl, hv, fun b hb hn => htou.block b hb hn, ?_⟩
  have hsm := hA.small (by omega) hk hkeys hout
  rcases hA.ways (by omega) hk hkeys hout with ⟨h1, h2, h3⟩ | ⟨h1, h2, h3, h4⟩ | ⟨h1, h2, h3, h4, h5⟩
  · exact .inl ⟨h1, D', A', hhalf, h2, h3⟩
  · exact .inr (.inl ⟨h1, h2, h3, D', hhalf.keep h4⟩)
  · have hp := hwas.pub
    refine .inr (.inr ⟨h1, D', A', hhalf, h3, ?_, ?_, by rw [hp]; exact hsm, ?_⟩)
    · have : D'.pub.on = A'.on := by rw [hp]
      exact this.trans h2
    · have : D'.pub.B = A'.B := by rw [hp]
      exact (this.trans h4).trans h.keep.size
    · have : D'.pub.files = A'.files := by rw [hp]
      show CutOf o D'.pub.files C.pub
      rw [this]
      exact h5

/-- 'program' on the second disk. -/
theorem Half.second (h : Half w wr lo p mf mt p2 mf2 mt2 B k sb row D C A') (V : Env wr lo E) (ht : k + 1 < 1099511627776) (hk : changesB o.kind = true) (h0 : (stepT o C.pub).1 = 0) (hA : Akin (k + 1) A' (stepT o C.pub).2) {sa : Option Addr} {n c : Nat} (hd : Shows wr sa n c o.data) (hn : n ≤ 1073741824) :
    Calls Tryd.prog 7 #[ptr p2, opV o.kind o.name o.N o.bit sa n c, .int .i64 B] wr fun e w' => ∃ v, e = .returned (.tuple #[v, .bool true]) ∧ ToldAt w' wr.heap.size (.err 0) v ∧ (∀ b, b < wr.heap.size → b ∉ C.foot p2 mf2 mt2 → w'.heap[b]? = wr.heap[b]?) ∧ ∃ C', Loops w w' lo p mf mt p2 mf2 mt2 B (k + 1) sb row D C' := by
  refine (h.was.c.program V (by omega) o hd hn).mono ?_
  rintro e w2 ⟨v, C', rfl, hv, hr, hp, htou, hft⟩
  rw [(stepT_A hk _).1, h0] at hv
  rw [(stepT_A hk _).2] at hp
  refine ⟨v, rfl, hv, fun b hb hn => htou.block b hb hn, C', h.was.both (hp ▸ hA) hr htou hft, kept_row h.box htou h.n2, h.n1, fun hb => ?_, h.low.trans (htou.below h.room (fun b hb => h.was.c.rep.base b hb)), Nat.le_trans h.room htou.size⟩
  rcases hft sb hb with h1 | h1
  · exact h.n2 h1
  · have := lt_of_block h.box
    omega

/-- what the two hold, told. -/
structure Tells (w' : World) (n B : Nat) (fv : Value) (l : List SFile) (files : List (List UInt8 × FileA)) : Prop where
  st : StateAt w' n B fv l
  pub : l.map SFile.pub = files
  few : l.length ≤ 1099511627776
  fewB : ∀ e ∈ l, e.file.blocks.length ≤ 1099511627776

theorem Loops.stateD (h : Loops w wr lo p mf mt p2 mf2 mt2 B k sb row D C) (ht : k ≤ 1099511627776) :
    Calls Tryd.prog 8 #[ptr p] wr fun e w' => ∃ fv l, e = .returned (.agg #[.int .i64 B, fv]) ∧ Tells w' wr.heap.size B fv l C.pub.files ∧ Below wr.heap.size wr w' := by
  have hS := h.keep.akin.a.small ht
  have h1 := State_any h.keep.d hS
  rw [h.keep.size] at h1
  refine h1.mono ?_
  rintro e w2 ⟨fv, l, rfl, hst, hp, hb⟩
  have hf := few_of hS hp
  exact ⟨fv, l, rfl, ⟨hst, hp.trans h.keep.akin.files, hf.1, hf.2⟩, hb⟩
theorem Loops.stateC (h : Loops w wr lo p mf mt p2 mf2 mt2 B k sb row D C) (ht : k ≤ 1099511627776) :
    Calls Tryd.prog 8 #[ptr p2] wr fun e w' => ∃ fv l, e = .returned (.agg #[.int .i64 B, fv]) ∧ Tells w' wr.heap.size B fv l C.pub.files ∧ Below wr.heap.size wr w' := by
  have hS := h.keep.c.inv.small ht
  have h1 := State_any h.keep.c.rep hS
  rw [h.keep.c.B] at h1
  refine h1.mono ?_
  rintro e w2 ⟨fv, l, rfl, hst, hp, hb⟩
  have hf := few_of hS hp
  exact ⟨fv, l, rfl, ⟨hst, hp, hf.1, hf.2⟩, hb⟩
theorem Tells.below {n : Nat} {fv : Value} {l : List SFile} {files : List (List UInt8 × FileA)} (h : Tells wr n B fv l files) (hb : Below wr.heap.size wr w') : Tells w' n B fv l files := ⟨h.st.below hb, h.pub, h.few, h.fewB⟩
theorem Tells.same {n n2 : Nat} {fv fv2 : Value} {l l2 : List SFile} {files : List (List UInt8 × FileA)} (h : Tells wr n B fv l files) (h2 : Tells wr n2 B fv2 l2 files) :
    Calls Tryd.prog 11 #[.agg #[.int .i64 B, fv], .agg #[.int .i64 B, fv2]] wr fun e w' => e = .returned (.bool true) ∧ Below wr.heap.size wr w' :=
  SameState_true h.st h2.st (h.pub.trans h2.pub.symm) h.few h.fewB
theorem Loops.onD (h : Loops w wr lo p mf mt p2 mf2 mt2 B k sb row D C) : Calls Tryd.prog 10 #[ptr p] wr fun e w' => e = .returned (.bool true) ∧ w' = wr := by
  have h1 := On_any h.keep.d
  have h2 : D.on = true := h.keep.akin.a.on
  rw [h2] at h1
  exact h1
theorem Loops.start {X w2 w3 w4 : World} {T : DataW Unit} (hB1 : 64 ≤ B) (hB2 : B ≤ 65536) (h1 : Below w.heap.size w X) (hsb : X.heap[sb]? = some (.cells row 29 (0, 0))) (hR : Rep w2 X.heap.size p mf mt (.newT B 1099511627776 T)) (hT : AllT T) (h2 : Below X.heap.size X w2) (h3 : Below w2.heap.size w2 w3) (hR2 : Rep w4 w3.heap.size p2 mf2 mt2 (.new B 1099511627776)) (h4 : Below w3.heap.size w3 w4) :
    Loops w w4 w.heap.size p mf mt p2 mf2 mt2 B 0 sb row (.newT B 1099511627776 T) (.new B 1099511627776) := by
  have s1 := h1.size
  have s2 := h2.size
  have s3 := h3.size
  have s4 := h4.size
  have hsl := lt_of_block hsb
  have h24 : Below w2.heap.size w2 w4 := h3.trans (h4.mono s3)
  have hin : Inv 0 (DiskC.new B 1099511627776).pub := inv_new hB1 hB2
  refine ⟨⟨(hR.lower s1).touch (F := []) (Touch.of_below h24 (Nat.le_refl _)) (by simp), hT, ⟨hR2.lower (by omega), rfl, hin, rfl⟩, ⟨hin, hin, rfl, by simp [DiskC.newT, DiskC.pub], rfl, rfl⟩, fun b hb hb2 => ?_⟩, ?_, fun hb => ?_, fun hb => ?_, h1.trans ((h2.mono s1).trans (h24.mono (by omega))), by omega⟩
  · have := hR.lt b hb
    have := hR2.base b hb2
    omega
  · rw [h24.block sb (by omega), h2.block sb (by omega)]
    exact hsb
  · have := hR.base sb hb
    omega
  · have := hR2.base sb hb
    omega
end
end Go.Proofs.YtcpncfngadablaaDoor
namespace Go.Proofs.YtcpncfngadablaaDoor
open Go.RowKit Go.Deep

section
variable {w w' : World} {E : Nat → Addr} {lo p mf mt : Nat} {D : DiskC}

/-- the twelve cells of what a step tells. -/
def ToldA.row (T : ToldA) (x : Option Addr) (y : Nat) (m : Option Addr) (l : Nat) : Array Value := #[.int .i64 T.e, .int .i64 T.n, .bool T.shut, .slice x T.data.length y, .slice m T.names.length l, .int .i64 T.c.calls, .int .i64 T.c.reads, .int .i64 T.c.appends, .int .i64 T.c.faults, .int .i64 T.c.full, .int .i64 T.c.used, .int .i64 T.c.most]

theorem ToldAt.form {base : Nat} {T : ToldA} {v : Value} (h : ToldAt w base T v) : ∃ x y m l, v = .agg (T.row x y m l) := by
  obtain ⟨dv, nv, rfl, hd, hn⟩ := h
  obtain ⟨x, y, rfl, _, _⟩ := shows_own hd
  obtain ⟨m, l, rfl, _, _⟩ := owns_form hn
  exact ⟨x, y, m, l, rfl⟩

theorem ToldAt.touch {base : Nat} {T : ToldA} {v : Value} {F : List Nat} (h : ToldAt w base T v) (ht : Touch F w w') (hF : ∀ b ∈ F, b < base) : ToldAt w' base T v := by
  obtain ⟨dv, nv, rfl, hd, hn⟩ := h
  refine ⟨dv, nv, rfl, owns_touch hd ht fun x hx hxF => ?_, owns_touch hn ht fun x hx hxF => ?_⟩
  · have h1 := (hd.lt x (by simp [hx])).1
    have h2 := hF x hxF
    omega
  · have h1 := (hn.lt x (by simp [hx])).1
    have h2 := hF x hxF
    omega

theorem Runs.tells {B t : Nat} (h : Runs w lo p mf mt B t D) (V : Env w lo E) (ht : t + 1 ≤ 1099511627776) (o : OpA) {sa : Option Addr} {n c : Nat} (hd : Shows w sa n c o.data) (hn : n ≤ 1073741824) :
    Calls Tryd.prog 7 #[ptr p, opV o.kind o.name o.N o.bit sa n c, .int .i64 B] w fun e w' => ∃ (T : ToldA) (x : Option Addr) (y : Nat) (m : Option Addr) (l : Nat) (D' : DiskC), T = (stepA o D.pub).1 ∧ e = .returned (.tuple #[.agg #[.int .i64 T.e, .int .i64 T.n, .bool T.shut, .slice x T.data.length y, .slice m T.names.length l, .int .i64 T.c.calls, .int .i64 T.c.reads, .int .i64 T.c.appends, .int .i64 T.c.faults, .int .i64 T.c.full, .int .i64 T.c.used, .int .i64 T.c.most], .bool true]) ∧
      ToldAt w' w.heap.size T (.agg (T.row x y m l)) ∧ Runs w' lo p mf mt B (t + 1) D' ∧ D'.pub = (stepA o D.pub).2 ∧ Touch (D.foot p mf mt) w w' ∧ ∀ b ∈ D'.foot p mf mt, b ∈ D.foot p mf mt ∨ w.heap.size ≤ b := by
  refine (h.program V ht o hd hn).mono ?_
  rintro e w' ⟨v, D', rfl, hT, hr, hp, ht, hf⟩
  obtain ⟨x, y, m, l, rfl⟩ := hT.form
  exact ⟨_, x, y, m, l, D', rfl, rfl, hT, hr, hp, ht, hf⟩
end
end Go.Proofs.YtcpncfngadablaaDoor
