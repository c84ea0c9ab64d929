import Derived.Test.YtbanhpohnhjciaaE1
namespace Go.Proofs.Ytbanhpohnhjciaa
open Go.RowKit Go.MuLone

/-! ### append -/
theorem info24 : (Try.prog.info? 24).map (fun i => (i.zero, i.size, i.bytes)) = some (some (.pointer none), 1, 8) := by kernel_rfl
theorem info3 : (Try.prog.info? 3).map (fun i => (i.zero, i.size, i.bytes)) = some (some (.int .i64 0), 1, 8) := by kernel_rfl
theorem info_parts {e : TypeId} {z : Value} {n b : Nat} (h : (Try.prog.info? e).map (fun i => (i.zero, i.size, i.bytes)) = some (some z, n, b)) : ∃ i, Try.prog.info? e = some i ∧ i.zero = some z ∧ i.size = n ∧ i.bytes = b := by
  obtain ⟨i, hi, h2⟩ := Option.map_eq_some_iff.1 h
  simp only [Prod.mk.injEq] at h2
  exact ⟨i, hi, h2.1, h2.2.1, h2.2.2⟩

/-- one more at the end of a slice of the call's own. -/
theorem wpList_append_one (w : World) {ops : Array Oper} {rest : List Oper} {o : Oper} {a : Act} {Q : Exit → Act → World → Prop} {t e : TypeId} {z : Value} (hu : Try.prog.underlying t = some (.slice e)) (hi : (Try.prog.info? e).map (fun i => (i.zero, i.size, i.bytes)) = some (some z, 1, 8)) (hz : z.cells.size = 1) (hgd : o.guard = none) (s x : Operand)
    (hop : o.op = Op.call { callee := Callee.builtin Builtin.append, args := #[s, x], argTypes := #[t, t] })
    (base : Nat) (v : Value) (n : Nat) (xs : List Value) (ad : Addr) (u : Value) (hs : a.eval s = v) (hx : a.eval x = .slice (some ad) 1 1) (hown : w.ownsRow base e 1 v n xs) (hc : w.cell? ad = some u) (h1 : u.oneCell' = true) (hn : n < 17592186044416) (hb : base ≤ w.heap.size)
    (hK : ∀ g cap w', w'.ownsRow base e 1 (.slice (some ⟨g, 0, none⟩) (n + 1) cap) (n + 1) (xs ++ [u]) → w.grownBy w' v.ownBlock → (v.ownBlock = some g ∨ g = w.heap.size) → wpList Try.prog ops Q rest (a.put o.dst (.slice (some ⟨g, 0, none⟩) (n + 1) cap)) w') : wpList Try.prog ops Q (o :: rest) a w := by
  obtain ⟨i, h0, hz0, hz1, hz2⟩ := info_parts hi
  exact wpList_append_lies w hgd s x t hop base e i z 1 8 hu h0 hz0 hz1 hz2 hz (by decide) v n xs hs hown ad 1 1 [u] hx rfl
    (fun j y hy => by cases j with
      | zero => simp at hy; subst hy; simpa [Addr.add] using hc
      | succ j => simp at hy)
    (by simpa using h1) (by decide) (by unfold maxLen; omega) (by omega) hb _ rfl (fun g cap w' r1 r2 r3 _ => hK g cap w' r1 r2 r3)

/-! ### a part that is being made -/
/-- a purse, its parts, and one more part q that is not yet listed. -/
structure Tip (w : World) (lo b lb : Nat) (s : St) (q : Nat) (sq : St) (l : List Pt) : Prop where
  ap : At w lo b s
  aq : At w lo q sq
  elp : s.lb = lb
  elq : sq.lb = lb
  each : ∀ x ∈ l, PurseAt w x.b (x.st lb b) ∧ lo ≤ x.b ∧ 0 ≤ x.n
  apart : (q :: b :: lb :: l.map Pt.b).Nodup

section
variable {w w' w0 : World} {lo b lb q : Nat} {L : Int} {s sq : St} {l : List Pt}

theorem Tip.doQ (T : Tip w lo b lb s q sq l) {t : St} (A : At w' lo q t) (e : t.lb = sq.lb) (tt : Touch [q, sq.lb] w w') : Tip w' lo b lb s q t l := by
  have h := T.apart
  simp only [List.nodup_cons, List.mem_cons, not_or] at h
  have hl : LockAt w' s.lb 0 := by have := A.lock; rwa [e, T.elq, ← T.elp] at this
  refine ⟨⟨T.ap.row.touch tt ?_, hl, T.ap.ne, T.ap.good, T.ap.lob, T.ap.lol⟩, A, T.elp, e.trans T.elq, fun x hx => ⟨(T.each x hx).1.touch tt ?_, (T.each x hx).2⟩, T.apart⟩
  · simp only [List.mem_cons, List.not_mem_nil, or_false, not_or, T.elq]
    exact ⟨fun e => h.1.1 e.symm, h.2.1.1⟩
  · have hm : x.b ∈ l.map Pt.b := List.mem_map.2 ⟨x, hx, rfl⟩
    simp only [List.mem_cons, List.not_mem_nil, or_false, not_or, T.elq]
    exact ⟨fun e => h.1.2.2 (e ▸ hm), fun e => h.2.2.1 (e ▸ hm)⟩

theorem Tip.doP (T : Tip w lo b lb s q sq l) (A : At w' lo b s) (tt : Touch [b, s.lb] w w') : Tip w' lo b lb s q sq l := by
  have h := T.apart
  simp only [List.nodup_cons, List.mem_cons, not_or] at h
  have hl : LockAt w' sq.lb 0 := by have := A.lock; rwa [T.elp, ← T.elq] at this
  refine ⟨A, ⟨T.aq.row.touch tt ?_, hl, T.aq.ne, T.aq.good, T.aq.lob, T.aq.lol⟩, T.elp, T.elq, fun x hx => ⟨(T.each x hx).1.touch tt ?_, (T.each x hx).2⟩, T.apart⟩
  · simp only [List.mem_cons, List.not_mem_nil, or_false, not_or, T.elp]
    exact ⟨h.1.1, h.1.2.1⟩
  · have hm : x.b ∈ l.map Pt.b := List.mem_map.2 ⟨x, hx, rfl⟩
    simp only [List.mem_cons, List.not_mem_nil, or_false, not_or, T.elp]
    exact ⟨fun e => h.2.1.2 (e ▸ hm), fun e => h.2.2.1 (e ▸ hm)⟩

theorem Tip.take (T : Tip w lo b lb s q sq l) (h : Below lo w0 w) (hlo : lo ≤ w.heap.size) (n : Int) : Calls Try.prog 10 #[ptr q, .int .i64 n] w fun e w' => e = .returned (.int .i64 (leaveE sq n)) ∧ Tip w' lo b lb s q (sq.take n) l ∧ Below lo w0 w' ∧ Touch [q, lb] w w' :=
  (T.aq.take n).mono fun _ _ x => ⟨x.1, T.doQ x.2.1 (take_lb _ _) x.2.2, T.aq.below h x.2.2 hlo, by rw [← T.elq]; exact x.2.2⟩
theorem Tip.usedP (T : Tip w lo b lb s q sq l) (h : Below lo w0 w) (hlo : lo ≤ w.heap.size) : Calls Try.prog 11 #[ptr b] w fun e w' => e = .returned (.int .i64 (s.hand + s.lent)) ∧ Tip w' lo b lb s q sq l ∧ Below lo w0 w' ∧ Touch [b, lb] w w' :=
  T.ap.used.mono fun _ _ x => ⟨x.1, T.doP x.2.1 x.2.2, T.ap.below h x.2.2 hlo, by rw [← T.elp]; exact x.2.2⟩
theorem Tip.usedQ (T : Tip w lo b lb s q sq l) (h : Below lo w0 w) (hlo : lo ≤ w.heap.size) : Calls Try.prog 11 #[ptr q] w fun e w' => e = .returned (.int .i64 (sq.hand + sq.lent)) ∧ Tip w' lo b lb s q sq l ∧ Below lo w0 w' ∧ Touch [q, lb] w w' :=
  T.aq.used.mono fun _ _ x => ⟨x.1, T.doQ x.2.1 rfl x.2.2, T.aq.below h x.2.2 hlo, by rw [← T.elq]; exact x.2.2⟩

/-- what Part answers. -/
theorem Tree.leave (T : Tree w lo b lb L s l) (n : Int) : leaveE s n = if n < 0 then 1 else if n > L - out l then 2 else 0 := by
  simp [leaveE, T.closed, T.hand, T.lent, T.limit]

theorem Tree.refused (T : Tree w lo b lb L s l) (h : Below lo w0 w) (hlo : lo ≤ w.heap.size) (n : Int) (he : leaveE s n ≠ 0) :
    Calls Try.prog 15 #[ptr b, .int .i64 n] w fun e w' => e = .returned (.tuple #[.pointer none, .int .i64 (leaveE s n)]) ∧ Tree w' lo b lb L s l ∧ Below lo w0 w' ∧ Touch [b, lb] w w' :=
  (part_refused T.at_.row T.at_.lock T.at_.ne T.at_.good n he).mono fun _ w' x => by
    have A : At w' lo b s := T.at_.did x.2.1 x.2.2.1 rfl T.at_.good
    exact ⟨x.1, T.asked A x.2.2.2, T.at_.below h x.2.2.2 hlo, by rw [← T.elb]; exact x.2.2.2⟩

theorem St.Good.lend (g : s.Good) {n : Int} (he : leaveE s n = 0) (hp : s.parts < 4611686018427387904) : (s.lend n).Good := by
  obtain ⟨_, h1, h2⟩ := leave_ok he
  obtain ⟨a1, a2, a3, a4, a5, a6, a7, a8⟩ := g
  exact ⟨a1, by show 0 ≤ s.lent + n; omega, by show s.hand + (s.lent + n) ≤ s.limit; omega, a4, by show 0 ≤ s.parts + 1; omega, by show s.parts + 1 ≤ 4611686018427387904; omega, by show s.hand + (s.lent + n) ≤ max s.peak (s.hand + (s.lent + n)); omega, by show max s.peak (s.hand + (s.lent + n)) ≤ s.limit; omega⟩

theorem Tree.part (T : Tree w lo b lb L s l) (h : Below lo w0 w) (hlo : lo ≤ w.heap.size) (n : Int) (he : leaveE s n = 0) (hp : l.length < 4611686018427387904) :
    Calls Try.prog 15 #[ptr b, .int .i64 n] w fun e w' => ∃ q, e = .returned (.tuple #[ptr q, .int .i64 0]) ∧ Tip w' lo b lb (s.lend n) q (.part n lb b) l ∧ Below lo w0 w' ∧ Touch [b, lb] w w' ∧ w.heap.size ≤ q := by
  have hps : s.parts < 4611686018427387904 := by
    have := cnt_nonneg l
    rw [T.parts]
    omega
  obtain ⟨_, n0, n1⟩ := leave_ok he
  have hlim := T.at_.good.limit
  have hh := T.at_.good.hand
  have hle := T.at_.good.lent
  refine (part_any T.at_.row T.at_.lock T.at_.ne T.at_.good n he hps).mono fun _ w' ⟨q, x1, x2, x3, x4, x5, x6⟩ => ?_
  rw [T.elb] at x4 x5 x6
  have tt : Touch [b, s.lb] w w' := by rw [T.elb]; exact x6
  have hq : ∀ k ∈ foot b lb l, q ≠ k := fun k hk e => by have := (T.lt k hk).1; omega
  have hne := T.at_.ne
  rw [T.elb] at hne
  have g : (St.part n lb b).Good := ⟨Int.le_refl _, Int.le_refl _, n0, by show n ≤ 9223372036854775807; omega, Int.le_refl _, by show (0 : Int) ≤ 4611686018427387904; omega, Int.le_refl _, n0⟩
  refine ⟨q, x1, ⟨⟨x3, by rw [show (s.lend n).lb = lb from T.elb]; exact x5, by rw [show (s.lend n).lb = lb from T.elb]; exact hne, T.at_.good.lend he hps, T.at_.lob, T.at_.lol⟩, ⟨x4, x5, hq lb (by simp [foot]), g, by omega, by rw [← T.elb]; exact T.at_.lol⟩, T.elb, rfl, fun x hx => ⟨(T.each x hx).1.touch x6 ?_, (T.each x hx).2⟩, ?_⟩, T.at_.below h tt hlo, x6, x2⟩
  · have ha := T.apart
    have hm : x.b ∈ l.map Pt.b := List.mem_map.2 ⟨x, hx, rfl⟩
    simp only [List.nodup_cons, List.mem_cons, not_or] at ha
    simp only [List.mem_cons, List.not_mem_nil, or_false, not_or]
    exact ⟨fun e => ha.1.2 (e ▸ hm), fun e => ha.2.1 (e ▸ hm)⟩
  · exact List.nodup_cons.2 ⟨fun hm => hq q hm rfl, T.apart⟩

/-- the part is listed. -/
theorem Tip.tree {n : Int} (hn : 0 ≤ n) (hs : s.limit = L ∧ s.hand = 0 ∧ s.lent = out l + n ∧ s.parts = cnt l + 1 ∧ s.closed = false ∧ s.whole = .pointer none) (T : Tip w lo b lb s q (Pt.st ⟨q, n, false⟩ lb b) l) : Tree w lo b lb L s (l ++ [⟨q, n, false⟩]) := by
  obtain ⟨e1, e2, e3, e4, e5, e6⟩ := hs
  refine ⟨T.ap, T.elp, e1, e2, by rw [out_append]; simp [out]; omega, by rw [cnt_append]; simp [cnt]; omega, e5, e6, fun x hx => ?_, ?_⟩
  · rcases List.mem_append.1 hx with h | h
    · exact T.each x h
    · obtain rfl : x = ⟨q, n, false⟩ := by simpa using h
      exact ⟨T.aq.row, T.aq.lob, hn⟩
  · have h := T.apart
    simp only [List.nodup_cons, List.mem_cons, not_or, List.map_append, List.map_cons, List.map_nil, List.mem_append, List.not_mem_nil, or_false, List.nodup_append, List.nodup_nil, and_true, not_false_eq_true, true_and] at h ⊢
    obtain ⟨⟨h1, h2, h3⟩, ⟨h4, h5⟩, h6, h7⟩ := h
    refine ⟨⟨h4, h5, fun e => h1 e.symm⟩, ⟨h6, fun e => h2 e.symm⟩, h7, fun a ha c hc e => ?_⟩
    subst hc
    exact h3 (e ▸ ha)
end
end Go.Proofs.Ytbanhpohnhjciaa
