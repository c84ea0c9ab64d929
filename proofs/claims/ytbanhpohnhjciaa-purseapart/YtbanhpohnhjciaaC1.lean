import Derived.Test.YtbanhpohnhjciaaB2
namespace Go.Proofs.Ytbanhpohnhjciaa
open Go.RowKit Go.MuLone

theorem At.touch {w w' : World} {lo b : Nat} {s : St} {F : List Nat} (A : At w lo b s) (t : Touch F w w') (h1 : b ∉ F) (h2 : s.lb ∉ F) : At w' lo b s :=
  ⟨A.row.touch t h1, A.lock.touch t h2, A.ne, A.good, A.lob, A.lol⟩

/-- two purses that hold the same. -/
def Twin (s r : St) : Prop := r = { s with lb := r.lb }
section
variable {s r : St}
theorem Twin.leave (h : Twin s r) (n : Int) : leaveE r n = leaveE s n := by rw [h]; rfl
theorem Twin.gives (h : Twin s r) (n : Int) : giveE r n = giveE s n := by rw [h]; rfl
theorem Twin.take (h : Twin s r) (n : Int) : Twin (s.take n) (r.take n) := by
  unfold Twin at *
  rw [take_lb]
  generalize r.lb = x at h ⊢
  subst h
  by_cases he : leaveE s n = 0
  · have he' : leaveE { s with lb := x } n = 0 := he
    simp [St.take, he, he']
  · have he' : ¬ leaveE { s with lb := x } n = 0 := he
    simp [St.take, he, he']
theorem Twin.give (h : Twin s r) (n : Int) : Twin (s.give n) (r.give n) := by
  unfold Twin at *
  rw [give_lb]
  generalize r.lb = x at h ⊢
  subst h
  by_cases he : giveE s n = 0
  · have he' : giveE { s with lb := x } n = 0 := he
    simp [St.give, he, he']
  · have he' : ¬ giveE { s with lb := x } n = 0 := he
    simp [St.give, he, he']
theorem Twin.out (h : Twin s r) : r.hand + r.lent = s.hand + s.lent := by rw [h]
theorem Twin.peak (h : Twin s r) : r.peak = s.peak := by rw [h]
end

/-- three purses, apart. -/
structure Three (w : World) (lo bp : Nat) (sp : St) (bq : Nat) (sq : St) (br : Nat) (sr : St) : Prop where
  p : At w lo bp sp
  q : At w lo bq sq
  r : At w lo br sr
  apart : [bp, sp.lb, bq, sq.lb, br, sr.lb].Nodup

section
variable {w w' : World} {lo bp bq br : Nat} {sp sq sr : St}
theorem Three.doP (T : Three w lo bp sp bq sq br sr) {tp : St} (A : At w' lo bp tp) (e : tp.lb = sp.lb) (t : Touch [bp, sp.lb] w w') : Three w' lo bp tp bq sq br sr := by
  have h := T.apart
  simp only [List.nodup_cons, List.mem_cons, List.not_mem_nil, or_false, not_or] at h
  refine ⟨A, T.q.touch t ?_ ?_, T.r.touch t ?_ ?_, by rw [e]; exact T.apart⟩ <;> simp only [List.mem_cons, List.not_mem_nil, or_false, not_or] <;> omega
theorem Three.doQ (T : Three w lo bp sp bq sq br sr) {tq : St} (A : At w' lo bq tq) (e : tq.lb = sq.lb) (t : Touch [bq, sq.lb] w w') : Three w' lo bp sp bq tq br sr := by
  have h := T.apart
  simp only [List.nodup_cons, List.mem_cons, List.not_mem_nil, or_false, not_or] at h
  refine ⟨T.p.touch t ?_ ?_, A, T.r.touch t ?_ ?_, by rw [e]; exact T.apart⟩ <;> simp only [List.mem_cons, List.not_mem_nil, or_false, not_or] <;> omega
theorem Three.doR (T : Three w lo bp sp bq sq br sr) {tr : St} (A : At w' lo br tr) (e : tr.lb = sr.lb) (t : Touch [br, sr.lb] w w') : Three w' lo bp sp bq sq br tr := by
  have h := T.apart
  simp only [List.nodup_cons, List.mem_cons, List.not_mem_nil, or_false, not_or] at h
  refine ⟨T.p.touch t ?_ ?_, T.q.touch t ?_ ?_, A, by rw [e]; exact T.apart⟩ <;> simp only [List.mem_cons, List.not_mem_nil, or_false, not_or] <;> omega

theorem Three.takeP {w0 : World} (T : Three w lo bp sp bq sq br sr) (h : Below lo w0 w) (hlo : lo ≤ w.heap.size) (n : Int) : Calls Try.prog 10 #[ptr bp, .int .i64 n] w fun e w' => e = .returned (.int .i64 (leaveE sp n)) ∧ Three w' lo bp (sp.take n) bq sq br sr ∧ Below lo w0 w' :=
  (T.p.take n).mono fun _ _ x => ⟨x.1, T.doP x.2.1 (take_lb _ _) x.2.2, T.p.below h x.2.2 hlo⟩
theorem Three.giveP {w0 : World} (T : Three w lo bp sp bq sq br sr) (h : Below lo w0 w) (hlo : lo ≤ w.heap.size) (n : Int) : Calls Try.prog 9 #[ptr bp, .int .i64 n] w fun e w' => e = .returned (.int .i64 (giveE sp n)) ∧ Three w' lo bp (sp.give n) bq sq br sr ∧ Below lo w0 w' :=
  (T.p.give n).mono fun _ _ x => ⟨x.1, T.doP x.2.1 (give_lb _ _) x.2.2, T.p.below h x.2.2 hlo⟩
theorem Three.takeR {w0 : World} (T : Three w lo bp sp bq sq br sr) (h : Below lo w0 w) (hlo : lo ≤ w.heap.size) (n : Int) : Calls Try.prog 10 #[ptr br, .int .i64 n] w fun e w' => e = .returned (.int .i64 (leaveE sr n)) ∧ Three w' lo bp sp bq sq br (sr.take n) ∧ Below lo w0 w' :=
  (T.r.take n).mono fun _ _ x => ⟨x.1, T.doR x.2.1 (take_lb _ _) x.2.2, T.r.below h x.2.2 hlo⟩
theorem Three.giveR {w0 : World} (T : Three w lo bp sp bq sq br sr) (h : Below lo w0 w) (hlo : lo ≤ w.heap.size) (n : Int) : Calls Try.prog 9 #[ptr br, .int .i64 n] w fun e w' => e = .returned (.int .i64 (giveE sr n)) ∧ Three w' lo bp sp bq sq br (sr.give n) ∧ Below lo w0 w' :=
  (T.r.give n).mono fun _ _ x => ⟨x.1, T.doR x.2.1 (give_lb _ _) x.2.2, T.r.below h x.2.2 hlo⟩
theorem Three.takeQ {w0 : World} (T : Three w lo bp sp bq sq br sr) (h : Below lo w0 w) (hlo : lo ≤ w.heap.size) (n : Int) : Calls Try.prog 10 #[ptr bq, .int .i64 n] w fun e w' => e = .returned (.int .i64 (leaveE sq n)) ∧ Three w' lo bp sp bq (sq.take n) br sr ∧ Below lo w0 w' :=
  (T.q.take n).mono fun _ _ x => ⟨x.1, T.doQ x.2.1 (take_lb _ _) x.2.2, T.q.below h x.2.2 hlo⟩
theorem Three.giveQ {w0 : World} (T : Three w lo bp sp bq sq br sr) (h : Below lo w0 w) (hlo : lo ≤ w.heap.size) (n : Int) : Calls Try.prog 9 #[ptr bq, .int .i64 n] w fun e w' => e = .returned (.int .i64 (giveE sq n)) ∧ Three w' lo bp sp bq (sq.give n) br sr ∧ Below lo w0 w' :=
  (T.q.give n).mono fun _ _ x => ⟨x.1, T.doQ x.2.1 (give_lb _ _) x.2.2, T.q.below h x.2.2 hlo⟩
theorem Three.usedP {w0 : World} (T : Three w lo bp sp bq sq br sr) (h : Below lo w0 w) (hlo : lo ≤ w.heap.size) : Calls Try.prog 11 #[ptr bp] w fun e w' => e = .returned (.int .i64 (sp.hand + sp.lent)) ∧ Three w' lo bp sp bq sq br sr ∧ Below lo w0 w' :=
  T.p.used.mono fun _ _ x => ⟨x.1, T.doP x.2.1 rfl x.2.2, T.p.below h x.2.2 hlo⟩
theorem Three.usedR {w0 : World} (T : Three w lo bp sp bq sq br sr) (h : Below lo w0 w) (hlo : lo ≤ w.heap.size) : Calls Try.prog 11 #[ptr br] w fun e w' => e = .returned (.int .i64 (sr.hand + sr.lent)) ∧ Three w' lo bp sp bq sq br sr ∧ Below lo w0 w' :=
  T.r.used.mono fun _ _ x => ⟨x.1, T.doR x.2.1 rfl x.2.2, T.r.below h x.2.2 hlo⟩
theorem Three.peakP {w0 : World} (T : Three w lo bp sp bq sq br sr) (h : Below lo w0 w) (hlo : lo ≤ w.heap.size) : Calls Try.prog 13 #[ptr bp] w fun e w' => e = .returned (.int .i64 sp.peak) ∧ Three w' lo bp sp bq sq br sr ∧ Below lo w0 w' :=
  T.p.peak.mono fun _ _ x => ⟨x.1, T.doP x.2.1 rfl x.2.2, T.p.below h x.2.2 hlo⟩
theorem Three.peakR {w0 : World} (T : Three w lo bp sp bq sq br sr) (h : Below lo w0 w) (hlo : lo ≤ w.heap.size) : Calls Try.prog 13 #[ptr br] w fun e w' => e = .returned (.int .i64 sr.peak) ∧ Three w' lo bp sp bq sq br sr ∧ Below lo w0 w' :=
  T.r.peak.mono fun _ _ x => ⟨x.1, T.doR x.2.1 rfl x.2.2, T.r.below h x.2.2 hlo⟩
end

/-- New, with where it lies. -/
theorem At.newAt {n : Int} (hn : 0 ≤ n) (h2 : n ≤ 9223372036854775807) (w : World) (lo : Nat) (hlo : lo ≤ w.heap.size) : Calls Try.prog 8 #[.int .i64 n] w fun e w' =>
    ∃ b lb, e = .returned (.tuple #[ptr b, .int .i64 0]) ∧ At w' lo b (.new n lb) ∧ w.heap.size ≤ b ∧ w.heap.size ≤ lb ∧ Touch [] w w' :=
  (new_any hn w).mono fun _ _ ⟨b, lb, he, hb, hl, hne, hp, hk, ht⟩ => ⟨b, lb, he, ⟨hp, hk, hne, .new hn h2 lb, by omega, by show lo ≤ lb; omega⟩, hb, hl, ht⟩

theorem At.lt {w : World} {lo b : Nat} {s : St} (A : At w lo b s) : b < w.heap.size ∧ s.lb < w.heap.size := ⟨lt_of_block A.row, lt_of_block A.lock⟩

theorem Three.new {w1 w2 w3 : World} {lo bp bq br : Nat} {sp sq sr : St} (a1 : At w1 lo bp sp) (a2 : At w2 lo bq sq) (a3 : At w3 lo br sr) (b2 : w1.heap.size ≤ bq) (b2' : w1.heap.size ≤ sq.lb) (t2 : Touch [] w1 w2) (b3 : w2.heap.size ≤ br) (b3' : w2.heap.size ≤ sr.lb) (t3 : Touch [] w2 w3) :
    Three w3 lo bp sp bq sq br sr := by
  refine ⟨(a1.touch t2 (by simp) (by simp)).touch t3 (by simp) (by simp), a2.touch t3 (by simp) (by simp), a3, ?_⟩
  have h1 := a1.lt
  have h2 := a2.lt
  have n1 := a1.ne
  have n2 := a2.ne
  have n3 := a3.ne
  have s2 := t2.size
  simp only [List.nodup_cons, List.mem_cons, List.not_mem_nil, or_false, not_or, List.nodup_nil, and_true, not_false_eq_true]
  omega
end Go.Proofs.Ytbanhpohnhjciaa
