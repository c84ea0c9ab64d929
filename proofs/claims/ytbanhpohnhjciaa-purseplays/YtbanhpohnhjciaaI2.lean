/-
  What is true of the numbers of both; Take, Give and the asks, of both sides.
-/
import Derived.Test.YtbanhpohnhjciaaI1
namespace Go.Proofs.Ytbanhpohnhjciaa
open Go.RowKit Go.MuLone

def openCnt : List Kid → Int
  | [] => 0
  | k :: l => (if k.opn then 1 else 0) + openCnt l

/-- The document's numbers. -/
structure RLaws (n : Nat) (f : Nat → Nd) : Prop where
  pos : ∀ i, i < n → 0 ≤ (f i).r.limit
  hand : ∀ i, i < n → 0 ≤ (f i).r.hand
  top : ∀ i, i < n → (f i).r.hand + kidsOut (kl f (f i).kids) ≤ (f i).r.limit
  lim : ∀ i, i < n → (f i).r.limit ≤ 9223372036854775807
  kid : ∀ i, i < n → ∀ j ∈ (f i).kids, i < j ∧ j < n
  few : ∀ i, i < n → (f i).kids.length ≤ n

structure Laws (n : Nat) (f : Nat → Nd) : Prop where
  good : ∀ i, i < n → (f i).s.Good
  lim : ∀ i, i < n → (f i).s.limit = (f i).r.limit
  hand : ∀ i, i < n → (f i).s.hand = (f i).r.hand
  peak : ∀ i, i < n → (f i).s.peak = (f i).r.peak
  cl : ∀ i, i < n → (f i).s.closed = !(f i).r.opn
  lent : ∀ i, i < n → (f i).s.lent = kidsOut (kl f (f i).kids)
  parts : ∀ i, i < n → (f i).s.parts = openCnt (kl f (f i).kids)
  form : ∀ i, i < n → (f i).s.whole = .pointer none ∨ ∃ p, (f i).s.whole = ptr p
  nilw : ∀ i, i < n → (f i).r.opn = true → isNil (f i).s.whole = !(f i).r.part
  par : ∀ i, i < n → (f i).r.opn = true → (f i).r.part = true → ∃ p, p < n ∧ i ∈ (f p).kids ∧ (f i).s.whole = ptr (f p).pb ∧ (f i).s.lb = (f p).s.lb
  kid : ∀ i, i < n → ∀ j ∈ (f i).kids, i < j ∧ j < n
  nodup : ∀ i, i < n → (f i).kids.Nodup
  one : ∀ i i' j, i < n → i' < n → j ∈ (f i).kids → j ∈ (f i').kids → i = i'
  few : ∀ i, i < n → (f i).kids.length ≤ n

section
variable {w w' : World} {base n : Nat} {f : Nat → Nd} {i : Nat}

theorem Laws.ref (L : Laws n f) : RLaws n f :=
  ⟨fun i hi => by have g := L.good i hi; have := g.hand; have := g.lent; have := g.out; rw [← L.lim i hi]; omega, fun i hi => by rw [← L.hand i hi]; exact (L.good i hi).hand,
    fun i hi => by rw [← L.hand i hi, ← L.lent i hi, ← L.lim i hi]; exact (L.good i hi).out, fun i hi => by rw [← L.lim i hi]; exact (L.good i hi).limit, L.kid, L.few⟩

theorem RLaws.updS (L : RLaws n f) (s : St) : RLaws n (updS f i s) :=
  ⟨fun j hj => by rw [updS_r]; exact L.pos j hj, fun j hj => by rw [updS_r]; exact L.hand j hj, fun j hj => by rw [updS_r, updS_kids, kl_updS]; exact L.top j hj,
    fun j hj => by rw [updS_r]; exact L.lim j hj, fun j hj => by rw [updS_kids]; exact L.kid j hj, fun j hj => by rw [updS_kids]; exact L.few j hj⟩

theorem Mem.ref (M : Mem w base n f) (L : RLaws n f) (hi : i < n) (hn : n ≤ 9223372036854775807) : RefAt w base (f i).rb (f i).r (kl f (f i).kids) := by
  refine ⟨M.row i hi, ?_, ?_, ?_, ?_, L.hand i hi, ?_, ?_⟩
  · have := M.own i hi
    simpa [kl, List.map_map, Function.comp_def] using this
  · intro k hk
    obtain ⟨j, hj, rfl⟩ := List.mem_map.1 hk
    exact cell_row (M.row j (L.kid i hi j hj).2) 3
  · intro k hk
    obtain ⟨j, hj, rfl⟩ := List.mem_map.1 hk
    exact cell_row (M.row j (L.kid i hi j hj).2) 0
  · intro k hk
    obtain ⟨j, hj, rfl⟩ := List.mem_map.1 hk
    exact L.pos j (L.kid i hi j hj).2
  · have := L.top i hi; have := L.lim i hi; omega
  · simp only [kl, List.length_map]; have := L.few i hi; omega

theorem Mem.ne (M : Mem w base n f) (L : RLaws n f) (hi : i < n) : ∀ k ∈ kl f (f i).kids, k.b ≠ (f i).rb := by
  intro k hk
  obtain ⟨j, hj, rfl⟩ := List.mem_map.1 hk
  have h := L.kid i hi j hj
  intro e
  have := M.rinj j i h.2 hi e
  omega

theorem Mem.pne (M : Mem w base n f) (hi : i < n) : (f i).r.pv.ownBlock ≠ some (f i).rb := M.own_ne hi (M.row i hi) (by decide)

/-- Hand and peak of one turn, on both sides. -/
theorem Laws.turn (L : Laws n f) (hi : i < n) {s' : St} {r' : Rf} (g : s'.Good) (e1 : s'.limit = (f i).s.limit) (e2 : s'.lb = (f i).s.lb) (e3 : s'.whole = (f i).s.whole) (e4 : s'.lent = (f i).s.lent) (e5 : s'.parts = (f i).s.parts) (e6 : s'.closed = (f i).s.closed)
    (d1 : r'.limit = (f i).r.limit) (d2 : r'.opn = (f i).r.opn) (d3 : r'.part = (f i).r.part) (h1 : s'.hand = r'.hand) (h2 : s'.peak = r'.peak) : Laws n (updR (updS f i s') i r') := by
  have ek : ∀ l, kl (updR (updS f i s') i r') l = kl f l := fun l => by rw [kl_updR (by rw [updS_r, d2]) (by rw [updS_r, d1]), kl_updS]
  have kk : ∀ j, (updR (updS f i s') i r' j).kids = (f j).kids := fun j => by rw [updR_kids, updS_kids]
  have es : ∀ j, (updR (updS f i s') i r' j).s = if j = i then s' else (f j).s := fun j => by
    rw [updR_s]; split
    · next h => subst h; rw [updS_at]
    · next h => rw [updS_ne f i s' j h]
  have er : ∀ j, (updR (updS f i s') i r' j).r = if j = i then r' else (f j).r := fun j => by
    split
    · next h => subst h; rw [updR_at]
    · next h => rw [updR_ne _ i r' j h, updS_r]
  have epb : ∀ j, (updR (updS f i s') i r' j).pb = (f j).pb := fun j => by rw [updR_pb, updS_pb]
  have w1 : ∀ j, (if j = i then s' else (f j).s).whole = (f j).s.whole := fun j => by split <;> simp_all
  have w2 : ∀ j, (if j = i then s' else (f j).s).lb = (f j).s.lb := fun j => by split <;> simp_all
  have w3 : ∀ j, (if j = i then r' else (f j).r).opn = (f j).r.opn := fun j => by split <;> simp_all
  have w4 : ∀ j, (if j = i then r' else (f j).r).part = (f j).r.part := fun j => by split <;> simp_all
  refine ⟨fun j hj => ?_, fun j hj => ?_, fun j hj => ?_, fun j hj => ?_, fun j hj => ?_, fun j hj => ?_, fun j hj => ?_, fun j hj => ?_, fun j hj => ?_, fun j hj => ?_, fun j hj => ?_, fun j hj => ?_, ?_, fun j hj => ?_⟩
  · rw [es]; split; exact g; exact L.good j hj
  · rw [es, er]; split
    · next h => subst h; rw [e1, d1]; exact L.lim j hj
    · exact L.lim j hj
  · rw [es, er]; split
    · exact h1
    · exact L.hand j hj
  · rw [es, er]; split
    · exact h2
    · exact L.peak j hj
  · rw [es, er]; split
    · next h => subst h; rw [e6, d2]; exact L.cl j hj
    · exact L.cl j hj
  · rw [es, kk, ek]; split
    · next h => subst h; rw [e4]; exact L.lent j hj
    · exact L.lent j hj
  · rw [es, kk, ek]; split
    · next h => subst h; rw [e5]; exact L.parts j hj
    · exact L.parts j hj
  · rw [es, w1]; exact L.form j hj
  · rw [es, er, w1, w3, w4]; exact L.nilw j hj
  · rw [es, er, w1, w2, w3, w4]
    intro a b
    obtain ⟨p, hp, h3, h4, h5⟩ := L.par j hj a b
    exact ⟨p, hp, by rw [kk]; exact h3, by rw [epb]; exact h4, by rw [es, w2]; exact h5⟩
  · rw [kk]; exact L.kid j hj
  · rw [kk]; exact L.nodup j hj
  · intro a b j ha hb; rw [kk, kk]; exact L.one a b j ha hb
  · rw [kk]; exact L.few j hj

theorem Laws.leave (L : Laws n f) (hi : i < n) (m : Int) : leaveE (f i).s m = leaveR (f i).r (kl f (f i).kids) m := by
  unfold leaveE leaveR
  rw [L.cl i hi, L.lim i hi, L.hand i hi, L.lent i hi]
  cases (f i).r.opn <;> simp

theorem Laws.giveEq (L : Laws n f) (hi : i < n) (m : Int) : giveE (f i).s m = giveR (f i).r m := by
  unfold giveE giveR
  rw [L.cl i hi, L.hand i hi]
  cases (f i).r.opn <;> simp

theorem Laws.take (L : Laws n f) (hi : i < n) (m : Int) : Laws n (updR (updS f i ((f i).s.take m)) i ((f i).r.take (kl f (f i).kids) m)) := by
  have e := L.leave hi m
  by_cases h : leaveE (f i).s m = 0
  · have h' : leaveR (f i).r (kl f (f i).kids) m = 0 := by rw [← e, h]
    have hs : (f i).s.take m = { (f i).s with hand := (f i).s.hand + m, peak := max (f i).s.peak ((f i).s.hand + m + (f i).s.lent) } := by rw [St.take, if_pos h]
    have hr : (f i).r.take (kl f (f i).kids) m = { (f i).r with hand := (f i).r.hand + m, peak := max (f i).r.peak ((f i).r.hand + m + kidsOut (kl f (f i).kids)) } := by rw [Rf.take, if_pos h']
    exact L.turn hi ((L.good i hi).take m) (by rw [hs]) (by rw [hs]) (by rw [hs]) (by rw [hs]) (by rw [hs]) (by rw [hs]) (by rw [hr]) (by rw [hr]) (by rw [hr]) (by rw [hs, hr, L.hand i hi]) (by rw [hs, hr, L.hand i hi, L.peak i hi, L.lent i hi])
  · have h' : ¬ leaveR (f i).r (kl f (f i).kids) m = 0 := by rw [← e]; exact h
    have hs : (f i).s.take m = (f i).s := by rw [St.take, if_neg h]
    have hr : (f i).r.take (kl f (f i).kids) m = (f i).r := by rw [Rf.take, if_neg h']
    rw [hs, hr]
    exact L.turn hi (L.good i hi) rfl rfl rfl rfl rfl rfl rfl rfl rfl (L.hand i hi) (L.peak i hi)

theorem Laws.give (L : Laws n f) (hi : i < n) (m : Int) : Laws n (updR (updS f i ((f i).s.give m)) i ((f i).r.give m)) := by
  have e := L.giveEq hi m
  by_cases h : giveE (f i).s m = 0
  · have h' : giveR (f i).r m = 0 := by rw [← e, h]
    have hs : (f i).s.give m = { (f i).s with hand := (f i).s.hand - m } := by rw [St.give, if_pos h]
    have hr : (f i).r.give m = { (f i).r with hand := (f i).r.hand - m } := by rw [Rf.give, if_pos h']
    exact L.turn hi ((L.good i hi).give m) (by rw [hs]) (by rw [hs]) (by rw [hs]) (by rw [hs]) (by rw [hs]) (by rw [hs]) (by rw [hr]) (by rw [hr]) (by rw [hr]) (by rw [hs, hr, L.hand i hi]) (by rw [hs, hr, L.peak i hi])
  · have h' : ¬ giveR (f i).r m = 0 := by rw [← e]; exact h
    have hs : (f i).s.give m = (f i).s := by rw [St.give, if_neg h]
    have hr : (f i).r.give m = (f i).r := by rw [Rf.give, if_neg h']
    rw [hs, hr]
    exact L.turn hi (L.good i hi) rfl rfl rfl rfl rfl rfl rfl rfl rfl (L.hand i hi) (L.peak i hi)

theorem St.take_lb (s : St) (m : Int) : (s.take m).lb = s.lb := by unfold St.take; split <;> rfl
theorem St.give_lb (s : St) (m : Int) : (s.give m).lb = s.lb := by unfold St.give; split <;> rfl
theorem Rf.take_pv (r : Rf) (l : List Kid) (m : Int) : (r.take l m).pv = r.pv := by unfold Rf.take; split <;> rfl
theorem Rf.give_pv (r : Rf) (m : Int) : (r.give m).pv = r.pv := by unfold Rf.give; split <;> rfl

theorem Mem.pl (M : Mem w base n f) (hi : i < n) : (f i).pb ≠ (f i).s.lb := ne_type (M.pur i hi) (M.lock i hi) (by decide)

theorem Mem.takeP (M : Mem w base n f) (hi : i < n) (g : (f i).s.Good) (m : Int) :
    Calls Try.prog 10 #[ptr (f i).pb, .int .i64 m] w fun e w' => e = .returned (.int .i64 (leaveE (f i).s m)) ∧ Mem w' base n (updS f i ((f i).s.take m)) ∧ Touch [(f i).pb, (f i).s.lb] w w' :=
  (take_any (M.pur i hi) (M.lock i hi) (M.pl hi) g m).mono fun _ _ ⟨he, hp, hl, ht⟩ => ⟨he, M.doS hi hp hl (St.take_lb _ _) ht, ht⟩

theorem Mem.giveP (M : Mem w base n f) (hi : i < n) (g : (f i).s.Good) (m : Int) :
    Calls Try.prog 9 #[ptr (f i).pb, .int .i64 m] w fun e w' => e = .returned (.int .i64 (giveE (f i).s m)) ∧ Mem w' base n (updS f i ((f i).s.give m)) ∧ Touch [(f i).pb, (f i).s.lb] w w' :=
  (give_any (M.pur i hi) (M.lock i hi) (M.pl hi) g m).mono fun _ _ ⟨he, hp, hl, ht⟩ => ⟨he, M.doS hi hp hl (St.give_lb _ _) ht, ht⟩

theorem Mem.takeR (M : Mem w base n f) (L : RLaws n f) (hn : n ≤ 9223372036854775807) (hi : i < n) (m : Int) :
    Calls Try.prog 31 #[ptr (f i).rb, .int .i64 m] w fun e w' => e = .returned (.int .i64 (leaveR (f i).r (kl f (f i).kids) m)) ∧ Mem w' base n (updR f i ((f i).r.take (kl f (f i).kids) m)) ∧ Touch [(f i).rb] w w' :=
  (takeR_any (M.ref L hi hn) (M.ne L hi) (M.pne hi) (L.lim i hi) (L.top i hi) m).mono fun _ _ ⟨he, hr, ht⟩ => ⟨he, M.doR hi hr.row (Rf.take_pv _ _ _) ht, ht⟩

theorem Mem.giveR (M : Mem w base n f) (L : RLaws n f) (hn : n ≤ 9223372036854775807) (hi : i < n) (m : Int) :
    Calls Try.prog 32 #[ptr (f i).rb, .int .i64 m] w fun e w' => e = .returned (.int .i64 (Go.Proofs.Ytbanhpohnhjciaa.giveR (f i).r m)) ∧ Mem w' base n (updR f i ((f i).r.give m)) ∧ Touch [(f i).rb] w w' :=
  (giveR_any (M.ref L hi hn) (M.ne L hi) (M.pne hi) m).mono fun _ _ ⟨he, hr, ht⟩ => ⟨he, M.doR hi hr.row (Rf.give_pv _ _) ht, ht⟩

end
end Go.Proofs.Ytbanhpohnhjciaa
