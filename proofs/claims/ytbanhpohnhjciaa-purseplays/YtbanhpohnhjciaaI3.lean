/-
  sees: the four asks of both sides.
-/
import Derived.Test.YtbanhpohnhjciaaI2
namespace Go.Proofs.Ytbanhpohnhjciaa
open Go.RowKit Go.MuLone

theorem updS_same (f : Nat → Nd) (i : Nat) : updS f i (f i).s = f := by
  funext j
  unfold updS upd
  split
  · next h => subst h; rfl
  · rfl

section
variable {w w' : World} {base n : Nat} {f : Nat → Nd} {i : Nat}

theorem Mem.askS (M : Mem w base n f) (hi : i < n) (hp : PurseAt w' (f i).pb (f i).s) (hl : LockAt w' (f i).s.lb 0) (t : Touch [(f i).pb, (f i).s.lb] w w') : Mem w' base n f := by
  have := M.doS hi hp hl rfl t
  rwa [updS_same] at this

/-- The asks of one purse, on both sides. -/
structure Asks (base n : Nat) (f : Nat → Nd) (pb lb rb : Nat) (l u v p : Int) : Prop where
  k14 : ∀ W, Mem W base n f → Calls Try.prog 14 #[ptr pb] W fun e w' => e = .returned (.int .i64 l) ∧ W = w'
  k34 : ∀ W, Mem W base n f → Calls Try.prog 34 #[ptr rb] W fun e w' => e = .returned (.int .i64 l) ∧ W = w'
  k11 : ∀ W, Mem W base n f → Calls Try.prog 11 #[ptr pb] W fun e w' => e = .returned (.int .i64 u) ∧ Mem w' base n f ∧ Touch [pb, lb] W w'
  k35 : ∀ W, Mem W base n f → Calls Try.prog 35 #[ptr rb] W fun e w' => e = .returned (.int .i64 u) ∧ W = w'
  k12 : ∀ W, Mem W base n f → Calls Try.prog 12 #[ptr pb] W fun e w' => e = .returned (.int .i64 v) ∧ Mem w' base n f ∧ Touch [pb, lb] W w'
  k36 : ∀ W, Mem W base n f → Calls Try.prog 36 #[ptr rb] W fun e w' => e = .returned (.int .i64 v) ∧ Mem w' base n f ∧ Touch [pb, lb] W w'
  k13 : ∀ W, Mem W base n f → Calls Try.prog 13 #[ptr pb] W fun e w' => e = .returned (.int .i64 p) ∧ W = w'
  k37 : ∀ W, Mem W base n f → Calls Try.prog 37 #[ptr rb] W fun e w' => e = .returned (.int .i64 p) ∧ W = w'

theorem Laws.asks (L : Laws n f) (hn : n ≤ 9223372036854775807) (hi : i < n) : ∃ l u v p, Asks base n f (f i).pb (f i).s.lb (f i).rb l u v p := by
  have R := L.ref
  have e1 := L.lim i hi
  have e2 : (f i).s.hand + (f i).s.lent = (f i).r.hand + kidsOut (kl f (f i).kids) := by rw [L.hand i hi, L.lent i hi]
  have e3 : (f i).s.free = if (f i).r.opn then (f i).r.limit - ((f i).r.hand + kidsOut (kl f (f i).kids)) else 0 := by
    unfold St.free
    rw [L.cl i hi, e2, e1]
    cases (f i).r.opn <;> simp
  have e4 := L.peak i hi
  refine ⟨(f i).s.limit, (f i).s.hand + (f i).s.lent, (f i).s.free, (f i).s.peak, ⟨?_, ?_, ?_, ?_, ?_, ?_, ?_, ?_⟩⟩
  · exact fun W M => (limit_any (M.pur i hi)).mono fun _ _ x => ⟨x.1, x.2.symm⟩
  · exact fun W M => (limitR_any (M.row i hi)).mono fun _ _ x => ⟨by rw [e1]; exact x.1, x.2.symm⟩
  · exact fun W M => (used_any (M.pur i hi) (M.lock i hi) (M.pl hi) (L.good i hi)).mono fun _ _ ⟨he, hp, hl, ht⟩ => ⟨he, M.askS hi hp hl ht, ht⟩
  · exact fun W M => (usedR_any (M.ref R hi hn)).mono fun _ _ x => ⟨by rw [e2]; exact x.1, x.2.symm⟩
  · exact fun W M => (Free_any (M.pur i hi) (M.lock i hi) (M.pl hi) (L.good i hi)).mono fun _ _ ⟨he, hp, hl, ht⟩ => ⟨he, M.askS hi hp hl ht, ht⟩
  · exact fun W M => (freeR_any (M.ref R hi hn) (R.lim i hi) (R.top i hi)).mono fun _ _ ⟨he, k, hk⟩ => by
      subst hk
      exact ⟨by rw [e3]; exact he, M.keep (F := []) ((Touch.refl [] W).drewN k) (by simp), (Touch.refl _ W).drewN k⟩
  · exact fun W M => (peak_any (M.pur i hi)).mono fun _ _ x => ⟨x.1, x.2.symm⟩
  · exact fun W M => (peakR_any (M.row i hi)).mono fun _ _ x => ⟨by rw [e4]; exact x.1, x.2.symm⟩

set_option maxHeartbeats 1000000 in
theorem sees_walk {pb lb rb : Nat} {l u v p : Int} (A : Asks base n f pb lb rb l u v p) (M : Mem w base n f) :
    Calls Try.prog 20 #[ptr pb, ptr rb] w fun e w' => e = .returned (.bool true) ∧ Mem w' base n f ∧ Touch [pb, lb] w w' := by
  have HA := hid A
  have M0 := hid M
  clear A M
  go_enter Try.func20, Try.ntmps20
  go_wp2_with (first
    | (go_at_call 37; with_reducible refine Calls.mono (HA.out.k37 _ M3.out) ?_; rintro _ _ ⟨rfl, rfl⟩)
    | (go_at_call 13; with_reducible refine Calls.mono (HA.out.k13 _ M3.out) ?_; rintro _ _ ⟨rfl, rfl⟩)
    | (go_at_call 36; with_reducible refine Calls.mono (HA.out.k36 _ M2.out) ?_; rintro _ w3 ⟨rfl, m3, t3⟩; have M3 := hid m3; have T3 := hid t3; clear m3 t3)
    | (go_at_call 12; with_reducible refine Calls.mono (HA.out.k12 _ M1.out) ?_; rintro _ w2 ⟨rfl, m2, t2⟩; have M2 := hid m2; have T2 := hid t2; clear m2 t2)
    | (go_at_call 35; with_reducible refine Calls.mono (HA.out.k35 _ M1.out) ?_; rintro _ _ ⟨rfl, rfl⟩)
    | (go_at_call 11; with_reducible refine Calls.mono (HA.out.k11 _ M0.out) ?_; rintro _ w1 ⟨rfl, m1, t1⟩; have M1 := hid m1; have T1 := hid t1; clear m1 t1)
    | (go_at_call 34; with_reducible refine Calls.mono (HA.out.k34 _ M0.out) ?_; rintro _ _ ⟨rfl, rfl⟩)
    | (go_at_call 14; with_reducible refine Calls.mono (HA.out.k14 _ M0.out) ?_; rintro _ _ ⟨rfl, rfl⟩))
  go_ret
  exact ⟨rfl, M3.out, (T1.out.trans T2.out (fun x hx => .inl hx)).trans T3.out (fun x hx => .inl hx)⟩

theorem sees_any (M : Mem w base n f) (L : Laws n f) (hn : n ≤ 9223372036854775807) (hi : i < n) :
    Calls Try.prog 20 #[ptr (f i).pb, ptr (f i).rb] w fun e w' => e = .returned (.bool true) ∧ Mem w' base n f ∧ Touch [(f i).pb, (f i).s.lb] w w' := by
  obtain ⟨l, u, v, p, A⟩ := L.asks (base := base) hn hi
  exact sees_walk A M
end

/-! ### Close -/
theorem kids_mem {l : List Kid} (h : ∀ k ∈ l, 0 ≤ k.n) {k : Kid} (hk : k ∈ l) (ho : k.opn = true) : k.n ≤ kidsOut l := by
  induction l with
  | nil => cases hk
  | cons a l ih =>
    have hl : 0 ≤ kidsOut l := kids_nonneg fun k hk => h k (List.mem_cons_of_mem _ hk)
    have ha : 0 ≤ a.n := h a (List.mem_cons_self ..)
    simp only [kidsOut]
    rcases List.mem_cons.1 hk with rfl | hk
    · simp [ho]; omega
    · have := ih (fun k hk => h k (List.mem_cons_of_mem _ hk)) hk
      split <;> omega

theorem opens_nonneg (l : List Kid) : 0 ≤ openCnt l := by
  induction l with
  | nil => simp [openCnt]
  | cons a l ih => simp only [openCnt]; split <;> omega

theorem opens_mem {l : List Kid} {k : Kid} (hk : k ∈ l) (ho : k.opn = true) : 1 ≤ openCnt l := by
  induction l with
  | nil => cases hk
  | cons a l ih =>
    have := opens_nonneg l
    simp only [openCnt]
    rcases List.mem_cons.1 hk with rfl | hk
    · simp [ho]; omega
    · have := ih hk
      split <;> omega

theorem opens_any (l : List Kid) : (l.any fun k => k.opn) = decide (0 < openCnt l) := by
  induction l with
  | nil => simp [openCnt]
  | cons a l ih =>
    have := opens_nonneg l
    simp only [List.any_cons, openCnt, ih]
    by_cases h : a.opn = true
    · simp [h]; omega
    · simp at h
      simp [h]

theorem opens_le (l : List Kid) : openCnt l ≤ l.length := by
  induction l with
  | nil => simp [openCnt]
  | cons a l ih => simp only [openCnt, List.length_cons]; split <;> omega

section
variable {w w' : World} {base n : Nat} {f : Nat → Nd} {i p : Nat}

/-- One node's flag falls: what the others count. -/
theorem kl_shut_out (f : Nat → Nd) {i : Nat} {r' : Rf} {l : List Nat} (h : i ∉ l) : kl (updR f i r') l = kl f l := by
  unfold kl
  refine List.map_congr_left fun j hj => ?_
  have e : j ≠ i := fun e => h (e ▸ hj)
  rw [updR_rb, updR_ne f i r' j e]

theorem kl_cons (f : Nat → Nd) (a : Nat) (l : List Nat) : kl f (a :: l) = ⟨(f a).rb, (f a).r.opn, (f a).r.limit⟩ :: kl f l := rfl

theorem kl_shut_in (f : Nat → Nd) {i : Nat} {r' : Rf} (ho : (f i).r.opn = true) (hs : r'.opn = false) : ∀ {l : List Nat}, l.Nodup → i ∈ l →
    kidsOut (kl (updR f i r') l) = kidsOut (kl f l) - (f i).r.limit ∧ openCnt (kl (updR f i r') l) = openCnt (kl f l) - 1
  | [], _, h => by cases h
  | a :: l, hd, h => by
    rw [List.nodup_cons] at hd
    by_cases e : a = i
    · subst e
      have ht := kl_shut_out f (r' := r') hd.1
      have e1 : kl (updR f a r') (a :: l) = ⟨(f a).rb, false, r'.limit⟩ :: kl f l := by
        rw [kl_cons, ht, updR_rb, updR_at, hs]
      have e2 : kl f (a :: l) = ⟨(f a).rb, true, (f a).r.limit⟩ :: kl f l := by
        rw [kl_cons, ho]
      rw [e1, e2]
      simp only [kidsOut, openCnt]
      constructor <;> simp <;> omega
    · have hm : i ∈ l := by
        rcases List.mem_cons.1 h with h | h
        · exact absurd h.symm e
        · exact h
      have ih := kl_shut_in f ho hs hd.2 hm
      have e1 : kl (updR f i r') (a :: l) = ⟨(f a).rb, (f a).r.opn, (f a).r.limit⟩ :: kl (updR f i r') l := by
        rw [kl_cons, updR_rb, updR_ne f i r' a e]
      have e2 : kl f (a :: l) = ⟨(f a).rb, (f a).r.opn, (f a).r.limit⟩ :: kl f l := rfl
      rw [e1, e2]
      simp only [kidsOut, openCnt, ih.1, ih.2]
      constructor <;> omega

theorem Laws.closeEq (L : Laws n f) (hi : i < n) : closeE (f i).s = closeR (f i).r (kl f (f i).kids) := by
  unfold closeE closeR
  rw [L.cl i hi, opens_any, ← L.parts i hi, L.hand i hi]
  by_cases ho : (f i).r.opn = true
  · rw [L.nilw i hi ho, ho]
    cases (f i).r.part
    · simp
    · by_cases a : 0 < (f i).r.hand <;> by_cases b : 0 < (f i).s.parts <;> simp [a, b]
  · simp at ho
    simp [ho]
end

end Go.Proofs.Ytbanhpohnhjciaa
