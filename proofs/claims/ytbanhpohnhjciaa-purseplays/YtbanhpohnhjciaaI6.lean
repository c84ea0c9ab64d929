/-
  New and Part, of both sides: one node more.
-/
import Derived.Test.YtbanhpohnhjciaaI5
namespace Go.Proofs.Ytbanhpohnhjciaa
open Go.RowKit Go.MuLone

section
variable {w w' w1 w2 : World} {base n : Nat} {f : Nat → Nd} {i p : Nat}

theorem kl_congr {f g : Nat → Nd} {l : List Nat} (h : ∀ j ∈ l, (g j).rb = (f j).rb ∧ (g j).r.opn = (f j).r.opn ∧ (g j).r.limit = (f j).r.limit) : kl g l = kl f l := by
  unfold kl
  refine List.map_congr_left fun j hj => ?_
  obtain ⟨a, b, c⟩ := h j hj
  rw [a, b, c]

/-- A node by itself. -/
theorem Mem.snoc (M : Mem w base n f) (L : RLaws n f) {pb rb : Nat} {s : St} {r : Rf} (hp : PurseAt w pb s) (hl : LockAt w s.lb 0) (hr : w.heap[rb]? = some (.cells r.row 69 (0, 0))) (hv : r.pv = .slice none 0 0)
    (np : ∀ j, j < n → (f j).pb ≠ pb) (nr : ∀ j, j < n → (f j).rb ≠ rb) (lo : base ≤ pb ∧ base ≤ s.lb ∧ base ≤ rb) : Mem w base (n + 1) (upd f n ⟨pb, rb, s, r, []⟩) := by
  have e1 : ∀ j, j < n → upd f n ⟨pb, rb, s, r, []⟩ j = f j := fun j hj => upd_ne (by omega)
  have e2 : upd f n ⟨pb, rb, s, r, []⟩ n = ⟨pb, rb, s, r, []⟩ := upd_at _ _ _
  have cs : ∀ j, j < n + 1 → j < n ∨ j = n := fun j hj => by omega
  refine ⟨fun j hj => ?_, fun j hj => ?_, fun j hj => ?_, fun j hj => ?_, fun j k hj hk h => ?_, fun j k hj hk h => ?_, fun j k hj hk h => ?_, fun j hj => ?_⟩
  · rcases cs j hj with h | rfl
    · rw [e1 j h]; exact M.pur j h
    · rw [e2]; exact hp
  · rcases cs j hj with h | rfl
    · rw [e1 j h]; exact M.lock j h
    · rw [e2]; exact hl
  · rcases cs j hj with h | rfl
    · rw [e1 j h]; exact M.row j h
    · rw [e2]; exact hr
  · rcases cs j hj with h | rfl
    · rw [e1 j h]
      have : ((f j).kids.map fun k => ptr (upd f n ⟨pb, rb, s, r, []⟩ k).rb) = (f j).kids.map fun k => ptr (f k).rb := List.map_congr_left fun k hk => by rw [e1 k (L.kid j h k hk).2]
      rw [this]
      exact M.own j h
    · rw [e2]
      simp only [hv]
      exact World.ownsRow_nil w base 44 1
  · rcases cs j hj with hj | rfl <;> rcases cs k hk with hk | rfl
    · rw [e1 j hj, e1 k hk] at h; exact M.pinj j k hj hk h
    · rw [e1 j hj, e2] at h; exact absurd h (np j hj)
    · rw [e1 k hk, e2] at h; exact absurd h.symm (np k hk)
    · rfl
  · rcases cs j hj with hj | rfl <;> rcases cs k hk with hk | rfl
    · rw [e1 j hj, e1 k hk] at h; exact M.rinj j k hj hk h
    · rw [e1 j hj, e2] at h; exact absurd h (nr j hj)
    · rw [e1 k hk, e2] at h; exact absurd h.symm (nr k hk)
    · rfl
  · intro x
    rcases cs j hj with hj | rfl <;> rcases cs k hk with hk | rfl
    · rw [e1 j hj, e1 k hk]; exact M.oinj j k hj hk h x
    · rw [e2]; simp only [hv]; intro _ hx; cases hx
    · rw [e2]; simp only [hv]; intro hx; cases hx
    · exact absurd rfl h
  · rcases cs j hj with h | rfl
    · rw [e1 j h]; exact M.plo j h
    · rw [e2]; exact lo

theorem Laws.snoc (L : Laws n f) {pb rb lb : Nat} {m : Int} (h0 : 0 ≤ m) (h1 : m ≤ 9223372036854775807) : Laws (n + 1) (upd f n ⟨pb, rb, .new m lb, ⟨m, 0, 0, true, false, .slice none 0 0⟩, []⟩) := by
  obtain ⟨x, hx⟩ : ∃ x : Nd, x = ⟨pb, rb, .new m lb, ⟨m, 0, 0, true, false, .slice none 0 0⟩, []⟩ := ⟨_, rfl⟩
  rw [← hx]
  have e1 : ∀ j, j < n → upd f n x j = f j := fun j hj => upd_ne (by omega)
  have e2 : upd f n x n = x := upd_at _ _ _
  have ek : ∀ j, j < n → kl (upd f n x) (f j).kids = kl f (f j).kids := fun j hj => kl_congr fun k hk => by rw [e1 k (L.kid j hj k hk).2]; exact ⟨rfl, rfl, rfl⟩
  have cs : ∀ j, j < n + 1 → j < n ∨ j = n := fun j hj => by omega
  refine ⟨fun j hj => ?_, fun j hj => ?_, fun j hj => ?_, fun j hj => ?_, fun j hj => ?_, fun j hj => ?_, fun j hj => ?_, fun j hj => ?_, fun j hj => ?_, fun j hj => ?_, fun j hj => ?_, fun j hj => ?_, ?_, fun j hj => ?_⟩
  · rcases cs j hj with h | rfl
    · rw [e1 j h]; exact L.good j h
    · rw [e2, hx]; exact St.Good.new h0 h1 lb
  · rcases cs j hj with h | rfl
    · rw [e1 j h]; exact L.lim j h
    · rw [e2, hx]
  · rcases cs j hj with h | rfl
    · rw [e1 j h]; exact L.hand j h
    · rw [e2, hx]
  · rcases cs j hj with h | rfl
    · rw [e1 j h]; exact L.peak j h
    · rw [e2, hx]
  · rcases cs j hj with h | rfl
    · rw [e1 j h]; exact L.cl j h
    · rw [e2, hx]; rfl
  · rcases cs j hj with h | rfl
    · rw [e1 j h, ek j h]; exact L.lent j h
    · rw [e2, hx]; rfl
  · rcases cs j hj with h | rfl
    · rw [e1 j h, ek j h]; exact L.parts j h
    · rw [e2, hx]; rfl
  · rcases cs j hj with h | rfl
    · rw [e1 j h]; exact L.form j h
    · rw [e2, hx]; exact .inl rfl
  · rcases cs j hj with h | rfl
    · rw [e1 j h]; exact L.nilw j h
    · rw [e2, hx]; intro _; rfl
  · rcases cs j hj with h | rfl
    · rw [e1 j h]
      intro a b
      obtain ⟨q, hq, h3, h4, h5⟩ := L.par j h a b
      exact ⟨q, by omega, by rw [e1 q hq]; exact h3, by rw [e1 q hq]; exact h4, by rw [e1 q hq]; exact h5⟩
    · rw [e2, hx]; intro _ h; cases h
  · rcases cs j hj with h | rfl
    · rw [e1 j h]; intro k hk; have := L.kid j h k hk; omega
    · rw [e2, hx]; intro k hk; cases hk
  · rcases cs j hj with h | rfl
    · rw [e1 j h]; exact L.nodup j h
    · rw [e2, hx]; exact List.nodup_nil
  · intro a b j ha hb
    rcases cs a ha with ha | rfl
    · rcases cs b hb with hb | rfl
      · rw [e1 a ha, e1 b hb]; exact L.one a b j ha hb
      · rw [e2, hx]; intro _ h; cases h
    · rw [e2, hx]; intro h; cases h
  · rcases cs j hj with h | rfl
    · rw [e1 j h]; have := L.few j h; omega
    · rw [e2, hx]; exact Nat.zero_le _

/-- The node that parts, and the part. -/
def grow (f : Nat → Nd) (i n : Nat) (m : Int) (q rb : Nat) (pv : Value) : Nat → Nd :=
  upd (upd f i { f i with s := (f i).s.lend m, r := { (f i).r with pv := pv, peak := max (f i).r.peak ((f i).r.hand + (kidsOut (kl f (f i).kids) + m)) }, kids := (f i).kids ++ [n] }) n ⟨q, rb, .part m (f i).s.lb (f i).pb, Rf.kid m, []⟩

theorem grow_n (f : Nat → Nd) (i n : Nat) (m : Int) (q rb : Nat) (pv : Value) : grow f i n m q rb pv n = ⟨q, rb, .part m (f i).s.lb (f i).pb, Rf.kid m, []⟩ := upd_at _ _ _
theorem grow_i (f : Nat → Nd) {i n : Nat} (m : Int) (q rb : Nat) (pv : Value) (h : i < n) : grow f i n m q rb pv i = { f i with s := (f i).s.lend m, r := { (f i).r with pv := pv, peak := max (f i).r.peak ((f i).r.hand + (kidsOut (kl f (f i).kids) + m)) }, kids := (f i).kids ++ [n] } := by
  unfold grow; rw [upd_ne (by omega), upd_at]
theorem grow_j (f : Nat → Nd) {i n j : Nat} (m : Int) (q rb : Nat) (pv : Value) (h : j < n) (e : j ≠ i) : grow f i n m q rb pv j = f j := by
  unfold grow; rw [upd_ne (by omega), upd_ne e]

theorem grow_keeps (f : Nat → Nd) {i n j : Nat} (m : Int) (q rb : Nat) (pv : Value) (hi : i < n) (h : j < n) :
    (grow f i n m q rb pv j).pb = (f j).pb ∧ (grow f i n m q rb pv j).rb = (f j).rb ∧ (grow f i n m q rb pv j).s.lb = (f j).s.lb ∧ (grow f i n m q rb pv j).s.whole = (f j).s.whole ∧ (grow f i n m q rb pv j).s.closed = (f j).s.closed ∧ (grow f i n m q rb pv j).s.limit = (f j).s.limit ∧
    (grow f i n m q rb pv j).r.opn = (f j).r.opn ∧ (grow f i n m q rb pv j).r.limit = (f j).r.limit ∧ (grow f i n m q rb pv j).r.part = (f j).r.part ∧ (grow f i n m q rb pv j).r.hand = (f j).r.hand ∧ (grow f i n m q rb pv j).s.hand = (f j).s.hand := by
  by_cases e : j = i
  · subst e; rw [grow_i f m q rb pv hi]; exact ⟨rfl, rfl, rfl, rfl, rfl, rfl, rfl, rfl, rfl, rfl, rfl⟩
  · rw [grow_j f m q rb pv h e]; exact ⟨rfl, rfl, rfl, rfl, rfl, rfl, rfl, rfl, rfl, rfl, rfl⟩

theorem kids_snoc (l : List Kid) (k : Kid) : openCnt (l ++ [k]) = openCnt l + (if k.opn then 1 else 0) := by
  induction l with
  | nil => simp [openCnt]
  | cons a l ih => simp only [List.cons_append, openCnt, ih]; omega

theorem Laws.grow (L : Laws n f) (hi : i < n) {m : Int} (he : leaveE (f i).s m = 0) (hn : n < 4611686018427387904) (q rb : Nat) (pv : Value) : Laws (n + 1) (grow f i n m q rb pv) := by
  obtain ⟨f', hf'⟩ : ∃ f', f' = Go.Proofs.Ytbanhpohnhjciaa.grow f i n m q rb pv := ⟨_, rfl⟩
  rw [← hf']
  have en : f' n = ⟨q, rb, .part m (f i).s.lb (f i).pb, Rf.kid m, []⟩ := by rw [hf', grow_n]
  have ei : f' i = { f i with s := (f i).s.lend m, r := { (f i).r with pv := pv, peak := max (f i).r.peak ((f i).r.hand + (kidsOut (kl f (f i).kids) + m)) }, kids := (f i).kids ++ [n] } := by rw [hf', grow_i f m q rb pv hi]
  have ej : ∀ j, j < n → j ≠ i → f' j = f j := fun j hj e => by rw [hf', grow_j f m q rb pv hj e]
  have eg : ∀ j, j < n → _ := fun j hj => grow_keeps f (j := j) m q rb pv hi hj
  rw [← hf'] at eg
  have ek : ∀ j, j < n → kl f' (f j).kids = kl f (f j).kids := fun j hj => kl_congr fun k hk => by
    have := eg k (L.kid j hj k hk).2
    exact ⟨this.2.1, this.2.2.2.2.2.2.1, this.2.2.2.2.2.2.2.1⟩
  have eki : kl f' ((f i).kids ++ [n]) = kl f (f i).kids ++ [⟨rb, true, m⟩] := by
    have : kl f' ((f i).kids ++ [n]) = kl f' (f i).kids ++ kl f' [n] := by simp [kl]
    rw [this, ek i hi]
    show _ ++ [_] = _
    simp only [en]
  have cs : ∀ j, j < n + 1 → j = n ∨ j = i ∨ (j < n ∧ j ≠ i) := fun j hj => by omega
  have hp : (f i).s.parts < 4611686018427387904 := by
    have h1 := L.parts i hi
    have h2 := opens_le (kl f (f i).kids)
    have h3 := L.few i hi
    simp only [kl, List.length_map] at h2
    rw [h1]
    have : openCnt (kl f (f i).kids) ≤ (n : Int) := Int.le_trans h2 (by exact_mod_cast h3)
    omega
  have hm : 0 ≤ m ∧ m ≤ (f i).s.limit - ((f i).s.hand + (f i).s.lent) := by
    unfold leaveE at he
    split at he
    · omega
    · split at he
      · omega
      · split at he
        · omega
        · omega
  have gi := L.good i hi
  refine ⟨fun j hj => ?_, fun j hj => ?_, fun j hj => ?_, fun j hj => ?_, fun j hj => ?_, fun j hj => ?_, fun j hj => ?_, fun j hj => ?_, fun j hj => ?_, fun j hj => ?_, fun j hj => ?_, fun j hj => ?_, ?_, fun j hj => ?_⟩
  · rcases cs j hj with rfl | rfl | ⟨h, e⟩
    · rw [en]
      have a1 := gi.hand; have a2 := gi.lent; have a3 := gi.limit
      exact ⟨Int.le_refl _, Int.le_refl _, by show 0 + 0 ≤ m; omega, by show m ≤ _; omega, Int.le_refl _, by show (0 : Int) ≤ _; omega, by show (0 : Int) + 0 ≤ 0; omega, by show (0 : Int) ≤ m; omega⟩
    · rw [ei]; exact gi.lend he hp
    · rw [ej j h e]; exact L.good j h
  · rcases cs j hj with rfl | rfl | ⟨h, e⟩
    · rw [en]
    · rw [ei]; exact L.lim _ hi
    · rw [ej j h e]; exact L.lim j h
  · rcases cs j hj with rfl | rfl | ⟨h, e⟩
    · rw [en]
    · rw [ei]; exact L.hand _ hi
    · rw [ej j h e]; exact L.hand j h
  · rcases cs j hj with rfl | rfl | ⟨h, e⟩
    · rw [en]
    · rw [ei]
      show max (f j).s.peak ((f j).s.hand + ((f j).s.lent + m)) = max (f j).r.peak ((f j).r.hand + (kidsOut (kl f (f j).kids) + m))
      rw [L.peak j hi, L.hand j hi, L.lent j hi]
    · rw [ej j h e]; exact L.peak j h
  · rcases cs j hj with rfl | rfl | ⟨h, e⟩
    · rw [en]; rfl
    · rw [ei]; exact L.cl _ hi
    · rw [ej j h e]; exact L.cl j h
  · rcases cs j hj with rfl | rfl | ⟨h, e⟩
    · rw [en]; rfl
    · rw [ei]
      show (f j).s.lent + m = kidsOut (kl f' ((f j).kids ++ [n]))
      rw [eki, kids_append, L.lent j hi]
      simp [kidsOut]
    · rw [ej j h e, ek j h]; exact L.lent j h
  · rcases cs j hj with rfl | rfl | ⟨h, e⟩
    · rw [en]; rfl
    · rw [ei]
      show (f j).s.parts + 1 = openCnt (kl f' ((f j).kids ++ [n]))
      rw [eki, kids_snoc, L.parts j hi]
      simp
    · rw [ej j h e, ek j h]; exact L.parts j h
  · rcases cs j hj with rfl | rfl | ⟨h, e⟩
    · rw [en]; exact .inr ⟨_, rfl⟩
    · rw [ei]; exact L.form _ hi
    · rw [ej j h e]; exact L.form j h
  · rcases cs j hj with rfl | rfl | ⟨h, e⟩
    · rw [en]; intro _; rfl
    · rw [ei]; exact L.nilw _ hi
    · rw [ej j h e]; exact L.nilw j h
  · by_cases hjn : j = n
    · subst hjn
      rw [en]
      intro _ _
      exact ⟨i, by omega, by rw [ei]; simp, by rw [ei], by rw [ei]; rfl⟩
    · have hj' : j < n := by omega
      have g := eg j hj'
      rw [g.2.2.2.2.2.2.1, g.2.2.2.2.2.2.2.2.1, g.2.2.2.1, g.2.2.1]
      intro a b
      obtain ⟨p, hp, h3, h4, h5⟩ := L.par j hj' a b
      have gp := eg p hp
      refine ⟨p, by omega, ?_, by rw [gp.1]; exact h4, by rw [gp.2.2.1]; exact h5⟩
      by_cases e : p = i
      · subst e; rw [ei]; exact List.mem_append_left _ h3
      · rw [ej p hp e]; exact h3
  · rcases cs j hj with rfl | rfl | ⟨h, e⟩
    · rw [en]; intro k hk; cases hk
    · rw [ei]
      intro k hk
      rcases List.mem_append.1 hk with hk | hk
      · have := L.kid j hi k hk; omega
      · simp at hk; omega
    · rw [ej j h e]; intro k hk; have := L.kid j h k hk; omega
  · rcases cs j hj with rfl | rfl | ⟨h, e⟩
    · rw [en]; exact List.nodup_nil
    · rw [ei]
      show ((f j).kids ++ [n]).Nodup
      rw [List.nodup_append]
      refine ⟨L.nodup j hi, by simp, ?_⟩
      intro a ha b hb
      simp at hb
      have := L.kid j hi a ha
      omega
    · rw [ej j h e]; exact L.nodup j h
  · have old : ∀ a k, a < n + 1 → k ∈ (f' a).kids → (k = n ∧ a = i) ∨ (a < n ∧ k ∈ (f a).kids ∧ k < n) := by
      intro a k ha hk
      rcases cs a ha with rfl | rfl | ⟨h, e⟩
      · rw [en] at hk; cases hk
      · rw [ei] at hk
        rcases List.mem_append.1 hk with hk | hk
        · exact .inr ⟨hi, hk, (L.kid _ hi k hk).2⟩
        · simp at hk; exact .inl ⟨hk, rfl⟩
      · rw [ej a h e] at hk; exact .inr ⟨h, hk, (L.kid a h k hk).2⟩
    intro a b k ha hb h1 h2
    rcases old a k ha h1 with ⟨x1, x2⟩ | ⟨x1, x2, x3⟩ <;> rcases old b k hb h2 with ⟨y1, y2⟩ | ⟨y1, y2, y3⟩
    · rw [x2, y2]
    · omega
    · omega
    · exact L.one a b k x1 y1 x2 y2
  · rcases cs j hj with rfl | rfl | ⟨h, e⟩
    · rw [en]; exact Nat.zero_le _
    · rw [ei]
      show ((f j).kids ++ [n]).length ≤ n + 1
      have := L.few j hi
      simp
      omega
    · rw [ej j h e]; have := L.few j h; omega

/-- Memory behind a Part of both sides. -/
theorem Mem.grow {m : Int} (M : Mem w1 base n (updS f i ((f i).s.lend m))) (L : Laws n f) (hi : i < n) {q : Nat} (hq : PurseAt w1 q (.part m (f i).s.lb (f i).pb)) (nq : ∀ j, j < n → (f j).pb ≠ q) (hlo : base ≤ q ∧ base ≤ w1.heap.size) {g cap : Nat}
    (hR : RefAt w2 base (f i).rb { (f i).r with pv := .slice (some ⟨g, 0, none⟩) ((kl f (f i).kids).length + 1) cap, peak := max (f i).r.peak ((f i).r.hand + (kidsOut (kl f (f i).kids) + m)) } (kl f (f i).kids ++ [⟨w1.heap.size, true, m⟩]))
    (hrow : w2.heap[w1.heap.size]? = some (partO m)) (hg : (f i).r.pv.ownBlock = some g ∨ w1.heap.size < g) (t : Touch ((f i).rb :: (f i).r.pv.ownBlock.toList) w1 w2) :
    Mem w2 base (n + 1) (grow f i n m q w1.heap.size (.slice (some ⟨g, 0, none⟩) ((kl f (f i).kids).length + 1) cap)) := by
  obtain ⟨pv, hpv⟩ : ∃ pv, pv = Value.slice (some ⟨g, 0, none⟩) ((kl f (f i).kids).length + 1) cap := ⟨_, rfl⟩
  rw [← hpv] at hR ⊢
  have hpo : pv.ownBlock = some g := by rw [hpv]; rfl
  obtain ⟨f', hf'⟩ : ∃ f', f' = Go.Proofs.Ytbanhpohnhjciaa.grow f i n m q w1.heap.size pv := ⟨_, rfl⟩
  rw [← hf']
  have en : f' n = ⟨q, w1.heap.size, .part m (f i).s.lb (f i).pb, Rf.kid m, []⟩ := by rw [hf', grow_n]
  have ei : f' i = { f i with s := (f i).s.lend m, r := { (f i).r with pv := pv, peak := max (f i).r.peak ((f i).r.hand + (kidsOut (kl f (f i).kids) + m)) }, kids := (f i).kids ++ [n] } := by rw [hf', grow_i f m q _ pv hi]
  have ej : ∀ j, j < n → j ≠ i → f' j = f j := fun j hj e => by rw [hf', grow_j f m q _ pv hj e]
  have eg : ∀ j, j < n → _ := fun j hj => grow_keeps f (j := j) m q w1.heap.size pv hi hj
  rw [← hf'] at eg
  have es : ∀ j, j < n → (f' j).s = (updS f i ((f i).s.lend m) j).s := fun j hj => by
    by_cases e : j = i
    · subst e; rw [ei, updS_at]
    · rw [ej j hj e, updS_ne f i _ j e]
  have elb : ∀ j, (updS f i ((f i).s.lend m) j).s.lb = (f j).s.lb := fun j => by
    by_cases e : j = i
    · subst e; rw [updS_at]; rfl
    · rw [updS_ne f i _ j e]
  have pur1 : ∀ j, j < n → PurseAt w1 (f j).pb (updS f i ((f i).s.lend m) j).s := fun j hj => by have := M.pur j hj; rwa [updS_pb] at this
  have lock1 : ∀ j, j < n → LockAt w1 (f j).s.lb 0 := fun j hj => by have := M.lock j hj; rwa [elb] at this
  have row1 : ∀ j, j < n → w1.heap[(f j).rb]? = some (.cells (f j).r.row 69 (0, 0)) := fun j hj => by have := M.row j hj; rwa [updS_rb, updS_r] at this
  have own1 : ∀ j, j < n → w1.ownsRow base 44 1 (f j).r.pv (f j).kids.length ((f j).kids.map fun k => ptr (f k).rb) := fun j hj => by have := M.own j hj; simpa only [updS_r, updS_kids, updS_rb] using this
  have rinj1 : ∀ a b, a < n → b < n → (f a).rb = (f b).rb → a = b := fun a b ha hb h => M.rinj a b ha hb (by rw [updS_rb, updS_rb]; exact h)
  have oinj1 : ∀ a b, a < n → b < n → a ≠ b → ∀ k, (f a).r.pv.ownBlock = some k → (f b).r.pv.ownBlock ≠ some k := fun a b ha hb h k hk => by
    have := M.oinj a b ha hb h k (by rw [updS_r]; exact hk)
    rwa [updS_r] at this
  have notF : ∀ {b : Nat} {c : Array Value} {ty : TypeId} {z : Nat × Nat}, w1.heap[b]? = some (.cells c ty z) → ty ≠ 69 → ty ≠ 44 → b ∉ (f i).rb :: (f i).r.pv.ownBlock.toList := fun {b c ty z} h h1 h2 hb => by
    rcases List.mem_cons.1 hb with hb | hb
    · exact ne_type h (row1 i hi) h1 hb
    · simp at hb
      obtain ⟨c', z', h'⟩ := own_type (own1 i hi) hb
      exact ne_type h h' h2 rfl
  have rlt : ∀ j, j < n → (f j).rb < w1.heap.size := fun j hj => lt_of_block (row1 j hj)
  have cs : ∀ j, j < n + 1 → j = n ∨ j = i ∨ (j < n ∧ j ≠ i) := fun j hj => by omega
  have cs2 : ∀ j, j < n + 1 → j = n ∨ j < n := fun j hj => by omega
  have erb : ∀ (l : List Nat), (∀ k ∈ l, k < n) → (l.map fun k => ptr (f' k).rb) = l.map fun k => ptr (f k).rb := fun l hl => List.map_congr_left fun k hk => by rw [(eg k (hl k hk)).2.1]
  have ownlt : ∀ j, j < n → ∀ k, (f j).r.pv.ownBlock = some k → k < w1.heap.size := fun j hj k hk => ((own1 j hj).lt k hk).2
  have gnot : ∀ j, j < n → j ≠ i → (f j).r.pv.ownBlock ≠ some g := fun j hj e hk => by
    rcases hg with hg | hg
    · exact oinj1 i j hi hj (Ne.symm e) g hg hk
    · have := ownlt j hj g hk; omega
  refine ⟨fun j hj => ?_, fun j hj => ?_, fun j hj => ?_, fun j hj => ?_, fun j k hj hk h => ?_, fun j k hj hk h => ?_, fun j k hj hk h x hx => ?_, fun j hj => ?_⟩
  · rcases cs2 j hj with rfl | h
    · rw [en]; exact hq.touch t (notF hq (by decide) (by decide))
    · rw [(eg j h).1, es j h]; exact (pur1 j h).touch t (notF (pur1 j h) (by decide) (by decide))
  · rcases cs2 j hj with rfl | h
    · rw [en]; exact (lock1 i hi).touch t (notF (lock1 i hi) (by decide) (by decide))
    · rw [(eg j h).2.2.1]; exact (lock1 j h).touch t (notF (lock1 j h) (by decide) (by decide))
  · rcases cs j hj with rfl | rfl | ⟨h, e⟩
    · rw [en]; exact hrow
    · rw [ei]; exact hR.row
    · rw [ej j h e]
      refine (t.block _ (rlt j h) fun hb => ?_).trans (row1 j h)
      rcases List.mem_cons.1 hb with hb | hb
      · exact e (rinj1 j i h hi hb)
      · simp at hb
        obtain ⟨c', z', h'⟩ := own_type (own1 i hi) hb
        exact ne_type (row1 j h) h' (by decide) rfl
  · rcases cs j hj with rfl | rfl | ⟨h, e⟩
    · rw [en]; exact World.ownsRow_nil w2 base 44 1
    · rw [ei]
      have h1 := hR.own
      have e1 : (kl f (f j).kids ++ [(⟨w1.heap.size, true, m⟩ : Kid)]).length = ((f j).kids ++ [n]).length := by simp [kl]
      have e2 : ((kl f (f j).kids ++ [(⟨w1.heap.size, true, m⟩ : Kid)]).map fun k => ptr k.b) = ((f j).kids ++ [n]).map fun k => ptr (f' k).rb := by
        rw [List.map_append, List.map_append, erb _ (fun k hk => (L.kid j hi k hk).2)]
        simp [kl, en, Function.comp_def]
      rw [e1, e2] at h1
      exact h1
    · rw [ej j h e, erb _ (fun k hk => (L.kid j h k hk).2)]
      refine owns_touch (own1 j h) t fun x hx hb => ?_
      rcases List.mem_cons.1 hb with hb | hb
      · obtain ⟨c', z', h'⟩ := own_type (own1 j h) hx
        exact ne_type h' (row1 i hi) (by decide) hb
      · simp at hb
        exact oinj1 j i h hi e x hx hb
  · rcases cs2 j hj with rfl | hj <;> rcases cs2 k hk with rfl | hk
    · rfl
    · rw [en, (eg k hk).1] at h; exact absurd h.symm (nq k hk)
    · rw [en, (eg j hj).1] at h; exact absurd h (nq j hj)
    · rw [(eg j hj).1, (eg k hk).1] at h
      exact M.pinj j k hj hk (by rw [updS_pb, updS_pb]; exact h)
  · rcases cs2 j hj with rfl | hj <;> rcases cs2 k hk with rfl | hk
    · rfl
    · rw [en, (eg k hk).2.1] at h; have := rlt k hk; simp at h; omega
    · rw [en, (eg j hj).2.1] at h; have := rlt j hj; simp at h; omega
    · rw [(eg j hj).2.1, (eg k hk).2.1] at h; exact rinj1 j k hj hk h
  · rcases cs j hj with rfl | rfl | ⟨hj, ej1⟩ <;> rcases cs k hk with rfl | rfl | ⟨hk, ek1⟩
    · exact absurd rfl h
    · rw [en] at hx; cases hx
    · rw [en] at hx; cases hx
    · rw [en]; intro hy; cases hy
    · exact absurd rfl h
    · rw [ei] at hx
      rw [ej k hk ek1]
      rw [hpo] at hx
      cases hx
      exact gnot k hk ek1
    · rw [en]; intro hy; cases hy
    · rw [ei]
      rw [ej j hj ej1] at hx
      show pv.ownBlock ≠ some x
      rw [hpo]
      intro hy
      cases hy
      exact gnot j hj ej1 hx
    · rw [ej k hk ek1]
      rw [ej j hj ej1] at hx
      exact oinj1 j k hj hk h x hx
  · rcases cs2 j hj with rfl | h
    · rw [en]
      have := (M.plo i hi).2.1
      rw [elb] at this
      exact ⟨hlo.1, this, hlo.2⟩
    · rw [(eg j h).1, (eg j h).2.1, (eg j h).2.2.1]
      have := M.plo j h
      rw [updS_pb, updS_rb, elb] at this
      exact this
end

end Go.Proofs.Ytbanhpohnhjciaa
