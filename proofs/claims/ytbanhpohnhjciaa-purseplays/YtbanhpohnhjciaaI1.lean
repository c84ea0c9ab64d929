/-
  Both purses side by side: the nodes of all trees, the program's rows and the document's.
-/
import Derived.Test.YtbanhpohnhjciaaH7
namespace Go.Proofs.Ytbanhpohnhjciaa
open Go.RowKit Go.MuLone

structure Nd where
  pb : Nat
  rb : Nat
  s : St
  r : Rf
  kids : List Nat

def kl (f : Nat → Nd) (l : List Nat) : List Kid := l.map fun j => ⟨(f j).rb, (f j).r.opn, (f j).r.limit⟩

def upd (f : Nat → Nd) (i : Nat) (x : Nd) : Nat → Nd := fun j => if j = i then x else f j

theorem upd_at (f : Nat → Nd) (i : Nat) (x : Nd) : upd f i x i = x := by simp [upd]
theorem upd_ne {f : Nat → Nd} {i j : Nat} {x : Nd} (h : j ≠ i) : upd f i x j = f j := by simp [upd, h]

def updS (f : Nat → Nd) (i : Nat) (s : St) : Nat → Nd := upd f i { f i with s := s }
def updR (f : Nat → Nd) (i : Nat) (r : Rf) : Nat → Nd := upd f i { f i with r := r }

section
variable (f : Nat → Nd) (i : Nat) (s : St) (r : Rf) (j : Nat)
theorem updS_pb : (updS f i s j).pb = (f j).pb := by unfold updS upd; split <;> simp_all
theorem updS_rb : (updS f i s j).rb = (f j).rb := by unfold updS upd; split <;> simp_all
theorem updS_r : (updS f i s j).r = (f j).r := by unfold updS upd; split <;> simp_all
theorem updS_kids : (updS f i s j).kids = (f j).kids := by unfold updS upd; split <;> simp_all
theorem updS_at : (updS f i s i).s = s := by simp [updS, upd]
theorem updS_ne (h : j ≠ i) : (updS f i s j).s = (f j).s := by simp [updS, upd, h]
theorem updR_pb : (updR f i r j).pb = (f j).pb := by unfold updR upd; split <;> simp_all
theorem updR_rb : (updR f i r j).rb = (f j).rb := by unfold updR upd; split <;> simp_all
theorem updR_s : (updR f i r j).s = (f j).s := by unfold updR upd; split <;> simp_all
theorem updR_kids : (updR f i r j).kids = (f j).kids := by unfold updR upd; split <;> simp_all
theorem updR_at : (updR f i r i).r = r := by simp [updR, upd]
theorem updR_ne (h : j ≠ i) : (updR f i r j).r = (f j).r := by simp [updR, upd, h]
end

theorem kl_updS (f : Nat → Nd) (i : Nat) (s : St) (l : List Nat) : kl (updS f i s) l = kl f l := by
  simp only [kl, updS_rb, updS_r]

theorem kl_updR {f : Nat → Nd} {i : Nat} {r : Rf} (h1 : r.opn = (f i).r.opn) (h2 : r.limit = (f i).r.limit) (l : List Nat) : kl (updR f i r) l = kl f l := by
  unfold kl
  refine List.map_congr_left fun j _ => ?_
  by_cases e : j = i
  · subst e; rw [updR_rb, updR_at, h1, h2]
  · rw [updR_rb, updR_ne f i r j e]

theorem ne_type {w : World} {b b' : Nat} {c c' : Array Value} {t t' : TypeId} {z z' : Nat × Nat} (h : w.heap[b]? = some (.cells c t z)) (h' : w.heap[b']? = some (.cells c' t' z')) (ht : t ≠ t') : b ≠ b' := by
  rintro rfl
  rw [h] at h'
  simp at h'
  exact ht h'.2.1

theorem own_type {w : World} {base e size : Nat} {v : Value} {n : Nat} {xs : List Value} (h : w.ownsRow base e size v n xs) {k : Nat} (hk : v.ownBlock = some k) : ∃ c z, w.heap[k]? = some (.cells c e z) := by
  rcases h.2 with ⟨rfl, _⟩ | ⟨g, cap, cur, rfl, hb, hg, _⟩
  · simp [Value.ownBlock] at hk
  · simp [Value.ownBlock] at hk
    subst hk
    exact ⟨_, _, hg⟩

/-- What stands in memory. -/
structure Mem (w : World) (base n : Nat) (f : Nat → Nd) : Prop where
  pur : ∀ i, i < n → PurseAt w (f i).pb (f i).s
  lock : ∀ i, i < n → LockAt w (f i).s.lb 0
  row : ∀ i, i < n → w.heap[(f i).rb]? = some (.cells (f i).r.row 69 (0, 0))
  own : ∀ i, i < n → w.ownsRow base 44 1 (f i).r.pv (f i).kids.length ((f i).kids.map fun j => ptr (f j).rb)
  pinj : ∀ i j, i < n → j < n → (f i).pb = (f j).pb → i = j
  rinj : ∀ i j, i < n → j < n → (f i).rb = (f j).rb → i = j
  oinj : ∀ i j, i < n → j < n → i ≠ j → ∀ k, (f i).r.pv.ownBlock = some k → (f j).r.pv.ownBlock ≠ some k
  plo : ∀ i, i < n → base ≤ (f i).pb ∧ base ≤ (f i).s.lb ∧ base ≤ (f i).rb

section
variable {w w' : World} {base n : Nat} {f : Nat → Nd} {i : Nat}

theorem Mem.own_ne (M : Mem w base n f) (hi : i < n) {b : Nat} {c : Array Value} {t : TypeId} {z : Nat × Nat} (h : w.heap[b]? = some (.cells c t z)) (ht : t ≠ 44) : (f i).r.pv.ownBlock ≠ some b := fun e => by
  obtain ⟨c', z', h'⟩ := own_type (M.own i hi) e
  exact ne_type h' h (Ne.symm ht) rfl

/-- Nothing of it is touched. -/
theorem Mem.keep (M : Mem w base n f) {F : List Nat} (t : Touch F w w') (h : ∀ b ∈ F, (∀ i, i < n → (f i).pb ≠ b ∧ (f i).s.lb ≠ b ∧ (f i).rb ≠ b ∧ (f i).r.pv.ownBlock ≠ some b)) : Mem w' base n f :=
  ⟨fun i hi => (M.pur i hi).touch t fun hb => (h _ hb i hi).1 rfl, fun i hi => (M.lock i hi).touch t fun hb => (h _ hb i hi).2.1 rfl,
    fun i hi => (t.block _ (lt_of_block (M.row i hi)) fun hb => (h _ hb i hi).2.2.1 rfl).trans (M.row i hi),
    fun i hi => owns_touch (M.own i hi) t fun x hx hb => (h x hb i hi).2.2.2 hx, M.pinj, M.rinj, M.oinj, M.plo⟩

theorem Mem.doS (M : Mem w base n f) (hi : i < n) {s' : St} (hp : PurseAt w' (f i).pb s') (hl : LockAt w' (f i).s.lb 0) (e : s'.lb = (f i).s.lb) (t : Touch [(f i).pb, (f i).s.lb] w w') : Mem w' base n (updS f i s') := by
  have pl : ∀ j k, j < n → k < n → (f j).pb ≠ (f k).s.lb := fun j k hj hk => ne_type (M.pur j hj) (M.lock k hk) (by decide)
  refine ⟨fun j hj => ?_, fun j hj => ?_, fun j hj => ?_, fun j hj => ?_, fun j k hj hk h => ?_, fun j k hj hk h => ?_, fun j k hj hk h => ?_, fun j hj => ?_⟩
  · rw [updS_pb]
    by_cases ej : j = i
    · subst ej; rw [updS_at]; exact hp
    · rw [updS_ne f i s' j ej]
      exact (M.pur j hj).touch t (by simp; exact ⟨fun h => ej (M.pinj j i hj hi h), pl j i hj hi⟩)
  · by_cases ej : j = i
    · subst ej; rw [updS_at, e]; exact hl
    · rw [updS_ne f i s' j ej]
      by_cases el : (f j).s.lb = (f i).s.lb
      · rw [el]; exact hl
      · exact (M.lock j hj).touch t (by simp; exact ⟨fun h => pl i j hi hj h.symm, el⟩)
  · rw [updS_rb, updS_r]
    exact (t.block _ (lt_of_block (M.row j hj)) (by simp; exact ⟨ne_type (M.row j hj) (M.pur i hi) (by decide), ne_type (M.row j hj) (M.lock i hi) (by decide)⟩)).trans (M.row j hj)
  · simp only [updS_r, updS_kids, updS_rb]
    refine owns_touch (M.own j hj) t fun x hx => ?_
    simp
    exact ⟨fun h => M.own_ne hj (M.pur i hi) (by decide) (h ▸ hx), fun h => M.own_ne hj (M.lock i hi) (by decide) (h ▸ hx)⟩
  · rw [updS_pb, updS_pb] at h; exact M.pinj j k hj hk h
  · rw [updS_rb, updS_rb] at h; exact M.rinj j k hj hk h
  · rw [updS_r, updS_r]; exact M.oinj j k hj hk h
  · rw [updS_pb, updS_rb]
    by_cases ej : j = i
    · subst ej; rw [updS_at, e]; exact M.plo j hj
    · rw [updS_ne f i s' j ej]; exact M.plo j hj

theorem Mem.doR (M : Mem w base n f) (hi : i < n) {r' : Rf} (hr : w'.heap[(f i).rb]? = some (.cells r'.row 69 (0, 0))) (e : r'.pv = (f i).r.pv) (t : Touch [(f i).rb] w w') : Mem w' base n (updR f i r') := by
  have epv : ∀ j, (updR f i r' j).r.pv = (f j).r.pv := fun j => by
    by_cases ej : j = i
    · subst ej; rw [updR_at, e]
    · rw [updR_ne f i r' j ej]
  refine ⟨fun j hj => ?_, fun j hj => ?_, fun j hj => ?_, fun j hj => ?_, fun j k hj hk h => ?_, fun j k hj hk h => ?_, fun j k hj hk h => ?_, fun j hj => ?_⟩
  · rw [updR_pb, updR_s]
    exact (M.pur j hj).touch t (by simp; exact ne_type (M.pur j hj) (M.row i hi) (by decide))
  · rw [updR_s]
    exact (M.lock j hj).touch t (by simp; exact ne_type (M.lock j hj) (M.row i hi) (by decide))
  · rw [updR_rb]
    by_cases ej : j = i
    · subst ej; rw [updR_at]; exact hr
    · rw [updR_ne f i r' j ej]
      exact (t.block _ (lt_of_block (M.row j hj)) (by simp; exact fun h => ej (M.rinj j i hj hi h))).trans (M.row j hj)
  · rw [epv]
    simp only [updR_kids, updR_rb]
    refine owns_touch (M.own j hj) t fun x hx => ?_
    simp
    exact fun h => M.own_ne hj (M.row i hi) (by decide) (h ▸ hx)
  · rw [updR_pb, updR_pb] at h; exact M.pinj j k hj hk h
  · rw [updR_rb, updR_rb] at h; exact M.rinj j k hj hk h
  · rw [epv, epv]; exact M.oinj j k hj hk h
  · rw [updR_pb, updR_rb, updR_s]; exact M.plo j hj
end

end Go.Proofs.Ytbanhpohnhjciaa
