import Derived.Test.YtbanhpohnhjciaaD2
import Derived.Deep.AppendLies
namespace Go.Proofs.Ytbanhpohnhjciaa
open Go.RowKit Go.MuLone

/-! ### a purse and its parts -/
/-- a part: where it lies, its limit, whether it has been closed. -/
structure Pt where
  b : Nat
  n : Int
  gone : Bool

/-- the part's state. -/
def Pt.st (x : Pt) (lb p : Nat) : St := if x.gone then ⟨x.n, lb, .pointer none, 0, 0, 0, true, x.n⟩ else ⟨x.n, lb, ptr p, x.n, 0, 0, false, x.n⟩

def out : List Pt → Int
  | [] => 0
  | x :: l => (if x.gone then 0 else x.n) + out l
def cnt : List Pt → Int
  | [] => 0
  | x :: l => (if x.gone then 0 else 1) + cnt l

theorem out_append (l m : List Pt) : out (l ++ m) = out l + out m := by
  induction l with
  | nil => simp [out]
  | cons x l ih => simp [out, ih]; omega
theorem cnt_append (l m : List Pt) : cnt (l ++ m) = cnt l + cnt m := by
  induction l with
  | nil => simp [cnt]
  | cons x l ih => simp [cnt, ih]; omega
theorem cnt_nonneg (l : List Pt) : 0 ≤ cnt l ∧ cnt l ≤ l.length := by
  induction l with
  | nil => simp [cnt]
  | cons x l ih => simp only [cnt, List.length_cons]; split <;> omega
theorem out_nonneg {l : List Pt} (h : ∀ x ∈ l, 0 ≤ x.n) : 0 ≤ out l := by
  induction l with
  | nil => simp [out]
  | cons x l ih =>
    have h1 := h x (by simp)
    have h2 := ih fun y hy => h y (by simp [hy])
    simp only [out]
    split <;> omega

/-- the k-th is closed. -/
def shutAt (l : List Pt) (k : Nat) : List Pt := l.modify k fun x => { x with gone := true }

theorem shut_length (l : List Pt) (k : Nat) : (shutAt l k).length = l.length := by simp [shutAt]
theorem shut_self {l : List Pt} {k : Nat} (hk : k < l.length) : (shutAt l k)[k]? = some { l[k] with gone := true } := by
  simp [shutAt, hk]
theorem shut_other {l : List Pt} {k i : Nat} (h : i ≠ k) : (shutAt l k)[i]? = l[i]? := by
  simp [shutAt, Ne.symm h]
theorem shut_out {l : List Pt} {k : Nat} (hk : k < l.length) (hg : l[k].gone = false) : out (shutAt l k) = out l - l[k].n := by
  induction l generalizing k with
  | nil => simp at hk
  | cons x l ih =>
    cases k with
    | zero => simp at hg; simp [shutAt, out, hg]; omega
    | succ k =>
      have := ih (k := k) (by simpa using hk) (by simpa using hg)
      simp only [shutAt, List.modify_succ_cons, out, List.getElem_cons_succ] at this ⊢
      rw [this]
      omega
theorem shut_cnt {l : List Pt} {k : Nat} (hk : k < l.length) (hg : l[k].gone = false) : cnt (shutAt l k) = cnt l - 1 := by
  induction l generalizing k with
  | nil => simp at hk
  | cons x l ih =>
    cases k with
    | zero => simp at hg; simp [shutAt, cnt, hg]; omega
    | succ k =>
      have := ih (k := k) (by simpa using hk) (by simpa using hg)
      simp only [shutAt, List.modify_succ_cons, cnt] at this ⊢
      rw [this]
      omega
theorem out_ge {l : List Pt} (h : ∀ x ∈ l, 0 ≤ x.n) {k : Nat} (hk : k < l.length) (hg : l[k].gone = false) : l[k].n ≤ out l := by
  induction l generalizing k with
  | nil => simp at hk
  | cons x l ih =>
    have h1 := h x (by simp)
    have h2 := out_nonneg (l := l) fun y hy => h y (by simp [hy])
    cases k with
    | zero => simp at hg; simp [out, hg]; omega
    | succ k =>
      have := ih (fun y hy => h y (by simp [hy])) (k := k) (by simpa using hk) (by simpa using hg)
      simp only [out, List.getElem_cons_succ]
      split <;> omega
theorem cnt_ge {l : List Pt} {k : Nat} (hk : k < l.length) (hg : l[k].gone = false) : 1 ≤ cnt l := by
  induction l generalizing k with
  | nil => simp at hk
  | cons x l ih =>
    have h2 := cnt_nonneg l
    cases k with
    | zero => simp at hg; simp [cnt, hg]; omega
    | succ k =>
      have := ih (k := k) (by simpa using hk) (by simpa using hg)
      simp only [cnt]
      split <;> omega

/-- a purse and its parts in memory. -/
structure Tree (w : World) (lo b lb : Nat) (L : Int) (s : St) (l : List Pt) : Prop where
  at_ : At w lo b s
  elb : s.lb = lb
  limit : s.limit = L
  hand : s.hand = 0
  lent : s.lent = out l
  parts : s.parts = cnt l
  closed : s.closed = false
  whole : s.whole = .pointer none
  each : ∀ x ∈ l, PurseAt w x.b (x.st lb b) ∧ lo ≤ x.b ∧ 0 ≤ x.n
  apart : (b :: lb :: l.map Pt.b).Nodup

/-- where they lie. -/
def foot (b lb : Nat) (l : List Pt) : List Nat := b :: lb :: l.map Pt.b

section
variable {w w' : World} {lo b lb : Nat} {L : Int} {s : St} {l : List Pt}

theorem Tree.lt (T : Tree w lo b lb L s l) : ∀ k ∈ foot b lb l, k < w.heap.size ∧ lo ≤ k := by
  intro k hk
  simp only [foot, List.mem_cons, List.mem_map] at hk
  rcases hk with rfl | rfl | ⟨x, hx, rfl⟩
  · exact ⟨lt_of_block T.at_.row, T.at_.lob⟩
  · rw [← T.elb]; exact ⟨lt_of_block T.at_.lock, T.at_.lol⟩
  · exact ⟨lt_of_block (T.each x hx).1, (T.each x hx).2.1⟩

theorem Tree.touch {F : List Nat} (T : Tree w lo b lb L s l) (t : Touch F w w') (h : ∀ k ∈ F, k ∉ foot b lb l) : Tree w' lo b lb L s l := by
  have hb : b ∉ F := fun hm => h b hm (by simp [foot])
  have hl : lb ∉ F := fun hm => h lb hm (by simp [foot])
  refine ⟨⟨T.at_.row.touch t hb, T.at_.lock.touch t (by rw [T.elb]; exact hl), T.at_.ne, T.at_.good, T.at_.lob, T.at_.lol⟩, T.elb, T.limit, T.hand, T.lent, T.parts, T.closed, T.whole, fun x hx => ⟨(T.each x hx).1.touch t (fun hm => h _ hm ?_), (T.each x hx).2⟩, T.apart⟩
  simp only [foot, List.mem_cons, List.mem_map]
  exact .inr (.inr ⟨x, hx, rfl⟩)

/-- the purse itself was asked. -/
theorem Tree.asked (T : Tree w lo b lb L s l) (A : At w' lo b s) (t : Touch [b, s.lb] w w') : Tree w' lo b lb L s l := by
  refine ⟨A, T.elb, T.limit, T.hand, T.lent, T.parts, T.closed, T.whole, fun x hx => ⟨(T.each x hx).1.touch t ?_, (T.each x hx).2⟩, T.apart⟩
  have h := T.apart
  rw [T.elb]
  have hm : x.b ∈ l.map Pt.b := List.mem_map.2 ⟨x, hx, rfl⟩
  simp only [List.nodup_cons, List.mem_cons, not_or] at h
  intro hk
  simp only [List.mem_cons, List.not_mem_nil, or_false] at hk
  rcases hk with rfl | rfl
  · exact h.1.2 hm
  · exact h.2.1 hm
end
end Go.Proofs.Ytbanhpohnhjciaa
