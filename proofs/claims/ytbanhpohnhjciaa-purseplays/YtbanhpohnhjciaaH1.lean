import Derived.Test.YtbanhpohnhjciaaF3
namespace Go.Proofs.Ytbanhpohnhjciaa
open Go.RowKit Go.MuLone

/-! ### the document's purse -/
/-- what the document's purse keeps. -/
structure Rf where
  limit : Int
  hand : Int
  peak : Int
  opn : Bool
  part : Bool
  pv : Value

abbrev Rf.row (r : Rf) : Array Value := #[.int .i64 r.limit, .int .i64 r.hand, .int .i64 r.peak, .bool r.opn, .bool r.part, r.pv]

/-- a part of it: where it lies, whether it is open, its limit. -/
structure Kid where
  b : Nat
  opn : Bool
  n : Int

def kidsOut : List Kid → Int
  | [] => 0
  | k :: l => (if k.opn then k.n else 0) + kidsOut l

theorem kids_take {l : List Kid} {i : Nat} (hi : i < l.length) : kidsOut (l.take (i + 1)) = kidsOut (l.take i) + (if l[i].opn then l[i].n else 0) := by
  induction l generalizing i with
  | nil => simp at hi
  | cons k l ih =>
    cases i with
    | zero => simp [kidsOut]
    | succ i =>
      have := ih (i := i) (by simpa using hi)
      simp only [List.take_succ_cons, kidsOut, List.getElem_cons_succ, this]
      omega
theorem kids_nonneg {l : List Kid} (h : ∀ k ∈ l, 0 ≤ k.n) : 0 ≤ kidsOut l := by
  induction l with
  | nil => simp [kidsOut]
  | cons k l ih =>
    have h1 := h k (by simp)
    have h2 := ih fun x hx => h x (by simp [hx])
    simp only [kidsOut]
    split <;> omega
theorem kids_le {l : List Kid} (h : ∀ k ∈ l, 0 ≤ k.n) (i : Nat) : kidsOut (l.take i) ≤ kidsOut l := by
  induction l generalizing i with
  | nil => simp
  | cons k l ih =>
    cases i with
    | zero => have := kids_nonneg h; simpa [kidsOut] using this
    | succ i =>
      have := ih (fun x hx => h x (by simp [hx])) i
      simp only [List.take_succ_cons, kidsOut]
      omega

/-- the document's purse in memory, with its parts. -/
structure RefAt (w : World) (base b : Nat) (r : Rf) (ks : List Kid) : Prop where
  row : w.heap[b]? = some (.cells r.row 69 (0, 0))
  own : w.ownsRow base 44 1 r.pv ks.length (ks.map fun k => ptr k.b)
  open_ : ∀ k ∈ ks, w.cell? ⟨k.b, 3, none⟩ = some (.bool k.opn)
  limit : ∀ k ∈ ks, w.cell? ⟨k.b, 0, none⟩ = some (.int .i64 k.n)
  pos : ∀ k ∈ ks, 0 ≤ k.n
  hand : 0 ≤ r.hand
  top : r.hand + kidsOut ks ≤ 9223372036854775807
  few : ks.length ≤ 9223372036854775807

section
variable {w : World} {base b : Nat} {r : Rf} {ks : List Kid}

set_option maxRecDepth 100000 in
set_option maxHeartbeats 800000 in
theorem outR_any (R : RefAt w base b r ks) : Calls Try.prog 42 #[ptr b] w fun e w' => e = .returned (.int .i64 (r.hand + kidsOut ks)) ∧ w' = w := by
  obtain ⟨sd, cd, hpv, hcd, hsd⟩ := owns_form R.own
  have c := fun i => cell_row R.row i
  simp only [Rf.row, hpv] at c
  have hh := R.hand
  have hfew := R.few
  have HR := hid R
  have HPV := hid hpv
  have HSD := hid hsd
  clear R hpv hsd hcd
  go_enter Try.func42, Try.ntmps42
  go_wp2
  go_loopw [3, 4] (fun n i wr => ∃ k : Nat, k ≤ ks.length ∧ i = .int .i64 k ∧ n = .int .i64 (r.hand + kidsOut (ks.take k)) ∧ wr = w) (fun _ i _ => ks.length - (intOf i).toNat)
  case atStart => exact ⟨0, Nat.zero_le _, rfl, by simp [kidsOut], rfl⟩
  case round =>
    obtain ⟨k, hk, rfl, rfl, hwr⟩ := hrel
    subst hwr
    by_cases hlt : k < ks.length
    · obtain ⟨g, rfl⟩ := HSD.out (by omega)
      have hm : ks[k] ∈ ks := List.getElem_mem hlt
      have c1 := HR.out.open_ _ hm
      have c2 := HR.out.limit _ hm
      have c0 := HR.out.own.cells (g := g) (by rw [HPV.out]; rfl) k (ptr ks[k].b) (by simp [hlt])
      have ea : (⟨g, 0, none⟩ : Addr).add k = ⟨g, k, none⟩ := by unfold Addr.add; split <;> simp_all
      rw [ea] at c0
      have htk := kids_take hlt
      have h1 := kids_le HR.out.pos (k + 1)
      have h2 := HR.out.top
      have h3 := kids_nonneg (l := ks.take k) fun x hx => HR.out.pos x (List.mem_of_mem_take hx)
      have h4 := HR.out.pos _ hm
      obtain ⟨q, hq⟩ : ∃ q, q = ks[k].b := ⟨_, rfl⟩
      obtain ⟨n, hn⟩ : ∃ n, n = ks[k].n := ⟨_, rfl⟩
      obtain ⟨S, hS⟩ : ∃ S, S = kidsOut (ks.take k) := ⟨_, rfl⟩
      rw [← hS] at htk h3
      rw [← hS]
      rw [← hq] at c0 c1 c2
      rw [← hn] at c2 h4 htk
      have i0 : (0 : Int) ≤ (k : Int) := by omega
      have i1 : (k : Int) < (ks.length : Int) := by omega
      have hwk : wrap64 ((k : Int) + 1) = (k : Int) + 1 := IntWalk.wrap64_in _ ⟨by omega, by omega⟩
      cases ho : ks[k].opn with
      | true =>
        rw [ho] at c1 htk
        simp only [if_true] at htk
        have HTK := hid htk
        have hw1 : wrap64 (r.hand + S + n) = r.hand + S + n := IntWalk.wrap64_in _ ⟨by omega, by omega⟩
        clear hq hn hS htk ea h1 h2 h3 h4 hh hm ho HR HPV HSD
        go_wp2
        go_roundw
        case rel =>
          refine ⟨k + 1, by omega, by go_num, ?_, ?_⟩
          · rw [HTK.out]; go_num
          · first | rfl | trivial
        case measure => simp [intOf]; omega
      | false =>
        rw [ho] at c1 htk
        have HTK := hid htk
        clear hq hn hS htk ea h1 h2 h3 h4 hh hm ho HR HPV HSD
        go_wp2
        go_roundw
        case rel =>
          refine ⟨k + 1, by omega, by go_num, ?_, ?_⟩
          · rw [HTK.out]; simp
          · first | rfl | trivial
        case measure => simp [intOf]; omega
    · obtain rfl : k = ks.length := by omega
      rw [List.take_length]
      clear HR HPV HSD
      go_wp2
      go_ret
      exact ⟨rfl, rfl⟩

set_option maxRecDepth 100000 in
set_option maxHeartbeats 400000 in
theorem limitR_any (h : w.heap[b]? = some (.cells r.row 69 (0, 0))) : Calls Try.prog 34 #[ptr b] w fun e w' => e = .returned (.int .i64 r.limit) ∧ w' = w := by
  have c := fun i => cell_row h i
  clear h
  go_enter Try.func34, Try.ntmps34
  go_wp2
  go_ret
  exact ⟨rfl, rfl⟩

set_option maxRecDepth 100000 in
set_option maxHeartbeats 400000 in
theorem peakR_any (h : w.heap[b]? = some (.cells r.row 69 (0, 0))) : Calls Try.prog 37 #[ptr b] w fun e w' => e = .returned (.int .i64 r.peak) ∧ w' = w := by
  have c := fun i => cell_row h i
  clear h
  go_enter Try.func37, Try.ntmps37
  go_wp2
  go_ret
  exact ⟨rfl, rfl⟩

set_option maxRecDepth 100000 in
set_option maxHeartbeats 400000 in
theorem usedR_any (R : RefAt w base b r ks) : Calls Try.prog 35 #[ptr b] w fun e w' => e = .returned (.int .i64 (r.hand + kidsOut ks)) ∧ w' = w := by
  have HO := hid (outR_any R)
  clear R
  go_enter Try.func35, Try.ntmps35
  go_wp2_with (go_at_call 42; refine HO.out.mono ?_; rintro e w' ⟨rfl, rfl⟩)
  go_ret
  exact ⟨rfl, rfl⟩
end
end Go.Proofs.Ytbanhpohnhjciaa
