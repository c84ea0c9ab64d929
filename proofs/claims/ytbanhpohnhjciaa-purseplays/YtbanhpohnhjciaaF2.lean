import Derived.Test.YtbanhpohnhjciaaF1
namespace Go.Proofs.Ytbanhpohnhjciaa
open Go.RowKit Go.MuLone

section
variable {w w' w0 w1 : World} {lo b lb j : Nat} {L : Int} {s : St} {l : List Pt}

theorem index_inj (T : Tree w lo b lb L s l) {i : Nat} (hi : i < l.length) (hj : j < l.length) (e : l[i].b = l[j].b) : i = j := by
  have ha := T.apart
  have hnd : (l.map Pt.b).Nodup := by
    simp only [List.nodup_cons] at ha
    exact ha.2.2
  have hp := List.pairwise_iff_getElem.1 hnd
  rcases Nat.lt_trichotomy i j with h | h | h
  · have h3 := hp i j (by simpa using hi) (by simpa using hj) h
    simp only [List.getElem_map] at h3
    exact absurd e h3
  · exact h
  · have h3 := hp j i (by simpa using hj) (by simpa using hi) h
    simp only [List.getElem_map] at h3
    exact absurd e.symm h3

/-- an empty part is closed. -/
theorem Idle.close (T : Tree w1 lo b lb L s l) (hj : j < l.length) (hg : l[j].gone = false) (I : Idle w lo b lb L s l j l[j].n l[j].b) (h : Below lo w0 w) (hlo : lo ≤ w.heap.size) :
    Calls Try.prog 17 #[ptr l[j].b] w fun e w' => e = .returned (.int .i64 0) ∧ Tree w' lo b lb L (s.back l[j].n) (shutAt l j) ∧ Below lo w0 w' ∧ Touch [l[j].b, b, lb] w w' := by
  obtain ⟨n1, n2⟩ := part_ne T hj
  have hne := T.at_.ne
  rw [T.elb] at hne
  have hn := out_ge (fun x hx => (T.each x hx).2.2) hj hg
  have hc := cnt_ge hj hg
  have ho := T.out_le
  have hx := T.each l[j] (List.getElem_mem hj)
  have hlock : LockAt w lb 0 := by have := I.at_.lock; rwa [T.elb] at this
  have g := T.at_.good
  have hll := T.lent
  have hpp := T.parts
  have hli := T.limit
  have hhh := T.hand
  obtain ⟨a1, a2, a3, a4, a5, a6, a7, a8⟩ := g
  refine (close_any (s := ⟨l[j].n, lb, ptr b, 0, 0, 0, false, l[j].n⟩) I.part I.at_.row hlock n2 hne n1 rfl (by simp [closeE, isNil]) hx.2.2 (by show l[j].n ≤ s.lent; omega) (by omega) (by omega) a6).mono fun _ w' y => ⟨y.1, ?_, ?_, y.2.2.2.2⟩
  · obtain ⟨-, y2, y3, y4, y5⟩ := y
    have gb : (s.back l[j].n).Good := ⟨a1, by show 0 ≤ s.lent - l[j].n; omega, by show s.hand + (s.lent - l[j].n) ≤ s.limit; omega, a4, by show 0 ≤ s.parts - 1; omega, by show s.parts - 1 ≤ 4611686018427387904; omega, by show s.hand + (s.lent - l[j].n) ≤ s.peak; omega, a8⟩
    refine ⟨⟨y3, by rw [show (s.back l[j].n).lb = lb from T.elb]; exact y4, T.at_.ne, gb, T.at_.lob, T.at_.lol⟩, T.elb, T.limit, T.hand, ?_, ?_, T.closed, T.whole, fun x hxm => ?_, by rw [shut_map_b]; exact T.apart⟩
    · show s.lent - l[j].n = _
      rw [shut_out hj hg, hll]
    · show s.parts - 1 = _
      rw [shut_cnt hj hg, hpp]
    · obtain ⟨i, hi, rfl⟩ := List.getElem_of_mem hxm
      have hi' : i < l.length := by have := hi; rwa [shut_length] at this
      by_cases hij : i = j
      · subst hij
        have e := shut_self hi'
        rw [List.getElem?_eq_getElem hi] at e
        rw [Option.some.inj e]
        exact ⟨y2, hx.2.1, hx.2.2⟩
      · have e := shut_other (l := l) (k := j) hij
        rw [List.getElem?_eq_getElem hi, List.getElem?_eq_getElem hi'] at e
        rw [Option.some.inj e]
        refine ⟨(I.each i hi' hij).touch y5 ?_, (T.each _ (List.getElem_mem hi')).2⟩
        simp only [List.mem_cons, List.not_mem_nil, or_false, not_or]
        exact ⟨fun e2 => hij (index_inj T hi' hj e2), (part_ne T hi').1, (part_ne T hi').2⟩
  · refine below_two h y.2.2.2.2 hlo fun k hk => ?_
    simp at hk
    rcases hk with rfl | rfl | rfl
    · exact hx.2.1
    · exact T.at_.lob
    · rw [← T.elb]; exact T.at_.lol

theorem Tree.used (T : Tree w lo b lb L s l) (h : Below lo w0 w) (hlo : lo ≤ w.heap.size) : Calls Try.prog 11 #[ptr b] w fun e w' => e = .returned (.int .i64 (out l)) ∧ Tree w' lo b lb L s l ∧ Below lo w0 w' ∧ Touch [b, lb] w w' :=
  T.at_.used.mono fun _ _ x => ⟨by rw [x.1, T.hand, T.lent, Int.zero_add], T.asked x.2.1 x.2.2, T.at_.below h x.2.2 hlo, by rw [← T.elb]; exact x.2.2⟩
theorem Tree.free (T : Tree w lo b lb L s l) (h : Below lo w0 w) (hlo : lo ≤ w.heap.size) : Calls Try.prog 12 #[ptr b] w fun e w' => e = .returned (.int .i64 (L - out l)) ∧ Tree w' lo b lb L s l ∧ Below lo w0 w' ∧ Touch [b, lb] w w' :=
  T.at_.free.mono fun _ _ x => ⟨by rw [x.1, St.free, T.closed, T.hand, T.lent, T.limit, Int.zero_add]; rfl, T.asked x.2.1 x.2.2, T.at_.below h x.2.2 hlo, by rw [← T.elb]; exact x.2.2⟩
end

/-- the number of one that there is. -/
def onN (k : Int) (n : Nat) : Nat := ((if k < 0 then -(k + 1) else k) % (n : Int)).toNat
theorem onN_lt (k : Int) {n : Nat} (hn : 0 < n) : onN k n < n ∧ (onN k n : Int) = (if k < 0 then -(k + 1) else k) % (n : Int) := by
  unfold onN
  have h1 := Int.emod_nonneg (if k < 0 then -(k + 1) else k) (show (n : Int) ≠ 0 by omega)
  have h2 := Int.emod_lt_of_pos (if k < 0 then -(k + 1) else k) (show (0 : Int) < n by omega)
  omega

set_option maxRecDepth 100000 in
set_option maxHeartbeats 400000 in
theorem on_any {k : Int} (h1 : -9223372036854775808 ≤ k) (h2 : k ≤ 9223372036854775807) {n : Nat} (hn : 0 < n) (hn2 : n ≤ 9223372036854775807) (w : World) :
    Calls Try.prog 16 #[.int .i64 k, .int .i64 n] w fun e w' => e = .returned (.int .i64 (onN k n)) ∧ w' = w := by
  obtain ⟨h3, h4⟩ := onN_lt k hn
  have n0 : ¬ (n : Int) = 0 := by omega
  have n1 : ((n : Int) == 0) = false := by simpa using n0
  have HN := hid h4
  have b1 : (onN k n : Int) ≤ 9223372036854775807 := by omega
  by_cases hk : k < 0
  · rw [if_pos hk] at HN
    have ht : (-(k + 1)).tmod (n : Int) = (onN k n : Int) := by rw [HN.out, Int.tmod_eq_emod_of_nonneg (by omega)]
    clear h3 h4
    go_enter Try.func16, Try.ntmps16
    go_wp2
    go_ret
    exact ⟨rfl, rfl⟩
  · rw [if_neg hk] at HN
    have ht : k.tmod (n : Int) = (onN k n : Int) := by rw [HN.out, Int.tmod_eq_emod_of_nonneg (by omega)]
    clear h3 h4
    go_enter Try.func16, Try.ntmps16
    go_wp2
    go_ret
    exact ⟨rfl, rfl⟩
end Go.Proofs.Ytbanhpohnhjciaa
