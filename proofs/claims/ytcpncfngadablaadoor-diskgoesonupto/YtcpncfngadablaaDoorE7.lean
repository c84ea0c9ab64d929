import Derived.Test.YtcpncfngadablaaDoorE6
namespace Go.Proofs.YtcpncfngadablaaDoor
open Go.RowKit Go.Deep

section
variable {w w' : World} {E : Nat → Addr} {lo p mf mt : Nat} {D : DiskC}

theorem names_at {base n k g cap : Nat} {ss : List (List UInt8)} (h : w.ownsRow base 9 1 (.slice (some ⟨g, 0, none⟩) n cap) n (ss.map encStr)) (hk : k < ss.length) : w.cell? ⟨g, k, none⟩ = some (encStr ss[k]) := by
  have := h.cells (g := g) rfl k (encStr ss[k]) (by simp [List.getElem?_eq_getElem hk])
  have hadd : (⟨g, 0, none⟩ : Addr).add k = ⟨g, k, none⟩ := by unfold Addr.add; split <;> simp_all
  rwa [hadd] at this

set_option maxRecDepth 100000 in
set_option maxHeartbeats 600000 in
theorem sameTold_true {b1 b2 : Nat} {T : ToldA} {v1 v2 : Value} (h1 : ToldAt w b1 T v1) (h2 : ToldAt w b2 T v2) (hn : T.names.length ≤ 1099511627776) :
    Calls Tryd.prog 13 #[v1, v2] w fun e w' => e = .returned (.bool true) ∧ Touch [] w w' := by
  obtain ⟨dv1, nv1, rfl, hd1, hn1⟩ := h1
  obtain ⟨dv2, nv2, rfl, hd2, hn2⟩ := h2
  obtain ⟨x1, y1, rfl, s1, _⟩ := shows_own hd1
  obtain ⟨x2, y2, rfl, s2, _⟩ := shows_own hd2
  obtain ⟨m1, l1, rfl, hl1, hg1⟩ := owns_form hn1
  obtain ⟨m2, l2, rfl, hl2, hg2⟩ := owns_form hn2
  obtain ⟨e, N, b, data, names, cn⟩ := T
  obtain ⟨q1, q2, q3, q4, q5, q6, q7⟩ := cn
  simp only at *
  obtain ⟨W, hW⟩ : ∃ W, W = (w.alloc (.cells #[.int .i64 e, .int .i64 N, .bool b, .slice x1 data.length y1, .slice m1 names.length l1, .int .i64 q1, .int .i64 q2, .int .i64 q3, .int .i64 q4, .int .i64 q5, .int .i64 q6, .int .i64 q7] 36)).alloc (.cells #[.int .i64 e, .int .i64 N, .bool b, .slice x2 data.length y2, .slice m2 names.length l2, .int .i64 q1, .int .i64 q2, .int .i64 q3, .int .i64 q4, .int .i64 q5, .int .i64 q6, .int .i64 q7] 36) := ⟨_, rfl⟩
  have tW : Touch [] w W := by rw [hW]; exact ((Touch.refl [] w).alloc _).alloc _
  have hrw := heap_two w (.cells #[.int .i64 e, .int .i64 N, .bool b, .slice x1 data.length y1, .slice m1 names.length l1, .int .i64 q1, .int .i64 q2, .int .i64 q3, .int .i64 q4, .int .i64 q5, .int .i64 q6, .int .i64 q7] 36) (.cells #[.int .i64 e, .int .i64 N, .bool b, .slice x2 data.length y2, .slice m2 names.length l2, .int .i64 q1, .int .i64 q2, .int .i64 q3, .int .i64 q4, .int .i64 q5, .int .i64 q6, .int .i64 q7] 36)
  rw [← hW] at hrw
  have c1 := fun i => cell_row hrw.1 i
  have c2 := fun i => cell_row hrw.2 i
  have k1 := conv_shows (s1.touch tW (by simp))
  have k2 := conv_shows (s2.touch tW (by simp))
  have HN1 := hid (owns_touch hn1 tW (by simp))
  have HN2 := hid (owns_touch hn2 tW (by simp))
  have HTW := hid tW
  have HE := hid hW
  have HG1 := hid hg1
  have HG2 := hid hg2
  clear hd1 hd2 hn1 hn2 s1 s2 hg1 hg2 tW hW hrw hl1 hl2
  unfold toldV
  simp only []
  go_enter Tryd.func13, Tryd.ntmps13
  go_wp2_with (rw [← HE.out])
  have HC1 := hid c1
  have HC2 := hid c2
  clear c1 c2 k1 k2
  go_loopw [5] (fun i wr => ∃ k : Nat, k ≤ names.length ∧ i = .int .i64 k ∧ Quiet W wr) (fun i _ => names.length - (intOf i).toNat)
  case atStart => exact ⟨0, Nat.zero_le _, rfl, ⟨0, rfl⟩⟩
  case round =>
    obtain ⟨k, hk, rfl, hq⟩ := hrel
    have d1 := fun i => (Quiet.cell hq ⟨w.heap.size, i, none⟩).trans (HC1.out i)
    have d2 := fun i => (Quiet.cell hq ⟨w.heap.size + 1, i, none⟩).trans (HC2.out i)
    have HQ := hid hq
    by_cases hlt : k < names.length
    · obtain ⟨g1, rfl⟩ := HG1.out (by omega)
      obtain ⟨g2, rfl⟩ := HG2.out (by omega)
      have a1 := (Quiet.cell hq _).trans (names_at HN1.out hlt)
      have a2 := (Quiet.cell hq _).trans (names_at HN2.out hlt)
      have j0 : (0 : Int) ≤ (k : Int) := by omega
      have j1 : (k : Int) < (names.length : Int) := by omega
      clear hq
      go_wp2
      go_quiet (fail)
      go_wp2
      go_roundw
      case rel => first | exact ⟨k + 1, by omega, by go_num, quiet_more HQ.out _⟩ | ((repeat apply Exists.intro); exact ⟨⟨k + 1, by omega, by go_num, quiet_more HQ.out _⟩, rfl⟩)
      case measure => simp [intOf]; omega
    · clear hq
      go_wp2
      go_ret
      exact ⟨rfl, HTW.out.trans (Quiet.touch HQ.out []) (by simp)⟩
end
end Go.Proofs.YtcpncfngadablaaDoor
