/-
  marked, still: bytes written over and grown.
-/
import Derived.Test.YtfodpeiecmbojaaG2
namespace Go.Proofs.Ytfodpeiecmbojaa
open Go.RowKit Go.Deep PureCrc

theorem OwnB.set {w : World} {base g cap : Nat} {l : List Nat} (h : OwnB w base (.slice (some ⟨g, 0, none⟩) l.length cap) l) {i : Nat} (hi : i < l.length) (v : Nat) :
    OwnB (w.setCell ⟨g, i, none⟩ (.int .u8 (v : Int))) base (.slice (some ⟨g, 0, none⟩) (l.set i v).length cap) (l.set i v) ∧ (∃ x, w.cell? ⟨g, i, none⟩ = some x) ∧ w.frozen? ⟨g, i, none⟩ = false := by
  rcases h.2 with ⟨hv, _⟩ | ⟨g', cap', cur, hv, hb, hg, hc, hm, hs, ht⟩
  · simp at hv
  · simp at hv
    obtain ⟨rfl, rfl⟩ := hv
    have hcs : i < cur.size := by omega
    refine ⟨⟨by simp [bcl], .inr ⟨g, cap, cur.setIfInBounds i (.int .u8 (v : Int)), rfl, hb, heap_setCell_row hg i _, by rw [List.length_set]; exact hc, hm, by simp [hs], ?_⟩⟩, ⟨_, (cell_row hg i).trans (Array.getElem?_eq_getElem hcs)⟩, unfrozen_row hg i⟩
    rw [List.length_set, Array.toList_setIfInBounds, List.take_set]
    simp only [Nat.mul_one] at ht ⊢
    rw [ht]
    simp [bcl, List.map_set]

theorem OwnB.shape {w : World} {base : Nat} {v : Value} {l : List Nat} (h : OwnB w base v l) : ∃ sa c, v = .slice sa l.length c := by
  rcases h.2 with ⟨hv, hn⟩ | ⟨g, cap, cur, hv, _⟩
  · exact ⟨none, 0, by rw [hv, hn]⟩
  · exact ⟨_, _, hv⟩

theorem Touch.grown {F : List Nat} {a w w' : World} {row : Option Nat} (h : Touch F a w) (hg : w.grownBy w' row) (hr : ∀ k, row = some k → k ∈ F ∨ a.heap.size ≤ k) : Touch F a w' :=
  ⟨hg.os.trans h.os, hg.tape.trans h.tape, hg.output.trans h.output, Nat.le_trans h.size hg.size, fun b hb hF =>
    (hg.block b (Nat.lt_of_lt_of_le hb h.size) (fun e => by rcases hr b e.symm with h1 | h1; exact hF h1; omega)).trans (h.block b hb hF)⟩

theorem wpList_app2 (w : World) {ops : Array Oper} {rest : List Oper} {o : Oper} {a : Act} {Q : Exit → Act → World → Prop} (hgd : o.guard = none) (s x : Operand)
    (hop : o.op = Op.call { callee := Callee.builtin Builtin.append, args := #[s, x], argTypes := #[22, 22] })
    (base : Nat) (v : Value) (l : List Nat) (ad : Addr) (news : List Nat) (m c : Nat) (hs : a.eval s = v) (hx : a.eval x = .slice (some ad) m c) (hml : news.length = m) (hown : OwnB w base v l) (hc : ∀ j (h : j < news.length), w.cell? (ad.add j) = some (.int .u8 (news[j] : Int)))
    (hm : 0 < m) (hn : l.length + m ≤ 70368744177664) (hb : base ≤ w.heap.size)
    (hK : ∀ v' w', OwnB w' base v' (l ++ news) → w.grownBy w' v.ownBlock → (v'.ownBlock = v.ownBlock ∨ v'.ownBlock = some w.heap.size) → wpList Try.prog ops Q rest (a.put o.dst v') w') : wpList Try.prog ops Q (o :: rest) a w := by
  obtain ⟨i, h0, hz0, hz1, hz2⟩ := info_parts Try.info5b
  refine wpList_append_lies w hgd s x 22 hop base 5 i (.int .u8 0) 1 1 Try.underlying22 h0 hz0 hz1 hz2 rfl (by decide) v l.length (bcl l) hs hown ad m c (bcl news) hx (by simp [bcl, hml])
    (fun j u hu => ?_) (fun u hu => ?_) hm (by unfold maxLen; omega) (by omega) hb _ rfl (fun g cap w' r1 r2 r3 _ => hK _ w' ?_ r2 ?_)
  · simp only [bcl, List.getElem?_map] at hu
    obtain ⟨y, hy, rfl⟩ := Option.map_eq_some_iff.1 hu
    obtain ⟨hj, rfl⟩ := List.getElem?_eq_some_iff.1 hy
    exact hc j hj
  · obtain ⟨y, _, rfl⟩ := List.mem_map.1 hu
    rfl
  · have e : bcl (l ++ news) = bcl l ++ bcl news := by simp [bcl]
    unfold OwnB
    rw [e, List.length_append, hml]
    exact r1
  · rcases r3 with h | h
    · exact .inl h.symm
    · right
      rw [h]
      rfl

theorem one_byte2 (W : World) (y : Nat) : ∀ j (h : j < [y].length), (W.alloc (.cells #[.int .u8 (y : Int)] 5)).cell? ((⟨W.heap.size, 0, none⟩ : Addr).add j) = some (.int .u8 (([y][j] : Nat) : Int)) := fun j h => by
  have hj : j = 0 := by simp at h; exact h
  subst hj
  simp [Addr.add]

set_option maxRecDepth 100000 in
set_option maxHeartbeats 1000000 in
theorem marked_any (base : Nat) (sv : Value) (l : List Nat) (v : Nat) (w : World) (h : OwnB w base sv l) (hb : base ≤ w.heap.size) (hl : l.length ≤ 65536) (hv : v < 255) :
    Calls Try.prog 37 #[sv, .int .u8 (v : Int)] w fun e w' => ∃ sv', e = .returned sv' ∧ OwnB w' base sv' (List.replicate l.length v ++ List.replicate 64 (v + 1)) ∧ Touch sv.ownBlock.toList w w' ∧ ∀ b, sv'.ownBlock = some b → b ∈ sv.ownBlock.toList ∨ w.heap.size ≤ b := by
  obtain ⟨sa, c, rfl⟩ := h.shape
  obtain ⟨n, hn⟩ : ∃ n, n = l.length := ⟨_, rfl⟩
  have HH := hid h
  have HN := hid hn
  rw [← hn] at hl ⊢
  clear h hn
  go_enter Try.func37, Try.ntmps37
  go_wp2_with fail
  go_loopw [5] (fun i W => ∃ k : Nat, k ≤ n ∧ i = .int .i64 k ∧ OwnB W base (.slice sa n c) (List.replicate k v ++ l.drop k) ∧ Touch (Value.slice sa n c).ownBlock.toList w W) (fun i _ => n - (intOf i).toNat)
  case atStart => exact ⟨0, Nat.zero_le _, rfl, by have := HH.out; rw [← HN.out] at this; unfold OwnB at this ⊢; simpa using this, Touch.refl _ _⟩
  case round =>
    obtain ⟨k, hk, rfl, h1, h2⟩ := hrel
    have hll : (List.replicate k v ++ l.drop k).length = n := by rw [List.length_append, List.length_replicate, List.length_drop, ← HN.out]; omega
    by_cases hlt : k < n
    · obtain ⟨g, cap, hv2, hg1, hg2, hg3, hg4⟩ := h1.rd (by omega)
      simp only [Value.slice.injEq] at hv2
      obtain ⟨rfl, hne, rfl⟩ := hv2
      clear hne hg3 hg4
      have h1' : OwnB wr base (.slice (some ⟨g, 0, none⟩) (List.replicate k v ++ l.drop k).length c) (List.replicate k v ++ l.drop k) := by rw [hll]; exact h1
      obtain ⟨o1, ⟨x, hx⟩, hf⟩ := h1'.set (i := k) (by omega) v
      have hset : (List.replicate k v ++ l.drop k).set k v = List.replicate (k + 1) v ++ l.drop (k + 1) := by
        have hd : l.drop k = l[k]'(by have := HN.out; omega) :: l.drop (k + 1) := List.drop_eq_getElem_cons (by have := HN.out; omega)
        rw [hd, List.set_append_right _ _ (by simp), List.length_replicate, Nat.sub_self, List.set_cons_zero, List.replicate_succ', List.append_assoc]
        rfl
      rw [hset] at o1
      have hl2 : (List.replicate (k + 1) v ++ l.drop (k + 1)).length = n := by rw [← hset, List.length_set, hll]
      rw [hl2] at o1
      have O1 := hid o1
      have H2 := hid h2
      clear h1 h1' h2 o1 hset hl2 hll
      go_wp2_with fail
      exact ⟨⟨k + 1, hlt, rfl, O1.out, H2.out.setCell (.inl (by simp [Value.ownBlock])) _⟩, by simp [intOf]; omega⟩
    · have e : k = n := by omega
      subst e
      have hd : l.drop k = [] := List.drop_of_length_le (by have := HN.out; omega)
      rw [hd, List.append_nil] at h1
      have H1 := hid h1
      have H2 := hid h2
      clear h1 h2 hll hd
      go_wp2_with fail
      go_loopw [0, 6] (fun bv i W => ∃ j : Nat, j ≤ 64 ∧ i = .int .i64 j ∧ OwnB W base bv (List.replicate k v ++ List.replicate j (v + 1)) ∧ Touch (Value.slice sa k c).ownBlock.toList w W ∧ (∀ b, bv.ownBlock = some b → b ∈ (Value.slice sa k c).ownBlock.toList ∨ w.heap.size ≤ b)) (fun _ i _ => 64 - (intOf i).toNat)
      case atStart => exact ⟨0, Nat.zero_le _, rfl, by simpa using H1.out, H2.out, fun b hb => .inl (by simp [hb])⟩
      case round =>
        obtain ⟨j, hj, rfl, h1, h2, h3⟩ := hrel
        have hbW : base ≤ wr.heap.size := Nat.le_trans hb h2.size
        by_cases hlt2 : j < 64
        · have A1 := hid (h1.alloc (.cells #[.int .u8 ((v + 1 : Nat) : Int)] 5))
          have HC := hid (one_byte2 wr (v + 1))
          have hvi : (v : Int) + 1 = ((v + 1 : Nat) : Int) := by omega
          have HVI := hid hvi
          have H3 := hid h3
          have H4 := hid h2
          have hll : (List.replicate k v ++ List.replicate j (v + 1)).length = k + j := by simp
          have HLL := hid hll
          have hsz : (wr.alloc (.cells #[.int .u8 ((v + 1 : Nat) : Int)] 5)).heap.size = wr.heap.size + 1 := by simp
          have HSZ := hid hsz
          rw [← hvi] at A1 HC HSZ
          clear h1 h2 h3 hll hsz hvi
          go_wp2_with (first
            | (at_builtin; refine wpList_app2 _ rfl _ _ rfl base _ (List.replicate k v ++ List.replicate j (v + 1)) ⟨wr.heap.size, 0, none⟩ [v + 1] 1 1 rfl rfl rfl A1.out HC.out (by omega) (by rw [HLL.out]; omega) (by rw [HSZ.out]; omega) ?_; intro v3 w3 r1 r2 r3; have K1 := hid r1; have K2 := hid r2; have K3 := hid r3; clear r1 r2 r3))
          have hrep : (List.replicate k v ++ List.replicate j (v + 1)) ++ [v + 1] = List.replicate k v ++ List.replicate (j + 1) (v + 1) := by rw [List.append_assoc, ← List.replicate_succ']
          have hT : Touch (Value.slice sa k c).ownBlock.toList w w3 := (H4.out.alloc _).grown K2.out H3.out
          refine ⟨⟨j + 1, hlt2, rfl, by rw [← hrep]; exact K1.out, hT, fun b hb => ?_⟩, by simp [intOf]; omega⟩
          rcases K3.out with h | h
          · exact H3.out b (h.symm.trans hb)
          · rw [h] at hb
            right
            have := Option.some.inj hb
            have h5 := H4.out.size
            have h6 := HSZ.out
            omega
        · have e : j = 64 := by omega
          subst e
          have HF := hid (And.intro h1 (And.intro h2 h3))
          clear h1 h2 h3
          go_wp2_with fail
          go_ret
          exact ⟨_, rfl, HF.out⟩
end Go.Proofs.Ytfodpeiecmbojaa
