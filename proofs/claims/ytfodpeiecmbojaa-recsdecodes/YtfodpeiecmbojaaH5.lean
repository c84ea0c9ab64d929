/-
  scored, stands: records written over and grown.
-/
import Derived.Test.YtfodpeiecmbojaaG7
namespace Go.Proofs.Ytfodpeiecmbojaa
open Go.RowKit Go.Deep PureCrc

theorem wpList_appR2 (w : World) {ops : Array Oper} {rest : List Oper} {o : Oper} {a : Act} {Q : Exit → Act → World → Prop} (hgd : o.guard = none) (s x : Operand)
    (hop : o.op = Op.call { callee := Callee.builtin Builtin.append, args := #[s, x], argTypes := #[29, 29] })
    (base : Nat) (v : Value) (n : Nat) (ws : List Nat) (ad : Addr) (news : List Nat) (m c : Nat) (hs : a.eval s = v) (hx : a.eval x = .slice (some ad) m c) (hml : news.length = m * 4) (hown : OwnR w base v n ws) (hc : ∀ j (h : j < news.length), w.cell? (ad.add j) = some (.int .u64 (news[j] : Int)))
    (hm : 0 < m) (hn : n + m ≤ 4398046511104) (hb : base ≤ w.heap.size)
    (hK : ∀ v' w', OwnR w' base v' (n + m) (ws ++ news) → w.grownBy w' v.ownBlock → (v'.ownBlock = v.ownBlock ∨ v'.ownBlock = some w.heap.size) → wpList Try.prog ops Q rest (a.put o.dst v') w') : wpList Try.prog ops Q (o :: rest) a w := by
  obtain ⟨i, h0, hz0, hz1, hz2⟩ := info_parts Try.info28
  refine wpList_append_lies w hgd s x 29 hop base 28 i _ 4 32 Try.underlying29 h0 hz0 hz1 hz2 rfl (by decide) v n (wcl ws) hs hown ad m c (wcl news) hx (by simp [wcl, hml])
    (fun j u hu => ?_) (fun u hu => ?_) hm (by unfold maxLen; omega) (by omega) hb _ rfl (fun g cap w' r1 r2 r3 _ => hK _ w' ?_ r2 ?_)
  · simp only [wcl, List.getElem?_map] at hu
    obtain ⟨y, hy, rfl⟩ := Option.map_eq_some_iff.1 hu
    obtain ⟨hj, rfl⟩ := List.getElem?_eq_some_iff.1 hy
    exact hc j hj
  · obtain ⟨y, _, rfl⟩ := List.mem_map.1 hu
    rfl
  · have e : wcl (ws ++ news) = wcl ws ++ wcl news := by simp [wcl]
    unfold OwnR
    rw [e]
    exact r1
  · rcases r3 with h | h
    · exact .inl h.symm
    · right
      rw [h]
      rfl

theorem OwnR.any {w : World} {base g cap m : Nat} {l : List Nat} (h : OwnR w base (.slice (some ⟨g, 0, none⟩) m cap) m l) {i : Nat} (hi : i < l.length) : (∃ y, w.cell? ⟨g, i, none⟩ = some y) ∧ w.frozen? ⟨g, i, none⟩ = false := by
  obtain ⟨_, a, b⟩ := h.set hi 0
  exact ⟨⟨_, a⟩, b⟩

/-- marks behind. -/
def tailM (v : Nat) : Nat → List Nat
  | 0 => []
  | k + 1 => tailM v k ++ [v + 1, v, v, v]
theorem tailM_length (v : Nat) : ∀ k, (tailM v k).length = 4 * k
  | 0 => rfl
  | k + 1 => by rw [tailM, List.length_append, tailM_length v k]; simp; omega

theorem four_set {ws : List Nat} {k v : Nat} (h : 4 * k + 4 ≤ ws.length) :
    ((((List.replicate (4 * k) v ++ ws.drop (4 * k)).set (k * 4) v).set (k * 4 + 1) v).set (k * 4 + 2) v).set (k * 4 + 3) v = List.replicate (4 * (k + 1)) v ++ ws.drop (4 * (k + 1)) := by
  have e : ws.drop (4 * k) = ws[4 * k]'(by omega) :: ws[4 * k + 1]'(by omega) :: ws[4 * k + 2]'(by omega) :: ws[4 * k + 3]'(by omega) :: ws.drop (4 * (k + 1)) := by
    rw [List.drop_eq_getElem_cons (show 4 * k < ws.length by omega), List.drop_eq_getElem_cons (show 4 * k + 1 < ws.length by omega), List.drop_eq_getElem_cons (show 4 * k + 1 + 1 < ws.length by omega), List.drop_eq_getElem_cons (show 4 * k + 1 + 1 + 1 < ws.length by omega)]
    rfl
  have hr : (List.replicate (4 * k) v).length = 4 * k := List.length_replicate
  have hr4 : List.replicate (4 * (k + 1)) v = List.replicate (4 * k) v ++ [v, v, v, v] := by
    rw [Nat.mul_succ, ← List.replicate_append_replicate]; rfl
  rw [e, hr4]
  rw [List.set_append_right _ _ (by omega), List.set_append_right _ _ (by omega), List.set_append_right _ _ (by omega), List.set_append_right _ _ (by omega), hr, show k * 4 - 4 * k = 0 by omega, show k * 4 + 1 - 4 * k = 1 by omega, show k * 4 + 2 - 4 * k = 2 by omega, show k * 4 + 3 - 4 * k = 3 by omega]
  simp

set_option maxRecDepth 100000 in
set_option maxHeartbeats 1000000 in
theorem scored_any (base : Nat) (sv : Value) (m : Nat) (ws : List Nat) (v : Nat) (w : World) (h : OwnR w base sv m ws) (hb : base ≤ w.heap.size) (hm : m ≤ 65536) (hv : v < 1000) :
    Calls Try.prog 23 #[sv, .int .u64 (v : Int)] w fun e w' => ∃ sv', e = .returned sv' ∧ OwnR w' base sv' (m + 8) (List.replicate (4 * m) v ++ tailM v 8) ∧ Touch sv.ownBlock.toList w w' ∧ ∀ b, sv'.ownBlock = some b → b ∈ sv.ownBlock.toList ∨ w.heap.size ≤ b := by
  have hl := h.len
  obtain ⟨sa, c, rfl, _, _⟩ := h.shape
  have HH := hid h
  have HL := hid hl
  clear h hl
  go_enter Try.func23, Try.ntmps23
  go_wp2_with fail
  go_loopw [5] (fun i W => ∃ k : Nat, k ≤ m ∧ i = .int .i64 k ∧ OwnR W base (.slice sa m c) m (List.replicate (4 * k) v ++ ws.drop (4 * k)) ∧ Touch (Value.slice sa m c).ownBlock.toList w W) (fun i _ => m - (intOf i).toNat)
  case atStart => exact ⟨0, Nat.zero_le _, rfl, by simpa using HH.out, Touch.refl _ _⟩
  case round =>
    obtain ⟨k, hk, rfl, h1, h2⟩ := hrel
    by_cases hlt : k < m
    · have hwl := HL.out
      obtain ⟨g, rfl⟩ : ∃ g, sa = some ⟨g, 0, none⟩ := by
        rcases h1.2 with ⟨_, hn⟩ | ⟨g, cap, cur, hv2, _⟩
        · omega
        · simp only [Value.slice.injEq] at hv2
          exact ⟨g, hv2.1⟩
      have hll : (List.replicate (4 * k) v ++ ws.drop (4 * k)).length = 4 * m := by rw [List.length_append, List.length_replicate, List.length_drop]; omega
      obtain ⟨⟨y1, x1⟩, f1⟩ := h1.any (i := k * 4) (by omega)
      obtain ⟨⟨y2, x2⟩, f2⟩ := h1.any (i := k * 4 + 1) (by omega)
      obtain ⟨⟨y3, x3⟩, f3⟩ := h1.any (i := k * 4 + 2) (by omega)
      obtain ⟨⟨y4, x4⟩, f4⟩ := h1.any (i := k * 4 + 3) (by omega)
      have a1 := (h1.set (i := k * 4) (by omega) v).1
      have a2 := (a1.set (i := k * 4 + 1) (by rw [List.length_set]; omega) v).1
      have a3 := (a2.set (i := k * 4 + 2) (by rw [List.length_set, List.length_set]; omega) v).1
      have a4 := (a3.set (i := k * 4 + 3) (by rw [List.length_set, List.length_set, List.length_set]; omega) v).1
      rw [four_set (by omega)] at a4
      have A4 := hid a4
      have H2 := hid h2
      clear h1 h2 a1 a2 a3 a4 hll hwl
      go_wp2_with fail
      exact ⟨⟨k + 1, hlt, rfl, A4.out, (((H2.out.setCell (.inl (by simp [Value.ownBlock])) _).setCell (.inl (by simp [Value.ownBlock])) _).setCell (.inl (by simp [Value.ownBlock])) _).setCell (.inl (by simp [Value.ownBlock])) _⟩, by simp [intOf]; omega⟩
    · have e : k = m := by omega
      subst e
      have hd : ws.drop (4 * k) = [] := List.drop_of_length_le (by have := HL.out; omega)
      rw [hd, List.append_nil] at h1
      have H1 := hid h1
      have H2 := hid h2
      clear h1 h2 hd
      go_wp2_with fail
      go_loopw [0, 6] (fun bv i W => ∃ j : Nat, j ≤ 8 ∧ i = .int .i64 j ∧ OwnR W base bv (k + j) (List.replicate (4 * k) v ++ tailM v j) ∧ Touch (Value.slice sa k c).ownBlock.toList w W ∧ (∀ b, bv.ownBlock = some b → b ∈ (Value.slice sa k c).ownBlock.toList ∨ w.heap.size ≤ b)) (fun _ i _ => 8 - (intOf i).toNat)
      case atStart => exact ⟨0, Nat.zero_le _, rfl, by simpa [tailM] using H1.out, H2.out, fun b hb => .inl (by simp [hb])⟩
      case round =>
        obtain ⟨j, hj, rfl, h1, h2, h3⟩ := hrel
        have hbW : base ≤ wr.heap.size := Nat.le_trans hb h2.size
        by_cases hlt2 : j < 8
        · have A1 := h1.alloc (.cells #[.int .u64 ((v + 1 : Nat) : Int), .int .u64 (v : Int), .int .u64 (v : Int), .int .u64 (v : Int)] 28)
          have HC := cells4 wr (v + 1) v v v
          have hvi : (v : Int) + 1 = ((v + 1 : Nat) : Int) := by omega
          have HSZ := hid (show (wr.alloc (.cells #[.int .u64 ((v + 1 : Nat) : Int), .int .u64 (v : Int), .int .u64 (v : Int), .int .u64 (v : Int)] 28)).heap.size = wr.heap.size + 1 by simp)
          rw [← hvi] at A1 HC HSZ
          have A1 := hid A1
          have HC := hid HC
          have H3 := hid h3
          have H4 := hid h2
          clear h1 h2 h3 hvi
          go_wp2_with (first
            | (at_builtin; refine wpList_appR2 _ rfl _ _ rfl base _ (k + j) (List.replicate (4 * k) v ++ tailM v j) ⟨wr.heap.size, 0, none⟩ [v + 1, v, v, v] 1 1 rfl rfl rfl A1.out HC.out (by omega) (by omega) (by rw [HSZ.out]; omega) ?_; intro v3 w3 r1 r2 r3; have K1 := hid r1; have K2 := hid r2; have K3 := hid r3; clear r1 r2 r3))
          have hT : Touch (Value.slice sa k c).ownBlock.toList w w3 := (H4.out.alloc _).grown K2.out H3.out
          refine ⟨⟨j + 1, hlt2, rfl, by rw [tailM, ← List.append_assoc]; exact K1.out, hT, fun b hb => ?_⟩, by simp [intOf]; omega⟩
          rcases K3.out with h | h
          · exact H3.out b (h.symm.trans hb)
          · rw [h] at hb
            right
            have := Option.some.inj hb
            have h5 := H4.out.size
            have h6 := HSZ.out
            omega
        · have e : j = 8 := by omega
          subst e
          have HF := hid (And.intro h1 (And.intro h2 h3))
          clear h1 h2 h3
          go_wp2_with fail
          go_ret
          exact ⟨_, rfl, HF.out⟩

theorem tailM_get (v : Nat) : ∀ (k j : Nat), j < k → (tailM v k)[4 * j]? = some (v + 1) ∧ (tailM v k)[4 * j + 1]? = some v ∧ (tailM v k)[4 * j + 2]? = some v ∧ (tailM v k)[4 * j + 3]? = some v
  | 0, _, h => by omega
  | k + 1, j, h => by
    have hl := tailM_length v k
    by_cases e : j = k
    · subst e
      rw [tailM, List.getElem?_append_right (by omega), List.getElem?_append_right (by omega), List.getElem?_append_right (by omega), List.getElem?_append_right (by omega), hl, show 4 * j - 4 * j = 0 by omega, show 4 * j + 1 - 4 * j = 1 by omega, show 4 * j + 2 - 4 * j = 2 by omega, show 4 * j + 3 - 4 * j = 3 by omega]
      simp
    · have ih := tailM_get v k j (by omega)
      rw [tailM, List.getElem?_append_left (by omega), List.getElem?_append_left (by omega), List.getElem?_append_left (by omega), List.getElem?_append_left (by omega)]
      exact ih

set_option maxRecDepth 100000 in
set_option maxHeartbeats 1000000 in
theorem stands_any (base : Nat) (sv : Value) (m v : Nat) (w : World) (h : OwnR w base sv (m + 8) (List.replicate (4 * m) v ++ tailM v 8)) (hm : m ≤ 65536) (hv : v < 1000) :
    Calls Try.prog 24 #[sv, .int .i64 (m : Int), .int .u64 (v : Int)] w fun e w' => e = .returned (.bool true) ∧ w' = w := by
  obtain ⟨g, cap, rfl, _, _, _, hwd⟩ := full_shape (n := m + 6) h
  have hlen : (List.replicate (4 * m) v ++ tailM v 8).length = 4 * (m + 8) := h.len
  have HR1 : Hid (∀ k, k < m → w.cell? ⟨g, k * 4, none⟩ = some (.int .u64 (v : Int)) ∧ w.cell? ⟨g, k * 4 + 1, none⟩ = some (.int .u64 (v : Int)) ∧ w.cell? ⟨g, k * 4 + 2, none⟩ = some (.int .u64 (v : Int)) ∧ w.cell? ⟨g, k * 4 + 3, none⟩ = some (.int .u64 (v : Int))) := fun k hk => by
    have key : ∀ t, t < 4 * m → w.cell? ⟨g, t, none⟩ = some (.int .u64 (v : Int)) := fun t ht => by
      have := hwd t (by omega)
      rw [Nat.zero_add, List.getElem_append_left (by simpa using ht)] at this
      simpa using this
    exact ⟨key _ (by omega), key _ (by omega), key _ (by omega), key _ (by omega)⟩
  have HR2 : Hid (∀ k, m ≤ k → k < m + 8 → w.cell? ⟨g, k * 4, none⟩ = some (.int .u64 ((v : Int) + 1)) ∧ w.cell? ⟨g, k * 4 + 1, none⟩ = some (.int .u64 (v : Int)) ∧ w.cell? ⟨g, k * 4 + 2, none⟩ = some (.int .u64 (v : Int)) ∧ w.cell? ⟨g, k * 4 + 3, none⟩ = some (.int .u64 (v : Int))) := fun k h1 h2 => by
    have key : ∀ t y : Nat, (tailM v 8)[t]? = some y → t < 32 → w.cell? ⟨g, 4 * m + t, none⟩ = some (.int .u64 (y : Int)) := fun t y hy ht => by
      have := hwd (4 * m + t) (by omega)
      rw [Nat.zero_add, List.getElem_append_right (by simp)] at this
      obtain ⟨ht2, rfl⟩ := List.getElem?_eq_some_iff.1 hy
      simpa using this
    obtain ⟨t0, t1, t2, t3⟩ := tailM_get v 8 (k - m) (by omega)
    have k0 := key _ _ t0 (by omega)
    have k1 := key _ _ t1 (by omega)
    have k2 := key _ _ t2 (by omega)
    have k3 := key _ _ t3 (by omega)
    rw [show 4 * m + 4 * (k - m) = k * 4 by omega] at k0
    rw [show 4 * m + (4 * (k - m) + 1) = k * 4 + 1 by omega] at k1
    rw [show 4 * m + (4 * (k - m) + 2) = k * 4 + 2 by omega] at k2
    rw [show 4 * m + (4 * (k - m) + 3) = k * 4 + 3 by omega] at k3
    exact ⟨by simpa using k0, k1, k2, k3⟩
  have q1 := fun W => eq28 (v : Int) (v : Int) (v : Int) (v : Int) (v : Int) (v : Int) (v : Int) (v : Int) W
  have q2 := fun W => eq28 ((v : Int) + 1) (v : Int) (v : Int) (v : Int) ((v : Int) + 1) (v : Int) (v : Int) (v : Int) W
  have d1 : decide ((v : Int) = v ∧ (v : Int) = v ∧ (v : Int) = v ∧ (v : Int) = v) = true := by simp
  have d2 : decide ((v : Int) + 1 = v + 1 ∧ (v : Int) = v ∧ (v : Int) = v ∧ (v : Int) = v) = true := by simp
  rw [d1] at q1
  rw [d2] at q2
  clear hwd hlen h d1 d2
  show Calls Try.prog 24 #[.slice (some ⟨g, 0, none⟩) (m + 8) cap, .int .i64 (m : Int), .int .u64 (v : Int)] w _
  go_enter Try.func24, Try.ntmps24
  go_wp2_with fail
  go_loopw [7] (fun i W => ∃ k : Nat, k ≤ m + 8 ∧ i = .int .i64 k ∧ W = w) (fun i _ => m + 8 - (intOf i).toNat)
  case atStart => exact ⟨0, by omega, rfl, rfl⟩
  case round =>
    obtain ⟨k, hk, rfl, rfl⟩ := hrel
    by_cases hlt : k < m + 8
    · by_cases h1 : k < m
      · obtain ⟨c0, c1, c2, c3⟩ := HR1.out k h1
        go_wp2_with fail
        exact ⟨⟨k + 1, hlt, rfl, trivial⟩, by simp [intOf]; omega⟩
      · obtain ⟨c0, c1, c2, c3⟩ := HR2.out k (by omega) hlt
        have h2 : (m : Int) ≤ (k : Int) := by omega
        go_wp2_with fail
        exact ⟨⟨k + 1, hlt, rfl, trivial⟩, by simp [intOf]; omega⟩
    · go_wp2_with fail
      go_ret
      exact ⟨rfl, rfl⟩

theorem scored_at (base : Nat) (sv : Value) (m : Nat) (ws : List Nat) (v : Nat) (w : World) (vz : Int) (hz : vz = (v : Int)) (h : OwnR w base sv m ws) (hb : base ≤ w.heap.size) (hm : m ≤ 65536) (hv : v < 1000) :
    Calls Try.prog 23 #[sv, .int .u64 vz] w fun e w' => ∃ sv', e = .returned sv' ∧ OwnR w' base sv' (m + 8) (List.replicate (4 * m) v ++ tailM v 8) ∧ Touch sv.ownBlock.toList w w' ∧ ∀ b, sv'.ownBlock = some b → b ∈ sv.ownBlock.toList ∨ w.heap.size ≤ b := by
  subst hz
  exact scored_any base sv m ws v w h hb hm hv
theorem stands_at (base : Nat) (sv : Value) (m v : Nat) (w : World) (vz : Int) (hz : vz = (v : Int)) (h : OwnR w base sv (m + 8) (List.replicate (4 * m) v ++ tailM v 8)) (hm : m ≤ 65536) (hv : v < 1000) :
    Calls Try.prog 24 #[sv, .int .i64 (m : Int), .int .u64 vz] w fun e w' => e = .returned (.bool true) ∧ w' = w := by
  subst hz
  exact stands_any base sv m v w h hm hv
end Go.Proofs.Ytfodpeiecmbojaa
