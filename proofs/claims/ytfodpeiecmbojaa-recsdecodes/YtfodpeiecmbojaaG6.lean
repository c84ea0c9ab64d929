/-
  Records of one's own: roomy, turned.
-/
import Derived.Test.YtfodpeiecmbojaaG4
namespace Go.Proofs.Ytfodpeiecmbojaa
open Go.RowKit Go.Deep PureCrc

def wcl (l : List Nat) : List Value := l.map fun x : Nat => Value.int .u64 (x : Int)
/-- a slice of records that nobody else has, in a block not below base. -/
abbrev OwnR (w : World) (base : Nat) (v : Value) (n : Nat) (ws : List Nat) : Prop := w.ownsRow base 28 4 v n (wcl ws)

theorem OwnR.len {w : World} {base n : Nat} {v : Value} {ws : List Nat} (h : OwnR w base v n ws) : ws.length = 4 * n := by
  have := h.1
  simp [wcl] at this
  omega
theorem OwnR.shape {w : World} {base n : Nat} {v : Value} {ws : List Nat} (h : OwnR w base v n ws) : ∃ sa c, v = .slice sa n c ∧ n ≤ c ∧ Rs w sa n ws := by
  rcases h.2 with ⟨hv, hn⟩ | ⟨g, cap, cur, hv, hb, hg, hc, _, _, ht⟩
  · exact ⟨none, 0, by rw [hv, hn], by omega, h.len, fun h0 => by omega⟩
  · refine ⟨_, _, hv, hc, h.len, fun _ => ⟨g, 0, rfl, lt_of_block hg, fun i hi => ?_⟩⟩
    have h1 := h.cells (g := g) (by rw [hv]; rfl) i (.int .u64 (ws[i] : Int)) (by simp [wcl, List.getElem?_eq_getElem hi])
    have ha : (⟨g, 0, none⟩ : Addr).add i = ⟨g, 0 + i, none⟩ := by unfold Addr.add; split <;> simp_all
    rw [ha] at h1
    exact h1

theorem wpList_appR (w : World) {ops : Array Oper} {rest : List Oper} {o : Oper} {a : Act} {Q : Exit → Act → World → Prop} (hgd : o.guard = none) (s x : Operand)
    (hop : o.op = Op.call { callee := Callee.builtin Builtin.append, args := #[s, x], argTypes := #[29, 29] })
    (base : Nat) (v : Value) (n : Nat) (ws : List Nat) (ad : Addr) (news : List Nat) (m c : Nat) (hs : a.eval s = v) (hx : a.eval x = .slice (some ad) m c) (hml : news.length = m * 4) (hown : OwnR w base v n ws) (hc : ∀ j (h : j < news.length), w.cell? (ad.add j) = some (.int .u64 (news[j] : Int)))
    (hm : 0 < m) (hn : n + m ≤ 4398046511104) (hb : base ≤ w.heap.size)
    (hK : ∀ v' w', OwnR w' base v' (n + m) (ws ++ news) → Below base w w' → wpList Try.prog ops Q rest (a.put o.dst v') w') : wpList Try.prog ops Q (o :: rest) a w := by
  obtain ⟨i, h0, hz0, hz1, hz2⟩ := info_parts Try.info28
  refine wpList_append_lies w hgd s x 29 hop base 28 i _ 4 32 Try.underlying29 h0 hz0 hz1 hz2 rfl (by decide) v n (wcl ws) hs hown ad m c (wcl news) hx (by simp [wcl, hml])
    (fun j u hu => ?_) (fun u hu => ?_) hm (by unfold maxLen; omega) (by omega) hb _ rfl (fun g cap w' r1 r2 r3 _ => hK _ w' ?_ (below_grown r2 (fun k hk => (hown.lt k hk).1) hb))
  · simp only [wcl, List.getElem?_map] at hu
    obtain ⟨y, hy, rfl⟩ := Option.map_eq_some_iff.1 hu
    obtain ⟨hj, rfl⟩ := List.getElem?_eq_some_iff.1 hy
    exact hc j hj
  · obtain ⟨y, _, rfl⟩ := List.mem_map.1 hu
    rfl
  · have e : wcl (ws ++ news) = wcl ws ++ wcl news := by simp [wcl]
    unfold OwnR
    rw [e]
    exact r1

theorem cells8 (W : World) : ∀ j (h : j < [7, 7, 7, 7, 8, 8, 8, 8].length), (W.alloc (.cells #[.int .u64 7, .int .u64 7, .int .u64 7, .int .u64 7, .int .u64 8, .int .u64 8, .int .u64 8, .int .u64 8] 28)).cell? ((⟨W.heap.size, 0, none⟩ : Addr).add j) = some (.int .u64 (([7, 7, 7, 7, 8, 8, 8, 8][j] : Nat) : Int)) := fun j h => by
  have ha : (⟨W.heap.size, 0, none⟩ : Addr).add j = ⟨W.heap.size, j, none⟩ := by unfold Addr.add; split <;> simp_all
  rw [ha, cell_row (heap_alloc_new W _)]
  simp at h
  have : j = 0 ∨ j = 1 ∨ j = 2 ∨ j = 3 ∨ j = 4 ∨ j = 5 ∨ j = 6 ∨ j = 7 := by omega
  rcases this with rfl | rfl | rfl | rfl | rfl | rfl | rfl | rfl <;> rfl

theorem append_nil_nilR (ty : TypeId) (w : World) (a : Option Addr) (c : Nat) : (Builtin.append_ #[29, 29] ty #[.slice none 0 0, .slice a 0 c]).run Try.prog w = .ok (.slice none 0 0) w := by
  obtain ⟨i, hi, hz0, hz1, hz2⟩ := info_parts Try.info28
  cases a <;> simp [Builtin.append_, run_underlying Try.underlying29, sizeOf, typeInfo, hi, Builtin.lenOf, Builtin.firstCells, loadCells, loadCellsFrom]

theorem run_copyR (ty : TypeId) (w : World) {sa : Option Addr} {n c : Nat} {ws : List Nat} (h : Rs w sa n ws) (hn : n ≤ 4398046511102) :
    ∃ v w', (Builtin.append_ #[29, 29] ty #[.slice none 0 0, .slice sa n c]).run Try.prog w = .ok v w' ∧ OwnR w' w.heap.size v n ws ∧ Below w.heap.size w w' := by
  by_cases h0 : n = 0
  · subst h0
    have hd : ws = [] := List.eq_nil_of_length_eq_zero (by have := h.len; omega)
    subst hd
    exact ⟨_, _, append_nil_nilR ty w sa c, World.ownsRow_nil _ _ _ _, Below.refl _ _⟩
  · obtain ⟨b, o, rfl, hb, hw⟩ := h.at_ (by omega)
    have hl := h.len
    obtain ⟨i, hi, hz0, hz1, hz2⟩ := info_parts Try.info28
    obtain ⟨v', w', hr, ho, hg, _⟩ := run_append_own (P := Try.prog) w w.heap.size 29 ty 28 i _ 4 32 Try.underlying29 hi hz0 hz1 hz2 rfl (by decide) (.slice none 0 0) 0 [] (World.ownsRow_nil _ _ _ _) ⟨b, o, none⟩ n c (wcl ws) (by simp [wcl]; omega)
      (fun j u hu => by
        simp only [wcl, List.getElem?_map] at hu
        obtain ⟨y, hy, rfl⟩ := Option.map_eq_some_iff.1 hu
        obtain ⟨hj, rfl⟩ := List.getElem?_eq_some_iff.1 hy
        have ha : (⟨b, o, none⟩ : Addr).add j = ⟨b, o + j, none⟩ := by unfold Addr.add; split <;> simp_all
        rw [ha]
        exact hw j hj) (fun u hu => by obtain ⟨y, _, rfl⟩ := List.mem_map.1 hu; rfl) (by unfold maxLen; omega) (by omega) (Nat.le_refl _)
    refine ⟨v', w', hr, ?_, below_grown hg (by simp [Value.ownBlock]) (Nat.le_refl _)⟩
    simpa using ho

theorem wpList_copyR (w : World) {ops : Array Oper} {rest : List Oper} {o : Oper} {a : Act} {Q : Exit → Act → World → Prop} (hgd : o.guard = none) (x : Operand)
    (hop : o.op = Op.call { callee := Callee.builtin Builtin.append, args := #[.const (.slice none 0 0), x], argTypes := #[29, 29] })
    (sa : Option Addr) (n c : Nat) (ws : List Nat) (hx : a.eval x = .slice sa n c) (h : Rs w sa n ws) (hn : n ≤ 4398046511102)
    (hK : ∀ v' w', OwnR w' w.heap.size v' n ws → Below w.heap.size w w' → wpList Try.prog ops Q rest (a.put o.dst v') w') : wpList Try.prog ops Q (o :: rest) a w := by
  refine wpList_plain hgd fun K' hK' => ?_
  obtain ⟨v', w', hrun, ho, hb⟩ := run_copyR (c := c) o.type w h hn
  have hs : a.eval (.const (.slice none 0 0)) = .slice none 0 0 := rfl
  unfold Oper.wp
  simp [execOp, hop, resolve, invoke, builtin, hs, hx, hrun, Result.andThen]
  exact hK' _ _ (hK v' w' ho hb)

set_option maxRecDepth 100000 in
set_option maxHeartbeats 1000000 in
theorem roomy_any {w : World} {sa : Option Addr} {n c : Nat} {ws : List Nat} (h : Rs w sa n ws) (hn : n ≤ 4398046511102) :
    Calls Try.prog 14 #[.slice sa n c] w fun e w' => ∃ sv, e = .returned sv ∧ OwnR w' w.heap.size sv (n + 2) (ws ++ [7, 7, 7, 7, 8, 8, 8, 8]) ∧ Touch [] w w' := by
  have HR := hid h
  clear h
  go_enter Try.func14, Try.ntmps14
  go_wp2_with (first
    | (at_builtin; refine wpList_copyR _ rfl _ rfl sa n c ws rfl HR.out hn ?_; intro v1 w1 r1 r2; have O1 := hid (r1.alloc (.cells #[.int .u64 7, .int .u64 7, .int .u64 7, .int .u64 7, .int .u64 8, .int .u64 8, .int .u64 8, .int .u64 8] 28)); have B1 := hid r2; have C1 := hid (cells8 w1); clear r1 r2)
    | (at_builtin; refine wpList_appR _ rfl _ _ rfl w.heap.size _ n ws ⟨w1.heap.size, 0, none⟩ [7, 7, 7, 7, 8, 8, 8, 8] 2 2 rfl rfl rfl O1.out C1.out (by omega) (by omega) (by have := B1.out.size; simp; omega) ?_; intro v2 w2 r1 r2; have O2 := hid r1; have B2 := hid ((B1.out.alloc (B1.out.size) _).trans r2); clear r1 r2))
  go_ret
  exact ⟨_, rfl, O2.out, Touch.of_below B2.out (Nat.le_refl _)⟩

/-- the records, the last one first. -/
def rev (ws : List Nat) (n : Nat) : Nat → List Nat
  | 0 => []
  | k + 1 => rev ws n k ++ (ws.drop (4 * (n - 1 - k))).take 4

theorem rev_length {ws : List Nat} {n : Nat} (hl : ws.length = 4 * n) : ∀ k, k ≤ n → (rev ws n k).length = 4 * k
  | 0, _ => rfl
  | k + 1, hk => by
    rw [rev, List.length_append, rev_length hl k (by omega), List.length_take, List.length_drop]
    omega
theorem rev_mem {ws : List Nat} {n x : Nat} : ∀ k, x ∈ rev ws n k → x ∈ ws
  | 0, h => by simp [rev] at h
  | k + 1, h => by
    rw [rev, List.mem_append] at h
    rcases h with h | h
    · exact rev_mem k h
    · exact List.mem_of_mem_drop (List.mem_of_mem_take h)

theorem cells4 (W : World) (x0 x1 x2 x3 : Nat) : ∀ j (h : j < [x0, x1, x2, x3].length), (W.alloc (.cells #[.int .u64 (x0 : Int), .int .u64 (x1 : Int), .int .u64 (x2 : Int), .int .u64 (x3 : Int)] 28)).cell? ((⟨W.heap.size, 0, none⟩ : Addr).add j) = some (.int .u64 (([x0, x1, x2, x3][j] : Nat) : Int)) := fun j h => by
  have ha : (⟨W.heap.size, 0, none⟩ : Addr).add j = ⟨W.heap.size, j, none⟩ := by unfold Addr.add; split <;> simp_all
  rw [ha, cell_row (heap_alloc_new W _)]
  simp at h
  have : j = 0 ∨ j = 1 ∨ j = 2 ∨ j = 3 := by omega
  rcases this with rfl | rfl | rfl | rfl <;> rfl

theorem take4 {ws : List Nat} {k x0 x1 x2 x3 : Nat} (h0 : ws[4 * k]? = some x0) (h1 : ws[4 * k + 1]? = some x1) (h2 : ws[4 * k + 2]? = some x2) (h3 : ws[4 * k + 3]? = some x3) : (ws.drop (4 * k)).take 4 = [x0, x1, x2, x3] := by
  obtain ⟨a0, rfl⟩ := List.getElem?_eq_some_iff.1 h0
  obtain ⟨a1, rfl⟩ := List.getElem?_eq_some_iff.1 h1
  obtain ⟨a2, rfl⟩ := List.getElem?_eq_some_iff.1 h2
  obtain ⟨a3, rfl⟩ := List.getElem?_eq_some_iff.1 h3
  rw [List.drop_eq_getElem_cons a0, List.drop_eq_getElem_cons a1, List.drop_eq_getElem_cons a2, List.drop_eq_getElem_cons a3]
  rfl

set_option maxRecDepth 100000 in
set_option maxHeartbeats 1000000 in
theorem turned_any {w : World} {sa : Option Addr} {n c : Nat} {ws : List Nat} (h : Rs w sa n ws) (hn : n ≤ 4398046511102) :
    Calls Try.prog 15 #[.slice sa n c] w fun e w' => ∃ sv, e = .returned sv ∧ OwnR w' w.heap.size sv n (rev ws n n) ∧ Touch [] w w' := by
  have HR := hid h
  clear h
  go_enter Try.func15, Try.ntmps15
  go_wp2_with fail
  go_loopw [3, 4] (fun bv i W => ∃ k : Nat, k ≤ n ∧ i = .int .i64 ((n : Int) - 1 - k) ∧ OwnR W w.heap.size bv k (rev ws n k) ∧ Below w.heap.size w W) (fun _ i _ => (intOf i + 1).toNat)
  case atStart => exact ⟨0, Nat.zero_le _, by simp, World.ownsRow_nil _ _ _ _, Below.refl _ _⟩
  case round =>
    obtain ⟨k, hk, rfl, h1, h2⟩ := hrel
    by_cases hlt : k < n
    · obtain ⟨b, o, rfl, hb, hw⟩ := HR.out.at_ (by omega)
      obtain ⟨x0, x1, x2, x3, c0, c1, c2, c3, e0, e1, e2, e3⟩ := Wd.rec (w := w) hw HR.out.len (k := n - 1 - k) (by omega)
      obtain ⟨q, hq⟩ : ∃ q, q = n - 1 - k := ⟨_, rfl⟩
      rw [← hq] at c0 c1 c2 c3 e0 e1 e2 e3
      have hqi : (n : Int) - 1 - (k : Int) = (q : Int) := by omega
      have d0 := (h2.cell (p := ⟨b, o + q * 4, none⟩) hb).trans c0
      have d1 := (h2.cell (p := ⟨b, o + q * 4 + 1, none⟩) hb).trans c1
      have d2 := (h2.cell (p := ⟨b, o + q * 4 + 2, none⟩) hb).trans c2
      have d3 := (h2.cell (p := ⟨b, o + q * 4 + 3, none⟩) hb).trans c3
      have HRV : Hid (rev ws n (k + 1) = rev ws n k ++ [x0, x1, x2, x3]) := by
        show _ = _
        rw [rev, ← hq, take4 e0 e1 e2 e3]
      have O1 := hid (h1.alloc (.cells #[.int .u64 (x0 : Int), .int .u64 (x1 : Int), .int .u64 (x2 : Int), .int .u64 (x3 : Int)] 28))
      have B1 := hid h2
      have C1 := hid (cells4 wr x0 x1 x2 x3)
      have hqn : q < n := by omega
      have HQ := hid hq
      rw [hqi]
      clear h1 h2 c0 c1 c2 c3 e0 e1 e2 e3 hw hq hqi
      go_wp2_with (first
        | (at_builtin; refine wpList_appR _ rfl _ _ rfl w.heap.size _ k (rev ws n k) ⟨wr.heap.size, 0, none⟩ [x0, x1, x2, x3] 1 1 rfl rfl rfl O1.out C1.out (by omega) (by omega) (by have := B1.out.size; simp; omega) ?_; intro v2 w2 r1 r2; have O2 := hid r1; have B2 := hid ((B1.out.alloc (B1.out.size) _).trans r2); clear r1 r2))
      exact ⟨⟨k + 1, hlt, congrArg (Value.int .i64) (by have := HQ.out; omega), by rw [HRV.out]; exact O2.out, B2.out⟩, by simp [intOf]⟩
    · have e : k = n := by omega
      subst e
      have HF := hid (And.intro h1 h2)
      have hm1 : (k : Int) - 1 - (k : Int) = -1 := by omega
      rw [hm1]
      clear h1 h2 hm1
      go_wp2_with fail
      go_ret
      exact ⟨_, rfl, HF.out.1, Touch.of_below HF.out.2 (Nat.le_refl _)⟩
end Go.Proofs.Ytfodpeiecmbojaa
