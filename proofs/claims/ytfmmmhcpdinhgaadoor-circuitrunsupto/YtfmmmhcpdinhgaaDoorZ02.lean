import Derived.Test.YtfmmmhcpdinhgaaDoorZ01
/-
  The document's own FormedLine, leans.
-/
namespace Go.Proofs.YtfmmmhcpdinhgaaDoor
open Go.RowKit Go.Deep PureNet
set_option maxRecDepth 100000

set_option maxHeartbeats 2000000 in
set_option maxRecDepth 100000 in
theorem formedLine_any (g : Ga) (n : Nat) (w : World) : Calls Tryd.prog 56 #[.agg #[.int .i64 g.kind, .string g.name, .int .i64 g.op, .int .i64 g.a, .int .i64 g.b, .int .i64 g.c], .int .i64 (n : Int)] w fun e w' => e = .returned (.bool (lineB g n)) ∧ Below w.heap.size w w' := by
  have FA := hid (fun v u W => field_any v u n W)
  by_cases hk : 1 ≤ g.kind ∧ g.kind ≤ 4 ∧ 0 ≤ g.op
  · obtain ⟨k1, k2, k3⟩ := hk
    have hk : g.kind = 1 ∨ g.kind = 2 ∨ g.kind = 3 ∨ g.kind = 4 := by omega
    have HL : Hid (lineB g n = (decide (g.op ≤ mostOp g.kind) && fieldB g.a (decide (g.kind ≠ 1)) n && fieldB g.b (decide (g.kind = 2 ∨ g.kind = 4)) n && fieldB g.c (decide (g.kind = 4)) n)) := by
      show _ = _
      unfold lineB
      rw [show decide (1 ≤ g.kind ∧ g.kind ≤ 4 ∧ 0 ≤ g.op ∧ g.op ≤ mostOp g.kind) = decide (g.op ≤ mostOp g.kind) by simp [k1, k2, k3]]
    have k4 : ¬ g.op < 0 := by omega
    clear k1 k2 k3
    rcases hk with hk | hk | hk | hk
    · rw [hk] at HL ⊢
      have HK := hid hk
      clear hk
      go_enter Tryd.func56, Tryd.ntmps56
      go_wp2_with (first
        | (go_at_call 84; with_reducible refine (FA.out _ _ _).mono ?_; rintro e w1 ⟨rfl, rfl⟩))
      all_goals go_ret
      all_goals first
        | (have e : lineB g n = false := (by rw [HL.out]; simp [mostOp, *]; try (intro hh; omega)); rw [e]; exact ⟨rfl, (Below.refl _ _).alloc (Nat.le_refl _) _⟩)
        | (have e : lineB g n = fieldB g.c false n := (by rw [HL.out]; simp [mostOp, *]; try (intro hh; omega)); rw [e]; exact ⟨rfl, (Below.refl _ _).alloc (Nat.le_refl _) _⟩)
    · rw [hk] at HL ⊢
      have HK := hid hk
      clear hk
      go_enter Tryd.func56, Tryd.ntmps56
      go_wp2_with (first
        | (go_at_call 84; with_reducible refine (FA.out _ _ _).mono ?_; rintro e w1 ⟨rfl, rfl⟩))
      all_goals go_ret
      all_goals first
        | (have e : lineB g n = false := (by rw [HL.out]; simp [mostOp, *]; try (intro hh; omega)); rw [e]; exact ⟨rfl, (Below.refl _ _).alloc (Nat.le_refl _) _⟩)
        | (have e : lineB g n = fieldB g.c false n := (by rw [HL.out]; simp [mostOp, *]; try (intro hh; omega)); rw [e]; exact ⟨rfl, (Below.refl _ _).alloc (Nat.le_refl _) _⟩)
    · rw [hk] at HL ⊢
      have HK := hid hk
      clear hk
      go_enter Tryd.func56, Tryd.ntmps56
      go_wp2_with (first
        | (go_at_call 84; with_reducible refine (FA.out _ _ _).mono ?_; rintro e w1 ⟨rfl, rfl⟩))
      all_goals go_ret
      all_goals first
        | (have e : lineB g n = false := (by rw [HL.out]; simp [mostOp, *]; try (intro hh; omega)); rw [e]; exact ⟨rfl, (Below.refl _ _).alloc (Nat.le_refl _) _⟩)
        | (have e : lineB g n = fieldB g.c false n := (by rw [HL.out]; simp [mostOp, *]; try (intro hh; omega)); rw [e]; exact ⟨rfl, (Below.refl _ _).alloc (Nat.le_refl _) _⟩)
    · rw [hk] at HL ⊢
      have HK := hid hk
      clear hk
      go_enter Tryd.func56, Tryd.ntmps56
      go_wp2_with (first
        | (go_at_call 84; with_reducible refine (FA.out _ _ _).mono ?_; rintro e w1 ⟨rfl, rfl⟩))
      all_goals go_ret
      all_goals first
        | (have e : lineB g n = false := (by rw [HL.out]; simp [mostOp, *]; try (intro hh; omega)); rw [e]; exact ⟨rfl, (Below.refl _ _).alloc (Nat.le_refl _) _⟩)
        | (have e : lineB g n = fieldB g.c true n := (by rw [HL.out]; simp [mostOp, *]; try (intro hh; omega)); rw [e]; exact ⟨rfl, (Below.refl _ _).alloc (Nat.le_refl _) _⟩)
  · have HL : Hid (lineB g n = false) := by
      show _ = _
      unfold lineB
      rw [decide_eq_false (by omega)]
      simp
    rcases (show g.kind < 1 ∨ (1 ≤ g.kind ∧ 4 < g.kind) ∨ (1 ≤ g.kind ∧ g.kind ≤ 4 ∧ g.op < 0) by omega) with h1 | ⟨h1, h2⟩ | ⟨h1, h2, h3⟩
    · clear hk
      go_enter Tryd.func56, Tryd.ntmps56
      go_wp2
      go_ret
      rw [HL.out]
      exact ⟨rfl, (Below.refl _ _).alloc (Nat.le_refl _) _⟩
    · clear hk
      go_enter Tryd.func56, Tryd.ntmps56
      go_wp2
      go_ret
      rw [HL.out]
      exact ⟨rfl, (Below.refl _ _).alloc (Nat.le_refl _) _⟩
    · clear hk
      go_enter Tryd.func56, Tryd.ntmps56
      go_wp2
      go_ret
      rw [HL.out]
      exact ⟨rfl, (Below.refl _ _).alloc (Nat.le_refl _) _⟩
end Go.Proofs.YtfmmmhcpdinhgaaDoor
/-
  The document's own leans, Count, firsts.
-/
namespace Go.Proofs.YtfmmmhcpdinhgaaDoor
open Go.RowKit Go.Deep PureNet
set_option maxRecDepth 100000

/-- on how many lines a line leans, and which, as a value. -/
def leansV (g : Ga) : Value := if g.kind = 2 then .tuple #[.int .i64 2, .agg #[.int .i64 g.a, .int .i64 g.b, .int .i64 0]] else if g.kind = 4 then .tuple #[.int .i64 3, .agg #[.int .i64 g.a, .int .i64 g.b, .int .i64 g.c]] else .tuple #[.int .i64 0, .agg #[.int .i64 0, .int .i64 0, .int .i64 0]]
set_option maxHeartbeats 1000000 in
set_option maxRecDepth 100000 in
theorem leans_any (g : Ga) (w : World) : Calls Tryd.prog 47 #[.agg #[.int .i64 g.kind, .string g.name, .int .i64 g.op, .int .i64 g.a, .int .i64 g.b, .int .i64 g.c]] w fun e w' => e = .returned (leansV g) ∧ Below w.heap.size w w' := by
  by_cases h2 : g.kind = 2
  · have HV : Hid (leansV g = .tuple #[.int .i64 2, .agg #[.int .i64 g.a, .int .i64 g.b, .int .i64 0]]) := by show _ = _; simp [leansV, h2]
    obtain ⟨x, hx⟩ : ∃ x, x = w.alloc (Obj.cells #[.int .i64 2, .string g.name, .int .i64 g.op, .int .i64 g.a, .int .i64 g.b, .int .i64 g.c] 38) := ⟨_, rfl⟩
    have c0 : ∀ i, x.cell? ⟨w.heap.size, i, none⟩ = (#[.int .i64 2, .string g.name, .int .i64 g.op, .int .i64 g.a, .int .i64 g.b, .int .i64 g.c] : Array Value)[i]? := fun i => by rw [hx]; exact cell_row (heap_alloc_new w _) i
    have hb0 : w.heap.size < x.heap.size := by rw [hx]; simp
    have BX : Hid (Below w.heap.size w x) := by rw [hx]; exact (Below.refl _ _).alloc (Nat.le_refl _) _
    have HX := hid hx
    clear hx
    rw [h2]
    clear h2
    go_enter Tryd.func47, Tryd.ntmps47
    go_wp2_with (rw [← HX.out])
    go_region
    go_wp2
    exact bodyPost_ret (v := .tuple #[.int .i64 2, .agg #[.int .i64 g.a, .int .i64 g.b, .int .i64 0]]) (by simp [results, Tryd.results47, go_sem]) rfl ⟨by rw [HV.out], below_drewN (BX.out.alloc BX.out.size _) 1⟩
  · by_cases h4 : g.kind = 4
    · have HV : Hid (leansV g = .tuple #[.int .i64 3, .agg #[.int .i64 g.a, .int .i64 g.b, .int .i64 g.c]]) := by show _ = _; simp [leansV, h4]
      obtain ⟨x, hx⟩ : ∃ x, x = w.alloc (Obj.cells #[.int .i64 4, .string g.name, .int .i64 g.op, .int .i64 g.a, .int .i64 g.b, .int .i64 g.c] 38) := ⟨_, rfl⟩
      have c0 : ∀ i, x.cell? ⟨w.heap.size, i, none⟩ = (#[.int .i64 4, .string g.name, .int .i64 g.op, .int .i64 g.a, .int .i64 g.b, .int .i64 g.c] : Array Value)[i]? := fun i => by rw [hx]; exact cell_row (heap_alloc_new w _) i
      have hb0 : w.heap.size < x.heap.size := by rw [hx]; simp
      have BX : Hid (Below w.heap.size w x) := by rw [hx]; exact (Below.refl _ _).alloc (Nat.le_refl _) _
      have HX := hid hx
      clear hx
      rw [h4]
      clear h4 h2
      go_enter Tryd.func47, Tryd.ntmps47
      go_wp2_with (rw [← HX.out])
      go_region
      go_wp2
      exact bodyPost_ret (v := .tuple #[.int .i64 3, .agg #[.int .i64 g.a, .int .i64 g.b, .int .i64 g.c]]) (by simp [results, Tryd.results47, go_sem]) rfl ⟨by rw [HV.out], below_drewN (BX.out.alloc BX.out.size _) 1⟩
    · have HV : Hid (leansV g = .tuple #[.int .i64 0, .agg #[.int .i64 0, .int .i64 0, .int .i64 0]]) := by show _ = _; simp [leansV, h2, h4]
      obtain ⟨x, hx⟩ : ∃ x, x = w.alloc (Obj.cells #[.int .i64 g.kind, .string g.name, .int .i64 g.op, .int .i64 g.a, .int .i64 g.b, .int .i64 g.c] 38) := ⟨_, rfl⟩
      have c0 : ∀ i, x.cell? ⟨w.heap.size, i, none⟩ = (#[.int .i64 g.kind, .string g.name, .int .i64 g.op, .int .i64 g.a, .int .i64 g.b, .int .i64 g.c] : Array Value)[i]? := fun i => by rw [hx]; exact cell_row (heap_alloc_new w _) i
      have hb0 : w.heap.size < x.heap.size := by rw [hx]; simp
      have BX : Hid (Below w.heap.size w x) := by rw [hx]; exact (Below.refl _ _).alloc (Nat.le_refl _) _
      have HX := hid hx
      clear hx
      go_enter Tryd.func47, Tryd.ntmps47
      go_wp2_with (rw [← HX.out])
      exact bodyPost_ret (v := .tuple #[.int .i64 0, .agg #[.int .i64 0, .int .i64 0, .int .i64 0]]) (by simp [results, Tryd.results47, go_sem]) rfl ⟨by rw [HV.out], BX.out.alloc BX.out.size _⟩

set_option maxHeartbeats 1000000 in
set_option maxRecDepth 100000 in
theorem rcount_any (c : Net) (sg so : Option Addr) (cg co : Nat) (k : Int) (w : World) (hc : CellsAt w sg (gas c.gates)) (hl : c.gates.length ≤ 1099511627776) :
    Calls Tryd.prog 60 #[cirV c sg cg so co, .int .i64 k] w fun e w' => e = .returned (.int .i64 (cnt k c.gates : Int)) ∧ Below w.heap.size w w' := by
  have HC := hid hc
  clear hc
  go_enter Tryd.func60, Tryd.ntmps60
  go_wp2
  obtain ⟨x, hx⟩ : ∃ x, x = w.alloc (Obj.cells #[Value.string c.name, Value.slice sg c.gates.length cg, Value.slice so c.outs.length co] 26) := ⟨_, rfl⟩
  have c0 : ∀ i, x.cell? ⟨w.heap.size, i, none⟩ = (#[Value.string c.name, Value.slice sg c.gates.length cg, Value.slice so c.outs.length co] : Array Value)[i]? := fun i => by rw [hx]; exact cell_row (heap_alloc_new w _) i
  have hb0 : w.heap.size < x.heap.size := by rw [hx]; simp
  have BX : Hid (Below w.heap.size w x) := by rw [hx]; exact (Below.refl _ _).alloc (Nat.le_refl _) _
  rw [← hx]
  clear hx
  go_loopw [5, 6] (fun nv iv W => ∃ i : Nat, i ≤ c.gates.length ∧ iv = .int .i64 (i : Int) ∧ nv = .int .i64 (cnt k (c.gates.take i) : Int) ∧ W = x) (fun nv iv _ => c.gates.length - (intOf iv).toNat)
  case atStart => exact ⟨0, Nat.zero_le _, rfl, rfl, rfl⟩
  case round =>
    obtain ⟨i, hi, rfl, rfl, rfl⟩ := hrel
    have hcl := cnt_take_le_i k c.gates i
    by_cases hlt : i < c.gates.length
    · obtain ⟨g, hg⟩ : ∃ g, c.gates[i]? = some g := ⟨_, List.getElem?_eq_getElem hlt⟩
      obtain ⟨b, o, rfl, hb, d0, _⟩ := gate_at (HC.out.below BX.out) i g hg
      have HN := hid (cnt_take_succ k c.gates i hg)
      by_cases hk : g.kind = k
      · rw [if_pos hk] at HN
        clear hg
        go_wp2
        exact ⟨⟨i + 1, hlt, by go_num, by rw [HN.out]; go_num, trivial⟩, by simp [intOf]; omega⟩
      · rw [if_neg hk] at HN
        clear hg
        go_wp2
        exact ⟨⟨i + 1, hlt, by go_num, by rw [HN.out]; rfl, trivial⟩, by simp [intOf]; omega⟩
    · have hin : i = c.gates.length := by omega
      have HT : Hid (cnt k (c.gates.take i) = cnt k c.gates) := by show _ = _; rw [hin, List.take_length]
      clear hin
      go_wp2
      go_ret
      exact ⟨by rw [← HT.out]; rfl, BX.out⟩

set_option maxHeartbeats 1000000 in
set_option maxRecDepth 100000 in
theorem rfirsts_any (c : Net) (sg so : Option Addr) (cg co : Nat) (w : World) (hc : CellsAt w sg (gas c.gates)) (hl : c.gates.length ≤ 1099511627776) :
    Calls Tryd.prog 62 #[cirV c sg cg so co] w fun e w' => ∃ v, e = .returned v ∧ Mk w w' 4 1 v (cnt 3 c.gates) (bo (firstsOf c.gates)) := by
  have HC := hid hc
  clear hc
  go_enter Tryd.func62, Tryd.ntmps62
  go_wp2
  obtain ⟨x, hx⟩ : ∃ x, x = w.alloc (Obj.cells #[Value.string c.name, Value.slice sg c.gates.length cg, Value.slice so c.outs.length co] 26) := ⟨_, rfl⟩
  have RX : Hid (x.heap[w.heap.size]? = some (.cells #[Value.string c.name, Value.slice sg c.gates.length cg, Value.slice so c.outs.length co] 26 (0, 0))) := by rw [hx]; exact heap_alloc_new w _
  have BX : Hid (Below w.heap.size w x) := by rw [hx]; exact (Below.refl _ _).alloc (Nat.le_refl _) _
  rw [← hx]
  clear hx
  go_loopw [3, 4] (fun vv iv W => ∃ i : Nat, i ≤ c.gates.length ∧ iv = .int .i64 (i : Int) ∧ Hid (Mk x W 4 1 vv (cnt 3 (c.gates.take i)) (bo (firstsOf (c.gates.take i))))) (fun vv iv _ => c.gates.length - (intOf iv).toNat)
  case atStart => exact ⟨0, Nat.zero_le _, rfl, Mk.nil _ _ _⟩
  case round =>
    obtain ⟨i, hi, rfl, HR⟩ := hrel
    have hr := HR.out
    obtain ⟨sv, cv, rfl⟩ := own_shape hr.own
    have hrow := (hr.below.block _ (Array.getElem?_eq_some_iff.1 RX.out).1).trans RX.out
    have c0 := fun j => cell_row hrow j
    have hb0 := (Array.getElem?_eq_some_iff.1 hrow).1
    have hwr : Below w.heap.size w wr := BX.out.trans (hr.below.mono BX.out.size)
    have hcl := cnt_take_le_i 3 c.gates i
    by_cases hlt : i < c.gates.length
    · obtain ⟨g, hg⟩ : ∃ g, c.gates[i]? = some g := ⟨_, List.getElem?_eq_getElem hlt⟩
      obtain ⟨b, o, rfl, hb, d0, _, d2, _⟩ := gate_at (HC.out.below hwr) i g hg
      have HN := hid (cnt_take_succ 3 c.gates i hg)
      have htk : c.gates.take (i + 1) = c.gates.take i ++ [g] := by rw [List.take_add_one, hg]; rfl
      by_cases hk : g.kind = 3
      · have HT : Hid (bo (firstsOf (c.gates.take (i + 1))) = bo (firstsOf (c.gates.take i)) ++ [.bool (decide (g.op = 1))]) := by
          show _ = _
          rw [htk]
          simp [bo, firstsOf, hk]
        rw [if_pos hk] at HN
        rw [hk] at d0
        have hbe : (g.op == 1) = decide (g.op = 1) := by by_cases h : g.op = 1 <;> simp [h]
        obtain ⟨m, hm⟩ : ∃ m, m = cnt 3 (c.gates.take i) := ⟨_, rfl⟩
        rw [← hm] at HN hcl HR ⊢
        clear hg htk hk hr hrow hwr hm
        go_wp2_with (first
          | (at_builtin; refine mk_app rfl _ _ 29 (.bool false) 1 rfl Tryd.underlying29 info4 rfl (by decide) HR.out [.bool (decide (g.op = 1))] 4 _ rfl rfl rfl rfl (fun u hu => by simp at hu; subst hu; rfl) (by omega) (by omega) ?_; intro sx cx w2 _ m2; have M2 := hid m2; clear m2))
        exact ⟨⟨i + 1, hlt, by go_num, by show Mk _ _ _ _ _ _ _; rw [HT.out, HN.out]; exact M2.out⟩, by simp [intOf]; omega⟩
      · have HT : Hid (bo (firstsOf (c.gates.take (i + 1))) = bo (firstsOf (c.gates.take i))) := by
          show _ = _
          rw [htk]
          simp [bo, firstsOf, hk]
        rw [if_neg hk] at HN
        clear hg htk hr hrow hwr
        go_wp2
        exact ⟨⟨i + 1, hlt, by go_num, by show Mk _ _ _ _ _ _ _; rw [HT.out, HN.out]; exact HR.out⟩, by simp [intOf]; omega⟩
    · have hin : i = c.gates.length := by omega
      subst hin
      rw [List.take_length] at hr
      have HF : Hid (Mk w wr 4 1 (Value.slice sv (cnt 3 (c.gates.take c.gates.length)) cv) (cnt 3 c.gates) (bo (firstsOf c.gates))) := by
        rw [List.take_length]
        exact ⟨⟨hr.own.1, hr.own.2.imp id (fun ⟨g, cap, cur, hv, hB, r⟩ => ⟨g, cap, cur, hv, Nat.le_trans BX.out.size hB, r⟩)⟩, hwr⟩
      clear hr hwr hrow
      go_wp2
      go_ret
      exact ⟨_, rfl, HF.out⟩
end Go.Proofs.YtfmmmhcpdinhgaaDoor
/-
  Lists that were handed out, and what is grown out of them: which blocks turn, which stay. For any program.
-/
namespace ShfKit
open Go Go.RowKit
set_option maxRecDepth 100000

section
variable {P : Program} {w w' W W' : World} {B B' e size n m : Nat} {v u : Value} {xs news A M : List Value}

theorem own_base (h : w.ownsRow B' e size v n xs) (hB : B ≤ B') : w.ownsRow B e size v n xs := by
  refine ⟨h.1, ?_⟩
  rcases h.2 with hn | ⟨g, cap, cur, hv, hb, rest⟩
  · exact .inl hn
  · exact .inr ⟨g, cap, cur, hv, Nat.le_trans hB hb, rest⟩
theorem own_block (h : w.ownsRow B e size v n xs) {g : Nat} (hg : v.ownBlock = some g) : B ≤ g ∧ g < w.heap.size := by
  rcases h.2 with ⟨hv, _⟩ | ⟨g', cap, cur, hv, hb, hr, _⟩
  · rw [hv] at hg; cases hg
  · rw [hv] at hg
    simp only [Value.ownBlock, Option.some.injEq] at hg
    subst hg
    exact ⟨hb, (Array.getElem?_eq_some_iff.1 hr).1⟩
theorem own_kept (h : w.ownsRow B e size v n xs) (hk : ∀ g, v.ownBlock = some g → w'.heap[g]? = w.heap[g]?) : w'.ownsRow B e size v n xs := by
  refine ⟨h.1, ?_⟩
  rcases h.2 with hn | ⟨g, cap, cur, hv, hb, hr, rest⟩
  · exact .inl hn
  · exact .inr ⟨g, cap, cur, hv, hb, (hk g (by rw [hv]; rfl)).trans hr, rest⟩

/-- append: where it stood, or in a block that is new. -/
theorem run_append_far (w : World) (B : Nat) (t ty e : TypeId) (i : TypeInfo) (z : Value) (size bytes : Nat) (ht : P.underlying t = some (.slice e)) (hi : P.info? e = some i) (hz : i.zero = some z)
    (hsize : i.size = size) (hby : i.bytes = bytes) (hzs : z.cells.size = size) (hsz : 0 < size)
    (v : Value) (n : Nat) (xs : List Value) (hown : w.ownsRow B e size v n xs)
    (a : Addr) (m c : Nat) (news : List Value) (hl : news.length = m * size) (hnews : ∀ j u, news[j]? = some u → w.cell? (a.add j) = some u) (h1 : ∀ u ∈ news, u.oneCell' = true)
    (h63 : n + m ≤ maxLen) (hbytes : (n + m) * bytes ≤ 140737488355328) (hbase : B ≤ w.heap.size) :
    ∃ v' w', (Builtin.append_ #[t, t] ty #[v, .slice (some a) m c]).run P w = .ok v' w' ∧ w'.ownsRow B e size v' (n + m) (xs ++ news) ∧
      ((v'.ownBlock = v.ownBlock ∧ w.grownBy w' v.ownBlock) ∨ ((∀ g, v'.ownBlock = some g → w.heap.size ≤ g) ∧ w.grownBy w' none)) := by
  rcases hown.2 with ⟨rfl, rfl⟩ | ⟨g, cap, cur, rfl, hb, hr, hnc, hcm, hcs, htk⟩
  · obtain rfl : xs = [] := List.eq_nil_of_length_eq_zero (by simpa using hown.1)
    obtain ⟨v', w', hrun, r1, r2, _⟩ := run_append_own (P := P) w w.heap.size t ty e i z size bytes ht hi hz hsize hby hzs hsz (.slice none 0 0) 0 [] (World.ownsRow_nil w _ e size) a m c news hl hnews h1 h63 hbytes (Nat.le_refl _)
    exact ⟨v', w', hrun, own_base r1 hbase, .inr ⟨fun g hg => (own_block r1 hg).1, r2⟩⟩
  · by_cases hroom : n + m ≤ cap
    · obtain ⟨w', hrun, r1, r2⟩ := run_append_own_spare (P := P) w B t ty e i size ht hi hsize g n cap xs hown a m c news hl hnews h1 hroom
      exact ⟨_, w', hrun, r1, .inl ⟨rfl, r2⟩⟩
    · have hold : ∀ j u, xs[j]? = some u → w.cell? ((⟨g, 0, none⟩ : Addr).add j) = some u := fun j u hj => by
        rw [Addr.add_lit, Nat.zero_add]
        have h1 : cur.toList[j]? = some u := by
          rw [← htk] at hj
          rw [List.getElem?_take] at hj
          split at hj
          · exact hj
          · cases hj
        simp [World.cell?, hr]
        simpa using h1
      obtain ⟨v', w', hrun, r1, r2⟩ := run_append_arg_grows (P := P) w t ty e i z size bytes ht hi hz hsize hby hzs hsz ⟨g, 0, none⟩ n cap xs hown.1 hold a m c news hl hnews (by omega) h63 hbytes
      exact ⟨v', w', hrun, own_base r1 hbase, .inr ⟨fun g hg => (own_block r1 hg).1, r2⟩⟩

/-- the same, for the walk. -/
theorem wpList_append_far {ops : Array Oper} {rest : List Oper} {o : Oper} {a : Act} {Q : Exit → Act → World → Prop} (w : World)
    (hg : o.guard = none) (s x : Operand) (t : TypeId) (hop : o.op = Op.call { callee := Callee.builtin Builtin.append, args := #[s, x], argTypes := #[t, t] })
    (B : Nat) (e : TypeId) (i : TypeInfo) (z : Value) (size bytes : Nat) (ht : P.underlying t = some (.slice e)) (hi : P.info? e = some i) (hz : i.zero = some z)
    (hsize : i.size = size) (hby : i.bytes = bytes) (hzs : z.cells.size = size) (hsz : 0 < size)
    (v : Value) (n : Nat) (xs : List Value) (hs : a.eval s = v) (hown : w.ownsRow B e size v n xs)
    (ad : Addr) (m c : Nat) (news : List Value) (hx : a.eval x = .slice (some ad) m c) (hl : news.length = m * size) (hnews : ∀ j u, news[j]? = some u → w.cell? (ad.add j) = some u) (h1 : ∀ u ∈ news, u.oneCell' = true)
    (h63 : n + m ≤ maxLen) (hbytes : (n + m) * bytes ≤ 140737488355328) (hbase : B ≤ w.heap.size)
    (hK : ∀ v' w', w'.ownsRow B e size v' (n + m) (xs ++ news) → ((v'.ownBlock = v.ownBlock ∧ w.grownBy w' v.ownBlock) ∨ ((∀ g, v'.ownBlock = some g → w.heap.size ≤ g) ∧ w.grownBy w' none)) → wpList P ops Q rest (a.put o.dst v') w') :
    wpList P ops Q (o :: rest) a w := by
  refine wpList_plain hg fun K hK' => ?_
  obtain ⟨v', w', hrun, r1, r2⟩ := run_append_far (P := P) w B t o.type e i z size bytes ht hi hz hsize hby hzs hsz v n xs hown ad m c news hl hnews h1 h63 hbytes hbase
  unfold Oper.wp
  simp [execOp, hop, resolve, invoke, builtin, hs, hx, hrun, Result.andThen]
  exact hK' _ _ (hK v' w' r1 r2)

/-- v: a list as it was handed out, with the cells A; u: what has been grown out of it, with the cells M. -/
structure Pair (W : World) (B e size : Nat) (v : Value) (n : Nat) (A : List Value) (u : Value) (m : Nat) (M : List Value) : Prop where
  shape : ∃ sa c, v = .slice sa n c
  len : A.length = n * size
  rd : ∀ j (hj : j < A.length), ∃ g c, v = .slice (some ⟨g, 0, none⟩) n c ∧ B ≤ g ∧ g < W.heap.size ∧ W.cell? ⟨g, j, none⟩ = some A[j]
  lo : ∀ g, v.ownBlock = some g → B ≤ g ∧ g < W.heap.size
  own : W.ownsRow B e size u m M
  fr : M.take A.length = A
/-- a block of one of the two. -/
def InB (v u : Value) (k : Nat) : Prop := v.ownBlock = some k ∨ u.ownBlock = some k

theorem Pair.start (h : W.ownsRow B e size v n A) : Pair W B e size v n A v n A := by
  refine ⟨?_, h.1, fun j hj => ?_, fun g hg => own_block h hg, h, by rw [List.take_length]⟩
  · rcases h.2 with ⟨hv, h0⟩ | ⟨g, cap, cur, hv, _⟩
    · exact ⟨none, 0, by rw [hv, h0]⟩
    · exact ⟨_, _, hv⟩
  · rcases h.2 with ⟨hv, h0⟩ | ⟨g, cap, cur, hv, hb, hr, hnc, hcm, hcs, htk⟩
    · have := h.1
      rw [h0] at this
      omega
    · refine ⟨g, cap, hv, hb, (Array.getElem?_eq_some_iff.1 hr).1, ?_⟩
      have h1 : cur.toList[j]? = some A[j] := by
        have h2 : (cur.toList.take (n * size))[j]? = some A[j] := by rw [htk, List.getElem?_eq_getElem hj]
        rw [List.getElem?_take] at h2
        split at h2
        · exact h2
        · cases h2
      simp [World.cell?, hr]
      simpa using h1
theorem Pair.kept (h : Pair W B e size v n A u m M) (hs : W.heap.size ≤ W'.heap.size) (hk : ∀ k, InB v u k → W'.heap[k]? = W.heap[k]?) : Pair W' B e size v n A u m M := by
  refine ⟨h.shape, h.len, fun j hj => ?_, fun g hg => ⟨(h.lo g hg).1, Nat.lt_of_lt_of_le (h.lo g hg).2 hs⟩, own_kept h.own fun g hg => hk g (.inr hg), h.fr⟩
  obtain ⟨g, c, hv, hb, hl, hc⟩ := h.rd j hj
  refine ⟨g, c, hv, hb, Nat.lt_of_lt_of_le hl hs, ?_⟩
  rw [World.cell?_of_block (w := W) (hk g (.inl (by rw [hv]; rfl)))]
  exact hc
theorem Pair.blk (h : Pair W B e size v n A u m M) {k : Nat} (hk : InB v u k) : B ≤ k ∧ k < W.heap.size := by
  rcases hk with hk | hk
  · exact h.lo k hk
  · exact own_block h.own hk
/-- one more. -/
theorem Pair.grow (h : Pair W B e size v n A u m M) {u' : Value} {m' : Nat} {x : List Value} (ho : W'.ownsRow B e size u' m' (M ++ x))
    (hf : (u'.ownBlock = u.ownBlock ∧ W.grownBy W' u.ownBlock) ∨ ((∀ g, u'.ownBlock = some g → W.heap.size ≤ g) ∧ W.grownBy W' none)) :
    Pair W' B e size v n A u' m' (M ++ x) ∧ ∀ k, InB v u' k → InB v u k ∨ W.heap.size ≤ k := by
  have hfr : (M ++ x).take A.length = A := by
    have hl : A.length ≤ M.length := by
      have := congrArg List.length h.fr
      simp at this
      omega
    rw [List.take_append_of_le_length hl, h.fr]
  have hsz : W.heap.size ≤ W'.heap.size := by rcases hf with ⟨_, hg⟩ | ⟨_, hg⟩ <;> exact hg.size
  refine ⟨⟨h.shape, h.len, fun j hj => ?_, fun g hg => ⟨(h.lo g hg).1, Nat.lt_of_lt_of_le (h.lo g hg).2 hsz⟩, ho, hfr⟩, fun k hk => ?_⟩
  · obtain ⟨g, c, hv, hb, hl, hc⟩ := h.rd j hj
    refine ⟨g, c, hv, hb, Nat.lt_of_lt_of_le hl hsz, ?_⟩
    rcases hf with ⟨he, hg⟩ | ⟨_, hg⟩
    · by_cases hgu : u.ownBlock = some g
      · rw [← he] at hgu
        rcases ho.2 with ⟨hv', _⟩ | ⟨g', cap, cur, hv', _, hr, hnc, _, hcs, htk⟩
        · rw [hv'] at hgu
          exact absurd hgu (by simp [Value.ownBlock])
        · rw [hv'] at hgu
          simp only [Value.ownBlock, Option.some.injEq] at hgu
          subst hgu
          have h2 : (cur.toList.take (m' * size))[j]? = some A[j] := by
            rw [htk]
            have h3 : ((M ++ x).take A.length)[j]? = some A[j] := by rw [hfr, List.getElem?_eq_getElem hj]
            rw [List.getElem?_take_of_lt hj] at h3
            exact h3
          rw [List.getElem?_take] at h2
          split at h2
          · simp [World.cell?, hr]
            simpa using h2
          · cases h2
      · rw [World.cell?_of_block (w := W) (hg.block g hl (fun e => hgu e.symm))]
        exact hc
    · rw [World.cell?_of_block (w := W) (hg.block g hl (fun e => by cases e))]
      exact hc
  · rcases hk with hk | hk
    · exact .inl (.inl hk)
    · rcases hf with ⟨he, _⟩ | ⟨hn, _⟩
      · exact .inl (.inr (by rw [← he]; exact hk))
      · exact .inr (hn k hk)
end
end ShfKit
/-
  Several rows of one type, each in a block of its own. For any program.
-/
namespace ShfKit
open Go Go.RowKit
set_option maxRecDepth 100000

abbrev Rw := Value × Nat × List Value
/-- rows, each in a block of its own. -/
structure Fam (W : World) (B e size : Nat) (L : List Rw) : Prop where
  own : ∀ (i : Nat) (x : Rw), L[i]? = some x → W.ownsRow B e size x.1 x.2.1 x.2.2
  apart : ∀ (i j : Nat) (x y : Rw) (g : Nat), L[i]? = some x → L[j]? = some y → i ≠ j → x.1.ownBlock = some g → y.1.ownBlock ≠ some g

section
variable {P : Program} {W W' : World} {B e size : Nat} {L : List Rw}
theorem Fam.nil (W : World) (B e size : Nat) : Fam W B e size [] := ⟨fun i x h => by simp at h, fun i j x y g h => by simp at h⟩
theorem Fam.kept (h : Fam W B e size L) (hk : ∀ g, B ≤ g → g < W.heap.size → W'.heap[g]? = W.heap[g]?) : Fam W' B e size L :=
  ⟨fun i x hx => own_kept (h.own i x hx) fun g hg => hk g (own_block (h.own i x hx) hg).1 (own_block (h.own i x hx) hg).2, h.apart⟩
theorem Fam.below (h : Fam W B e size L) (hb : Below W.heap.size W W') : Fam W' B e size L := h.kept fun g _ hg => hb.block g hg
/-- one of them has become another, and only its own block has turned, or new ones have come. -/
theorem Fam.turn (h : Fam W B e size L) {i : Nat} {x y : Rw} (hx : L[i]? = some x) (ho : W'.ownsRow B e size y.1 y.2.1 y.2.2)
    (hf : (y.1.ownBlock = x.1.ownBlock ∧ W.grownBy W' x.1.ownBlock) ∨ ((∀ g, y.1.ownBlock = some g → W.heap.size ≤ g) ∧ W.grownBy W' none)) : Fam W' B e size (L.set i y) := by
  have hi := (List.getElem?_eq_some_iff.1 hx).1
  have old : ∀ (j : Nat) (z : Rw), j ≠ i → L[j]? = some z → W'.ownsRow B e size z.1 z.2.1 z.2.2 := fun j z hj hz => by
    refine own_kept (h.own j z hz) fun g hg => ?_
    have hlt := (own_block (h.own j z hz) hg).2
    rcases hf with ⟨_, hgr⟩ | ⟨_, hgr⟩
    · exact hgr.block g hlt (fun e => h.apart j i z x g hz hx hj hg e.symm)
    · exact hgr.block g hlt (fun e => by cases e)
  have new : ∀ (j : Nat) (z : Rw) (g : Nat), j ≠ i → L[j]? = some z → z.1.ownBlock = some g → y.1.ownBlock ≠ some g := fun j z g hj hz hg hy => by
    rcases hf with ⟨he, _⟩ | ⟨hn, _⟩
    · rw [he] at hy
      exact h.apart j i z x g hz hx hj hg hy
    · have := hn g hy
      have := (own_block (h.own j z hz) hg).2
      omega
  refine ⟨fun j z hz => ?_, fun j k z u g hz hu hjk hg => ?_⟩
  · rw [List.getElem?_set] at hz
    by_cases hji : i = j
    · rw [if_pos hji, if_pos (by omega)] at hz
      cases hz
      exact ho
    · rw [if_neg hji] at hz
      exact old j z (fun e => hji e.symm) hz
  · rw [List.getElem?_set] at hz hu
    by_cases hji : i = j
    · rw [if_pos hji, if_pos (by omega)] at hz
      cases hz
      rw [if_neg (by omega)] at hu
      intro hue
      exact new k u g (by omega) hu hue hg
    · rw [if_neg hji] at hz
      by_cases hki : i = k
      · rw [if_pos hki, if_pos (by omega)] at hu
        cases hu
        exact new j z g (fun e => hji e.symm) hz hg
      · rw [if_neg hki] at hu
        exact h.apart j k z u g hz hu hjk hg
/-- one more row, in a block that is new. -/
theorem Fam.push (h : Fam W B e size L) {y : Rw} (hb : Below W.heap.size W W') (ho : W'.ownsRow W.heap.size e size y.1 y.2.1 y.2.2) (hB : B ≤ W.heap.size) : Fam W' B e size (L ++ [y]) := by
  have h2 := h.below hb
  refine ⟨fun j z hz => ?_, fun j k z u g hz hu hjk hg => ?_⟩
  · by_cases hj : j < L.length
    · rw [List.getElem?_append_left hj] at hz
      exact h2.own j z hz
    · rw [List.getElem?_append_right (by omega)] at hz
      have : j - L.length = 0 := by have := (List.getElem?_eq_some_iff.1 hz).1; simp at this; omega
      rw [this] at hz
      cases hz
      exact own_base ho hB
  · by_cases hj : j < L.length
    · rw [List.getElem?_append_left hj] at hz
      by_cases hk : k < L.length
      · rw [List.getElem?_append_left hk] at hu
        exact h.apart j k z u g hz hu hjk hg
      · rw [List.getElem?_append_right (by omega)] at hu
        have : k - L.length = 0 := by have := (List.getElem?_eq_some_iff.1 hu).1; simp at this; omega
        rw [this] at hu
        cases hu
        intro e
        have := (own_block ho e).1
        have := (own_block (h.own j z hz) hg).2
        omega
    · rw [List.getElem?_append_right (by omega)] at hz
      have : j - L.length = 0 := by have := (List.getElem?_eq_some_iff.1 hz).1; simp at this; omega
      rw [this] at hz
      cases hz
      by_cases hk : k < L.length
      · rw [List.getElem?_append_left hk] at hu
        intro e
        have := (own_block ho hg).1
        have := (own_block (h.own k u hu) e).2
        omega
      · have := (List.getElem?_eq_some_iff.1 hu).1
        simp at this
        have hk2 : k = L.length := by omega
        have : j - L.length = 0 := by omega
        omega
/-- a cell of a row. -/
theorem own_cell {v : Value} {n : Nat} {xs : List Value} (h : W.ownsRow B e size v n xs) {j : Nat} {x : Value} (hj : xs[j]? = some x) : ∃ g c, v = .slice (some ⟨g, 0, none⟩) n c ∧ B ≤ g ∧ g < W.heap.size ∧ W.cell? ⟨g, j, none⟩ = some x ∧ W.frozen? ⟨g, j, none⟩ = false := by
  have hlt := (List.getElem?_eq_some_iff.1 hj).1
  rcases h.2 with ⟨hv, h0⟩ | ⟨g, cap, cur, hv, hb, hr, hnc, hcm, hcs, htk⟩
  · have := h.1
    rw [h0] at this
    omega
  · refine ⟨g, cap, hv, hb, (Array.getElem?_eq_some_iff.1 hr).1, ?_, by simp [World.frozen?, hr]⟩
    rw [← htk] at hj
    rw [List.getElem?_take] at hj
    split at hj
    · simp [World.cell?, hr]
      simpa using hj
    · cases hj
/-- a cell of a row is written. -/
theorem own_set {v : Value} {n : Nat} {xs : List Value} (h : W.ownsRow B e size v n xs) {g c j : Nat} (hv : v = .slice (some ⟨g, 0, none⟩) n c) (u : Value) : (W.setCell ⟨g, j, none⟩ u).ownsRow B e size v n (xs.set j u) ∧ W.grownBy (W.setCell ⟨g, j, none⟩ u) v.ownBlock := by
  have hob : v.ownBlock = some g := by rw [hv]; rfl
  refine ⟨⟨by rw [List.length_set]; exact h.1, ?_⟩, ⟨rfl, rfl, rfl, by simp [World.setCell], fun k hk hne => Below.heap_setCell W _ _ _ (fun e => hne (by rw [hob, e]))⟩⟩
  rcases h.2 with ⟨hv', h0⟩ | ⟨g', cap, cur, hv', hb, hr, hnc, hcm, hcs, htk⟩
  · rw [hv] at hv'; cases hv'
  · rw [hv] at hv'
    cases hv'
    refine .inr ⟨g, c, cur.setIfInBounds j u, hv, hb, ?_, hnc, hcm, by simpa using hcs, ?_⟩
    · simp [World.setCell, Array.getElem?_modify, hr]
    · rw [← htk, Array.toList_setIfInBounds, List.take_set]
theorem Fam.write (h : Fam W B e size L) {i : Nat} {x : Rw} (hx : L[i]? = some x) {g c j : Nat} (hv : x.1 = .slice (some ⟨g, 0, none⟩) x.2.1 c) (u : Value) : Fam (W.setCell ⟨g, j, none⟩ u) B e size (L.set i (x.1, x.2.1, x.2.2.set j u)) := by
  obtain ⟨h1, h2⟩ := own_set (h.own i x hx) (j := j) hv u
  exact h.turn (y := (x.1, x.2.1, x.2.2.set j u)) hx h1 (.inl ⟨rfl, h2⟩)
end
end ShfKit
/-
  Lines that bear on something: marks, and the rest turned.
-/
namespace PureNet
set_option maxRecDepth 100000

theorem way_snoc {l : List Ga} {i j k : Nat} (h : Way l i j) (h2 : Leans l j k) : Way l i k := by
  induction h using PureNet.Way.ind with
  | one h1 => exact .more h1 (.one h2)
  | more h1 _ ih => exact .more h1 (ih h2)
end PureNet
/-
  Circles: where each line of a set leans on one of it, one of it is in a circle.
-/
namespace PureNet
set_option maxRecDepth 100000

theorem holes (n : Nat) : ∀ f : Nat → Nat, (∀ k, k ≤ n → f k < n) → ∃ a b, a < b ∧ b ≤ n ∧ f a = f b := by
  induction n with
  | zero => intro f h; have := h 0 (Nat.le_refl _); omega
  | succ n ih =>
    intro f h
    by_cases hx : ∃ k, k ≤ n ∧ f k = f (n + 1)
    · obtain ⟨k, hk, e⟩ := hx
      exact ⟨k, n + 1, by omega, Nat.le_refl _, e⟩
    · have hne : ∀ k, k ≤ n → f k ≠ f (n + 1) := fun k hk e => hx ⟨k, hk, e⟩
      obtain ⟨a, b, hab, hb, e⟩ := ih (fun k => if f k = n then f (n + 1) else f k) (fun k hk => by
        have h1 := h k (by omega)
        have h2 := h (n + 1) (Nat.le_refl _)
        have h3 := hne k hk
        show (if f k = n then f (n + 1) else f k) < n
        split <;> omega)
      refine ⟨a, b, hab, by omega, ?_⟩
      have ha := hne a (by omega)
      have hb' := hne b hb
      have e2 : (if f a = n then f (n + 1) else f a) = (if f b = n then f (n + 1) else f b) := e
      split at e2 <;> split at e2 <;> omega
theorem circle_of {l : List Ga} (S : Nat → Prop) (hS : ∀ i, S i → i < l.length ∧ ∃ j, Leans l i j ∧ S j) {i : Nat} (hi : S i) : ∃ k, S k ∧ Way l k k := by
  have nx : ∀ x : { i // S i }, ∃ y : { i // S i }, Leans l x.1 y.1 := fun x => by
    obtain ⟨_, j, h1, h2⟩ := hS x.1 x.2
    exact ⟨⟨j, h2⟩, h1⟩
  obtain ⟨g, hg⟩ : ∃ g : { i // S i } → { i // S i }, ∀ x, Leans l x.1 (g x).1 := ⟨fun x => Classical.choose (nx x), fun x => Classical.choose_spec (nx x)⟩
  let f : Nat → { i // S i } := fun k => Nat.rec ⟨i, hi⟩ (fun _ x => g x) k
  have hstep : ∀ k, Leans l (f k).1 (f (k + 1)).1 := fun k => hg (f k)
  have hway : ∀ a d, Way l (f a).1 (f (a + d + 1)).1 := fun a d => by
    induction d with
    | zero => exact .one (hstep a)
    | succ d ih => exact way_snoc ih (hstep (a + d + 1))
  obtain ⟨a, b, hab, _, e⟩ := holes l.length (fun k => (f k).1) (fun k _ => (hS _ (f k).2).1)
  have hw := hway a (b - a - 1)
  rw [show a + (b - a - 1) + 1 = b by omega] at hw
  refine ⟨(f a).1, (f a).2, ?_⟩
  have e2 : (f a).1 = (f b).1 := e
  rw [← e2] at hw
  exact hw
theorem filter_le {α : Type} (p q : α → Bool) : ∀ (l : List α), (∀ x ∈ l, p x = true → q x = true) → (l.filter p).length ≤ (l.filter q).length := by
  intro l
  induction l with
  | nil => intro _; simp
  | cons x r ih =>
    intro h
    have hr := ih (fun y hy => h y (List.mem_cons_of_mem _ hy))
    have hx := h x (by simp)
    cases hp : p x with
    | true => simp [hp, hx hp]; exact hr
    | false => cases hq : q x <;> simp [hp, hq] <;> omega
theorem filter_lt {α : Type} (p q : α → Bool) : ∀ (l : List α), (∀ x ∈ l, p x = true → q x = true) → (∃ x ∈ l, q x = true ∧ p x = false) → (l.filter p).length < (l.filter q).length := by
  intro l
  induction l with
  | nil => rintro _ ⟨x, hx, _⟩; cases hx
  | cons x r ih =>
    rintro h ⟨y, hy, hq, hp⟩
    have hle := filter_le p q r (fun z hz => h z (List.mem_cons_of_mem _ hz))
    rcases List.mem_cons.1 hy with rfl | hy
    · simp [hq, hp]; omega
    · have hr := ih (fun z hz => h z (List.mem_cons_of_mem _ hz)) ⟨y, hy, hq, hp⟩
      have hx := h x (by simp)
      cases hp2 : p x with
      | true => simp [hp2, hx hp2]; exact hr
      | false => cases hq2 : q x <;> simp [hp2, hq2] <;> omega
open Classical in
/-- without circles there is an order. -/
theorem ranked_of_free {l : List Ga} (hl : ∀ (i : Nat) (g : Ga), l[i]? = some g → lineB g l.length = true) (hf : ∀ i, ¬ Way l i i) : ∃ r, Ranked l r := by
  refine ⟨fun i => ((List.range l.length).filter fun x => decide (Way l i x)).length, fun i j h => ?_⟩
  have hj : j < l.length := by
    obtain ⟨g, hg, hm⟩ := h
    have := lineB_leans (hl i g hg) hm
    omega
  refine filter_lt _ _ _ (fun x _ hx => ?_) ⟨j, by simpa using hj, ?_, ?_⟩
  · simp only [decide_eq_true_eq] at hx ⊢
    exact .more h hx
  · simp only [decide_eq_true_eq]
    exact .one h
  · simp only [decide_eq_false_iff_not]
    exact hf j
/-- the values of a formed circuit are just these. -/
theorem Formed.unique {c : Net} (h : Formed c) {ins las v v' : List Bool} (hv : Vals c.gates ins las v) (hv' : Vals c.gates ins las v') : v = v' := by
  obtain ⟨r, hr⟩ := ranked_of_free (fun i g hg => (h.lines i g hg).2) h.free
  exact vals_unique hr (fun i g hg => (h.lines i g hg).2) hv hv'
theorem Formed.run_unique {c : Net} (h : Formed c) {is : List (List Bool)} : ∀ {las : List Bool} {os os' : List (List Bool)}, RunP c las is os → RunP c las is os' → os = os' := by
  induction is with
  | nil =>
    intro las os os' h1 h2
    obtain rfl := h1
    obtain rfl := h2
    rfl
  | cons i is ih =>
    intro las os os' h1 h2
    obtain ⟨v1, o1, rfl, a1, r1⟩ := h1
    obtain ⟨v2, o2, rfl, a2, r2⟩ := h2
    obtain rfl := h.unique a1 a2
    rw [ih r1 r2]
end PureNet
/-
  The lines of a circuit, each behind those on which it leans: plain mathematics.
-/
namespace PureNet
set_option maxRecDepth 100000

/-- who leans on whom: targets and users, in their order. -/
def entsOf (l : List Ga) : List (Nat × Nat) := l.zipIdx.flatMap fun p => (leansOn p.1).map fun a => (a.toNat, p.2)
theorem ents_snoc (l : List Ga) (g : Ga) : entsOf (l ++ [g]) = entsOf l ++ (leansOn g).map fun a => (a.toNat, l.length) := by simp [entsOf, List.zipIdx_append]
theorem ents_take (l : List Ga) (i : Nat) (g : Ga) (h : l[i]? = some g) : entsOf (l.take (i + 1)) = entsOf (l.take i) ++ (leansOn g).map fun a => (a.toNat, i) := by
  have hi := (List.getElem?_eq_some_iff.1 h).1
  rw [List.take_add_one, h]
  simp only [Option.toList_some]
  rw [ents_snoc, List.length_take, Nat.min_eq_left (by omega)]
theorem ents_mem (l : List Ga) (y x : Nat) : (y, x) ∈ entsOf l ↔ ∃ g a, l[x]? = some g ∧ a ∈ leansOn g ∧ a.toNat = y := by
  unfold entsOf
  rw [List.mem_flatMap]
  constructor
  · rintro ⟨⟨g, i⟩, hp, hm⟩
    rw [List.mem_map] at hm
    obtain ⟨a, ha, e⟩ := hm
    have hp' := List.mem_zipIdx_iff_getElem?.1 hp
    simp only [Prod.mk.injEq] at e
    obtain ⟨rfl, rfl⟩ := e
    exact ⟨g, a, hp', ha, rfl⟩
  · rintro ⟨g, a, hg, ha, rfl⟩
    exact ⟨(g, x), List.mem_zipIdx_iff_getElem?.2 hg, List.mem_map.2 ⟨a, ha, rfl⟩⟩
theorem leans_len (g : Ga) : (leansOn g).length ≤ 3 := by unfold leansOn; split; simp; split <;> simp
theorem ents_take_len (l : List Ga) : ∀ i, i ≤ l.length → (entsOf (l.take i)).length ≤ 3 * i := by
  intro i
  induction i with
  | zero => intro _; simp [entsOf]
  | succ i ih =>
    intro h
    have hg : l[i]? = some l[i] := List.getElem?_eq_getElem (by omega)
    rw [ents_take l i _ hg, List.length_append, List.length_map]
    have := ih (by omega)
    have := leans_len l[i]
    omega
theorem ents_len (l : List Ga) : (entsOf l).length ≤ 3 * l.length := by
  have := ents_take_len l l.length (Nat.le_refl _)
  rwa [List.take_length] at this

/-- the last entry below m whose target is y, or -1. -/
def lastI (E : List (Nat × Nat)) (y : Nat) : Nat → Int
  | 0 => -1
  | m + 1 => if (E.getD m (0, 0)).1 = y then (m : Int) else lastI E y m
theorem lastI_lt (E : List (Nat × Nat)) (y m : Nat) : -1 ≤ lastI E y m ∧ lastI E y m < m := by
  induction m with
  | zero => simp [lastI]
  | succ m ih => unfold lastI; split <;> omega
theorem lastI_hit (E : List (Nat × Nat)) (y m k : Nat) (h : lastI E y m = (k : Int)) : k < m ∧ (E.getD k (0, 0)).1 = y ∧ ∀ j, k < j → j < m → (E.getD j (0, 0)).1 ≠ y := by
  induction m with
  | zero => simp [lastI] at h
  | succ m ih =>
    unfold lastI at h
    split at h
    · next he =>
      obtain rfl : m = k := by omega
      exact ⟨by omega, he, fun j h1 h2 => by omega⟩
    · next he =>
      obtain ⟨h1, h2, h3⟩ := ih h
      refine ⟨by omega, h2, fun j h4 h5 => ?_⟩
      by_cases hjm : j = m
      · rw [hjm]; exact he
      · exact h3 j h4 (by omega)
theorem lastI_none (E : List (Nat × Nat)) (y m : Nat) (h : lastI E y m < 0) : ∀ j, j < m → (E.getD j (0, 0)).1 ≠ y := by
  induction m with
  | zero => intro j hj; omega
  | succ m ih =>
    unfold lastI at h
    split at h
    · omega
    · next he =>
      intro j hj
      by_cases hjm : j = m
      · rw [hjm]; exact he
      · exact ih h j (by omega)

/-! ### how many are not done -/
def cntP (p : Nat → Bool) (m : Nat) : Nat := ((List.range m).filter p).length
theorem cntP_succ (p : Nat → Bool) (m : Nat) : cntP p (m + 1) = cntP p m + (if p m = true then 1 else 0) := by
  unfold cntP
  rw [List.range_succ, List.filter_append, List.length_append]
  cases h : p m <;> simp [h]
theorem cntP_congr {p q : Nat → Bool} {m : Nat} (h : ∀ j, j < m → p j = q j) : cntP p m = cntP q m := by
  induction m with
  | zero => rfl
  | succ m ih => rw [cntP_succ, cntP_succ, ih (fun j hj => h j (by omega)), h m (by omega)]
theorem cntP_zero {p : Nat → Bool} {m : Nat} : cntP p m = 0 ↔ ∀ j, j < m → p j = false := by
  induction m with
  | zero => simp [cntP]
  | succ m ih =>
    rw [cntP_succ]
    constructor
    · intro h j hj
      have h1 : cntP p m = 0 := by omega
      have h2 : p m = false := by cases hp : p m with | false => rfl | true => rw [hp] at h; simp at h
      by_cases hjm : j = m
      · rw [hjm]; exact h2
      · exact ih.1 h1 j (by omega)
    · intro h
      rw [ih.2 (fun j hj => h j (by omega)), h m (by omega)]
      simp
theorem cntP_less {p q : Nat → Bool} {m k : Nat} (hk : k < m) (hp : p k = true) (hq : q k = false) (h : ∀ j, j < m → j ≠ k → p j = q j) : cntP p m = cntP q m + 1 := by
  induction m with
  | zero => omega
  | succ m ih =>
    rw [cntP_succ, cntP_succ]
    by_cases hkm : k = m
    · subst hkm
      rw [hp, hq, cntP_congr (fun j hj => h j (by omega) (by omega))]
      simp
    · rw [ih (by omega) (fun j hj hne => h j (by omega) hne), h m (by omega) (by omega)]
      omega
theorem cntP_le (p : Nat → Bool) (m : Nat) : cntP p m ≤ m := by
  unfold cntP
  have := List.length_filter_le p (List.range m)
  simpa using this

/-- how many operands of a line are not done. -/
def waits (E : List (Nat × Nat)) (done : Nat → Bool) (x : Nat) : Nat := cntP (fun j => decide ((E.getD j (0, 0)).2 = x) && !done j) E.length

/-- what holds while lines are laid: D: the entries that are done. -/
structure LayS (l : List Ga) (out : List Nat) (q : Nat) (D : Nat → Bool) : Prop where
  nd : out.Nodup
  lt : ∀ x ∈ out, x < l.length
  zero : ∀ x, x < l.length → (x ∈ out ↔ waits (entsOf l) D x = 0)
  sub : ∀ j, j < (entsOf l).length → D j = true → ((entsOf l).getD j (0, 0)).1 ∈ out.take (q + 1)
  ord : ∀ (k x : Nat), out[k]? = some x → ∀ y, (y, x) ∈ entsOf l → ∃ m, m < k ∧ out[m]? = some y
theorem getD_mem {E : List (Nat × Nat)} {j : Nat} (h : j < E.length) : E.getD j (0, 0) ∈ E := by
  rw [List.getD_eq_getElem?_getD, List.getElem?_eq_getElem h]
  exact List.getElem_mem h
theorem mem_take_at {out : List Nat} {q y : Nat} (h : y ∈ out.take q) : ∃ m, m < q ∧ out[m]? = some y := by
  obtain ⟨m, hm, e⟩ := List.getElem_of_mem h
  have hm2 : m < q ∧ m < out.length := by rw [List.length_take] at hm; omega
  refine ⟨m, hm2.1, ?_⟩
  rw [List.getElem_take] at e
  rw [List.getElem?_eq_getElem hm2.2, e]
theorem waits_congr {E : List (Nat × Nat)} {D D' : Nat → Bool} {x : Nat} (h : ∀ j, j < E.length → (E.getD j (0, 0)).2 = x → D j = D' j) : waits E D x = waits E D' x := by
  unfold waits
  refine cntP_congr fun j hj => ?_
  by_cases hx : (E.getD j (0, 0)).2 = x
  · rw [h j hj hx]
  · simp only [hx, decide_false, Bool.false_and]
theorem LayS.congr {l : List Ga} {out : List Nat} {q : Nat} {D D' : Nat → Bool} (h : LayS l out q D) (hD : ∀ j, j < (entsOf l).length → D j = D' j) : LayS l out q D' :=
  ⟨h.nd, h.lt, fun x hx => by rw [h.zero x hx, waits_congr (fun j hj _ => hD j hj)], fun j hj hd => h.sub j hj (by rw [hD j hj]; exact hd), h.ord⟩
/-- an operand of a line is done. -/
theorem LayS.one {l : List Ga} {out : List Nat} {q k y x : Nat} {D D' : Nat → Bool} (h : LayS l out q D) (hk : k < (entsOf l).length) (hE : (entsOf l).getD k (0, 0) = (y, x)) (hq : out[q]? = some y) (hx : x < l.length) (hDk : D k = false) (hDk' : D' k = true) (hD : ∀ j, j < (entsOf l).length → j ≠ k → D j = D' j) :
    waits (entsOf l) D x = waits (entsOf l) D' x + 1 ∧ (waits (entsOf l) D' x = 0 → LayS l (out ++ [x]) q D') ∧ (waits (entsOf l) D' x ≠ 0 → LayS l out q D') := by
  have hql := (List.getElem?_eq_some_iff.1 hq).1
  have hw : waits (entsOf l) D x = waits (entsOf l) D' x + 1 := by
    refine cntP_less hk ?_ ?_ fun j hj hne => ?_
    · simp only [hE, hDk, decide_true, Bool.not_false, Bool.and_true]
    · simp only [hDk', Bool.not_true, Bool.and_false]
    · rw [hD j hj hne]
  have hz : ∀ z, z ≠ x → waits (entsOf l) D z = waits (entsOf l) D' z := fun z hne => waits_congr fun j hj h2 => hD j hj (by
    rintro rfl
    rw [hE] at h2
    exact hne h2.symm)
  have hnx : x ∉ out := fun hm => by
    have := (h.zero x hx).1 hm
    omega
  have hsub : ∀ j, j < (entsOf l).length → D' j = true → ((entsOf l).getD j (0, 0)).1 ∈ out.take (q + 1) := fun j hj hd => by
    by_cases hjk : j = k
    · subst hjk
      rw [hE]
      rw [List.take_add_one, hq]
      simp
    · exact h.sub j hj (by rw [hD j hj hjk]; exact hd)
  refine ⟨hw, fun h0 => ?_, fun h0 => ?_⟩
  · refine ⟨?_, fun z hz' => ?_, fun z hz' => ?_, fun j hj hd => ?_, fun m z hm y' hy => ?_⟩
    · rw [List.nodup_append]
      refine ⟨h.nd, by simp, fun a ha b hb => ?_⟩
      simp at hb
      subst hb
      rintro rfl
      exact hnx ha
    · rcases List.mem_append.1 hz' with h1 | h1
      · exact h.lt z h1
      · simp at h1; subst h1; exact hx
    · rw [List.mem_append]
      by_cases hzx : z = x
      · subst hzx
        constructor
        · intro _; exact h0
        · intro _; right; simp
      · rw [← hz z hzx, ← h.zero z hz']
        constructor
        · rintro (h1 | h1)
          · exact h1
          · simp at h1; exact absurd h1 hzx
        · intro h1; exact .inl h1
    · rw [List.take_append_of_le_length (by omega)]
      exact hsub j hj hd
    · by_cases hml : m < out.length
      · rw [List.getElem?_append_left hml] at hm
        obtain ⟨m2, h2, h3⟩ := h.ord m z hm y' hy
        exact ⟨m2, h2, by rw [List.getElem?_append_left (by omega)]; exact h3⟩
      · rw [List.getElem?_append_right (by omega)] at hm
        have hm0 := (List.getElem?_eq_some_iff.1 hm).1
        simp at hm0
        have hmq : m = out.length := by omega
        subst hmq
        simp at hm
        subst hm
        obtain ⟨j, hj, ej⟩ := List.getElem_of_mem hy
        have eg : (entsOf l).getD j (0, 0) = (y', x) := by rw [List.getD_eq_getElem?_getD, List.getElem?_eq_getElem hj, ej]; rfl
        have hdj : D' j = true := by
          have := cntP_zero.1 h0 j hj
          simp only [eg, decide_true, Bool.true_and] at this
          simpa using this
        have hmem := hsub j hj hdj
        rw [eg] at hmem
        obtain ⟨m2, h2, h3⟩ := mem_take_at hmem
        exact ⟨m2, by omega, by rw [List.getElem?_append_left (by omega)]; exact h3⟩
  · refine ⟨h.nd, h.lt, fun z hz' => ?_, hsub, h.ord⟩
    by_cases hzx : z = x
    · subst hzx
      constructor
      · intro h1; exact absurd h1 hnx
      · intro h1; exact absurd h1 h0
    · rw [← hz z hzx]
      exact h.zero z hz'
/-- an entry is done: its target has been taken up, or it is of the one that is being taken up, and above e. -/
def doneAt (E : List (Nat × Nat)) (out : List Nat) (q : Nat) (e : Int) (j : Nat) : Bool := decide ((E.getD j (0, 0)).1 ∈ out.take q) || (decide (out[q]? = some (E.getD j (0, 0)).1) && decide (e < (j : Int)))
theorem doneAt_app (E : List (Nat × Nat)) (out : List Nat) (x q : Nat) (e : Int) (j : Nat) (hq : q < out.length) : doneAt E (out ++ [x]) q e j = doneAt E out q e j := by
  unfold doneAt
  rw [List.take_append_of_le_length (by omega), List.getElem?_append_left hq]
theorem nodup_take {out : List Nat} (h : out.Nodup) {q y : Nat} (hq : out[q]? = some y) : y ∉ out.take q := fun hm => by
  obtain ⟨m, hm1, hm2⟩ := mem_take_at hm
  have hql := (List.getElem?_eq_some_iff.1 hq).1
  have := (List.getElem?_inj hql h).1 (hq.trans hm2.symm)
  omega
theorem done_enter {E : List (Nat × Nat)} {out : List Nat} {q y : Nat} (hq : out[q]? = some y) (j : Nat) (hj : j < E.length) : decide ((E.getD j (0, 0)).1 ∈ out.take q) = doneAt E out q (lastI E y E.length) j := by
  unfold doneAt
  rw [hq]
  by_cases hy : (E.getD j (0, 0)).1 = y
  · have hle : ¬ lastI E y E.length < (j : Int) := by
      rcases Int.lt_or_le (lastI E y E.length) 0 with h0 | h0
      · exact absurd hy (lastI_none _ _ _ h0 j hj)
      · obtain ⟨k, hk⟩ := Int.eq_ofNat_of_zero_le h0
        rw [hk]
        obtain ⟨_, _, h3⟩ := lastI_hit _ _ _ k hk
        intro hlt
        exact h3 j (by omega) hj hy
    rw [decide_eq_false hle, Bool.and_false, Bool.or_false]
  · have : ¬ (some y = some (E.getD j (0, 0)).1) := fun e => hy (Option.some.inj e).symm
    rw [decide_eq_false this, Bool.false_and, Bool.or_false]
theorem done_leave {E : List (Nat × Nat)} {out : List Nat} {q y : Nat} {e : Int} (hq : out[q]? = some y) (he : e < 0) (j : Nat) : doneAt E out q e j = decide ((E.getD j (0, 0)).1 ∈ out.take (q + 1)) := by
  unfold doneAt
  rw [hq, List.take_add_one, hq]
  have : e < (j : Int) := by omega
  simp only [this, decide_true, Bool.and_true, Option.toList_some, List.mem_append, List.mem_singleton]
  rw [← Bool.decide_or]
  refine decide_eq_decide.2 ?_
  constructor
  · rintro (h | h)
    · exact .inl h
    · exact .inr (Option.some.inj h).symm
  · rintro (h | h)
    · exact .inl h
    · exact .inr (by rw [h])
/-- the first entry of a line. -/
theorem LayS.enter {l : List Ga} {out : List Nat} {q y : Nat} (h : LayS l out q (fun j => decide (((entsOf l).getD j (0, 0)).1 ∈ out.take q))) (hq : out[q]? = some y) : LayS l out q (doneAt (entsOf l) out q (lastI (entsOf l) y (entsOf l).length)) := h.congr fun j hj => done_enter hq j hj
/-- the next one. -/
theorem done_next {l : List Ga} {out : List Nat} {q y k : Nat} (hnd : out.Nodup) (hq : out[q]? = some y) (hE : ((entsOf l).getD k (0, 0)).1 = y) :
    doneAt (entsOf l) out q k k = false ∧ doneAt (entsOf l) out q (lastI (entsOf l) y k) k = true ∧ ∀ j, j < (entsOf l).length → j ≠ k → doneAt (entsOf l) out q k j = doneAt (entsOf l) out q (lastI (entsOf l) y k) j := by
  have hno := nodup_take hnd hq
  have hl := lastI_lt (entsOf l) y k
  refine ⟨?_, ?_, fun j hj hne => ?_⟩
  · unfold doneAt
    rw [hE]
    simp [hno]
  · unfold doneAt
    rw [hE, hq]
    simp [hl.2]
  · unfold doneAt
    by_cases hy : ((entsOf l).getD j (0, 0)).1 = y
    · have : ((k : Int) < (j : Int)) ↔ (lastI (entsOf l) y k < (j : Int)) := by
        constructor
        · intro h; omega
        · intro h
          rcases Nat.lt_or_ge j k with hjk | hjk
          · exfalso
            rcases Int.lt_or_le (lastI (entsOf l) y k) 0 with h0 | h0
            · exact lastI_none _ _ _ h0 j hjk hy
            · obtain ⟨m, hm⟩ := Int.eq_ofNat_of_zero_le h0
              rw [hm] at h
              exact (lastI_hit _ _ _ m hm).2.2 j (by omega) hjk hy
          · omega
      rw [decide_eq_decide.2 this]
    · have : ¬ (some y = some ((entsOf l).getD j (0, 0)).1) := fun e => hy (Option.some.inj e).symm
      rw [hq, decide_eq_false this, Bool.false_and, Bool.false_and]
/-- all of a line's entries are done. -/
theorem LayS.leave {l : List Ga} {out : List Nat} {q y : Nat} {e : Int} (h : LayS l out q (doneAt (entsOf l) out q e)) (hq : out[q]? = some y) (he : e < 0) : LayS l out (q + 1) (fun j => decide (((entsOf l).getD j (0, 0)).1 ∈ out.take (q + 1))) := by
  have h2 : LayS l out q (fun j => decide (((entsOf l).getD j (0, 0)).1 ∈ out.take (q + 1))) := h.congr fun j _ => done_leave hq he j
  refine ⟨h2.nd, h2.lt, h2.zero, fun j hj hd => ?_, h2.ord⟩
  have := of_decide_eq_true hd
  rw [List.take_add_one]
  exact List.mem_append_left _ this
/-- in the end. -/
theorem LayS.fin {l : List Ga} {out : List Nat} (h : LayS l out out.length (fun j => decide (((entsOf l).getD j (0, 0)).1 ∈ out.take out.length))) {x : Nat} (hx : x < l.length) (hn : x ∉ out) : ∃ y, (y, x) ∈ entsOf l ∧ y ∉ out := by
  have hw : waits (entsOf l) (fun j => decide (((entsOf l).getD j (0, 0)).1 ∈ out.take out.length)) x ≠ 0 := fun h0 => hn ((h.zero x hx).2 h0)
  apply Classical.byContradiction
  intro hall
  apply hw
  refine cntP_zero.2 fun j hj => ?_
  by_cases h2 : ((entsOf l).getD j (0, 0)).2 = x
  · have hm : ((entsOf l).getD j (0, 0)).1 ∈ out := by
      apply Classical.byContradiction
      intro hy
      exact hall ⟨((entsOf l).getD j (0, 0)).1, by have := getD_mem hj; rw [← h2]; exact this, hy⟩
    simp only [h2, decide_true, Bool.true_and, List.take_length, hm, Bool.not_true]
  · simp only [h2, decide_false, Bool.false_and]
/-- at first. -/
theorem LayS.start {l : List Ga} {out : List Nat} (hnd : out.Nodup) (ho : ∀ x, x ∈ out ↔ ∃ g, l[x]? = some g ∧ leansOn g = []) : LayS l out 0 (fun j => decide (((entsOf l).getD j (0, 0)).1 ∈ out.take 0)) := by
  refine ⟨hnd, fun x hx => ?_, fun x hx => ?_, fun j hj hd => by simp at hd, fun k x hk y hy => ?_⟩
  · obtain ⟨g, hg, _⟩ := (ho x).1 hx
    exact (List.getElem?_eq_some_iff.1 hg).1
  · rw [ho x]
    constructor
    · rintro ⟨g, hg, h0⟩
      refine cntP_zero.2 fun j hj => ?_
      by_cases h2 : ((entsOf l).getD j (0, 0)).2 = x
      · exfalso
        have hm := getD_mem hj
        rw [show (entsOf l).getD j (0, 0) = (((entsOf l).getD j (0, 0)).1, x) by rw [← h2]] at hm
        obtain ⟨g', a, hg', ha, _⟩ := (ents_mem l _ _).1 hm
        rw [hg] at hg'
        cases hg'
        rw [h0] at ha
        cases ha
      · simp only [h2, decide_false, Bool.false_and]
    · intro h0
      refine ⟨l[x], List.getElem?_eq_getElem hx, ?_⟩
      cases hl : leansOn l[x] with
      | nil => rfl
      | cons a r =>
        exfalso
        have hm : (a.toNat, x) ∈ entsOf l := (ents_mem l _ _).2 ⟨l[x], a, List.getElem?_eq_getElem hx, by rw [hl]; simp, rfl⟩
        obtain ⟨j, hj, ej⟩ := List.getElem_of_mem hm
        have eg : (entsOf l).getD j (0, 0) = (a.toNat, x) := by rw [List.getD_eq_getElem?_getD, List.getElem?_eq_getElem hj, ej]; rfl
        have := cntP_zero.1 h0 j hj
        simp only [eg, decide_true, Bool.true_and, List.take_zero, List.not_mem_nil, decide_false, Bool.not_false] at this
        cases this
  · exfalso
    obtain ⟨g, hg, h0⟩ := (ho x).1 (List.mem_of_getElem? hk)
    obtain ⟨g', a, hg', ha, _⟩ := (ents_mem l _ _).1 hy
    rw [hg] at hg'
    cases hg'
    rw [h0] at ha
    cases ha
end PureNet
