/-
  The document's own leans, Count, firsts.
-/
import Derived.Test.YtfmmmhcpdinhgaaDoorD2
import Derived.Test.YtfmmmhcpdinhgaaDoorA3
namespace Go.Proofs.YtfmmmhcpdinhgaaDoor
open Go.RowKit Go.Deep PureNet
set_option maxRecDepth 100000

/-- on how many lines a line leans, and which, as a value. -/
def leansV (g : Ga) : Value := if g.kind = 2 then .tuple #[.int .i64 2, .agg #[.int .i64 g.a, .int .i64 g.b, .int .i64 0]] else if g.kind = 4 then .tuple #[.int .i64 3, .agg #[.int .i64 g.a, .int .i64 g.b, .int .i64 g.c]] else .tuple #[.int .i64 0, .agg #[.int .i64 0, .int .i64 0, .int .i64 0]]
set_option maxHeartbeats 1000000 in
set_option maxRecDepth 100000 in
theorem leans_any (g : Ga) (w : World) : Calls Tryd.prog 47 #[.agg #[.int .i64 g.kind, .string g.name, .int .i64 g.op, .int .i64 g.a, .int .i64 g.b, .int .i64 g.c]] w fun e w' => e = .returned (leansV g) ∧ Below w.heap.size w w' := by
  by_cases h2 : g.kind = 2
  · have HV : Hid (leansV g = .tuple #[.int .i64 2, .agg #[.int .i64 g.a, .int .i64 g.b, .int .i64 0]]) := by show _ = _; simp [leansV, h2]
    obtain ⟨x, hx⟩ : ∃ x, x = w.alloc (Obj.cells #[.int .i64 2, .string g.name, .int .i64 g.op, .int .i64 g.a, .int .i64 g.b, .int .i64 g.c] 38) := ⟨_, rfl⟩
    have c0 : ∀ i, x.cell? ⟨w.heap.size, i, none⟩ = (#[.int .i64 2, .string g.name, .int .i64 g.op, .int .i64 g.a, .int .i64 g.b, .int .i64 g.c] : Array Value)[i]? := fun i => by rw [hx]; exact cell_row (heap_alloc_new w _) i
    have hb0 : w.heap.size < x.heap.size := by rw [hx]; simp
    have BX : Hid (Below w.heap.size w x) := by rw [hx]; exact (Below.refl _ _).alloc (Nat.le_refl _) _
    have HX := hid hx
    clear hx
    rw [h2]
    clear h2
    go_enter Tryd.func47, Tryd.ntmps47
    go_wp2_with (rw [← HX.out])
    go_region
    go_wp2
    exact bodyPost_ret (v := .tuple #[.int .i64 2, .agg #[.int .i64 g.a, .int .i64 g.b, .int .i64 0]]) (by simp [results, Tryd.results47, go_sem]) rfl ⟨by rw [HV.out], below_drewN (BX.out.alloc BX.out.size _) 1⟩
  · by_cases h4 : g.kind = 4
    · have HV : Hid (leansV g = .tuple #[.int .i64 3, .agg #[.int .i64 g.a, .int .i64 g.b, .int .i64 g.c]]) := by show _ = _; simp [leansV, h4]
      obtain ⟨x, hx⟩ : ∃ x, x = w.alloc (Obj.cells #[.int .i64 4, .string g.name, .int .i64 g.op, .int .i64 g.a, .int .i64 g.b, .int .i64 g.c] 38) := ⟨_, rfl⟩
      have c0 : ∀ i, x.cell? ⟨w.heap.size, i, none⟩ = (#[.int .i64 4, .string g.name, .int .i64 g.op, .int .i64 g.a, .int .i64 g.b, .int .i64 g.c] : Array Value)[i]? := fun i => by rw [hx]; exact cell_row (heap_alloc_new w _) i
      have hb0 : w.heap.size < x.heap.size := by rw [hx]; simp
      have BX : Hid (Below w.heap.size w x) := by rw [hx]; exact (Below.refl _ _).alloc (Nat.le_refl _) _
      have HX := hid hx
      clear hx
      rw [h4]
      clear h4 h2
      go_enter Tryd.func47, Tryd.ntmps47
      go_wp2_with (rw [← HX.out])
      go_region
      go_wp2
      exact bodyPost_ret (v := .tuple #[.int .i64 3, .agg #[.int .i64 g.a, .int .i64 g.b, .int .i64 g.c]]) (by simp [results, Tryd.results47, go_sem]) rfl ⟨by rw [HV.out], below_drewN (BX.out.alloc BX.out.size _) 1⟩
    · have HV : Hid (leansV g = .tuple #[.int .i64 0, .agg #[.int .i64 0, .int .i64 0, .int .i64 0]]) := by show _ = _; simp [leansV, h2, h4]
      obtain ⟨x, hx⟩ : ∃ x, x = w.alloc (Obj.cells #[.int .i64 g.kind, .string g.name, .int .i64 g.op, .int .i64 g.a, .int .i64 g.b, .int .i64 g.c] 38) := ⟨_, rfl⟩
      have c0 : ∀ i, x.cell? ⟨w.heap.size, i, none⟩ = (#[.int .i64 g.kind, .string g.name, .int .i64 g.op, .int .i64 g.a, .int .i64 g.b, .int .i64 g.c] : Array Value)[i]? := fun i => by rw [hx]; exact cell_row (heap_alloc_new w _) i
      have hb0 : w.heap.size < x.heap.size := by rw [hx]; simp
      have BX : Hid (Below w.heap.size w x) := by rw [hx]; exact (Below.refl _ _).alloc (Nat.le_refl _) _
      have HX := hid hx
      clear hx
      go_enter Tryd.func47, Tryd.ntmps47
      go_wp2_with (rw [← HX.out])
      exact bodyPost_ret (v := .tuple #[.int .i64 0, .agg #[.int .i64 0, .int .i64 0, .int .i64 0]]) (by simp [results, Tryd.results47, go_sem]) rfl ⟨by rw [HV.out], BX.out.alloc BX.out.size _⟩

set_option maxHeartbeats 1000000 in
set_option maxRecDepth 100000 in
theorem rcount_any (c : Net) (sg so : Option Addr) (cg co : Nat) (k : Int) (w : World) (hc : CellsAt w sg (gas c.gates)) (hl : c.gates.length ≤ 1099511627776) :
    Calls Tryd.prog 60 #[cirV c sg cg so co, .int .i64 k] w fun e w' => e = .returned (.int .i64 (cnt k c.gates : Int)) ∧ Below w.heap.size w w' := by
  have HC := hid hc
  clear hc
  go_enter Tryd.func60, Tryd.ntmps60
  go_wp2
  obtain ⟨x, hx⟩ : ∃ x, x = w.alloc (Obj.cells #[Value.string c.name, Value.slice sg c.gates.length cg, Value.slice so c.outs.length co] 26) := ⟨_, rfl⟩
  have c0 : ∀ i, x.cell? ⟨w.heap.size, i, none⟩ = (#[Value.string c.name, Value.slice sg c.gates.length cg, Value.slice so c.outs.length co] : Array Value)[i]? := fun i => by rw [hx]; exact cell_row (heap_alloc_new w _) i
  have hb0 : w.heap.size < x.heap.size := by rw [hx]; simp
  have BX : Hid (Below w.heap.size w x) := by rw [hx]; exact (Below.refl _ _).alloc (Nat.le_refl _) _
  rw [← hx]
  clear hx
  go_loopw [5, 6] (fun nv iv W => ∃ i : Nat, i ≤ c.gates.length ∧ iv = .int .i64 (i : Int) ∧ nv = .int .i64 (cnt k (c.gates.take i) : Int) ∧ W = x) (fun nv iv _ => c.gates.length - (intOf iv).toNat)
  case atStart => exact ⟨0, Nat.zero_le _, rfl, rfl, rfl⟩
  case round =>
    obtain ⟨i, hi, rfl, rfl, rfl⟩ := hrel
    have hcl := cnt_take_le_i k c.gates i
    by_cases hlt : i < c.gates.length
    · obtain ⟨g, hg⟩ : ∃ g, c.gates[i]? = some g := ⟨_, List.getElem?_eq_getElem hlt⟩
      obtain ⟨b, o, rfl, hb, d0, _⟩ := gate_at (HC.out.below BX.out) i g hg
      have HN := hid (cnt_take_succ k c.gates i hg)
      by_cases hk : g.kind = k
      · rw [if_pos hk] at HN
        clear hg
        go_wp2
        exact ⟨⟨i + 1, hlt, by go_num, by rw [HN.out]; go_num, trivial⟩, by simp [intOf]; omega⟩
      · rw [if_neg hk] at HN
        clear hg
        go_wp2
        exact ⟨⟨i + 1, hlt, by go_num, by rw [HN.out]; rfl, trivial⟩, by simp [intOf]; omega⟩
    · have hin : i = c.gates.length := by omega
      have HT : Hid (cnt k (c.gates.take i) = cnt k c.gates) := by show _ = _; rw [hin, List.take_length]
      clear hin
      go_wp2
      go_ret
      exact ⟨by rw [← HT.out]; rfl, BX.out⟩

set_option maxHeartbeats 1000000 in
set_option maxRecDepth 100000 in
theorem rfirsts_any (c : Net) (sg so : Option Addr) (cg co : Nat) (w : World) (hc : CellsAt w sg (gas c.gates)) (hl : c.gates.length ≤ 1099511627776) :
    Calls Tryd.prog 62 #[cirV c sg cg so co] w fun e w' => ∃ v, e = .returned v ∧ Mk w w' 4 1 v (cnt 3 c.gates) (bo (firstsOf c.gates)) := by
  have HC := hid hc
  clear hc
  go_enter Tryd.func62, Tryd.ntmps62
  go_wp2
  obtain ⟨x, hx⟩ : ∃ x, x = w.alloc (Obj.cells #[Value.string c.name, Value.slice sg c.gates.length cg, Value.slice so c.outs.length co] 26) := ⟨_, rfl⟩
  have RX : Hid (x.heap[w.heap.size]? = some (.cells #[Value.string c.name, Value.slice sg c.gates.length cg, Value.slice so c.outs.length co] 26 (0, 0))) := by rw [hx]; exact heap_alloc_new w _
  have BX : Hid (Below w.heap.size w x) := by rw [hx]; exact (Below.refl _ _).alloc (Nat.le_refl _) _
  rw [← hx]
  clear hx
  go_loopw [3, 4] (fun vv iv W => ∃ i : Nat, i ≤ c.gates.length ∧ iv = .int .i64 (i : Int) ∧ Hid (Mk x W 4 1 vv (cnt 3 (c.gates.take i)) (bo (firstsOf (c.gates.take i))))) (fun vv iv _ => c.gates.length - (intOf iv).toNat)
  case atStart => exact ⟨0, Nat.zero_le _, rfl, Mk.nil _ _ _⟩
  case round =>
    obtain ⟨i, hi, rfl, HR⟩ := hrel
    have hr := HR.out
    obtain ⟨sv, cv, rfl⟩ := own_shape hr.own
    have hrow := (hr.below.block _ (Array.getElem?_eq_some_iff.1 RX.out).1).trans RX.out
    have c0 := fun j => cell_row hrow j
    have hb0 := (Array.getElem?_eq_some_iff.1 hrow).1
    have hwr : Below w.heap.size w wr := BX.out.trans (hr.below.mono BX.out.size)
    have hcl := cnt_take_le_i 3 c.gates i
    by_cases hlt : i < c.gates.length
    · obtain ⟨g, hg⟩ : ∃ g, c.gates[i]? = some g := ⟨_, List.getElem?_eq_getElem hlt⟩
      obtain ⟨b, o, rfl, hb, d0, _, d2, _⟩ := gate_at (HC.out.below hwr) i g hg
      have HN := hid (cnt_take_succ 3 c.gates i hg)
      have htk : c.gates.take (i + 1) = c.gates.take i ++ [g] := by rw [List.take_add_one, hg]; rfl
      by_cases hk : g.kind = 3
      · have HT : Hid (bo (firstsOf (c.gates.take (i + 1))) = bo (firstsOf (c.gates.take i)) ++ [.bool (decide (g.op = 1))]) := by
          show _ = _
          rw [htk]
          simp [bo, firstsOf, hk]
        rw [if_pos hk] at HN
        rw [hk] at d0
        have hbe : (g.op == 1) = decide (g.op = 1) := by by_cases h : g.op = 1 <;> simp [h]
        obtain ⟨m, hm⟩ : ∃ m, m = cnt 3 (c.gates.take i) := ⟨_, rfl⟩
        rw [← hm] at HN hcl HR ⊢
        clear hg htk hk hr hrow hwr hm
        go_wp2_with (first
          | (at_builtin; refine mk_app rfl _ _ 29 (.bool false) 1 rfl Tryd.underlying29 info4 rfl (by decide) HR.out [.bool (decide (g.op = 1))] 4 _ rfl rfl rfl rfl (fun u hu => by simp at hu; subst hu; rfl) (by omega) (by omega) ?_; intro sx cx w2 _ m2; have M2 := hid m2; clear m2))
        exact ⟨⟨i + 1, hlt, by go_num, by show Mk _ _ _ _ _ _ _; rw [HT.out, HN.out]; exact M2.out⟩, by simp [intOf]; omega⟩
      · have HT : Hid (bo (firstsOf (c.gates.take (i + 1))) = bo (firstsOf (c.gates.take i))) := by
          show _ = _
          rw [htk]
          simp [bo, firstsOf, hk]
        rw [if_neg hk] at HN
        clear hg htk hr hrow hwr
        go_wp2
        exact ⟨⟨i + 1, hlt, by go_num, by show Mk _ _ _ _ _ _ _; rw [HT.out, HN.out]; exact HR.out⟩, by simp [intOf]; omega⟩
    · have hin : i = c.gates.length := by omega
      subst hin
      rw [List.take_length] at hr
      have HF : Hid (Mk w wr 4 1 (Value.slice sv (cnt 3 (c.gates.take c.gates.length)) cv) (cnt 3 c.gates) (bo (firstsOf c.gates))) := by
        rw [List.take_length]
        exact ⟨⟨hr.own.1, hr.own.2.imp id (fun ⟨g, cap, cur, hv, hB, r⟩ => ⟨g, cap, cur, hv, Nat.le_trans BX.out.size hB, r⟩)⟩, hwr⟩
      clear hr hwr hrow
      go_wp2
      go_ret
      exact ⟨_, rfl, HF.out⟩
end Go.Proofs.YtfmmmhcpdinhgaaDoor
