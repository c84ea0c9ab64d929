/-
  The program's first values of latches.
-/
import Derived.Test.YtfmmmhcpdinhgaaDoorA5
import Derived.Test.YtfmmmhcpdinhgaaDoorKin
namespace Go.Proofs.YtfmmmhcpdinhgaaDoor
open Go.RowKit Go.Deep PureNet
set_option maxRecDepth 100000

set_option maxHeartbeats 1000000 in
theorem pfirst_any (c : Net) (sg so : Option Addr) (cg co : Nat) (w : World) (hc : CellsAt w sg (gas c.gates)) (hl : c.gates.length ≤ 1099511627776) :
    Calls Tryd.prog 39 #[cirV c sg cg so co] w fun e w' => ∃ v, e = .returned v ∧ Mk w w' 4 1 v (cnt 3 c.gates) (bo (firstsOf c.gates)) := by
  have HC := hid hc
  clear hc
  go_enter Tryd.func39, Tryd.ntmps39
  go_wp2
  obtain ⟨x, hx⟩ : ∃ x, x = w.alloc (Obj.cells #[Value.string c.name, Value.slice sg c.gates.length cg, Value.slice so c.outs.length co] 26) := ⟨_, rfl⟩
  have RX : Hid (x.heap[w.heap.size]? = some (.cells #[Value.string c.name, Value.slice sg c.gates.length cg, Value.slice so c.outs.length co] 26 (0, 0))) := by rw [hx]; exact heap_alloc_new w _
  have BX : Hid (Below w.heap.size w x) := by rw [hx]; exact (Below.refl _ _).alloc (Nat.le_refl _) _
  rw [← hx]
  clear hx
  go_loopw [3, 9] (fun vv iv W => ∃ i : Nat, i ≤ c.gates.length ∧ iv = .int .i64 (i : Int) ∧ Hid (Mk x W 4 1 vv (cnt 3 (c.gates.take i)) (bo (firstsOf (c.gates.take i))))) (fun vv iv _ => c.gates.length - (intOf iv).toNat)
  case atStart => exact ⟨0, Nat.zero_le _, rfl, Mk.nil _ _ _⟩
  case round =>
    obtain ⟨i, hi, rfl, HR⟩ := hrel
    have hr := HR.out
    obtain ⟨sv, cv, rfl⟩ := own_shape hr.own
    have hwr : Below w.heap.size w wr := BX.out.trans (hr.below.mono BX.out.size)
    have hcl := cnt_take_le_i 3 c.gates i
    by_cases hlt : i < c.gates.length
    · obtain ⟨g, hg⟩ : ∃ g, c.gates[i]? = some g := ⟨_, List.getElem?_eq_getElem hlt⟩
      obtain ⟨b, o, rfl, hb, d0, d1, d2, d3, d4, d5⟩ := gate_at (HC.out.below hwr) i g hg
      have HN := hid (cnt_take_succ 3 c.gates i hg)
      have htk : c.gates.take (i + 1) = c.gates.take i ++ [g] := by rw [List.take_add_one, hg]; rfl
      have H1 : Hid (∀ o : Obj, Mk x (wr.alloc o) 4 1 (.slice sv (cnt 3 (c.gates.take i)) cv) (cnt 3 (c.gates.take i)) (bo (firstsOf (c.gates.take i)))) := fun o => HR.out.on ((Below.refl _ _).alloc (Nat.le_refl _) o)
      by_cases hk : g.kind = 3
      · have HT : Hid (bo (firstsOf (c.gates.take (i + 1))) = bo (firstsOf (c.gates.take i)) ++ [.bool (decide (g.op = 1))]) := by
          show _ = _
          rw [htk]
          simp [bo, firstsOf, hk]
        rw [if_pos hk] at HN
        rw [hk] at d0
        have hbe : (g.op == 1) = decide (g.op = 1) := by by_cases h : g.op = 1 <;> simp [h]
        obtain ⟨m, hm⟩ : ∃ m, m = cnt 3 (c.gates.take i) := ⟨_, rfl⟩
        rw [← hm] at HN hcl HR ⊢
        simp only [← hm] at H1
        clear hg htk hk hr hwr hm
        go_wp2_with (first
          | (at_builtin; refine mk_app rfl _ _ 29 (.bool false) 1 rfl Tryd.underlying29 info4 rfl (by decide) (H1.out _) [.bool (decide (g.op = 1))] 4 (wr.heap.size + 1) (by simp) rfl rfl rfl (fun u hu => by simp at hu; subst hu; rfl) (by omega) (by omega) ?_; intro sx cx w2 _ m2; have M2 := hid m2; clear m2))
        exact ⟨⟨i + 1, hlt, by go_num, by show Mk _ _ _ _ _ _ _; rw [HT.out, HN.out]; exact M2.out⟩, by simp [intOf]; omega⟩
      · have HT : Hid (bo (firstsOf (c.gates.take (i + 1))) = bo (firstsOf (c.gates.take i))) := by
          show _ = _
          rw [htk]
          simp [bo, firstsOf, hk]
        have hkb : (g.kind == 3) = false := beq_eq_false_iff_ne.2 hk
        rw [if_neg hk] at HN
        clear hg htk hr hwr hk
        go_wp2
        exact ⟨⟨i + 1, hlt, by go_num, by show Mk _ _ _ _ _ _ _; rw [HT.out, HN.out]; exact H1.out _⟩, by simp [intOf]; omega⟩
    · have hin : i = c.gates.length := by omega
      subst hin
      rw [List.take_length] at hr
      have HF : Hid (Mk w wr 4 1 (Value.slice sv (cnt 3 (c.gates.take c.gates.length)) cv) (cnt 3 c.gates) (bo (firstsOf c.gates))) := by
        rw [List.take_length]
        exact ⟨⟨hr.own.1, hr.own.2.imp id (fun ⟨g, cap, cur, hv, hB, r⟩ => ⟨g, cap, cur, hv, Nat.le_trans BX.out.size hB, r⟩)⟩, hwr⟩
      clear hr hwr
      go_wp2
      go_ret
      exact ⟨_, rfl, HF.out⟩
end Go.Proofs.YtfmmmhcpdinhgaaDoor
