import Derived.Test.YtfmmmhcpdinhgabGreatDoorZ24
/-
  CircuitBack: the law.
-/
namespace Go.Proofs.YtfmmmhcpdinhgabGreatDoor
open Go.RowKit Go.Deep PureNet PureRd ShfKit
set_option maxRecDepth 100000

theorem ops_at {W : World} {T : Nat → List UInt8} (h : OpsT W T) : OpsAt W 2 (tbOf T) := ⟨h.pos, h.word⟩
theorem made_sizes {c : Net} (h : Made c) : c.name.size ≤ 140737488351232 ∧ ∀ g ∈ c.gates, g.name.size ≤ 140737488351232 := by
  have hf := h.formed
  refine ⟨?_, fun g hg => ?_⟩
  · have := name_size hf.name
    simp [bl] at this
    omega
  · obtain ⟨i, hi⟩ := List.getElem?_of_mem hg
    have := name_size (hf.lines i g hi).1
    simp [bl] at this
    omega
theorem set_ne {W : World} {b i k : Nat} {v : Value} (h : b ≠ k) : (W.setCell ⟨b, i, none⟩ v).heap[k]? = W.heap[k]? := by simp [World.setCell, Array.getElem?_modify, h]
theorem resp_next {s t : List UInt8} {i : Nat} {c : UInt8} (hc : s[i]? = some c) (h : Resp (s.take i) t) {ins : List UInt8} (hi : Ins c ins) (hl : t.length ≤ 20 * i) (hins : ins.length ≤ 19) : Resp (s.take (i + 1)) (t ++ ins ++ [c]) ∧ (t ++ ins ++ [c]).length ≤ 20 * (i + 1) := by
  refine ⟨?_, by simp only [List.length_append, List.length_cons, List.length_nil]; omega⟩
  rw [List.take_add_one, hc]
  exact h.snoc hi
set_option maxHeartbeats 8000000 in
theorem back_law {T : Nat → List UInt8} (hT : TabOk T) (code : List Int) (sc : Option Addr) (cc : Nat) (fill : List Int) (sf : Option Addr) (cf : Nat) (w : World) (hkd : KindsAt w) (hkw : KwAt w) (hops : OpsT w T)
    (hc : CellsAt w sc (nu code)) (hr : ∀ x ∈ code, -9223372036854775808 ≤ x ∧ x ≤ 9223372036854775807) (hl : code.length ≤ 17592186043904)
    (hcf : CellsAt w sf (nu fill)) (hrf : ∀ x ∈ fill, -9223372036854775808 ≤ x ∧ x ≤ 9223372036854775807) (hlf : fill.length ≤ 17592186043904) :
    Calls Tryz.prog 3 #[.slice sc code.length cc, .slice sf fill.length cf] w fun e w' => e = .returned (.bool true) ∧ Below w.heap.size w w' := by
  have MD := hid (made_any code sc cc w hc hr hl)
  have CF := hid hcf
  have RF := hid hrf
  have KD := hid hkd
  have KW := hid hkw
  have OP := hid hops
  clear hc hr hcf hrf hkd hkw hops hl
  go_enter Tryz.func3, Tryz.ntmps3
  go_wp2_with (fail)
  with_reducible refine MD.out.mono ?_
  rintro e w1 ⟨c, sg, cg, so, co, rfl, hm, mg, mo⟩
  clear MD
  obtain ⟨sg2, cg2, hg2, cgs, hgn, _⟩ := own_cells mg.own
  cases hg2
  obtain ⟨so2, co2, ho2, cos, hon, _⟩ := own_cells mo.own
  cases ho2
  have B1 := hid mg.below
  have CA : Hid (CirAt w1 c sg so) := ⟨cgs, cos⟩
  have HM := hid hm
  have HFEW := hid (And.intro hm.few hm.fewOuts)
  clear hm mg mo cgs cos hgn hon
  obtain ⟨X, hX⟩ : ∃ X, X = w1.alloc (Obj.cells #[.string c.name, .slice sg c.gates.length cg, .slice so c.outs.length co] 25) := ⟨_, rfl⟩
  obtain ⟨bx, hbx⟩ : ∃ bx, bx = w1.heap.size := ⟨_, rfl⟩
  have BX : Hid (Below w.heap.size w X) := by rw [hX]; exact B1.out.alloc B1.out.size _
  have BOX : Hid (∀ W, Below X.heap.size X W → (∀ j, W.cell? ⟨bx, j, none⟩ = (#[.string c.name, .slice sg c.gates.length cg, .slice so c.outs.length co] : Array Value)[j]?) ∧ bx < W.heap.size) := fun W hW => by
    have hr : X.heap[bx]? = some (Obj.cells #[.string c.name, .slice sg c.gates.length cg, .slice so c.outs.length co] 25) := by rw [hX, hbx]; exact heap_alloc_new w1 _
    have hr2 := (hW.block _ (Array.getElem?_eq_some_iff.1 hr).1).trans hr
    exact ⟨fun j => cell_row hr2 j, (Array.getElem?_eq_some_iff.1 hr2).1⟩
  have CX : Hid (CirAt X c sg so) := CA.out.below (by rw [hX]; exact (Below.refl _ _).alloc (Nat.le_refl _) _)
  obtain ⟨s, hs⟩ : ∃ s, s = textT (tbOf T) c := ⟨_, rfl⟩
  have HS := hid hs
  have hsl : s.length ≤ 60000 := by rw [hs]; exact text_made HM.out hT
  have PR : Hid (Calls Tryz.prog 6 #[cirV c sg cg so co] X fun e w' => e = .returned (.tuple #[str s, .int .i64 0]) ∧ Below X.heap.size X w') := by
    have hz := made_sizes HM.out
    have h1 := HFEW.out
    exact print_any (tbOf T) (fun k => hT.small k) c sg so cg co X CX.out (KD.out.on BX.out) (KW.out.on KD.out.pos BX.out) (ops_at (OP.out.on BX.out OP.out.pos)) hz.1 hz.2 (by omega) (by omega) s 0 (.inr (.inr ⟨HM.out.formed, by rw [← hs]; omega, hs, rfl⟩))
  have FO : Hid (∀ W, Below X.heap.size X W → Calls Tryz.prog 7 #[cirV c sg cg so co] W fun e w' => e = .returned (.bool true) ∧ Below X.heap.size X w') := fun W hW => (formed_ok c sg so cg co W (CX.out.below hW) ((KD.out.on BX.out).on hW) HM.out.formed).mono fun e w' ⟨h1, h2⟩ => ⟨h1, hW.trans (h2.mono hW.size)⟩
  have PA : Hid (∀ W b, Below X.heap.size X W → Resp s b → b.length ≤ 1048576 → Calls Tryz.prog 8 #[str b] W fun e w' => (∃ sg cg so co, e = .returned (.tuple #[cirV c sg cg so co, .agg #[.int .i64 0, .int .i64 0, .int .i64 0]]) ∧ ∀ W', (∀ k, W.heap.size ≤ k → k < w'.heap.size → W'.heap[k]? = w'.heap[k]?) → CirAt W' c sg so) ∧ Below W.heap.size W w') := fun W b hW hb hlb => by
    rw [hs] at hb
    have hbw : Below w.heap.size w W := BX.out.trans (hW.mono BX.out.size)
    exact parse_back HM.out.formed hT b hb hlb W (OP.out.on hbw OP.out.pos) (KD.out.on hbw)
  have SM : Hid (∀ W sg2 cg2 so2 co2, Below X.heap.size X W → CirAt W c sg2 so2 → Calls Tryz.prog 9 #[cirV c sg cg so co, cirV c sg2 cg2 so2 co2] W fun e w' => e = .returned (.bool true) ∧ Below W.heap.size W w') := fun W sg2 cg2 so2 co2 hW h2 => same_true c sg so sg2 so2 cg co cg2 co2 W (CX.out.below hW) h2 (by have := HFEW.out; omega) (by have := HFEW.out; omega)
  have HX := hid hX
  have HBX := hid hbx
  obtain ⟨c0, hb0⟩ := BOX.out X (Below.refl _ _)
  clear hX hbx hs CA
  go_wp2_with (first
    | (rw [← HX.out, ← HBX.out])
    | (have q := M4; clear q; go_at_call 9; refine Calls.mono (SM.out _ _ _ _ _ BXX.out CI4.out) ?_; rintro e w5 ⟨rfl, b5⟩; have B5 := hid b5; have M5 := hid True.intro; clear b5 M4)
    | (have q := M3; clear q; go_at_call 8; refine Calls.mono (PA.out w3 s B3.out (Resp.refl s) (by omega)) ?_; rintro e w4 ⟨⟨sg2, cg2, so2, co2, rfl, ci4⟩, b4⟩; obtain ⟨X2, hX2⟩ : ∃ X2, X2 = (w4.alloc (Obj.cells #[Value.string c.name, Value.slice sg2 c.gates.length cg2, Value.slice so2 c.outs.length co2] 25)).alloc (Obj.cells #[Value.int .i64 0, Value.int .i64 0, Value.int .i64 0] 34) := ⟨_, rfl⟩; have B42 : Below w4.heap.size w4 X2 := (by rw [hX2]; exact ((Below.refl _ _).alloc (Nat.le_refl _) _).alloc (by simp) _); have BXX : Hid (Below X.heap.size X X2) := ((B3.out.trans (b4.mono B3.out.size)).trans (B42.mono (Nat.le_trans B3.out.size b4.size))); have CI4 : Hid (CirAt X2 c sg2 so2) := (ci4 X2 (fun k h1 h2 => B42.block k h2)); have RX2 : Hid (X2.heap[w4.heap.size]? = some (Obj.cells #[Value.string c.name, Value.slice sg2 c.gates.length cg2, Value.slice so2 c.outs.length co2] 25) ∧ X2.heap[w4.heap.size + 1]? = some (Obj.cells #[Value.int .i64 0, Value.int .i64 0, Value.int .i64 0] 34)) := (by have s1 : (w4.alloc (Obj.cells #[Value.string c.name, Value.slice sg2 c.gates.length cg2, Value.slice so2 c.outs.length co2] 25)).heap.size = w4.heap.size + 1 := (by simp); refine And.intro ?_ ?_; (rw [hX2, Below.heap_alloc _ _ _ (by omega)]; exact heap_alloc_new w4 _); (rw [hX2, ← s1]; exact heap_alloc_new _ _)); obtain ⟨c4, hb4⟩ := BOX.out X2 BXX.out; have d4 := fun j => cell_row RX2.out.1 j; have e4 := fun j => cell_row RX2.out.2 j; have hd4 := (Array.getElem?_eq_some_iff.1 RX2.out.1).1; have he4 := (Array.getElem?_eq_some_iff.1 RX2.out.2).1; have LX4 : Hid (X.heap.size ≤ w4.heap.size) := (Nat.le_trans B3.out.size b4.size); have M4 := hid True.intro; clear ci4 b4 B42 M3; subst hX2)
    | (have q := M2; clear q; go_at_call 7; refine Calls.mono (FO.out w2 B2.out) ?_; rintro e w3 ⟨rfl, b3⟩; have B3 := hid b3; obtain ⟨c3, hb3⟩ := BOX.out w3 b3; have M3 := hid True.intro; clear b3 M2)
    | (go_at_call 6; refine Calls.mono PR.out ?_; rintro e w2 ⟨rfl, b2⟩; have B2 := hid b2; obtain ⟨c2, hb2⟩ := BOX.out w2 b2; have M2 := hid True.intro; clear b2))
  clear c0 hb0 c2 hb2 c3 hb3 c4 hb4 d4 e4 hd4 he4 PR FO
  have BY : Hid (∀ W, Below w5.heap.size w5 W → Below X.heap.size X W) := fun W hW => (BXX.out.trans (B5.out.mono BXX.out.size)).trans (hW.mono (Nat.le_trans BXX.out.size B5.out.size))
  have CFY : Hid (∀ W, Below w5.heap.size w5 W → CellsAt W sf (nu fill)) := fun W hW => by
    have h1 := BY.out W hW
    exact CF.out.below (BX.out.trans (h1.mono BX.out.size))
  have RY : Hid (∀ W, Below w5.heap.size w5 W → W.heap[w4.heap.size]? = some (Obj.cells #[Value.string c.name, Value.slice sg2 c.gates.length cg2, Value.slice so2 c.outs.length co2] 25) ∧ W.heap[w4.heap.size + 1]? = some (Obj.cells #[Value.int .i64 0, Value.int .i64 0, Value.int .i64 0] 34)) := fun W hW => by
    have h1 := (B5.out.block _ (Array.getElem?_eq_some_iff.1 RX2.out.1).1).trans RX2.out.1
    have h2 := (B5.out.block _ (Array.getElem?_eq_some_iff.1 RX2.out.2).1).trans RX2.out.2
    exact ⟨(hW.block _ (Array.getElem?_eq_some_iff.1 h1).1).trans h1, (hW.block _ (Array.getElem?_eq_some_iff.1 h2).1).trans h2⟩
  have BR : Hid (Resp (s.take 0) []) := Resp.nil
  go_loopw [10, 11, 12] (fun bv kv iv W => ∃ (i k : Nat) (t : List UInt8), i ≤ s.length ∧ k ≤ fill.length ∧ kv = .int .i64 (k : Int) ∧ iv = .int .i64 (i : Int) ∧ Hid (Buf w5.heap.size t w5 bv W ∧ Resp (s.take i) t ∧ t.length ≤ 20 * i)) (fun _ _ iv _ => s.length - (intOf iv).toNat)
  case atStart => exact ⟨0, 0, [], Nat.zero_le _, Nat.zero_le _, rfl, rfl, hid ⟨Buf.empty (Below.refl _ _) (Nat.le_refl _), BR.out, by simp⟩⟩
  case round =>
    obtain ⟨i, k, t, hi, hk, rfl, rfl, HR⟩ := hrel
    obtain ⟨sa, ca, rfl⟩ := HR.out.1.shape
    have hbl : Below w5.heap.size w5 wr := HR.out.1.2.1
    have htl := HR.out.2.2
    by_cases hlt : i < s.length
    · obtain ⟨b, hbc⟩ : ∃ b, s[i]? = some b := ⟨_, List.getElem?_eq_getElem hlt⟩
      have hix : (⟨s.toArray⟩ : ByteArray)[i]'hlt = b := by
        have := List.getElem?_eq_some_iff.1 hbc
        exact this.2
      have NX : Hid (∀ ins, Ins b ins → ins.length ≤ 19 → Resp (s.take (i + 1)) (t ++ ins ++ [b]) ∧ (t ++ ins ++ [b]).length ≤ 20 * (i + 1)) := fun ins h1 h2 => resp_next hbc HR.out.2.1 h1 htl h2
      have NX0 : Hid (Resp (s.take (i + 1)) (t ++ [b]) ∧ (t ++ [b]).length ≤ 20 * (i + 1)) := by
        have := NX.out [] (Ins.none b) (by decide)
        rw [List.append_nil] at this
        exact this
      clear hbc
      by_cases hb2 : b = 32 ∨ b = 10
      · by_cases hkf : k < fill.length
        · obtain ⟨x, hx⟩ : ∃ x, fill[k]? = some x := ⟨_, List.getElem?_eq_getElem hkf⟩
          obtain ⟨fb, fo, rfl, hfb, hfc⟩ := num_at (CFY.out wr hbl) k x hx
          have WI : Hid (∀ W, Calls Tryz.prog 10 #[.int .i64 x, .int .i64 6] W fun e w' => e = .returned (.int .i64 (wi x 6 : Int)) ∧ w' = W) := fun W => within_any x 6 W (RF.out x (List.mem_of_getElem? hx)) (by decide) (by decide)
          have hm := wi_lt x (show 0 < 6 by decide)
          obtain ⟨m, hm2⟩ : ∃ m : Int, m = (wi x 6 : Int) := ⟨_, rfl⟩
          rw [← hm2] at WI
          have hm3 : m = 0 ∨ m = 1 ∨ m = 2 ∨ m = 3 ∨ m = 4 ∨ m = 5 := by omega
          clear hm2 hm hx hbl CFY RF CF
          rcases hb2 with rfl | rfl <;> rcases hm3 with rfl | rfl | rfl | rfl | rfl | rfl
          · go_wp2_with (first
            | (have q := R1; clear q; at_builtin; refine app_bytes rfl _ _ rfl w5.heap.size _ (t ++ [32, 9]) [32] (by first | rfl | simp [cb]) 1 rfl rfl w5 R1.out rfl (by simp only [List.length_append, List.length_cons, List.length_nil]; omega) ?_; intro v2 z2 r2; have R2 := hid r2; clear r2)
            | (at_builtin; refine app_bytes rfl _ _ rfl w5.heap.size _ t [32, 9] rfl 2 rfl rfl w5 HR.out.1 rfl (by simp only [List.length_cons, List.length_nil]; omega) ?_; intro v1 z1 r1; have R1 := hid r1; clear r1)
            | (go_at_call 10; refine Calls.mono (WI.out _) ?_; rintro e w9 ⟨rfl, rfl⟩))
            exact ⟨⟨i + 1, k + 1, t ++ [32, 9] ++ [32], hlt, hkf, by go_num, by go_num, hid ⟨R2.out, NX.out _ (Ins.tab _ (.inl rfl)) (by decide)⟩⟩, by simp [intOf]; omega⟩
          · go_wp2_with (first
            | (at_builtin; refine app_bytes rfl _ _ rfl w5.heap.size _ t [32] (by first | rfl | simp [cb]) 1 rfl rfl w5 HR.out.1 rfl (by simp only [List.length_cons, List.length_nil]; omega) ?_; intro v2 z2 r2; have R2 := hid r2; clear r2)
            | (go_at_call 10; refine Calls.mono (WI.out _) ?_; rintro e w9 ⟨rfl, rfl⟩))
            exact ⟨⟨i + 1, k + 1, t ++ [32], hlt, hkf, by go_num, by go_num, hid ⟨R2.out, NX0.out⟩⟩, by simp [intOf]; omega⟩
          · go_wp2_with (first
            | (at_builtin; refine app_bytes rfl _ _ rfl w5.heap.size _ t [32] (by first | rfl | simp [cb]) 1 rfl rfl w5 HR.out.1 rfl (by simp only [List.length_cons, List.length_nil]; omega) ?_; intro v2 z2 r2; have R2 := hid r2; clear r2)
            | (go_at_call 10; refine Calls.mono (WI.out _) ?_; rintro e w9 ⟨rfl, rfl⟩))
            exact ⟨⟨i + 1, k + 1, t ++ [32], hlt, hkf, by go_num, by go_num, hid ⟨R2.out, NX0.out⟩⟩, by simp [intOf]; omega⟩
          · go_wp2_with (first
            | (have q := R1; clear q; at_builtin; refine app_bytes rfl _ _ rfl w5.heap.size _ (t ++ [13]) [32] (by first | rfl | simp [cb]) 1 rfl rfl w5 R1.out rfl (by simp only [List.length_append, List.length_cons, List.length_nil]; omega) ?_; intro v2 z2 r2; have R2 := hid r2; clear r2)
            | (at_builtin; refine app_bytes rfl _ _ rfl w5.heap.size _ t [13] rfl 1 rfl rfl w5 HR.out.1 rfl (by simp only [List.length_cons, List.length_nil]; omega) ?_; intro v1 z1 r1; have R1 := hid r1; clear r1)
            | (go_at_call 10; refine Calls.mono (WI.out _) ?_; rintro e w9 ⟨rfl, rfl⟩))
            exact ⟨⟨i + 1, k + 1, t ++ [13] ++ [32], hlt, hkf, by go_num, by go_num, hid ⟨R2.out, NX.out _ (Ins.ret _ (.inl rfl)) (by decide)⟩⟩, by simp [intOf]; omega⟩
          · go_wp2_with (first
            | (at_builtin; refine app_bytes rfl _ _ rfl w5.heap.size _ t [32] (by first | rfl | simp [cb]) 1 rfl rfl w5 HR.out.1 rfl (by simp only [List.length_cons, List.length_nil]; omega) ?_; intro v2 z2 r2; have R2 := hid r2; clear r2)
            | (go_at_call 10; refine Calls.mono (WI.out _) ?_; rintro e w9 ⟨rfl, rfl⟩))
            exact ⟨⟨i + 1, k + 1, t ++ [32], hlt, hkf, by go_num, by go_num, hid ⟨R2.out, NX0.out⟩⟩, by simp [intOf]; omega⟩
          · go_wp2_with (first
            | (at_builtin; refine app_bytes rfl _ _ rfl w5.heap.size _ t [32] (by first | rfl | simp [cb]) 1 rfl rfl w5 HR.out.1 rfl (by simp only [List.length_cons, List.length_nil]; omega) ?_; intro v2 z2 r2; have R2 := hid r2; clear r2)
            | (go_at_call 10; refine Calls.mono (WI.out _) ?_; rintro e w9 ⟨rfl, rfl⟩))
            exact ⟨⟨i + 1, k + 1, t ++ [32], hlt, hkf, by go_num, by go_num, hid ⟨R2.out, NX0.out⟩⟩, by simp [intOf]; omega⟩
          · go_wp2_with (first
            | (have q := R1; clear q; at_builtin; refine app_bytes rfl _ _ rfl w5.heap.size _ (t ++ [32, 9]) [10] (by first | rfl | simp [cb]) 1 rfl rfl w5 R1.out rfl (by simp only [List.length_append, List.length_cons, List.length_nil]; omega) ?_; intro v2 z2 r2; have R2 := hid r2; clear r2)
            | (at_builtin; refine app_bytes rfl _ _ rfl w5.heap.size _ t [32, 9] rfl 2 rfl rfl w5 HR.out.1 rfl (by simp only [List.length_cons, List.length_nil]; omega) ?_; intro v1 z1 r1; have R1 := hid r1; clear r1)
            | (go_at_call 10; refine Calls.mono (WI.out _) ?_; rintro e w9 ⟨rfl, rfl⟩))
            exact ⟨⟨i + 1, k + 1, t ++ [32, 9] ++ [10], hlt, hkf, by go_num, by go_num, hid ⟨R2.out, NX.out _ (Ins.tab _ (.inr rfl)) (by decide)⟩⟩, by simp [intOf]; omega⟩
          · go_wp2_with (first
            | (have q := R1; clear q; at_builtin; refine app_bytes rfl _ _ rfl w5.heap.size _ (t ++ [32, 35, 32, 103, 97, 116, 101, 32, 101, 110, 100, 32, 105, 110, 112, 117, 116, 10, 13]) [10] (by first | rfl | simp [cb]) 1 rfl rfl w5 R1.out rfl (by simp only [List.length_append, List.length_cons, List.length_nil]; omega) ?_; intro v2 z2 r2; have R2 := hid r2; clear r2)
            | (at_builtin; refine app_text rfl _ _ rfl w5.heap.size _ t [32, 35, 32, 103, 97, 116, 101, 32, 101, 110, 100, 32, 105, 110, 112, 117, 116, 10, 13] rfl w5 HR.out.1 rfl (by simp only [List.length_cons, List.length_nil]; omega) ?_; intro v1 z1 r1; have R1 := hid r1; clear r1)
            | (go_at_call 10; refine Calls.mono (WI.out _) ?_; rintro e w9 ⟨rfl, rfl⟩))
            exact ⟨⟨i + 1, k + 1, t ++ [32, 35, 32, 103, 97, 116, 101, 32, 101, 110, 100, 32, 105, 110, 112, 117, 116, 10, 13] ++ [10], hlt, hkf, by go_num, by go_num, hid ⟨R2.out, NX.out _ Ins.rem (by decide)⟩⟩, by simp [intOf]; omega⟩
          · go_wp2_with (first
            | (have q := R1; clear q; at_builtin; refine app_bytes rfl _ _ rfl w5.heap.size _ (t ++ [10, 10, 32]) [10] (by first | rfl | simp [cb]) 1 rfl rfl w5 R1.out rfl (by simp only [List.length_append, List.length_cons, List.length_nil]; omega) ?_; intro v2 z2 r2; have R2 := hid r2; clear r2)
            | (at_builtin; refine app_bytes rfl _ _ rfl w5.heap.size _ t [10, 10, 32] rfl 3 rfl rfl w5 HR.out.1 rfl (by simp only [List.length_cons, List.length_nil]; omega) ?_; intro v1 z1 r1; have R1 := hid r1; clear r1)
            | (go_at_call 10; refine Calls.mono (WI.out _) ?_; rintro e w9 ⟨rfl, rfl⟩))
            exact ⟨⟨i + 1, k + 1, t ++ [10, 10, 32] ++ [10], hlt, hkf, by go_num, by go_num, hid ⟨R2.out, NX.out _ Ins.two (by decide)⟩⟩, by simp [intOf]; omega⟩
          · go_wp2_with (first
            | (have q := R1; clear q; at_builtin; refine app_bytes rfl _ _ rfl w5.heap.size _ (t ++ [13]) [10] (by first | rfl | simp [cb]) 1 rfl rfl w5 R1.out rfl (by simp only [List.length_append, List.length_cons, List.length_nil]; omega) ?_; intro v2 z2 r2; have R2 := hid r2; clear r2)
            | (at_builtin; refine app_bytes rfl _ _ rfl w5.heap.size _ t [13] rfl 1 rfl rfl w5 HR.out.1 rfl (by simp only [List.length_cons, List.length_nil]; omega) ?_; intro v1 z1 r1; have R1 := hid r1; clear r1)
            | (go_at_call 10; refine Calls.mono (WI.out _) ?_; rintro e w9 ⟨rfl, rfl⟩))
            exact ⟨⟨i + 1, k + 1, t ++ [13] ++ [10], hlt, hkf, by go_num, by go_num, hid ⟨R2.out, NX.out _ (Ins.ret _ (.inr rfl)) (by decide)⟩⟩, by simp [intOf]; omega⟩
          · go_wp2_with (first
            | (at_builtin; refine app_bytes rfl _ _ rfl w5.heap.size _ t [10] (by first | rfl | simp [cb]) 1 rfl rfl w5 HR.out.1 rfl (by simp only [List.length_cons, List.length_nil]; omega) ?_; intro v2 z2 r2; have R2 := hid r2; clear r2)
            | (go_at_call 10; refine Calls.mono (WI.out _) ?_; rintro e w9 ⟨rfl, rfl⟩))
            exact ⟨⟨i + 1, k + 1, t ++ [10], hlt, hkf, by go_num, by go_num, hid ⟨R2.out, NX0.out⟩⟩, by simp [intOf]; omega⟩
          · go_wp2_with (first
            | (at_builtin; refine app_bytes rfl _ _ rfl w5.heap.size _ t [10] (by first | rfl | simp [cb]) 1 rfl rfl w5 HR.out.1 rfl (by simp only [List.length_cons, List.length_nil]; omega) ?_; intro v2 z2 r2; have R2 := hid r2; clear r2)
            | (go_at_call 10; refine Calls.mono (WI.out _) ?_; rintro e w9 ⟨rfl, rfl⟩))
            exact ⟨⟨i + 1, k + 1, t ++ [10], hlt, hkf, by go_num, by go_num, hid ⟨R2.out, NX0.out⟩⟩, by simp [intOf]; omega⟩
        · clear hbl CFY RF CF
          rcases hb2 with rfl | rfl
          · go_wp2_with (at_builtin; refine app_bytes rfl _ _ rfl w5.heap.size _ t [32] (by first | rfl | simp [cb]) 1 rfl rfl w5 HR.out.1 rfl (by simp only [List.length_cons, List.length_nil]; omega) ?_; intro v2 z2 r2; have R2 := hid r2; clear r2)
            exact ⟨⟨i + 1, k, t ++ [32], hlt, hk, by go_num, by go_num, hid ⟨R2.out, NX0.out⟩⟩, by simp [intOf]; omega⟩
          · go_wp2_with (at_builtin; refine app_bytes rfl _ _ rfl w5.heap.size _ t [10] (by first | rfl | simp [cb]) 1 rfl rfl w5 HR.out.1 rfl (by simp only [List.length_cons, List.length_nil]; omega) ?_; intro v2 z2 r2; have R2 := hid r2; clear r2)
            exact ⟨⟨i + 1, k, t ++ [10], hlt, hk, by go_num, by go_num, hid ⟨R2.out, NX0.out⟩⟩, by simp [intOf]; omega⟩
      · have hn32 : ¬ ((b.toNat : Int) = 32) := fun e => hb2 (.inl (UInt8.toNat_inj.1 (by show b.toNat = 32; omega)))
        have hn10 : ¬ ((b.toNat : Int) = 10) := fun e => hb2 (.inr (UInt8.toNat_inj.1 (by show b.toNat = 10; omega)))
        have hb256 := b.toNat_lt
        clear hbl CFY RF CF hb2
        go_wp2_with (at_builtin; refine app_bytes rfl _ _ rfl w5.heap.size _ t [b] (by first | rfl | simp [cb]) 1 rfl rfl w5 HR.out.1 rfl (by simp only [List.length_cons, List.length_nil]; omega) ?_; intro v2 z2 r2; have R2 := hid r2; clear r2)
        exact ⟨⟨i + 1, k, t ++ [b], hlt, hk, by go_num, by go_num, hid ⟨R2.out, NX0.out⟩⟩, by simp [intOf]; omega⟩
    · have hti : s.take i = s := List.take_of_length_le (by omega)
      have HRS : Hid (Resp s t) := by have := HR.out.2.1; rw [hti] at this; exact this
      have hcv := HR.out.1.text
      have HBL := hid hbl
      obtain ⟨ry1, ry2⟩ := RY.out wr hbl
      clear hti hbl
      by_cases hbig : 1048576 < t.length
      · go_wp2
        go_ret
        exact ⟨rfl, BX.out.trans ((BY.out wr HBL.out).mono BX.out.size)⟩
      · have PT := hid (PA.out wr t (BY.out wr HBL.out) HRS.out (by omega))
        have LW : w4.heap.size + 1 < wr.heap.size := (Array.getElem?_eq_some_iff.1 ry2).1
        have LX := LX4.out
        obtain ⟨_, hbx0⟩ := BOX.out X (Below.refl _ _)
        have n1 : bx ≠ w4.heap.size := by omega
        have n2 : bx ≠ w4.heap.size + 1 := by omega
        have n3 : w4.heap.size ≠ w4.heap.size + 1 := by omega
        have RY1 := hid ry1
        have RY2 := hid ry2
        clear ry1 ry2 hk hlf
        go_wp2_with (first
          | (have q := M6; clear q; go_at_call 9; refine Calls.mono (SM.out _ _ _ _ _ (by repeat (first | exact B6X.out | refine Below.setCell ?_ (by first | exact LX4.out | exact Nat.le_succ_of_le LX4.out) _)) (CI6.out _ (fun j h1 h2 => by (repeat rw [set_ne (by omega)])))) ?_; rintro e w7 ⟨rfl, b7⟩; have B7 := hid b7; clear b7)
          | (go_at_call 8; refine Calls.mono PT.out ?_; rintro e w6 ⟨⟨sg3, cg3, so3, co3, rfl, ci6⟩, b6⟩; have CI6 := hid ci6; have B6X : Hid (Below X.heap.size X w6) := ((BY.out wr HBL.out).trans (b6.mono (BY.out wr HBL.out).size)); have r1 := (b6.block _ (Array.getElem?_eq_some_iff.1 RY1.out).1).trans RY1.out; have r2 := (b6.block _ (Array.getElem?_eq_some_iff.1 RY2.out).1).trans RY2.out; have c6 := fun j => cell_row r1 j; have d6 := fun j => cell_row r2 j; have f6 := fun j => unfrozen_row r1 j; have g6 := fun j => unfrozen_row r2 j; obtain ⟨x6, hx6⟩ := BOX.out w6 B6X.out; have hs1 := (Array.getElem?_eq_some_iff.1 r1).1; have hs2 := (Array.getElem?_eq_some_iff.1 r2).1; have M6 := hid True.intro; clear ci6 b6 r1 r2))
        first
          | (go_ret; exact ⟨rfl, BX.out.trans (Below.trans (by repeat (first | exact B6X.out | refine Below.setCell ?_ (by first | exact LX4.out | exact Nat.le_succ_of_le LX4.out) _)) (B7.out.mono (by simp; have := B6X.out.size; omega)) |>.mono BX.out.size)⟩)
          | trace_state
end Go.Proofs.YtfmmmhcpdinhgabGreatDoor
/-
  What comes in, and the tables, off what the rows list.
-/
namespace Go.Proofs.YtfmmmhcpdinhgabGreatDoor
open Go.ChangeShapes Go.WideShapes Go.ChangeAt Go.RowKit Go.Deep PureNet PureRd
set_option maxRecDepth 100000

theorem own : ownKnob Tryz.prog.godebug = none := by kernel_rfl
theorem laidOut : laidOutB Tryz.prog = true := by kernel_rfl
theorem cells3 : Tryz.prog.cellsOf 3 = 1 := by kernel_rfl
theorem bytes3 : Tryz.prog.bytesOf 3 = 8 := by kernel_rfl
theorem i64_wf {n : Int} (h : (Lit.int .i64 n).wf = true) : -9223372036854775808 ≤ n ∧ n ≤ 9223372036854775807 := by
  have e1 : IntKind.i64.min = -9223372036854775808 := rfl
  have e2 : IntKind.i64.max = 9223372036854775807 := rfl
  simpa [Lit.wf, e1, e2] using h
theorem cells_of {W : World} {a : Addr} {xs : List Value} (h : ∀ (k : Nat) (x : Value), xs[k]? = some x → W.cell? (a.add k) = some x) : CellsAt W (some a) xs := ⟨fun k x hx => by
  have hc := h k x hx
  have h0 : 0 < xs.length := by
    have := (List.getElem?_eq_some_iff.1 hx).1
    omega
  have hs := World.cell?_spot (h 0 _ (List.getElem?_eq_getElem h0))
  obtain ⟨b, off, spot⟩ := a
  obtain rfl : spot = none := by simpa [Addr.add] using hs
  rw [add_plain] at hc
  exact ⟨b, off, rfl, World.block_lt_of_cell? W _ hc, hc⟩⟩

section
variable {H : Type} {enc : TypeId × Value → H} {W : World} {spare : Nat → Bool} {held : Bool}

set_option maxRecDepth 100000 in
/-- numbers that came in. -/
theorem open_nums {v : Value} {d : DataW H} {ps : List MemPlace} {base : Nat} (hval : Value.okWide Tryz.prog W .any base 22 v) (h : DataW.Trod enc Tryz.prog W 0 spare held 22 v d ps) :
    ∃ (sa : Option Addr) (ca : Nat) (l : List Int), v = .slice sa l.length ca ∧ CellsAt W sa (nu l) ∧ (∀ x ∈ l, -9223372036854775808 ≤ x ∧ x ≤ 9223372036854775807) ∧
      ∀ {ts : List TypeId} {ds : List (DataW H)} {j : Nat}, (DataW.weightsEach Tryz.prog ts ds).all (· ≤ reachBytes) = true → ts[j]? = some 22 → ds[j]? = some d → l.length ≤ 17592186043904 := by
  obtain ⟨a0, len, cap, rfl⟩ := okWide_slice Tryz.underlying22 hval
  obtain ⟨fuel, hf⟩ := h
  rcases open_ints Tryz.underlying22 Tryz.underlying3 cells3 hf with ⟨hcs, hx⟩ | ⟨a, len', cap', zs, hcs, _, hl, hm, hz, hx, hcell, hwz⟩
  · simp [Value.cells] at hcs
    obtain ⟨rfl, rfl, rfl⟩ := hcs
    exact ⟨none, 0, [], rfl, CellsAt.nil _ _, (fun x hx => by cases hx), fun _ _ _ => Nat.zero_le _⟩
  · simp [Value.cells] at hcs
    obtain ⟨rfl, rfl, rfl⟩ := hcs
    obtain ⟨rfl, -⟩ := Prod.mk.inj hx
    have hlz : len ≤ zs.length := by rw [hz]; split <;> omega
    have hlen : (zs.take len).length = len := by simp [hlz]
    refine ⟨some a, cap, zs.take len, by rw [hlen], cells_of fun k x hkx => ?_, fun x hx => i64_wf (hwz _ (List.mem_of_mem_take hx)), fun {ts ds j} hsz ht hd => ?_⟩
    · have hk : k < len := by
        have := (List.getElem?_eq_some_iff.1 hkx).1
        simpa [nu, hlz] using this
      have h1 := hcell k (by omega)
      rw [h1, ← hkx]
      simp [nu, hk, List.getD, List.getElem?_eq_getElem (show k < zs.length by omega)]
    · rw [hlen]
      have hr : reachBytes = 140737488351232 := by decide
      have hw : ((lits (H := H) IntKind.i64 (List.take len zs)).length + (lits (H := H) IntKind.i64 (List.drop len zs)).length) * 8 ∈ (DataW.slice (lits IntKind.i64 (List.take len zs)) (lits (H := H) IntKind.i64 (List.drop len zs))).weights Tryz.prog 22 := by
        simp [DataW.weights, Tryz.underlying22, bytes3]
      have h2 := List.all_eq_true.1 hsz _ (DataW.weights_mem_each ht hd _ hw)
      have h3 : ((lits (H := H) IntKind.i64 (List.take len zs)).length + (lits (H := H) IntKind.i64 (List.drop len zs)).length) * 8 ≤ reachBytes := by simpa using h2
      simp only [lits, List.length_map, List.length_take, List.length_drop] at h3
      omega

end

theorem cells137 : Tryz.prog.cellsOf 92 = 3 := by kernel_rfl
theorem cells138 : Tryz.prog.cellsOf 93 = 15 := by kernel_rfl
theorem cells9 : Tryz.prog.cellsOf 9 = 1 := by kernel_rfl
/-- a number of a line of the table. -/
theorem kind_cells {W : World} {fuel : Nat} {cs : List Value} {s : List UInt8} {a b : Int} {y : DataW Unit × List MemPlace} (h : DataW.trod (fun _ => ()) Tryz.prog W 0 (fun _ => true) false fuel 92 cs = some y) (hy : y.1 = .agg [.lit (.string s), .lit (.int .i64 a), .lit (.int .i64 b)]) :
    cs[1]? = some (.int .i64 a) ∧ cs[2]? = some (.int .i64 b) := by
  obtain ⟨xs, m, e1, e2, hl, hxs, hall⟩ := DataW.trod_struct Tryz.underlying92 h
  have hl3 : cs.length = 3 := by rw [hl]; exact cells137
  match cs, hl3 with
  | [v0, v1, v2], _ =>
  have f1 := hall 1 _ rfl
  have f2 := hall 2 _ rfl
  simp [cells3] at f1 f2
  have hx3 : xs.length = 3 := by simpa using hxs
  rw [List.getElem?_eq_getElem (by omega)] at f1 f2
  obtain ⟨n1, g1, d1, _⟩ := DataW.trod_int Tryz.underlying3 f1
  obtain ⟨n2, g2, d2, _⟩ := DataW.trod_int Tryz.underlying3 f2
  rw [e2] at hy
  simp only [DataW.agg.injEq] at hy
  match xs, hx3 with
  | [x0, x1, x2], _ =>
  simp at hy d1 d2 g1 g2
  obtain ⟨_, hy1, hy2⟩ := hy
  rw [d1] at hy1
  rw [d2] at hy2
  simp at hy1 hy2
  subst hy1 hy2
  simp [g1, g2]
theorem cells139 : Tryz.prog.cellsOf 86 = 16 := by kernel_rfl
def opsL : List (List UInt8) := [[122, 101, 114, 111], [110, 111, 114], [108, 101, 115, 115], [110, 111, 116, 97], [100, 105, 102, 102], [110, 111, 116, 98], [120, 111, 114], [110, 97, 110, 100], [97, 110, 100], [105, 102, 102], [98], [105, 109, 112], [97], [114, 101, 118], [111, 114], [111, 110, 101]]
/-- the operators' words. -/
def opT (k : Nat) : ByteArray := ⟨(opsL.getD k []).toArray⟩
theorem opT_le (k : Nat) : (bl (opT k)).length ≤ 16 := by
  show (opsL.getD k []).toArray.toList.length ≤ 16
  rw [List.getD_eq_getElem?_getD]
  cases h : opsL[k]? with
  | none => simp
  | some x =>
    have h2 : ∀ y ∈ opsL, y.length ≤ 16 := by decide
    simpa using h2 x (List.mem_of_getElem? h)

theorem kind_word {W : World} {fuel : Nat} {cs : List Value} {s : List UInt8} {a b : Int} {y : DataW Unit × List MemPlace} (h : DataW.trod (fun _ => ()) Tryz.prog W 0 (fun _ => true) false fuel 92 cs = some y) (hy : y.1 = .agg [.lit (.string s), .lit (.int .i64 a), .lit (.int .i64 b)]) :
    cs[0]? = some (str s) := by
  obtain ⟨xs, m, e1, e2, hl, hxs, hall⟩ := DataW.trod_struct Tryz.underlying92 h
  have hl3 : cs.length = 3 := by rw [hl]; exact cells137
  match cs, hl3 with
  | [v0, v1, v2], _ =>
  have f0 := hall 0 _ rfl
  simp [cells9] at f0
  have hx3 : xs.length = 3 := by simpa using hxs
  rw [List.getElem?_eq_getElem (by omega)] at f0
  obtain ⟨n1, g1, d1, _⟩ := DataW.trod_string Tryz.underlying9 f0
  rw [e2] at hy
  simp only [DataW.agg.injEq] at hy
  match xs, hx3 with
  | [x0, x1, x2], _ =>
  simp at hy d1 g1
  obtain ⟨hy0, _, _⟩ := hy
  rw [d1] at hy0
  simp at hy0
  rw [← hy0]
  simp [g1]

theorem kinds_of_one {W : World} {t : TypeId} {g f : Nat} {cs : Array Value} {p : List MemPlace} (hg0 : Tryz.prog.globalNamed "strata/circuit.kinds" = some g) (ht0 : (Tryz.prog.globals[g]?).map (·.type) = some t) (hv0 : W.var? Tryz.prog "strata/circuit.kinds" = some cs) (hd0 : DataW.trod (fun _ => ()) Tryz.prog W 0 (fun _ => true) false f t cs.toList = some (Rows.laid_strata_circuit_kinds, p)) : KindsAt W ∧ KwAt W := by
  have hg : Tryz.prog.globalNamed "strata/circuit.kinds" = some 1 := by kernel_rfl
  obtain rfl := Option.some.inj (hg.symm.trans hg0)
  have ht : (Tryz.prog.globals[1]?).map (·.type) = some 93 := by kernel_rfl
  obtain rfl := Option.some.inj (ht.symm.trans ht0)
  obtain ⟨xs, m, e1, e2, hcl, hxs, hall⟩ := DataW.trod_array Tryz.underlying93 hd0
  have hc : ∀ j, W.cell? ⟨1, j, none⟩ = cs.toList[j]? := fun j => by simpa using World.var?_cell hg0 hv0 j
  have hd := congrArg Prod.fst e2
  simp only [Rows.laid_strata_circuit_kinds, DataW.agg.injEq] at hd
  have hlen : cs.toList.length = 15 := by rw [hcl]; exact cells138
  match xs, hxs with
  | [x0, x1, x2, x3, x4], _ =>
  simp at hd
  obtain ⟨_, y1, y2, y3, y4⟩ := hd
  have t1 := hall 1 (by omega)
  have t2 := hall 2 (by omega)
  have t3 := hall 3 (by omega)
  have t4 := hall 4 (by omega)
  rw [cells137] at t1 t2 t3 t4
  obtain ⟨a1, b1⟩ := kind_cells t1 y1.symm
  obtain ⟨a2, b2⟩ := kind_cells t2 y2.symm
  obtain ⟨a3, b3⟩ := kind_cells t3 y3.symm
  obtain ⟨a4, b4⟩ := kind_cells t4 y4.symm
  have z1 := kind_word t1 y1.symm
  have z2 := kind_word t2 y2.symm
  have z3 := kind_word t3 y3.symm
  have z4 := kind_word t4 y4.symm
  simp only [List.getElem?_take, List.getElem?_drop] at a1 a2 a3 a4 b1 b2 b3 b4 z1 z2 z3 z4
  simp at a1 a2 a3 a4 b1 b2 b3 b4 z1 z2 z3 z4
  refine ⟨⟨?_, fun k h1 h4 => ?_, fun k h1 h4 => ?_⟩, ⟨fun k h1 h4 => ?_⟩⟩
  · have h5 : W.cell? ⟨1, 0, none⟩ = some (cs.toList[0]'(by omega)) := by rw [hc]; exact List.getElem?_eq_getElem _
    exact World.block_lt_of_cell? W _ h5
  · rw [hc]
    have : k = 1 ∨ k = 2 ∨ k = 3 ∨ k = 4 := by omega
    rcases this with rfl | rfl | rfl | rfl <;> simpa [mostN]
  · rw [hc]
    have : k = 1 ∨ k = 2 ∨ k = 3 ∨ k = 4 := by omega
    rcases this with rfl | rfl | rfl | rfl <;> simpa [usesN]
  · rw [hc]
    have : k = 1 ∨ k = 2 ∨ k = 3 ∨ k = 4 := by omega
    rcases this with rfl | rfl | rfl | rfl <;> simpa [kw]

theorem ops_of_one {W : World} {nm : String} {b f : Nat} {cs : Array Value} {p : List MemPlace} (hg0 : Tryz.prog.globalNamed nm = some b) (hv0 : W.var? Tryz.prog nm = some cs) (hd0 : DataW.trod (fun _ => ()) Tryz.prog W 0 (fun _ => true) false f 86 cs.toList = some (.agg (opsL.map fun s => .lit (.string s)), p)) : OpsAt W b opT := by
  obtain ⟨xs, m, e1, e2, hcl, hxs, hall⟩ := DataW.trod_array Tryz.underlying86 hd0
  have hc : ∀ j, W.cell? ⟨b, j, none⟩ = cs.toList[j]? := fun j => by simpa using World.var?_cell hg0 hv0 j
  have hd := congrArg Prod.fst e2
  simp only [DataW.agg.injEq] at hd
  have hlen : cs.toList.length = 16 := by rw [hcl]; exact cells139
  have hw : ∀ k : Nat, k < 16 → cs.toList[k]? = some (.string (opT k)) := fun k hk => by
    have tk := hall k hk
    rw [cells9] at tk
    have hk2 : k < xs.length := by omega
    rw [List.getElem?_eq_getElem hk2] at tk
    obtain ⟨s, g1, d1, _⟩ := DataW.trod_string Tryz.underlying9 tk
    have h0 := congrArg (fun l => l[0]?) g1
    simp only [List.getElem?_take, List.getElem?_drop] at h0
    simp at h0
    have h1 : (opsL.map fun s => (DataW.lit (Lit.string s) : DataW Unit))[k]? = (xs.map Prod.fst)[k]? := by rw [hd]
    have hk3 : k < opsL.length := by simpa [opsL] using hk
    simp [hk2, hk3, d1] at h1
    rw [List.getElem?_eq_getElem (by omega)]
    simp only [Array.getElem_toList]
    have h2 : opT k = s := by
      show (⟨(opsL.getD k []).toArray⟩ : ByteArray) = s
      rw [List.getD_eq_getElem?_getD, List.getElem?_eq_getElem hk3, Option.getD_some, h1]
    rw [h2]
    have h3 : cs[k]? = some (.string s) := by simpa using h0
    rw [Array.getElem?_eq_getElem (by have := hlen; simp at this; omega)] at h3
    exact h3
  refine ⟨?_, fun k hk => by rw [hc]; exact hw k hk⟩
  have h5 : W.cell? ⟨b, 0, none⟩ = some (.string (opT 0)) := by rw [hc]; exact hw 0 (by omega)
  exact World.block_lt_of_cell? W _ h5

def opW (k : Nat) : List UInt8 := opsL.getD k []
theorem opW_ok : TabOk opW := by
  refine ⟨?_, ?_, fun k => ?_⟩
  · have key : ∀ k : Fin 16, PlainA (opW k.val) := by unfold PlainA PlainW PlainC; decide
    exact fun k hk => key ⟨k, hk⟩
  · have key : ∀ k : Fin 16, opF opW (opW k.val) = (k.val : Int) := by decide
    exact fun k hk => key ⟨k, hk⟩
  · have := opT_le k
    simpa [opT, bl, opW] using this
theorem tables_of_back {W : World} (h0 : laidMetH Tryz.prog Rows.circuitBackRow.laid W) : KindsAt W ∧ KwAt W ∧ OpsT W opW := by
  have h : laidMet Tryz.prog [("math/bits.deBruijn32tab", Rows.laid_math_bits_deBruijn32tab), ("math/bits.deBruijn64tab", Rows.laid_math_bits_deBruijn64tab), ("internal/strconv.uint64pow10", Rows.laid_internal_strconv_uint64pow10), ("unicode/utf8.acceptRanges", Rows.laid_unicode_utf8_acceptRanges), ("strata/circuit.kinds", Rows.laid_strata_circuit_kinds), ("strata/circuit.operators", Rows.laid_strata_circuit_operators), ("unicode/utf8.first", Rows.laid_unicode_utf8_first)] W := h0
  obtain ⟨ps, h1, _⟩ := h
  obtain ⟨_, _, _, _, _, _, _, _, _, _, h2, _⟩ := h1
  obtain ⟨_, _, _, _, _, _, _, _, _, _, h3, _⟩ := h2
  obtain ⟨_, _, _, _, _, _, _, _, _, _, h4, _⟩ := h3
  obtain ⟨_, _, _, _, _, _, _, _, _, _, h5, _⟩ := h4
  obtain ⟨g5, t5, c5, f5, p5, q5, hg5, ht5, hv5, hd5, h6, _⟩ := h5
  obtain ⟨g6, t6, c6, f6, p6, q6, hg6, ht6, hv6, hd6, h7, _⟩ := h6
  obtain ⟨k1, k2⟩ := kinds_of_one hg5 ht5 hv5 hd5
  obtain rfl : 2 = g6 := Option.some.inj ((show Tryz.prog.globalNamed "strata/circuit.operators" = some 2 by kernel_rfl).symm.trans hg6)
  obtain rfl : 86 = t6 := Option.some.inj ((show (Tryz.prog.globals[2]?).map (·.type) = some 86 by kernel_rfl).symm.trans ht6)
  have o2 := ops_of_one hg6 hv6 hd6
  exact ⟨k1, k2, ⟨o2.pos, o2.word⟩⟩
end Go.Proofs.YtfmmmhcpdinhgabGreatDoor
/-
  CircuitBack: the row and its card.
-/

namespace Go.Proofs.YtfmmmhcpdinhgabGreatDoor
open Go.ChangeShapes Go.WideShapes Go.ChangeAt Go.RowKit Go.Deep PureNet
set_option maxRecDepth 100000

set_option maxRecDepth 100000 in
theorem back_contract (H : Type) (enc : TypeId × Value → H) (W : World) (base : Nat) (args : Array Value) (ds gs : List (DataW H)) (before : List MemPlace)
    (hval : ∀ (j : Nat) t v, Tryz.f3.params[j]? = some t → args[j]? = some v → Value.okWide Tryz.prog W .any base t v)
    (hW : DataW.Whole enc Tryz.prog Tryz.f3.params.toList Rows.circuitBackSpec.vars false W args.toList ds gs before)
    (hsz0 : (DataW.weightsEach Tryz.prog (Tryz.f3.params.toList ++ (OpenSpec.ofChange Rows.circuitBackSpec).bare.plain.varTypes Tryz.prog) (ds ++ gs)).all (· ≤ reachBytes) = true) (hL : laidMetH Tryz.prog Rows.circuitBackRow.laid W) :
    Calls Tryz.prog 3 args W fun e W' => ∃ v, e = .returned v ∧ Rows.circuitBackSpec.post enc Tryz.prog Tryz.f3 false true false false W args v W' := by
  have hsz := hsz0
  clear hsz0
  have hW' := hW
  obtain ⟨p, q, hA0, hV, rfl, hfz, hnd⟩ := hW
  have hA : DataW.TrodAll enc Tryz.prog W 0 (fun _ => true) true Tryz.f3.params.toList args.toList ds p := hA0
  rw [Tryz.params3] at hA hval hsz
  obtain ⟨v0, vs0, d0, ds0, p0, q0, hargs0, rfl, rfl, h0, r0⟩ := trodAll_cons hA
  obtain ⟨v1, vs1, d1, ds1, p1, q1, hargs1, rfl, rfl, h1, r1⟩ := trodAll_cons r0
  obtain ⟨rfl, rfl, rfl⟩ := trodAll_nil r1
  obtain rfl : args = #[v0, v1] := by cases args; simp_all
  obtain ⟨rfl, rfl⟩ := trodVars_none hV
  clear hA0
  simp only [List.append_nil] at hW'
  have hlt0 : ∀ x ∈ p0, x.block < W.heap.size := fun x hx => by simpa using hW'.lt x (by simp [hx])
  have hlt1 : ∀ x ∈ p1, x.block < W.heap.size := fun x hx => by simpa using hW'.lt x (by simp [hx])
  obtain ⟨sa, ca, code, rfl, hn, hr, hsize⟩ := open_nums (hval 0 22 v0 rfl rfl) h0
  obtain ⟨sb, cb, fill, rfl, hn2, hr2, hsize2⟩ := open_nums (hval 1 22 v1 rfl rfl) h1
  have hb0 := hsize (j := 0) hsz rfl rfl
  have hb1 := hsize2 (j := 1) hsz rfl rfl
  obtain ⟨tb1, tb2, tb3⟩ := tables_of_back hL
  refine (back_law opW_ok code sa ca fill sb cb W tb1 tb2 tb3 hn hr hb0 hn2 hr2 hb1).mono fun e W' ⟨he, hnx⟩ => ?_
  subst he
  refine ⟨_, rfl, _, _, _, [], _, [], hW', ?_, trodAll_mk2 (Below.trod laidOut (by kernel_rfl) (of_decide_eq_true (by kernel_rfl)) h0 hnx hlt0) (Below.trod laidOut (by kernel_rfl) (of_decide_eq_true (by kernel_rfl)) h1 hnx hlt1), rfl, hnx.frame _, fun h => by cases h⟩
  exact trodAll_mk1 (shut_bool Tryz.underlying4 _)

set_option maxRecDepth 100000 in
theorem back_lifted (os : Os) (started : os.Started) (H : Type) (enc : TypeId × Value → H) (F : Stop.Interp) :
    ReturnsInHanded {} Tryz.checked os 3 .any ((OpenSpec.ofChange Rows.circuitBackSpec).preRow enc Tryz.prog Tryz.f3 Rows.circuitBackRow.domain false Rows.circuitBackRow.laid) (((OpenSpec.ofChange Rows.circuitBackSpec).at F).post enc Tryz.prog Tryz.f3 false true false false) := by
  obtain ⟨lw, hlw⟩ : ∃ lw : World, lw = (fun w0 : World => { w0 with heap := (((((((w0.heap.modify 7 fun
      | .cells _ t frozen => .cells #[.int .u8 0, .int .u8 1, .int .u8 28, .int .u8 2, .int .u8 29, .int .u8 14, .int .u8 24, .int .u8 3, .int .u8 30, .int .u8 22, .int .u8 20, .int .u8 15, .int .u8 25, .int .u8 17, .int .u8 4, .int .u8 8, .int .u8 31, .int .u8 27, .int .u8 13, .int .u8 23, .int .u8 21, .int .u8 19, .int .u8 16, .int .u8 7, .int .u8 26, .int .u8 12, .int .u8 18, .int .u8 6, .int .u8 11, .int .u8 5, .int .u8 10, .int .u8 9] t frozen
      | o => o).modify 8 fun
      | .cells _ t frozen => .cells #[.int .u8 0, .int .u8 1, .int .u8 56, .int .u8 2, .int .u8 57, .int .u8 49, .int .u8 28, .int .u8 3, .int .u8 61, .int .u8 58, .int .u8 42, .int .u8 50, .int .u8 38, .int .u8 29, .int .u8 17, .int .u8 4, .int .u8 62, .int .u8 47, .int .u8 59, .int .u8 36, .int .u8 45, .int .u8 43, .int .u8 51, .int .u8 22, .int .u8 53, .int .u8 39, .int .u8 33, .int .u8 30, .int .u8 24, .int .u8 18, .int .u8 12, .int .u8 5, .int .u8 63, .int .u8 55, .int .u8 48, .int .u8 27, .int .u8 60, .int .u8 41, .int .u8 37, .int .u8 16, .int .u8 46, .int .u8 35, .int .u8 44, .int .u8 21, .int .u8 52, .int .u8 32, .int .u8 23, .int .u8 11, .int .u8 54, .int .u8 26, .int .u8 40, .int .u8 15, .int .u8 34, .int .u8 20, .int .u8 31, .int .u8 10, .int .u8 25, .int .u8 14, .int .u8 19, .int .u8 9, .int .u8 13, .int .u8 8, .int .u8 7, .int .u8 6] t frozen
      | o => o).modify 4 fun
      | .cells _ t frozen => .cells #[.int .u64 1, .int .u64 10, .int .u64 100, .int .u64 1000, .int .u64 10000, .int .u64 100000, .int .u64 1000000, .int .u64 10000000, .int .u64 100000000, .int .u64 1000000000, .int .u64 10000000000, .int .u64 100000000000, .int .u64 1000000000000, .int .u64 10000000000000, .int .u64 100000000000000, .int .u64 1000000000000000, .int .u64 10000000000000000, .int .u64 100000000000000000, .int .u64 1000000000000000000, .int .u64 10000000000000000000] t frozen
      | o => o).modify 6 fun
      | .cells _ t frozen => .cells #[.int .u8 128, .int .u8 191, .int .u8 160, .int .u8 191, .int .u8 128, .int .u8 159, .int .u8 144, .int .u8 191, .int .u8 128, .int .u8 143, .int .u8 0, .int .u8 0, .int .u8 0, .int .u8 0, .int .u8 0, .int .u8 0, .int .u8 0, .int .u8 0, .int .u8 0, .int .u8 0, .int .u8 0, .int .u8 0, .int .u8 0, .int .u8 0, .int .u8 0, .int .u8 0, .int .u8 0, .int .u8 0, .int .u8 0, .int .u8 0, .int .u8 0, .int .u8 0] t frozen
      | o => o).modify 1 fun
      | .cells _ t frozen => .cells #[.string ⟨#[]⟩, .int .i64 0, .int .i64 0, .string ⟨#[105, 110, 112, 117, 116]⟩, .int .i64 0, .int .i64 0, .string ⟨#[103, 97, 116, 101]⟩, .int .i64 15, .int .i64 2, .string ⟨#[108, 97, 116, 99, 104]⟩, .int .i64 1, .int .i64 1, .string ⟨#[109, 117, 120]⟩, .int .i64 0, .int .i64 3] t frozen
      | o => o).modify 2 fun
      | .cells _ t frozen => .cells #[.string ⟨#[122, 101, 114, 111]⟩, .string ⟨#[110, 111, 114]⟩, .string ⟨#[108, 101, 115, 115]⟩, .string ⟨#[110, 111, 116, 97]⟩, .string ⟨#[100, 105, 102, 102]⟩, .string ⟨#[110, 111, 116, 98]⟩, .string ⟨#[120, 111, 114]⟩, .string ⟨#[110, 97, 110, 100]⟩, .string ⟨#[97, 110, 100]⟩, .string ⟨#[105, 102, 102]⟩, .string ⟨#[98]⟩, .string ⟨#[105, 109, 112]⟩, .string ⟨#[97]⟩, .string ⟨#[114, 101, 118]⟩, .string ⟨#[111, 114]⟩, .string ⟨#[111, 110, 101]⟩] t frozen
      | o => o).modify 5 fun
      | .cells _ t frozen => .cells (Go.Pinned.utf8FirstZ.map fun n : Nat => Value.int .u8 (Int.ofNat n)).toArray t frozen
      | o => o) }) (World.holding Tryz.prog os ⟨#[], #[], []⟩) := ⟨_, rfl⟩
  have hos : lw.os = os := by rw [hlw]; rfl
  have hv : (lw.forCall (fun _ _ => 0) ⟨#[], #[.slice none 0 0, .slice none 0 0], []⟩).variablesRefB Tryz.checked.prog = true := by rw [hlw]; kernel_rfl
  have hr : ((lw.forCall (fun _ _ => 0) ⟨#[], #[.slice none 0 0, .slice none 0 0], []⟩).heap.toList.drop Tryz.checked.prog.globals.size).take ((begin Tryz.checked.prog (fun _ _ => 0) default).world.heap.size - Tryz.checked.prog.globals.size) = (begin Tryz.checked.prog (fun _ _ => 0) default).world.heap.toList.drop Tryz.checked.prog.globals.size := by rw [hlw]; kernel_rfl
  have hok : Input.okWideB Tryz.checked.prog (lw.forCall (fun _ _ => 0) ⟨#[], #[.slice none 0 0, .slice none 0 0], []⟩) 3 ⟨#[], #[.slice none 0 0, .slice none 0 0], []⟩ = true := by rw [hlw]; kernel_rfl
  have hx : DataW.whole enc Tryz.prog (lw.forCall (fun _ _ => 0) ⟨#[], #[.slice none 0 0, .slice none 0 0], []⟩).memory Tryz.f3.params.toList Rows.circuitBackSpec.vars false (#[.slice none 0 0, .slice none 0 0] : Array Value).toList 8 = some ([.nil, .nil], [], []) := by rw [hlw]; kernel_rfl
  have hlm : laidMet Tryz.prog Rows.circuitBackRow.laid (lw.forCall (fun _ _ => 0) ⟨#[], #[.slice none 0 0, .slice none 0 0], []⟩).memory := by rw [hlw]; exact laidMet_of_run' 8 (by kernel_rfl) (by kernel_rfl)
  clear hlw
  refine returnsInHanded_of_row (C := Tryz.checked) (s := OpenSpec.ofChange Rows.circuitBackSpec) own started (by kernel_rfl) Tryz.func3
    (witness_row_atRef (enc := enc) (C := Tryz.checked) false lw #[.slice none 0 0, .slice none 0 0] hos hv hr hok
      (OpenSpec.preRow_of_cond 8 hx (by kernel_rfl) (fun k hk => by cases hk) (by kernel_rfl) hlm)) ?_
  intro W base args ds gs before hval hW _ _ hsz hL _ _
  exact back_contract H enc W base args ds gs before hval hW hsz hL

theorem circuitBack_said : Rows.CircuitBackSaid :=
  OpenClaim.holds_of_cond 3 Tryz.f3 rfl rfl rfl rfl rfl rfl rfl ⟨rfl, rfl, rfl, rfl, rfl⟩ rfl rfl rfl rfl rfl (by kernel_rfl) Tryz.func3 (by kernel_rfl)
    (of_decide_eq_true (by kernel_rfl)) (by unfold Func.isWrapper; first | (rw [if_pos (by decide +kernel)]; kernel_rfl) | (rw [if_neg (by decide +kernel)]; exact ⟨rfl, rfl⟩))
    (fun os started H enc _ F => by rw [OpenClaim.pre_eq_preRow]; exact back_lifted os started H enc F)

/-- no parameter wants a stand-in. -/
theorem circuitBack_plain (f : FuncId) (fn : Func) (hf : Tryz.pinned.checked.prog.funcNamed "strata/stratalaw14.CircuitBack" = some f) (hfn : Tryz.pinned.checked.prog.funcs[f]? = some fn) :
    false = Tryz.pinned.checked.prog.looks [] ∧ ∀ (j : Nat) t, fn.params[j]? = some t → Tryz.pinned.checked.prog.wantsStandIn t = false := by
  obtain rfl : f = 3 := Option.some.inj ((show Tryz.prog.funcNamed "strata/stratalaw14.CircuitBack" = some 3 by kernel_rfl).symm.trans hf) |>.symm
  obtain rfl : fn = Tryz.f3 := (Option.some.inj (Tryz.func3.symm.trans hfn)).symm
  refine ⟨by kernel_rfl, fun j t ht => ?_⟩
  rw [Tryz.params3] at ht
  have hm : t = 22 := by
    have := Array.mem_of_getElem? ht
    simpa using this
  subst hm
  exact (show Tryz.prog.wantsStandIn 22 = false by kernel_rfl)

theorem circuitBack_holds : Rows.CircuitBackCardSaid :=
  Claim7.holds_tied_plain_at .later [] _ _ _ _ circuitBack_said (fun _ h => by cases h) (by kernel_rfl) (fun _ h => by cases h) circuitBack_row_tie rfl ⟨rfl, rfl⟩ (by kernel_rfl) rfl circuitBack_plain (by kernel_rfl)
#print axioms circuitBack_holds
end Go.Proofs.YtfmmmhcpdinhgabGreatDoor
