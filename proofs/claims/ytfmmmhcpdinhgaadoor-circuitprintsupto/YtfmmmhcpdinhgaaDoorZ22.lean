import Derived.Test.YtfmmmhcpdinhgaaDoorZ21
/-
  CircuitPrints: the law.
-/
namespace Go.Proofs.YtfmmmhcpdinhgaaDoor
open Go.RowKit Go.Deep PureNet
set_option maxRecDepth 100000

theorem turnO_name (g : Ga) : (turnO g).name = g.name := by unfold turnO; split <;> rfl
theorem says_is {c : Net} {b : Bool} (hb : b = true ↔ PureNet.Formed c) {e : Ending} (h : FormedSays c e) : e = .returned (.bool b) := by
  obtain ⟨b', rfl, hb'⟩ := h
  have : b' = b := by
    cases b <;> cases b' <;> simp_all
  rw [this]
theorem formed_bit (c : Net) : ∃ b : Bool, b = true ↔ PureNet.Formed c := by
  by_cases h : PureNet.Formed c
  · exact ⟨true, by simp [h]⟩
  · exact ⟨false, by simp [h]⟩

set_option maxHeartbeats 8000000 in
theorem prints_law (T : Nat → ByteArray) (hT : ∀ k, (bl (T k)).length ≤ 16) (c : Net) (sg so : Option Addr) (cg co : Nat) (w : World) (hc : CirAt w c sg so) (hkd : KindsAt w) (hkw : KwAt w) (ho1 : OpsAt w 1 T) (ho2 : OpsAt w 2 T) (hsg : sg = none → cg = 0) (hso : so = none → co = 0) (hn : c.name.size ≤ 140737488351232) (hns : ∀ g ∈ c.gates, g.name.size ≤ 140737488351232) (hl : c.gates.length ≤ 1099511627776) (hlo : c.outs.length ≤ 1099511627776) :
    Calls Tryd.prog 6 #[cirV c sg cg so co] w fun e w' => e = .returned (.bool true) ∧ Below w.heap.size w w' := by
  obtain ⟨x0, hx0⟩ : ∃ x, x = w.alloc (Obj.cells (#[Value.string c.name, Value.slice sg c.gates.length cg, Value.slice so c.outs.length co] : Array Value) 26) := ⟨_, rfl⟩
  have R0 : Hid (x0.heap[w.heap.size]? = some (.cells (#[Value.string c.name, Value.slice sg c.gates.length cg, Value.slice so c.outs.length co] : Array Value) 26 (0, 0))) := by rw [hx0]; exact heap_alloc_new w _
  have BX0 : Hid (Below w.heap.size w x0) := by rw [hx0]; exact (Below.refl _ _).alloc (Nat.le_refl _) _
  obtain ⟨c2, hc2⟩ : ∃ c2 : Net, c2 = { c with gates := c.gates.map turnO } := ⟨_, rfl⟩
  have n2 : c2.name = c.name := by rw [hc2]
  have g2 : c2.gates.length = c.gates.length := by rw [hc2]; simp
  have u2 : c2.outs = c.outs := by rw [hc2]
  have hns2 : ∀ g ∈ c2.gates, g.name.size ≤ 140737488351232 := fun g hg => by
    rw [hc2] at hg
    simp only [List.mem_map] at hg
    obtain ⟨g0, h0, rfl⟩ := hg
    rw [turnO_name]
    exact hns g0 h0
  have V2 : ∀ a b d f, cirV c2 a b d f = cirV c a b d f := fun a b d f => by unfold cirV; rw [n2, g2, u2]
  obtain ⟨s1, e1, P1⟩ := print_is T c
  obtain ⟨s2, e2, P2⟩ := print_is T c2
  obtain ⟨b1, H1⟩ := formed_bit c
  obtain ⟨b2, H2⟩ := formed_bit c2
  have TWN := hid (twin_any c sg so cg co x0 (hc.below BX0.out) hsg hso hl hlo)
  have PR : Hid (∀ W B gg kg go ko, TwinAt W B c gg kg go ko → Below w.heap.size w W → Calls Tryd.prog 25 #[cirV c (some ⟨gg, 0, none⟩) kg (some ⟨go, 0, none⟩) ko] W fun e w' => e = .returned (.tuple #[str s1, .int .i64 e1]) ∧ Below W.heap.size W w') := fun W B gg kg go ko ht hb => print_any T hT c _ _ kg ko W ht.cir (hkd.on hb) (hkw.on hkd.pos hb) (ho1.on hb) hn hns hl hlo s1 e1 P1
  have FO : Hid (∀ W B gg kg go ko, TwinAt W B c gg kg go ko → Below w.heap.size w W → Calls Tryd.prog 26 #[cirV c (some ⟨gg, 0, none⟩) kg (some ⟨go, 0, none⟩) ko] W fun e w' => e = .returned (.bool b1) ∧ Below W.heap.size W w') := fun W B gg kg go ko ht hb => (formed_gen c _ _ kg ko W ht.cir (hkd.on hb) hn hns hl hlo).mono fun e w' h => ⟨says_is H1 h.1, h.2⟩
  have RP : Hid (∀ W, Below w.heap.size w W → Calls Tryd.prog 27 #[cirV c sg cg so co] W fun e w' => e = .returned (.tuple #[str s1, .int .i64 e1]) ∧ Below W.heap.size W w') := fun W hb => rprint_any T hT c _ _ cg co W (hc.below hb) (ho2.on hb) hn hns hl hlo s1 e1 P1
  have RF : Hid (∀ W, Below w.heap.size w W → Calls Tryd.prog 28 #[cirV c sg cg so co] W fun e w' => e = .returned (.bool b1) ∧ Below W.heap.size W w') := fun W hb => (formed_any c _ _ cg co W (hc.below hb) hn hns hl hlo).mono fun e w' h => ⟨says_is H1 h.1, h.2⟩
  have KT : Hid (∀ W B gg kg go ko, TwinAt W B c gg kg go ko → Below w.heap.size w W → Calls Tryd.prog 24 #[cirV c (some ⟨gg, 0, none⟩) kg (some ⟨go, 0, none⟩) ko, cirV c sg cg so co] W fun e w' => e = .returned (.bool true) ∧ Below W.heap.size W w') := fun W B gg kg go ko ht hb => kept_true c B gg kg go ko sg so cg co W ht (hc.below hb) hl hlo
  have TU : Hid (∀ W B gg kg go ko, TwinAt W B c gg kg go ko → Calls Tryd.prog 29 #[cirV c (some ⟨gg, 0, none⟩) kg (some ⟨go, 0, none⟩) ko] W fun e w' => ∃ sg3 kg3 so3 ko3, e = .returned (cirV c sg3 kg3 so3 ko3) ∧ TwinAt w' B c2 gg kg go ko ∧ CirAt w' c2 sg3 so3 ∧ W.grownBy w' (some gg)) := fun W B gg kg go ko ht => (turned_any c B gg kg go ko W ht hl hlo).mono fun e w' h => by
    obtain ⟨sg3, kg3, so3, ko3, he, h1, h2, h3, _⟩ := h
    rw [← hc2] at he h1 h2
    exact ⟨sg3, kg3, so3, ko3, by rw [he, V2], h1, h2, h3⟩
  have PR2 : Hid (∀ W B gg kg go ko, TwinAt W B c2 gg kg go ko → Below w.heap.size w W → Calls Tryd.prog 25 #[cirV c (some ⟨gg, 0, none⟩) kg (some ⟨go, 0, none⟩) ko] W fun e w' => e = .returned (.tuple #[str s2, .int .i64 e2]) ∧ Below W.heap.size W w') := fun W B gg kg go ko ht hb => by
    rw [← V2]
    exact print_any T hT c2 _ _ kg ko W ht.cir (hkd.on hb) (hkw.on hkd.pos hb) (ho1.on hb) (by rw [n2]; exact hn) hns2 (by omega) (by rw [u2]; exact hlo) s2 e2 P2
  have FO2 : Hid (∀ W B gg kg go ko, TwinAt W B c2 gg kg go ko → Below w.heap.size w W → Calls Tryd.prog 26 #[cirV c (some ⟨gg, 0, none⟩) kg (some ⟨go, 0, none⟩) ko] W fun e w' => e = .returned (.bool b2) ∧ Below W.heap.size W w') := fun W B gg kg go ko ht hb => by
    rw [← V2]
    exact (formed_gen c2 _ _ kg ko W ht.cir (hkd.on hb) (by rw [n2]; exact hn) hns2 (by omega) (by rw [u2]; exact hlo)).mono fun e w' h => ⟨says_is H2 h.1, h.2⟩
  have RP2 : Hid (∀ W sg3 so3 kg3 ko3, CirAt W c2 sg3 so3 → Below w.heap.size w W → Calls Tryd.prog 27 #[cirV c sg3 kg3 so3 ko3] W fun e w' => e = .returned (.tuple #[str s2, .int .i64 e2]) ∧ Below W.heap.size W w') := fun W sg3 so3 kg3 ko3 h hb => by
    rw [← V2]
    exact rprint_any T hT c2 _ _ kg3 ko3 W h (ho2.on hb) (by rw [n2]; exact hn) hns2 (by omega) (by rw [u2]; exact hlo) s2 e2 P2
  have RF2 : Hid (∀ W sg3 so3 kg3 ko3, CirAt W c2 sg3 so3 → Below w.heap.size w W → Calls Tryd.prog 28 #[cirV c sg3 kg3 so3 ko3] W fun e w' => e = .returned (.bool b2) ∧ Below W.heap.size W w') := fun W sg3 so3 kg3 ko3 h hb => by
    rw [← V2]
    exact (formed_any c2 _ _ kg3 ko3 W h (by rw [n2]; exact hn) hns2 (by omega) (by rw [u2]; exact hlo)).mono fun e w' h => ⟨says_is H2 h.1, h.2⟩
  have d0 := fun j => cell_row R0.out j
  have hb0 := (Array.getElem?_eq_some_iff.1 R0.out).1
  have HX0 := hid hx0
  clear hx0 hc hkd hkw ho1 ho2 hsg hso hn hns hl hlo hns2 V2 n2 g2 u2 hc2 P1 P2 H1 H2
  go_enter Tryd.func6, Tryd.ntmps6
  go_wp2_with (first
    | (rw [← HX0.out])
    | (have q := HX1; clear q; rw [← HX1.out]; clear HX1)
    | (have q := HX7; clear q; rw [← HX7.out]; clear HX7)
    | (have q := M10; clear q; go_at_call 28; refine Calls.mono (RF2.out w10 _ _ _ _ (CI7.out w10 B10.out) (BW7.out w10 B10.out)) ?_; rintro e w11 ⟨rfl, b11⟩; have B11 : Hid (Below x7.heap.size x7 w11) := (B10.out).trans (b11.mono (B10.out).size); obtain ⟨a11, e11, s11', t11⟩ := CE7.out w11 B11.out; have M11 := hid True.intro; clear b11)
    | (have q := M9; clear q; go_at_call 27; refine Calls.mono (RP2.out w9 _ _ _ _ (CI7.out w9 B9.out) (BW7.out w9 B9.out)) ?_; rintro e w10 ⟨rfl, b10⟩; have B10 : Hid (Below x7.heap.size x7 w10) := (B9.out).trans (b10.mono (B9.out).size); obtain ⟨a10, e10, s10', t10⟩ := CE7.out w10 B10.out; have M10 := hid True.intro; clear b10)
    | (have q := M8; clear q; go_at_call 26; refine Calls.mono (FO2.out w8 _ _ _ _ _ (TW7.out w8 B8.out) (BW7.out w8 B8.out)) ?_; rintro e w9 ⟨rfl, b9⟩; have B9 : Hid (Below x7.heap.size x7 w9) := (B8.out).trans (b9.mono (B8.out).size); obtain ⟨a9, e9, s9', t9⟩ := CE7.out w9 B9.out; have M9 := hid True.intro; clear b9)
    | (have q := M7; clear q; go_at_call 25; refine Calls.mono (PR2.out x7 _ _ _ _ _ (TW7.out x7 (Below.refl _ _)) (BW7.out x7 (Below.refl _ _))) ?_; rintro e w8 ⟨rfl, b8⟩; have B8 : Hid (Below x7.heap.size x7 w8) := b8; obtain ⟨a8, e8, s8', t8⟩ := CE7.out w8 B8.out; have M8 := hid True.intro; clear b8)
    | (have q := M6; clear q; go_at_call 29; refine Calls.mono (TU.out w6 _ _ _ _ _ (TWA.out w6 B6.out)) ?_; rintro e w7 ⟨sg3, kg3, so3, ko3, rfl, tw7, ci7, g7⟩; obtain ⟨x7, hx7⟩ : ∃ x, x = w7.alloc (Obj.cells (#[Value.string c.name, Value.slice sg3 c.gates.length kg3, Value.slice so3 c.outs.length ko3] : Array Value) 26) := ⟨_, rfl⟩; have HX7 := hid hx7; have R7 : Hid (x7.heap[w7.heap.size]? = some (.cells (#[Value.string c.name, Value.slice sg3 c.gates.length kg3, Value.slice so3 c.outs.length ko3] : Array Value) 26 (0, 0))) := (by rw [hx7]; exact heap_alloc_new w7 _); have B77 : Hid (Below w7.heap.size w7 x7) := (by rw [hx7]; exact (Below.refl _ _).alloc (Nat.le_refl _) _); have BW7 : Hid (∀ W, Below x7.heap.size x7 W → Below w.heap.size w W) := (fun W hW => by
        have h1 := (BW.out w6 B6.out).grown g7 (BW.out w6 B6.out).size (fun k hk => by obtain rfl := Option.some.inj hk; have h2 := TBL.out.1.1; have h3 := BX0.out.size; omega)
        exact h1.trans ((B77.out.trans (hW.mono B77.out.size)).mono h1.size)); have TW7 : Hid (∀ W, Below x7.heap.size x7 W → TwinAt W x0.heap.size c2 gg kg go ko) := (fun W hW => (tw7.below B77.out).below hW); have CI7 : Hid (∀ W, Below x7.heap.size x7 W → CirAt W c2 sg3 so3) := (fun W hW => (ci7.below B77.out).below hW); have CE7 : Hid (∀ W, Below x7.heap.size x7 W → (∀ j, W.cell? ⟨w1.heap.size, j, none⟩ = (#[Value.string c.name, Value.slice (some ⟨gg, 0, none⟩) c.gates.length kg, Value.slice (some ⟨go, 0, none⟩) c.outs.length ko] : Array Value)[j]?) ∧ (∀ j, W.cell? ⟨w7.heap.size, j, none⟩ = (#[Value.string c.name, Value.slice sg3 c.gates.length kg3, Value.slice so3 c.outs.length ko3] : Array Value)[j]?) ∧ w1.heap.size < W.heap.size ∧ w7.heap.size < W.heap.size) := (fun W hW => by
        have h1 := (CE.out w6 B6.out).2.2.2.2
        have h2 := (g7.block _ (Array.getElem?_eq_some_iff.1 h1).1 (fun e => by have := Option.some.inj e; have h9 := TBL.out.1.2; omega)).trans h1
        have h3 := (B77.out.block _ (Array.getElem?_eq_some_iff.1 h2).1).trans h2
        have h4 := (hW.block _ (Array.getElem?_eq_some_iff.1 h3).1).trans h3
        have h5 := (hW.block _ (Array.getElem?_eq_some_iff.1 R7.out).1).trans R7.out
        exact ⟨fun j => cell_row h4 j, fun j => cell_row h5 j, (Array.getElem?_eq_some_iff.1 h4).1, (Array.getElem?_eq_some_iff.1 h5).1⟩); clear a1 e1 s1' t1 a2 e2 s2' t2 a3 e3 s3' t3 a4 e4 s4' t4 a5 e5 s5' t5 a6 e6 s6' t6; obtain ⟨a7, e7, s7', t7⟩ := CE7.out x7 (Below.refl _ _); have M7 := hid True.intro; clear tw7 ci7 g7 hx7)
    | (have q := M5; clear q; go_at_call 24; refine Calls.mono (KT.out w5 _ _ _ _ _ (TWA.out w5 B5.out) (BW.out w5 B5.out)) ?_; rintro e w6 ⟨rfl, b6⟩; have B6 : Hid (Below x1.heap.size x1 w6) := (B5.out).trans (b6.mono (B5.out).size); obtain ⟨a6, e6, s6', t6, -⟩ := CE.out w6 B6.out; have M6 := hid True.intro; clear b6)
    | (have q := M4; clear q; go_at_call 28; refine Calls.mono (RF.out w4 (BW.out w4 B4.out)) ?_; rintro e w5 ⟨rfl, b5⟩; have B5 : Hid (Below x1.heap.size x1 w5) := (B4.out).trans (b5.mono (B4.out).size); obtain ⟨a5, e5, s5', t5, -⟩ := CE.out w5 B5.out; have M5 := hid True.intro; clear b5)
    | (have q := M3; clear q; go_at_call 27; refine Calls.mono (RP.out w3 (BW.out w3 B3.out)) ?_; rintro e w4 ⟨rfl, b4⟩; have B4 : Hid (Below x1.heap.size x1 w4) := (B3.out).trans (b4.mono (B3.out).size); obtain ⟨a4, e4, s4', t4, -⟩ := CE.out w4 B4.out; have M4 := hid True.intro; clear b4)
    | (have q := M2; clear q; go_at_call 26; refine Calls.mono (FO.out w2 _ _ _ _ _ (TWA.out w2 B2.out) (BW.out w2 B2.out)) ?_; rintro e w3 ⟨rfl, b3⟩; have B3 : Hid (Below x1.heap.size x1 w3) := (B2.out).trans (b3.mono (B2.out).size); obtain ⟨a3, e3, s3', t3, -⟩ := CE.out w3 B3.out; have M3 := hid True.intro; clear b3)
    | (have q := M1; clear q; go_at_call 25; refine Calls.mono (PR.out x1 _ _ _ _ _ (TWA.out x1 (Below.refl _ _)) (BW.out x1 (Below.refl _ _))) ?_; rintro e w2 ⟨rfl, b2⟩; have B2 : Hid (Below x1.heap.size x1 w2) := b2; obtain ⟨a2, e2, s2', t2, -⟩ := CE.out w2 B2.out; have M2 := hid True.intro; clear b2)
    | (go_at_call 20; refine Calls.mono TWN.out ?_; rintro e w1 ⟨gg, kg, go, ko, rfl, tw1, b1⟩; obtain ⟨x1, hx1⟩ : ∃ x, x = w1.alloc (Obj.cells (#[Value.string c.name, Value.slice (some ⟨gg, 0, none⟩) c.gates.length kg, Value.slice (some ⟨go, 0, none⟩) c.outs.length ko] : Array Value) 26) := ⟨_, rfl⟩; have HX1 := hid hx1; have R1 : Hid (x1.heap[w1.heap.size]? = some (.cells (#[Value.string c.name, Value.slice (some ⟨gg, 0, none⟩) c.gates.length kg, Value.slice (some ⟨go, 0, none⟩) c.outs.length ko] : Array Value) 26 (0, 0))) := (by rw [hx1]; exact heap_alloc_new w1 _); have BA1 : Hid (Below w1.heap.size w1 x1) := (by rw [hx1]; exact (Below.refl _ _).alloc (Nat.le_refl _) _); have BW : Hid (∀ W, Below x1.heap.size x1 W → Below w.heap.size w W) := (fun W hW => BX0.out.trans (((b1.trans (BA1.out.mono b1.size)).trans (hW.mono (Nat.le_trans b1.size BA1.out.size))).mono BX0.out.size)); have TWA : Hid (∀ W, Below x1.heap.size x1 W → TwinAt W x0.heap.size c gg kg go ko) := (fun W hW => (tw1.below BA1.out).below hW); have TBL := hid tw1.blocks; have CE : Hid (∀ W, Below x1.heap.size x1 W → (∀ j, W.cell? ⟨w.heap.size, j, none⟩ = (#[Value.string c.name, Value.slice sg c.gates.length cg, Value.slice so c.outs.length co] : Array Value)[j]?) ∧ (∀ j, W.cell? ⟨w1.heap.size, j, none⟩ = (#[Value.string c.name, Value.slice (some ⟨gg, 0, none⟩) c.gates.length kg, Value.slice (some ⟨go, 0, none⟩) c.outs.length ko] : Array Value)[j]?) ∧ w.heap.size < W.heap.size ∧ w1.heap.size < W.heap.size ∧ W.heap[w1.heap.size]? = some (.cells (#[Value.string c.name, Value.slice (some ⟨gg, 0, none⟩) c.gates.length kg, Value.slice (some ⟨go, 0, none⟩) c.outs.length ko] : Array Value) 26 (0, 0))) := (fun W hW => by
        have h2 := (hW.block _ (Array.getElem?_eq_some_iff.1 R1.out).1).trans R1.out
        have h3 := (b1.block _ (Array.getElem?_eq_some_iff.1 R0.out).1).trans R0.out
        have h4 := (BA1.out.block _ (Array.getElem?_eq_some_iff.1 h3).1).trans h3
        have h5 := (hW.block _ (Array.getElem?_eq_some_iff.1 h4).1).trans h4
        exact ⟨fun j => cell_row h5 j, fun j => cell_row h2 j, (Array.getElem?_eq_some_iff.1 h5).1, (Array.getElem?_eq_some_iff.1 h2).1, h2⟩); obtain ⟨a1, e1, s1', t1, -⟩ := CE.out x1 (Below.refl _ _); have M1 := hid True.intro; clear tw1 b1 hx1))
  go_ret
  exact ⟨by simp, BW7.out w11 B11.out⟩
end Go.Proofs.YtfmmmhcpdinhgaaDoor
/-
  The tables of words off what the row lists.
-/
namespace Go.Proofs.YtfmmmhcpdinhgaaDoor
open Go.ChangeShapes Go.WideShapes Go.ChangeAt Go.RowKit Go.Deep PureNet
set_option maxRecDepth 100000

theorem cells139 : Tryd.prog.cellsOf 139 = 16 := by kernel_rfl
def opsL : List (List UInt8) := [[122, 101, 114, 111], [110, 111, 114], [108, 101, 115, 115], [110, 111, 116, 97], [100, 105, 102, 102], [110, 111, 116, 98], [120, 111, 114], [110, 97, 110, 100], [97, 110, 100], [105, 102, 102], [98], [105, 109, 112], [97], [114, 101, 118], [111, 114], [111, 110, 101]]
/-- the operators' words. -/
def opT (k : Nat) : ByteArray := ⟨(opsL.getD k []).toArray⟩
theorem opT_le (k : Nat) : (bl (opT k)).length ≤ 16 := by
  show (opsL.getD k []).toArray.toList.length ≤ 16
  rw [List.getD_eq_getElem?_getD]
  cases h : opsL[k]? with
  | none => simp
  | some x =>
    have h2 : ∀ y ∈ opsL, y.length ≤ 16 := by decide
    simpa using h2 x (List.mem_of_getElem? h)

theorem kind_word {W : World} {fuel : Nat} {cs : List Value} {s : List UInt8} {a b : Int} {y : DataW Unit × List MemPlace} (h : DataW.trod (fun _ => ()) Tryd.prog W 0 (fun _ => true) false fuel 137 cs = some y) (hy : y.1 = .agg [.lit (.string s), .lit (.int .i64 a), .lit (.int .i64 b)]) :
    cs[0]? = some (str s) := by
  obtain ⟨xs, m, e1, e2, hl, hxs, hall⟩ := DataW.trod_struct Tryd.underlying137 h
  have hl3 : cs.length = 3 := by rw [hl]; exact cells137
  match cs, hl3 with
  | [v0, v1, v2], _ =>
  have f0 := hall 0 _ rfl
  simp [cells9] at f0
  have hx3 : xs.length = 3 := by simpa using hxs
  rw [List.getElem?_eq_getElem (by omega)] at f0
  obtain ⟨n1, g1, d1, _⟩ := DataW.trod_string Tryd.underlying9 f0
  rw [e2] at hy
  simp only [DataW.agg.injEq] at hy
  match xs, hx3 with
  | [x0, x1, x2], _ =>
  simp at hy d1 g1
  obtain ⟨hy0, _, _⟩ := hy
  rw [d1] at hy0
  simp at hy0
  rw [← hy0]
  simp [g1]

theorem kinds_of_one {W : World} {t : TypeId} {g f : Nat} {cs : Array Value} {p : List MemPlace} (hg0 : Tryd.prog.globalNamed "strata/circuit.kinds" = some g) (ht0 : (Tryd.prog.globals[g]?).map (·.type) = some t) (hv0 : W.var? Tryd.prog "strata/circuit.kinds" = some cs) (hd0 : DataW.trod (fun _ => ()) Tryd.prog W 0 (fun _ => true) false f t cs.toList = some (Rows.laid_strata_circuit_kinds, p)) : KindsAt W ∧ KwAt W := by
  have hg : Tryd.prog.globalNamed "strata/circuit.kinds" = some 0 := by kernel_rfl
  obtain rfl := Option.some.inj (hg.symm.trans hg0)
  have ht : (Tryd.prog.globals[0]?).map (·.type) = some 138 := by kernel_rfl
  obtain rfl := Option.some.inj (ht.symm.trans ht0)
  obtain ⟨xs, m, e1, e2, hcl, hxs, hall⟩ := DataW.trod_array Tryd.underlying138 hd0
  have hc : ∀ j, W.cell? ⟨0, j, none⟩ = cs.toList[j]? := fun j => by simpa using World.var?_cell hg0 hv0 j
  have hd := congrArg Prod.fst e2
  simp only [Rows.laid_strata_circuit_kinds, DataW.agg.injEq] at hd
  have hlen : cs.toList.length = 15 := by rw [hcl]; exact cells138
  match xs, hxs with
  | [x0, x1, x2, x3, x4], _ =>
  simp at hd
  obtain ⟨_, y1, y2, y3, y4⟩ := hd
  have t1 := hall 1 (by omega)
  have t2 := hall 2 (by omega)
  have t3 := hall 3 (by omega)
  have t4 := hall 4 (by omega)
  rw [cells137] at t1 t2 t3 t4
  obtain ⟨a1, b1⟩ := kind_cells t1 y1.symm
  obtain ⟨a2, b2⟩ := kind_cells t2 y2.symm
  obtain ⟨a3, b3⟩ := kind_cells t3 y3.symm
  obtain ⟨a4, b4⟩ := kind_cells t4 y4.symm
  have z1 := kind_word t1 y1.symm
  have z2 := kind_word t2 y2.symm
  have z3 := kind_word t3 y3.symm
  have z4 := kind_word t4 y4.symm
  simp only [List.getElem?_take, List.getElem?_drop] at a1 a2 a3 a4 b1 b2 b3 b4 z1 z2 z3 z4
  simp at a1 a2 a3 a4 b1 b2 b3 b4 z1 z2 z3 z4
  refine ⟨⟨?_, fun k h1 h4 => ?_, fun k h1 h4 => ?_⟩, ⟨fun k h1 h4 => ?_⟩⟩
  · have h5 : W.cell? ⟨0, 0, none⟩ = some (cs.toList[0]'(by omega)) := by rw [hc]; exact List.getElem?_eq_getElem _
    exact World.block_lt_of_cell? W _ h5
  · rw [hc]
    have : k = 1 ∨ k = 2 ∨ k = 3 ∨ k = 4 := by omega
    rcases this with rfl | rfl | rfl | rfl <;> simpa [mostN]
  · rw [hc]
    have : k = 1 ∨ k = 2 ∨ k = 3 ∨ k = 4 := by omega
    rcases this with rfl | rfl | rfl | rfl <;> simpa [usesN]
  · rw [hc]
    have : k = 1 ∨ k = 2 ∨ k = 3 ∨ k = 4 := by omega
    rcases this with rfl | rfl | rfl | rfl <;> simpa [kw]

theorem ops_of_one {W : World} {nm : String} {b f : Nat} {cs : Array Value} {p : List MemPlace} (hg0 : Tryd.prog.globalNamed nm = some b) (hv0 : W.var? Tryd.prog nm = some cs) (hd0 : DataW.trod (fun _ => ()) Tryd.prog W 0 (fun _ => true) false f 139 cs.toList = some (.agg (opsL.map fun s => .lit (.string s)), p)) : OpsAt W b opT := by
  obtain ⟨xs, m, e1, e2, hcl, hxs, hall⟩ := DataW.trod_array Tryd.underlying139 hd0
  have hc : ∀ j, W.cell? ⟨b, j, none⟩ = cs.toList[j]? := fun j => by simpa using World.var?_cell hg0 hv0 j
  have hd := congrArg Prod.fst e2
  simp only [DataW.agg.injEq] at hd
  have hlen : cs.toList.length = 16 := by rw [hcl]; exact cells139
  have hw : ∀ k : Nat, k < 16 → cs.toList[k]? = some (.string (opT k)) := fun k hk => by
    have tk := hall k hk
    rw [cells9] at tk
    have hk2 : k < xs.length := by omega
    rw [List.getElem?_eq_getElem hk2] at tk
    obtain ⟨s, g1, d1, _⟩ := DataW.trod_string Tryd.underlying9 tk
    have h0 := congrArg (fun l => l[0]?) g1
    simp only [List.getElem?_take, List.getElem?_drop] at h0
    simp at h0
    have h1 : (opsL.map fun s => (DataW.lit (Lit.string s) : DataW Unit))[k]? = (xs.map Prod.fst)[k]? := by rw [hd]
    have hk3 : k < opsL.length := by simpa [opsL] using hk
    simp [hk2, hk3, d1] at h1
    rw [List.getElem?_eq_getElem (by omega)]
    simp only [Array.getElem_toList]
    have h2 : opT k = s := by
      show (⟨(opsL.getD k []).toArray⟩ : ByteArray) = s
      rw [List.getD_eq_getElem?_getD, List.getElem?_eq_getElem hk3, Option.getD_some, h1]
    rw [h2]
    have h3 : cs[k]? = some (.string s) := by simpa using h0
    rw [Array.getElem?_eq_getElem (by have := hlen; simp at this; omega)] at h3
    exact h3
  refine ⟨?_, fun k hk => by rw [hc]; exact hw k hk⟩
  have h5 : W.cell? ⟨b, 0, none⟩ = some (.string (opT 0)) := by rw [hc]; exact hw 0 (by omega)
  exact World.block_lt_of_cell? W _ h5

theorem tables_of_laid {W : World} (h0 : laidMetH Tryd.prog Rows.circuitPrintsUptoRow.laid W) : KindsAt W ∧ KwAt W ∧ OpsAt W 1 opT ∧ OpsAt W 2 opT := by
  have h : laidMet Tryd.prog [("math/bits.deBruijn32tab", Rows.laid_math_bits_deBruijn32tab), ("math/bits.deBruijn64tab", Rows.laid_math_bits_deBruijn64tab), ("internal/strconv.uint64pow10", Rows.laid_internal_strconv_uint64pow10), ("strata/strataref14.words", Rows.laid_strata_strataref14_words), ("strata/circuit.kinds", Rows.laid_strata_circuit_kinds), ("strata/circuit.operators", Rows.laid_strata_circuit_operators)] W := h0
  obtain ⟨ps, hl, _⟩ := h
  obtain ⟨_, _, _, _, _, _, _, _, _, _, h2, _⟩ := hl
  obtain ⟨_, _, _, _, _, _, _, _, _, _, h3, _⟩ := h2
  obtain ⟨_, _, _, _, _, _, _, _, _, _, h4, _⟩ := h3
  obtain ⟨g4, t4, c4, f4, p4, q4, hg4, ht4, hv4, hd4, h5, _⟩ := h4
  obtain ⟨g5, t5, c5, f5, p5, q5, hg5, ht5, hv5, hd5, h6, _⟩ := h5
  obtain ⟨g6, t6, c6, f6, p6, q6, hg6, ht6, hv6, hd6, _, _⟩ := h6
  obtain ⟨k1, k2⟩ := kinds_of_one hg5 ht5 hv5 hd5
  obtain rfl : 2 = g4 := Option.some.inj ((show Tryd.prog.globalNamed "strata/strataref14.words" = some 2 by kernel_rfl).symm.trans hg4)
  obtain rfl : 139 = t4 := Option.some.inj ((show (Tryd.prog.globals[2]?).map (·.type) = some 139 by kernel_rfl).symm.trans ht4)
  obtain rfl : 1 = g6 := Option.some.inj ((show Tryd.prog.globalNamed "strata/circuit.operators" = some 1 by kernel_rfl).symm.trans hg6)
  obtain rfl : 139 = t6 := Option.some.inj ((show (Tryd.prog.globals[1]?).map (·.type) = some 139 by kernel_rfl).symm.trans ht6)
  exact ⟨k1, k2, ops_of_one hg6 hv6 hd6, ops_of_one hg4 hv4 hd4⟩
end Go.Proofs.YtfmmmhcpdinhgaaDoor
/-
  CircuitPrints: the row and its card (second form).
-/
namespace Go.Proofs.YtfmmmhcpdinhgaaDoor
open Go.ChangeShapes Go.WideShapes Go.ChangeAt Go.RowKit Go.Deep PureNet
set_option maxRecDepth 100000

set_option maxRecDepth 100000 in
theorem prints_contract (H : Type) (enc : TypeId × Value → H) (W : World) (base : Nat) (args : Array Value) (ds gs : List (DataW H)) (before : List MemPlace)
    (hval : ∀ (j : Nat) t v, Tryd.f6.params[j]? = some t → args[j]? = some v → Value.okWide Tryd.prog W .any base t v)
    (hW : DataW.Whole enc Tryd.prog Tryd.f6.params.toList Rows.circuitPrintsSpec.vars false W args.toList ds gs before)
    (hk : Rows.uptoSmall H (ds ++ gs) = true) (hLaid : laidMetH Tryd.prog Rows.circuitPrintsUptoRow.laid W) :
    Calls Tryd.prog 6 args W fun e W' => ∃ v, e = .returned v ∧ Rows.circuitPrintsSpec.post enc Tryd.prog Tryd.f6 false true false false W args v W' := by
  have hW' := hW
  obtain ⟨p, q, hA0, hV, rfl, hfz, hnd⟩ := hW
  have hA : DataW.TrodAll enc Tryd.prog W 0 (fun _ => true) true Tryd.f6.params.toList args.toList ds p := hA0
  rw [Tryd.params6] at hA hval
  obtain ⟨v0, vs0, d0, ds0, p0, q0, hargs0, rfl, rfl, h0, r0⟩ := trodAll_cons hA
  obtain ⟨rfl, rfl, rfl⟩ := trodAll_nil r0
  obtain rfl : args = #[v0] := by cases args; simp_all
  obtain ⟨rfl, rfl⟩ := trodVars_none hV
  have hb := of_decide_eq_true hk
  simp only [List.append_nil, Rows.uptoBulkAll] at hb
  clear hA0
  simp only [List.append_nil] at hW'
  have hlt0 : ∀ x ∈ p0, x.block < W.heap.size := fun x hx => by simpa using hW'.lt x (by simp [hx])
  obtain ⟨c, sg, so, cg, co, rfl, hci, hng, hno, hcn, hcg, hgl, hol⟩ := open_cir (hval 0 26 v0 rfl rfl) h0 (by omega)
  obtain ⟨tb1, tb2, tb3, tb4⟩ := tables_of_laid hLaid
  refine (prints_law opT opT_le c sg so cg co W hci tb1 tb2 tb3 tb4 hng hno (by omega) (fun g hg => by have := hcg g hg; omega) (by omega) (by omega)).mono fun e W' ⟨he, hnx⟩ => ?_
  subst he
  refine ⟨_, rfl, _, _, _, [], _, [], hW', ?_, trodAll_mk1 (Below.trod laidOut (by kernel_rfl) (of_decide_eq_true (by kernel_rfl)) h0 hnx hlt0), rfl, hnx.frame _, fun h => by cases h⟩
  exact trodAll_mk1 (shut_bool Tryd.underlying4 _)

set_option maxRecDepth 100000 in
theorem prints_lifted (os : Os) (started : os.Started) (H : Type) (enc : TypeId × Value → H) (F : Stop.Interp) :
    ReturnsInHanded {} Tryd.checked os 6 .any ((Rows.OpenSpec.upto Rows.circuitPrintsSpec).preRow enc Tryd.prog Tryd.f6 Rows.circuitPrintsUptoRow.domain false Rows.circuitPrintsUptoRow.laid) (((Rows.OpenSpec.upto Rows.circuitPrintsSpec).at F).post enc Tryd.prog Tryd.f6 false true false false) := by
  obtain ⟨lw, hlw⟩ : ∃ lw : World, lw = (fun w0 : World => { w0 with heap := ((((((w0.heap.modify 0 fun
      | .cells _ t frozen => .cells #[.string ⟨#[]⟩, .int .i64 0, .int .i64 0, .string ⟨#[105, 110, 112, 117, 116]⟩, .int .i64 0, .int .i64 0, .string ⟨#[103, 97, 116, 101]⟩, .int .i64 15, .int .i64 2, .string ⟨#[108, 97, 116, 99, 104]⟩, .int .i64 1, .int .i64 1, .string ⟨#[109, 117, 120]⟩, .int .i64 0, .int .i64 3] t frozen
      | o => o).modify 1 fun
      | .cells _ t frozen => .cells #[.string ⟨#[122, 101, 114, 111]⟩, .string ⟨#[110, 111, 114]⟩, .string ⟨#[108, 101, 115, 115]⟩, .string ⟨#[110, 111, 116, 97]⟩, .string ⟨#[100, 105, 102, 102]⟩, .string ⟨#[110, 111, 116, 98]⟩, .string ⟨#[120, 111, 114]⟩, .string ⟨#[110, 97, 110, 100]⟩, .string ⟨#[97, 110, 100]⟩, .string ⟨#[105, 102, 102]⟩, .string ⟨#[98]⟩, .string ⟨#[105, 109, 112]⟩, .string ⟨#[97]⟩, .string ⟨#[114, 101, 118]⟩, .string ⟨#[111, 114]⟩, .string ⟨#[111, 110, 101]⟩] t frozen
      | o => o).modify 2 fun
      | .cells _ t frozen => .cells #[.string ⟨#[122, 101, 114, 111]⟩, .string ⟨#[110, 111, 114]⟩, .string ⟨#[108, 101, 115, 115]⟩, .string ⟨#[110, 111, 116, 97]⟩, .string ⟨#[100, 105, 102, 102]⟩, .string ⟨#[110, 111, 116, 98]⟩, .string ⟨#[120, 111, 114]⟩, .string ⟨#[110, 97, 110, 100]⟩, .string ⟨#[97, 110, 100]⟩, .string ⟨#[105, 102, 102]⟩, .string ⟨#[98]⟩, .string ⟨#[105, 109, 112]⟩, .string ⟨#[97]⟩, .string ⟨#[114, 101, 118]⟩, .string ⟨#[111, 114]⟩, .string ⟨#[111, 110, 101]⟩] t frozen
      | o => o).modify 3 fun
      | .cells _ t frozen => .cells #[.int .u64 1, .int .u64 10, .int .u64 100, .int .u64 1000, .int .u64 10000, .int .u64 100000, .int .u64 1000000, .int .u64 10000000, .int .u64 100000000, .int .u64 1000000000, .int .u64 10000000000, .int .u64 100000000000, .int .u64 1000000000000, .int .u64 10000000000000, .int .u64 100000000000000, .int .u64 1000000000000000, .int .u64 10000000000000000, .int .u64 100000000000000000, .int .u64 1000000000000000000, .int .u64 10000000000000000000] t frozen
      | o => o).modify 4 fun
      | .cells _ t frozen => .cells #[.int .u8 0, .int .u8 1, .int .u8 28, .int .u8 2, .int .u8 29, .int .u8 14, .int .u8 24, .int .u8 3, .int .u8 30, .int .u8 22, .int .u8 20, .int .u8 15, .int .u8 25, .int .u8 17, .int .u8 4, .int .u8 8, .int .u8 31, .int .u8 27, .int .u8 13, .int .u8 23, .int .u8 21, .int .u8 19, .int .u8 16, .int .u8 7, .int .u8 26, .int .u8 12, .int .u8 18, .int .u8 6, .int .u8 11, .int .u8 5, .int .u8 10, .int .u8 9] t frozen
      | o => o).modify 5 fun
      | .cells _ t frozen => .cells #[.int .u8 0, .int .u8 1, .int .u8 56, .int .u8 2, .int .u8 57, .int .u8 49, .int .u8 28, .int .u8 3, .int .u8 61, .int .u8 58, .int .u8 42, .int .u8 50, .int .u8 38, .int .u8 29, .int .u8 17, .int .u8 4, .int .u8 62, .int .u8 47, .int .u8 59, .int .u8 36, .int .u8 45, .int .u8 43, .int .u8 51, .int .u8 22, .int .u8 53, .int .u8 39, .int .u8 33, .int .u8 30, .int .u8 24, .int .u8 18, .int .u8 12, .int .u8 5, .int .u8 63, .int .u8 55, .int .u8 48, .int .u8 27, .int .u8 60, .int .u8 41, .int .u8 37, .int .u8 16, .int .u8 46, .int .u8 35, .int .u8 44, .int .u8 21, .int .u8 52, .int .u8 32, .int .u8 23, .int .u8 11, .int .u8 54, .int .u8 26, .int .u8 40, .int .u8 15, .int .u8 34, .int .u8 20, .int .u8 31, .int .u8 10, .int .u8 25, .int .u8 14, .int .u8 19, .int .u8 9, .int .u8 13, .int .u8 8, .int .u8 7, .int .u8 6] t frozen
      | o => o) }) (World.holding Tryd.prog os ⟨#[], #[], []⟩) := ⟨_, rfl⟩
  have hos : lw.os = os := by rw [hlw]; rfl
  have hv : (lw.forCall (fun _ _ => 0) ⟨#[], #[.agg #[.string ⟨#[]⟩, .slice none 0 0, .slice none 0 0]], []⟩).variablesRefB Tryd.checked.prog = true := by rw [hlw]; kernel_rfl
  have hr : ((lw.forCall (fun _ _ => 0) ⟨#[], #[.agg #[.string ⟨#[]⟩, .slice none 0 0, .slice none 0 0]], []⟩).heap.toList.drop Tryd.checked.prog.globals.size).take ((begin Tryd.checked.prog (fun _ _ => 0) default).world.heap.size - Tryd.checked.prog.globals.size) = (begin Tryd.checked.prog (fun _ _ => 0) default).world.heap.toList.drop Tryd.checked.prog.globals.size := by rw [hlw]; kernel_rfl
  have hok : Input.okWideB Tryd.checked.prog (lw.forCall (fun _ _ => 0) ⟨#[], #[.agg #[.string ⟨#[]⟩, .slice none 0 0, .slice none 0 0]], []⟩) 6 ⟨#[], #[.agg #[.string ⟨#[]⟩, .slice none 0 0, .slice none 0 0]], []⟩ = true := by rw [hlw]; kernel_rfl
  have hx : DataW.whole enc Tryd.prog (lw.forCall (fun _ _ => 0) ⟨#[], #[.agg #[.string ⟨#[]⟩, .slice none 0 0, .slice none 0 0]], []⟩).memory Tryd.f6.params.toList Rows.circuitPrintsSpec.vars false (#[.agg #[.string ⟨#[]⟩, .slice none 0 0, .slice none 0 0]] : Array Value).toList 8 = some ([.agg [.lit (.string []), .nil, .nil]], [], []) := by rw [hlw]; kernel_rfl
  have hlm : laidMet Tryd.prog Rows.circuitPrintsUptoRow.laid (lw.forCall (fun _ _ => 0) ⟨#[], #[.agg #[.string ⟨#[]⟩, .slice none 0 0, .slice none 0 0]], []⟩).memory := by rw [hlw]; exact laidMet_of_run' 8 (by kernel_rfl) (by kernel_rfl)
  clear hlw
  refine returnsInHanded_of_row (C := Tryd.checked) (s := Rows.OpenSpec.upto Rows.circuitPrintsSpec) own started (by kernel_rfl) Tryd.func6
    (witness_row_atRef (enc := enc) (C := Tryd.checked) false lw #[.agg #[.string ⟨#[]⟩, .slice none 0 0, .slice none 0 0]] hos hv hr hok
      (OpenSpec.preRow_of_cond 8 hx (by kernel_rfl) (fun k hk => by cases hk; kernel_rfl) (by kernel_rfl) hlm)) ?_
  intro W base args ds gs before hval hW _ hcond _ hL _ _
  exact prints_contract H enc W base args ds gs before hval hW (hcond _ rfl) hL

theorem circuitPrints_said : Rows.CircuitPrintsUptoSaid :=
  OpenClaim.holds_of_cond 6 Tryd.f6 rfl rfl rfl rfl rfl rfl rfl ⟨rfl, rfl, rfl, rfl, rfl⟩ rfl rfl rfl rfl rfl (by kernel_rfl) Tryd.func6 (by kernel_rfl)
    (of_decide_eq_true (by kernel_rfl)) (by unfold Func.isWrapper; first | (rw [if_pos (by decide +kernel)]; kernel_rfl) | (rw [if_neg (by decide +kernel)]; exact ⟨rfl, rfl⟩))
    (fun os started H enc _ F => by rw [OpenClaim.pre_eq_preRow]; exact prints_lifted os started H enc F)

/-- no parameter wants a stand-in. -/
theorem circuitPrints_plain (f : FuncId) (fn : Func) (hf : Tryd.pinned.checked.prog.funcNamed "strata/stratalaw14.CircuitPrints" = some f) (hfn : Tryd.pinned.checked.prog.funcs[f]? = some fn) :
    false = Tryd.pinned.checked.prog.looks [] ∧ ∀ (j : Nat) t, fn.params[j]? = some t → Tryd.pinned.checked.prog.wantsStandIn t = false := by
  obtain rfl : f = 6 := Option.some.inj ((show Tryd.prog.funcNamed "strata/stratalaw14.CircuitPrints" = some 6 by kernel_rfl).symm.trans hf) |>.symm
  obtain rfl : fn = Tryd.f6 := (Option.some.inj (Tryd.func6.symm.trans hfn)).symm
  refine ⟨by kernel_rfl, fun j t ht => ?_⟩
  rw [Tryd.params6] at ht
  have hm : t = 26 := by
    have := Array.mem_of_getElem? ht
    simpa using this
  subst hm
  exact (show Tryd.prog.wantsStandIn 26 = false by kernel_rfl)

theorem circuitPrints_holds : Rows.CircuitPrintsUptoCardSaid :=
  Claim7.holds_tied_plain_at .later [] _ _ _ _ circuitPrints_said (fun _ h => by cases h) (by kernel_rfl) (fun _ h => by cases h) circuitPrintsUpto_row_tie rfl ⟨rfl, rfl⟩ (by kernel_rfl) rfl circuitPrints_plain (by kernel_rfl)
#print axioms circuitPrints_holds
end Go.Proofs.YtfmmmhcpdinhgaaDoor
