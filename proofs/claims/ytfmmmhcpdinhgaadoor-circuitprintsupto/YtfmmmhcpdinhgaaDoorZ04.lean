import Derived.Test.YtfmmmhcpdinhgaaDoorZ03
/-
  A circuit's text; the landed write.
-/
namespace Go.Proofs.YtfmmmhcpdinhgaaDoor
open Go.RowKit Go.Deep PureNet
set_option maxRecDepth 100000

def lineT (T : Nat → ByteArray) (c : Net) (g : Ga) : List UInt8 := bl (wordsT T c g) ++ [10]
def outT (c : Net) (k : Int) : List UInt8 := [111, 117, 116, 112, 117, 116, 32] ++ bl (nmAt c k) ++ [10]
def headT (c : Net) : List UInt8 := [99, 105, 114, 99, 117, 105, 116, 32] ++ bl c.name ++ [10]
/-- a circuit's text. -/
def textT (T : Nat → ByteArray) (c : Net) : List UInt8 := headT c ++ c.gates.flatMap (lineT T c) ++ c.outs.flatMap (outT c) ++ [101, 110, 100, 10]
/-- its front: the first i lines. -/
def upG (T : Nat → ByteArray) (c : Net) (i : Nat) : List UInt8 := headT c ++ (c.gates.take i).flatMap (lineT T c)
/-- all lines, and the first i outputs. -/
def upO (T : Nat → ByteArray) (c : Net) (i : Nat) : List UInt8 := headT c ++ c.gates.flatMap (lineT T c) ++ (c.outs.take i).flatMap (outT c)
theorem upG_zero (T : Nat → ByteArray) (c : Net) : upG T c 0 = headT c := by simp [upG]
theorem upG_step (T : Nat → ByteArray) (c : Net) (i : Nat) (g : Ga) (h : c.gates[i]? = some g) : upG T c (i + 1) = upG T c i ++ bl (wordsT T c g) ++ [10] := by
  unfold upG
  rw [List.take_add_one, h]
  simp [lineT]
theorem upG_full (T : Nat → ByteArray) (c : Net) : upG T c c.gates.length = upO T c 0 := by simp [upG, upO]
theorem upO_step (T : Nat → ByteArray) (c : Net) (i : Nat) (k : Int) (h : c.outs[i]? = some k) : upO T c (i + 1) = upO T c i ++ ([111, 117, 116, 112, 117, 116, 32] ++ bl (nmAt c k)) ++ [10] := by
  unfold upO
  rw [List.take_add_one, h]
  simp [outT]
theorem upO_full (T : Nat → ByteArray) (c : Net) : upO T c c.outs.length ++ [101, 110, 100, 10] = textT T c := by simp [upO, textT]
theorem upO_le (T : Nat → ByteArray) (c : Net) (i : Nat) : (upO T c i).length + 4 ≤ (textT T c).length := by
  have h : textT T c = upO T c i ++ ((c.outs.drop i).flatMap (outT c) ++ [101, 110, 100, 10]) := by
    have e : c.outs.flatMap (outT c) = (c.outs.take i).flatMap (outT c) ++ (c.outs.drop i).flatMap (outT c) := by
      rw [← List.flatMap_append, List.take_append_drop]
    unfold textT upO
    rw [e]
    simp
  rw [h]
  simp
theorem upG_le (T : Nat → ByteArray) (c : Net) (i : Nat) : (upG T c i).length + 4 ≤ (textT T c).length := by
  have h : upO T c 0 = upG T c i ++ ((c.gates.drop i).flatMap (lineT T c)) := by
    have e : c.gates.flatMap (lineT T c) = (c.gates.take i).flatMap (lineT T c) ++ (c.gates.drop i).flatMap (lineT T c) := by
      rw [← List.flatMap_append, List.take_append_drop]
    unfold upO upG
    rw [e]
    simp
  have h2 := upO_le T c 0
  rw [h, List.length_append] at h2
  omega

theorem wr_kept {B b : Nat} {T : List UInt8} {w W : World} (h : IsWr B b T w) (hb : Below w.heap.size w W) : IsWr B b T W := by
  have one : ∀ p, Wr B b p T w → Wr B b p T W := by
    rintro p ⟨hB, v, hbk, ho, hne⟩
    refine ⟨hB, v, (hb.block b (Array.getElem?_eq_some_iff.1 hbk).1).trans hbk, ⟨ho.1, ?_⟩, hne⟩
    rcases ho.2 with hn | ⟨g, cap, cur, fz, hv, h1, h2, h3⟩
    · exact .inl hn
    · exact .inr ⟨g, cap, cur, fz, hv, h1, (hb.block g (Array.getElem?_eq_some_iff.1 h2).1).trans h2, h3⟩
  exact h.elim (fun x => .inl (one _ x)) (fun x => .inr (one _ x))
theorem wr_lt {B b : Nat} {T : List UInt8} {w : World} (h : IsWr B b T w) : b < w.heap.size := by
  rcases h with h | h
  · exact h.lt
  · exact h.lt

theorem words_new (W : World) (ws : List (List UInt8)) (cs : Array Value) (h : cs = (wc ws).toArray) : WordsAt (W.alloc (.cells cs 9)) W.heap.size ws := by
  subst h
  exact ⟨_, _, heap_alloc_new W _, fun j x hx => by simp [wc, hx]⟩
theorem box_kept {W W' : World} {B b : Nat} {cs : Array Value} {fz : Nat × Nat} (hk : Lib.OthersKept 5 (some b) W W') (h : W.heap[B]? = some (.cells cs 26 fz)) (hb : B ≠ b) : W'.heap[B]? = some (.cells cs 26 fz) :=
  hk B _ h (fun e => hb (Option.some.inj e)) (fun _ _ e => by cases e)

theorem lineW_len (T : Nat → ByteArray) (c : Net) (g : Ga) : (lineW T c g).length ≤ 6 ∧ lineW T c g ≠ [] := by
  unfold lineW frontW usedL
  constructor
  · (repeat' split) <;> simp
  · simp

/-- the words of any line. -/
theorem line_any (T : Nat → ByteArray) (c : Net) (sg so : Option Addr) (cg co : Nat) (g : Ga) (w : World) (hc : CirAt w c sg so) (hK : KindsAt w) (hW : KwAt w) (ht : OpsAt w 1 T) (hl : lineB g c.gates.length = true) :
    Calls Tryd.prog 76 #[cirV c sg cg so co, .agg #[.int .i64 g.kind, .string g.name, .int .i64 g.op, .int .i64 g.a, .int .i64 g.b, .int .i64 g.c]] w fun e w' => ∃ b cap, e = .returned (.slice (some ⟨b, 0, none⟩) (lineW T c g).length cap) ∧ w.heap.size ≤ b ∧ WordsAt w' b (lineW T c g) ∧ Below w.heap.size w w' := by
  obtain ⟨kd, nm, op, ga, gb, gc⟩ := g
  unfold lineB at hl
  simp only [Bool.and_eq_true, decide_eq_true_eq] at hl
  obtain ⟨⟨⟨⟨k1, k4, o0, o1⟩, fa⟩, fb⟩, fc⟩ := hl
  dsimp only at k1 k4 o0 o1 fa fb fc ⊢
  rcases (by omega : kd = 1 ∨ kd = 2 ∨ kd = 3 ∨ kd = 4) with rfl | rfl | rfl | rfl
  · exact line_1 T c sg so cg co nm op ga gb gc w hc hK hW ht
  · simp [mostOp, fieldB] at o1 fa fb fc
    exact line_2 T c sg so cg co nm op ga gb gc w hc hK hW ht ⟨o0, by omega⟩ fa fb
  · simp [mostOp, fieldB] at o1 fa fb fc
    exact line_3 T c sg so cg co nm op ga gb gc w hc hK hW ht (by omega) fa
  · simp [mostOp, fieldB] at o1 fa fb fc
    exact line_4 T c sg so cg co nm op ga gb gc w hc hK hW ht fa fb fc

set_option maxHeartbeats 4000000 in
theorem write_text (T : Nat → ByteArray) (c : Net) (sg so : Option Addr) (cg co : Nat) (w : World) (hc : CirAt w c sg so) (hK : KindsAt w) (hW : KwAt w) (ht : OpsAt w 1 T) (hl : ∀ (i : Nat) (g : Ga), c.gates[i]? = some g → lineB g c.gates.length = true) (ho : ∀ k ∈ c.outs, 0 ≤ k ∧ k < (c.gates.length : Int))
    (hng : c.gates.length ≤ 1099511627776) (hno : c.outs.length ≤ 1099511627776) (hlen : (textT T c).length ≤ 140737488355328) :
    Calls Tryd.prog 49 #[cirV c sg cg so co] w fun e w' => e = .returned (str (textT T c)) ∧ Below w.heap.size w w' := by
  obtain ⟨B, hBw⟩ : ∃ B, B = w.heap.size := ⟨_, rfl⟩
  have HBW := hid hBw
  have hp : 0 < B := by rw [hBw]; exact hK.pos
  have PUT : Hid (∀ (X : List UInt8) (ws : List (List UInt8)) (g cap : Nat) (W : World), IsWr B (B + 1) X W → WordsAt W g ws → g ≠ B + 1 → ws ≠ [] → ws.length ≤ 1099511627776 → X.length + (sepT ws).length + 1 ≤ 140737488355328 → B ≤ W.heap.size → Calls Tryd.prog 75 #[.pointer (some ⟨B + 1, 0, none⟩), .slice (some ⟨g, 0, none⟩) ws.length cap] W fun e w' => (∃ y, e = .returned y) ∧ IsWr B (B + 1) (X ++ sepT ws ++ [10]) w' ∧ Below B W w' ∧ Lib.OthersKept 5 (some (B + 1)) W w') := fun X ws g cap W a1 a2 a3 a4 a5 a6 a7 => put_any B (B + 1) g cap X ws W a1 a2 a3 a4 a5 a6 a7
  have LIN : Hid (∀ (W : World) (g : Ga), Below B w W → lineB g c.gates.length = true → Calls Tryd.prog 76 #[cirV c sg cg so co, .agg #[.int .i64 g.kind, .string g.name, .int .i64 g.op, .int .i64 g.a, .int .i64 g.b, .int .i64 g.c]] W fun e w' => ∃ b cap, e = .returned (.slice (some ⟨b, 0, none⟩) (lineW T c g).length cap) ∧ W.heap.size ≤ b ∧ WordsAt w' b (lineW T c g) ∧ Below W.heap.size W w') := fun W g hb h => by
    rw [hBw] at hb
    exact line_any T c sg so cg co g W (hc.below hb) (hK.on hb) (hW.on hK.pos hb) (ht.on hb) h
  have CW : Hid (∀ W, Below B w W → CirAt W c sg so) := fun W hb => by rw [hBw] at hb; exact hc.below hb
  have HLB := hid hl
  have HOB := hid ho
  have HLEN := hid hlen
  obtain ⟨x, hx⟩ : ∃ x, x = (w.alloc (Obj.cells (#[Value.string c.name, Value.slice sg c.gates.length cg, Value.slice so c.outs.length co] : Array Value) 26)).alloc (Obj.cells (#[Value.pointer none, Value.slice none 0 0] : Array Value) 106) := ⟨_, rfl⟩
  have s1 : (w.alloc (Obj.cells (#[Value.string c.name, Value.slice sg c.gates.length cg, Value.slice so c.outs.length co] : Array Value) 26)).heap.size = B + 1 := by simp [hBw]
  have sx : x.heap.size = B + 2 := by rw [hx, hBw]; simp
  have R1 : x.heap[B]? = some (.cells (#[Value.string c.name, Value.slice sg c.gates.length cg, Value.slice so c.outs.length co] : Array Value) 26 (0, 0)) := by rw [hx, Below.heap_alloc _ _ _ (by omega), hBw]; exact heap_alloc_new w _
  have R2 : x.heap[B + 1]? = some (.cells (#[Value.pointer none, Value.slice none 0 0] : Array Value) 106 (0, 0)) := by rw [hx, ← s1]; exact heap_alloc_new _ _
  have BX : Below B w x := by rw [hx]; exact ((Below.refl _ _).alloc (by omega) _).alloc (by omega) _
  have W0 : Hid (IsWr B (B + 1) [] x ∧ x.heap[B]? = some (.cells (#[Value.string c.name, Value.slice sg c.gates.length cg, Value.slice so c.outs.length co] : Array Value) 26 (0, 0)) ∧ Below B w x) := ⟨.inl ⟨by omega, .slice none 0 0, R2, World.ownsRowF_nil _ _ _ _, by simp [Value.ownBlock]⟩, R1, BX⟩
  have q1 := fun j => cell_row R1 j
  have l1 := (Array.getElem?_eq_some_iff.1 R1).1
  have HX := hid hx
  have SX := hid sx
  clear hx hK hc hW ht R1 R2 s1 sx hl ho hlen BX
  subst hBw
  have HC1 := hid (PUT.out [] [[99, 105, 114, 99, 117, 105, 116], bl c.name] x.heap.size 2 (x.alloc (.cells #[.string ⟨#[99, 105, 114, 99, 117, 105, 116]⟩, .string c.name] 9)) (W0.out.1.alloc _) (words_new x _ _ rfl) (by have := SX.out; omega) (by simp) (by simp) (by have h := upG_le T c 0; have h2 := HLEN.out; rw [upG_zero] at h; simp [headT, sepT] at h ⊢; omega) (by have := SX.out; simp; omega))
  have FY : Hid (∀ y, IsWr w.heap.size (w.heap.size + 1) ([] ++ sepT [[99, 105, 114, 99, 117, 105, 116], bl c.name] ++ [10]) y → Below w.heap.size (x.alloc (.cells #[.string ⟨#[99, 105, 114, 99, 117, 105, 116]⟩, .string c.name] 9)) y → Lib.OthersKept 5 (some (w.heap.size + 1)) (x.alloc (.cells #[.string ⟨#[99, 105, 114, 99, 117, 105, 116]⟩, .string c.name] 9)) y → IsWr w.heap.size (w.heap.size + 1) (upG T c 0) y ∧ y.heap[w.heap.size]? = some (.cells (#[Value.string c.name, Value.slice sg c.gates.length cg, Value.slice so c.outs.length co] : Array Value) 26 (0, 0)) ∧ Below w.heap.size w y) := fun y k1 k2 k3 => by
    refine ⟨?_, box_kept k3 ((Below.heap_alloc _ _ _ (by have := SX.out; omega)).trans W0.out.2.1) (by omega), (W0.out.2.2.alloc (by have := SX.out; omega) _).trans k2⟩
    rw [upG_zero]
    simpa [headT, sepT] using k1
  go_enter Tryd.func49, Tryd.ntmps49
  go_wp2_with (rw [← HX.out])
  go_wp2_with (go_at_call 75; refine HC1.out.mono ?_; rintro e y ⟨⟨yy, rfl⟩, k1, k2, k3⟩; have Y0 := hid (FY.out y k1 k2 k3); clear k1 k2 k3 q1 l1 HC1 W0 FY; have q1 := fun j => cell_row Y0.out.2.1 j; have l1 := (Array.getElem?_eq_some_iff.1 Y0.out.2.1).1)
  clear q1 l1
  go_loopw [15] (fun iv W => ∃ i : Nat, i ≤ c.gates.length ∧ iv = .int .i64 (i : Int) ∧ Hid (IsWr w.heap.size (w.heap.size + 1) (upG T c i) W ∧ W.heap[w.heap.size]? = some (.cells (#[Value.string c.name, Value.slice sg c.gates.length cg, Value.slice so c.outs.length co] : Array Value) 26 (0, 0)) ∧ Below w.heap.size w W)) (fun iv _ => c.gates.length - (intOf iv).toNat)
  case atStart => exact ⟨0, Nat.zero_le _, rfl, Y0.out⟩
  case round =>
    obtain ⟨i, hi, rfl, HR⟩ := hrel
    clear Y0
    have q1 := fun j => cell_row HR.out.2.1 j
    have l1 := (Array.getElem?_eq_some_iff.1 HR.out.2.1).1
    by_cases hlt : i < c.gates.length
    · obtain ⟨g, hg⟩ : ∃ g, c.gates[i]? = some g := ⟨_, List.getElem?_eq_getElem hlt⟩
      obtain ⟨gb, go, rfl, hgb, g0, g1, g2, g3, g4, g5⟩ := gate_at (CW.out wr HR.out.2.2).gates i g hg
      have HG := hid hg
      clear hg
      obtain ⟨wb, hwb⟩ : ∃ wb, wb = wr.alloc (.cells #[.int .i64 g.kind, .string g.name, .int .i64 g.op, .int .i64 g.a, .int .i64 g.b, .int .i64 g.c] 38) := ⟨_, rfl⟩
      have sb : Hid (wb.heap.size = wr.heap.size + 1) := by show _ = _; rw [hwb]; simp
      have hbw : Hid (Below wr.heap.size wr wb) := by rw [hwb]; exact (Below.refl _ _).alloc (Nat.le_refl _) _
      have HRB : Hid (IsWr w.heap.size (w.heap.size + 1) (upG T c i) wb ∧ wb.heap[w.heap.size]? = some (.cells (#[Value.string c.name, Value.slice (some ⟨gb, go, none⟩) c.gates.length cg, Value.slice so c.outs.length co] : Array Value) 26 (0, 0)) ∧ Below w.heap.size w wb) := ⟨wr_kept HR.out.1 hbw.out, (hbw.out.block _ l1).trans HR.out.2.1, HR.out.2.2.trans (hbw.out.mono HR.out.2.2.size)⟩
      have LC := hid (LIN.out wb g HRB.out.2.2 (HLB.out i g HG.out))
      have hs2 := HRB.out.2.2.size
      have PC : Hid (∀ v lb lcap, wb.heap.size ≤ lb → WordsAt v lb (lineW T c g) → Below wb.heap.size wb v → Calls Tryd.prog 75 #[.pointer (some ⟨w.heap.size + 1, 0, none⟩), .slice (some ⟨lb, 0, none⟩) (lineW T c g).length lcap] v fun e v2 => (∃ y, e = .returned y) ∧ IsWr w.heap.size (w.heap.size + 1) (upG T c (i + 1)) v2 ∧ v2.heap[w.heap.size]? = some (.cells (#[Value.string c.name, Value.slice (some ⟨gb, go, none⟩) c.gates.length cg, Value.slice so c.outs.length co] : Array Value) 26 (0, 0)) ∧ Below w.heap.size w v2) := fun v lb lcap hlb hwd hbv => by
        have hlt1 := wr_lt HRB.out.1
        have hln := lineW_len T c g
        refine (PUT.out (upG T c i) (lineW T c g) lb lcap v (wr_kept HRB.out.1 hbv) hwd (by omega) hln.2 (by omega) (by have h := upG_le T c (i + 1); have h2 := HLEN.out; rw [upG_step T c i g HG.out] at h; rw [words_line]; simp only [List.length_append, List.length_cons, List.length_nil] at h ⊢; omega) (by have := hbv.size; omega)).mono ?_
        rintro e v2 ⟨h1, k1, k2, k3⟩
        refine ⟨h1, ?_, box_kept k3 ((hbv.block _ (by omega)).trans HRB.out.2.1) (by omega), (HRB.out.2.2.trans (hbv.mono (by omega))).trans k2⟩
        rw [upG_step T c i g HG.out, ← words_line]
        exact k1
      have HWB := hid hwb
      have qb := fun j => cell_row HRB.out.2.1 j
      have lb1 := (Array.getElem?_eq_some_iff.1 HRB.out.2.1).1
      clear hwb
      go_wp2_with (first | (go_at_call 75; refine (PC.out v lb lcap hlb HWD.out HBV.out).mono ?_; rintro e v2 ⟨⟨y2, rfl⟩, hst⟩; have HST := hid hst; clear hst) | (go_at_call 76; rw [← HWB.out]; refine LC.out.mono ?_; rintro e v ⟨lb, lcap, rfl, hlb, hwd, hbv⟩; have HWD := hid hwd; have HBV := hid hbv; clear hwd hbv))
      exact ⟨⟨i + 1, hlt, by go_num, HST.out⟩, by simp [intOf] <;> omega⟩
    · have hie : i = c.gates.length := by omega
      have HR2 : Hid (IsWr w.heap.size (w.heap.size + 1) (upO T c 0) wr ∧ wr.heap[w.heap.size]? = some (.cells (#[Value.string c.name, Value.slice sg c.gates.length cg, Value.slice so c.outs.length co] : Array Value) 26 (0, 0)) ∧ Below w.heap.size w wr) := by
        have h := HR.out
        rw [hie, upG_full] at h
        exact h
      subst hie
      clear HR
      go_wp2
      clear q1 l1
      go_loopw [27] (fun iv W => ∃ i : Nat, i ≤ c.outs.length ∧ iv = .int .i64 (i : Int) ∧ Hid (IsWr w.heap.size (w.heap.size + 1) (upO T c i) W ∧ W.heap[w.heap.size]? = some (.cells (#[Value.string c.name, Value.slice sg c.gates.length cg, Value.slice so c.outs.length co] : Array Value) 26 (0, 0)) ∧ Below w.heap.size w W)) (fun iv _ => c.outs.length - (intOf iv).toNat)
      case atStart => exact ⟨0, Nat.zero_le _, rfl, HR2.out⟩
      case round =>
        obtain ⟨i, hi, rfl, HR⟩ := hrel
        clear HR2
        have q1 := fun j => cell_row HR.out.2.1 j
        have l1 := (Array.getElem?_eq_some_iff.1 HR.out.2.1).1
        have hs1 := HR.out.2.2.size
        have hlt1 := wr_lt HR.out.1
        by_cases hlt2 : i < c.outs.length
        · obtain ⟨k, hk⟩ : ∃ k, c.outs[i]? = some k := ⟨_, List.getElem?_eq_getElem hlt2⟩
          obtain ⟨ob, oo, rfl, hob, c0⟩ := num_at (CW.out _ HR.out.2.2).outs i k hk
          have hkb := HOB.out k (List.mem_of_getElem? hk)
          obtain ⟨n, gb, go, rfl, hn, rfl, hgb, c1⟩ := nm_at (CW.out _ HR.out.2.2).gates k hkb.1 hkb.2
          have HKO := hid hk
          clear hk
          have PC : Hid (Calls Tryd.prog 75 #[.pointer (some ⟨w.heap.size + 1, 0, none⟩), .slice (some ⟨wr.heap.size, 0, none⟩) 2 2] (wr.alloc (.cells #[.string ⟨#[111, 117, 116, 112, 117, 116]⟩, .string (nmAt c (n : Int))] 9)) fun e v2 => (∃ y, e = .returned y) ∧ IsWr w.heap.size (w.heap.size + 1) (upO T c (i + 1)) v2 ∧ v2.heap[w.heap.size]? = some (.cells (#[Value.string c.name, Value.slice (some ⟨gb, go, none⟩) c.gates.length cg, Value.slice (some ⟨ob, oo, none⟩) c.outs.length co] : Array Value) 26 (0, 0)) ∧ Below w.heap.size w v2) := by
            refine Calls.mono (PUT.out (upO T c i) [[111, 117, 116, 112, 117, 116], bl (nmAt c (n : Int))] wr.heap.size 2 (wr.alloc (.cells #[.string ⟨#[111, 117, 116, 112, 117, 116]⟩, .string (nmAt c (n : Int))] 9)) (HR.out.1.alloc _) (words_new wr _ _ rfl) (by omega) (by simp) (by simp) (by have h := upO_le T c (i + 1); have h2 := HLEN.out; rw [upO_step T c i (n : Int) HKO.out] at h; simp [sepT] at h ⊢; omega) (by simp; omega)) ?_
            rintro e v2 ⟨h1, k1, k2, k3⟩
            refine ⟨h1, ?_, box_kept k3 ((Below.heap_alloc _ _ _ l1).trans HR.out.2.1) (by omega), (HR.out.2.2.alloc hs1 _).trans k2⟩
            rw [upO_step T c i (n : Int) HKO.out]
            simpa [sepT] using k1
          go_wp2_with (go_at_call 75; refine PC.out.mono ?_; rintro e v2 ⟨⟨y2, rfl⟩, hst⟩; have HST := hid hst; clear hst)
          exact ⟨⟨i + 1, hlt2, by go_num, HST.out⟩, by simp [intOf] <;> omega⟩
        · have hie2 : i = c.outs.length := by omega
          subst hie2
          have PC : Hid (Calls Tryd.prog 75 #[.pointer (some ⟨w.heap.size + 1, 0, none⟩), .slice (some ⟨wr.heap.size, 0, none⟩) 1 1] (wr.alloc (.cells #[.string ⟨#[101, 110, 100]⟩] 9)) fun e v2 => (∃ y, e = .returned y) ∧ IsWr w.heap.size (w.heap.size + 1) (textT T c) v2 ∧ Below w.heap.size w v2) := by
            refine Calls.mono (PUT.out (upO T c c.outs.length) [[101, 110, 100]] wr.heap.size 1 (wr.alloc (.cells #[.string ⟨#[101, 110, 100]⟩] 9)) (HR.out.1.alloc _) (words_new wr _ _ rfl) (by omega) (by simp) (by simp) (by have h := upO_le T c c.outs.length; have h2 := HLEN.out; simp [sepT] at h ⊢; omega) (by simp; omega)) ?_
            rintro e v2 ⟨h1, k1, k2, k3⟩
            refine ⟨h1, ?_, (HR.out.2.2.alloc hs1 _).trans k2⟩
            rw [← upO_full]
            simpa [sepT] using k1
          have STR : Hid (∀ W, IsWr w.heap.size (w.heap.size + 1) (textT T c) W → Calls Tryd.prog 77 #[.pointer (some ⟨w.heap.size + 1, 0, none⟩)] W fun e w' => e = .returned (str (textT T c)) ∧ Below w.heap.size W w') := fun W h => string_any _ _ _ W h (by simp [textT])
          go_wp2_with (first | (go_at_call 77; refine (STR.out v2 HV.out.1).mono ?_; rintro e v3 ⟨rfl, b3⟩; have B3 := hid (HV.out.2.trans b3); clear b3) | (go_at_call 75; refine PC.out.mono ?_; rintro e v2 ⟨⟨y2, rfl⟩, hv⟩; have HV := hid hv; clear hv))
          go_ret
          exact ⟨rfl, B3.out⟩
end Go.Proofs.YtfmmmhcpdinhgaaDoor
/-
  Bytes that a call owns, made of a string or grown: the marked stretch lies within the bytes, or behind the block's end. For any program.
-/
namespace BfgKit
open Go Go.RowKit
set_option maxRecDepth 100000

/-- bytes as cells. -/
def cbs (l : List UInt8) : List Value := l.map fun b => Value.int .u8 b.toNat
theorem cbs_length (l : List UInt8) : (cbs l).length = l.length := by simp [cbs]
theorem cbs_append (l m : List UInt8) : cbs (l ++ m) = cbs l ++ cbs m := by simp [cbs]
theorem cbs_one (l : List UInt8) : ∀ u ∈ cbs l, u.oneCell' = true := by
  intro u hu
  simp only [cbs, List.mem_map] at hu
  obtain ⟨b, _, rfl⟩ := hu
  rfl

/-- the bytes T are owned there. -/
def Own (w : World) (B e : Nat) (v : Value) (T : List UInt8) : Prop :=
  ∃ g cap cur fz, v = .slice (some ⟨g, 0, none⟩) T.length cap ∧ B ≤ g ∧ w.heap[g]? = some (.cells cur e fz) ∧ (fz.2 ≤ T.length ∨ cap ≤ fz.1) ∧ T.length ≤ cap ∧ cap ≤ maxLen ∧ cur.size = cap ∧ cur.toList.take T.length = cbs T

theorem store_at (P : Program) (g o : Nat) (t : TypeId) (fz : Nat × Nat) : ∀ (vs : List Value) (i : Nat) (cur : Array Value) (w : World), w.heap[g]? = some (.cells cur t fz) → (fz.2 ≤ o + i ∨ cur.size ≤ fz.1) → o + i + vs.length ≤ cur.size → (∀ v ∈ vs, v.oneCell' = true) →
    (storeCells ⟨g, o, none⟩ vs i).run P w = .ok () (w.setRow g (cur.toList.take (o + i) ++ vs ++ cur.toList.drop (o + i + vs.length)).toArray)
  | [], i, cur, w, hg, _, _, _ => by
    simp only [storeCells, List.append_nil, List.length_nil, Nat.add_zero, List.take_append_drop, Array.toArray_toList]
    rw [setRow_self w g cur t fz hg]
    rfl
  | v :: rest, i, cur, w, hg, hfz, hl, h1 => by
    have hi : o + i < cur.size := by simp at hl; omega
    have hadd : (⟨g, o, none⟩ : Addr).add i = ⟨g, o + i, none⟩ := by unfold Addr.add; split <;> simp_all
    have hcell : w.cell? ⟨g, o + i, none⟩ = some cur[o + i] := by simp [World.cell?, hg, hi]
    have hfro : w.frozen? ⟨g, o + i, none⟩ = false := by
      obtain ⟨lo, hi'⟩ := fz
      simp only [World.frozen?, hg, Bool.and_eq_false_iff, decide_eq_false_iff_not]
      simp only at hfz
      omega
    have hst : (store ((⟨g, o, none⟩ : Addr).add i) v).run P w = .ok () (w.setRow g (cur.setIfInBounds (o + i) v)) := by
      rw [hadd, run_store P w _ v _ (h1 v (by simp)), hcell]
      simp [hfro, setCell_eq_setRow w g (o + i) cur t fz v hg]
    have ih := store_at P g o t fz rest (i + 1) (cur.setIfInBounds (o + i) v) (w.setRow g (cur.setIfInBounds (o + i) v)) (setRow_heap w g cur _ t _ hg) (by rw [Array.size_setIfInBounds]; omega) (by simp at hl ⊢; omega) (fun x hx => h1 x (by simp [hx]))
    simp only [storeCells, Sem.run_bind, hst, Result.andThen_ok, ih, setRow_setRow]
    congr 3
    have e := list_seg_step cur.toList (o + i) v rest (by simp at hl ⊢; omega)
    simpa [Array.toList_setIfInBounds, Nat.add_assoc] using e

section
variable {P : Program} {w w' : World} {B e : Nat} {v : Value} {T : List UInt8}

theorem Own.cells (h : Own w B e v T) (g : Nat) (hb : v.ownBlock = some g) : ∀ j u, (cbs T)[j]? = some u → w.cell? ((⟨g, 0, none⟩ : Addr).add j) = some u := by
  obtain ⟨g', cap, cur, fz, rfl, hB, hg, hf, hc, hm, hs, ht⟩ := h
  simp only [Value.ownBlock, Option.some.injEq] at hb
  subst hb
  intro j u hu
  have hadd : (⟨g', 0, none⟩ : Addr).add j = ⟨g', j, none⟩ := by unfold Addr.add; split <;> simp_all
  rw [hadd, cell_of_row w g' j cur e fz hg]
  rw [← ht, List.getElem?_take] at hu
  split at hu
  · simpa using hu
  · cases hu
theorem Own.kept (h : Own w B e v T) (hk : ∀ g, v.ownBlock = some g → w'.heap[g]? = w.heap[g]?) : Own w' B e v T := by
  obtain ⟨g, cap, cur, fz, hv, hB, hg, r⟩ := h
  exact ⟨g, cap, cur, fz, hv, hB, (hk g (by rw [hv]; rfl)).trans hg, r⟩
theorem Own.block (h : Own w B e v T) {g : Nat} (hg : v.ownBlock = some g) : B ≤ g ∧ g < w.heap.size := by
  obtain ⟨g', cap, cur, fz, rfl, hB, hr, _⟩ := h
  simp only [Value.ownBlock, Option.some.injEq] at hg
  subst hg
  exact ⟨hB, (Array.getElem?_eq_some_iff.1 hr).1⟩

/-- made of a string. -/
theorem own_conv (w : World) (e B : Nat) (s : ByteArray) (hB : B ≤ w.heap.size) (hs : s.size ≤ 140737488355328) : Own (Lib.bytesWorld w e s) B e (.slice (some ⟨w.heap.size, 0, none⟩) s.size (grownCap w s.size 0 e)) s.data.toList := by
  have hge := grownCap_ge w s.size 0 e
  have hcm := grownCap_le_maxLen w s.size 0 e (by unfold maxLen; omega)
  have hsz : (Lib.bytesCells w e s).size = grownCap w s.size 0 e := by
    simp only [Lib.bytesCells, Array.size_append, Array.size_map, Array.size_replicate]
    have : s.data.size = s.size := rfl
    omega
  have hl : s.data.toList.length = s.size := by simp
  refine ⟨w.heap.size, _, _, _, by rw [hl], hB, Lib.bytesWorld_at_new w e s, .inr (by rw [hsz]; exact Nat.le_refl _), by rw [hl]; exact hge, hcm, hsz, ?_⟩
  rw [hl]
  have h2 : (Lib.bytesCells w e s).toList = cbs s.data.toList ++ List.replicate (grownCap w s.size 0 e - s.size) (.int .u8 0) := by
    simp [Lib.bytesCells, cbs]
  rw [h2, ← hl, ← cbs_length]
  exact List.take_left

set_option maxHeartbeats 1000000 in
theorem run_own_text (w : World) (t u ty e : TypeId) (i : TypeInfo) (ht : P.underlying t = some (.slice e)) (hu : P.underlying u = some .string) (hi : P.info? e = some i) (hz : i.zero = some (.int .u8 0)) (hsize : i.size = 1) (hby : i.bytes = 1)
    (hown : Own w B e v T) (D : List UInt8) (hlen : T.length + D.length ≤ 140737488355328) (hbase : B ≤ w.heap.size) :
    ∃ v' w', (Builtin.append_ #[t, u] ty #[v, .string ⟨D.toArray⟩]).run P w = .ok v' w' ∧ Own w' B e v' (T ++ D) ∧ w.grownBy w' v.ownBlock := by
  have hcells := hown.cells
  obtain ⟨g, cap, cur, fz, rfl, hB, hg, hf, hc, hm, hs, htk⟩ := hown
  have hcells := hcells g rfl
  have hD : (⟨D.toArray⟩ : ByteArray).size = D.length := by show D.toArray.size = _; simp
  have hst : Lib.strCells ⟨D.toArray⟩ = cbs D := by simp [Lib.strCells, cbs]
  have hel : (cbs T ++ cbs D).length = T.length + D.length := by rw [List.length_append, cbs_length, cbs_length]
  by_cases hroom : T.length + D.length ≤ cap
  · have hff := Lib.run_firstCells_string (P := P) w 1 ⟨D.toArray⟩
    have hss := store_at P g T.length e fz (cbs D) 0 cur w hg (by rcases hf with h | h; exact .inl h; exact .inr (by omega)) (by rw [cbs_length]; omega) (cbs_one D)
    simp only [Nat.add_zero, cbs_length] at hss
    rw [hst, hD] at hff
    have hr : (Builtin.append_ #[t, u] ty #[.slice (some ⟨g, 0, none⟩) T.length cap, .string ⟨D.toArray⟩]).run P w = .ok (.slice (some ⟨g, 0, none⟩) (T.length + D.length) cap) (w.setRow g (cur.toList.take T.length ++ cbs D ++ cur.toList.drop (T.length + D.length)).toArray) := by
      simp [Builtin.append_, run_underlying ht, run_underlying hu, Go.sizeOf, typeInfo, hi, hsize, Builtin.lenOf, hD, hroom, hff, Addr.add_lit, hss]
    refine ⟨_, _, hr, ⟨g, cap, _, fz, by rw [List.length_append], hB, setRow_heap w g cur _ e _ hg, ?_, by rw [List.length_append]; omega, hm, ?_, ?_⟩, ⟨rfl, rfl, rfl, by simp, fun k _ hk => setRow_other w g k _ (fun e => hk (by simp [Value.ownBlock, e]))⟩⟩
    · rcases hf with h | h
      · exact .inl (by rw [List.length_append]; omega)
      · exact .inr h
    · simp only [List.size_toArray, List.length_append, List.length_take, List.length_drop, Array.length_toList, cbs_length]
      omega
    · rw [htk, List.length_append, cbs_append, ← hel]
      exact List.take_left
  · have hr := Lib.run_append_grow_string (P := P) w t u ty e i (.int .u8 0) ht hu hi hz ⟨g, 0, none⟩ T.length cap (cbs T) (by rw [hsize, cbs_length]; omega) hcells ⟨D.toArray⟩ (by rw [hD]; omega) (by rw [hD]; omega) (by rw [hby, hD]; exact growslice_fits (by omega) (by omega))
    rw [hD, hst] at hr
    have hge := grownCap_ge w (T.length + D.length) cap e
    have hcm2 : grownCap w (T.length + D.length) cap e ≤ maxLen := grownCap_le_maxLen w (T.length + D.length) cap e (by unfold maxLen; omega)
    refine ⟨_, _, hr, ⟨w.heap.size, _, _, (0, 0), by rw [List.length_append], hbase, heap_alloc_new w.drew _, .inl (Nat.zero_le _), by rw [List.length_append]; exact hge, hcm2, ?_, ?_⟩, ⟨rfl, rfl, rfl, by simp, fun k hk _ => Go.Lib.alloc_old w.drew _ k hk⟩⟩
    · have hz1 : (Value.int IntKind.u8 0).cells.size = 1 := rfl
      simp only [Array.size_append, List.size_toArray, size_zeroCells, hz1, cbs_length]
      omega
    · simp only [Array.toList_append, List.append_assoc]
      rw [← List.append_assoc, List.length_append, cbs_append, ← hel]
      exact List.take_left

set_option maxHeartbeats 1000000 in
theorem run_own_bytes (w : World) (t ty e : TypeId) (i : TypeInfo) (ht : P.underlying t = some (.slice e)) (hi : P.info? e = some i) (hz : i.zero = some (.int .u8 0)) (hsize : i.size = 1) (hby : i.bytes = 1)
    (hown : Own w B e v T) (D : List UInt8) (a : Addr) (c : Nat) (hnews : ∀ j u, (cbs D)[j]? = some u → w.cell? (a.add j) = some u) (hlen : T.length + D.length ≤ 140737488355328) (hbase : B ≤ w.heap.size) :
    ∃ v' w', (Builtin.append_ #[t, t] ty #[v, .slice (some a) D.length c]).run P w = .ok v' w' ∧ Own w' B e v' (T ++ D) ∧ w.grownBy w' v.ownBlock := by
  have hcells := hown.cells
  obtain ⟨g, cap, cur, fz, rfl, hB, hg, hf, hc, hm, hs, htk⟩ := hown
  have hcells := hcells g rfl
  have hel : (cbs T ++ cbs D).length = T.length + D.length := by rw [List.length_append, cbs_length, cbs_length]
  have hl1 : (cbs D).length = D.length * i.size := by rw [cbs_length, hsize, Nat.mul_one]
  by_cases hroom : T.length + D.length ≤ cap
  · have hff := run_firstCells_some (P := P) w i.size D.length a D.length c (cbs D) hl1 hnews
    have hss := store_at P g T.length e fz (cbs D) 0 cur w hg (by rcases hf with h | h; exact .inl h; exact .inr (by omega)) (by rw [cbs_length]; omega) (cbs_one D)
    simp only [Nat.add_zero, cbs_length] at hss
    rw [hsize] at hff
    have hr : (Builtin.append_ #[t, t] ty #[.slice (some ⟨g, 0, none⟩) T.length cap, .slice (some a) D.length c]).run P w = .ok (.slice (some ⟨g, 0, none⟩) (T.length + D.length) cap) (w.setRow g (cur.toList.take T.length ++ cbs D ++ cur.toList.drop (T.length + D.length)).toArray) := by
      simp [Builtin.append_, run_underlying ht, Go.sizeOf, typeInfo, hi, hsize, Builtin.lenOf, hroom, hff, Addr.add_lit, hss]
    refine ⟨_, _, hr, ⟨g, cap, _, fz, by rw [List.length_append], hB, setRow_heap w g cur _ e _ hg, ?_, by rw [List.length_append]; omega, hm, ?_, ?_⟩, ⟨rfl, rfl, rfl, by simp, fun k _ hk => setRow_other w g k _ (fun e => hk (by simp [Value.ownBlock, e]))⟩⟩
    · rcases hf with h | h
      · exact .inl (by rw [List.length_append]; omega)
      · exact .inr h
    · simp only [List.size_toArray, List.length_append, List.length_take, List.length_drop, Array.length_toList, cbs_length]
      omega
    · rw [htk, List.length_append, cbs_append, ← hel]
      exact List.take_left
  · have hr := run_append_grow (P := P) w t ty e i (.int .u8 0) ht hi hz ⟨g, 0, none⟩ T.length cap (cbs T) (by rw [hsize, cbs_length]; omega) hcells a D.length c (cbs D) hl1 hnews (by omega) (by omega) (by rw [hby]; exact growslice_fits (by omega) (by omega))
    have hge := grownCap_ge w (T.length + D.length) cap e
    have hcm2 : grownCap w (T.length + D.length) cap e ≤ maxLen := grownCap_le_maxLen w (T.length + D.length) cap e (by unfold maxLen; omega)
    refine ⟨_, _, hr, ⟨w.heap.size, _, _, (0, 0), by rw [List.length_append], hbase, heap_alloc_new w.drew _, .inl (Nat.zero_le _), by rw [List.length_append]; exact hge, hcm2, ?_, ?_⟩, ⟨rfl, rfl, rfl, by simp, fun k hk _ => Go.Lib.alloc_old w.drew _ k hk⟩⟩
    · have hz1 : (Value.int IntKind.u8 0).cells.size = 1 := rfl
      simp only [Array.size_append, List.size_toArray, size_zeroCells, hz1, cbs_length]
      omega
    · simp only [Array.toList_append, List.append_assoc]
      rw [← List.append_assoc, List.length_append, cbs_append, ← hel]
      exact List.take_left
end
end BfgKit
