import Derived.Test.YtfmmmhcpdinhgabGreatDoorZ20
/-
  A circuit's text; the landed write.
-/
namespace Go.Proofs.YtfmmmhcpdinhgabGreatDoor
open Go.RowKit Go.Deep PureNet
set_option maxRecDepth 100000

def lineT (T : Nat → ByteArray) (c : Net) (g : Ga) : List UInt8 := bl (wordsT T c g) ++ [10]
def outT (c : Net) (k : Int) : List UInt8 := [111, 117, 116, 112, 117, 116, 32] ++ bl (nmAt c k) ++ [10]
def headT (c : Net) : List UInt8 := [99, 105, 114, 99, 117, 105, 116, 32] ++ bl c.name ++ [10]
/-- a circuit's text. -/
def textT (T : Nat → ByteArray) (c : Net) : List UInt8 := headT c ++ c.gates.flatMap (lineT T c) ++ c.outs.flatMap (outT c) ++ [101, 110, 100, 10]
/-- its front: the first i lines. -/
def upG (T : Nat → ByteArray) (c : Net) (i : Nat) : List UInt8 := headT c ++ (c.gates.take i).flatMap (lineT T c)
/-- all lines, and the first i outputs. -/
def upO (T : Nat → ByteArray) (c : Net) (i : Nat) : List UInt8 := headT c ++ c.gates.flatMap (lineT T c) ++ (c.outs.take i).flatMap (outT c)
theorem upG_zero (T : Nat → ByteArray) (c : Net) : upG T c 0 = headT c := by simp [upG]
theorem upG_step (T : Nat → ByteArray) (c : Net) (i : Nat) (g : Ga) (h : c.gates[i]? = some g) : upG T c (i + 1) = upG T c i ++ bl (wordsT T c g) ++ [10] := by
  unfold upG
  rw [List.take_add_one, h]
  simp [lineT]
theorem upG_full (T : Nat → ByteArray) (c : Net) : upG T c c.gates.length = upO T c 0 := by simp [upG, upO]
theorem upO_step (T : Nat → ByteArray) (c : Net) (i : Nat) (k : Int) (h : c.outs[i]? = some k) : upO T c (i + 1) = upO T c i ++ ([111, 117, 116, 112, 117, 116, 32] ++ bl (nmAt c k)) ++ [10] := by
  unfold upO
  rw [List.take_add_one, h]
  simp [outT]
theorem upO_full (T : Nat → ByteArray) (c : Net) : upO T c c.outs.length ++ [101, 110, 100, 10] = textT T c := by simp [upO, textT]
theorem upO_le (T : Nat → ByteArray) (c : Net) (i : Nat) : (upO T c i).length + 4 ≤ (textT T c).length := by
  have h : textT T c = upO T c i ++ ((c.outs.drop i).flatMap (outT c) ++ [101, 110, 100, 10]) := by
    have e : c.outs.flatMap (outT c) = (c.outs.take i).flatMap (outT c) ++ (c.outs.drop i).flatMap (outT c) := by
      rw [← List.flatMap_append, List.take_append_drop]
    unfold textT upO
    rw [e]
    simp
  rw [h]
  simp
theorem upG_le (T : Nat → ByteArray) (c : Net) (i : Nat) : (upG T c i).length + 4 ≤ (textT T c).length := by
  have h : upO T c 0 = upG T c i ++ ((c.gates.drop i).flatMap (lineT T c)) := by
    have e : c.gates.flatMap (lineT T c) = (c.gates.take i).flatMap (lineT T c) ++ (c.gates.drop i).flatMap (lineT T c) := by
      rw [← List.flatMap_append, List.take_append_drop]
    unfold upO upG
    rw [e]
    simp
  have h2 := upO_le T c 0
  rw [h, List.length_append] at h2
  omega

theorem wr_kept {B b : Nat} {T : List UInt8} {w W : World} (h : IsWr B b T w) (hb : Below w.heap.size w W) : IsWr B b T W := by
  have one : ∀ p, Wr B b p T w → Wr B b p T W := by
    rintro p ⟨hB, v, hbk, ho, hne⟩
    refine ⟨hB, v, (hb.block b (Array.getElem?_eq_some_iff.1 hbk).1).trans hbk, ⟨ho.1, ?_⟩, hne⟩
    rcases ho.2 with hn | ⟨g, cap, cur, fz, hv, h1, h2, h3⟩
    · exact .inl hn
    · exact .inr ⟨g, cap, cur, fz, hv, h1, (hb.block g (Array.getElem?_eq_some_iff.1 h2).1).trans h2, h3⟩
  exact h.elim (fun x => .inl (one _ x)) (fun x => .inr (one _ x))
theorem wr_lt {B b : Nat} {T : List UInt8} {w : World} (h : IsWr B b T w) : b < w.heap.size := by
  rcases h with h | h
  · exact h.lt
  · exact h.lt

theorem words_new (W : World) (ws : List (List UInt8)) (cs : Array Value) (h : cs = (wc ws).toArray) : WordsAt (W.alloc (.cells cs 9)) W.heap.size ws := by
  subst h
  exact ⟨_, _, heap_alloc_new W _, fun j x hx => by simp [wc, hx]⟩
theorem box_kept {W W' : World} {B b : Nat} {cs : Array Value} {fz : Nat × Nat} (hk : Lib.OthersKept 5 (some b) W W') (h : W.heap[B]? = some (.cells cs 25 fz)) (hb : B ≠ b) : W'.heap[B]? = some (.cells cs 25 fz) :=
  hk B _ h (fun e => hb (Option.some.inj e)) (fun _ _ e => by cases e)

theorem lineW_len (T : Nat → ByteArray) (c : Net) (g : Ga) : (lineW T c g).length ≤ 6 ∧ lineW T c g ≠ [] := by
  unfold lineW frontW usedL
  constructor
  · (repeat' split) <;> simp
  · simp

/-- the words of any line. -/
theorem pline_any (T : Nat → ByteArray) (c : Net) (sg so : Option Addr) (cg co : Nat) (g : Ga) (w : World) (hc : CirAt w c sg so) (hK : KindsAt w) (hW : KwAt w) (ht : OpsAt w 2 T) (hl : lineB g c.gates.length = true) :
    Calls Tryz.prog 25 #[cirV c sg cg so co, .agg #[.int .i64 g.kind, .string g.name, .int .i64 g.op, .int .i64 g.a, .int .i64 g.b, .int .i64 g.c]] w fun e w' => ∃ b cap, e = .returned (.slice (some ⟨b, 0, none⟩) (lineW T c g).length cap) ∧ w.heap.size ≤ b ∧ WordsAt w' b (lineW T c g) ∧ Below w.heap.size w w' := by
  obtain ⟨kd, nm, op, ga, gb, gc⟩ := g
  unfold lineB at hl
  simp only [Bool.and_eq_true, decide_eq_true_eq] at hl
  obtain ⟨⟨⟨⟨k1, k4, o0, o1⟩, fa⟩, fb⟩, fc⟩ := hl
  dsimp only at k1 k4 o0 o1 fa fb fc ⊢
  rcases (by omega : kd = 1 ∨ kd = 2 ∨ kd = 3 ∨ kd = 4) with rfl | rfl | rfl | rfl
  · exact line_1 T c sg so cg co nm op ga gb gc w hc hK hW ht
  · simp [mostOp, fieldB] at o1 fa fb fc
    exact line_2 T c sg so cg co nm op ga gb gc w hc hK hW ht ⟨o0, by omega⟩ fa fb
  · simp [mostOp, fieldB] at o1 fa fb fc
    exact line_3 T c sg so cg co nm op ga gb gc w hc hK hW ht (by omega) fa
  · simp [mostOp, fieldB] at o1 fa fb fc
    exact line_4 T c sg so cg co nm op ga gb gc w hc hK hW ht fa fb fc

set_option maxHeartbeats 4000000 in
theorem write_text (T : Nat → ByteArray) (c : Net) (sg so : Option Addr) (cg co : Nat) (w : World) (hc : CirAt w c sg so) (hK : KindsAt w) (hW : KwAt w) (ht : OpsAt w 2 T) (hl : ∀ (i : Nat) (g : Ga), c.gates[i]? = some g → lineB g c.gates.length = true) (ho : ∀ k ∈ c.outs, 0 ≤ k ∧ k < (c.gates.length : Int))
    (hng : c.gates.length ≤ 1099511627776) (hno : c.outs.length ≤ 1099511627776) (hlen : (textT T c).length ≤ 140737488355328) :
    Calls Tryz.prog 14 #[cirV c sg cg so co] w fun e w' => e = .returned (str (textT T c)) ∧ Below w.heap.size w w' := by
  obtain ⟨B, hBw⟩ : ∃ B, B = w.heap.size := ⟨_, rfl⟩
  have HBW := hid hBw
  have hp : 0 < B := by rw [hBw]; exact Nat.lt_of_succ_lt hK.pos
  have PUT : Hid (∀ (X : List UInt8) (ws : List (List UInt8)) (g cap : Nat) (W : World), IsWr B (B + 1) X W → WordsAt W g ws → g ≠ B + 1 → ws ≠ [] → ws.length ≤ 1099511627776 → X.length + (sepT ws).length + 1 ≤ 140737488355328 → B ≤ W.heap.size → Calls Tryz.prog 24 #[.pointer (some ⟨B + 1, 0, none⟩), .slice (some ⟨g, 0, none⟩) ws.length cap] W fun e w' => (∃ y, e = .returned y) ∧ IsWr B (B + 1) (X ++ sepT ws ++ [10]) w' ∧ Below B W w' ∧ Lib.OthersKept 5 (some (B + 1)) W w') := fun X ws g cap W a1 a2 a3 a4 a5 a6 a7 => put_any B (B + 1) g cap X ws W a1 a2 a3 a4 a5 a6 a7
  have LIN : Hid (∀ (W : World) (g : Ga), Below B w W → lineB g c.gates.length = true → Calls Tryz.prog 25 #[cirV c sg cg so co, .agg #[.int .i64 g.kind, .string g.name, .int .i64 g.op, .int .i64 g.a, .int .i64 g.b, .int .i64 g.c]] W fun e w' => ∃ b cap, e = .returned (.slice (some ⟨b, 0, none⟩) (lineW T c g).length cap) ∧ W.heap.size ≤ b ∧ WordsAt w' b (lineW T c g) ∧ Below W.heap.size W w') := fun W g hb h => by
    rw [hBw] at hb
    exact pline_any T c sg so cg co g W (hc.below hb) (hK.on hb) (hW.on hK.pos hb) (ht.on hb) h
  have CW : Hid (∀ W, Below B w W → CirAt W c sg so) := fun W hb => by rw [hBw] at hb; exact hc.below hb
  have HLB := hid hl
  have HOB := hid ho
  have HLEN := hid hlen
  obtain ⟨x, hx⟩ : ∃ x, x = (w.alloc (Obj.cells (#[Value.string c.name, Value.slice sg c.gates.length cg, Value.slice so c.outs.length co] : Array Value) 25)).alloc (Obj.cells (#[Value.pointer none, Value.slice none 0 0] : Array Value) 59) := ⟨_, rfl⟩
  have s1 : (w.alloc (Obj.cells (#[Value.string c.name, Value.slice sg c.gates.length cg, Value.slice so c.outs.length co] : Array Value) 25)).heap.size = B + 1 := by simp [hBw]
  have sx : x.heap.size = B + 2 := by rw [hx, hBw]; simp
  have R1 : x.heap[B]? = some (.cells (#[Value.string c.name, Value.slice sg c.gates.length cg, Value.slice so c.outs.length co] : Array Value) 25 (0, 0)) := by rw [hx, Below.heap_alloc _ _ _ (by omega), hBw]; exact heap_alloc_new w _
  have R2 : x.heap[B + 1]? = some (.cells (#[Value.pointer none, Value.slice none 0 0] : Array Value) 59 (0, 0)) := by rw [hx, ← s1]; exact heap_alloc_new _ _
  have BX : Below B w x := by rw [hx]; exact ((Below.refl _ _).alloc (by omega) _).alloc (by omega) _
  have W0 : Hid (IsWr B (B + 1) [] x ∧ x.heap[B]? = some (.cells (#[Value.string c.name, Value.slice sg c.gates.length cg, Value.slice so c.outs.length co] : Array Value) 25 (0, 0)) ∧ Below B w x) := ⟨.inl ⟨by omega, .slice none 0 0, R2, World.ownsRowF_nil _ _ _ _, by simp [Value.ownBlock]⟩, R1, BX⟩
  have q1 := fun j => cell_row R1 j
  have l1 := (Array.getElem?_eq_some_iff.1 R1).1
  have HX := hid hx
  have SX := hid sx
  clear hx hK hc hW ht R1 R2 s1 sx hl ho hlen BX
  subst hBw
  have HC1 := hid (PUT.out [] [[99, 105, 114, 99, 117, 105, 116], bl c.name] x.heap.size 2 (x.alloc (.cells #[.string ⟨#[99, 105, 114, 99, 117, 105, 116]⟩, .string c.name] 9)) (W0.out.1.alloc _) (words_new x _ _ rfl) (by have := SX.out; omega) (by simp) (by simp) (by have h := upG_le T c 0; have h2 := HLEN.out; rw [upG_zero] at h; simp [headT, sepT] at h ⊢; omega) (by have := SX.out; simp; omega))
  have FY : Hid (∀ y, IsWr w.heap.size (w.heap.size + 1) ([] ++ sepT [[99, 105, 114, 99, 117, 105, 116], bl c.name] ++ [10]) y → Below w.heap.size (x.alloc (.cells #[.string ⟨#[99, 105, 114, 99, 117, 105, 116]⟩, .string c.name] 9)) y → Lib.OthersKept 5 (some (w.heap.size + 1)) (x.alloc (.cells #[.string ⟨#[99, 105, 114, 99, 117, 105, 116]⟩, .string c.name] 9)) y → IsWr w.heap.size (w.heap.size + 1) (upG T c 0) y ∧ y.heap[w.heap.size]? = some (.cells (#[Value.string c.name, Value.slice sg c.gates.length cg, Value.slice so c.outs.length co] : Array Value) 25 (0, 0)) ∧ Below w.heap.size w y) := fun y k1 k2 k3 => by
    refine ⟨?_, box_kept k3 ((Below.heap_alloc _ _ _ (by have := SX.out; omega)).trans W0.out.2.1) (by omega), (W0.out.2.2.alloc (by have := SX.out; omega) _).trans k2⟩
    rw [upG_zero]
    simpa [headT, sepT] using k1
  go_enter Tryz.func14, Tryz.ntmps14
  go_wp2_with (rw [← HX.out])
  go_wp2_with (go_at_call 24; refine HC1.out.mono ?_; rintro e y ⟨⟨yy, rfl⟩, k1, k2, k3⟩; have Y0 := hid (FY.out y k1 k2 k3); clear k1 k2 k3 q1 l1 HC1 W0 FY; have q1 := fun j => cell_row Y0.out.2.1 j; have l1 := (Array.getElem?_eq_some_iff.1 Y0.out.2.1).1)
  clear q1 l1
  go_loopw [15] (fun iv W => ∃ i : Nat, i ≤ c.gates.length ∧ iv = .int .i64 (i : Int) ∧ Hid (IsWr w.heap.size (w.heap.size + 1) (upG T c i) W ∧ W.heap[w.heap.size]? = some (.cells (#[Value.string c.name, Value.slice sg c.gates.length cg, Value.slice so c.outs.length co] : Array Value) 25 (0, 0)) ∧ Below w.heap.size w W)) (fun iv _ => c.gates.length - (intOf iv).toNat)
  case atStart => exact ⟨0, Nat.zero_le _, rfl, Y0.out⟩
  case round =>
    obtain ⟨i, hi, rfl, HR⟩ := hrel
    clear Y0
    have q1 := fun j => cell_row HR.out.2.1 j
    have l1 := (Array.getElem?_eq_some_iff.1 HR.out.2.1).1
    by_cases hlt : i < c.gates.length
    · obtain ⟨g, hg⟩ : ∃ g, c.gates[i]? = some g := ⟨_, List.getElem?_eq_getElem hlt⟩
      obtain ⟨gb, go, rfl, hgb, g0, g1, g2, g3, g4, g5⟩ := gate_at (CW.out wr HR.out.2.2).gates i g hg
      have HG := hid hg
      clear hg
      obtain ⟨wb, hwb⟩ : ∃ wb, wb = wr.alloc (.cells #[.int .i64 g.kind, .string g.name, .int .i64 g.op, .int .i64 g.a, .int .i64 g.b, .int .i64 g.c] 42) := ⟨_, rfl⟩
      have sb : Hid (wb.heap.size = wr.heap.size + 1) := by show _ = _; rw [hwb]; simp
      have hbw : Hid (Below wr.heap.size wr wb) := by rw [hwb]; exact (Below.refl _ _).alloc (Nat.le_refl _) _
      have HRB : Hid (IsWr w.heap.size (w.heap.size + 1) (upG T c i) wb ∧ wb.heap[w.heap.size]? = some (.cells (#[Value.string c.name, Value.slice (some ⟨gb, go, none⟩) c.gates.length cg, Value.slice so c.outs.length co] : Array Value) 25 (0, 0)) ∧ Below w.heap.size w wb) := ⟨wr_kept HR.out.1 hbw.out, (hbw.out.block _ l1).trans HR.out.2.1, HR.out.2.2.trans (hbw.out.mono HR.out.2.2.size)⟩
      have LC := hid (LIN.out wb g HRB.out.2.2 (HLB.out i g HG.out))
      have hs2 := HRB.out.2.2.size
      have PC : Hid (∀ v lb lcap, wb.heap.size ≤ lb → WordsAt v lb (lineW T c g) → Below wb.heap.size wb v → Calls Tryz.prog 24 #[.pointer (some ⟨w.heap.size + 1, 0, none⟩), .slice (some ⟨lb, 0, none⟩) (lineW T c g).length lcap] v fun e v2 => (∃ y, e = .returned y) ∧ IsWr w.heap.size (w.heap.size + 1) (upG T c (i + 1)) v2 ∧ v2.heap[w.heap.size]? = some (.cells (#[Value.string c.name, Value.slice (some ⟨gb, go, none⟩) c.gates.length cg, Value.slice so c.outs.length co] : Array Value) 25 (0, 0)) ∧ Below w.heap.size w v2) := fun v lb lcap hlb hwd hbv => by
        have hlt1 := wr_lt HRB.out.1
        have hln := lineW_len T c g
        refine (PUT.out (upG T c i) (lineW T c g) lb lcap v (wr_kept HRB.out.1 hbv) hwd (by omega) hln.2 (by omega) (by have h := upG_le T c (i + 1); have h2 := HLEN.out; rw [upG_step T c i g HG.out] at h; rw [words_line]; simp only [List.length_append, List.length_cons, List.length_nil] at h ⊢; omega) (by have := hbv.size; omega)).mono ?_
        rintro e v2 ⟨h1, k1, k2, k3⟩
        refine ⟨h1, ?_, box_kept k3 ((hbv.block _ (by omega)).trans HRB.out.2.1) (by omega), (HRB.out.2.2.trans (hbv.mono (by omega))).trans k2⟩
        rw [upG_step T c i g HG.out, ← words_line]
        exact k1
      have HWB := hid hwb
      have qb := fun j => cell_row HRB.out.2.1 j
      have lb1 := (Array.getElem?_eq_some_iff.1 HRB.out.2.1).1
      clear hwb
      go_wp2_with (first | (go_at_call 24; refine (PC.out v lb lcap hlb HWD.out HBV.out).mono ?_; rintro e v2 ⟨⟨y2, rfl⟩, hst⟩; have HST := hid hst; clear hst) | (go_at_call 25; rw [← HWB.out]; refine LC.out.mono ?_; rintro e v ⟨lb, lcap, rfl, hlb, hwd, hbv⟩; have HWD := hid hwd; have HBV := hid hbv; clear hwd hbv))
      exact ⟨⟨i + 1, hlt, by go_num, HST.out⟩, by simp [intOf] <;> omega⟩
    · have hie : i = c.gates.length := by omega
      have HR2 : Hid (IsWr w.heap.size (w.heap.size + 1) (upO T c 0) wr ∧ wr.heap[w.heap.size]? = some (.cells (#[Value.string c.name, Value.slice sg c.gates.length cg, Value.slice so c.outs.length co] : Array Value) 25 (0, 0)) ∧ Below w.heap.size w wr) := by
        have h := HR.out
        rw [hie, upG_full] at h
        exact h
      subst hie
      clear HR
      go_wp2
      clear q1 l1
      go_loopw [27] (fun iv W => ∃ i : Nat, i ≤ c.outs.length ∧ iv = .int .i64 (i : Int) ∧ Hid (IsWr w.heap.size (w.heap.size + 1) (upO T c i) W ∧ W.heap[w.heap.size]? = some (.cells (#[Value.string c.name, Value.slice sg c.gates.length cg, Value.slice so c.outs.length co] : Array Value) 25 (0, 0)) ∧ Below w.heap.size w W)) (fun iv _ => c.outs.length - (intOf iv).toNat)
      case atStart => exact ⟨0, Nat.zero_le _, rfl, HR2.out⟩
      case round =>
        obtain ⟨i, hi, rfl, HR⟩ := hrel
        clear HR2
        have q1 := fun j => cell_row HR.out.2.1 j
        have l1 := (Array.getElem?_eq_some_iff.1 HR.out.2.1).1
        have hs1 := HR.out.2.2.size
        have hlt1 := wr_lt HR.out.1
        by_cases hlt2 : i < c.outs.length
        · obtain ⟨k, hk⟩ : ∃ k, c.outs[i]? = some k := ⟨_, List.getElem?_eq_getElem hlt2⟩
          obtain ⟨ob, oo, rfl, hob, c0⟩ := num_at (CW.out _ HR.out.2.2).outs i k hk
          have hkb := HOB.out k (List.mem_of_getElem? hk)
          obtain ⟨n, gb, go, rfl, hn, rfl, hgb, c1⟩ := nm_at (CW.out _ HR.out.2.2).gates k hkb.1 hkb.2
          have HKO := hid hk
          clear hk
          have PC : Hid (Calls Tryz.prog 24 #[.pointer (some ⟨w.heap.size + 1, 0, none⟩), .slice (some ⟨wr.heap.size, 0, none⟩) 2 2] (wr.alloc (.cells #[.string ⟨#[111, 117, 116, 112, 117, 116]⟩, .string (nmAt c (n : Int))] 9)) fun e v2 => (∃ y, e = .returned y) ∧ IsWr w.heap.size (w.heap.size + 1) (upO T c (i + 1)) v2 ∧ v2.heap[w.heap.size]? = some (.cells (#[Value.string c.name, Value.slice (some ⟨gb, go, none⟩) c.gates.length cg, Value.slice (some ⟨ob, oo, none⟩) c.outs.length co] : Array Value) 25 (0, 0)) ∧ Below w.heap.size w v2) := by
            refine Calls.mono (PUT.out (upO T c i) [[111, 117, 116, 112, 117, 116], bl (nmAt c (n : Int))] wr.heap.size 2 (wr.alloc (.cells #[.string ⟨#[111, 117, 116, 112, 117, 116]⟩, .string (nmAt c (n : Int))] 9)) (HR.out.1.alloc _) (words_new wr _ _ rfl) (by omega) (by simp) (by simp) (by have h := upO_le T c (i + 1); have h2 := HLEN.out; rw [upO_step T c i (n : Int) HKO.out] at h; simp [sepT] at h ⊢; omega) (by simp; omega)) ?_
            rintro e v2 ⟨h1, k1, k2, k3⟩
            refine ⟨h1, ?_, box_kept k3 ((Below.heap_alloc _ _ _ l1).trans HR.out.2.1) (by omega), (HR.out.2.2.alloc hs1 _).trans k2⟩
            rw [upO_step T c i (n : Int) HKO.out]
            simpa [sepT] using k1
          go_wp2_with (go_at_call 24; refine PC.out.mono ?_; rintro e v2 ⟨⟨y2, rfl⟩, hst⟩; have HST := hid hst; clear hst)
          exact ⟨⟨i + 1, hlt2, by go_num, HST.out⟩, by simp [intOf] <;> omega⟩
        · have hie2 : i = c.outs.length := by omega
          subst hie2
          have PC : Hid (Calls Tryz.prog 24 #[.pointer (some ⟨w.heap.size + 1, 0, none⟩), .slice (some ⟨wr.heap.size, 0, none⟩) 1 1] (wr.alloc (.cells #[.string ⟨#[101, 110, 100]⟩] 9)) fun e v2 => (∃ y, e = .returned y) ∧ IsWr w.heap.size (w.heap.size + 1) (textT T c) v2 ∧ Below w.heap.size w v2) := by
            refine Calls.mono (PUT.out (upO T c c.outs.length) [[101, 110, 100]] wr.heap.size 1 (wr.alloc (.cells #[.string ⟨#[101, 110, 100]⟩] 9)) (HR.out.1.alloc _) (words_new wr _ _ rfl) (by omega) (by simp) (by simp) (by have h := upO_le T c c.outs.length; have h2 := HLEN.out; simp [sepT] at h ⊢; omega) (by simp; omega)) ?_
            rintro e v2 ⟨h1, k1, k2, k3⟩
            refine ⟨h1, ?_, (HR.out.2.2.alloc hs1 _).trans k2⟩
            rw [← upO_full]
            simpa [sepT] using k1
          have STR : Hid (∀ W, IsWr w.heap.size (w.heap.size + 1) (textT T c) W → Calls Tryz.prog 26 #[.pointer (some ⟨w.heap.size + 1, 0, none⟩)] W fun e w' => e = .returned (str (textT T c)) ∧ Below w.heap.size W w') := fun W h => string_any _ _ _ W h (by simp [textT])
          go_wp2_with (first | (go_at_call 26; refine (STR.out v2 HV.out.1).mono ?_; rintro e v3 ⟨rfl, b3⟩; have B3 := hid (HV.out.2.trans b3); clear b3) | (go_at_call 24; refine PC.out.mono ?_; rintro e v2 ⟨⟨y2, rfl⟩, hv⟩; have HV := hid hv; clear hv))
          go_ret
          exact ⟨rfl, B3.out⟩
end Go.Proofs.YtfmmmhcpdinhgabGreatDoor
/-
  The program's within, named.
-/
namespace Go.Proofs.YtfmmmhcpdinhgabGreatDoor
open Go.RowKit Go.Deep PureNet Go.Maps Go.WideShapes
set_option maxRecDepth 100000

set_option maxHeartbeats 1000000 in
theorem within_ok (c : Net) (sg so : Option Addr) (cg co : Nat) (w : World) (hl : c.gates.length ≤ 65536) (ho : c.outs.length ≤ 65536) :
    Calls Tryz.prog 15 #[cirV c sg cg so co] w fun e w' => e = .returned (.bool true) ∧ Below w.heap.size w w' := by
  have h1 : (c.gates.length : Int) ≤ 65536 := by omega
  have h2 : (c.outs.length : Int) ≤ 65536 := by omega
  go_enter Tryz.func15, Tryz.ntmps15
  go_wp2
  go_ret
  exact ⟨rfl, (Below.refl _ _).alloc (Nat.le_refl _) _⟩

/-- the names of the first lines, in a map. -/
structure Nam (x W : World) (l : List Ga) (i : Nat) (D : DataW Unit) : Prop where
  own : W.ownsMap Tryz.prog 9 (plainElem Tryz.prog 3) x.heap.size i D
  size : Maps.size D = i
  tidy : Tidy D
  only : ∀ s : List UInt8, has D (.string s) = true → ∃ j g, j < i ∧ l[j]? = some g ∧ s = g.name.data.toList
  below : Below x.heap.size x W
theorem Nam.start (x : World) (l : List Ga) : Nam x (x.alloc (.map #[] 0)) l 0 (.map []) :=
  ⟨World.ownsMap_made x _ _ _, rfl, tidy_empty, fun s h => by simp [has] at h, (Below.refl _ _).alloc (Nat.le_refl _) _⟩

set_option maxHeartbeats 2000000 in
theorem named_ok (c : Net) (sg so : Option Addr) (cg co : Nat) (w : World) (hc : CellsAt w sg (gas c.gates)) (hf : PureNet.Formed c) :
    Calls Tryz.prog 16 #[cirV c sg cg so co] w fun e w' => e = .returned (.bool true) ∧ Below w.heap.size w w' := by
  have short : ∀ s : ByteArray, nameB s = true → s.size ≤ 32 := fun s h => by
    apply Classical.byContradiction
    intro hn
    rw [nameB_long s (by omega)] at h
    cases h
  have HC := hid hc
  have HF := hid hf
  have hfew := hf.few
  have NC : Hid (∀ W, Calls Tryz.prog 27 #[.string c.name] W fun e w' => e = .returned (.bool true) ∧ w' = W) := fun W => by
    have := isName_any c.name W (by have := short _ hf.name; omega)
    rw [hf.name] at this
    exact this
  have NG : Hid (∀ (i : Nat) (g : Ga), c.gates[i]? = some g → g.name.size ≤ 32 ∧ ∀ W, Calls Tryz.prog 27 #[.string g.name] W fun e w' => e = .returned (.bool true) ∧ w' = W) := fun i g hg => ⟨short _ (hf.lines i g hg).1, fun W => by
    have := isName_any g.name W (by have := short _ (hf.lines i g hg).1; omega)
    rw [(hf.lines i g hg).1] at this
    exact this⟩
  clear hc hf short
  obtain ⟨x, hx⟩ : ∃ x, x = w.alloc (Obj.cells #[Value.string c.name, Value.slice sg c.gates.length cg, Value.slice so c.outs.length co] 25) := ⟨_, rfl⟩
  have RX : Hid (x.heap[w.heap.size]? = some (.cells #[Value.string c.name, Value.slice sg c.gates.length cg, Value.slice so c.outs.length co] 25 (0, 0))) := by rw [hx]; exact heap_alloc_new w _
  have BX : Hid (Below w.heap.size w x) := by rw [hx]; exact (Below.refl _ _).alloc (Nat.le_refl _) _
  have HX := hid hx
  clear hx
  have hmm := @run_makeMap Tryz.prog
  have cx := fun j => cell_row RX.out j
  have hbx := (Array.getElem?_eq_some_iff.1 RX.out).1
  go_enter Tryz.func16, Tryz.ntmps16
  go_wp2_with (rw [← HX.out])
  obtain ⟨y, hy⟩ : ∃ y, y = x.alloc (.map #[] 0) := ⟨_, rfl⟩
  have N0 : Hid (Nam x y c.gates 0 (.map [])) := by rw [hy]; exact Nam.start x _
  try rw [← hy]
  clear hy hmm cx hbx
  go_loopw [10] (fun iv W => ∃ i : Nat, i ≤ c.gates.length ∧ iv = .int .i64 (i : Int) ∧ Hid (∃ D, Nam x W c.gates i D)) (fun iv _ => c.gates.length - (intOf iv).toNat)
  case atStart => exact ⟨0, Nat.zero_le _, rfl, _, N0.out⟩
  case round =>
    clear N0
    obtain ⟨i, hi, rfl, HR⟩ := hrel
    obtain ⟨D, hN⟩ := HR.out
    clear HR
    have hwr : Below w.heap.size w wr := BX.out.trans (hN.below.mono BX.out.size)
    have hrow := (hN.below.block _ (Array.getElem?_eq_some_iff.1 RX.out).1).trans RX.out
    have c0 := fun j => cell_row hrow j
    have hb0 := (Array.getElem?_eq_some_iff.1 hrow).1
    have NM := hid hN
    have BW := hid hwr
    by_cases hlt : i < c.gates.length
    · obtain ⟨g, hg⟩ : ∃ g, c.gates[i]? = some g := ⟨_, List.getElem?_eq_getElem hlt⟩
      obtain ⟨b, o, rfl, hb, d0, d1, d2, d3, d4, d5⟩ := gate_at (HC.out.below hwr) i g hg
      have NI := hid ((NG.out i g hg).2)
      have hsz : g.name.size ≤ maxLen := by have := (NG.out i g hg).1; unfold maxLen; omega
      have HK := hid (WideMaps.keyOf_string_mk (P := Tryz.prog) Tryz.underlying9 hsz)
      have HV : Hid (plainElem (H := Unit) Tryz.prog 3 (.int .i64 (i : Int)) = some (.lit (.int .i64 (i : Int)), [])) := plainElem_int Tryz.underlying3 (by
        have e1 : IntKind.i64.min = -9223372036854775808 := rfl
        have e2 : IntKind.i64.max = 9223372036854775807 := rfl
        simp [Lit.wf, e1, e2]
        omega)
      have HH : Hid (has D (.string g.name.data.toList) = false) := by
        show _ = _
        cases h : has D (.string g.name.data.toList) with
        | false => rfl
        | true =>
          obtain ⟨j, g2, hj, hg2, e⟩ := hN.only _ h
          have e2 : g.name = g2.name := by
            have h1 : g.name.data = g2.name.data := by
              apply Array.ext'
              exact e
            cases hgn : g.name
            cases hgn2 : g2.name
            rw [hgn, hgn2] at h1
            exact congrArg _ h1
          have := HF.out.apart i j g g2 hg hg2 e2
          omega
      have HG := hid hg
      clear hN hwr hrow hg
      go_wp2_with (first | (go_at_call 27; refine Calls.mono (NI.out _) ?_; rintro e w2 ⟨rfl, rfl⟩) | (at_mapUpdate; refine wpList_mapUpdate_own _ rfl _ _ _ 64 rfl 9 3 (string_keyed Tryz.underlying9) Tryz.underlying64 _ x.heap.size i D rfl (NM.out.own.alloc _) (by unfold maxLen; omega) _ _ (.string g.name.data.toList) rfl rfl HK.out (.lit (.int .i64 (i : Int))) [] HV.out ?_; intro w2 hown2 hg2; have OW := hid hown2; have GR := hid hg2; clear hown2 hg2))
      refine ⟨⟨i + 1, hlt, by go_num, _, OW.out, ?_, OW.out.tidy (string_keyed Tryz.underlying9), fun s hs => ?_, ?_⟩, by simp [intOf]; omega⟩
      · rw [size_put NM.out.tidy, HH.out, NM.out.size]
        rfl
      · by_cases e : (Lit.string s) = .string g.name.data.toList
        · exact ⟨i, g, by omega, HG.out, by simpa using e⟩
        · rw [has_put_other e] at hs
          obtain ⟨j, g2, hj, hg2, e2⟩ := NM.out.only s hs
          exact ⟨j, g2, by omega, hg2, e2⟩
      · exact (NM.out.below.alloc NM.out.below.size _).grown GR.out (by have := NM.out.below.size; simp; omega) (fun j hj => by cases hj; exact Nat.le_refl _)
    · have hin : i = c.gates.length := by omega
      have hlen := fun ty => hN.own.len Tryz.underlying64 ty
      rw [hN.size, hin] at hlen
      clear hN hwr hrow
      go_wp2_with (first | (go_at_call 27; refine Calls.mono (NC.out _) ?_; rintro e w2 ⟨rfl, rfl⟩))

      go_ret
      exact ⟨rfl, BW.out⟩
end Go.Proofs.YtfmmmhcpdinhgabGreatDoor
/-
  The program's areBelow, fits, placed.
-/
namespace Go.Proofs.YtfmmmhcpdinhgabGreatDoor
open Go.RowKit Go.Deep PureNet
set_option maxRecDepth 100000

set_option maxHeartbeats 1000000 in
theorem areBelow_ok (m : Int) (L : List Int) (s : Option Addr) (c : Nat) (w : World) (hc : CellsAt w s (nu L)) (hl : L.length ≤ 1099511627776) (hb : ∀ x ∈ L, 0 ≤ x ∧ x < m) :
    Calls Tryz.prog 29 #[.int .i64 m, .slice s L.length c] w fun e w' => e = .returned (.bool true) ∧ w' = w := by
  have HC := hid hc
  have HB := hid hb
  clear hc hb
  go_enter Tryz.func29, Tryz.ntmps29
  go_wp2
  go_loopw [9] (fun iv W => ∃ i : Nat, i ≤ L.length ∧ iv = .int .i64 (i : Int) ∧ W = w) (fun iv _ => L.length - (intOf iv).toNat)
  case atStart => exact ⟨0, Nat.zero_le _, rfl, rfl⟩
  case round =>
    obtain ⟨i, hi, rfl, rfl⟩ := hrel
    by_cases hlt : i < L.length
    · obtain ⟨y, hy⟩ : ∃ y, L[i]? = some y := ⟨_, List.getElem?_eq_getElem hlt⟩
      obtain ⟨b, o, rfl, hbs, hcell⟩ := num_at HC.out i y hy
      have h2 := HB.out y (List.mem_of_getElem? hy)
      have h3 : ¬ y < 0 := by omega
      have h4 : ¬ m ≤ y := by omega
      clear hy h2
      go_wp2
      exact ⟨⟨i + 1, hlt, by go_num, by first | rfl | trivial⟩, by simp [intOf]; omega⟩
    · go_wp2
      go_ret
      exact ⟨rfl, rfl⟩

theorem line_parts {g : Ga} {n k : Nat} (h : lineB g n = true) (hk : g.kind = (k : Int)) (h1 : 1 ≤ k) (h4 : k ≤ 4) : (0 ≤ g.op ∧ g.op ≤ mostN k) ∧ (∀ x ∈ [g.a, g.b, g.c].take (usesN k), 0 ≤ x ∧ x < (n : Int)) ∧ ∀ x ∈ [g.a, g.b, g.c].drop (usesN k), 0 ≤ x ∧ x < 1 := by
  unfold lineB at h
  simp only [Bool.and_eq_true, decide_eq_true_eq] at h
  obtain ⟨⟨⟨⟨_, _, h2, h3⟩, ha⟩, hb⟩, hc⟩ := h
  rw [hk] at h3 ha hb hc
  have hcases : k = 1 ∨ k = 2 ∨ k = 3 ∨ k = 4 := by omega
  rcases hcases with rfl | rfl | rfl | rfl
  · simp [fieldB, mostOp] at h3 ha hb hc
    simp [usesN, mostN]
    omega
  · simp [fieldB, mostOp] at h3 ha hb hc
    simp [usesN, mostN]
    omega
  · simp [fieldB, mostOp] at h3 ha hb hc
    simp [usesN, mostN]
    omega
  · simp [fieldB, mostOp] at h3 ha hb hc
    simp [usesN, mostN]
    omega

set_option maxHeartbeats 2000000 in
theorem fits_ok (k : Nat) (g : Ga) (n : Nat) (w : World) (hK : KindsAt w) (hk : g.kind = (k : Int)) (h1 : 1 ≤ k) (h4 : k ≤ 4) (hl : lineB g n = true) :
    Calls Tryz.prog 28 #[.agg #[.int .i64 g.kind, .string g.name, .int .i64 g.op, .int .i64 g.a, .int .i64 g.b, .int .i64 g.c], .int .i64 (n : Int)] w fun e w' => e = .returned (.bool true) ∧ Below w.heap.size w w' := by
  obtain ⟨⟨ho0, ho1⟩, hu, hn⟩ := line_parts hl hk h1 h4
  have hu3 : usesN k ≤ 3 := by unfold usesN; (repeat' split) <;> omega
  have rowAt : ∀ (W : World) (b : Nat), W.heap[b]? = some (.cells #[.int .i64 g.a, .int .i64 g.b, .int .i64 g.c] 3 (0, 0)) → ∀ j x, ([g.a, g.b, g.c] : List Int)[j]? = some x → W.cell? ⟨b, j, none⟩ = some (.int .i64 x) ∧ b < W.heap.size := fun W b hr j x hx => by
    refine ⟨?_, (Array.getElem?_eq_some_iff.1 hr).1⟩
    rw [cell_row hr]
    match j, hx with
    | 0, hx => simp at hx; simp [hx]
    | 1, hx => simp at hx; simp [hx]
    | 2, hx => simp at hx; simp [hx]
    | j + 3, hx => simp at hx
  have AU : Hid (∀ (W : World) (b : Nat), W.heap[b]? = some (.cells #[.int .i64 g.a, .int .i64 g.b, .int .i64 g.c] 3 (0, 0)) → Calls Tryz.prog 29 #[.int .i64 (n : Int), .slice (some ⟨b, 0, none⟩) (usesN k) 3] W fun e w' => e = .returned (.bool true) ∧ w' = W) := fun W b hr => by
    have := areBelow_ok n ([g.a, g.b, g.c].take (usesN k)) (some ⟨b, 0, none⟩) 3 W ⟨fun j x hx => ⟨b, 0, rfl, (Array.getElem?_eq_some_iff.1 hr).1, by
      simp only [nu, List.getElem?_map, Option.map_eq_some_iff] at hx
      obtain ⟨y, hy, rfl⟩ := hx
      rw [List.getElem?_take] at hy
      split at hy
      · rw [Nat.zero_add]; exact (rowAt W b hr j y hy).1
      · cases hy⟩⟩ (by simp; omega) hu
    rw [List.length_take, show min (usesN k) [g.a, g.b, g.c].length = usesN k by simp; omega] at this
    exact this
  have AN : Hid (∀ (W : World) (b : Nat) (sv : Option Addr), (usesN k < 3 → sv = some ⟨b, usesN k, none⟩) → W.heap[b]? = some (.cells #[.int .i64 g.a, .int .i64 g.b, .int .i64 g.c] 3 (0, 0)) → Calls Tryz.prog 29 #[.int .i64 1, .slice sv (3 - usesN k) (3 - usesN k)] W fun e w' => e = .returned (.bool true) ∧ w' = W) := fun W b sv hsv hr => by
    have := areBelow_ok 1 ([g.a, g.b, g.c].drop (usesN k)) sv (3 - usesN k) W ⟨fun j x hx => by
      simp only [nu, List.getElem?_map, Option.map_eq_some_iff] at hx
      obtain ⟨y, hy, rfl⟩ := hx
      rw [List.getElem?_drop] at hy
      have hlt := (List.getElem?_eq_some_iff.1 hy).1
      simp at hlt
      obtain ⟨h1, h2⟩ := rowAt W b hr _ y hy
      exact ⟨b, usesN k, hsv (by omega), h2, h1⟩⟩ (by simp; omega) hn
    rw [List.length_drop, show [g.a, g.b, g.c].length - usesN k = 3 - usesN k by simp] at this
    exact this
  obtain ⟨x, hx⟩ : ∃ x, x = w.alloc (Obj.cells #[Value.int .i64 (k : Int), .string g.name, .int .i64 g.op, .int .i64 g.a, .int .i64 g.b, .int .i64 g.c] 42) := ⟨_, rfl⟩
  have BX : Hid (Below w.heap.size w x) := by rw [hx]; exact (Below.refl _ _).alloc (Nat.le_refl _) _
  have C0 : Hid (x.heap[w.heap.size]? = some (.cells #[Value.int .i64 (k : Int), .string g.name, .int .i64 g.op, .int .i64 g.a, .int .i64 g.b, .int .i64 g.c] 42 (0, 0))) := by rw [hx]; exact heap_alloc_new w _
  have KS : Hid (∀ W, Below x.heap.size x W → W.cell? ⟨w.heap.size, 0, none⟩ = some (.int .i64 (k : Int)) ∧ W.cell? ⟨w.heap.size, 1, none⟩ = some (.string g.name) ∧ W.cell? ⟨w.heap.size, 2, none⟩ = some (.int .i64 g.op) ∧ W.cell? ⟨w.heap.size, 3, none⟩ = some (.int .i64 g.a) ∧ W.cell? ⟨w.heap.size, 4, none⟩ = some (.int .i64 g.b) ∧ W.cell? ⟨w.heap.size, 5, none⟩ = some (.int .i64 g.c) ∧ W.cell? ⟨1, k * 3 + 1, none⟩ = some (.int .i64 (mostN k))) := fun W hW => by
    have h2 := (hW.block _ (Array.getElem?_eq_some_iff.1 C0.out).1).trans C0.out
    exact ⟨cell_row h2 0, cell_row h2 1, cell_row h2 2, cell_row h2 3, cell_row h2 4, cell_row h2 5, ((hK.on BX.out).on hW).op k h1 h4⟩
  have US : Hid (∀ W, Below x.heap.size x W → _) := fun W hW => used_any k g W ((hK.on BX.out).on hW) hk h1 h4
  have UN : Hid (∀ W, Below x.heap.size x W → _) := fun W hW => unused_any k g W ((hK.on BX.out).on hW) hk h1 h4
  have c0 := fun j => cell_row C0.out j
  have hb0 := (Array.getElem?_eq_some_iff.1 C0.out).1
  have HX := hid hx
  have h5 : ¬ (k : Int) < 1 := by omega
  have h6 : ¬ (4 : Int) < (k : Int) := by omega
  rw [hk] at US UN
  rw [hk]
  clear hx hK hk hl hu hn rowAt
  go_enter Tryz.func28, Tryz.ntmps28
  go_wp2_with (rw [← HX.out])
  refine wp_region_noPanic ?_
  refine wp_region_held_drew (S := fun W => W.cell? ⟨w.heap.size, 0, none⟩ = some (.int .i64 (k : Int)) ∧ W.cell? ⟨w.heap.size, 1, none⟩ = some (.string g.name) ∧ W.cell? ⟨w.heap.size, 2, none⟩ = some (.int .i64 g.op) ∧ W.cell? ⟨w.heap.size, 3, none⟩ = some (.int .i64 g.a) ∧ W.cell? ⟨w.heap.size, 4, none⟩ = some (.int .i64 g.b) ∧ W.cell? ⟨w.heap.size, 5, none⟩ = some (.int .i64 g.c) ∧ W.cell? ⟨1, k * 3 + 1, none⟩ = some (.int .i64 (mostN k))) (by kernel_rfl) (KS.out _ (Below.refl _ _).drew) (fun hHeld => ?_)
  refine wpAnyH_take (i := 0) (v := ?_) (by simp only [List.getElem?_toArray, List.getElem?_cons_zero]; rfl) (by kernel_rfl) (by kernel_rfl) (by kernel_rfl) (fun _ _ _ h => h) (Or.inl ⟨by rfl, ?_⟩) (by assumption) ?_
  rotate_left 1
  · intro w hSw; (try dsimp only at hSw); go_simp; (try with_reducible rfl)
  try simp only [Act.put, List.setIfInBounds_toArray, List.set_cons_zero, List.set_cons_succ]
  refine wpAnyH_take (i := 1) (v := ?_) (by simp only [List.getElem?_toArray, List.getElem?_cons_succ, List.getElem?_cons_zero]; rfl) (by kernel_rfl) (by kernel_rfl) (by kernel_rfl) (fun _ _ _ h => h) (Or.inl ⟨by rfl, ?_⟩) (by assumption) ?_
  rotate_left 1
  · intro w hSw; (try dsimp only at hSw); go_simp; (try with_reducible rfl)
  try simp only [Act.put, List.setIfInBounds_toArray, List.set_cons_zero, List.set_cons_succ]
  refine wpAnyH_take (i := 2) (v := .bool true) (by simp only [List.getElem?_toArray, List.getElem?_cons_succ, List.getElem?_cons_zero]; rfl) (by kernel_rfl) (by kernel_rfl) (by kernel_rfl) (fun _ _ _ h => h) (Or.inl ⟨by rfl, ?_⟩) (by assumption) ?_
  · intro w hSw; (try dsimp only at hSw); (try go_simp); ((try simp); (try omega))
  try simp only [Act.put, List.setIfInBounds_toArray, List.set_cons_zero, List.set_cons_succ]
  refine wpAnyH_take (i := 3) (v := ?_) (by simp only [List.getElem?_toArray, List.getElem?_cons_succ, List.getElem?_cons_zero]; rfl) (by kernel_rfl) (by kernel_rfl) (by kernel_rfl) (fun _ _ _ h => h) (Or.inl ⟨by rfl, ?_⟩) (by assumption) ?_
  rotate_left 1
  · intro w hSw; (try dsimp only at hSw); go_simp; (try with_reducible rfl)
  try simp only [Act.put, List.setIfInBounds_toArray, List.set_cons_zero, List.set_cons_succ]
  refine wpAnyH_take (i := 4) (v := ?_) (by simp only [List.getElem?_toArray, List.getElem?_cons_succ, List.getElem?_cons_zero]; rfl) (by kernel_rfl) (by kernel_rfl) (by kernel_rfl) (fun _ _ _ h => h) (Or.inl ⟨by rfl, ?_⟩) (by assumption) ?_
  rotate_left 1
  · intro w hSw; (try dsimp only at hSw); go_simp; (try with_reducible rfl)
  try simp only [Act.put, List.setIfInBounds_toArray, List.set_cons_zero, List.set_cons_succ]
  refine wpAnyH_take (i := 5) (v := ?_) (by simp only [List.getElem?_toArray, List.getElem?_cons_succ, List.getElem?_cons_zero]; rfl) (by kernel_rfl) (by kernel_rfl) (by kernel_rfl) (fun _ _ _ h => h) (Or.inl ⟨by rfl, ?_⟩) (by assumption) ?_
  rotate_left 1
  · intro w hSw; (try dsimp only at hSw); go_simp; (try with_reducible rfl)
  try simp only [Act.put, List.setIfInBounds_toArray, List.set_cons_zero, List.set_cons_succ]
  refine wpAnyH_take (i := 6) (v := ?_) (by simp only [List.getElem?_toArray, List.getElem?_cons_succ, List.getElem?_cons_zero]; rfl) (by kernel_rfl) (by kernel_rfl) (by kernel_rfl) (fun _ _ _ h => h) (Or.inl ⟨by rfl, ?_⟩) (by assumption) ?_
  rotate_left 1
  · intro w hSw; (try dsimp only at hSw); go_simp; (try with_reducible rfl)
  try simp only [Act.put, List.setIfInBounds_toArray, List.set_cons_zero, List.set_cons_succ]
  refine wpAnyH_take (i := 7) (v := ?_) (by simp only [List.getElem?_toArray, List.getElem?_cons_succ, List.getElem?_cons_zero]; rfl) (by kernel_rfl) (by kernel_rfl) (by kernel_rfl) (fun _ _ _ h => h) (Or.inl ⟨by rfl, ?_⟩) (by assumption) ?_
  rotate_left 1
  · intro w hSw; (try dsimp only at hSw); go_simp; (try with_reducible rfl)
  try simp only [Act.put, List.setIfInBounds_toArray, List.set_cons_zero, List.set_cons_succ]
  refine wpAnyH_take (i := 8) (v := .pointer (some ⟨1, k * 3, none⟩)) (by simp only [List.getElem?_toArray, List.getElem?_cons_succ, List.getElem?_cons_zero]; rfl) (by kernel_rfl) (by kernel_rfl) (by kernel_rfl) (fun _ _ _ h => h) (Or.inl ⟨by rfl, ?_⟩) (by assumption) ?_
  · intro w hSw; (try dsimp only at hSw); (try go_simp); (intro h9; omega)
  try simp only [Act.put, List.setIfInBounds_toArray, List.set_cons_zero, List.set_cons_succ]
  refine wpAnyH_take (i := 9) (v := ?_) (by simp only [List.getElem?_toArray, List.getElem?_cons_succ, List.getElem?_cons_zero]; rfl) (by kernel_rfl) (by kernel_rfl) (by kernel_rfl) (fun _ _ _ h => h) (Or.inl ⟨by rfl, ?_⟩) (by assumption) ?_
  rotate_left 1
  · intro w hSw; (try dsimp only at hSw); go_simp; (try with_reducible rfl)
  try simp only [Act.put, List.setIfInBounds_toArray, List.set_cons_zero, List.set_cons_succ]
  refine wpAnyH_take (i := 10) (v := ?_) (by simp only [List.getElem?_toArray, List.getElem?_cons_succ, List.getElem?_cons_zero]; rfl) (by kernel_rfl) (by kernel_rfl) (by kernel_rfl) (fun _ _ _ h => h) (Or.inl ⟨by rfl, ?_⟩) (by assumption) ?_
  rotate_left 1
  · intro w hSw; (try dsimp only at hSw); go_simp; (try with_reducible rfl)
  try simp only [Act.put, List.setIfInBounds_toArray, List.set_cons_zero, List.set_cons_succ]
  refine wpAnyH_take (i := 11) (v := .bool true) (by simp only [List.getElem?_toArray, List.getElem?_cons_succ, List.getElem?_cons_zero]; rfl) (by kernel_rfl) (by kernel_rfl) (by kernel_rfl) (fun _ _ _ h => h) (Or.inl ⟨by rfl, ?_⟩) (by assumption) ?_
  · intro w hSw; (try dsimp only at hSw); (try go_simp); ((try simp); (try omega))
  try simp only [Act.put, List.setIfInBounds_toArray, List.set_cons_zero, List.set_cons_succ]
  refine wpAnyH_take (i := 12) (v := ?_) (by simp only [List.getElem?_toArray, List.getElem?_cons_succ, List.getElem?_cons_zero]; rfl) (by kernel_rfl) (by kernel_rfl) (by kernel_rfl) (fun _ _ _ h => h) (Or.inl ⟨by rfl, ?_⟩) (by assumption) ?_
  rotate_left 1
  · intro w hSw; (try dsimp only at hSw); go_simp; (try with_reducible rfl)
  try simp only [Act.put, List.setIfInBounds_toArray, List.set_cons_zero, List.set_cons_succ]
  refine wpAnyH_take (i := 13) (v := ?_) (by simp only [List.getElem?_toArray, List.getElem?_cons_succ, List.getElem?_cons_zero]; rfl) (by kernel_rfl) (by kernel_rfl) (by kernel_rfl) (fun _ _ _ h => h) (Or.inl ⟨by rfl, ?_⟩) (by assumption) ?_
  rotate_left 1
  · intro w hSw; (try dsimp only at hSw); go_simp; (try with_reducible rfl)
  try simp only [Act.put, List.setIfInBounds_toArray, List.set_cons_zero, List.set_cons_succ]
  refine wpAnyH_take (i := 14) (v := ?_) (by simp only [List.getElem?_toArray, List.getElem?_cons_succ, List.getElem?_cons_zero]; rfl) (by kernel_rfl) (by kernel_rfl) (by kernel_rfl) (fun _ _ _ h => h) (Or.inl ⟨by rfl, ?_⟩) (by assumption) ?_
  rotate_left 1
  · intro w hSw; (try dsimp only at hSw); go_simp; (try with_reducible rfl)
  try simp only [Act.put, List.setIfInBounds_toArray, List.set_cons_zero, List.set_cons_succ]
  refine wpAnyH_take (i := 15) (v := ?_) (by simp only [List.getElem?_toArray, List.getElem?_cons_succ, List.getElem?_cons_zero]; rfl) (by kernel_rfl) (by kernel_rfl) (by kernel_rfl) (fun _ _ _ h => h) (Or.inl ⟨by rfl, ?_⟩) (by assumption) ?_
  rotate_left 1
  · intro w hSw; (try dsimp only at hSw); go_simp; (try with_reducible rfl)
  try simp only [Act.put, List.setIfInBounds_toArray, List.set_cons_zero, List.set_cons_succ]
  refine wpAnyH_ready (rs := [16]) (by kernel_rfl) (by simp) ?_
  refine AllReadyH.cons (by simp only [List.getElem?_toArray, List.getElem?_cons_succ, List.getElem?_cons_zero]; rfl) (fun K hK => ?_) AllReadyH.nil
  go_simp
  go_at_call 44
  refine Calls.mono (US.out _ (Below.refl _ _).drew) ?_
  rintro e w2 ⟨b, rfl, hb, hrow, b2⟩
  have B2 : Hid (Below x.heap.size x w2) := (Below.refl x.heap.size x).drew.trans b2
  have R2 := hid hrow
  clear hb hrow b2
  clear hHeld
  refine hK.out _ _ (KS.out _ B2.out) (fun hHeld => ?_)
  clear hK K
  try simp only [Act.put, List.setIfInBounds_toArray, List.set_cons_zero, List.set_cons_succ]
  refine wpAnyH_ready (rs := [17]) (by kernel_rfl) (by simp) ?_
  refine AllReadyH.cons (by simp only [List.getElem?_toArray, List.getElem?_cons_succ, List.getElem?_cons_zero]; rfl) (fun K hK => ?_) AllReadyH.nil
  go_simp
  go_at_call 29
  refine Calls.mono (AU.out _ _ R2.out) ?_
  rintro e w3 ⟨rfl, rfl⟩
  clear hHeld
  refine hK.out _ _ (KS.out _ B2.out) (fun hHeld => ?_)
  clear hK K
  try simp only [Act.put, List.setIfInBounds_toArray, List.set_cons_zero, List.set_cons_succ]
  refine wpAnyH_take (i := 18) (v := ?_) (by simp only [List.getElem?_toArray, List.getElem?_cons_succ, List.getElem?_cons_zero]; rfl) (by kernel_rfl) (by kernel_rfl) (by kernel_rfl) (fun _ _ _ h => h) (Or.inl ⟨by rfl, ?_⟩) (by assumption) ?_
  rotate_left 1
  · intro w hSw; (try dsimp only at hSw); go_simp; (try with_reducible rfl)
  try simp only [Act.put, List.setIfInBounds_toArray, List.set_cons_zero, List.set_cons_succ]
  refine wpAnyH_take (i := 19) (v := ?_) (by simp only [List.getElem?_toArray, List.getElem?_cons_succ, List.getElem?_cons_zero]; rfl) (by kernel_rfl) (by kernel_rfl) (by kernel_rfl) (fun _ _ _ h => h) (Or.inl ⟨by rfl, ?_⟩) (by assumption) ?_
  rotate_left 1
  · intro w hSw; (try dsimp only at hSw); go_simp; (try with_reducible rfl)
  try simp only [Act.put, List.setIfInBounds_toArray, List.set_cons_zero, List.set_cons_succ]
  refine wpAnyH_take (i := 20) (v := ?_) (by simp only [List.getElem?_toArray, List.getElem?_cons_succ, List.getElem?_cons_zero]; rfl) (by kernel_rfl) (by kernel_rfl) (by kernel_rfl) (fun _ _ _ h => h) (Or.inl ⟨by rfl, ?_⟩) (by assumption) ?_
  rotate_left 1
  · intro w hSw; (try dsimp only at hSw); go_simp; (try with_reducible rfl)
  try simp only [Act.put, List.setIfInBounds_toArray, List.set_cons_zero, List.set_cons_succ]
  refine wpAnyH_ready (rs := [21]) (by kernel_rfl) (by simp) ?_
  refine AllReadyH.cons (by simp only [List.getElem?_toArray, List.getElem?_cons_succ, List.getElem?_cons_zero]; rfl) (fun K hK => ?_) AllReadyH.nil
  go_simp
  go_at_call 47
  refine Calls.mono (UN.out _ B2.out) ?_
  rintro e w4 ⟨b4, sv, rfl, hsv, _, hrow4, b4b⟩
  have B4 : Hid (Below x.heap.size x w4) := B2.out.trans (b4b.mono B2.out.size)
  have R4 := hid hrow4
  have SV := hid hsv
  clear hrow4 b4b hsv
  clear hHeld
  refine hK.out _ _ (KS.out _ B4.out) (fun hHeld => ?_)
  clear hK K
  try simp only [Act.put, List.setIfInBounds_toArray, List.set_cons_zero, List.set_cons_succ]
  refine wpAnyH_ready (rs := [22]) (by kernel_rfl) (by simp) ?_
  refine AllReadyH.cons (by simp only [List.getElem?_toArray, List.getElem?_cons_succ, List.getElem?_cons_zero]; rfl) (fun K hK => ?_) AllReadyH.nil
  go_simp
  go_at_call 29
  refine Calls.mono (AN.out _ _ _ SV.out R4.out) ?_
  rintro e w5 ⟨rfl, rfl⟩
  clear hHeld
  refine hK.out _ _ (KS.out _ B4.out) (fun hHeld => ?_)
  clear hK K
  try simp only [Act.put, List.setIfInBounds_toArray, List.set_cons_zero, List.set_cons_succ]
  refine wpAnyH_take (i := 23) (v := ?_) (by simp only [List.getElem?_toArray, List.getElem?_cons_succ, List.getElem?_cons_zero]; rfl) (by kernel_rfl) (by kernel_rfl) (by kernel_rfl) (fun _ _ _ h => h) (Or.inl ⟨by rfl, ?_⟩) (by assumption) ?_
  rotate_left 1
  · intro w hSw; (try dsimp only at hSw); go_simp; (try with_reducible rfl)
  try simp only [Act.put, List.setIfInBounds_toArray, List.set_cons_zero, List.set_cons_succ]
  refine wpAnyH_take (i := 24) (v := ?_) (by simp only [List.getElem?_toArray, List.getElem?_cons_succ, List.getElem?_cons_zero]; rfl) (by kernel_rfl) (by kernel_rfl) (by kernel_rfl) (fun _ _ _ h => h) (Or.inl ⟨by rfl, ?_⟩) (by assumption) ?_
  rotate_left 1
  · intro w hSw; (try dsimp only at hSw); go_simp; (try with_reducible rfl)
  try simp only [Act.put, List.setIfInBounds_toArray, List.set_cons_zero, List.set_cons_succ]
  refine wpAnyH_done (by kernel_rfl) ?_ _
  refine NoPanic.normal ?_
  go_wp2
  go_ret
  exact ⟨rfl, BX.out.trans (B4.out.mono BX.out.size)⟩

theorem kind_nat {g : Ga} {n : Nat} (h : lineB g n = true) : ∃ k : Nat, g.kind = (k : Int) ∧ 1 ≤ k ∧ k ≤ 4 := by
  obtain ⟨h1, h2⟩ := lineB_kind h
  exact ⟨g.kind.toNat, by omega, by omega, by omega⟩

set_option maxHeartbeats 2000000 in
theorem placed_ok (c : Net) (sg so : Option Addr) (cg co : Nat) (w : World) (hc : CirAt w c sg so) (hkd : KindsAt w) (hf : PureNet.Formed c) :
    Calls Tryz.prog 17 #[cirV c sg cg so co] w fun e w' => e = .returned (.bool true) ∧ Below w.heap.size w w' := by
  have HC := hid hc
  have KD := hid hkd
  have hfew := hf.few
  have hfewo := hf.fewOuts
  have FT : Hid (∀ (i : Nat) (g : Ga), c.gates[i]? = some g → ∀ W, Below w.heap.size w W → Calls Tryz.prog 28 #[.agg #[.int .i64 g.kind, .string g.name, .int .i64 g.op, .int .i64 g.a, .int .i64 g.b, .int .i64 g.c], .int .i64 (c.gates.length : Int)] W fun e w' => e = .returned (.bool true) ∧ Below W.heap.size W w') := fun i g hg W hW => by
    obtain ⟨k, hk, h1, h4⟩ := kind_nat (hf.lines i g hg).2
    exact fits_ok k g c.gates.length W (hkd.on hW) hk h1 h4 (hf.lines i g hg).2
  have AB : Hid (∀ W, Below w.heap.size w W → Calls Tryz.prog 29 #[.int .i64 (c.gates.length : Int), .slice so c.outs.length co] W fun e w' => e = .returned (.bool true) ∧ w' = W) := fun W hW => areBelow_ok _ c.outs so co W (hc.below hW).outs (by omega) hf.outs
  clear hc hkd hf
  obtain ⟨x, hx⟩ : ∃ x, x = w.alloc (Obj.cells #[Value.string c.name, Value.slice sg c.gates.length cg, Value.slice so c.outs.length co] 25) := ⟨_, rfl⟩
  have RX : Hid (x.heap[w.heap.size]? = some (.cells #[Value.string c.name, Value.slice sg c.gates.length cg, Value.slice so c.outs.length co] 25 (0, 0))) := by rw [hx]; exact heap_alloc_new w _
  have BX : Hid (Below w.heap.size w x) := by rw [hx]; exact (Below.refl _ _).alloc (Nat.le_refl _) _
  have HX := hid hx
  have cx := fun j => cell_row RX.out j
  have hbx := (Array.getElem?_eq_some_iff.1 RX.out).1
  clear hx
  go_enter Tryz.func17, Tryz.ntmps17
  go_wp2_with (rw [← HX.out])
  clear cx hbx
  go_loopw [8] (fun iv W => ∃ i : Nat, i ≤ c.gates.length ∧ iv = .int .i64 (i : Int) ∧ Hid (Below x.heap.size x W)) (fun iv _ => c.gates.length - (intOf iv).toNat)
  case atStart => exact ⟨0, Nat.zero_le _, rfl, Below.refl _ _⟩
  case round =>
    obtain ⟨i, hi, rfl, HB⟩ := hrel
    have bw : Below w.heap.size w wr := BX.out.trans (HB.out.mono BX.out.size)
    have hrow := (HB.out.block _ (Array.getElem?_eq_some_iff.1 RX.out).1).trans RX.out
    have c0 := fun j => cell_row hrow j
    have hb0 := (Array.getElem?_eq_some_iff.1 hrow).1
    have BW := hid bw
    by_cases hlt : i < c.gates.length
    · obtain ⟨g, hg⟩ : ∃ g, c.gates[i]? = some g := ⟨_, List.getElem?_eq_getElem hlt⟩
      obtain ⟨b, o, rfl, hb, d0, d1, d2, d3, d4, d5⟩ := gate_at (HC.out.below bw).gates i g hg
      have FI : Hid (∀ ob : Obj, _) := fun ob => FT.out i g hg (wr.alloc ob) (bw.alloc bw.size ob)
      clear bw hrow hg
      go_wp2_with (first | (go_at_call 28; refine Calls.mono (FI.out _) ?_; rintro e w2 ⟨rfl, b2⟩; have B2 : Hid (Below x.heap.size x w2) := (HB.out.alloc HB.out.size _).trans (b2.mono (by have := HB.out.size; simp; omega)); clear b2))
      exact ⟨⟨i + 1, hlt, by go_num, B2.out⟩, by simp [intOf]; omega⟩
    · have AW := hid (AB.out wr bw)
      clear bw hrow
      go_wp2_with (first | (go_at_call 29; refine Calls.mono AW.out ?_; rintro e w2 ⟨rfl, rfl⟩))
      go_ret
      exact ⟨rfl, BW.out⟩
end Go.Proofs.YtfmmmhcpdinhgabGreatDoor
/-
  The program's Formed, First.
-/
namespace Go.Proofs.YtfmmmhcpdinhgabGreatDoor
open Go.RowKit Go.Deep PureNet
set_option maxRecDepth 100000

theorem formed_lines {c : Net} (hf : PureNet.Formed c) : ∀ (i : Nat) (g : Ga), c.gates[i]? = some g → (1 ≤ g.kind ∧ g.kind ≤ 4) ∧ ∀ a ∈ leansOn g, 0 ≤ a ∧ a < (c.gates.length : Int) :=
  fun i g hg => ⟨lineB_kind (hf.lines i g hg).2, fun _ ha => lineB_leans (hf.lines i g hg).2 ha⟩

set_option maxHeartbeats 2000000 in
theorem formed_ok (c : Net) (sg so : Option Addr) (cg co : Nat) (w : World) (hc : CirAt w c sg so) (hkd : KindsAt w) (hf : PureNet.Formed c) :
    Calls Tryz.prog 7 #[cirV c sg cg so co] w fun e w' => e = .returned (.bool true) ∧ Below w.heap.size w w' := by
  obtain ⟨x, hx⟩ : ∃ x, x = w.alloc (Obj.cells #[Value.string c.name, Value.slice sg c.gates.length cg, Value.slice so c.outs.length co] 25) := ⟨_, rfl⟩
  have RX : Hid (x.heap[w.heap.size]? = some (.cells #[Value.string c.name, Value.slice sg c.gates.length cg, Value.slice so c.outs.length co] 25 (0, 0))) := by rw [hx]; exact heap_alloc_new w _
  have BX : Hid (Below w.heap.size w x) := by rw [hx]; exact (Below.refl _ _).alloc (Nat.le_refl _) _
  have CE : Hid (∀ W, Below x.heap.size x W → (∀ j, W.cell? ⟨w.heap.size, j, none⟩ = (#[Value.string c.name, Value.slice sg c.gates.length cg, Value.slice so c.outs.length co] : Array Value)[j]?) ∧ w.heap.size < W.heap.size) := fun W hW => by
    have h2 := (hW.block _ (Array.getElem?_eq_some_iff.1 RX.out).1).trans RX.out
    exact ⟨fun j => cell_row h2 j, (Array.getElem?_eq_some_iff.1 h2).1⟩
  have C1 := hid (within_ok c sg so cg co x hf.few hf.fewOuts)
  have C2 : Hid (∀ W, Below x.heap.size x W → _) := fun W hW => named_ok c sg so cg co W ((hc.below BX.out).below hW).gates hf
  have C3 : Hid (∀ W, Below x.heap.size x W → _) := fun W hW => placed_ok c sg so cg co W ((hc.below BX.out).below hW) ((hkd.on BX.out).on hW) hf
  have C4 : Hid (∀ W, Below x.heap.size x W → _) := fun W hW => firstInCircle_any c.gates sg cg c.gates.length W ((hc.below BX.out).below hW).gates ((hkd.on BX.out).on hW) rfl hf.few (formed_lines hf) hf.free
  obtain ⟨d0, hb0⟩ := CE.out x (Below.refl _ _)
  have HX := hid hx
  clear hx hc hkd hf
  go_enter Tryz.func7, Tryz.ntmps7
  go_wp2_with (first
    | (rw [← HX.out])
    | (go_at_call 18; refine Calls.mono (C4.out w3 B3.out) ?_; rintro e w4 ⟨rfl, b4⟩; have B4 : Hid (Below x.heap.size x w4) := B3.out.trans (b4.mono B3.out.size); clear b4)
    | (go_at_call 17; refine Calls.mono (C3.out w2 B2.out) ?_; rintro e w3 ⟨rfl, b3⟩; have B3 : Hid (Below x.heap.size x w3) := B2.out.trans (b3.mono B2.out.size); obtain ⟨d3, hb3⟩ := CE.out w3 B3.out; clear b3)
    | (go_at_call 16; refine Calls.mono (C2.out w1 B1.out) ?_; rintro e w2 ⟨rfl, b2⟩; have B2 : Hid (Below x.heap.size x w2) := B1.out.trans (b2.mono B1.out.size); obtain ⟨d2, hb2⟩ := CE.out w2 B2.out; clear b2)
    | (go_at_call 15; refine Calls.mono C1.out ?_; rintro e w1 ⟨rfl, b1⟩; have B1 : Hid (Below x.heap.size x w1) := b1; obtain ⟨d1, hb1⟩ := CE.out w1 B1.out; clear b1))
  go_ret
  exact ⟨rfl, BX.out.trans (B4.out.mono BX.out.size)⟩

end Go.Proofs.YtfmmmhcpdinhgabGreatDoor
/-
  The program's within, areBelow, fits, placed of any value.
-/
namespace Go.Proofs.YtfmmmhcpdinhgabGreatDoor
open Go.RowKit Go.Deep PureNet
set_option maxRecDepth 100000

set_option maxHeartbeats 1000000 in
theorem pwithin_any (c : Net) (sg so : Option Addr) (cg co : Nat) (w : World) :
    Calls Tryz.prog 15 #[cirV c sg cg so co] w fun e w' => e = .returned (.bool (decide (c.gates.length ≤ 65536) && decide (c.outs.length ≤ 65536))) ∧ Below w.heap.size w w' := by
  by_cases hl : c.gates.length ≤ 65536
  · have h1 : (c.gates.length : Int) ≤ 65536 := by omega
    by_cases ho : c.outs.length ≤ 65536
    · have h2 : (c.outs.length : Int) ≤ 65536 := by omega
      have HD : Hid ((decide (c.gates.length ≤ 65536) && decide (c.outs.length ≤ 65536)) = true) := by show _ = _; simp [hl, ho]
      clear hl ho
      go_enter Tryz.func15, Tryz.ntmps15
      go_wp2
      go_ret
      rw [HD.out]
      exact ⟨rfl, (Below.refl _ _).alloc (Nat.le_refl _) _⟩
    · have h2 : ¬ (c.outs.length : Int) ≤ 65536 := by omega
      have HD : Hid ((decide (c.gates.length ≤ 65536) && decide (c.outs.length ≤ 65536)) = false) := by show _ = _; simp [ho]
      clear hl ho
      go_enter Tryz.func15, Tryz.ntmps15
      go_wp2
      go_ret
      rw [HD.out]
      exact ⟨rfl, (Below.refl _ _).alloc (Nat.le_refl _) _⟩
  · have h1 : ¬ (c.gates.length : Int) ≤ 65536 := by omega
    have HD : Hid ((decide (c.gates.length ≤ 65536) && decide (c.outs.length ≤ 65536)) = false) := by show _ = _; simp [hl]
    clear hl
    go_enter Tryz.func15, Tryz.ntmps15
    go_wp2
    go_ret
    rw [HD.out]
    exact ⟨rfl, (Below.refl _ _).alloc (Nat.le_refl _) _⟩

def belowB (m : Int) (L : List Int) : Bool := L.all fun x => decide (0 ≤ x ∧ x < m)
set_option maxHeartbeats 1000000 in
theorem areBelow_any (m : Int) (L : List Int) (s : Option Addr) (c : Nat) (w : World) (hc : CellsAt w s (nu L)) (hl : L.length ≤ 1099511627776) :
    Calls Tryz.prog 29 #[.int .i64 m, .slice s L.length c] w fun e w' => e = .returned (.bool (belowB m L)) ∧ w' = w := by
  have HC := hid hc
  clear hc
  go_enter Tryz.func29, Tryz.ntmps29
  go_wp2
  go_loopw [9] (fun iv W => ∃ i : Nat, i ≤ L.length ∧ iv = .int .i64 (i : Int) ∧ W = w ∧ Hid (∀ (j : Nat) (y : Int), j < i → L[j]? = some y → 0 ≤ y ∧ y < m)) (fun iv _ => L.length - (intOf iv).toNat)
  case atStart => exact ⟨0, Nat.zero_le _, rfl, rfl, fun j y hj => by omega⟩
  case round =>
    obtain ⟨i, hi, rfl, rfl, HR⟩ := hrel
    by_cases hlt : i < L.length
    · obtain ⟨y, hy⟩ : ∃ y, L[i]? = some y := ⟨_, List.getElem?_eq_getElem hlt⟩
      obtain ⟨b, o, rfl, hbs, hcell⟩ := num_at HC.out i y hy
      have NO : ¬ (0 ≤ y ∧ y < m) → Hid (belowB m L = false) := fun h => by
        show _ = _
        unfold belowB
        rw [List.all_eq_false]
        exact ⟨y, List.mem_of_getElem? hy, by simpa using h⟩
      have HY := hid hy
      by_cases h0 : y < 0
      · have HN := NO (by omega)
        clear NO HR hy
        go_wp2
        go_ret
        rw [HN.out]
        exact ⟨rfl, rfl⟩
      · by_cases h1 : m ≤ y
        · have HN := NO (by omega)
          clear NO HR hy
          go_wp2
          go_ret
          rw [HN.out]
          exact ⟨rfl, rfl⟩
        · have NX : Hid (∀ (j : Nat) (z : Int), j < i + 1 → L[j]? = some z → 0 ≤ z ∧ z < m) := fun j z hj hz => by
            by_cases e : j = i
            · subst e
              rw [HY.out] at hz
              cases hz
              omega
            · exact HR.out j z (by omega) hz
          clear NO HR hy
          go_wp2
          exact ⟨⟨i + 1, hlt, by go_num, by first | rfl | trivial, NX.out⟩, by simp [intOf]; omega⟩
    · have HN : Hid (belowB m L = true) := by
        show _ = _
        unfold belowB
        rw [List.all_eq_true]
        intro x hx
        obtain ⟨j, hj, e⟩ := List.getElem_of_mem hx
        have := HR.out j x (by omega) (by rw [List.getElem?_eq_getElem hj, e])
        simpa using this
      clear HR
      go_wp2
      go_ret
      rw [HN.out]
      exact ⟨rfl, rfl⟩
end Go.Proofs.YtfmmmhcpdinhgabGreatDoor
