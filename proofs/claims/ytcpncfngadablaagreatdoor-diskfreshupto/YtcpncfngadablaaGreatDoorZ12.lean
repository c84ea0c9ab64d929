import Derived.Test.YtcpncfngadablaaGreatDoorZ11
namespace Go.Proofs.YtcpncfngadablaaGreatDoor
open Go.RowKit Go.Deep

def toldV (e N : Int) (b : Bool) (dv nv : Value) (c : Cnt) : Value := .agg #[.int .i64 e, .int .i64 N, .bool b, dv, nv, .int .i64 c.calls, .int .i64 c.reads, .int .i64 c.appends, .int .i64 c.faults, .int .i64 c.full, .int .i64 c.used, .int .i64 c.most]
def cnt0 : Cnt := ⟨0, 0, 0, 0, 0, 0, 0⟩
def zeroT : Array Value := #[.int .i64 0, .int .i64 0, .bool false, .slice none 0 0, .slice none 0 0, .int .i64 0, .int .i64 0, .int .i64 0, .int .i64 0, .int .i64 0, .int .i64 0, .int .i64 0]

section
variable {w w' : World} {E : Nat → Addr} {lo p mf mt : Nat} {D : DiskC}

/-- the world with which the switch is met. -/
def startW (w : World) (o : Array Value) : World := ((w.alloc (.cells o 40)).alloc (.cells zeroT 36)).alloc (.cells zeroT 36)

structure Start (w W : World) (o : Array Value) : Prop where
  op : W.heap[w.heap.size]? = some (.cells o 40 (0, 0))
  res : W.heap[w.heap.size + 1]? = some (.cells zeroT 36 (0, 0))
  told : W.heap[w.heap.size + 1 + 1]? = some (.cells zeroT 36 (0, 0))
  touch : Touch [] w W
  size : W.heap.size = w.heap.size + 3

theorem start_ok (w : World) (o : Array Value) : Start w (startW w o) o := by
  have h2 := heap_two w (.cells o 40) (.cells zeroT 36)
  refine ⟨?_, ?_, ?_, (((Touch.refl [] w).alloc _).alloc _).alloc _, by simp [startW]⟩
  · unfold startW
    rw [Below.heap_alloc _ _ _ (by simp; omega)]
    exact h2.1
  · unfold startW
    rw [Below.heap_alloc _ _ _ (by simp)]
    exact h2.2
  · have := heap_alloc_new ((w.alloc (.cells o 40)).alloc (.cells zeroT 36)) (.cells zeroT 36)
    simpa [startW] using this

/-- the last store. -/
theorem prog_end {w2 : World} {b : Nat} (hr : w2.heap[b]? = some (.cells zeroT 36 (0, 0))) (e N : Int) (bb : Bool) (dv nv : Value) (c : Cnt) :
    ∃ W2, W2 = (((((((((((w2.setCell ⟨b, 0, none⟩ (.int .i64 e)).setCell ⟨b, 1, none⟩ (.int .i64 N)).setCell ⟨b, 2, none⟩ (.bool bb)).setCell ⟨b, 3, none⟩ dv).setCell ⟨b, 4, none⟩ nv).setCell ⟨b, 5, none⟩ (.int .i64 c.calls)).setCell ⟨b, 6, none⟩ (.int .i64 c.reads)).setCell ⟨b, 7, none⟩ (.int .i64 c.appends)).setCell ⟨b, 8, none⟩ (.int .i64 c.faults)).setCell ⟨b, 9, none⟩ (.int .i64 c.full)).setCell ⟨b, 10, none⟩ (.int .i64 c.used)).setCell ⟨b, 11, none⟩ (.int .i64 c.most) ∧
      (∀ i, W2.cell? ⟨b, i, none⟩ = #[Value.int .i64 e, .int .i64 N, .bool bb, dv, nv, .int .i64 c.calls, .int .i64 c.reads, .int .i64 c.appends, .int .i64 c.faults, .int .i64 c.full, .int .i64 c.used, .int .i64 c.most][i]?) ∧ Touch [b] w2 W2 := by
  refine ⟨_, rfl, ?_, ?_⟩
  · refine cell_row (t := 36) (fz := (0, 0)) ?_
    refine (heap_setCell_row (heap_setCell_row (heap_setCell_row (heap_setCell_row (heap_setCell_row (heap_setCell_row (heap_setCell_row (heap_setCell_row (heap_setCell_row (heap_setCell_row (heap_setCell_row (heap_setCell_row hr 0 _) 1 _) 2 _) 3 _) 4 _) 5 _) 6 _) 7 _) 8 _) 9 _) 10 _) 11 _).trans ?_
    simp [zeroT]
  · repeat' refine Touch.setCell ?_ (by simp) _
    exact Touch.refl _ _

theorem Did.wrap {W w1 w2 : World} {A : PubA} {G : List Nat} (R : Rep w lo p mf mt D) (h1 : Touch [] w W) (h : Did W w1 lo p mf mt D A) (h2 : Touch G w1 w2) (hG : ∀ b ∈ G, w.heap.size ≤ b ∧ b < W.heap.size ∨ w1.heap.size ≤ b) : Did w w2 lo p mf mt D A := by
  obtain ⟨D', R', hp, hT, ht, hf⟩ := h
  have hs := h1.size
  have hs2 := ht.size
  refine ⟨D', R'.touch h2 ?_, hp, hT, ((h1.mono (by simp)).trans ht (fun b hb => .inl hb)).trans h2 (fun b hb => .inr (by have := hG b hb; omega)), fun b hb => ?_⟩
  · intro b hb hbG
    have hlt := R'.lt b hb
    rcases hf b hb with h | h
    · have := R.lt b h
      have := hG b hbG
      omega
    · have := hG b hbG
      omega
  · rcases hf b hb with h | h
    · exact .inl h
    · exact .inr (by omega)

/-- what a call answers. -/
structure ToldA where
  e : Int
  n : Int
  shut : Bool
  data : List UInt8
  names : List (List UInt8)
  c : Cnt

def ToldA.err (e : Int) : ToldA := ⟨e, 0, false, [], [], cnt0⟩

/-- what 'program' hands back. -/
def ToldAt (w : World) (base : Nat) (T : ToldA) (v : Value) : Prop := ∃ dv nv, v = toldV T.e T.n T.shut dv nv T.c ∧ w.ownsRow base 5 1 dv T.data.length (Lib.byteCells T.data) ∧ w.ownsRow base 9 1 nv T.names.length (T.names.map encStr)

theorem ToldAt.err (w : World) (base : Nat) (e : Int) : ToldAt w base (.err e) (toldV e 0 false (.slice none 0 0) (.slice none 0 0) cnt0) := ⟨_, _, rfl, World.ownsRow_nil _ _ _ _, World.ownsRow_nil _ _ _ _⟩

set_option maxRecDepth 100000 in
set_option maxHeartbeats 400000 in
theorem program_1 (V : Env w lo E) (R : Rep w lo p mf mt D) (hT : D.T = .map []) (ho : D.on = true) (hS : Small D.pub) (_hcc : D.c.calls + 1 ≤ 1099511627776) (s : ByteArray) (N bit : Int) (sa : Option Addr) (n c : Nat) :
    Calls Tryz.prog 8 #[ptr p, opV 1 s N bit sa n c, .int .i64 D.B] w fun e w' => ∃ v, e = .returned (.tuple #[v, .bool true]) ∧ ToldAt w' w.heap.size (.err (createA s D.pub).1) v ∧ Did w w' lo p mf mt D (createA s D.pub).2 := by
  obtain ⟨W, hW⟩ : ∃ W, W = startW w #[.int .i64 1, .string s, .int .i64 N, .int .i64 bit, .slice sa n c] := ⟨_, rfl⟩
  have ST : Start w W _ := hW ▸ start_ok w _
  have HE := hid hW
  unfold startW zeroT at HE
  have V' := V.touch ST.touch (by simp)
  have R' := R.touch ST.touch (by simp)
  have HC := hid (Create_any V' R' hT ho hS s)
  have hnf : ∀ b, w.heap.size ≤ b → b ∉ D.foot p mf mt := fun b hb hm => by have := R.lt b hm; omega
  have HR := hid R
  have HST := hid ST
  clear hW V R hT ho hS _hcc ST V' R'
  unfold opV
  go_enter Tryz.func8, Tryz.ntmps8
  go_wp2_with (first | (rw [← HE.out]; go_at_call 9; refine HC.out.mono ?_; rintro e w1 ⟨rfl, hd⟩; have r1 := kept_row HST.out.res hd.choose_spec.2.2.2.1 (hnf _ (by omega)); have r2 := kept_row HST.out.told hd.choose_spec.2.2.2.1 (hnf _ (by omega)); have c1 := fun i => cell_row r1 i; have c2 := fun i => cell_row r2 i; have f1 := fun i => unfrozen_row r1 i; have f2 := fun i => unfrozen_row r2 i; unfold zeroT at c1 c2; have HD := hid hd; have HR1 := hid r1; have HR2 := hid r2; clear hd r1 r2))
  have r1' : (w1.setCell ⟨w.heap.size + 1 + 1, 0, none⟩ (.int .i64 (createA s D.pub).1)).heap[w.heap.size + 1]? = some (.cells zeroT 36 (0, 0)) := by
    rw [Below.heap_setCell _ _ _ _ (by simp)]
    exact HR1.out
  obtain ⟨W2, hW2, q, t2⟩ := prog_end r1' (createA s D.pub).1 0 false (.slice none 0 0) (.slice none 0 0) cnt0
  simp only [cnt0] at hW2 q
  rw [← hW2]
  clear hW2 c1 c2 f1 f2
  refine bodyPost_ret (v := .tuple #[toldV (createA s D.pub).1 0 false (.slice none 0 0) (.slice none 0 0) cnt0, .bool true]) (by simp [results, Tryz.results8, go_sem, q, toldV, cnt0]) rfl ⟨_, rfl, ToldAt.err _ _ _, ?_⟩
  have tt : Touch [w.heap.size + 1, w.heap.size + 1 + 1] w1 W2 := ((Touch.refl _ w1).setCell (by simp) _).trans t2 (by simp)
  have hz := HST.out.size
  exact HD.out.wrap HR.out HST.out.touch tt (by simp; omega)

set_option maxRecDepth 100000 in
set_option maxHeartbeats 400000 in
theorem program_3 (V : Env w lo E) (R : Rep w lo p mf mt D) (hT : D.T = .map []) (ho : D.on = true) (hS : Small D.pub) (_hcc : D.c.calls + 1 ≤ 1099511627776) (s : ByteArray) (N bit : Int) (sa : Option Addr) (n c : Nat) :
    Calls Tryz.prog 8 #[ptr p, opV 3 s N bit sa n c, .int .i64 D.B] w fun e w' => ∃ v, e = .returned (.tuple #[v, .bool true]) ∧ ToldAt w' w.heap.size (.err (sealA s D.pub).1) v ∧ Did w w' lo p mf mt D (sealA s D.pub).2 := by
  obtain ⟨W, hW⟩ : ∃ W, W = startW w #[.int .i64 3, .string s, .int .i64 N, .int .i64 bit, .slice sa n c] := ⟨_, rfl⟩
  have ST : Start w W _ := hW ▸ start_ok w _
  have HE := hid hW
  unfold startW zeroT at HE
  have V' := V.touch ST.touch (by simp)
  have R' := R.touch ST.touch (by simp)
  have HC := hid (Seal_any V' R' hT ho hS s)
  have hnf : ∀ b, w.heap.size ≤ b → b ∉ D.foot p mf mt := fun b hb hm => by have := R.lt b hm; omega
  have HR := hid R
  have HST := hid ST
  clear hW V R hT ho hS _hcc ST V' R'
  unfold opV
  go_enter Tryz.func8, Tryz.ntmps8
  go_wp2_with (first | (rw [← HE.out]; go_at_call 12; refine HC.out.mono ?_; rintro e w1 ⟨rfl, hd⟩; have r1 := kept_row HST.out.res hd.choose_spec.2.2.2.1 (hnf _ (by omega)); have r2 := kept_row HST.out.told hd.choose_spec.2.2.2.1 (hnf _ (by omega)); have c1 := fun i => cell_row r1 i; have c2 := fun i => cell_row r2 i; have f1 := fun i => unfrozen_row r1 i; have f2 := fun i => unfrozen_row r2 i; unfold zeroT at c1 c2; have HD := hid hd; have HR1 := hid r1; have HR2 := hid r2; clear hd r1 r2))
  have r1' : (w1.setCell ⟨w.heap.size + 1 + 1, 0, none⟩ (.int .i64 (sealA s D.pub).1)).heap[w.heap.size + 1]? = some (.cells zeroT 36 (0, 0)) := by
    rw [Below.heap_setCell _ _ _ _ (by simp)]
    exact HR1.out
  obtain ⟨W2, hW2, q, t2⟩ := prog_end r1' (sealA s D.pub).1 0 false (.slice none 0 0) (.slice none 0 0) cnt0
  simp only [cnt0] at hW2 q
  rw [← hW2]
  clear hW2 c1 c2 f1 f2
  refine bodyPost_ret (v := .tuple #[toldV (sealA s D.pub).1 0 false (.slice none 0 0) (.slice none 0 0) cnt0, .bool true]) (by simp [results, Tryz.results8, go_sem, q, toldV, cnt0]) rfl ⟨_, rfl, ToldAt.err _ _ _, ?_⟩
  have tt : Touch [w.heap.size + 1, w.heap.size + 1 + 1] w1 W2 := ((Touch.refl _ w1).setCell (by simp) _).trans t2 (by simp)
  have hz := HST.out.size
  exact HD.out.wrap HR.out HST.out.touch tt (by simp; omega)

set_option maxRecDepth 100000 in
set_option maxHeartbeats 400000 in
theorem program_5 (V : Env w lo E) (R : Rep w lo p mf mt D) (hT : D.T = .map []) (ho : D.on = true) (hS : Small D.pub) (_hcc : D.c.calls + 1 ≤ 1099511627776) (s : ByteArray) (N bit : Int) (sa : Option Addr) (n c : Nat) :
    Calls Tryz.prog 8 #[ptr p, opV 5 s N bit sa n c, .int .i64 D.B] w fun e w' => ∃ v, e = .returned (.tuple #[v, .bool true]) ∧ ToldAt w' w.heap.size (.err (deleteA s D.pub).1) v ∧ Did w w' lo p mf mt D (deleteA s D.pub).2 := by
  obtain ⟨W, hW⟩ : ∃ W, W = startW w #[.int .i64 5, .string s, .int .i64 N, .int .i64 bit, .slice sa n c] := ⟨_, rfl⟩
  have ST : Start w W _ := hW ▸ start_ok w _
  have HE := hid hW
  unfold startW zeroT at HE
  have V' := V.touch ST.touch (by simp)
  have R' := R.touch ST.touch (by simp)
  have HC := hid (Delete_any V' R' hT ho hS _hcc s)
  have hnf : ∀ b, w.heap.size ≤ b → b ∉ D.foot p mf mt := fun b hb hm => by have := R.lt b hm; omega
  have HR := hid R
  have HST := hid ST
  clear hW V R hT ho hS _hcc ST V' R'
  unfold opV
  go_enter Tryz.func8, Tryz.ntmps8
  go_wp2_with (first | (rw [← HE.out]; go_at_call 16; refine HC.out.mono ?_; rintro e w1 ⟨rfl, hd⟩; have r1 := kept_row HST.out.res hd.choose_spec.2.2.2.1 (hnf _ (by omega)); have r2 := kept_row HST.out.told hd.choose_spec.2.2.2.1 (hnf _ (by omega)); have c1 := fun i => cell_row r1 i; have c2 := fun i => cell_row r2 i; have f1 := fun i => unfrozen_row r1 i; have f2 := fun i => unfrozen_row r2 i; unfold zeroT at c1 c2; have HD := hid hd; have HR1 := hid r1; have HR2 := hid r2; clear hd r1 r2))
  have r1' : (w1.setCell ⟨w.heap.size + 1 + 1, 0, none⟩ (.int .i64 (deleteA s D.pub).1)).heap[w.heap.size + 1]? = some (.cells zeroT 36 (0, 0)) := by
    rw [Below.heap_setCell _ _ _ _ (by simp)]
    exact HR1.out
  obtain ⟨W2, hW2, q, t2⟩ := prog_end r1' (deleteA s D.pub).1 0 false (.slice none 0 0) (.slice none 0 0) cnt0
  simp only [cnt0] at hW2 q
  rw [← hW2]
  clear hW2 c1 c2 f1 f2
  refine bodyPost_ret (v := .tuple #[toldV (deleteA s D.pub).1 0 false (.slice none 0 0) (.slice none 0 0) cnt0, .bool true]) (by simp [results, Tryz.results8, go_sem, q, toldV, cnt0]) rfl ⟨_, rfl, ToldAt.err _ _ _, ?_⟩
  have tt : Touch [w.heap.size + 1, w.heap.size + 1 + 1] w1 W2 := ((Touch.refl _ w1).setCell (by simp) _).trans t2 (by simp)
  have hz := HST.out.size
  exact HD.out.wrap HR.out HST.out.touch tt (by simp; omega)

set_option maxRecDepth 100000 in
set_option maxHeartbeats 400000 in
theorem program_9 (V : Env w lo E) (R : Rep w lo p mf mt D) (hT : D.T = .map []) (_ho : D.on = true) (hS : Small D.pub) (_hcc : D.c.calls + 1 ≤ 1099511627776) (s : ByteArray) (N bit : Int) (sa : Option Addr) (n c : Nat) :
    Calls Tryz.prog 8 #[ptr p, opV 9 s N bit sa n c, .int .i64 D.B] w fun e w' => ∃ v, e = .returned (.tuple #[v, .bool true]) ∧ ToldAt w' w.heap.size (.err (spoilA s N bit D.pub).1) v ∧ Did w w' lo p mf mt D (spoilA s N bit D.pub).2 := by
  obtain ⟨W, hW⟩ : ∃ W, W = startW w #[.int .i64 9, .string s, .int .i64 N, .int .i64 bit, .slice sa n c] := ⟨_, rfl⟩
  have ST : Start w W _ := hW ▸ start_ok w _
  have HE := hid hW
  unfold startW zeroT at HE
  have V' := V.touch ST.touch (by simp)
  have R' := R.touch ST.touch (by simp)
  have HC := hid (Spoil_any V' R' hT hS s N bit)
  have hnf : ∀ b, w.heap.size ≤ b → b ∉ D.foot p mf mt := fun b hb hm => by have := R.lt b hm; omega
  have HR := hid R
  have HST := hid ST
  clear hW V R hT _ho hS _hcc ST V' R'
  unfold opV
  go_enter Tryz.func8, Tryz.ntmps8
  go_wp2_with (first | (rw [← HE.out]; go_at_call 32; refine HC.out.mono ?_; rintro e w1 ⟨rfl, hd⟩; have r1 := kept_row HST.out.res hd.choose_spec.2.2.2.1 (hnf _ (by omega)); have r2 := kept_row HST.out.told hd.choose_spec.2.2.2.1 (hnf _ (by omega)); have c1 := fun i => cell_row r1 i; have c2 := fun i => cell_row r2 i; have f1 := fun i => unfrozen_row r1 i; have f2 := fun i => unfrozen_row r2 i; unfold zeroT at c1 c2; have HD := hid hd; have HR1 := hid r1; have HR2 := hid r2; clear hd r1 r2))
  have r1' : (w1.setCell ⟨w.heap.size + 1 + 1, 0, none⟩ (.int .i64 (spoilA s N bit D.pub).1)).heap[w.heap.size + 1]? = some (.cells zeroT 36 (0, 0)) := by
    rw [Below.heap_setCell _ _ _ _ (by simp)]
    exact HR1.out
  obtain ⟨W2, hW2, q, t2⟩ := prog_end r1' (spoilA s N bit D.pub).1 0 false (.slice none 0 0) (.slice none 0 0) cnt0
  simp only [cnt0] at hW2 q
  rw [← hW2]
  clear hW2 c1 c2 f1 f2
  refine bodyPost_ret (v := .tuple #[toldV (spoilA s N bit D.pub).1 0 false (.slice none 0 0) (.slice none 0 0) cnt0, .bool true]) (by simp [results, Tryz.results8, go_sem, q, toldV, cnt0]) rfl ⟨_, rfl, ToldAt.err _ _ _, ?_⟩
  have tt : Touch [w.heap.size + 1, w.heap.size + 1 + 1] w1 W2 := ((Touch.refl _ w1).setCell (by simp) _).trans t2 (by simp)
  have hz := HST.out.size
  exact HD.out.wrap HR.out HST.out.touch tt (by simp; omega)

set_option maxRecDepth 100000 in
set_option maxHeartbeats 400000 in
theorem program_6 (V : Env w lo E) (R : Rep w lo p mf mt D) (hT : D.T = .map []) (ho : D.on = true) (s : ByteArray) (N bit : Int) (sa : Option Addr) (n c : Nat) :
    Calls Tryz.prog 8 #[ptr p, opV 6 s N bit sa n c, .int .i64 D.B] w fun e w' => ∃ v, e = .returned (.tuple #[v, .bool true]) ∧ ToldAt w' w.heap.size ⟨(lengthA s D.pub).2.2, (lengthA s D.pub).1, (lengthA s D.pub).2.1, [], [], cnt0⟩ v ∧ Did w w' lo p mf mt D D.pub := by
  obtain ⟨W, hW⟩ : ∃ W, W = startW w #[.int .i64 6, .string s, .int .i64 N, .int .i64 bit, .slice sa n c] := ⟨_, rfl⟩
  have ST : Start w W _ := hW ▸ start_ok w _
  have HE := hid hW
  unfold startW zeroT at HE
  have V' := V.touch ST.touch (by simp)
  have R' := R.touch ST.touch (by simp)
  have HC := hid (Length_any V' R' ho s)
  have HR := hid R
  have HR' := hid R'
  have HT := hid hT
  have HST := hid ST
  clear hW V R hT ho ST V' R'
  unfold opV
  go_enter Tryz.func8, Tryz.ntmps8
  go_wp2_with (first | (rw [← HE.out]; go_at_call 29; refine HC.out.mono ?_; rintro e w1 ⟨rfl, hd⟩; have r1 := kept_row HST.out.res hd (by simp); have r2 := kept_row HST.out.told hd (by simp); have c1 := fun i => cell_row r1 i; have c2 := fun i => cell_row r2 i; have f1 := fun i => unfrozen_row r1 i; have f2 := fun i => unfrozen_row r2 i; unfold zeroT at c1 c2; have HD := hid hd; have HR1 := hid r1; have HR2 := hid r2; clear hd r1 r2))
  have r1' : (((w1.setCell ⟨w.heap.size + 1 + 1, 1, none⟩ (.int .i64 (lengthA s D.pub).1)).setCell ⟨w.heap.size + 1 + 1, 2, none⟩ (.bool (lengthA s D.pub).2.1)).setCell ⟨w.heap.size + 1 + 1, 0, none⟩ (.int .i64 (lengthA s D.pub).2.2)).heap[w.heap.size + 1]? = some (.cells zeroT 36 (0, 0)) := by
    rw [Below.heap_setCell _ _ _ _ (by simp), Below.heap_setCell _ _ _ _ (by simp), Below.heap_setCell _ _ _ _ (by simp)]
    exact HR1.out
  obtain ⟨W2, hW2, q, t2⟩ := prog_end r1' (lengthA s D.pub).2.2 (lengthA s D.pub).1 (lengthA s D.pub).2.1 (.slice none 0 0) (.slice none 0 0) cnt0
  simp only [cnt0] at hW2 q
  rw [← hW2]
  clear hW2 c1 c2 f1 f2
  refine bodyPost_ret (v := .tuple #[toldV (lengthA s D.pub).2.2 (lengthA s D.pub).1 (lengthA s D.pub).2.1 (.slice none 0 0) (.slice none 0 0) cnt0, .bool true]) (by simp [results, Tryz.results8, go_sem, q, toldV, cnt0]) rfl ⟨_, rfl, ⟨_, _, rfl, World.ownsRow_nil _ _ _ _, World.ownsRow_nil _ _ _ _⟩, ?_⟩
  have tt : Touch [w.heap.size + 1, w.heap.size + 1 + 1] w1 W2 := ((((Touch.refl _ w1).setCell (by simp) _).setCell (by simp) _).setCell (by simp) _).trans t2 (by simp)
  have hz := HST.out.size
  exact (Did.same HR'.out HT.out HD.out).wrap HR.out HST.out.touch tt (by simp; omega)

set_option maxRecDepth 100000 in
set_option maxHeartbeats 400000 in
theorem program_8 (R : Rep w lo p mf mt D) (hT : D.T = .map []) (s : ByteArray) (N bit : Int) (sa : Option Addr) (n c : Nat) :
    Calls Tryz.prog 8 #[ptr p, opV 8 s N bit sa n c, .int .i64 D.B] w fun e w' => ∃ v, e = .returned (.tuple #[v, .bool true]) ∧ ToldAt w' w.heap.size ⟨0, 0, false, [], [], D.c⟩ v ∧ Did w w' lo p mf mt D D.pub := by
  obtain ⟨W, hW⟩ : ∃ W, W = startW w #[.int .i64 8, .string s, .int .i64 N, .int .i64 bit, .slice sa n c] := ⟨_, rfl⟩
  have ST : Start w W _ := hW ▸ start_ok w _
  have HE := hid hW
  unfold startW zeroT at HE
  have R' := R.touch ST.touch (by simp)
  have HC := hid (Counts_any R')
  unfold Cnt.val at HC
  have HR := hid R
  have HR' := hid R'
  have HT := hid hT
  have HST := hid ST
  clear hW R hT ST R'
  unfold opV
  go_enter Tryz.func8, Tryz.ntmps8
  go_wp2_with (first | (rw [← HE.out]; go_at_call 31; refine HC.out.mono ?_; rintro e w1 ⟨rfl, hb⟩; have hd := Touch.of_below (F := []) hb (Nat.le_refl _); have r1 := kept_row HST.out.res hd (by simp); have r2 := kept_row HST.out.told hd (by simp); have c1 := fun i => cell_row r1 i; have c2 := fun i => cell_row r2 i; have f1 := fun i => unfrozen_row r1 i; have f2 := fun i => unfrozen_row r2 i; unfold zeroT at c1 c2; have HD := hid hd; have HR1 := hid r1; have HR2 := hid r2; clear hb hd r1 r2))
  have t1 : Touch [w.heap.size + 1 + 1] w1 (((((((w1.setCell ⟨w.heap.size + 1 + 1, 5, none⟩ (.int .i64 D.c.calls)).setCell ⟨w.heap.size + 1 + 1, 6, none⟩ (.int .i64 D.c.reads)).setCell ⟨w.heap.size + 1 + 1, 7, none⟩ (.int .i64 D.c.appends)).setCell ⟨w.heap.size + 1 + 1, 8, none⟩ (.int .i64 D.c.faults)).setCell ⟨w.heap.size + 1 + 1, 9, none⟩ (.int .i64 D.c.full)).setCell ⟨w.heap.size + 1 + 1, 10, none⟩ (.int .i64 D.c.used)).setCell ⟨w.heap.size + 1 + 1, 11, none⟩ (.int .i64 D.c.most)) := by
    repeat' refine Touch.setCell ?_ (by simp) _
    exact Touch.refl _ _
  obtain ⟨W2, hW2, q, t2⟩ := prog_end (kept_row HR1.out t1 (by simp)) 0 0 false (.slice none 0 0) (.slice none 0 0) D.c
  rw [← hW2]
  clear hW2 c1 c2 f1 f2
  refine bodyPost_ret (v := .tuple #[toldV 0 0 false (.slice none 0 0) (.slice none 0 0) D.c, .bool true]) (by simp [results, Tryz.results8, go_sem, q, toldV]) rfl ⟨_, rfl, ⟨_, _, rfl, World.ownsRow_nil _ _ _ _, World.ownsRow_nil _ _ _ _⟩, ?_⟩
  have tt : Touch [w.heap.size + 1, w.heap.size + 1 + 1] w1 W2 := (t1.mono (by simp)).trans t2 (by simp)
  have hz := HST.out.size
  exact (Did.same HR'.out HT.out HD.out).wrap HR.out HST.out.touch tt (by simp; omega)

set_option maxRecDepth 100000 in
set_option maxHeartbeats 400000 in
theorem program_0 (R : Rep w lo p mf mt D) (hT : D.T = .map []) (k : Int) (h1 : (k == 1) = false) (h2 : (k == 2) = false) (h3 : (k == 3) = false) (h4 : (k == 4) = false) (h5 : (k == 5) = false) (h6 : (k == 6) = false) (h7 : (k == 7) = false) (h8 : (k == 8) = false) (h9 : (k == 9) = false) (s : ByteArray) (N bit : Int) (sa : Option Addr) (n c : Nat) :
    Calls Tryz.prog 8 #[ptr p, opV k s N bit sa n c, .int .i64 D.B] w fun e w' => ∃ v, e = .returned (.tuple #[v, .bool true]) ∧ ToldAt w' w.heap.size (.err 0) v ∧ Did w w' lo p mf mt D D.pub := by
  obtain ⟨W, hW⟩ : ∃ W, W = startW w #[.int .i64 k, .string s, .int .i64 N, .int .i64 bit, .slice sa n c] := ⟨_, rfl⟩
  have ST : Start w W _ := hW ▸ start_ok w _
  have HE := hid hW
  unfold startW zeroT at HE
  have HR := hid R
  have HT := hid hT
  have HST := hid ST
  clear hW R hT ST
  unfold opV
  go_enter Tryz.func8, Tryz.ntmps8
  go_wp2
  rw [← HE.out]
  have q := fun i => cell_row HST.out.res i
  unfold zeroT at q
  refine bodyPost_ret (v := .tuple #[toldV 0 0 false (.slice none 0 0) (.slice none 0 0) cnt0, .bool true]) (by simp [results, Tryz.results8, go_sem, q, toldV, cnt0]) rfl ⟨_, rfl, ToldAt.err _ _ _, ?_⟩
  exact (Did.same (HR.out.touch HST.out.touch (by simp)) HT.out (Touch.refl [] W)).wrap HR.out HST.out.touch (Touch.refl [] W) (by simp)

end
end Go.Proofs.YtcpncfngadablaaGreatDoor
