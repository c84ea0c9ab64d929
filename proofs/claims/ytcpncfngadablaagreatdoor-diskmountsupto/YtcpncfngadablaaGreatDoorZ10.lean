import Derived.Lib.ConvBytes
import Derived.Lib.AtoiErrMem
import Derived.Test.YtcpncfngadablaaGreatDoorZ09
/-
  program, over any contract of the call that it makes.
-/
namespace Go.Proofs.YtcpncfngadablaaGreatDoor
open Go.RowKit Go.Deep

section
variable {w w' : World} {E : Nat → Addr} {lo p mf mt : Nat} {D : DiskC}

theorem DidIn3.wrap {W w1 w2 : World} {A : PubA} {G : List Nat} (R : Rep w lo p mf mt D) (h1 : Touch [] w W) (h : DidIn3 W w1 lo p mf mt D A) (h2 : Touch G w1 w2) (hG : ∀ b ∈ G, w.heap.size ≤ b) : Did3 w w2 lo p mf mt D A := by
  obtain ⟨D', R', hp, hT, ht, hf⟩ := h
  refine ⟨D', R'.touch h2 ?_, hp, hT, ((h1.mono (by simp)).trans ht (fun b hb => .inl hb)).trans h2 (fun b hb => .inr (hG b hb)), fun b hb => .inl (by rw [hf] at hb; exact hb)⟩
  intro b hb hbG
  rw [hf] at hb
  have := R.lt b hb
  have := hG b hbG
  omega

set_option maxRecDepth 100000 in
set_option maxHeartbeats 1000000 in
theorem program_1x (R : Rep w lo p mf mt D) (s : ByteArray) (N bit : Int) (sa : Option Addr) (n c : Nat) {r : Int} {A' : PubA} (HC0 : ∀ W, Touch [] w W → Calls Tryz.prog 9 #[ptr p, .string s] W fun e w' => e = .returned (.int .i64 r) ∧ Did3 W w' lo p mf mt D A') :
    Calls Tryz.prog 8 #[ptr p, opV 1 s N bit sa n c, .int .i64 D.B] w fun e w' => ∃ v, e = .returned (.tuple #[v, .bool true]) ∧ ToldAt w' w.heap.size (.err r) v ∧ Did3 w w' lo p mf mt D A' := by
  obtain ⟨W, hW⟩ : ∃ W, W = startW w #[.int .i64 1, .string s, .int .i64 N, .int .i64 bit, .slice sa n c] := ⟨_, rfl⟩
  have ST : Start w W _ := hW ▸ start_ok w _
  have HE := hid hW
  unfold startW zeroT at HE
  have R' := R.touch ST.touch (by simp)
  have HC := hid (HC0 W ST.touch)
  have hnf : ∀ b, w.heap.size ≤ b → b ∉ D.foot p mf mt := fun b hb hm => by have := R.lt b hm; omega
  have HR := hid R
  have HST := hid ST
  clear hW R ST R' HC0
  unfold opV
  go_enter Tryz.func8, Tryz.ntmps8
  go_wp2_with (first | (rw [← HE.out]; go_at_call 9; refine HC.out.mono ?_; rintro e w1 ⟨rfl, hd⟩; have r1 := kept_row HST.out.res hd.choose_spec.2.2.2.1 (hnf _ (by omega)); have r2 := kept_row HST.out.told hd.choose_spec.2.2.2.1 (hnf _ (by omega)); have c1 := fun i => cell_row r1 i; have c2 := fun i => cell_row r2 i; have f1 := fun i => unfrozen_row r1 i; have f2 := fun i => unfrozen_row r2 i; unfold zeroT at c1 c2; have HD := hid hd; have HR1 := hid r1; have HR2 := hid r2; clear hd r1 r2))
  have r1' : (w1.setCell ⟨w.heap.size + 1 + 1, 0, none⟩ (.int .i64 r)).heap[w.heap.size + 1]? = some (.cells zeroT 36 (0, 0)) := by
    rw [Below.heap_setCell _ _ _ _ (by simp)]
    exact HR1.out
  obtain ⟨W2, hW2, q, t2⟩ := prog_end r1' r 0 false (.slice none 0 0) (.slice none 0 0) cnt0
  simp only [cnt0] at hW2 q
  rw [← hW2]
  clear hW2 c1 c2 f1 f2
  refine bodyPost_ret (v := .tuple #[toldV r 0 false (.slice none 0 0) (.slice none 0 0) cnt0, .bool true]) (by simp [results, Tryz.results8, go_sem, q, toldV, cnt0]) rfl ⟨_, rfl, ToldAt.err _ _ _, ?_⟩
  have tt : Touch [w.heap.size + 1, w.heap.size + 1 + 1] w1 W2 := ((Touch.refl _ w1).setCell (by simp) _).trans t2 (by simp)
  have hz := HST.out.size
  exact HD.out.wrap HR.out HST.out.touch tt (by simp; omega)

set_option maxRecDepth 100000 in
set_option maxHeartbeats 1000000 in
theorem program_3x (R : Rep w lo p mf mt D) (s : ByteArray) (N bit : Int) (sa : Option Addr) (n c : Nat) {r : Int} {A' : PubA} (HC0 : ∀ W, Touch [] w W → Calls Tryz.prog 12 #[ptr p, .string s] W fun e w' => e = .returned (.int .i64 r) ∧ Did3 W w' lo p mf mt D A') :
    Calls Tryz.prog 8 #[ptr p, opV 3 s N bit sa n c, .int .i64 D.B] w fun e w' => ∃ v, e = .returned (.tuple #[v, .bool true]) ∧ ToldAt w' w.heap.size (.err r) v ∧ Did3 w w' lo p mf mt D A' := by
  obtain ⟨W, hW⟩ : ∃ W, W = startW w #[.int .i64 3, .string s, .int .i64 N, .int .i64 bit, .slice sa n c] := ⟨_, rfl⟩
  have ST : Start w W _ := hW ▸ start_ok w _
  have HE := hid hW
  unfold startW zeroT at HE
  have R' := R.touch ST.touch (by simp)
  have HC := hid (HC0 W ST.touch)
  have hnf : ∀ b, w.heap.size ≤ b → b ∉ D.foot p mf mt := fun b hb hm => by have := R.lt b hm; omega
  have HR := hid R
  have HST := hid ST
  clear hW R ST R' HC0
  unfold opV
  go_enter Tryz.func8, Tryz.ntmps8
  go_wp2_with (first | (rw [← HE.out]; go_at_call 12; refine HC.out.mono ?_; rintro e w1 ⟨rfl, hd⟩; have r1 := kept_row HST.out.res hd.choose_spec.2.2.2.1 (hnf _ (by omega)); have r2 := kept_row HST.out.told hd.choose_spec.2.2.2.1 (hnf _ (by omega)); have c1 := fun i => cell_row r1 i; have c2 := fun i => cell_row r2 i; have f1 := fun i => unfrozen_row r1 i; have f2 := fun i => unfrozen_row r2 i; unfold zeroT at c1 c2; have HD := hid hd; have HR1 := hid r1; have HR2 := hid r2; clear hd r1 r2))
  have r1' : (w1.setCell ⟨w.heap.size + 1 + 1, 0, none⟩ (.int .i64 r)).heap[w.heap.size + 1]? = some (.cells zeroT 36 (0, 0)) := by
    rw [Below.heap_setCell _ _ _ _ (by simp)]
    exact HR1.out
  obtain ⟨W2, hW2, q, t2⟩ := prog_end r1' r 0 false (.slice none 0 0) (.slice none 0 0) cnt0
  simp only [cnt0] at hW2 q
  rw [← hW2]
  clear hW2 c1 c2 f1 f2
  refine bodyPost_ret (v := .tuple #[toldV r 0 false (.slice none 0 0) (.slice none 0 0) cnt0, .bool true]) (by simp [results, Tryz.results8, go_sem, q, toldV, cnt0]) rfl ⟨_, rfl, ToldAt.err _ _ _, ?_⟩
  have tt : Touch [w.heap.size + 1, w.heap.size + 1 + 1] w1 W2 := ((Touch.refl _ w1).setCell (by simp) _).trans t2 (by simp)
  have hz := HST.out.size
  exact HD.out.wrap HR.out HST.out.touch tt (by simp; omega)

set_option maxRecDepth 100000 in
set_option maxHeartbeats 1000000 in
theorem program_5x (R : Rep w lo p mf mt D) (s : ByteArray) (N bit : Int) (sa : Option Addr) (n c : Nat) {r : Int} {A' : PubA} (HC0 : ∀ W, Touch [] w W → Calls Tryz.prog 16 #[ptr p, .string s] W fun e w' => e = .returned (.int .i64 r) ∧ Did3 W w' lo p mf mt D A') :
    Calls Tryz.prog 8 #[ptr p, opV 5 s N bit sa n c, .int .i64 D.B] w fun e w' => ∃ v, e = .returned (.tuple #[v, .bool true]) ∧ ToldAt w' w.heap.size (.err r) v ∧ Did3 w w' lo p mf mt D A' := by
  obtain ⟨W, hW⟩ : ∃ W, W = startW w #[.int .i64 5, .string s, .int .i64 N, .int .i64 bit, .slice sa n c] := ⟨_, rfl⟩
  have ST : Start w W _ := hW ▸ start_ok w _
  have HE := hid hW
  unfold startW zeroT at HE
  have R' := R.touch ST.touch (by simp)
  have HC := hid (HC0 W ST.touch)
  have hnf : ∀ b, w.heap.size ≤ b → b ∉ D.foot p mf mt := fun b hb hm => by have := R.lt b hm; omega
  have HR := hid R
  have HST := hid ST
  clear hW R ST R' HC0
  unfold opV
  go_enter Tryz.func8, Tryz.ntmps8
  go_wp2_with (first | (rw [← HE.out]; go_at_call 16; refine HC.out.mono ?_; rintro e w1 ⟨rfl, hd⟩; have r1 := kept_row HST.out.res hd.choose_spec.2.2.2.1 (hnf _ (by omega)); have r2 := kept_row HST.out.told hd.choose_spec.2.2.2.1 (hnf _ (by omega)); have c1 := fun i => cell_row r1 i; have c2 := fun i => cell_row r2 i; have f1 := fun i => unfrozen_row r1 i; have f2 := fun i => unfrozen_row r2 i; unfold zeroT at c1 c2; have HD := hid hd; have HR1 := hid r1; have HR2 := hid r2; clear hd r1 r2))
  have r1' : (w1.setCell ⟨w.heap.size + 1 + 1, 0, none⟩ (.int .i64 r)).heap[w.heap.size + 1]? = some (.cells zeroT 36 (0, 0)) := by
    rw [Below.heap_setCell _ _ _ _ (by simp)]
    exact HR1.out
  obtain ⟨W2, hW2, q, t2⟩ := prog_end r1' r 0 false (.slice none 0 0) (.slice none 0 0) cnt0
  simp only [cnt0] at hW2 q
  rw [← hW2]
  clear hW2 c1 c2 f1 f2
  refine bodyPost_ret (v := .tuple #[toldV r 0 false (.slice none 0 0) (.slice none 0 0) cnt0, .bool true]) (by simp [results, Tryz.results8, go_sem, q, toldV, cnt0]) rfl ⟨_, rfl, ToldAt.err _ _ _, ?_⟩
  have tt : Touch [w.heap.size + 1, w.heap.size + 1 + 1] w1 W2 := ((Touch.refl _ w1).setCell (by simp) _).trans t2 (by simp)
  have hz := HST.out.size
  exact HD.out.wrap HR.out HST.out.touch tt (by simp; omega)

set_option maxRecDepth 100000 in
set_option maxHeartbeats 1000000 in
theorem program_9x (R : Rep w lo p mf mt D) (s : ByteArray) (N bit : Int) (sa : Option Addr) (n c : Nat) {r : Int} {A' : PubA} (HC0 : ∀ W, Touch [] w W → Calls Tryz.prog 32 #[ptr p, .string s, .int .i64 N, .int .i64 bit] W fun e w' => e = .returned (.int .i64 r) ∧ Did3 W w' lo p mf mt D A') :
    Calls Tryz.prog 8 #[ptr p, opV 9 s N bit sa n c, .int .i64 D.B] w fun e w' => ∃ v, e = .returned (.tuple #[v, .bool true]) ∧ ToldAt w' w.heap.size (.err r) v ∧ Did3 w w' lo p mf mt D A' := by
  obtain ⟨W, hW⟩ : ∃ W, W = startW w #[.int .i64 9, .string s, .int .i64 N, .int .i64 bit, .slice sa n c] := ⟨_, rfl⟩
  have ST : Start w W _ := hW ▸ start_ok w _
  have HE := hid hW
  unfold startW zeroT at HE
  have R' := R.touch ST.touch (by simp)
  have HC := hid (HC0 W ST.touch)
  have hnf : ∀ b, w.heap.size ≤ b → b ∉ D.foot p mf mt := fun b hb hm => by have := R.lt b hm; omega
  have HR := hid R
  have HST := hid ST
  clear hW R ST R' HC0
  unfold opV
  go_enter Tryz.func8, Tryz.ntmps8
  go_wp2_with (first | (rw [← HE.out]; go_at_call 32; refine HC.out.mono ?_; rintro e w1 ⟨rfl, hd⟩; have r1 := kept_row HST.out.res hd.choose_spec.2.2.2.1 (hnf _ (by omega)); have r2 := kept_row HST.out.told hd.choose_spec.2.2.2.1 (hnf _ (by omega)); have c1 := fun i => cell_row r1 i; have c2 := fun i => cell_row r2 i; have f1 := fun i => unfrozen_row r1 i; have f2 := fun i => unfrozen_row r2 i; unfold zeroT at c1 c2; have HD := hid hd; have HR1 := hid r1; have HR2 := hid r2; clear hd r1 r2))
  have r1' : (w1.setCell ⟨w.heap.size + 1 + 1, 0, none⟩ (.int .i64 r)).heap[w.heap.size + 1]? = some (.cells zeroT 36 (0, 0)) := by
    rw [Below.heap_setCell _ _ _ _ (by simp)]
    exact HR1.out
  obtain ⟨W2, hW2, q, t2⟩ := prog_end r1' r 0 false (.slice none 0 0) (.slice none 0 0) cnt0
  simp only [cnt0] at hW2 q
  rw [← hW2]
  clear hW2 c1 c2 f1 f2
  refine bodyPost_ret (v := .tuple #[toldV r 0 false (.slice none 0 0) (.slice none 0 0) cnt0, .bool true]) (by simp [results, Tryz.results8, go_sem, q, toldV, cnt0]) rfl ⟨_, rfl, ToldAt.err _ _ _, ?_⟩
  have tt : Touch [w.heap.size + 1, w.heap.size + 1 + 1] w1 W2 := ((Touch.refl _ w1).setCell (by simp) _).trans t2 (by simp)
  have hz := HST.out.size
  exact HD.out.wrap HR.out HST.out.touch tt (by simp; omega)

set_option maxRecDepth 100000 in
set_option maxHeartbeats 1000000 in
theorem program_6x (R : Rep w lo p mf mt D) (s : ByteArray) (N bit : Int) (sa : Option Addr) (n c : Nat) {ln r : Int} {sh : Bool} (HC0 : ∀ W, Touch [] w W → Calls Tryz.prog 29 #[ptr p, .string s] W fun e w' => e = .returned (.tuple #[.int .i64 ln, .bool sh, .int .i64 r]) ∧ Touch [] W w') :
    Calls Tryz.prog 8 #[ptr p, opV 6 s N bit sa n c, .int .i64 D.B] w fun e w' => ∃ v, e = .returned (.tuple #[v, .bool true]) ∧ ToldAt w' w.heap.size ⟨r, ln, sh, [], [], cnt0⟩ v ∧ Did3 w w' lo p mf mt D D.pub := by
  obtain ⟨W, hW⟩ : ∃ W, W = startW w #[.int .i64 6, .string s, .int .i64 N, .int .i64 bit, .slice sa n c] := ⟨_, rfl⟩
  have ST : Start w W _ := hW ▸ start_ok w _
  have HE := hid hW
  unfold startW zeroT at HE
  have R' := R.touch ST.touch (by simp)
  have HC := hid (HC0 W ST.touch)
  have HR := hid R
  have HR' := hid R'
  have HST := hid ST
  clear hW R ST R' HC0
  unfold opV
  go_enter Tryz.func8, Tryz.ntmps8
  go_wp2_with (first | (rw [← HE.out]; go_at_call 29; refine HC.out.mono ?_; rintro e w1 ⟨rfl, hd⟩; have r1 := kept_row HST.out.res hd (by simp); have r2 := kept_row HST.out.told hd (by simp); have c1 := fun i => cell_row r1 i; have c2 := fun i => cell_row r2 i; have f1 := fun i => unfrozen_row r1 i; have f2 := fun i => unfrozen_row r2 i; unfold zeroT at c1 c2; have HD := hid hd; have HR1 := hid r1; have HR2 := hid r2; clear hd r1 r2))
  have r1' : (((w1.setCell ⟨w.heap.size + 1 + 1, 1, none⟩ (.int .i64 ln)).setCell ⟨w.heap.size + 1 + 1, 2, none⟩ (.bool sh)).setCell ⟨w.heap.size + 1 + 1, 0, none⟩ (.int .i64 r)).heap[w.heap.size + 1]? = some (.cells zeroT 36 (0, 0)) := by
    rw [Below.heap_setCell _ _ _ _ (by simp), Below.heap_setCell _ _ _ _ (by simp), Below.heap_setCell _ _ _ _ (by simp)]
    exact HR1.out
  obtain ⟨W2, hW2, q, t2⟩ := prog_end r1' r ln sh (.slice none 0 0) (.slice none 0 0) cnt0
  simp only [cnt0] at hW2 q
  rw [← hW2]
  clear hW2 c1 c2 f1 f2
  refine bodyPost_ret (v := .tuple #[toldV r ln sh (.slice none 0 0) (.slice none 0 0) cnt0, .bool true]) (by simp [results, Tryz.results8, go_sem, q, toldV, cnt0]) rfl ⟨_, rfl, ⟨_, _, rfl, World.ownsRow_nil _ _ _ _, World.ownsRow_nil _ _ _ _⟩, ?_⟩
  have tt : Touch [w.heap.size + 1, w.heap.size + 1 + 1] w1 W2 := ((((Touch.refl _ w1).setCell (by simp) _).setCell (by simp) _).setCell (by simp) _).trans t2 (by simp)
  have hz := HST.out.size
  exact (Did3.same HR'.out HD.out).wrap HR.out HST.out.touch tt (by simp; omega)

set_option maxRecDepth 100000 in
set_option maxHeartbeats 1000000 in
theorem program_8x (R : Rep w lo p mf mt D) (s : ByteArray) (N bit : Int) (sa : Option Addr) (n c : Nat) :
    Calls Tryz.prog 8 #[ptr p, opV 8 s N bit sa n c, .int .i64 D.B] w fun e w' => ∃ v, e = .returned (.tuple #[v, .bool true]) ∧ ToldAt w' w.heap.size ⟨0, 0, false, [], [], D.c⟩ v ∧ Did3 w w' lo p mf mt D D.pub := by
  obtain ⟨W, hW⟩ : ∃ W, W = startW w #[.int .i64 8, .string s, .int .i64 N, .int .i64 bit, .slice sa n c] := ⟨_, rfl⟩
  have ST : Start w W _ := hW ▸ start_ok w _
  have HE := hid hW
  unfold startW zeroT at HE
  have R' := R.touch ST.touch (by simp)
  have HC := hid (Counts_any R')
  unfold Cnt.val at HC
  have HR := hid R
  have HR' := hid R'
  have HST := hid ST
  clear hW R ST R'
  unfold opV
  go_enter Tryz.func8, Tryz.ntmps8
  go_wp2_with (first | (rw [← HE.out]; go_at_call 31; refine HC.out.mono ?_; rintro e w1 ⟨rfl, hb⟩; have hd := Touch.of_below (F := []) hb (Nat.le_refl _); have r1 := kept_row HST.out.res hd (by simp); have r2 := kept_row HST.out.told hd (by simp); have c1 := fun i => cell_row r1 i; have c2 := fun i => cell_row r2 i; have f1 := fun i => unfrozen_row r1 i; have f2 := fun i => unfrozen_row r2 i; unfold zeroT at c1 c2; have HD := hid hd; have HR1 := hid r1; have HR2 := hid r2; clear hb hd r1 r2))
  have t1 : Touch [w.heap.size + 1 + 1] w1 (((((((w1.setCell ⟨w.heap.size + 1 + 1, 5, none⟩ (.int .i64 D.c.calls)).setCell ⟨w.heap.size + 1 + 1, 6, none⟩ (.int .i64 D.c.reads)).setCell ⟨w.heap.size + 1 + 1, 7, none⟩ (.int .i64 D.c.appends)).setCell ⟨w.heap.size + 1 + 1, 8, none⟩ (.int .i64 D.c.faults)).setCell ⟨w.heap.size + 1 + 1, 9, none⟩ (.int .i64 D.c.full)).setCell ⟨w.heap.size + 1 + 1, 10, none⟩ (.int .i64 D.c.used)).setCell ⟨w.heap.size + 1 + 1, 11, none⟩ (.int .i64 D.c.most)) := by
    repeat' refine Touch.setCell ?_ (by simp) _
    exact Touch.refl _ _
  obtain ⟨W2, hW2, q, t2⟩ := prog_end (kept_row HR1.out t1 (by simp)) 0 0 false (.slice none 0 0) (.slice none 0 0) D.c
  rw [← hW2]
  clear hW2 c1 c2 f1 f2
  refine bodyPost_ret (v := .tuple #[toldV 0 0 false (.slice none 0 0) (.slice none 0 0) D.c, .bool true]) (by simp [results, Tryz.results8, go_sem, q, toldV]) rfl ⟨_, rfl, ⟨_, _, rfl, World.ownsRow_nil _ _ _ _, World.ownsRow_nil _ _ _ _⟩, ?_⟩
  have tt : Touch [w.heap.size + 1, w.heap.size + 1 + 1] w1 W2 := (t1.mono (by simp)).trans t2 (by simp)
  have hz := HST.out.size
  exact (Did3.same HR'.out HD.out).wrap HR.out HST.out.touch tt (by simp; omega)

set_option maxRecDepth 100000 in
set_option maxHeartbeats 1000000 in
theorem program_0x (R : Rep w lo p mf mt D) (k : Int) (h1 : (k == 1) = false) (h2 : (k == 2) = false) (h3 : (k == 3) = false) (h4 : (k == 4) = false) (h5 : (k == 5) = false) (h6 : (k == 6) = false) (h7 : (k == 7) = false) (h8 : (k == 8) = false) (h9 : (k == 9) = false) (s : ByteArray) (N bit : Int) (sa : Option Addr) (n c : Nat) :
    Calls Tryz.prog 8 #[ptr p, opV k s N bit sa n c, .int .i64 D.B] w fun e w' => ∃ v, e = .returned (.tuple #[v, .bool true]) ∧ ToldAt w' w.heap.size (.err 0) v ∧ Did3 w w' lo p mf mt D D.pub := by
  obtain ⟨W, hW⟩ : ∃ W, W = startW w #[.int .i64 k, .string s, .int .i64 N, .int .i64 bit, .slice sa n c] := ⟨_, rfl⟩
  have ST : Start w W _ := hW ▸ start_ok w _
  have HE := hid hW
  unfold startW zeroT at HE
  have HR := hid R
  have HST := hid ST
  clear hW R ST
  unfold opV
  go_enter Tryz.func8, Tryz.ntmps8
  go_wp2
  rw [← HE.out]
  have q := fun i => cell_row HST.out.res i
  unfold zeroT at q
  refine bodyPost_ret (v := .tuple #[toldV 0 0 false (.slice none 0 0) (.slice none 0 0) cnt0, .bool true]) (by simp [results, Tryz.results8, go_sem, q, toldV, cnt0]) rfl ⟨_, rfl, ToldAt.err _ _ _, ?_⟩
  exact (Did3.same (HR.out.touch HST.out.touch (by simp)) (Touch.refl [] W)).wrap HR.out HST.out.touch (Touch.refl [] W) (by simp)

set_option maxRecDepth 100000 in
set_option maxHeartbeats 1000000 in
theorem program_4x (R : Rep w lo p mf mt D) (hB : D.B ≤ 65536) (s : ByteArray) (N bit : Int) (sa : Option Addr) (n c : Nat) {r : Int} {o : Option (List UInt8)} {A' : PubA} (HC0 : ∀ W, Touch [] w W → Calls Tryz.prog 28 #[ptr p, .string s, .int .i64 N] W fun e w' => ∃ v, e = .returned (.tuple #[v, .int .i64 r]) ∧ Told1 w' W.heap.size D.B o v ∧ DidIn3 W w' lo p mf mt D A') :
    Calls Tryz.prog 8 #[ptr p, opV 4 s N bit sa n c, .int .i64 D.B] w fun e w' => ∃ v, e = .returned (.tuple #[v, .bool true]) ∧ ToldAt w' w.heap.size ⟨r, 0, false, o.getD [], [], cnt0⟩ v ∧ Did3 w w' lo p mf mt D A' := by
  obtain ⟨W, hW⟩ : ∃ W, W = startW w #[.int .i64 4, .string s, .int .i64 N, .int .i64 bit, .slice sa n c] := ⟨_, rfl⟩
  have ST : Start w W _ := hW ▸ start_ok w _
  have HE := hid hW
  unfold startW zeroT at HE
  have R' := R.touch ST.touch (by simp)
  have HC := hid (HC0 W ST.touch)
  have hnf : ∀ b, w.heap.size ≤ b → b ∉ D.foot p mf mt := fun b hb hm => by have := R.lt b hm; omega
  have HR := hid R
  have HST := hid ST
  have hWz := ST.size
  clear hW R ST R' HC0
  unfold opV
  go_enter Tryz.func8, Tryz.ntmps8
  go_wp2_with (first
    | (go_at_call 24; refine (blot_own HOB4.out (by omega)).mono ?_; rintro e w5 ⟨rfl, hob5, ht5⟩; have hrows := prog4_rows HR1'.out HR2'.out HOWN.out hWz HZ1.out HT12.out HT3.out HOB4.out HB4.out ht5; have c1 := fun i => cell_row hrows.1 i; have c2 := fun i => cell_row hrows.2.1 i; have f1 := fun i => unfrozen_row hrows.1 i; have f2 := fun i => unfrozen_row hrows.2.1 i; unfold zeroT at c1; have HROWS := hid hrows; have HT5 := hid ht5; clear hrows hob5 ht5)
    | (at_builtin; obtain ⟨v4, w4, hr4, hob4, hb4⟩ := run_append_100 31 HOB3.out hm; refine Lib.wpList_append_run _ rfl _ _ _ _ rfl _ _ rfl rfl _ _ hr4 ?_; have HOB4 := hid hob4; have HB4 := hid hb4; clear hr4 hob4 hb4)
    | (go_at_call 24; refine (blot_own (HX.out _ _) (by omega)).mono ?_; rintro e w3 ⟨rfl, hob3, ht3⟩; have HOB3 := hid hob3; have HT3 := hid ht3; clear hob3 ht3 c2 f2)
    | (at_builtin; refine wpList_append_copy _ rfl _ rfl sb m m _ rfl HSH.out (by omega) ?_; intro v2 w2 ho2 hb2; have t12 := Touch.of_below (F := []) hb2 (Nat.le_refl _); have r1 := kept_row HR1.out t12 (by simp); have r2 := kept_row HR2.out t12 (by simp); have c2 := fun i => cell_row r2 i; have f2 := fun i => unfrozen_row r2 i; unfold zeroT at c2; obtain ⟨sd, cd, rfl, _, _⟩ := shows_own ho2; have HX : Hid (∀ x y, OwnB ((w2.setCell ⟨w.heap.size + 1 + 1, 0, none⟩ x).setCell ⟨w.heap.size + 1 + 1, 3, none⟩ y) W.heap.size (.slice sb m m) m) := hid (fun x y => ((OwnB.of HOWN.out).touch t12 (by simp)).touch (((Touch.refl [w.heap.size + 1 + 1] w2).setCell (by simp) x).setCell (by simp) y) (fun b hb e => by have h3 := owns_lt HOWN.out b (by simp [e]); simp at hb; omega)); have HO2 := hid ho2; have HB2 := hid hb2; have HT12 := hid t12; have HR1' := hid r1; have HR2' := hid r2; clear ho2 hb2 t12 r1 r2)
    | (rw [← HE.out]; go_at_call 28; refine HC.out.mono ?_; rintro e w1 ⟨v, rfl, h1, hd⟩; have r1 := kept_row HST.out.res hd.choose_spec.2.2.2.1 (hnf _ (by omega)); have r2 := kept_row HST.out.told hd.choose_spec.2.2.2.1 (hnf _ (by omega)); have z1 := hd.choose_spec.2.2.2.1.size; obtain ⟨sb, m, rfl, hm, hlen, hown, hsh⟩ := h1.own hB; have HOWN := hid hown; have HD := hid hd; have HR1 := hid r1; have HR2 := hid r2; have HZ1 := hid z1; have HLEN := hid hlen; have HSH := hid hsh; clear hsh; clear hd r1 r2 hown h1 z1 hlen))
  obtain ⟨W2, hW2, q, t2⟩ := prog_end HROWS.out.1 r 0 false (.slice sd m cd) (.slice none 0 0) cnt0
  simp only [cnt0] at hW2 q
  rw [← hW2]
  clear hW2 c1 c2 f1 f2
  refine bodyPost_ret (v := .tuple #[toldV r 0 false (.slice sd m cd) (.slice none 0 0) cnt0, .bool true]) (by simp [results, Tryz.results8, go_sem, q, toldV, cnt0]) rfl ⟨_, rfl, ⟨_, _, rfl, ?_, World.ownsRow_nil _ _ _ _⟩, ?_⟩
  · have hz1 := HZ1.out
    have ho5 := HROWS.out.2.2.2 _ _ _ _ _ HO2.out
    have hl := HLEN.out
    show W2.ownsRow w.heap.size 5 1 (.slice sd m cd) (o.getD []).length _
    rw [hl]
    exact owns_base (owns_touch ho5 t2 (fun b hb hm => by have := owns_lt ho5 b (by simp [hb]); simp at hm; omega)) (by omega)
  · refine HD.out.wrap HR.out HST.out.touch ((HROWS.out.2.2.1.mono (G := (w.heap.size + 1) :: (w.heap.size + 1 + 1) :: (Value.slice sb m m).ownBlock.toList) (fun b hb => List.mem_cons_of_mem _ hb)).trans t2 (by simp)) ?_
    intro b hb
    have g1 := owns_lt HOWN.out b
    simp only [List.mem_cons] at hb
    rcases hb with h | h | h
    · omega
    · omega
    · have := g1 h
      omega

set_option maxRecDepth 100000 in
set_option maxHeartbeats 1000000 in
theorem program_7x (R : Rep w lo p mf mt D) (s : ByteArray) (N bit : Int) (sa : Option Addr) (n c : Nat) {ns : List (List UInt8)} (hlen : ns.length ≤ 1099511627776) (HC0 : ∀ W, Touch [] w W → Calls Tryz.prog 30 #[ptr p] W fun e w' => ∃ v, e = .returned v ∧ w'.ownsRow W.heap.size 9 1 v ns.length (ns.map encStr) ∧ Below W.heap.size W w') :
    Calls Tryz.prog 8 #[ptr p, opV 7 s N bit sa n c, .int .i64 D.B] w fun e w' => ∃ v, e = .returned (.tuple #[v, .bool true]) ∧ ToldAt w' w.heap.size ⟨0, 0, false, [], ns, cnt0⟩ v ∧ Did3 w w' lo p mf mt D D.pub := by
  obtain ⟨W, hW⟩ : ∃ W, W = startW w #[.int .i64 7, .string s, .int .i64 N, .int .i64 bit, .slice sa n c] := ⟨_, rfl⟩
  have ST : Start w W _ := hW ▸ start_ok w _
  have HE := hid hW
  unfold startW zeroT at HE
  have R' := R.touch ST.touch (by simp)
  have HC := hid (HC0 W ST.touch)
  have HR := hid R
  have HR' := hid R'
  have HST := hid ST
  have hWz := ST.size
  clear hW R ST R' HC0
  unfold opV
  go_enter Tryz.func8, Tryz.ntmps8
  go_wp2_with (first
    | (at_builtin; obtain ⟨v2, w2, hr2, ho2, hb2⟩ := run_append_names 32 w1 HOWN.out hlen; refine Lib.wpList_append_run _ rfl _ _ _ _ rfl _ _ rfl rfl _ _ hr2 ?_; have t12 := Touch.of_below (F := []) hb2 (Nat.le_refl _); have r2 := kept_row HR2.out t12 (by simp); have c2 := fun i => cell_row r2 i; have f2 := fun i => unfrozen_row r2 i; unfold zeroT at c2; obtain ⟨sd, cd, rfl⟩ : ∃ sd cd, v2 = .slice sd ns.length cd := (by rcases ho2.2 with ⟨e, e2⟩ | ⟨g, cap, _, e, _⟩; exact ⟨none, 0, by rw [e, e2]⟩; exact ⟨_, _, e⟩); have HO2 := hid ho2; have HT12 := hid t12; have HR2' := hid r2; clear ho2 hb2 hr2 t12 r2)
    | (rw [← HE.out]; go_at_call 30; refine HC.out.mono ?_; rintro e w1 ⟨v, rfl, hown, hb⟩; have t1 := Touch.of_below (F := []) hb (Nat.le_refl _); have r1 := kept_row HST.out.res t1 (by simp); have r2 := kept_row HST.out.told t1 (by simp); have HT1 := hid t1; have HOWN := hid hown; have HR1 := hid r1; have HR2 := hid r2; clear hown hb t1 r1 r2))
  clear c2 f2
  have HST0 : Hid (∀ x, ∃ xs, (w2.setCell ⟨w.heap.size + 1 + 1, 4, none⟩ x).ownsRow W.heap.size 9 1 v ns.length xs) := hid fun x => ⟨_, owns_touch (owns_touch HOWN.out HT12.out (by simp)) ((Touch.refl [w.heap.size + 1 + 1] w2).setCell (by simp) x) (fun b hb hm => by have h3 := owns_lt HOWN.out b (by simp [hb]); simp at hm; omega)⟩
  go_loopw [14] (fun i wr => ∃ k : Nat, k ≤ ns.length ∧ i = .int .i64 k ∧ (∃ xs, wr.ownsRow W.heap.size 9 1 v ns.length xs) ∧ Touch v.ownBlock.toList (w2.setCell ⟨w.heap.size + 1 + 1, 4, none⟩ (.slice sd ns.length cd)) wr) (fun i _ => ns.length - (intOf i).toNat)
  case atStart => exact ⟨0, Nat.zero_le _, rfl, HST0.out _, Touch.refl _ _⟩
  case round =>
    obtain ⟨k, hk, rfl, ⟨xs, hxs⟩, ht⟩ := hrel
    obtain ⟨sv, cv, rfl, hcv, hsv⟩ := owns_form hxs
    have HX := hid hxs
    have HTT := hid ht
    have HSV := hid hsv
    clear hxs ht hsv
    by_cases hlt : k < ns.length
    · obtain ⟨g, rfl⟩ := HSV.out (by omega)
      obtain ⟨u, hu, hfz⟩ := owns_at HX.out hlt
      go_wp2
      refine ⟨⟨k + 1, by omega, by go_num, owns_set HX.out _, HTT.out.setCell (by simp [Value.ownBlock]) _⟩, by simp [intOf]; omega⟩
    · go_wp2_with (first
        | (at_builtin; refine wpList_append_two _ rfl _ _ rfl W.heap.size _ ns.length xs ⟨wr.heap.size, 0, none⟩ ⟨#[98, 108, 111, 116]⟩ rfl rfl (HX.out.alloc _) ?h1 hlen ?h2 ?_; rotate_left 2; intro v4 w4 hg4; have hrows := prog7_rows HR1.out HR2.out HOWN.out hWz HT12.out HTT.out hg4; have c1 := fun i => cell_row hrows.1 i; have c2 := fun i => cell_row hrows.2.1 i; have f1 := fun i => unfrozen_row hrows.1 i; have f2 := fun i => unfrozen_row hrows.2.1 i; unfold zeroT at c1; have HROWS := hid hrows; clear hrows hg4))
      case h1 =>
        intro i hi
        have hrow := heap_alloc_new wr (.cells #[.string ⟨#[98, 108, 111, 116]⟩, .string ⟨#[98, 108, 111, 116]⟩] 9)
        have hadd : (⟨wr.heap.size, 0, none⟩ : Addr).add i = ⟨wr.heap.size, i, none⟩ := by unfold Addr.add; split <;> simp_all
        rw [hadd]
        refine (cell_row hrow i).trans ?_
        match i, hi with
        | 0, _ => rfl
        | 1, _ => rfl
      case h2 =>
        have h1 := HT1.out.size
        have h2 := HT12.out.size
        have h3 := HTT.out.size
        simp only [World.size_setCell] at h3
        simp only [World.size_alloc]
        omega
      have z1 := HT1.out.size
      obtain ⟨W2, hW2, q, t2⟩ := prog_end HROWS.out.1 0 0 false (.slice none 0 0) (.slice sd ns.length cd) cnt0
      simp only [cnt0] at hW2 q
      rw [← hW2]
      clear hW2 c1 c2 f1 f2
      refine bodyPost_ret (v := .tuple #[toldV 0 0 false (.slice none 0 0) (.slice sd ns.length cd) cnt0, .bool true]) (by simp [results, Tryz.results8, go_sem, q, toldV, cnt0]) rfl ⟨_, rfl, ⟨_, _, rfl, World.ownsRow_nil _ _ _ _, ?_⟩, ?_⟩
      · have ho5 := HROWS.out.2.2.2 _ _ _ _ _ HO2.out (by omega)
        show W2.ownsRow w.heap.size 9 1 (.slice sd ns.length cd) ns.length _
        exact owns_base (owns_touch ho5 t2 (fun b hb hm => by have := owns_lt ho5 b (by simp [hb]); simp at hm; omega)) (by omega)
      · refine DidIn3.wrap (W := W) (w1 := w1) HR.out HST.out.touch ⟨D, HR'.out.touch HT1.out (by simp), rfl, .inl ⟨rfl, rfl⟩, HT1.out.mono (by simp), rfl⟩ ((HROWS.out.2.2.1.mono (G := (w.heap.size + 1) :: (w.heap.size + 1 + 1) :: (Value.slice sv ns.length cv).ownBlock.toList) (fun b hb => List.mem_cons_of_mem _ hb)).trans t2 (by simp)) ?_
        intro b hb
        have g1 := owns_lt HOWN.out b
        simp only [List.mem_cons] at hb
        rcases hb with h | h | h
        · omega
        · omega
        · have := g1 h
          omega

set_option maxRecDepth 100000 in
set_option maxHeartbeats 1000000 in
theorem program_2x (R : Rep w lo p mf mt D) (hB : 64 ≤ D.B ∧ D.B ≤ 65536) (s : ByteArray) (N bit : Int) {sa : Option Addr} {n c : Nat} {d : List UInt8} (hd : Shows w sa n c d) (hn : n ≤ 1073741824) {r : Int} {A' : PubA} (HC0 : ∀ w3 sf cf, Touch [] w w3 → Hand w3 p mf mt D sf (dataA N D.B d).length cf (dataA N D.B d) → Calls Tryz.prog 10 #[ptr p, .string s, .slice sf (dataA N D.B d).length cf] w3 fun e w' => e = .returned (.int .i64 r) ∧ Did3 w3 w' lo p mf mt D A') :
    Calls Tryz.prog 8 #[ptr p, opV 2 s N bit sa n c, .int .i64 D.B] w fun e w' => ∃ v, e = .returned (.tuple #[v, .bool true]) ∧ ToldAt w' w.heap.size (.err r) v ∧ Did3 w w' lo p mf mt D A' := by
  obtain ⟨W, hW⟩ : ∃ W, W = startW w #[.int .i64 2, .string s, .int .i64 N, .int .i64 bit, .slice sa n c] := ⟨_, rfl⟩
  have ST : Start w W _ := hW ▸ start_ok w _
  have HE := hid hW
  unfold startW zeroT at HE
  have HDA := hid (data_any (w := W) 2 s N bit (hd.touch ST.touch (by simp)) hn hB.1 hB.2)
  unfold opV at HDA
  have hdl := data_len N D.B d (by rw [hd.len]; exact hn) hB.2
  obtain ⟨bl, hbl⟩ : ∃ bl, bl = dataA N D.B d := ⟨_, rfl⟩
  rw [← hbl] at HDA hdl HC0
  have R' := R.touch ST.touch (by simp)
  have hnf : ∀ b, w.heap.size ≤ b → b ∉ D.foot p mf mt := fun b hb hm => by have := R.lt b hm; omega
  have HAP := hid (fun (w3 : World) (h3 : Touch [] W w3) (sf : Option Addr) (cf : Nat) (hh : Hand w3 p mf mt D sf bl.length cf bl) => HC0 w3 sf cf (ST.touch.trans h3 (by simp)) hh)
  have HR := hid R
  have HST := hid ST
  have hWz := ST.size
  clear hW R ST R' hbl hd hB HC0
  unfold opV
  go_enter Tryz.func8, Tryz.ntmps8
  go_wp2_with (first
    | (at_builtin; refine wpList_append_789 _ rfl _ _ rfl w1.heap.size _ bl.length bl ⟨w2.heap.size, 0, none⟩ rfl rfl (HO2.out.alloc _) ?h1 (by omega) ?h2 ?_; rotate_left 2; intro g cg w3 ho3 hb3; have HO3 := hid ho3; have HB3 := hid hb3; clear ho3 hb3)
    | (at_builtin; refine wpList_append_copy _ rfl _ rfl sb bl.length cb bl rfl HSB.out (by omega) ?_; intro v2 w2 ho2 hb2; have HO2 := hid ho2; have HB2 := hid hb2; clear ho2 hb2)
    | (rw [← HE.out]; go_at_call 11; refine HDA.out.mono ?_; rintro e w1 ⟨sb, cb, rfl, hsb, ht1, hge⟩; have HGE := hid hge; clear hge; have HSB := hid hsb; have HT1 := hid ht1; clear hsb ht1))
  case h1 =>
    intro j v hv
    have hrow := heap_alloc_new w2 (.cells #[.int .u8 7, .int .u8 8, .int .u8 9] 5)
    have hadd : (⟨w2.heap.size, 0, none⟩ : Addr).add j = ⟨w2.heap.size, j, none⟩ := by unfold Addr.add; split <;> simp_all
    rw [hadd]
    refine (cell_row hrow j).trans ?_
    have e : (#[.int .u8 7, .int .u8 8, .int .u8 9] : Array Value) = (Lib.byteCells [7, 8, 9]).toArray := rfl
    rw [e, List.getElem?_toArray]
    exact hv
  case h2 =>
    have := HB2.out.size
    simp only [World.size_alloc]
    omega
  have b13 : Below w1.heap.size w1 w3 := (HB2.out.alloc HB2.out.size _).trans HB3.out
  have HB13 := hid b13
  have t3 : Touch [] W w3 := HT1.out.trans (Touch.of_below (F := []) b13 (Nat.le_refl _)) (by simp)
  have o1 := cell_row (kept_row HST.out.op t3 (by simp)) 1
  simp at o1
  have hcap : bl.length + 3 ≤ cg := by
    obtain ⟨_, _, e, hc, _⟩ := owns_form HO3.out
    simp only [Value.slice.injEq] at e
    omega
  have HAND : Hid (Hand w3.drew p mf mt D (some ⟨g, 0, none⟩) bl.length cg bl) := by
    have hg := owns_lt HO3.out g (by simp [Value.ownBlock])
    have hz := HT1.out.size
    refine hid ⟨rfl, by omega, fun _ => ⟨_, rfl, hg.2, hnf g (by omega), fun j v hv => HO3.out.cells (g := g) rfl j v ?_⟩⟩
    rw [Lib.byteCells_append, List.getElem?_append_left (List.getElem?_eq_some_iff.1 hv).1]
    exact hv
  have HT3 := hid t3
  have i0 : (0 : Int) ≤ (bl.length : Int) := by omega
  have i1 : (bl.length : Int) ≤ (cg : Int) := by omega
  clear t3 b13
  go_region_held3 (fun W' => W'.cell? ⟨w.heap.size, 1, none⟩ = some (.string s)) (first | go_keep | exact (World.cell?_of_block (Below.heap_setCell _ _ _ _ (by simp; omega))).trans (by assumption))
    (first | (go_at_call 10; refine (HAP.out _ HT3.out.drew _ _ HAND.out).mono ?_; rintro e w4 ⟨rfl, hd⟩; have td := hd.choose_spec.2.2.2.1; have v1 := cell_row (kept_row (kept_row HST.out.op HT3.out.drew (by simp)) td (hnf _ (by omega))) 1; have r1 := kept_row (kept_row HST.out.res HT3.out.drew (by simp)) td (hnf _ (by omega)); have r2 := kept_row (kept_row HST.out.told HT3.out.drew (by simp)) td (hnf _ (by omega)); simp at v1; have c2 := fun i => cell_row r2 i; have f2 := fun i => unfrozen_row r2 i; unfold zeroT at c2; have HD := hid hd; have HR1 := hid r1; have HR2 := hid r2; have HTD := hid td; clear hd r1 r2 td))
  obtain ⟨X, hX⟩ : ∃ X, X = w4.setCell ⟨w.heap.size + 1 + 1, 0, none⟩ (.int .i64 r) := ⟨_, rfl⟩
  have tX : Touch ((w.heap.size + 1 + 1) :: D.foot p mf mt) w3 X := by
    rw [hX]
    exact (((Touch.refl [] w3).drew.mono (by simp)).trans HTD.out (fun b hb => .inl (by simp [hb]))).setCell (by simp) _
  have z1 := HT1.out.size
  have z2 := HB2.out.size
  have z3 : w2.heap.size ≤ w3.heap.size := by have := HB3.out.size; simp only [World.size_alloc] at this; omega
  have oX : X.ownsRow w1.heap.size 5 1 (.slice (some ⟨g, 0, none⟩) (bl.length + 3) cg) (bl.length + 3) (Lib.byteCells (bl ++ [7, 8, 9])) := owns_touch HO3.out tX (fun b hb hm => by
    have h1 := owns_lt HO3.out b (by simp [hb])
    simp only [List.mem_cons] at hm
    rcases hm with h | h
    · omega
    · exact hnf b (by omega) h)
  have sX : Shows X sb bl.length cb bl := by
    have h1 : Shows w3 sb bl.length cb bl := HSB.out.touch (Touch.of_below (F := []) HB13.out (Nat.le_refl _)) (by simp)
    refine h1.touch tX (fun a ha hm => ?_)
    have h2 := HGE.out a ha
    simp only [List.mem_cons] at hm
    rcases hm with h | h
    · omega
    · exact hnf _ (by omega) h
  have fX : Shows X (some ⟨g, 0, none⟩) bl.length cg bl := ⟨rfl, by omega, fun _ => ⟨_, rfl, (owns_lt oX g (by simp [Value.ownBlock])).2, fun j v hv => oX.cells (g := g) rfl j v (by rw [Lib.byteCells_append, List.getElem?_append_left (List.getElem?_eq_some_iff.1 hv).1]; exact hv)⟩, by simp⟩
  have k1 : ∀ m, (convert 31 9 (.slice sb bl.length cb)).run Tryz.prog (X.drewN m) = .ok (encStr bl) (X.drewN m) := fun m => conv_shows ⟨sX.len, sX.cap, sX.at_, sX.nil⟩
  have k2 : ∀ m, (convert 31 9 (.slice (some ⟨g, 0, none⟩) bl.length cg)).run Tryz.prog (X.drewN m) = .ok (encStr bl) (X.drewN m) := fun m => conv_shows ⟨fX.len, fX.cap, fX.at_, fX.nil⟩
  have hadd : ∀ j, (⟨g, 0, none⟩ : Addr).add j = ⟨g, j, none⟩ := fun j => by unfold Addr.add; split <;> simp_all
  have l0 : X.cell? ⟨g, bl.length, none⟩ = some (.int .u8 7) := by
    have := oX.cells (g := g) rfl bl.length (.int .u8 7) (by rw [Lib.byteCells_append, List.getElem?_append_right (by simp [Lib.byteCells_length])]; simp [Lib.byteCells])
    rwa [hadd] at this
  have l1 : X.cell? ⟨g, bl.length + 1, none⟩ = some (.int .u8 8) := by
    have := oX.cells (g := g) rfl (bl.length + 1) (.int .u8 8) (by rw [Lib.byteCells_append, List.getElem?_append_right (by simp [Lib.byteCells_length])]; simp [Lib.byteCells])
    rwa [hadd] at this
  have l2 : X.cell? ⟨g, bl.length + 2, none⟩ = some (.int .u8 9) := by
    have := oX.cells (g := g) rfl (bl.length + 2) (.int .u8 9) (by rw [Lib.byteCells_append, List.getElem?_append_right (by simp [Lib.byteCells_length])]; simp [Lib.byteCells])
    rwa [hadd] at this
  have rX1 : X.heap[w.heap.size + 1]? = some (.cells zeroT 36 (0, 0)) := by
    rw [hX, Below.heap_setCell _ _ _ _ (by simp)]
    exact HR1.out
  have rX2 : X.heap[w.heap.size + 1 + 1]? = some (.cells #[.int .i64 r, .int .i64 0, .bool false, .slice none 0 0, .slice none 0 0, .int .i64 0, .int .i64 0, .int .i64 0, .int .i64 0, .int .i64 0, .int .i64 0, .int .i64 0] 36 (0, 0)) := by
    rw [hX]
    refine (heap_setCell_row HR2.out 0 _).trans ?_
    simp [zeroT]
  have tX4 : Touch [w.heap.size + 1 + 1] w4 X := by
    rw [hX]
    exact (Touch.refl _ w4).setCell (by simp) _
  have HOX := hid oX
  have HRX1 := hid rX1
  have HRX2 := hid rX2
  have HTX4 := hid tX4
  have i2 : (bl.length : Int) < (bl.length : Int) + 3 := by omega
  rw [← hX]
  clear hX oX rX1 rX2 tX4 sX fX tX hadd c2 f2 v1 o1
  go_wp2
  go_quiet (fail)
  obtain ⟨X2, hX2⟩ : ∃ X2, X2 = X.drewN nq := ⟨_, rfl⟩
  have q2 : Quiet X X2 := ⟨nq, hX2⟩
  rw [← hX2]
  clear hX2 k1 k2 l0 l1 l2
  have HBL := hid (blot_own (w := X2) ((OwnB.of HOX.out).touch (Quiet.touch q2 []) (by simp)) (by omega))
  have HQ2 := hid q2
  clear q2
  go_wp2_with (first
    | (go_at_call 24; refine HBL.out.mono ?_; rintro e w5 ⟨rfl, _, ht5⟩; have g5 := owns_lt HOX.out; have r1 := kept_row (kept_row HRX1.out (Quiet.touch HQ2.out []) (by simp)) ht5 (fun hb => by have := g5 _ hb; omega); have r2 := kept_row (kept_row HRX2.out (Quiet.touch HQ2.out []) (by simp)) ht5 (fun hb => by have := g5 _ hb; omega); have c1 := fun i => cell_row r1 i; have c2 := fun i => cell_row r2 i; have f1 := fun i => unfrozen_row r1 i; have f2 := fun i => unfrozen_row r2 i; unfold zeroT at c1; have HT5 := hid ht5; have HR15 := hid r1; clear ht5 g5 r1 r2))
  obtain ⟨W2, hW2, q, t2⟩ := prog_end HR15.out r 0 false (.slice none 0 0) (.slice none 0 0) cnt0
  simp only [cnt0] at hW2 q
  rw [← hW2]
  clear hW2 c1 c2 f1 f2
  refine bodyPost_ret (v := .tuple #[toldV r 0 false (.slice none 0 0) (.slice none 0 0) cnt0, .bool true]) (by simp [results, Tryz.results8, go_sem, q, toldV, cnt0]) rfl ⟨_, rfl, ToldAt.err _ _ _, ?_⟩
  have tt : Touch [w.heap.size + 1, w.heap.size + 1 + 1, g] w4 W2 := (((HTX4.out.mono (by simp)).trans (Quiet.touch HQ2.out []) (by simp)).trans HT5.out (by simp [Value.ownBlock])).trans t2 (by simp)
  have g3 := owns_lt HO3.out g (by simp [Value.ownBlock])
  exact HD.out.wrap (W := w3.drew) HR.out ((HST.out.touch.trans HT3.out (by simp)).drew) tt (by
    intro b hb
    simp at hb
    have h3 := HT3.out.size
    refine .inl ⟨by omega, ?_⟩
    show b < w3.heap.size
    omega)

end

end Go.Proofs.YtcpncfngadablaaGreatDoor
/-
  The document's disk: its numbers, Length.
-/
namespace Go.Proofs.YtcpncfngadablaaGreatDoor
open Go.RowKit Go.Deep ShfKit
set_option maxRecDepth 100000
section
variable {w : World} {R : RefD}
theorem rBlock_any (h : RefAt w R) : Calls Tryz.prog 47 #[.pointer (some ⟨R.p, 0, none⟩)] w fun e w' => e = .returned (.int .i64 (R.B : Int)) ∧ w' = w := by
  have c : w.cell? ⟨R.p, 0, none⟩ = some (.int .i64 (R.B : Int)) := by rw [cell_row h.row]; rfl
  clear h
  go_enter Tryz.func47, Tryz.ntmps47
  go_wp2_with fail
  go_ret
  exact ⟨rfl, rfl⟩
theorem rBlocks_any (h : RefAt w R) : Calls Tryz.prog 49 #[.pointer (some ⟨R.p, 0, none⟩)] w fun e w' => e = .returned (.int .i64 R.Bs) ∧ w' = w := by
  have c : w.cell? ⟨R.p, 1, none⟩ = some (.int .i64 R.Bs) := by rw [cell_row h.row]; rfl
  clear h
  go_enter Tryz.func49, Tryz.ntmps49
  go_wp2_with fail
  go_ret
  exact ⟨rfl, rfl⟩
theorem rOn_any (h : RefAt w R) : Calls Tryz.prog 52 #[.pointer (some ⟨R.p, 0, none⟩)] w fun e w' => e = .returned (.bool R.on) ∧ w' = w := by
  have c : w.cell? ⟨R.p, 11, none⟩ = some (.bool R.on) := by rw [cell_row h.row]; rfl
  clear h
  go_enter Tryz.func52, Tryz.ntmps52
  go_wp2_with fail
  go_ret
  exact ⟨rfl, rfl⟩
theorem rCounts_any (h : RefAt w R) : Calls Tryz.prog 54 #[.pointer (some ⟨R.p, 0, none⟩)] w fun e w' => e = .returned R.c.val ∧ Below w.heap.size w w' := by
  obtain ⟨p, hp⟩ : ∃ p, p = R.p := ⟨_, rfl⟩
  have hpl : p < w.heap.size := by rw [hp]; exact lt_of_block h.row
  have c4 : w.cell? ⟨p, 4, none⟩ = some (.int .i64 R.c.calls) := by rw [hp, cell_row h.row]; rfl
  have c5 : w.cell? ⟨p, 5, none⟩ = some (.int .i64 R.c.reads) := by rw [hp, cell_row h.row]; rfl
  have c6 : w.cell? ⟨p, 6, none⟩ = some (.int .i64 R.c.appends) := by rw [hp, cell_row h.row]; rfl
  have c7 : w.cell? ⟨p, 7, none⟩ = some (.int .i64 R.c.faults) := by rw [hp, cell_row h.row]; rfl
  have c8 : w.cell? ⟨p, 8, none⟩ = some (.int .i64 R.c.full) := by rw [hp, cell_row h.row]; rfl
  have c9 : w.cell? ⟨p, 9, none⟩ = some (.int .i64 R.c.used) := by rw [hp, cell_row h.row]; rfl
  have c10 : w.cell? ⟨p, 10, none⟩ = some (.int .i64 R.c.most) := by rw [hp, cell_row h.row]; rfl
  rw [← hp]
  clear h hp
  go_enter Tryz.func54, Tryz.ntmps54
  go_wp2_with fail
  unfold Cnt.val
  refine bodyPost_ret (v := .agg #[.int .i64 R.c.calls, .int .i64 R.c.reads, .int .i64 R.c.appends, .int .i64 R.c.faults, .int .i64 R.c.full, .int .i64 R.c.used, .int .i64 R.c.most]) (by simp [results, Tryz.results54, go_sem]) rfl ?_
  exact ⟨rfl, (Below.refl _ _).alloc (Nat.le_refl _) _⟩
end
end Go.Proofs.YtcpncfngadablaaGreatDoor
/-
  The document's disk: Length.
-/
namespace Go.Proofs.YtcpncfngadablaaGreatDoor
open Go.RowKit Go.Deep ShfKit
set_option maxRecDepth 100000
/-- a file that is known. -/
theorem RefD.known_at {R : RefD} {key : List UInt8} (h : (R.known key).2 = 0) : (R.known key).1 = findI R.names key ∧ R.on = true ∧ nameB ⟨key.toArray⟩ = true ∧ ∃ e, R.fs[findI R.names key]? = some e ∧ e.name = key := by
  unfold RefD.known at h ⊢
  cases ho : R.on with
  | false => rw [ho] at h; simp at h
  | true =>
    cases hb : nameB ⟨key.toArray⟩ with
    | false => rw [ho, hb] at h; simp at h
    | true =>
      cases hh : R.has key with
      | false => rw [ho, hb, hh] at h; simp at h
      | true =>
        refine ⟨rfl, rfl, rfl, ?_⟩
        unfold RefD.has at hh
        have h2 : R.names[findI R.names key]? = some key := by simpa using hh
        unfold RefD.names at h2
        rw [List.getElem?_map] at h2
        obtain ⟨e, he, hn⟩ := Option.map_eq_some_iff.1 h2
        exact ⟨e, he, hn⟩
set_option maxHeartbeats 2000000 in
theorem rLength_any {w : World} {R : RefD} (h : RefAt w R) (key : List UInt8) (hk : key.length ≤ 1099511627776) (hn : R.fs.length ≤ 1099511627776) :
    Calls Tryz.prog 83 #[.pointer (some ⟨R.p, 0, none⟩), encStr key] w fun e w' => (∃ (e0 : RFile), (R.known key).2 = 0 ∧ R.fs[findI R.names key]? = some e0 ∧ e = .returned (.tuple #[.int .i64 (e0.file.blocks.length : Int), .bool e0.file.shut, .int .i64 0]) ∨ (R.known key).2 ≠ 0 ∧ e = .returned (.tuple #[.int .i64 0, .bool false, .int .i64 (R.known key).2])) ∧ Quiet w w' := by
  have HK := hid (known_any h key hk hn)
  obtain ⟨p, hp⟩ : ∃ p, p = R.p := ⟨_, rfl⟩
  rw [← hp] at HK ⊢
  by_cases hc : (R.known key).2 = 0
  · obtain ⟨h1, _, _, e0, he0, _⟩ := R.known_at hc
    rw [h1, hc] at HK
    obtain ⟨G, gc, hfv, hG, c0, c1, c2, _⟩ := h.file he0
    obtain ⟨i, hi⟩ : ∃ i, i = findI R.names key := ⟨_, rfl⟩
    obtain ⟨n, hnn⟩ : ∃ n, n = R.fs.length := ⟨_, rfl⟩
    rw [← hi] at HK he0 c0 c1 c2
    have hin : i < n := by rw [hnn]; exact (List.getElem?_eq_some_iff.1 he0).1
    have p2 : w.cell? ⟨p, 2, none⟩ = some (.slice (some ⟨G, 0, none⟩) n gc) := by
      rw [hp, cell_row h.row]
      show some R.fv = _
      rw [hfv, hnn]
    obtain ⟨ss, sc, hsv⟩ := sh_slice (h.f31.own i (RFile.r31 e0) (by rw [List.getElem?_map, he0]; rfl))
    have hsv2 : e0.sv = .slice ss e0.file.blocks.length sc := hsv
    rw [hsv2] at c2
    have hpl : p < w.heap.size := by rw [hp]; exact lt_of_block h.row
    have hlt1 : (i : Int) < (n : Int) := by omega
    have i0 : (0 : Int) ≤ (i : Int) := by omega
    have PP : Hid (R.fs[findI R.names key]? = some e0) := by rw [← hi]; exact he0
    have HC := hid hc
    obtain ⟨bl, hbl⟩ : ∃ bl, bl = e0.file.blocks.length := ⟨_, rfl⟩
    obtain ⟨sh, hsh⟩ : ∃ sh, sh = e0.file.shut := ⟨_, rfl⟩
    have HBL := hid hbl
    have HSH := hid hsh
    rw [← hbl] at c2
    rw [← hsh] at c1
    have upq : Hid (∀ w2, Quiet w w2 → w2.cell? ⟨p, 2, none⟩ = some (.slice (some ⟨G, 0, none⟩) n gc) ∧ w2.cell? ⟨G, i * 3 + 1, none⟩ = some (.bool sh) ∧ w2.cell? ⟨G, i * 3 + 2, none⟩ = some (.slice ss bl sc)) := fun w2 hq => by
      have hb := quiet_below hq
      exact ⟨(hb.cell (p := ⟨p, 2, none⟩) hpl).trans p2, (hb.cell (p := ⟨G, i * 3 + 1, none⟩) hG).trans c1, (hb.cell (p := ⟨G, i * 3 + 2, none⟩) hG).trans c2⟩
    clear h hp h1 he0 hfv hsv hsv2 hc hi hnn hbl hsh p2 c0 c1 c2
    go_enter Tryz.func83, Tryz.ntmps83
    go_wp2_with (go_at_call 99; refine HK.out.mono ?_; rintro e w2 ⟨rfl, hq⟩; obtain ⟨d0, d1, d2⟩ := upq.out _ hq; have HQ := hid hq; clear hq)
    go_quiet (fail)
    go_wp2_with fail
    refine bodyPost_ret (v := .tuple #[.int .i64 (bl : Int), .bool sh, .int .i64 0]) (by simp [results, Tryz.results83, go_sem]) rfl ?_
    exact ⟨⟨e0, .inl ⟨HC.out, PP.out, by rw [HBL.out, HSH.out]⟩⟩, quiet_more HQ.out _⟩
  · obtain ⟨c, hcc⟩ : ∃ c, c = (R.known key).2 := ⟨_, rfl⟩
    rw [← hcc] at HK hc
    have HC := hid hcc
    clear h hp hcc
    go_enter Tryz.func83, Tryz.ntmps83
    go_wp2_with (go_at_call 99; refine HK.out.mono ?_; rintro e w2 ⟨rfl, hq⟩; have HQ := hid hq; clear hq)
    refine bodyPost_ret (v := .tuple #[.int .i64 0, .bool false, .int .i64 c]) (by simp [results, Tryz.results83, go_sem]) rfl ?_
    exact ⟨⟨⟨[], ⟨false, []⟩, .slice none 0 0, []⟩, .inr ⟨by rw [← HC.out]; exact hc, by rw [← HC.out]⟩⟩, HQ.out⟩
end Go.Proofs.YtcpncfngadablaaGreatDoor
/-
  The document's disk: Seal.
-/
namespace Go.Proofs.YtcpncfngadablaaGreatDoor
open Go.RowKit Go.Deep ShfKit
set_option maxRecDepth 100000
theorem rflat_set {l : List RFile} {e e' : RFile} {j : Nat} {v : Value} (hj : j < 3) (hc : e'.cells = e.cells.set j v) : ∀ {k : Nat}, l[k]? = some e → (l.set k e').flatMap RFile.cells = (l.flatMap RFile.cells).set (k * 3 + j) v := by
  induction l with
  | nil => intro k h; simp at h
  | cons a l ih =>
    intro k h
    cases k with
    | zero =>
      simp at h
      subst h
      rw [List.set_cons_zero, List.flatMap_cons, List.flatMap_cons, hc, List.set_append_left _ _ (by simp [RFile.cells]; omega), Nat.zero_mul, Nat.zero_add]
    | succ k =>
      simp at h
      rw [List.set_cons_succ, List.flatMap_cons, List.flatMap_cons, ih h, List.set_append_right _ _ (by simp [RFile.cells]; omega)]
      congr 2
      simp [RFile.cells]
      omega
theorem flat_same {α β : Type} {f : α → List β} {l : List α} {a b : α} (e : f b = f a) : ∀ {k : Nat}, l[k]? = some a → (l.set k b).flatMap f = l.flatMap f := by
  induction l with
  | nil => intro k h; simp at h
  | cons x l ih =>
    intro k h
    cases k with
    | zero =>
      simp at h
      subst h
      rw [List.set_cons_zero, List.flatMap_cons, List.flatMap_cons, e]
    | succ k =>
      simp at h
      rw [List.set_cons_succ, List.flatMap_cons, List.flatMap_cons, ih h]
def RFile.sealed (e : RFile) : RFile := { e with file := { e.file with shut := true } }
def RefD.sealAt (R : RefD) (k : Nat) (e : RFile) : RefD := { R with fs := R.fs.set k e.sealed }
theorem RefAt.seal {w : World} {R : RefD} (h : RefAt w R) {k : Nat} {e : RFile} (he : R.fs[k]? = some e) {G gc : Nat} (hv : R.fv = .slice (some ⟨G, 0, none⟩) R.fs.length gc) : RefAt (w.setCell ⟨G, k * 3 + 1, none⟩ (.bool true)) (R.sealAt k e) ∧ Touch R.foot w (w.setCell ⟨G, k * 3 + 1, none⟩ (.bool true)) ∧ (R.sealAt k e).foot = R.foot := by
  obtain ⟨s1, s2⟩ := own_set h.own (j := k * 3 + 1) hv (.bool true)
  have but : But 71 w (w.setCell ⟨G, k * 3 + 1, none⟩ (.bool true)) := But.of_grown s2 (Lib.ownsRow_kind h.own)
  have e1 : (R.fs.set k e.sealed).flatMap RFile.cells = (R.fs.flatMap RFile.cells).set (k * 3 + 1) (.bool true) := rflat_set (by omega) rfl he
  have e2 : (R.fs.set k e.sealed).map RFile.r31 = R.fs.map RFile.r31 := map_same he rfl
  have e3 : (R.fs.set k e.sealed).flatMap (RFile.r5 R.B) = R.fs.flatMap (RFile.r5 R.B) := flat_same (a := e) (b := e.sealed) rfl he
  refine ⟨⟨(but _ _ _ _ h.row (by decide)).trans h.row, ?_, but.own h.tro (by decide), ?_, ?_, fun x hx => ?_⟩, ?_, ?_⟩
  · show World.ownsRow _ 0 71 3 R.fv (R.fs.set k e.sealed).length ((R.fs.set k e.sealed).flatMap RFile.cells)
    rw [e1, List.length_set]
    exact s1
  · show Fam _ 0 31 1 ((R.fs.set k e.sealed).map RFile.r31)
    rw [e2]
    exact but.fam h.f31 (by decide)
  · show Fam _ 0 5 1 ((R.fs.set k e.sealed).flatMap (RFile.r5 R.B))
    rw [e3]
    exact but.fam h.f5 (by decide)
  · rcases List.mem_or_eq_of_mem_set hx with h1 | rfl
    · exact h.len x h1
    · exact h.len e (List.mem_of_getElem? he)
  · exact (Touch.refl R.foot w).setCell (.inl (by simp [RefD.foot, hv, Value.ownBlock])) _
  · show R.p :: (R.fv.ownBlock.toList ++ (R.tv.ownBlock.toList ++ (blks ((R.fs.set k e.sealed).map RFile.r31) ++ blks ((R.fs.set k e.sealed).flatMap (RFile.r5 R.B))))) = _
    rw [e2, e3]
    rfl
/-- a numbered call: what it answers, whether it is done, the disk behind it. -/
def RefD.befall (R : RefD) (whole : Bool) : Int × Bool × RefD := R.called.met R.troub whole
theorem RefD.met_keeps (R : RefD) (t : TrA) (b : Bool) : (R.met t b).2.2.fs = R.fs ∧ (R.met t b).2.2.fv = R.fv ∧ (R.met t b).2.2.p = R.p ∧ (R.met t b).2.2.foot = R.foot ∧ (R.met t b).2.2.B = R.B := by
  unfold RefD.met
  (repeat' split) <;> exact ⟨rfl, rfl, rfl, rfl, rfl⟩
def RefD.sealR (R : RefD) (key : List UInt8) : Int × RefD :=
  if (R.known key).2 = 0 then
    match R.fs[findI R.names key]? with
    | none => (0, R)
    | some e => if e.file.shut then (14, R) else
      if (R.befall false).2.1 then ((R.befall false).1, (R.befall false).2.2.sealAt (findI R.names key) e) else ((R.befall false).1, (R.befall false).2.2)
  else ((R.known key).2, R)
set_option maxHeartbeats 4000000 in
theorem rSeal_any {w : World} {R : RefD} (h : RefAt w R) (key : List UInt8) (hk : key.length ≤ 1099511627776) (hn : R.fs.length ≤ 1099511627776) (hc : 0 ≤ R.c.calls ∧ R.c.calls ≤ 1099511627776) (hf : 0 ≤ R.c.faults ∧ R.c.faults ≤ 1099511627776) (hl : R.trs.length ≤ 1099511627776) :
    Calls Tryz.prog 80 #[.pointer (some ⟨R.p, 0, none⟩), encStr key] w fun e w' => e = .returned (.int .i64 (R.sealR key).1) ∧ RefAt w' (R.sealR key).2 ∧ Touch R.foot w w' ∧ ∀ b ∈ (R.sealR key).2.foot, b ∈ R.foot ∨ w.heap.size ≤ b := by
  have HK := hid (known_any h key hk hn)
  obtain ⟨p, hp⟩ : ∃ p, p = R.p := ⟨_, rfl⟩
  rw [← hp] at HK ⊢
  by_cases hcd : (R.known key).2 = 0
  · obtain ⟨h1, _, _, e0, he0, _⟩ := R.known_at hcd
    rw [h1, hcd] at HK
    obtain ⟨G, gc, hfv, hG, _, c1, _, _⟩ := h.file he0
    obtain ⟨i, hi⟩ : ∃ i, i = findI R.names key := ⟨_, rfl⟩
    obtain ⟨n, hnn⟩ : ∃ n, n = R.fs.length := ⟨_, rfl⟩
    rw [← hi] at HK he0 c1
    have hin : i < n := by rw [hnn]; exact (List.getElem?_eq_some_iff.1 he0).1
    have hlt1 : (i : Int) < (n : Int) := by omega
    have i0 : (0 : Int) ≤ (i : Int) := by omega
    have hpl : p < w.heap.size := by rw [hp]; exact lt_of_block h.row
    have p2 : w.cell? ⟨p, 2, none⟩ = some (.slice (some ⟨G, 0, none⟩) n gc) := by
      rw [hp, cell_row h.row]
      show some R.fv = _
      rw [hfv, hnn]
    have upq : Hid (∀ w2, Quiet w w2 → w2.cell? ⟨p, 2, none⟩ = some (.slice (some ⟨G, 0, none⟩) n gc) ∧ w2.cell? ⟨G, i * 3 + 1, none⟩ = some (.bool e0.file.shut)) := fun w2 hq => by
      have hb := quiet_below hq
      exact ⟨(hb.cell (p := ⟨p, 2, none⟩) hpl).trans p2, (hb.cell (p := ⟨G, i * 3 + 1, none⟩) hG).trans c1⟩
    cases hsh : e0.file.shut with
    | true =>
      have HS : Hid (R.sealR key = (14, R)) := by show _ = _; unfold RefD.sealR; rw [if_pos hcd, ← hi, he0]; simp [hsh]
      have HR := hid h
      rw [hsh] at upq
      clear h hp h1 he0 hfv hcd hi hnn p2 c1 hsh
      go_enter Tryz.func80, Tryz.ntmps80
      go_wp2_with (go_at_call 99; refine HK.out.mono ?_; rintro e w2 ⟨rfl, hq⟩; obtain ⟨d0, d1⟩ := upq.out _ hq; have HQ := hid hq; clear hq)
      go_ret
      rw [HS.out]
      exact ⟨rfl, HR.out.below (quiet_below HQ.out), Touch.of_below (quiet_below HQ.out) (Nat.le_refl _), fun b hb => .inl hb⟩
    | false =>
      obtain ⟨t, ht⟩ : ∃ t, t = R.troub := ⟨_, rfl⟩
      obtain ⟨c, hcde⟩ : ∃ c, c = (R.befall false).1 := ⟨_, rfl⟩
      obtain ⟨d, hdn⟩ : ∃ d, d = (R.befall false).2.1 := ⟨_, rfl⟩
      obtain ⟨R2, hR2⟩ : ∃ R2, R2 = (R.befall false).2.2 := ⟨_, rfl⟩
      have hkp := R.called.met_keeps R.troub false
      have k1 : R2.fs = R.fs := by rw [hR2]; exact hkp.1
      have k2 : R2.fv = R.fv := by rw [hR2]; exact hkp.2.1
      have k3 : R2.p = R.p := by rw [hR2]; exact hkp.2.2.1
      have k4 : R2.foot = R.foot := by rw [hR2]; exact hkp.2.2.2.1
      have HS : Hid (R.sealR key = if d then (c, R2.sealAt i e0) else (c, R2)) := by
        show _ = _
        unfold RefD.sealR
        rw [if_pos hcd, ← hi, he0]
        simp only [hsh, Bool.false_eq_true, if_false]
        rw [← hdn, ← hcde, ← hR2]
      have C97 : Hid (∀ w2, Quiet w w2 → Calls Tryz.prog 97 #[.pointer (some ⟨p, 0, none⟩)] w2 fun e w' => e = .returned (.agg #[.int .i64 t.at_, .int .i64 t.kind, .int .i64 t.bytes]) ∧ RefAt w' R.called ∧ Touch [p] w2 w') := fun w2 hq => by
        have r := trouble_any (h.below (quiet_below hq)) hc hl
        rw [← ht, ← hp] at r
        exact r
      have C98 : Hid (∀ W4, RefAt W4 R.called → Calls Tryz.prog 98 #[.pointer (some ⟨p, 0, none⟩), .agg #[.int .i64 t.at_, .int .i64 t.kind, .int .i64 t.bytes], .bool false] W4 fun e w' => e = .returned (.tuple #[.int .i64 c, .bool d]) ∧ RefAt w' R2 ∧ Touch [p] W4 w') := fun W4 hr => by
        have r := met_any hr t false hf
        have e1 : R.called.met t false = R.befall false := by unfold RefD.befall; rw [ht]
        rw [e1, ← hcde, ← hdn, ← hR2] at r
        rw [hp]
        exact r
      have PF : Hid (p ∈ R.foot) := by rw [hp]; show _ ∈ _; simp [RefD.foot]
      have K5 : Hid (∀ w5, RefAt w5 R2 → w5.cell? ⟨p, 2, none⟩ = some (.slice (some ⟨G, 0, none⟩) n gc) ∧ (∃ z, w5.cell? ⟨G, i * 3 + 1, none⟩ = some z) ∧ w5.frozen? ⟨G, i * 3 + 1, none⟩ = false ∧ RefAt (w5.setCell ⟨G, i * 3 + 1, none⟩ (.bool true)) (R2.sealAt i e0) ∧ Touch R.foot w5 (w5.setCell ⟨G, i * 3 + 1, none⟩ (.bool true)) ∧ (R2.sealAt i e0).foot = R.foot) := fun w5 hr => by
        have he2 : R2.fs[i]? = some e0 := by rw [k1]; exact he0
        have hv2 : R2.fv = .slice (some ⟨G, 0, none⟩) R2.fs.length gc := by rw [k2, k1]; exact hfv
        obtain ⟨s1, s2, s3⟩ := hr.seal he2 hv2
        obtain ⟨G', gc', hv', _, _, q1, _, q3⟩ := hr.file he2
        rw [hv2] at hv'
        simp only [Value.slice.injEq, Option.some.injEq, Addr.mk.injEq] at hv'
        obtain ⟨⟨rfl, -⟩, -, -⟩ := hv'
        refine ⟨?_, ⟨_, q1⟩, q3 _, s1, by rw [← k4]; exact s2, s3.trans k4⟩
        have q2 : w5.cell? ⟨R2.p, 2, none⟩ = some R2.fv := cell_row hr.row 2
        rw [hp, ← k3, q2, hv2, k1, hnn]
      have K4 := hid k4
      rw [hsh] at upq
      clear h hp h1 he0 hfv hcd hi hnn p2 c1 hsh ht hcde hdn hR2 hkp k1 k2 k3 k4
      cases d with
      | true =>
        go_enter Tryz.func80, Tryz.ntmps80
        go_wp2_with (first
          | (have q := R3; clear q; go_at_call 98; refine (C98.out _ (R3.out.below ((Below.refl _ _).alloc (Nat.le_refl _) _))).mono ?_; rintro e w5 ⟨rfl, r5, t5⟩; obtain ⟨m0, ⟨z, m1⟩, m2, m3⟩ := K5.out _ r5; have M3 := hid m3; have T5 := hid t5; clear r5 t5 m3)
          | (have q := HQ; clear q; go_at_call 97; refine (C97.out _ HQ.out).mono ?_; rintro e w3 ⟨rfl, r3, t3⟩; have R3 := hid r3; have T3 := hid t3; clear r3 t3)
          | (go_at_call 99; refine HK.out.mono ?_; rintro e w2 ⟨rfl, hq⟩; obtain ⟨d0, d1⟩ := upq.out _ hq; have HQ := hid hq; clear hq))
        go_ret
        rw [HS.out]
        refine ⟨rfl, M3.out.1, ?_, fun b hb => .inl (by have h9 := M3.out.2.2; rw [← h9]; exact hb)⟩
        have tt : Touch R.foot w w5 := (((Touch.of_below (F := R.foot) (quiet_below HQ.out) (Nat.le_refl _)).trans T3.out (fun b hb => by simp at hb; subst hb; exact .inl PF.out)).alloc _).trans T5.out (fun b hb => by simp at hb; subst hb; exact .inl PF.out)
        exact tt.trans M3.out.2.1 (fun b hb => .inl hb)
      | false =>
        go_enter Tryz.func80, Tryz.ntmps80
        go_wp2_with (first
          | (have q := R3; clear q; go_at_call 98; refine (C98.out _ (R3.out.below ((Below.refl _ _).alloc (Nat.le_refl _) _))).mono ?_; rintro e w5 ⟨rfl, r5, t5⟩; have R5 := hid r5; have T5 := hid t5; clear r5 t5)
          | (have q := HQ; clear q; go_at_call 97; refine (C97.out _ HQ.out).mono ?_; rintro e w3 ⟨rfl, r3, t3⟩; have R3 := hid r3; have T3 := hid t3; clear r3 t3)
          | (go_at_call 99; refine HK.out.mono ?_; rintro e w2 ⟨rfl, hq⟩; obtain ⟨d0, d1⟩ := upq.out _ hq; have HQ := hid hq; clear hq))
        go_ret
        rw [HS.out]
        refine ⟨rfl, R5.out, ?_, fun b hb => .inl (by have h9 := K4.out; rw [← h9]; exact hb)⟩
        exact (((Touch.of_below (F := R.foot) (quiet_below HQ.out) (Nat.le_refl _)).trans T3.out (fun b hb => by simp at hb; subst hb; exact .inl PF.out)).alloc _).trans T5.out (fun b hb => by simp at hb; subst hb; exact .inl PF.out)
  · obtain ⟨c, hcc⟩ : ∃ c, c = (R.known key).2 := ⟨_, rfl⟩
    have HS : Hid (R.sealR key = (c, R)) := by show _ = _; unfold RefD.sealR; rw [if_neg hcd, hcc]
    rw [← hcc] at HK hcd
    have HR := hid h
    clear h hp hcc
    go_enter Tryz.func80, Tryz.ntmps80
    go_wp2_with (go_at_call 99; refine HK.out.mono ?_; rintro e w2 ⟨rfl, hq⟩; have HQ := hid hq; clear hq)
    go_ret
    rw [HS.out]
    exact ⟨rfl, HR.out.below (quiet_below HQ.out), Touch.of_below (quiet_below HQ.out) (Nat.le_refl _), fun b hb => .inl hb⟩
end Go.Proofs.YtcpncfngadablaaGreatDoor
/-
  Copy: what is being made.
-/
namespace Go.Proofs.YtcpncfngadablaaGreatDoor
open Go.RowKit Go.Deep ShfKit
set_option maxRecDepth 100000
/-- append of one, in the text's order, told where it lies. -/
theorem wpl_one {ops : Array Oper} {rest : List Oper} {o : Oper} {a : Act} {Q : Exit → Act → World → Prop} {W : World} (hg : o.guard = none) (s x : Operand) (t : TypeId) (hop : o.op = Op.call { callee := Callee.builtin Builtin.append, args := #[s, x], argTypes := #[t, t] })
    (B : Nat) (e : TypeId) (z : Value) (size bytes : Nat) (ht : Tryz.prog.underlying t = some (.slice e)) (hinf : (Tryz.prog.info? e).map (fun i => (i.zero, i.size, i.bytes)) = some (some z, size, bytes))
    (hzs : z.cells.size = size) (hsz : 0 < size) (v : Value) (n : Nat) (xs : List Value) (hs : a.eval s = v) (hown : W.ownsRow B e size v n xs) (news : List Value) (u : TypeId) (ad : Nat) (had : ad = W.heap.size) (hx : a.eval x = .slice (some ⟨ad, 0, none⟩) 1 1) (hl : news.length = size) (h1 : ∀ u ∈ news, u.oneCell' = true) (hn : n ≤ 1099511627776) (hby : (n + 1) * bytes ≤ 140737488355328) (hbase : B ≤ W.heap.size)
    (hK : ∀ v' w', w'.ownsRow B e size v' (n + 1) (xs ++ news) → ((v'.ownBlock = v.ownBlock ∧ (W.alloc (.cells news.toArray u)).grownBy w' v.ownBlock) ∨ ((∀ g, v'.ownBlock = some g → (W.alloc (.cells news.toArray u)).heap.size ≤ g) ∧ (W.alloc (.cells news.toArray u)).grownBy w' none)) → wpList Tryz.prog ops Q rest (a.put o.dst v') w') :
    wpList Tryz.prog ops Q (o :: rest) a (W.alloc (.cells news.toArray u)) := by
  subst had
  obtain ⟨i, hi, hz0, hz1, hz2⟩ := info_parts hinf
  exact wpList_append_far _ hg s x t hop B e i z size bytes ht hi hz0 hz1 hz2 hzs hsz v n xs hs (own_kept hown fun g hgv => Below.heap_alloc _ _ _ (own_block hown hgv).2) ⟨W.heap.size, 0, none⟩ 1 1 news hx (by rw [hl, Nat.one_mul]) (fun j u hu => by rw [add_zero_addr, cell_row (heap_alloc_new W _)]; simpa using hu) h1 (by unfold maxLen; omega) hby (by simp; omega) hK
section
variable {w wr W1 wk Y Z W6 : World} {b3 b5 N : Nat} {nm sl fb v' fo : Value} {vs : List Value} {bs : List (List UInt8)} {m : List SFile}
end
end Go.Proofs.YtcpncfngadablaaGreatDoor
