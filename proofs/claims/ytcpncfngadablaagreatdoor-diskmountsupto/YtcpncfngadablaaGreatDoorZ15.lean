import Derived.Test.YtcpncfngadablaaGreatDoorZ14
/-
  document, over any contract of the call that it makes.
-/
namespace Go.Proofs.YtcpncfngadablaaGreatDoor
open Go.RowKit Go.Deep ShfKit
set_option maxRecDepth 100000
/-- a call of the document's disk has been made. -/
def RDid (w w' : World) (R : RefD) (A' : PubA) : Prop :=
  ∃ R', RefAt w' R' ∧ R'.pub = A' ∧ (R'.trs = R.trs ∧ R'.p = R.p) ∧ Touch R.foot w w' ∧ ∀ b ∈ R'.foot, b ∈ R.foot ∨ w.heap.size ≤ b
theorem Handed.own {w w' : World} {B : Nat} {v : Value} {o : Option (List UInt8)} (h : Handed w w' B v o) : ∃ sb m cb, v = .slice sb m cb ∧ (o.getD []).length = m ∧ w'.ownsRow w.heap.size 5 1 v m (Lib.byteCells (o.getD [])) := by
  cases o with
  | none =>
    have h2 : v = .slice none 0 0 := h
    exact ⟨none, 0, 0, h2, rfl, by rw [h2]; exact World.ownsRow_nil _ _ _ _⟩
  | some d =>
    obtain ⟨h1, h2⟩ := h
    obtain ⟨sb, cb, hv⟩ := sh_slice h1
    exact ⟨sb, B, cb, hv, h2, h1⟩
section
variable {w w' : World} {R : RefD}
theorem RDid.same (h : RefAt w R) (ht : Touch [] w w') : RDid w w' R R.pub :=
  ⟨R, h.touch ht (by simp), rfl, ⟨rfl, rfl⟩, ht.mono (by simp), fun _ h => .inl h⟩
theorem RDid.wrap {W w1 w2 : World} {A : PubA} {G : List Nat} (h : RefAt w R) (h1 : Touch [] w W) (hd : RDid W w1 R A) (h2 : Touch G w1 w2) (hG : ∀ b ∈ G, w.heap.size ≤ b ∧ b < W.heap.size ∨ w1.heap.size ≤ b) : RDid w w2 R A := by
  obtain ⟨R', hr, hp, hT, ht, hf⟩ := hd
  have hs := h1.size
  have hs2 := ht.size
  refine ⟨R', hr.touch h2 ?_, hp, hT, ((h1.mono (by simp)).trans ht (fun b hb => .inl hb)).trans h2 (fun b hb => .inr (by have := hG b hb; omega)), fun b hb => ?_⟩
  · intro b hb hbG
    have hlt := hr.lt b hb
    rcases hf b hb with h3 | h3
    · have := h.lt b h3
      have := hG b hbG
      omega
    · have := hG b hbG
      omega
  · rcases hf b hb with h3 | h3
    · exact .inl h3
    · exact .inr (by omega)

set_option maxHeartbeats 2000000 in
theorem document_1x (h : RefAt w R) (s : ByteArray) (N bit : Int) (sa : Option Addr) (n c : Nat) {r : Int} {A' : PubA} (HC0 : ∀ W, Touch [] w W → Calls Tryz.prog 78 #[.pointer (some ⟨R.p, 0, none⟩), .string s] W fun e w' => e = .returned (.int .i64 r) ∧ RDid W w' R A') :
    Calls Tryz.prog 55 #[.pointer (some ⟨R.p, 0, none⟩), opV 1 s N bit sa n c] w fun e w' => ∃ v, e = .returned v ∧ ToldAt w' w.heap.size (.err r) v ∧ RDid w w' R A' := by
  obtain ⟨W, hW⟩ : ∃ W, W = startW w #[.int .i64 1, .string s, .int .i64 N, .int .i64 bit, .slice sa n c] := ⟨_, rfl⟩
  have ST : Start w W _ := hW ▸ start_ok w _
  have HE := hid hW
  unfold startW zeroT at HE
  have HC := hid (HC0 W ST.touch)
  have hnf : ∀ b, w.heap.size ≤ b → b ∉ R.foot := fun b hb hm => by have := h.lt b hm; omega
  have HR := hid h
  have HST := hid ST
  clear hW h ST HC0
  unfold opV
  go_enter Tryz.func55, Tryz.ntmps55
  go_wp2_with (first | (rw [← HE.out]; go_at_call 78; refine HC.out.mono ?_; rintro e w1 ⟨rfl, hd⟩; have r1 := kept_row HST.out.res hd.choose_spec.2.2.2.1 (hnf _ (by omega)); have r2 := kept_row HST.out.told hd.choose_spec.2.2.2.1 (hnf _ (by omega)); have c1 := fun i => cell_row r1 i; have c2 := fun i => cell_row r2 i; have f1 := fun i => unfrozen_row r1 i; have f2 := fun i => unfrozen_row r2 i; unfold zeroT at c1 c2; have HD := hid hd; have HR1 := hid r1; have HR2 := hid r2; clear hd r1 r2))
  have r1' : (w1.setCell ⟨w.heap.size + 1 + 1, 0, none⟩ (.int .i64 r)).heap[w.heap.size + 1]? = some (.cells zeroT 36 (0, 0)) := by
    rw [Below.heap_setCell _ _ _ _ (by simp)]
    exact HR1.out
  obtain ⟨W2, hW2, q, t2⟩ := prog_end r1' r 0 false (.slice none 0 0) (.slice none 0 0) cnt0
  simp only [cnt0] at hW2 q
  rw [← hW2]
  clear hW2 c1 c2 f1 f2
  refine bodyPost_ret (v := toldV r 0 false (.slice none 0 0) (.slice none 0 0) cnt0) (by simp [results, Tryz.results55, go_sem, q, toldV, cnt0]) rfl ⟨_, rfl, ToldAt.err _ _ _, ?_⟩
  have tt : Touch [w.heap.size + 1, w.heap.size + 1 + 1] w1 W2 := ((Touch.refl _ w1).setCell (by simp) _).trans t2 (by simp)
  have hz := HST.out.size
  exact RDid.wrap HR.out HST.out.touch HD.out tt (by simp; omega)

set_option maxHeartbeats 2000000 in
theorem document_3x (h : RefAt w R) (s : ByteArray) (N bit : Int) (sa : Option Addr) (n c : Nat) {r : Int} {A' : PubA} (HC0 : ∀ W, Touch [] w W → Calls Tryz.prog 80 #[.pointer (some ⟨R.p, 0, none⟩), .string s] W fun e w' => e = .returned (.int .i64 r) ∧ RDid W w' R A') :
    Calls Tryz.prog 55 #[.pointer (some ⟨R.p, 0, none⟩), opV 3 s N bit sa n c] w fun e w' => ∃ v, e = .returned v ∧ ToldAt w' w.heap.size (.err r) v ∧ RDid w w' R A' := by
  obtain ⟨W, hW⟩ : ∃ W, W = startW w #[.int .i64 3, .string s, .int .i64 N, .int .i64 bit, .slice sa n c] := ⟨_, rfl⟩
  have ST : Start w W _ := hW ▸ start_ok w _
  have HE := hid hW
  unfold startW zeroT at HE
  have HC := hid (HC0 W ST.touch)
  have hnf : ∀ b, w.heap.size ≤ b → b ∉ R.foot := fun b hb hm => by have := h.lt b hm; omega
  have HR := hid h
  have HST := hid ST
  clear hW h ST HC0
  unfold opV
  go_enter Tryz.func55, Tryz.ntmps55
  go_wp2_with (first | (rw [← HE.out]; go_at_call 80; refine HC.out.mono ?_; rintro e w1 ⟨rfl, hd⟩; have r1 := kept_row HST.out.res hd.choose_spec.2.2.2.1 (hnf _ (by omega)); have r2 := kept_row HST.out.told hd.choose_spec.2.2.2.1 (hnf _ (by omega)); have c1 := fun i => cell_row r1 i; have c2 := fun i => cell_row r2 i; have f1 := fun i => unfrozen_row r1 i; have f2 := fun i => unfrozen_row r2 i; unfold zeroT at c1 c2; have HD := hid hd; have HR1 := hid r1; have HR2 := hid r2; clear hd r1 r2))
  have r1' : (w1.setCell ⟨w.heap.size + 1 + 1, 0, none⟩ (.int .i64 r)).heap[w.heap.size + 1]? = some (.cells zeroT 36 (0, 0)) := by
    rw [Below.heap_setCell _ _ _ _ (by simp)]
    exact HR1.out
  obtain ⟨W2, hW2, q, t2⟩ := prog_end r1' r 0 false (.slice none 0 0) (.slice none 0 0) cnt0
  simp only [cnt0] at hW2 q
  rw [← hW2]
  clear hW2 c1 c2 f1 f2
  refine bodyPost_ret (v := toldV r 0 false (.slice none 0 0) (.slice none 0 0) cnt0) (by simp [results, Tryz.results55, go_sem, q, toldV, cnt0]) rfl ⟨_, rfl, ToldAt.err _ _ _, ?_⟩
  have tt : Touch [w.heap.size + 1, w.heap.size + 1 + 1] w1 W2 := ((Touch.refl _ w1).setCell (by simp) _).trans t2 (by simp)
  have hz := HST.out.size
  exact RDid.wrap HR.out HST.out.touch HD.out tt (by simp; omega)

set_option maxHeartbeats 2000000 in
theorem document_5x (h : RefAt w R) (s : ByteArray) (N bit : Int) (sa : Option Addr) (n c : Nat) {r : Int} {A' : PubA} (HC0 : ∀ W, Touch [] w W → Calls Tryz.prog 82 #[.pointer (some ⟨R.p, 0, none⟩), .string s] W fun e w' => e = .returned (.int .i64 r) ∧ RDid W w' R A') :
    Calls Tryz.prog 55 #[.pointer (some ⟨R.p, 0, none⟩), opV 5 s N bit sa n c] w fun e w' => ∃ v, e = .returned v ∧ ToldAt w' w.heap.size (.err r) v ∧ RDid w w' R A' := by
  obtain ⟨W, hW⟩ : ∃ W, W = startW w #[.int .i64 5, .string s, .int .i64 N, .int .i64 bit, .slice sa n c] := ⟨_, rfl⟩
  have ST : Start w W _ := hW ▸ start_ok w _
  have HE := hid hW
  unfold startW zeroT at HE
  have HC := hid (HC0 W ST.touch)
  have hnf : ∀ b, w.heap.size ≤ b → b ∉ R.foot := fun b hb hm => by have := h.lt b hm; omega
  have HR := hid h
  have HST := hid ST
  clear hW h ST HC0
  unfold opV
  go_enter Tryz.func55, Tryz.ntmps55
  go_wp2_with (first | (rw [← HE.out]; go_at_call 82; refine HC.out.mono ?_; rintro e w1 ⟨rfl, hd⟩; have r1 := kept_row HST.out.res hd.choose_spec.2.2.2.1 (hnf _ (by omega)); have r2 := kept_row HST.out.told hd.choose_spec.2.2.2.1 (hnf _ (by omega)); have c1 := fun i => cell_row r1 i; have c2 := fun i => cell_row r2 i; have f1 := fun i => unfrozen_row r1 i; have f2 := fun i => unfrozen_row r2 i; unfold zeroT at c1 c2; have HD := hid hd; have HR1 := hid r1; have HR2 := hid r2; clear hd r1 r2))
  have r1' : (w1.setCell ⟨w.heap.size + 1 + 1, 0, none⟩ (.int .i64 r)).heap[w.heap.size + 1]? = some (.cells zeroT 36 (0, 0)) := by
    rw [Below.heap_setCell _ _ _ _ (by simp)]
    exact HR1.out
  obtain ⟨W2, hW2, q, t2⟩ := prog_end r1' r 0 false (.slice none 0 0) (.slice none 0 0) cnt0
  simp only [cnt0] at hW2 q
  rw [← hW2]
  clear hW2 c1 c2 f1 f2
  refine bodyPost_ret (v := toldV r 0 false (.slice none 0 0) (.slice none 0 0) cnt0) (by simp [results, Tryz.results55, go_sem, q, toldV, cnt0]) rfl ⟨_, rfl, ToldAt.err _ _ _, ?_⟩
  have tt : Touch [w.heap.size + 1, w.heap.size + 1 + 1] w1 W2 := ((Touch.refl _ w1).setCell (by simp) _).trans t2 (by simp)
  have hz := HST.out.size
  exact RDid.wrap HR.out HST.out.touch HD.out tt (by simp; omega)

set_option maxHeartbeats 2000000 in
theorem document_9x (h : RefAt w R) (s : ByteArray) (N bit : Int) (sa : Option Addr) (n c : Nat) {r : Int} {A' : PubA} (HC0 : ∀ W, Touch [] w W → Calls Tryz.prog 85 #[.pointer (some ⟨R.p, 0, none⟩), .string s, .int .i64 N, .int .i64 bit] W fun e w' => e = .returned (.int .i64 r) ∧ RDid W w' R A') :
    Calls Tryz.prog 55 #[.pointer (some ⟨R.p, 0, none⟩), opV 9 s N bit sa n c] w fun e w' => ∃ v, e = .returned v ∧ ToldAt w' w.heap.size (.err r) v ∧ RDid w w' R A' := by
  obtain ⟨W, hW⟩ : ∃ W, W = startW w #[.int .i64 9, .string s, .int .i64 N, .int .i64 bit, .slice sa n c] := ⟨_, rfl⟩
  have ST : Start w W _ := hW ▸ start_ok w _
  have HE := hid hW
  unfold startW zeroT at HE
  have HC := hid (HC0 W ST.touch)
  have hnf : ∀ b, w.heap.size ≤ b → b ∉ R.foot := fun b hb hm => by have := h.lt b hm; omega
  have HR := hid h
  have HST := hid ST
  clear hW h ST HC0
  unfold opV
  go_enter Tryz.func55, Tryz.ntmps55
  go_wp2_with (first | (rw [← HE.out]; go_at_call 85; refine HC.out.mono ?_; rintro e w1 ⟨rfl, hd⟩; have r1 := kept_row HST.out.res hd.choose_spec.2.2.2.1 (hnf _ (by omega)); have r2 := kept_row HST.out.told hd.choose_spec.2.2.2.1 (hnf _ (by omega)); have c1 := fun i => cell_row r1 i; have c2 := fun i => cell_row r2 i; have f1 := fun i => unfrozen_row r1 i; have f2 := fun i => unfrozen_row r2 i; unfold zeroT at c1 c2; have HD := hid hd; have HR1 := hid r1; have HR2 := hid r2; clear hd r1 r2))
  have r1' : (w1.setCell ⟨w.heap.size + 1 + 1, 0, none⟩ (.int .i64 r)).heap[w.heap.size + 1]? = some (.cells zeroT 36 (0, 0)) := by
    rw [Below.heap_setCell _ _ _ _ (by simp)]
    exact HR1.out
  obtain ⟨W2, hW2, q, t2⟩ := prog_end r1' r 0 false (.slice none 0 0) (.slice none 0 0) cnt0
  simp only [cnt0] at hW2 q
  rw [← hW2]
  clear hW2 c1 c2 f1 f2
  refine bodyPost_ret (v := toldV r 0 false (.slice none 0 0) (.slice none 0 0) cnt0) (by simp [results, Tryz.results55, go_sem, q, toldV, cnt0]) rfl ⟨_, rfl, ToldAt.err _ _ _, ?_⟩
  have tt : Touch [w.heap.size + 1, w.heap.size + 1 + 1] w1 W2 := ((Touch.refl _ w1).setCell (by simp) _).trans t2 (by simp)
  have hz := HST.out.size
  exact RDid.wrap HR.out HST.out.touch HD.out tt (by simp; omega)

set_option maxHeartbeats 2000000 in
theorem document_6x (h : RefAt w R) (s : ByteArray) (N bit : Int) (sa : Option Addr) (n c : Nat) {ln r : Int} {sh : Bool} (HC0 : ∀ W, Touch [] w W → Calls Tryz.prog 83 #[.pointer (some ⟨R.p, 0, none⟩), .string s] W fun e w' => e = .returned (.tuple #[.int .i64 ln, .bool sh, .int .i64 r]) ∧ Touch [] W w') :
    Calls Tryz.prog 55 #[.pointer (some ⟨R.p, 0, none⟩), opV 6 s N bit sa n c] w fun e w' => ∃ v, e = .returned v ∧ ToldAt w' w.heap.size ⟨r, ln, sh, [], [], cnt0⟩ v ∧ RDid w w' R R.pub := by
  obtain ⟨W, hW⟩ : ∃ W, W = startW w #[.int .i64 6, .string s, .int .i64 N, .int .i64 bit, .slice sa n c] := ⟨_, rfl⟩
  have ST : Start w W _ := hW ▸ start_ok w _
  have HE := hid hW
  unfold startW zeroT at HE
  have HC := hid (HC0 W ST.touch)
  have HR := hid h
  have HR' := hid (h.touch ST.touch (by simp))
  have HST := hid ST
  clear hW h ST HC0
  unfold opV
  go_enter Tryz.func55, Tryz.ntmps55
  go_wp2_with (first | (rw [← HE.out]; go_at_call 83; refine HC.out.mono ?_; rintro e w1 ⟨rfl, hd⟩; have r1 := kept_row HST.out.res hd (by simp); have r2 := kept_row HST.out.told hd (by simp); have c1 := fun i => cell_row r1 i; have c2 := fun i => cell_row r2 i; have f1 := fun i => unfrozen_row r1 i; have f2 := fun i => unfrozen_row r2 i; unfold zeroT at c1 c2; have HD := hid hd; have HR1 := hid r1; have HR2 := hid r2; clear hd r1 r2))
  have r1' : (((w1.setCell ⟨w.heap.size + 1 + 1, 1, none⟩ (.int .i64 ln)).setCell ⟨w.heap.size + 1 + 1, 2, none⟩ (.bool sh)).setCell ⟨w.heap.size + 1 + 1, 0, none⟩ (.int .i64 r)).heap[w.heap.size + 1]? = some (.cells zeroT 36 (0, 0)) := by
    rw [Below.heap_setCell _ _ _ _ (by simp), Below.heap_setCell _ _ _ _ (by simp), Below.heap_setCell _ _ _ _ (by simp)]
    exact HR1.out
  obtain ⟨W2, hW2, q, t2⟩ := prog_end r1' r ln sh (.slice none 0 0) (.slice none 0 0) cnt0
  simp only [cnt0] at hW2 q
  rw [← hW2]
  clear hW2 c1 c2 f1 f2
  refine bodyPost_ret (v := toldV r ln sh (.slice none 0 0) (.slice none 0 0) cnt0) (by simp [results, Tryz.results55, go_sem, q, toldV, cnt0]) rfl ⟨_, rfl, ⟨_, _, rfl, World.ownsRow_nil _ _ _ _, World.ownsRow_nil _ _ _ _⟩, ?_⟩
  have tt : Touch [w.heap.size + 1, w.heap.size + 1 + 1] w1 W2 := ((((Touch.refl _ w1).setCell (by simp) _).setCell (by simp) _).setCell (by simp) _).trans t2 (by simp)
  have hz := HST.out.size
  exact RDid.wrap HR.out HST.out.touch (RDid.same HR'.out HD.out) tt (by simp; omega)

set_option maxHeartbeats 2000000 in
theorem document_8x (h : RefAt w R) (s : ByteArray) (N bit : Int) (sa : Option Addr) (n c : Nat) :
    Calls Tryz.prog 55 #[.pointer (some ⟨R.p, 0, none⟩), opV 8 s N bit sa n c] w fun e w' => ∃ v, e = .returned v ∧ ToldAt w' w.heap.size ⟨0, 0, false, [], [], R.c⟩ v ∧ RDid w w' R R.pub := by
  obtain ⟨W, hW⟩ : ∃ W, W = startW w #[.int .i64 8, .string s, .int .i64 N, .int .i64 bit, .slice sa n c] := ⟨_, rfl⟩
  have ST : Start w W _ := hW ▸ start_ok w _
  have HE := hid hW
  unfold startW zeroT at HE
  have HC := hid (rCounts_any (h.touch ST.touch (by simp)))
  unfold Cnt.val at HC
  have HR := hid h
  have HR' := hid (h.touch ST.touch (by simp))
  have HST := hid ST
  clear hW h ST
  unfold opV
  go_enter Tryz.func55, Tryz.ntmps55
  go_wp2_with (first | (rw [← HE.out]; go_at_call 54; refine HC.out.mono ?_; rintro e w1 ⟨rfl, hb⟩; have hd := Touch.of_below (F := []) hb (Nat.le_refl _); have r1 := kept_row HST.out.res hd (by simp); have r2 := kept_row HST.out.told hd (by simp); have c1 := fun i => cell_row r1 i; have c2 := fun i => cell_row r2 i; have f1 := fun i => unfrozen_row r1 i; have f2 := fun i => unfrozen_row r2 i; unfold zeroT at c1 c2; have HD := hid hd; have HR1 := hid r1; have HR2 := hid r2; clear hb hd r1 r2))
  have t1 : Touch [w.heap.size + 1 + 1] w1 (((((((w1.setCell ⟨w.heap.size + 1 + 1, 5, none⟩ (.int .i64 R.c.calls)).setCell ⟨w.heap.size + 1 + 1, 6, none⟩ (.int .i64 R.c.reads)).setCell ⟨w.heap.size + 1 + 1, 7, none⟩ (.int .i64 R.c.appends)).setCell ⟨w.heap.size + 1 + 1, 8, none⟩ (.int .i64 R.c.faults)).setCell ⟨w.heap.size + 1 + 1, 9, none⟩ (.int .i64 R.c.full)).setCell ⟨w.heap.size + 1 + 1, 10, none⟩ (.int .i64 R.c.used)).setCell ⟨w.heap.size + 1 + 1, 11, none⟩ (.int .i64 R.c.most)) := by
    repeat' refine Touch.setCell ?_ (by simp) _
    exact Touch.refl _ _
  obtain ⟨W2, hW2, q, t2⟩ := prog_end (kept_row HR1.out t1 (by simp)) 0 0 false (.slice none 0 0) (.slice none 0 0) R.c
  rw [← hW2]
  clear hW2 c1 c2 f1 f2
  refine bodyPost_ret (v := toldV 0 0 false (.slice none 0 0) (.slice none 0 0) R.c) (by simp [results, Tryz.results55, go_sem, q, toldV]) rfl ⟨_, rfl, ⟨_, _, rfl, World.ownsRow_nil _ _ _ _, World.ownsRow_nil _ _ _ _⟩, ?_⟩
  have tt : Touch [w.heap.size + 1, w.heap.size + 1 + 1] w1 W2 := (t1.mono (by simp)).trans t2 (by simp)
  have hz := HST.out.size
  exact RDid.wrap HR.out HST.out.touch (RDid.same HR'.out HD.out) tt (by simp; omega)

set_option maxHeartbeats 2000000 in
theorem document_0x (h : RefAt w R) (k : Int) (h1 : (k == 1) = false) (h2 : (k == 2) = false) (h3 : (k == 3) = false) (h4 : (k == 4) = false) (h5 : (k == 5) = false) (h6 : (k == 6) = false) (h7 : (k == 7) = false) (h8 : (k == 8) = false) (h9 : (k == 9) = false) (s : ByteArray) (N bit : Int) (sa : Option Addr) (n c : Nat) :
    Calls Tryz.prog 55 #[.pointer (some ⟨R.p, 0, none⟩), opV k s N bit sa n c] w fun e w' => ∃ v, e = .returned v ∧ ToldAt w' w.heap.size (.err 0) v ∧ RDid w w' R R.pub := by
  obtain ⟨W, hW⟩ : ∃ W, W = startW w #[.int .i64 k, .string s, .int .i64 N, .int .i64 bit, .slice sa n c] := ⟨_, rfl⟩
  have ST : Start w W _ := hW ▸ start_ok w _
  have HE := hid hW
  unfold startW zeroT at HE
  have HR := hid h
  have HST := hid ST
  clear hW h ST
  unfold opV
  go_enter Tryz.func55, Tryz.ntmps55
  go_wp2
  rw [← HE.out]
  have q := fun i => cell_row HST.out.res i
  unfold zeroT at q
  refine bodyPost_ret (v := toldV 0 0 false (.slice none 0 0) (.slice none 0 0) cnt0) (by simp [results, Tryz.results55, go_sem, q, toldV, cnt0]) rfl ⟨_, rfl, ToldAt.err _ _ _, ?_⟩
  exact RDid.wrap HR.out HST.out.touch (RDid.same (HR.out.touch HST.out.touch (by simp)) (Touch.refl [] W)) (Touch.refl [] W) (by simp)

set_option maxHeartbeats 2000000 in
theorem document_7x (h : RefAt w R) (s : ByteArray) (N bit : Int) (sa : Option Addr) (n c : Nat) {ns : List (List UInt8)} (HC0 : ∀ W, Touch [] w W → Calls Tryz.prog 84 #[.pointer (some ⟨R.p, 0, none⟩)] W fun e w' => ∃ v, e = .returned v ∧ w'.ownsRow W.heap.size 9 1 v ns.length (ns.map encStr) ∧ Below W.heap.size W w') :
    Calls Tryz.prog 55 #[.pointer (some ⟨R.p, 0, none⟩), opV 7 s N bit sa n c] w fun e w' => ∃ v, e = .returned v ∧ ToldAt w' w.heap.size ⟨0, 0, false, [], ns, cnt0⟩ v ∧ RDid w w' R R.pub := by
  obtain ⟨W, hW⟩ : ∃ W, W = startW w #[.int .i64 7, .string s, .int .i64 N, .int .i64 bit, .slice sa n c] := ⟨_, rfl⟩
  have ST : Start w W _ := hW ▸ start_ok w _
  have HE := hid hW
  unfold startW zeroT at HE
  have HC := hid (HC0 W ST.touch)
  have hnf : ∀ b, w.heap.size ≤ b → b ∉ R.foot := fun b hb hm => by have := h.lt b hm; omega
  have HR := hid h
  have HR' := hid (h.touch ST.touch (by simp))
  have HST := hid ST
  have hz := ST.size
  clear hW h ST HC0
  unfold opV
  go_enter Tryz.func55, Tryz.ntmps55
  go_wp2_with (first | (rw [← HE.out]; go_at_call 84; refine HC.out.mono ?_; rintro e w1 ⟨v, rfl, hown, hb⟩; obtain ⟨sd, cd, rfl⟩ := sh_slice hown; have hd := Touch.of_below (F := []) hb (Nat.le_refl _); have r1 := kept_row HST.out.res hd (by simp); have r2 := kept_row HST.out.told hd (by simp); have c1 := fun i => cell_row r1 i; have c2 := fun i => cell_row r2 i; have f1 := fun i => unfrozen_row r1 i; have f2 := fun i => unfrozen_row r2 i; unfold zeroT at c1 c2; have HD := hid hd; have HO := hid hown; have HR1 := hid r1; have HR2 := hid r2; clear hd hb hown r1 r2))
  have r1' : (w1.setCell ⟨w.heap.size + 1 + 1, 4, none⟩ (.slice sd ns.length cd)).heap[w.heap.size + 1]? = some (.cells zeroT 36 (0, 0)) := by
    rw [Below.heap_setCell _ _ _ _ (by simp)]
    exact HR1.out
  obtain ⟨W2, hW2, q, t2⟩ := prog_end r1' 0 0 false (.slice none 0 0) (.slice sd ns.length cd) cnt0
  simp only [cnt0] at hW2 q
  rw [← hW2]
  clear hW2 c1 c2 f1 f2
  have tt : Touch [w.heap.size + 1, w.heap.size + 1 + 1] w1 W2 := ((Touch.refl _ w1).setCell (by simp) _).trans t2 (by simp)
  refine bodyPost_ret (v := toldV 0 0 false (.slice none 0 0) (.slice sd ns.length cd) cnt0) (by simp [results, Tryz.results55, go_sem, q, toldV, cnt0]) rfl ⟨_, rfl, ⟨_, _, rfl, World.ownsRow_nil _ _ _ _, ?_⟩, ?_⟩
  · exact owns_base (owns_touch HO.out tt (fun b hb hm => by have := owns_lt HO.out b (by simp [hb]); simp at hm; omega)) (by omega)
  · exact RDid.wrap HR.out HST.out.touch (RDid.same HR'.out HD.out) tt (by simp; omega)

set_option maxHeartbeats 2000000 in
theorem document_4x (h : RefAt w R) (s : ByteArray) (N bit : Int) (sa : Option Addr) (n c : Nat) {r : Int} {o : Option (List UInt8)} {A' : PubA} (HC0 : ∀ W, Touch [] w W → Calls Tryz.prog 81 #[.pointer (some ⟨R.p, 0, none⟩), .string s, .int .i64 N] W fun e w' => ∃ v, e = .returned (.tuple #[v, .int .i64 r]) ∧ Handed W w' R.B v o ∧ RDid W w' R A' ∧ ∀ b ∈ R.foot, v.ownBlock ≠ some b) :
    Calls Tryz.prog 55 #[.pointer (some ⟨R.p, 0, none⟩), opV 4 s N bit sa n c] w fun e w' => ∃ v, e = .returned v ∧ ToldAt w' w.heap.size ⟨r, 0, false, o.getD [], [], cnt0⟩ v ∧ RDid w w' R A' := by
  obtain ⟨W, hW⟩ : ∃ W, W = startW w #[.int .i64 4, .string s, .int .i64 N, .int .i64 bit, .slice sa n c] := ⟨_, rfl⟩
  have ST : Start w W _ := hW ▸ start_ok w _
  have HE := hid hW
  unfold startW zeroT at HE
  have HC := hid (HC0 W ST.touch)
  have hnf : ∀ b, w.heap.size ≤ b → b ∉ R.foot := fun b hb hm => by have := h.lt b hm; omega
  have HR := hid h
  have HR' := hid (h.touch ST.touch (by simp))
  have HST := hid ST
  have hz := ST.size
  clear hW h ST HC0
  unfold opV
  go_enter Tryz.func55, Tryz.ntmps55
  go_wp2_with (first | (rw [← HE.out]; go_at_call 81; refine HC.out.mono ?_; rintro e w1 ⟨v, rfl, hh, hd, hnb⟩; obtain ⟨sb, m, cb, rfl, hl, hown⟩ := hh.own; have r1 := kept_row HST.out.res hd.choose_spec.2.2.2.1 (hnf _ (by omega)); have r2 := kept_row HST.out.told hd.choose_spec.2.2.2.1 (hnf _ (by omega)); have c1 := fun i => cell_row r1 i; have c2 := fun i => cell_row r2 i; have f1 := fun i => unfrozen_row r1 i; have f2 := fun i => unfrozen_row r2 i; unfold zeroT at c1 c2; have HD := hid hd; have HO := hid hown; have HL := hid hl; have HR1 := hid r1; have HR2 := hid r2; clear hd hh hnb hown hl r1 r2))
  have r1' : ((w1.setCell ⟨w.heap.size + 1 + 1, 3, none⟩ (.slice sb m cb)).setCell ⟨w.heap.size + 1 + 1, 0, none⟩ (.int .i64 r)).heap[w.heap.size + 1]? = some (.cells zeroT 36 (0, 0)) := by
    rw [Below.heap_setCell _ _ _ _ (by simp), Below.heap_setCell _ _ _ _ (by simp)]
    exact HR1.out
  obtain ⟨W2, hW2, q, t2⟩ := prog_end r1' r 0 false (.slice sb m cb) (.slice none 0 0) cnt0
  simp only [cnt0] at hW2 q
  rw [← hW2]
  clear hW2 c1 c2 f1 f2
  have tt : Touch [w.heap.size + 1, w.heap.size + 1 + 1] w1 W2 := (((Touch.refl _ w1).setCell (by simp) _).setCell (by simp) _).trans t2 (by simp)
  refine bodyPost_ret (v := toldV r 0 false (.slice sb m cb) (.slice none 0 0) cnt0) (by simp [results, Tryz.results55, go_sem, q, toldV, cnt0]) rfl ⟨_, rfl, ⟨_, _, rfl, ?_, World.ownsRow_nil _ _ _ _⟩, ?_⟩
  · have e1 := HL.out
    show W2.ownsRow w.heap.size 5 1 (.slice sb m cb) (o.getD []).length _
    rw [e1]
    exact owns_base (owns_touch HO.out tt (fun b hb hm => by have := owns_lt HO.out b (by simp [hb]); simp at hm; omega)) (by omega)
  · exact RDid.wrap HR.out HST.out.touch HD.out tt (by simp; omega)

set_option maxHeartbeats 2000000 in
theorem document_2x (h : RefAt w R) (hB : 64 ≤ R.B ∧ R.B ≤ 65536) (s : ByteArray) (N bit : Int) {sa : Option Addr} {n c : Nat} {d : List UInt8} (hd : Shows w sa n c d) (hn : n ≤ 1073741824) {r : Int} {A' : PubA} (HC0 : ∀ w3 sf cf, Touch [] w w3 → Shows w3 sf (dataA N R.B d).length cf (dataA N R.B d) → (∀ a, sf = some a → w.heap.size ≤ a.block) → Calls Tryz.prog 79 #[.pointer (some ⟨R.p, 0, none⟩), .string s, .slice sf (dataA N R.B d).length cf] w3 fun e w' => e = .returned (.int .i64 r) ∧ RDid w3 w' R A') :
    Calls Tryz.prog 55 #[.pointer (some ⟨R.p, 0, none⟩), opV 2 s N bit sa n c] w fun e w' => ∃ v, e = .returned v ∧ ToldAt w' w.heap.size (.err r) v ∧ RDid w w' R A' := by
  obtain ⟨W, hW⟩ : ∃ W, W = startW w #[.int .i64 2, .string s, .int .i64 N, .int .i64 bit, .slice sa n c] := ⟨_, rfl⟩
  have ST : Start w W _ := hW ▸ start_ok w _
  have HE := hid hW
  unfold startW zeroT at HE
  have HB := hid (fun (W' : World) (hb : Touch [] W W') => rBlock_any (h.touch (ST.touch.trans hb (by simp)) (by simp)))
  have HDA := hid (fun m : Nat => data_any (w := W.drewN m) 2 s N bit ((hd.touch ST.touch (by simp)).touch (F := []) ((Touch.refl [] W).drewN m) (by simp)) hn hB.1 hB.2)
  unfold opV at HDA
  have hnf : ∀ b, w.heap.size ≤ b → b ∉ R.foot := fun b hb hm => by have := h.lt b hm; omega
  obtain ⟨bl, hbl⟩ : ∃ bl, bl = dataA N R.B d := ⟨_, rfl⟩
  obtain ⟨B, hBB⟩ : ∃ B, B = R.B := ⟨_, rfl⟩
  rw [← hBB] at HDA HB hbl HC0 hB
  rw [← hbl] at HDA HC0
  obtain ⟨p, hp⟩ : ∃ p, p = R.p := ⟨_, rfl⟩
  rw [← hp] at HB HC0 ⊢
  have HAP := hid HC0
  have HR := hid h
  have HST := hid ST
  have hz := ST.size
  have op := ST.op
  have o0 := cell_row op 0
  have o1 := cell_row op 1
  have o2 := cell_row op 2
  have o3 := cell_row op 3
  have o4 := cell_row op 4
  simp at o0 o1 o2 o3 o4
  clear hW h ST HC0 hbl hd hB op hBB hp
  unfold opV
  go_enter Tryz.func55, Tryz.ntmps55
  go_wp2
  rw [← HE.out]
  refine wp_region_noPanic ?_
  refine wp_region_held_drew (S := fun V => V.cell? ⟨w.heap.size, 0, none⟩ = some (.int .i64 2) ∧ V.cell? ⟨w.heap.size, 1, none⟩ = some (.string s) ∧ V.cell? ⟨w.heap.size, 2, none⟩ = some (.int .i64 N) ∧ V.cell? ⟨w.heap.size, 3, none⟩ = some (.int .i64 bit) ∧ V.cell? ⟨w.heap.size, 4, none⟩ = some (.slice sa n c)) (by kernel_rfl) ⟨o0, o1, o2, o3, o4⟩ (fun hHeld => ?_)
  refine wpAnyH_take (i := 0) (v := ?_) (by simp only [List.getElem?_toArray, List.getElem?_cons_zero]; rfl) (by kernel_rfl) (by kernel_rfl) (by kernel_rfl) (fun _ _ _ h => h) (Or.inl ⟨by rfl, ?_⟩) (by assumption) ?_
  rotate_left 1
  · intro w hSw; (try dsimp only at hSw); go_simp; (try with_reducible rfl)
  try simp only [Act.put, List.setIfInBounds_toArray, List.set_cons_zero, List.set_cons_succ]
  refine wpAnyH_take (i := 1) (v := ?_) (by simp only [List.getElem?_toArray, List.getElem?_cons_succ, List.getElem?_cons_zero]; rfl) (by kernel_rfl) (by kernel_rfl) (by kernel_rfl) (fun _ _ _ h => h) (Or.inl ⟨by rfl, ?_⟩) (by assumption) ?_
  rotate_left 1
  · intro w hSw; (try dsimp only at hSw); go_simp; (try with_reducible rfl)
  try simp only [Act.put, List.setIfInBounds_toArray, List.set_cons_zero, List.set_cons_succ]
  refine wpAnyH_take (i := 2) (v := ?_) (by simp only [List.getElem?_toArray, List.getElem?_cons_succ, List.getElem?_cons_zero]; rfl) (by kernel_rfl) (by kernel_rfl) (by kernel_rfl) (fun _ _ _ h => h) (Or.inl ⟨by rfl, ?_⟩) (by assumption) ?_
  rotate_left 1
  · intro w hSw; (try dsimp only at hSw); go_simp; (try with_reducible rfl)
  try simp only [Act.put, List.setIfInBounds_toArray, List.set_cons_zero, List.set_cons_succ]
  refine wpAnyH_take (i := 3) (v := ?_) (by simp only [List.getElem?_toArray, List.getElem?_cons_succ, List.getElem?_cons_zero]; rfl) (by kernel_rfl) (by kernel_rfl) (by kernel_rfl) (fun _ _ _ h => h) (Or.inl ⟨by rfl, ?_⟩) (by assumption) ?_
  rotate_left 1
  · intro w hSw; (try dsimp only at hSw); go_simp; (try with_reducible rfl)
  try simp only [Act.put, List.setIfInBounds_toArray, List.set_cons_zero, List.set_cons_succ]
  refine wpAnyH_take (i := 4) (v := ?_) (by simp only [List.getElem?_toArray, List.getElem?_cons_succ, List.getElem?_cons_zero]; rfl) (by kernel_rfl) (by kernel_rfl) (by kernel_rfl) (fun _ _ _ h => h) (Or.inl ⟨by rfl, ?_⟩) (by assumption) ?_
  rotate_left 1
  · intro w hSw; (try dsimp only at hSw); go_simp; (try with_reducible rfl)
  try simp only [Act.put, List.setIfInBounds_toArray, List.set_cons_zero, List.set_cons_succ]
  refine wpAnyH_ready (rs := [5]) (by kernel_rfl) (by simp) ?_
  refine AllReadyH.cons (by simp only [List.getElem?_toArray, List.getElem?_cons_succ, List.getElem?_cons_zero]; rfl) (fun K hK => ?_) AllReadyH.nil
  go_simp
  go_at_call 47
  refine (HB.out _ ((Touch.refl [] W).drew)).mono ?_
  rintro e w1 ⟨rfl, hw1⟩
  subst hw1
  clear hHeld
  refine hK.out _ _ ⟨o0, o1, o2, o3, o4⟩ (fun hHeld => ?_)
  clear hK K
  try simp only [Act.put, List.setIfInBounds_toArray, List.set_cons_zero, List.set_cons_succ]
  refine wpAnyH_ready (rs := [6]) (by kernel_rfl) (by simp) ?_
  refine AllReadyH.cons (by simp only [List.getElem?_toArray, List.getElem?_cons_succ, List.getElem?_cons_zero]; rfl) (fun K hK => ?_) AllReadyH.nil
  go_simp
  go_at_call 11
  refine (HDA.out 1).mono ?_
  rintro e w3 ⟨sb, cb, rfl, hsb, ht1, hge⟩
  have t3 : Touch [] W w3 := ((Touch.refl [] W).drewN 1).trans ht1 (by simp)
  have op3 := kept_row HST.out.op t3 (by simp)
  have cs3 : w3.cell? ⟨w.heap.size, 0, none⟩ = some (.int .i64 2) ∧ w3.cell? ⟨w.heap.size, 1, none⟩ = some (.string s) ∧ w3.cell? ⟨w.heap.size, 2, none⟩ = some (.int .i64 N) ∧ w3.cell? ⟨w.heap.size, 3, none⟩ = some (.int .i64 bit) ∧ w3.cell? ⟨w.heap.size, 4, none⟩ = some (.slice sa n c) := ⟨cell_row op3 0, cell_row op3 1, cell_row op3 2, cell_row op3 3, cell_row op3 4⟩
  have HSB := hid hsb
  have HT3 := hid t3
  have HGE : Hid (∀ a, sb = some a → w.heap.size ≤ a.block) := hid fun a ha => by have := hge a ha; have e9 : (W.drewN 1).heap.size = W.heap.size := rfl; omega
  clear hsb t3 ht1 hge op3
  clear hHeld
  refine hK.out _ _ cs3 (fun hHeld => ?_)
  clear hK K
  try simp only [Act.put, List.setIfInBounds_toArray, List.set_cons_zero, List.set_cons_succ]
  refine wpAnyH_ready (rs := [7]) (by kernel_rfl) (by simp) ?_
  refine AllReadyH.cons (by simp only [List.getElem?_toArray, List.getElem?_cons_succ, List.getElem?_cons_zero]; rfl) (fun K hK => ?_) AllReadyH.nil
  go_simp
  go_at_call 79
  refine (HAP.out _ _ _ (HST.out.touch.trans HT3.out (by simp)) HSB.out HGE.out).mono ?_
  rintro e w4 ⟨rfl, hd⟩
  have td := hd.choose_spec.2.2.2.1
  have op4 := kept_row (kept_row HST.out.op HT3.out (by simp)) td (hnf _ (by omega))
  have cs4 : w4.cell? ⟨w.heap.size, 0, none⟩ = some (.int .i64 2) ∧ w4.cell? ⟨w.heap.size, 1, none⟩ = some (.string s) ∧ w4.cell? ⟨w.heap.size, 2, none⟩ = some (.int .i64 N) ∧ w4.cell? ⟨w.heap.size, 3, none⟩ = some (.int .i64 bit) ∧ w4.cell? ⟨w.heap.size, 4, none⟩ = some (.slice sa n c) := ⟨cell_row op4 0, cell_row op4 1, cell_row op4 2, cell_row op4 3, cell_row op4 4⟩
  have r1 := kept_row (kept_row HST.out.res HT3.out (by simp)) td (hnf _ (by omega))
  have r2 := kept_row (kept_row HST.out.told HT3.out (by simp)) td (hnf _ (by omega))
  have op5 : ∀ u, (w4.setCell ⟨w.heap.size + 1 + 1, 0, none⟩ u).heap[w.heap.size]? = _ := fun u => (Below.heap_setCell _ _ _ _ (by simp; omega)).trans op4
  have cs5 : ∀ u, (w4.setCell ⟨w.heap.size + 1 + 1, 0, none⟩ u).cell? ⟨w.heap.size, 0, none⟩ = some (.int .i64 2) ∧ (w4.setCell ⟨w.heap.size + 1 + 1, 0, none⟩ u).cell? ⟨w.heap.size, 1, none⟩ = some (.string s) ∧ (w4.setCell ⟨w.heap.size + 1 + 1, 0, none⟩ u).cell? ⟨w.heap.size, 2, none⟩ = some (.int .i64 N) ∧ (w4.setCell ⟨w.heap.size + 1 + 1, 0, none⟩ u).cell? ⟨w.heap.size, 3, none⟩ = some (.int .i64 bit) ∧ (w4.setCell ⟨w.heap.size + 1 + 1, 0, none⟩ u).cell? ⟨w.heap.size, 4, none⟩ = some (.slice sa n c) := fun u => ⟨cell_row (op5 u) 0, cell_row (op5 u) 1, cell_row (op5 u) 2, cell_row (op5 u) 3, cell_row (op5 u) 4⟩
  have c1 := fun i => cell_row r1 i
  have c2 := fun i => cell_row r2 i
  have f1 := fun i => unfrozen_row r1 i
  have f2 := fun i => unfrozen_row r2 i
  unfold zeroT at c1 c2
  have HD := hid hd
  have HR1 := hid r1
  have HR2 := hid r2
  clear hd r1 r2 td op4 op5
  clear hHeld
  refine hK.out _ _ cs4 (fun hHeld => ?_)
  clear hK K
  try simp only [Act.put, List.setIfInBounds_toArray, List.set_cons_zero, List.set_cons_succ]
  refine wpAnyH_take (i := 8) (v := ?_) (by simp only [List.getElem?_toArray, List.getElem?_cons_succ, List.getElem?_cons_zero]; rfl) (by kernel_rfl) (by kernel_rfl) (by kernel_rfl) (fun _ _ _ h => h) (Or.inl ⟨by rfl, ?_⟩) (by assumption) ?_
  rotate_left 1
  · intro w hSw; (try dsimp only at hSw); go_simp; (try with_reducible rfl)
  try simp only [Act.put, List.setIfInBounds_toArray, List.set_cons_zero, List.set_cons_succ]
  refine wpAnyH_ready (rs := [9]) (by kernel_rfl) (by simp) ?_
  refine AllReadyH.cons (by simp only [List.getElem?_toArray, List.getElem?_cons_succ, List.getElem?_cons_zero]; rfl) (fun K hK => ?_) AllReadyH.nil
  go_simp
  clear hHeld
  refine hK.out _ _ (cs5 _) (fun hHeld => ?_)
  clear hK K
  try simp only [Act.put, List.setIfInBounds_toArray, List.set_cons_zero, List.set_cons_succ]
  refine wpAnyH_done (by kernel_rfl) ?_ _
  refine NoPanic.normal ?_
  go_wp2
  have r1' : (w4.setCell ⟨w.heap.size + 1 + 1, 0, none⟩ (.int .i64 r)).heap[w.heap.size + 1]? = some (.cells zeroT 36 (0, 0)) := by
    rw [Below.heap_setCell _ _ _ _ (by simp)]
    exact HR1.out
  obtain ⟨W2, hW2, q, t2⟩ := prog_end r1' r 0 false (.slice none 0 0) (.slice none 0 0) cnt0
  simp only [cnt0] at hW2 q
  rw [← hW2]
  clear hW2 c1 c2 f1 f2
  refine bodyPost_ret (v := toldV r 0 false (.slice none 0 0) (.slice none 0 0) cnt0) (by simp [results, Tryz.results55, go_sem, q, toldV, cnt0]) rfl ⟨_, rfl, ToldAt.err _ _ _, ?_⟩
  have tt : Touch [w.heap.size + 1, w.heap.size + 1 + 1] w4 W2 := ((Touch.refl _ w4).setCell (by simp) _).trans t2 (by simp)
  have z3 := HT3.out.size
  exact RDid.wrap HR.out (HST.out.touch.trans HT3.out (by simp)) HD.out tt (by simp; omega)
end
end Go.Proofs.YtcpncfngadablaaGreatDoor
/-
  A step of the landed disk, a step of the document's: whole.
-/
namespace Go.Proofs.YtcpncfngadablaaGreatDoor
open Go.RowKit Go.Deep ShfKit
set_option maxRecDepth 100000
section
variable {w w' : World} {E : Nat → Addr} {lo p mf mt : Nat} {D : DiskC}
theorem Spoil_x (V : Env w lo E) (R : Rep w lo p mf mt D) (hS : Small D.pub) (s : ByteArray) (i bit : Int) :
    Calls Tryz.prog 32 #[ptr p, .string s, .int .i64 i, .int .i64 bit] w fun e w' => e = .returned (.int .i64 (spoilA s i bit D.pub).1) ∧ Did3 w w' lo p mf mt D (spoilA s i bit D.pub).2 := by
  unfold spoilA
  have hfp : findA D.pub.files (nm s) = (findE D.ents (nm s)).map Ent.file := find_pub _ _
  have hB := hS.size
  simp only [DiskC.pub] at hB
  have err : ∀ j, j < 11 → (Calls Tryz.prog 66 #[ptr p, .string s, .int .i64 i, .int .i64 bit] w fun e w' => e = .returned (errV E j) ∧ Touch [] w w') →
      Calls Tryz.prog 32 #[ptr p, .string s, .int .i64 i, .int .i64 bit] w fun e w' => e = .returned (.int .i64 (code j)) ∧ Did3 w w' lo p mf mt D D.pub := fun j hj h =>
    (Spoil_of h fun w1 ht => tell_err (V.touch ht (by simp)).sents j hj).mono fun e w2 ⟨e1, e2⟩ => ⟨e1, Did3.same R e2⟩
  by_cases hn : nameB s = true
  · rw [if_pos hn, hfp]
    cases hf : findE D.ents (nm s) with
    | none => exact err 4 (by omega) (spoil_err s i bit 4 (look_none V.sents R s hn hf))
    | some e0 =>
      simp only [Option.map_some]
      by_cases hi : (0 ≤ i ∧ i < e0.file.blocks.length) ∧ 0 ≤ bit ∧ bit < 8 * D.B
      · have hi' : (0 ≤ i ∧ i < e0.file.blocks.length) ∧ 0 ≤ bit ∧ bit < 8 * D.pub.B := hi
        rw [if_pos hi']
        have hk : i.toNat < e0.file.blocks.length := by omega
        obtain ⟨g, gc, bb, hsv, _, cg, hlen, hby, hm, _⟩ := (R.each e0 (findE_mem hf).1).at hk
        have hkb : (bit / 8).toNat < e0.file.blocks[i.toNat].length := by omega
        have cb : w.cell? ⟨bb, (bit / 8).toNat, none⟩ = some (.int .u8 (e0.file.blocks[i.toNat][(bit / 8).toNat]).toNat) := by
          rw [cell_row hby]
          simp [Lib.byteCells, hkb]
        have hw := spoil_walk R s i bit hn hf hB hi.1.1 hi.1.2 hi.2.1 hi.2.2 hsv cg cb (unfrozen_row hby _)
        have hpost : ∀ w1 w2, Quiet w w1 → w2 = (w1.setCell ⟨bb, (bit / 8).toNat, none⟩ (.int .u8 (flipB (e0.file.blocks[i.toNat][(bit / 8).toNat]) bit).toNat)).drew → Rep w2 lo p mf mt { D with ents := setE (nm s) { e0.file with blocks := e0.file.blocks.set i.toNat (e0.file.blocks[i.toNat].set (bit / 8).toNat (flipB (e0.file.blocks[i.toNat][(bit / 8).toNat]) bit)) } e0.lay D.ents } ∧ Touch e0.lay.foot w w2 := by
          intro w1 w2 hq e
          subst e
          have hr := (Quiet.rep hq R).spoil (k := (bit / 8).toNat) (c := flipB (e0.file.blocks[i.toNat][(bit / 8).toNat]) bit) hf hk hm (by show w1.heap[bb]? = _; rw [Quiet.heap hq]; exact hby) (by rw [Quiet.heap hq]; exact V.room)
          exact ⟨Quiet.rep ⟨1, rfl⟩ hr.1, ((Quiet.touch hq _).trans hr.2 (fun b hb => .inl hb)).drew⟩
        have h := Spoil_of (v := 0) (hw.mono fun e w2 ⟨e1, w1, hq, e2⟩ => ⟨e1, hpost w1 w2 hq e2⟩) fun w1 _ => tell_nil w1
        refine h.mono fun e w2 ⟨e1, hR, ht⟩ => ⟨e1, _, hR, ?_, .inl ⟨rfl, rfl⟩, ht.mono (foot_ent hf), foot_set hf rfl fun b hb => .inl hb⟩
        simp only [DiskC.pub, set_pub, List.getElem?_eq_getElem hk, Option.getD_some, List.getElem?_eq_getElem hkb]
      · have hi' : ¬ ((0 ≤ i ∧ i < e0.file.blocks.length) ∧ 0 ≤ bit ∧ bit < 8 * D.pub.B) := hi
        rw [if_neg hi']
        exact err 8 (by omega) (spoil_out V R s i bit hn hf hB hi)
  · rw [if_neg hn]
    exact err 3 (by omega) (spoil_err s i bit 3 (look_bad V.sents s (by simpa using hn)))
/-- what the landed disk wants for a call. -/
structure Rdy (w : World) (E : Nat → Addr) (lo p mf mt : Nat) (D : DiskC) (t : TrA) : Prop where
  env : Env w lo E
  rep : Rep w lo p mf mt D
  small : Small D.pub
  faults : 0 ≤ D.c.faults ∧ D.c.faults ≤ 1099511627776
  more : D.c.calls + 1 ≤ 1099511627776
  tr : TroubleIs D.T D.c.calls t.at_ t.kind t.bytes
variable {t : TrA}
theorem Rdy.touch (h : Rdy w E lo p mf mt D t) (ht : Touch [] w w') : Rdy w' E lo p mf mt D t := ⟨h.env.touch ht (by simp), h.rep.touch ht (by simp), h.small, h.faults, h.more, h.tr⟩
theorem Create_b (h : Rdy w E lo p mf mt D t) (s : ByteArray) : Calls Tryz.prog 9 #[ptr p, .string s] w fun e w' => e = .returned (.int .i64 (createB s t D.pub).1) ∧ Did3 w w' lo p mf mt D (createB s t D.pub).2 := by
  unfold createB
  cases ho : D.on with
  | true =>
    have hon : D.pub.on = true := ho
    rw [if_pos hon]
    refine (Create_x h.env h.rep ho h.small h.faults h.tr s).mono fun e w' ⟨v, A', h1, h2, h3⟩ => ?_
    have h4 : befX t.kind t.bytes D.pub (createA s D.pub) { (createA s D.pub).2 with on := false } = (v, A') := h3
    rw [h4]
    exact ⟨h1, h2⟩
  | false =>
    have hon : ¬ D.pub.on = true := by show ¬ D.on = true; rw [ho]; simp
    rw [if_neg hon]
    exact Create_off h.env h.rep ho s
theorem Seal_b (h : Rdy w E lo p mf mt D t) (s : ByteArray) : Calls Tryz.prog 12 #[ptr p, .string s] w fun e w' => e = .returned (.int .i64 (sealB s t D.pub).1) ∧ Did3 w w' lo p mf mt D (sealB s t D.pub).2 := by
  unfold sealB
  cases ho : D.on with
  | true =>
    have hon : D.pub.on = true := ho
    rw [if_pos hon]
    refine (Seal_x h.env h.rep ho h.small h.faults h.tr s).mono fun e w' ⟨v, A', h1, h2, h3⟩ => ?_
    have h4 : befX t.kind t.bytes D.pub (sealA s D.pub) { (sealA s D.pub).2 with on := false } = (v, A') := h3
    rw [h4]
    exact ⟨h1, h2⟩
  | false =>
    have hon : ¬ D.pub.on = true := by show ¬ D.on = true; rw [ho]; simp
    rw [if_neg hon]
    exact Seal_off h.env h.rep ho s
theorem Delete_b (h : Rdy w E lo p mf mt D t) (s : ByteArray) : Calls Tryz.prog 16 #[ptr p, .string s] w fun e w' => e = .returned (.int .i64 (deleteB s t D.pub).1) ∧ Did3 w w' lo p mf mt D (deleteB s t D.pub).2 := by
  unfold deleteB
  cases ho : D.on with
  | true =>
    have hon : D.pub.on = true := ho
    rw [if_pos hon]
    refine (Delete_x h.env h.rep ho h.small h.more h.tr s).mono fun e w' ⟨v, A', h1, h2, h3⟩ => ?_
    have h4 : befX (if t.kind = 1 then 0 else t.kind) t.bytes D.pub (deleteA s D.pub) { (deleteA s D.pub).2 with on := false } = (v, A') := h3
    rw [h4]
    exact ⟨h1, h2⟩
  | false =>
    have hon : ¬ D.pub.on = true := by show ¬ D.on = true; rw [ho]; simp
    rw [if_neg hon]
    exact Delete_off h.env h.rep ho s
theorem Append_b (h : Rdy w E lo p mf mt D t) (s : ByteArray) {sa : Option Addr} {n c : Nat} {bl : List UInt8} (hh : Hand w p mf mt D sa n c bl) : Calls Tryz.prog 10 #[ptr p, .string s, .slice sa n c] w fun e w' => e = .returned (.int .i64 (appendB s bl t D.pub).1) ∧ Did3 w w' lo p mf mt D (appendB s bl t D.pub).2 := by
  unfold appendB
  cases ho : D.on with
  | true =>
    have hon : D.pub.on = true := ho
    rw [if_pos hon]
    refine (Append_x h.env h.rep ho h.small h.faults h.more h.tr s hh).mono fun e w' ⟨v, A', h1, h2, h3⟩ => ?_
    have h4 : befX t.kind t.bytes D.pub (appendA s bl D.pub) (cutX s bl t.bytes D.pub) = (v, A') := h3
    rw [h4]
    exact ⟨h1, h2⟩
  | false =>
    have hon : ¬ D.pub.on = true := by show ¬ D.on = true; rw [ho]; simp
    rw [if_neg hon]
    exact Append_off h.env h.rep ho s sa n c
theorem Read_b (h : Rdy w E lo p mf mt D t) (s : ByteArray) (i : Int) : Calls Tryz.prog 28 #[ptr p, .string s, .int .i64 i] w fun e w' => ∃ v, e = .returned (.tuple #[v, .int .i64 (readB s i t D.pub).2.1]) ∧ Told1 w' w.heap.size D.B (readB s i t D.pub).1 v ∧ DidIn3 w w' lo p mf mt D (readB s i t D.pub).2.2 := by
  unfold readB
  cases ho : D.on with
  | true =>
    have hon : D.pub.on = true := ho
    rw [if_pos hon]
    exact Read_x h.env h.rep ho h.small h.faults h.tr s i
  | false =>
    have hon : ¬ D.pub.on = true := by show ¬ D.on = true; rw [ho]; simp
    rw [if_neg hon]
    exact Read_off h.env h.rep ho s i
theorem Length_b (h : Rdy w E lo p mf mt D t) (s : ByteArray) : Calls Tryz.prog 29 #[ptr p, .string s] w fun e w' => e = .returned (.tuple #[.int .i64 (lengthB s D.pub).1, .bool (lengthB s D.pub).2.1, .int .i64 (lengthB s D.pub).2.2]) ∧ Touch [] w w' := by
  unfold lengthB
  cases ho : D.on with
  | true =>
    have hon : D.pub.on = true := ho
    rw [if_pos hon]
    exact Length_any h.env h.rep ho s
  | false =>
    have hon : ¬ D.pub.on = true := by show ¬ D.on = true; rw [ho]; simp
    rw [if_neg hon]
    exact Length_off h.env h.rep ho s
theorem Names_b (h : Rdy w E lo p mf mt D t) : Calls Tryz.prog 30 #[ptr p] w fun e w' => ∃ v, e = .returned v ∧ w'.ownsRow w.heap.size 9 1 v (if D.pub.on then D.pub.files.map Prod.fst else []).length ((if D.pub.on then D.pub.files.map Prod.fst else []).map encStr) ∧ Below w.heap.size w w' := by
  cases ho : D.on with
  | true =>
    have hon : D.pub.on = true := ho
    rw [if_pos hon]
    have e1 : D.pub.files.map Prod.fst = D.ents.map Ent.name := by simp [DiskC.pub, Ent.pub]
    rw [e1]
    refine (Names_any h.rep ho (by have := h.small.files; simpa [DiskC.pub] using this)).mono fun e w' ⟨v, h1, h2, _, h3⟩ => ⟨v, h1, ?_, h3⟩
    rw [List.length_map]
    exact h2
  | false =>
    have hon : ¬ D.pub.on = true := by show ¬ D.on = true; rw [ho]; simp
    rw [if_neg hon]
    exact (Names_off h.rep ho).mono fun e w' ⟨h1, h2⟩ => ⟨_, h1, World.ownsRow_nil _ _ _ _, h2.below (Nat.le_refl _) (by simp)⟩
/-- a step of the landed disk. -/
theorem program_all (h : Rdy w E lo p mf mt D t) (o : OpA) {sa : Option Addr} {n c : Nat} (hd : Shows w sa n c o.data) (hn : n ≤ 1073741824) :
    Calls Tryz.prog 8 #[ptr p, opV o.kind o.name o.N o.bit sa n c, .int .i64 D.B] w fun e w' => ∃ v, e = .returned (.tuple #[v, .bool true]) ∧ ToldAt w' w.heap.size (stepB o t D.pub).1 v ∧ Did3 w w' lo p mf mt D (stepB o t D.pub).2 := by
  obtain ⟨k, s, N, bit, d⟩ := o
  unfold stepB
  simp only
  have hB : 64 ≤ D.B ∧ D.B ≤ 65536 := h.small.size
  by_cases h1 : k = 1
  · subst h1
    exact program_1x h.rep s N bit sa n c fun W hW => Create_b (h.touch hW) s
  rw [if_neg h1]
  by_cases h2 : k = 2
  · subst h2
    exact program_2x h.rep hB s N bit hd hn fun W sf cf hW hh => Append_b (h.touch hW) s hh
  rw [if_neg h2]
  by_cases h3 : k = 3
  · subst h3
    exact program_3x h.rep s N bit sa n c fun W hW => Seal_b (h.touch hW) s
  rw [if_neg h3]
  by_cases h4 : k = 4
  · subst h4
    exact program_4x h.rep hB.2 s N bit sa n c fun W hW => Read_b (h.touch hW) s N
  rw [if_neg h4]
  by_cases h5 : k = 5
  · subst h5
    exact program_5x h.rep s N bit sa n c fun W hW => Delete_b (h.touch hW) s
  rw [if_neg h5]
  by_cases h6 : k = 6
  · subst h6
    exact program_6x h.rep s N bit sa n c fun W hW => Length_b (h.touch hW) s
  rw [if_neg h6]
  by_cases h7 : k = 7
  · subst h7
    refine program_7x h.rep s N bit sa n c (ns := if D.pub.on then D.pub.files.map Prod.fst else []) ?_ fun W hW => Names_b (h.touch hW)
    split
    · rw [List.length_map]
      exact h.small.files
    · simp
  rw [if_neg h7]
  by_cases h8 : k = 8
  · subst h8
    exact program_8x h.rep s N bit sa n c
  rw [if_neg h8]
  by_cases h9 : k = 9
  · subst h9
    exact program_9x h.rep s N bit sa n c fun W hW => Spoil_x (h.touch hW).env (h.touch hW).rep h.small s N bit
  rw [if_neg h9]
  exact program_0x h.rep k (by simpa using h1) (by simpa using h2) (by simpa using h3) (by simpa using h4) (by simpa using h5) (by simpa using h6) (by simpa using h7) (by simpa using h8) (by simpa using h9) s N bit sa n c
end
/-! ### the document's disk -/
section
variable {w w' : World} {R : RefD} {t : Nat}
/-- what the document's disk wants for a call. -/
structure RRdy (w : World) (R : RefD) (t : Nat) : Prop where
  at_ : RefAt w R
  inv : IB t R.pub
  few : t ≤ 1048576
  trs : R.trs.length ≤ 1099511627776
theorem RRdy.touch (h : RRdy w R t) (ht : Touch [] w w') : RRdy w' R t := ⟨h.at_.touch ht (by simp), h.inv, h.few, h.trs⟩
theorem RRdy.nums (h : RRdy w R t) : R.fs.length ≤ 1048576 ∧ (0 ≤ R.c.calls ∧ R.c.calls ≤ 1099511627776) ∧ (0 ≤ R.c.faults ∧ R.c.faults ≤ 1099511627776) ∧ (0 ≤ R.c.used ∧ R.c.used ≤ 1099511627776) ∧ (0 ≤ R.c.full ∧ R.c.full ≤ 1099511627776) ∧ (0 ≤ R.c.appends ∧ R.c.appends ≤ 1099511627776) ∧ (0 ≤ R.c.reads ∧ R.c.reads ≤ 1099511627776) ∧ (∀ e ∈ R.fs, e.file.blocks.length < 1099511627776) ∧ (0 < R.B ∧ R.B ≤ 65536) ∧ (64 ≤ R.B) := by
  have h1 := h.inv.few
  have h2 := h.inv.calls
  have h3 := h.inv.faults
  have h4 := h.inv.used
  have h5 := h.inv.total
  have h6 := h.inv.full
  have h7 := h.inv.appends
  have h8 := h.inv.reads
  have h9 := h.few
  have hs := h.inv.size
  have e1 : R.pub.files.length = R.fs.length := by simp [RefD.pub]
  simp only [RefD.pub] at h2 h3 h4 h6 h7 h8 hs
  have hb : ∀ e ∈ R.fs, e.file.blocks.length < 1099511627776 := fun e he => by
    have := le_total (l := R.pub.files) e.pub (List.mem_map.2 ⟨e, he, rfl⟩)
    simp only [RFile.pub] at this
    omega
  have h10 : R.c.used = (total R.pub.files : Int) := h.inv.used
  refine ⟨by omega, by omega, by omega, by omega, by omega, by omega, by omega, hb, by omega, by omega⟩
theorem enc_nm (s : ByteArray) : encStr (nm s) = .string s := by
  show Value.string ⟨(nm s).toArray⟩ = _
  rw [nm_mk]
/-- a step of the document's disk. -/
theorem document_all (h : RRdy w R t) (o : OpA) (hnm : o.name.size ≤ 1099511627776) {sa : Option Addr} {n c : Nat} (hd : Shows w sa n c o.data) (hn : n ≤ 1073741824) :
    Calls Tryz.prog 55 #[.pointer (some ⟨R.p, 0, none⟩), opV o.kind o.name o.N o.bit sa n c] w fun e w' => ∃ v, e = .returned v ∧ ToldAt w' w.heap.size (stepB o R.troub R.pub).1 v ∧ RDid w w' R (stepB o R.troub R.pub).2 := by
  obtain ⟨k, s, N, bit, d⟩ := o
  obtain ⟨n1, n2, n3, n4, n5, n6, n7, n8, n9, n10⟩ := h.nums
  have hkl : (nm s).length ≤ 1099511627776 := by
    have e : (nm s).length = s.size := Array.length_toList
    rw [e]
    exact hnm
  have hen := enc_nm s
  have hri : Rise R.pub.files := h.inv.rise
  unfold stepB
  simp only at hd hnm ⊢
  by_cases h1 : k = 1
  · subst h1
    refine document_1x h.at_ s N bit sa n c fun W hW => ?_
    have r := rCreate_any (h.touch hW).at_ (nm s) hkl n1 n2 n3 h.trs
    rw [hen] at r
    have e1 := create_same hri s
    refine r.mono fun e w' ⟨e2, v, r1, r2, r3⟩ => ?_
    rw [← e1]
    exact ⟨e2, _, r1, rfl, create_keeps _, r2, r3⟩
  rw [if_neg h1]
  by_cases h2 : k = 2
  · subst h2
    refine document_2x h.at_ ⟨n10, n9.2⟩ s N bit hd hn fun W sf cf hW hs hge => ?_
    have r := rAppend_any (h.touch hW).at_ (nm s) hkl (by omega) n2 n3 h.trs n4 n5 n6 n8 n9.1 n9.2 hs (fun a ha e9 => by
      have := hge a ha
      have := h.at_.lt R.p (by simp [RefD.foot])
      omega)
    rw [hen] at r
    refine r.mono fun e w' ⟨v, bv, e2, r1, r2, r3⟩ => ?_
    have e1 := append_same hri s (dataA N R.B d) v bv
    have e3 : R.pub.B = R.B := rfl
    rw [e3, ← e1]
    exact ⟨e2, _, r1, rfl, append_keeps _ _ _ _, r2, r3⟩
  rw [if_neg h2]
  by_cases h3 : k = 3
  · subst h3
    refine document_3x h.at_ s N bit sa n c fun W hW => ?_
    have r := rSeal_any (h.touch hW).at_ (nm s) hkl (by omega) n2 n3 h.trs
    rw [hen] at r
    have e1 := seal_same hri s
    refine r.mono fun e w' ⟨e2, r1, r2, r3⟩ => ?_
    rw [← e1]
    exact ⟨e2, _, r1, rfl, seal_keeps _, r2, r3⟩
  rw [if_neg h3]
  by_cases h4 : k = 4
  · subst h4
    refine document_4x h.at_ s N bit sa n c fun W hW => ?_
    have r := rRead_any (h.touch hW).at_ (nm s) N hkl (by omega) n2 n3 h.trs n7 n9.1 n9.2
    rw [hen] at r
    have e1 := read_same hri s N
    refine r.mono fun e w' ⟨v, e2, r0, r1, r2, r3⟩ => ?_
    rw [← e1]
    refine ⟨v, e2, r0, ⟨_, r1, rfl, read_keeps _ _, r2.mono (by simp [RefD.foot]), fun b hb => .inl (by rw [r3] at hb; exact hb)⟩, fun b hb hv => ?_⟩
    have lb := (h.touch hW).at_.lt b hb
    obtain ⟨sb, m, cb, _, _, ho⟩ := r0.own
    have := (owns_lt ho b (by simp [hv])).1
    omega
  rw [if_neg h4]
  by_cases h5 : k = 5
  · subst h5
    refine document_5x h.at_ s N bit sa n c fun W hW => ?_
    have r := rDelete_any (h.touch hW).at_ (nm s) hkl n1 n2 n3 h.trs n4 (fun e he => by have := n8 e he; omega)
    rw [hen] at r
    have e1 := delete_same hri s h.inv.most
    refine r.mono fun e w' ⟨e2, v, r1, r2, r3⟩ => ?_
    rw [← e1]
    exact ⟨e2, _, r1, rfl, delete_keeps _, r2, r3⟩
  rw [if_neg h5]
  by_cases h6 : k = 6
  · subst h6
    refine document_6x h.at_ s N bit sa n c fun W hW => ?_
    have r := rLength_any (h.touch hW).at_ (nm s) hkl (by omega)
    rw [hen] at r
    have e1 := length_same hri s
    refine r.mono fun e w' ⟨hx, hq⟩ => ?_
    rw [e1]
    refine ⟨?_, Quiet.touch hq []⟩
    rcases hx with ⟨e0, h7⟩
    rcases h7 with ⟨h8, h9, h10⟩ | ⟨h8, h10⟩
    · rw [if_pos h8, h9]
      exact h10
    · rw [if_neg h8]
      exact h10
  rw [if_neg h6]
  by_cases h7 : k = 7
  · subst h7
    refine document_7x h.at_ s N bit sa n c (ns := if R.pub.on then R.pub.files.map Prod.fst else []) fun W hW => ?_
    have r := rNames_any (h.touch hW).at_ (by omega)
    rw [R.names_pub] at r
    exact r
  rw [if_neg h7]
  by_cases h8 : k = 8
  · subst h8
    exact document_8x h.at_ s N bit sa n c
  rw [if_neg h8]
  by_cases h9 : k = 9
  · subst h9
    refine document_9x h.at_ s N bit sa n c fun W hW => ?_
    have r := rSpoil_any (h.touch hW).at_ (nm s) N bit hkl (by omega) n9.1 n9.2
    rw [hen] at r
    have e1 := spoil_same hri s N bit
    refine r.mono fun e w' ⟨e2, r1, r2, r3⟩ => ?_
    rw [← e1]
    exact ⟨e2, _, r1, rfl, spoil_keeps _ _ _, r2, fun b hb => .inl (by rw [r3] at hb; exact hb)⟩
  rw [if_neg h9]
  exact document_0x h.at_ k (by simpa using h1) (by simpa using h2) (by simpa using h3) (by simpa using h4) (by simpa using h5) (by simpa using h6) (by simpa using h7) (by simpa using h8) (by simpa using h9) s N bit sa n c
end
end Go.Proofs.YtcpncfngadablaaGreatDoor
/-
  Both disks in one memory, step by step.
-/
namespace Go.Proofs.YtcpncfngadablaaGreatDoor
open Go.RowKit Go.Deep ShfKit
set_option maxRecDepth 100000
/-- both disks hold the same, behind t steps. -/
structure Pl (w : World) (E : Nat → Addr) (lo p mf mt t : Nat) (D : DiskC) (R : RefD) : Prop where
  env : Env w lo E
  rep : Rep w lo p mf mt D
  ref : RefAt w R
  same : D.pub = R.pub
  tf : TFrom D.T R.trs D.c.calls
  inv : IB t R.pub
  apart : ∀ b ∈ R.foot, b ∉ D.foot p mf mt
  lor : ∀ b ∈ R.foot, lo ≤ b
  trs : R.trs.length ≤ 1099511627776
/-- the landed disk has made its step. -/
structure Md (w : World) (E : Nat → Addr) (lo p mf mt t : Nat) (D : DiskC) (R : RefD) : Prop where
  env : Env w lo E
  rep : Rep w lo p mf mt D
  ref : RefAt w R
  tf : TFrom D.T R.trs D.c.calls
  inv : IB t R.pub
  apart : ∀ b ∈ R.foot, b ∉ D.foot p mf mt
  lor : ∀ b ∈ R.foot, lo ≤ b
  trs : R.trs.length ≤ 1099511627776
section
variable {w w' : World} {E : Nat → Addr} {lo p mf mt t : Nat} {D : DiskC} {R : RefD}
theorem Pl.touch (h : Pl w E lo p mf mt t D R) (ht : Touch [] w w') : Pl w' E lo p mf mt t D R :=
  ⟨h.env.touch ht (by simp), h.rep.touch ht (by simp), h.ref.touch ht (by simp), h.same, h.tf, h.inv, h.apart, h.lor, h.trs⟩
theorem Md.touch (h : Md w E lo p mf mt t D R) (ht : Touch [] w w') : Md w' E lo p mf mt t D R :=
  ⟨h.env.touch ht (by simp), h.rep.touch ht (by simp), h.ref.touch ht (by simp), h.tf, h.inv, h.apart, h.lor, h.trs⟩
theorem Pl.nums (h : Pl w E lo p mf mt t D R) : D.B = R.B ∧ D.Bs = R.Bs ∧ D.on = R.on ∧ D.c = R.c := by
  have hs := h.same
  exact ⟨congrArg PubA.B hs, congrArg PubA.Bs hs, congrArg PubA.on hs, congrArg PubA.c hs⟩
theorem Pl.rdy (h : Pl w E lo p mf mt t D R) (ht : t ≤ 1048576) : Rdy w E lo p mf mt D R.troub := by
  have hc := h.nums.2.2.2
  have h1 := h.inv.calls
  have h2 := h.inv.faults
  simp only [RefD.pub] at h1 h2
  refine ⟨h.env, h.rep, by rw [h.same]; exact h.inv.small (by omega), by rw [hc]; omega, by rw [hc]; omega, ?_⟩
  have := h.tf D.c.calls (Int.le_refl _)
  rw [troub_eq, ← hc]
  exact this
theorem Pl.rrdy (h : Pl w E lo p mf mt t D R) (ht : t ≤ 1048576) : RRdy w R t := ⟨h.ref, h.inv, ht, h.trs⟩
theorem Md.rrdy (h : Md w E lo p mf mt t D R) (ht : t ≤ 1048576) : RRdy w R t := ⟨h.ref, h.inv, ht, h.trs⟩
theorem Pl.mid (h : Pl w E lo p mf mt t D R) {A' : PubA} (hd : Did3 w w' lo p mf mt D A') : ∃ D', Md w' E lo p mf mt t D' R ∧ D'.pub = A' ∧ Touch (D.foot p mf mt) w w' ∧ ∀ b ∈ D'.foot p mf mt, b ∈ D.foot p mf mt ∨ w.heap.size ≤ b := by
  obtain ⟨D', hr, hp, hT, ht, hf⟩ := hd
  refine ⟨D', ⟨h.env.touch ht fun b hb => h.rep.base b hb, hr, h.ref.touch ht h.apart, ?_, h.inv, fun b hb hm => ?_, h.lor, h.trs⟩, hp, ht, hf⟩
  · rcases hT with ⟨e1, e2⟩ | ⟨e1, e2⟩
    · rw [e1, e2]
      exact h.tf
    · rw [e1, e2]
      exact h.tf.del
  · rcases hf b hm with h1 | h1
    · exact h.apart b hb h1
    · have := h.ref.lt b hb
      omega
theorem Md.next (h : Md w E lo p mf mt t D R) (hi : IB (t + 1) D.pub) (hd : RDid w w' R D.pub) : ∃ R', Pl w' E lo p mf mt (t + 1) D R' ∧ R'.p = R.p ∧ Touch R.foot w w' := by
  obtain ⟨R', hr, hp, ⟨hT, hpp⟩, ht, hf⟩ := hd
  refine ⟨R', ⟨h.env.touch ht h.lor, h.rep.touch ht (fun b hb hm => h.apart b hm hb), hr, hp.symm, by rw [hT]; exact h.tf, by rw [hp]; exact hi, fun b hb hm => ?_, fun b hb => ?_, by rw [hT]; exact h.trs⟩, hpp, ht⟩
  · rcases hf b hb with h1 | h1
    · exact h.apart b h1 hm
    · have := h.rep.lt b hm
      omega
  · rcases hf b hb with h1 | h1
    · exact h.lor b h1
    · have := h.env.room
      omega
theorem ToldAt.touchG {base : Nat} {T : ToldA} {v : Value} {F : List Nat} (h : ToldAt w base T v) (ht : Touch F w w') (hF : ∀ b ∈ F, b < base ∨ w.heap.size ≤ b) : ToldAt w' base T v := by
  obtain ⟨dv, nv, h1, h2, h3⟩ := h
  exact ⟨dv, nv, h1, owns_touch h2 ht (fun b hb hm => by have := owns_lt h2 b (by simp [hb]); have := hF b hm; omega), owns_touch h3 ht (fun b hb hm => by have := owns_lt h3 b (by simp [hb]); have := hF b hm; omega)⟩
theorem Md.touchF {F : List Nat} (h : Md w E lo p mf mt t D R) (ht : Touch F w w') (hF : ∀ b ∈ F, b ∉ D.foot p mf mt ∧ b ∉ R.foot ∧ lo ≤ b) : Md w' E lo p mf mt t D R :=
  ⟨h.env.touch ht (fun b hb => (hF b hb).2.2), h.rep.touch ht (fun b hb hm => (hF b hm).1 hb), h.ref.touch ht (fun b hb hm => (hF b hm).2.1 hb), h.tf, h.inv, h.apart, h.lor, h.trs⟩
theorem stepB_names (o : OpA) (tr : TrA) (A : PubA) : (stepB o tr A).1.names.length ≤ A.files.length := by
  unfold stepB
  (repeat' split) <;> simp [ToldA.err]
theorem IB.blocks {A : PubA} (h : IB t A) : ∀ e ∈ A.files, e.2.blocks.length ≤ t := fun e he => by
  have := le_total e he
  have := h.total
  omega
end
end Go.Proofs.YtcpncfngadablaaGreatDoor
/-
  The shelf: a list is grown.
-/
namespace Go.Proofs.YtcpncfngadablaaGreatDoor
open Go.RowKit Go.Deep ShfKit
set_option maxRecDepth 100000
section
variable {w W W' : World} {i k n : Nat} {x y : Rw}
theorem make64 : ∃ M : Array Value, M.size = 64 ∧ (∀ j, j < 64 → M[j]? = some (.int .u8 0)) ∧ ∀ W : World, (Instr.makeSlice 31 (.int .i64 64) (.int .i64 64)).run Tryz.prog W = .ok (.slice (some ⟨W.heap.size, 0, none⟩) 64 64) (W.alloc (.cells M 5)) := by
  refine ⟨_, ?_, ?_, fun W => run_make_row' (P := Tryz.prog) 31 5 (.int .u8 0) 1 Tryz.underlying31 Tryz.info5 rfl .i64 .i64 64 (by omega) (by omega) W⟩
  · simp [madeCells]
  · intro j hj
    simp [madeCells, hj, Nat.mod_one]
theorem fill_new {g c : Nat} {cs : Array Value} (n : Int) (h : W.heap[g]? = some (.cells cs 5 (0, 0))) (hs : cs.size = 64) (hz : ∀ j, j < 64 → cs[j]? = some (.int .u8 0)) (hg : w.heap.size ≤ g) (hw : w.heap.size ≤ W.heap.size) :
    Calls Tryz.prog 43 #[.slice (some ⟨g, 0, none⟩) 64 c, .int .i64 n] W fun e W' => e = .returned (.tuple #[]) ∧ Below w.heap.size W W' ∧ ∃ news : List Value, news.length = 64 ∧ (∀ l, l < 64 → news[l]? = some (.int .u8 (YtcpncfngadablaaGreatDoor.mk n l))) ∧ (∀ u ∈ news, u.oneCell' = true) ∧ W'.heap[g]? = some (.cells news.toArray 5 (0, 0)) := by
  refine (fill_row (c := c) n h (by omega) (fun j hj => ⟨0, hz j hj⟩) (by omega)).mono ?_
  rintro e W' ⟨rfl, ⟨cs', hr, hs', hm⟩, ht⟩
  have hm2 : ∀ l, l < 64 → cs'.toList[l]? = some (.int .u8 (YtcpncfngadablaaGreatDoor.mk n l)) := fun l hl => by simpa using hm l hl
  refine ⟨rfl, ht.below hw (fun b hb => by simp at hb; omega), cs'.toList, by simp; omega, hm2, fun u hu => ?_, by simpa using hr⟩
  obtain ⟨l, hl, rfl⟩ := List.getElem_of_mem hu
  have := hm2 l (by simp at hl; omega)
  rw [List.getElem?_eq_getElem hl] at this
  rw [Option.some.inj this]
  rfl
end
end Go.Proofs.YtcpncfngadablaaGreatDoor
