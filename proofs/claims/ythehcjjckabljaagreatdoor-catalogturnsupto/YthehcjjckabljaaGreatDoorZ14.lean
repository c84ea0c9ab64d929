import Derived.RangeFuncNested
import Derived.RangeFuncBound
import Derived.RangeFuncCalls
import Derived.RangeFuncLeaves
import Derived.TacticsInMore
import Derived.OwnWalkIn
import Derived.BigQuiet
import Derived.Deep.AppendLies
import Derived.Deep.RegionLaw
import Derived.Test.YthehcjjckabljaaGreatDoorZ13
/-
  A pass over a whole tape among other files: the reader, the iterator at any loop body.
-/
namespace Go.Proofs.YthehcjjckabljaaGreatDoor
open Go.RowKit Go.Deep
set_option linter.unusedSimpArgs false
set_option linter.unusedVariables false

/-- a tape x whose blocks are all good. -/
structure TapX (b : Bn) (A : PubA) (x : ByteArray) (K kind : Nat) (bs : List (List UInt8)) (l : List Rc) : Prop where
  nil : b.l = []
  has : Has A x bs
  fit : Fits A K
  hK : 1 ≤ K ∧ K ≤ 2047
  k1 : 1 ≤ kind
  k2 : kind ≤ 5
  small : smallR l
  len : l.length ≤ 1048576
  m : bs.length = nBlocks K l.length
  good : ∀ j, j < bs.length → bs[j]? = some (encU kind j (flatR (chunk K j l)) A.B)

section
variable {w W W' : World} {b : Bn} {n : Nat} {A : PubA} {x : ByteArray} {s : Pu.St} {F G Q : List Nat} {g kb rb kind K : Nat} {lv : Value} {T : Int} {bs : List (List UInt8)} {l : List Rc} {i t : Nat}

theorem TapX.few (C : TapX b A x K kind bs l) : bs.length ≤ 1048576 := by
  rcases Nat.eq_zero_or_pos bs.length with h | h
  · omega
  · have h1 := nBlocks_lt C.hK.1 (show bs.length - 1 < nBlocks K l.length by have := C.m; omega)
    have h2 : (bs.length - 1) * 1 ≤ (bs.length - 1) * K := Nat.mul_le_mul_left _ C.hK.1
    have := C.len
    omega
theorem TapX.lt (C : TapX b A x K kind bs l) {j : Nat} (hj : j < bs.length) : j * K < l.length := nBlocks_lt C.hK.1 (by have := C.m; omega)
theorem TapX.all (C : TapX b A x K kind bs l) : l.length ≤ bs.length * K := by have := nBlocks_le (len := l.length) C.hK.1; rw [C.m]; exact this
theorem TapX.chunk (C : TapX b A x K kind bs l) {j : Nat} (hj : j < bs.length) : 1 ≤ (chunk K j l).length ∧ (chunk K j l).length ≤ K ∧ (K ≤ (chunk K j l).length ∨ j + 1 = bs.length) := by
  have h1 := C.lt hj
  have h2 := C.hK.1
  have e : (Go.Proofs.YthehcjjckabljaaGreatDoor.chunk K j l).length = min K (l.length - j * K) := by
    unfold Go.Proofs.YthehcjjckabljaaGreatDoor.chunk
    rw [List.length_take, List.length_drop]
  rw [e]
  refine ⟨by omega, by omega, ?_⟩
  rcases Nat.lt_or_ge (j + 1) bs.length with h | h
  · have h3 := C.lt h
    rw [Nat.succ_mul] at h3
    exact .inl (by omega)
  · exact .inr (by omega)
theorem TapX.B (C : TapX b A x K kind bs l) : A.B = 32 + 32 * K := by
  have h1 := C.fit.h64
  have h2 := C.fit.h32
  have h3 := C.fit.k
  omega
theorem TapX.read (C : TapX b A x K kind bs l) {j : Nat} (hj : j < bs.length) : Good kind j (encU kind j (flatR (Go.Proofs.YthehcjjckabljaaGreatDoor.chunk K j l)) A.B) (Go.Proofs.YthehcjjckabljaaGreatDoor.chunk K j l) := by
  obtain ⟨h1, h2, _⟩ := C.chunk hj
  have hB := C.B
  have hK := C.hK
  have hf := C.few
  have hmax := C.fit.hmax
  exact encU_good C.k1 C.k2 h1 (by omega) (by omega) (by omega) (flatR_mem (fun y hy => List.mem_of_mem_drop (List.mem_of_mem_take hy)) C.small) (by omega)

/-- i records have been read, t blocks loaded. -/
structure RgX (W : World) (b : Bn) (n : Nat) (A : PubA) (x : ByteArray) (s : Pu.St) (F : List Nat) (g : Nat) (lv : Value) (kb rb kind K : Nat) (bs : List (List UInt8)) (l : List Rc) (i t : Nat) : Prop where
  S : Stand W b (n + t) (rdX A (t : Int)) s F
  gF : g ∉ F
  gr : g ≠ rb
  gl : g < W.heap.size
  go : b.lo ≤ g
  row : W.heap[rb]? = some (.cells (rrow kb x kind lv 0 false bs.length t) 289 (0, 0))
  ls : LsAt W g lv ((l.drop i).take (t * K - i))
  le : i ≤ t * K
  few : t ≤ bs.length
  near : t * K ≤ i + K

theorem RgX.touch (I : RgX W b n A x s F g lv kb rb kind K bs l i t) (q : Touch G W W') (hG : ∀ y ∈ G, y ∉ F ∧ b.lo ≤ y ∧ y ≠ rb ∧ y ≠ g) : RgX W' b n A x s F g lv kb rb kind K bs l i t :=
  ⟨I.S.touch q (fun y hy => ⟨(hG y hy).1, (hG y hy).2.1⟩), I.gF, I.gr, Nat.lt_of_lt_of_le I.gl q.size, I.go, (q.block rb (lt_of_block I.row) (fun h => (hG _ h).2.2.1 rfl)).trans I.row, I.ls.touch q (fun h => (hG _ h).2.2.2 rfl), I.le, I.few, I.near⟩

theorem fits_rdX (h : Fits A K) {c : Int} : Fits (rdX A c) K := ⟨h.h64, h.hmax, h.h32, h.k⟩

set_option maxHeartbeats 1000000 in
theorem rgx_next (I : RgX W b n A x s F g lv kb rb kind K bs l i t) (C : TapX b A x K kind bs l) (hn : n < 549755813888) (hk : DeskAt W kb b (K : Int) T) (hkF : kb ∉ F) (hil : i < l.length) (hrF : rb ∉ F) (hlo : b.lo ≤ rb) (hne : rb ≠ kb) :
    Calls Tryz.prog 157 #[ptr rb] W fun e w' => e = .returned (.tuple #[(l[i]).val, .bool true, .int .i64 0]) ∧ ∃ F2 g2 lv2 t2, RgX w' b n A x s F2 g2 lv2 kb rb kind K bs l (i + 1) t2 ∧ Touch (rb :: F) W w' ∧ (∀ y ∈ F2, y ∈ F ∨ W.heap.size ≤ y) ∧ (g2 = g ∨ W.heap.size ≤ g2) := by
  obtain ⟨S, n1, n2, n3, n4, row, ls, hle, hfew, hnear⟩ := I
  have hK := C.hK
  have hbf := C.few
  by_cases hlt : i < t * K
  · rw [take_cons hil hlt] at ls
    refine (Next_have row ls (by simp only [List.length_cons, List.length_take]; omega) n2 n3).mono fun e w' ⟨e1, t1, lv', r1, l1⟩ => ⟨e1, F, g, lv', t, ⟨S.touch t1 (fun y hy => ?_), n1, n2, Nat.lt_of_lt_of_le n3 t1.size, n4, r1, l1, hlt, hfew, by omega⟩, t1.mono (by simp), fun y hy => .inl hy, .inl rfl⟩
    simp at hy
    subst hy
    exact ⟨hrF, hlo⟩
  · have hit : i = t * K := by omega
    have htv : t < bs.length := by
      rcases Nat.lt_or_ge t bs.length with h | h
      · exact h
      · have h1 := C.all
        have h2 := Nat.mul_le_mul_right K h
        omega
    have h1 : (t + 1) * K = t * K + K := Nat.succ_mul t K
    obtain ⟨hc1, hc2, hc3⟩ := C.chunk htv
    have hch : chunk K t l = l[i] :: (l.drop (i + 1)).take ((t + 1) * K - (i + 1)) := by
      rw [← take_cons hil (show i < (t + 1) * K by omega)]
      unfold chunk
      rw [← hit, show (t + 1) * K - i = K by omega]
    have hg := C.read htv
    have hrd := read_x C.has (n := (t : Int)) htv
    rw [C.good t htv] at hrd
    have htr : b.tr (rdX A (t : Int)) = noTr := tr_nil C.nil _
    have hlen0 : (LsAt W g lv []) := by
      have := ls
      rw [show t * K - i = 0 by omega] at this
      simpa using this
    obtain ⟨o, cc, hlv, _, _⟩ := hlen0.val
    simp only [List.length_nil] at hlv
    subst hlv
    have hrw' : rb < W.heap.size := lt_of_block row
    have N := Next_load (x := x) (kb := kb) S hrF hlo hrw' (kind := kind) (blocks := bs.length) (taken := t) (back := false) (n1 := n + t + 1) (A1 := rdX A ((t : Int) + 1)) (r := l[i]) (t := (l.drop (i + 1)).take ((t + 1) * K - (i + 1))) (by rw [← hch]; omega)
      (fun W1 t1 => Peek_load (x := x) (kb := kb) (S.quiet t1) (o := o) (c := cc) ((t1.block rb hrw' (by simp)).trans row) htv (by rw [← hch]; omega)
        (fun W2 t2 => by
          have L := load_ok (x := x) ((S.quiet t1).quiet t2) (by omega) (K := K) (fits_rdX C.fit) ((hk.touch t1 (by simp)).touch t2 (by simp)) hkF (kind := kind) (blocks := bs.length) (taken := t) (i := t) (lv := .slice o 0 cc) (dead := 0) ((t2.block rb (lt_of_block ((t1.block rb hrw' (by simp)).trans row)) (by simp)).trans ((t1.block rb hrw' (by simp)).trans row)) hrF hlo hne ⟨rfl, htv⟩ (by omega) C.k1 C.k2 (by rw [htr, hrd]) (by rw [htr, hrd]) hg.sum hg.formed hg.kind hg.place hg.count hg.words (by omega) hc3
          rw [htr, hrd, hch] at L
          exact L))
    refine N.mono fun e w' ⟨e1, g', lv', hW, hgr, r1, l1⟩ => ?_
    obtain ⟨F2, S2, t2, f2, hN⟩ := hW
    obtain ⟨g1, g2, g3⟩ := hN g' (by simp)
    refine ⟨e1, F2, g', lv', t + 1, ⟨?_, g1, hgr, g3, Nat.le_trans S.room g2, r1, l1, by omega, by omega, by omega⟩, t2.mono (by simp), f2, .inr g2⟩
    have e1 : ((t + 1 : Nat) : Int) = (t : Int) + 1 := by omega
    rw [e1]
    exact S2

theorem rgx_end (I : RgX W b n A x s F g lv kb rb kind K bs l l.length t) (C : TapX b A x K kind bs l) :
    t = bs.length ∧ Calls Tryz.prog 157 #[ptr rb] W fun e w' => e = .returned (.tuple #[zeroR, .bool false, .int .i64 0]) ∧ Touch [] W w' := by
  obtain ⟨S, n1, n2, n3, n4, row, ls, hle, hfew, hnear⟩ := I
  have ht : t = bs.length := by
    rcases Nat.lt_or_ge t bs.length with h | h
    · have := C.lt h; omega
    · omega
  subst ht
  refine ⟨rfl, ?_⟩
  have hlen0 : (LsAt W g lv []) := by
    have := ls
    rw [List.drop_length] at this
    simpa using this
  obtain ⟨o, cc, hlv, _, _⟩ := hlen0.val
  simp only [List.length_nil] at hlv
  subst hlv
  exact Next_no fun W1 t1 => Peek_end (o := o) (c := cc) ((t1.block rb (lt_of_block row) (by simp)).trans row)

theorem rgx_read (S : Stand W b n A s F) (hl : Pu.leaveE s (K : Int) = 0) (hkk : DeskAt W kb b (K : Int) T) (hkF : kb ∉ F) (hlk : b.lo ≤ kb) (C : TapX b A x K kind bs l) (hn : n < 549755813888) :
    Calls Tryz.prog 155 #[ptr kb, .string x, .int .i64 (kind : Int)] W fun e w' => ∃ rb F', e = .returned (.tuple #[ptr rb, .int .i64 0]) ∧ RgX w' b n A x (s.take (K : Int)) F' kb (.slice none 0 0) kb rb kind K bs l 0 0 ∧ rb ∉ F' ∧ b.lo ≤ rb ∧ W.heap.size ≤ rb ∧ rb < w'.heap.size ∧ Touch F W w' ∧ (∀ y ∈ F', y ∈ F ∨ W.heap.size ≤ y) := by
  have hk1 := C.k1
  have hk2 := C.k2
  refine (TRead_ok S (by omega) hkk hkF x (kind : Int) (hold_has C.has (by omega) hl)).mono fun e w' ⟨rb, e1, hw, row⟩ => ?_
  obtain ⟨F', S', t, f, hN⟩ := hw
  obtain ⟨n1, n2, n3⟩ := hN rb (by simp)
  have lk := lt_of_block hkk
  rw [length_has C.has] at row
  have hkF' : kb ∉ F' := fun hx => by
    rcases f _ hx with h | h
    · exact hkF h
    · omega
  refine ⟨rb, F', e1, ⟨by simpa [rdX_zero] using S', hkF', by omega, by have := t.size; omega, hlk, row, ?_, by omega, by omega, by have := C.hK; omega⟩, n1, Nat.le_trans S.room n2, n2, n3, by simpa using t, f⟩
  simp only [Nat.zero_mul, Nat.zero_sub, List.take_zero]
  exact LsAt.none _ _

set_option maxRecDepth 100000 in
set_option maxHeartbeats 4000000 in
theorem RClose_din (S : Stand w b n A s F) (hk : DeskAt w kb b (K : Int) T) (hkF : kb ∉ F) {kind blocks taken : Nat} {lv : Value} {dead : Int} {back : Bool} (hrow : w.heap[rb]? = some (.cells (rrow kb x kind lv dead back blocks taken) 289 (0, 0))) (hrF : rb ∉ F) (hlo : b.lo ≤ rb) (hne : rb ≠ kb) (u : FrameMode) (m : Nat) :
    CallsDIn Fence.wide m Tryz.prog 156 #[ptr rb] u w fun e u' w' => u' = u ∧ (e = .returned (.int .i64 0) ∧ Went w w' b n A (s.give K) F [rb]) := by
  have HR := hid (release_any S hk hkF (hb := rb) (x := x) (kind := (kind : Int)) (lv := lv) (dead := dead) (cl := false) ⟨_, _, hrow, rfl, rfl, rfl, rfl, rfl, rfl⟩ hrF hlo hne)
  have c5 := cell_row hrow 5
  simp only [List.getElem?_toArray, List.getElem?_cons_zero, List.getElem?_cons_succ] at c5
  clear S hk hkF hrow hrF hlo hne
  refine callsDIn_of_wp Tryz.func156 rfl trivial (wpIn_wide.2 ?_)
  simp only [Tryz.ntmps156, List.size_toArray, List.length_cons, List.length_nil, Nat.reduceAdd, Nat.reduceSub, Array.replicate_succ, Array.replicate_zero, List.push_toArray, List.append_toArray, List.nil_append, List.cons_append]
  go_wp2_with (go_at_call 146; refine HR.out.mono ?_; rintro e w1 ⟨rfl, hf⟩)
  go_ret
  exact ⟨rfl, hf.2⟩

/-- what a loop's body calls its own: it lies in blocks G (they may change as it goes on). -/
structure OwX (b : Bn) (kb : Nat) (Ow : List Nat → Nat → World → Prop) : Prop where
  kept : ∀ G j W1 W2 Q, Ow G j W1 → Touch Q W1 W2 → (∀ y ∈ Q, y ∉ G) → Ow G j W2
  lt : ∀ G j W, Ow G j W → ∀ y ∈ G, y < W.heap.size ∧ b.lo ≤ y ∧ y ≠ kb

variable {Ow : List Nat → Nat → World → Prop}
structure RIx (w0 : World) (b : Bn) (n : Nat) (A : PubA) (x : ByteArray) (s : Pu.St) (F0 : List Nat) (kb rb kind K : Nat) (T : Int) (bs : List (List UInt8)) (l : List Rc) (Ow : List Nat → Nat → World → Prop) (G0 : List Nat) (i j : Nat) (W : World) : Prop where
  x : ∃ G F g lv t, RgX W b n A x s F g lv kb rb kind K bs l i t ∧ Ow G j W ∧ DeskAt W kb b (K : Int) T ∧ kb ∉ F ∧ rb ∉ F ∧ (∀ y ∈ G, y ∉ F ∧ y ≠ rb ∧ y ≠ g) ∧ Touch (G0 ++ F0) w0 W ∧ (∀ y ∈ F, y ∈ F0 ∨ w0.heap.size ≤ y) ∧ (∀ y ∈ G, y ∈ G0 ∨ w0.heap.size ≤ y) ∧ w0.heap.size ≤ rb
/-- all has been read, the reader is closed. -/
structure HomX (w0 W : World) (b : Bn) (n : Nat) (A : PubA) (s : Pu.St) (F0 : List Nat) (kb K : Nat) (Ow : List Nat → Nat → World → Prop) (G0 : List Nat) (j : Nat) : Prop where
  x : ∃ G F, Stand W b n A s F ∧ Ow G j W ∧ (∀ y ∈ G, y ∉ F) ∧ Touch (G0 ++ F0) w0 W ∧ (∀ y ∈ F, y ∈ F0 ∨ w0.heap.size ≤ y) ∧ ∀ y ∈ G, y ∈ G0 ∨ w0.heap.size ≤ y

variable {w0 : World} {F0 G0 : List Nat} {j : Nat}
theorem RIx.quiet (I : RIx w0 b n A x s F0 kb rb kind K T bs l Ow G0 i j W) (O : OwX b kb Ow) (q : Touch [] W W') : RIx w0 b n A x s F0 kb rb kind K T bs l Ow G0 i j W' := by
  obtain ⟨G, F, g, lv, tt, R, o, hk, hkF, hrF, hg, tw, f, fg, hr⟩ := I.x
  exact ⟨G, F, g, lv, tt, R.touch q (by simp), O.kept _ _ _ _ _ o q (by simp), hk.touch q (by simp), hkF, hrF, hg, tw.trans q (by simp), f, fg, hr⟩
theorem RIx.own (I : RIx w0 b n A x s F0 kb rb kind K T bs l Ow G0 i j W) : ∃ G, Ow G j W := by
  obtain ⟨G, F, g, lv, tt, R, o, _⟩ := I.x
  exact ⟨G, o⟩
/-- how many records have been read, by the reader's row. -/
def muR (rb K len : Nat) (X : World) : Nat :=
  min ((match X.cell? ⟨rb, 8, none⟩ with | some (.int _ t) => t.toNat | _ => 0) * K) len - (match X.cell? ⟨rb, 3, none⟩ with | some (.slice _ m _) => m | _ => 0)
theorem RIx.mu (I : RIx w0 b n A x s F0 kb rb kind K T bs l Ow G0 i j W) (hi : i ≤ l.length) : muR rb K l.length W = i := by
  obtain ⟨G, F, g, lv, tt, R, o, _⟩ := I.x
  obtain ⟨oo, cc, hlv, _, _⟩ := R.ls.val
  have c3 := cell_row R.row 3
  have c8 := cell_row R.row 8
  simp only [List.getElem?_toArray, List.getElem?_cons_zero, List.getElem?_cons_succ] at c3 c8
  have hle := R.le
  unfold muR
  rw [c3, c8, hlv]
  simp only [List.length_take, List.length_drop, Int.toNat_natCast]
  omega
/-- a body's round. -/
def OwStep (Ow : List Nat → Nat → World → Prop) (j : Nat) (X X2 : World) : Prop := ∀ G, Ow G j X → ∃ G2, Ow G2 (j + 1) X2 ∧ Touch G X X2 ∧ ∀ y ∈ G2, y ∈ G ∨ X.heap.size ≤ y
theorem RIx.round (I : RIx w0 b n A x s F0 kb rb kind K T bs l Ow G0 i j W) (O : OwX b kb Ow) (h : OwStep Ow j W W') : RIx w0 b n A x s F0 kb rb kind K T bs l Ow G0 i (j + 1) W' := by
  obtain ⟨G, F, g, lv, tt, R, o, hk, hkF, hrF, hg, tw, f, fg, hr⟩ := I.x
  obtain ⟨G2, o2, t2, g2⟩ := h G o
  have hlt := O.lt _ _ _ o
  have hFl := R.S.lt
  have hrl := lt_of_block R.row
  have hgl := R.gl
  refine ⟨G2, F, g, lv, tt, R.touch t2 (fun y hy => ⟨(hg y hy).1, (hlt y hy).2.1, (hg y hy).2.1, (hg y hy).2.2⟩), o2, hk.touch t2 (fun h => (hlt _ h).2.2 rfl), hkF, hrF, fun y hy => ?_, tw.trans t2 (fun y hy => ?_), f, fun y hy => ?_, hr⟩
  · rcases g2 y hy with h | h
    · exact hg y h
    · exact ⟨fun hx => by have := hFl y hx; omega, by omega, by omega⟩
  · rcases fg y hy with h | h
    · exact .inl (by simp [h])
    · exact .inr h
  · rcases g2 y hy with h | h
    · exact fg y h
    · exact .inr (Nat.le_trans tw.size h)

theorem rix_next (I : RIx w0 b n A x s F0 kb rb kind K T bs l Ow G0 i j W) (O : OwX b kb Ow) (C : TapX b A x K kind bs l) (hn : n < 549755813888) (hil : i < l.length) (hlo : b.lo ≤ rb) (hne : rb ≠ kb) :
    Calls Tryz.prog 157 #[ptr rb] W fun e w' => e = .returned (.tuple #[(l[i]).val, .bool true, .int .i64 0]) ∧ RIx w0 b n A x s F0 kb rb kind K T bs l Ow G0 (i + 1) j w' := by
  obtain ⟨G, F, g, lv, tt, R, o, hkk, hkF, hrF, hg, tw, f, fg, hr⟩ := I.x
  have hlt := O.lt _ _ _ o
  refine (rgx_next R C hn hkk hkF hil hrF hlo hne).mono fun e w' ⟨e1, F2, g2, lv2, t2, R2, T2, f2, hg2⟩ => ⟨e1, G, F2, g2, lv2, t2, R2, ?_, ?_, ?_, ?_, ?_, ?_, ?_, fg, hr⟩
  · refine O.kept _ _ _ _ _ o T2 (fun y hy hG => ?_)
    simp at hy
    rcases hy with rfl | hy
    · exact (hg _ hG).2.1 rfl
    · exact (hg _ hG).1 hy
  · exact hkk.touch T2 (by simp; exact ⟨fun e => hne e.symm, hkF⟩)
  · intro hx
    rcases f2 _ hx with h | h
    · exact hkF h
    · have := lt_of_block hkk; omega
  · intro hx
    rcases f2 _ hx with h | h
    · exact hrF h
    · have := lt_of_block R.row; omega
  · intro y hy
    have hl := (hlt y hy).1
    refine ⟨fun hx => ?_, (hg y hy).2.1, ?_⟩
    · rcases f2 _ hx with h | h
      · exact (hg y hy).1 h
      · omega
    · rcases hg2 with h | h
      · rw [h]; exact (hg y hy).2.2
      · omega
  · refine tw.trans T2 (fun y hy => ?_)
    simp at hy
    rcases hy with rfl | hy
    · exact .inr hr
    · rcases f y hy with h | h
      · exact .inl (by simp [h])
      · exact .inr h
  · intro y hy
    rcases f2 y hy with h | h
    · exact f y h
    · exact .inr (Nat.le_trans tw.size h)

theorem rix_end (I : RIx w0 b n A x s F0 kb rb kind K T bs l Ow G0 l.length j W) (O : OwX b kb Ow) (C : TapX b A x K kind bs l) :
    Calls Tryz.prog 157 #[ptr rb] W fun e w' => e = .returned (.tuple #[zeroR, .bool false, .int .i64 0]) ∧ RIx w0 b n A x s F0 kb rb kind K T bs l Ow G0 l.length j w' := by
  obtain ⟨G, F, g, lv, tt, R, _⟩ := I.x
  exact (rgx_end R C).2.mono fun e w' ⟨e1, t⟩ => ⟨e1, I.quiet O t⟩

theorem rix_close (I : RIx w0 b n A x (s.take (K : Int)) F0 kb rb kind K T bs l Ow G0 l.length j W) (O : OwX b kb Ow) (C : TapX b A x K kind bs l) (hlo : b.lo ≤ rb) (hne : rb ≠ kb) (u : FrameMode) (m : Nat) :
    CallsDIn Fence.wide m Tryz.prog 156 #[ptr rb] u W fun e u' w' => u' = u ∧ (e = .returned (.int .i64 0) ∧ HomX w0 w' b (n + bs.length) (rdX A (bs.length : Int)) ((s.take (K : Int)).give (K : Int)) F0 kb K Ow G0 j) := by
  obtain ⟨G, F, g, lv, tt, R, o, hkk, hkF, hrF, hg, tw, f, fg, hr⟩ := I.x
  obtain ⟨rfl, _⟩ := rgx_end R C
  have hlt := O.lt _ _ _ o
  refine (RClose_din R.S hkk hkF R.row hrF hlo hne u m).mono fun e u' w' ⟨h1, h2, F2, S2, t2, f2⟩ => ⟨h1, h2, G, F2, S2, ?_, ?_, ?_, ?_, fg⟩
  · refine O.kept _ _ _ _ _ o t2 (fun y hy hG => ?_)
    simp at hy
    rcases hy with rfl | hy
    · exact (hg _ hG).2.1 rfl
    · exact (hg _ hG).1 hy
  · intro y hy hx
    rcases f2 _ hx with h | h
    · exact (hg y hy).1 h
    · have := (hlt y hy).1; omega
  · refine tw.trans t2 (fun y hy => ?_)
    simp at hy
    rcases hy with rfl | hy
    · exact .inr hr
    · rcases f y hy with h | h
      · exact .inl (by simp [h])
      · exact .inr h
  · intro y hy
    rcases f2 y hy with h | h
    · exact f y h
    · exact .inr (Nat.le_trans tw.size h)

theorem all_any (k1 : Nat) : Calls Tryz.prog 108 #[ptr kb, .string x, .int .i64 (k1 : Int)] W fun e w' => ∃ b1 b2 b3, e = .returned (.func (.func 154) #[] #[ptr b1, ptr b2, ptr b3]) ∧ Touch [] W w' ∧ w'.heap[b1]? = some (.cells #[ptr kb] 34 (0, 0)) ∧ w'.heap[b2]? = some (.cells #[.string x] 9 (0, 0)) ∧ w'.heap[b3]? = some (.cells #[.int .i64 (k1 : Int)] 3 (0, 0)) ∧ W.heap.size ≤ b1 ∧ W.heap.size ≤ b2 ∧ W.heap.size ≤ b3 := by
  go_enter Tryz.func108, Tryz.ntmps108
  go_wp2_with fail
  go_ret
  refine ⟨_, _, _, rfl, ((Touch.refl [] W).alloc _ |>.alloc _ |>.alloc _), ?_, ?_, ?_, Nat.le_refl _, ?_, ?_⟩
  rotate_left 3
  · first | omega | (simp; done) | (simp; omega)
  · first | omega | (simp; done) | (simp; omega)
  · refine (Below.heap_alloc _ _ _ (by simp; omega)).trans ((Below.heap_alloc _ _ _ (by simp)).trans (heap_alloc_new W _))
  · refine (Below.heap_alloc _ _ _ (by simp)).trans ?_
    have := heap_alloc_new (W.alloc (.cells #[ptr kb] 34)) (.cells #[.string x] 9)
    simpa using this
  · have := heap_alloc_new ((W.alloc (.cells #[ptr kb] 34)).alloc (.cells #[.string x] 9)) (.cells #[.int .i64 (k1 : Int)] 3)
    simpa using this

set_option maxRecDepth 100000 in
set_option maxHeartbeats 4000000 in
theorem all1_ok {L b1 b2 b3 m : Nat} (S : Stand W b n A s F) (hl : Pu.leaveE s (K : Int) = 0) (hkk : DeskAt W kb b (K : Int) T) (hkF : kb ∉ F) (hlk : b.lo ≤ kb) (C : TapX b A x K kind bs l) (hn : n < 549755813888)
    (O : OwX b kb Ow) (h0 : Ow G 0 W) (hG : ∀ y ∈ G, y ∉ F)
    (hb1 : W.heap[b1]? = some (.cells #[ptr kb] 34 (0, 0))) (hb2 : W.heap[b2]? = some (.cells #[.string x] 9 (0, 0))) (hb3 : W.heap[b3]? = some (.cells #[.int .i64 (kind : Int)] 3 (0, 0)))
    (hY : ∀ m' j (hj : j < l.length) X G, Ow G j X → YieldAt Fence.wide m' Tryz.prog L #[(l[j]).val, .int .i64 0] X fun e X2 => e = .returned (.bool true) ∧ OwStep Ow j X X2) :
    CallsIn Fence.wide m Tryz.prog 154 #[.func (.yield L) #[] #[], ptr b1, ptr b2, ptr b3] W fun e w' => (∃ v, e = .returned v) ∧ HomX W w' b (n + bs.length) (rdX A (bs.length : Int)) ((s.take (K : Int)).give (K : Int)) F kb K Ow G l.length := by
  have HR := hid (rgx_read S hl hkk hkF hlk C hn)
  have HOK := hid (show ∀ rb F' w1, RgX w1 b n A x (s.take (K : Int)) F' kb (.slice none 0 0) kb rb kind K bs l 0 0 → rb ∉ F' → W.heap.size ≤ rb → Touch F W w1 → (∀ y ∈ F', y ∈ F ∨ W.heap.size ≤ y) → RIx W b n A x (s.take (K : Int)) F kb rb kind K T bs l Ow G 0 0 w1 from fun rb F' w1 R hrF hrb t f => by
    have hlt := O.lt _ _ _ h0
    refine ⟨G, F', kb, _, 0, R, O.kept _ _ _ _ _ h0 t (fun y hy hG' => hG y hG' hy), hkk.touch t hkF, R.gF, hrF, fun y hy => ⟨fun hx => ?_, ?_, (hlt y hy).2.2⟩, t.mono (fun y hy => List.mem_append_right _ hy), f, fun y hy => .inl hy, hrb⟩
    · rcases f y hx with h | h
      · exact hG y hy h
      · have := (hlt y hy).1; omega
    · have := (hlt y hy).1; omega)
  have c1 := cell_row hb1 0
  have c2 := cell_row hb2 0
  have c3 := cell_row hb3 0
  simp only [List.getElem?_toArray, List.getElem?_cons_zero] at c1 c2 c3
  have lk := lt_of_block hkk
  have hsl := S.room
  have HC := hid C
  have HO := hid O
  have HYY := hid hY
  clear S hkk hkF C O h0 hG hb1 hb2 hb3 hY hl
  refine callsIn_of_wp_defers Tryz.func154 rfl trivial (wpIn_wide.2 ?_)
  simp only [Tryz.ntmps154, List.size_toArray, List.length_cons, List.length_nil, Nat.reduceAdd, Nat.reduceSub, Array.replicate_succ, Array.replicate_zero, List.push_toArray, List.append_toArray, List.nil_append, List.cons_append]
  go_wp2_with (go_at_call 155; refine HR.out.mono ?_; rintro e w1 ⟨rb, F', rfl, hR, hrF, hlo, hrb, hrl, ht, hf⟩; have HI1 := hid (HOK.out rb F' w1 hR hrF hrb ht hf); clear hR hrF hrl ht hf)
  have hne : rb ≠ kb := by omega
  go_loopw [] (fun X => ∃ j : Nat, j ≤ l.length ∧ Hid (RIx W b n A x (s.take (K : Int)) F kb rb kind K T bs l Ow G j j X)) (fun X => l.length - muR rb K l.length X)
  case atStart => exact ⟨0, Nat.zero_le _, HI1⟩
  case round =>
    obtain ⟨j, hj, hJ⟩ := hrel
    by_cases hjl : j < l.length
    · have HN := hid (rix_next hJ.out HO.out HC.out hn hjl hlo hne)
      go_upto_region 6 with (go_at_call 157; refine HN.out.mono ?_; rintro e w2 ⟨rfl, hh⟩; have H2 := hid hh; clear hh)
      obtain ⟨W3, hW3⟩ : ∃ W3, W3 = w2.alloc (.cells #[.int .u64 (l[j].1 : Int), .int .u64 (l[j].2.1 : Int), .int .u64 (l[j].2.2.1 : Int), .int .u64 (l[j].2.2.2 : Int)] 176) := ⟨_, rfl⟩
      have hb3 : W3.heap[w2.heap.size]? = some (.cells #[.int .u64 (l[j].1 : Int), .int .u64 (l[j].2.1 : Int), .int .u64 (l[j].2.2.1 : Int), .int .u64 (l[j].2.2.2 : Int)] 176) := by rw [hW3]; exact heap_alloc_new w2 _
      have H3 := hid (H2.out.quiet HO.out (W' := W3) (by rw [hW3]; exact (Touch.refl [] w2).alloc _))
      rw [← hW3]
      have q0 := cell_row hb3 0
      have q1 := cell_row hb3 1
      have q2 := cell_row hb3 2
      have q3 := cell_row hb3 3
      simp only [List.getElem?_toArray, List.getElem?_cons_zero, List.getElem?_cons_succ] at q0 q1 q2 q3
      generalize w2.heap.size = ob at q0 q1 q2 q3 ⊢
      clear hW3 hb3
      refine (wpIn_wide (n := m)).1 ?_
      obtain ⟨G3, o3⟩ := H3.out.own
      obtain ⟨fn, tm, asg, bd, hy, hRd⟩ := HYY.out (m - 1) j hjl W3 G3 o3
      have HRd := hid hRd
      clear hRd
      have e9 := hJ.out.mu hj
      gi_wp2
      refine ⟨fun h => (by cases h), HRd.out.mono ?_⟩
      rintro e W4 ⟨rfl, ho4⟩
      have H4 := hid (H3.out.round HO.out ho4)
      have e4 := H4.out.mu (show j + 1 ≤ l.length by omega)
      clear ho4
      gi_wp2
      go_wp2_with fail
      exact ⟨⟨j + 1, by omega, H4⟩, by omega⟩
    · obtain rfl : j = l.length := by omega
      have HN := hid (rix_end hJ.out HO.out HC.out)
      go_wp2_with (go_at_call 157; refine HN.out.mono ?_; rintro e w2 ⟨rfl, hh⟩; have H2 := hid hh; clear hh)
      have H3 := H2.out.quiet HO.out ((Touch.refl [] w2).alloc (.cells #[.int .u64 0, .int .u64 0, .int .u64 0, .int .u64 0] 176))
      refine leavesIn_cons (f := 156) (args := #[ptr rb]) (by simp) (fun h => by cases h) (by simp [go_sem]) (fun _ _ => trivial) ?_
      refine (rix_close H3 HO.out HC.out hlo hne .returning (m - 1)).mono ?_
      rintro e u' w4 ⟨rfl, rfl, hg⟩
      exact ⟨_, results_none rfl _ _ _, ⟨_, rfl⟩, hg⟩
end
end Go.Proofs.YthehcjjckabljaaGreatDoor
/-
  What a catalog's records tell.
-/
namespace Go.Proofs.YthehcjjckabljaaGreatDoor
open Go.RowKit Go.Deep
set_option maxRecDepth 100000
set_option linter.unusedSimpArgs false
set_option linter.unusedVariables false

/-- what has been told so far. -/
structure Told where
  list : List (Nat × Nat)
  levels : Nat
  fin : Rc
  none : Bool
def Told.bad : Told := ⟨[], 0, (0, 0, 0, 0), true⟩
def Told.new : Told := ⟨[], 0, (0, 0, 0, 0), false⟩
def isLevelB (t : Told) (r : Rc) : Bool := decide (r.2.2.1 = 0) && decide (r.2.2.2 = 1) && decide (r.1 = t.levels) && decide (t.levels = t.list.length) && decide (t.levels < 65536)
def isRowB (t : Told) (r : Rc) : Bool := decide (r.2.2.1 = 0) && decide (r.2.2.2 = 2) && decide (t.list.length < t.levels + 1024)
def Told.take (t : Told) (r : Rc) : Told :=
  if t.none then t
  else if t.fin.1 = 18446744073709551615 then .bad
  else if r.1 = 18446744073709551615 then { t with fin := r }
  else if isLevelB t r then { t with levels := t.levels + 1, list := t.list ++ [(r.1, r.2.1)] }
  else if isRowB t r then { t with list := t.list ++ [(r.1, r.2.1)] }
  else .bad
def Rc.Ok (r : Rc) : Prop := r.1 < 18446744073709551616 ∧ r.2.1 < 18446744073709551616 ∧ r.2.2.1 < 18446744073709551616 ∧ r.2.2.2 < 18446744073709551616
/-- it never holds more than a table may have. -/
structure Told.Ok (t : Told) : Prop where
  lv : t.levels ≤ 65536
  le : t.levels ≤ t.list.length
  len : t.list.length ≤ t.levels + 1024
  fin : Rc.Ok t.fin
  prs : ∀ p ∈ t.list, p.1 < 18446744073709551616 ∧ p.2 < 18446744073709551616
def pairC (l : List (Nat × Nat)) : List Value := l.flatMap fun p => [.int .u64 (p.1 : Int), .int .u64 (p.2 : Int)]
theorem pairC_snoc (l : List (Nat × Nat)) (p : Nat × Nat) : pairC (l ++ [p]) = pairC l ++ [.int .u64 (p.1 : Int), .int .u64 (p.2 : Int)] := by simp [pairC]

/-- what has been told lies there: in tb and gl. -/
def ToldAt (w : World) (tb : Nat) (gl : List Nat) (t : Told) : Prop :=
  ∃ v, w.heap[tb]? = some (.cells #[v, .int .i64 (t.levels : Int), .int .u64 (t.fin.1 : Int), .int .u64 (t.fin.2.1 : Int), .int .u64 (t.fin.2.2.1 : Int), .int .u64 (t.fin.2.2.2 : Int), .bool t.none] 186 (0, 0)) ∧
    w.ownsRow 0 240 2 v t.list.length (pairC t.list) ∧ gl = v.ownBlock.toList ∧ tb ∉ gl

section
variable {w w' : World} {tb : Nat} {gl : List Nat} {t : Told}

set_option maxHeartbeats 400000 in
theorem isLevel_any (h : ToldAt w tb gl t) (ho : t.Ok) (r : Rc) :
    Calls Tryz.prog 158 #[ptr tb, r.val] w fun e w' => e = .returned (.bool (isLevelB t r)) ∧ Touch [] w w' := by
  obtain ⟨v, hb, hown, -, -⟩ := h
  have hlt := lt_of_block hb
  have c := fun i => cell_row hb i
  have hv : ∃ sa ca, v = .slice sa t.list.length ca := by
    rcases hown.2 with ⟨h1, h0⟩ | ⟨g, cap, cur, hv, _⟩
    · exact ⟨none, 0, by rw [h0]; exact h1⟩
    · exact ⟨_, _, hv⟩
  obtain ⟨sa, ca, rfl⟩ := hv
  have hR : isLevelB t r = (decide (r.2.2.1 = 0) && decide (r.2.2.2 = 1) && decide (r.1 = t.levels) && decide (t.levels = t.list.length) && decide (t.levels < 65536)) := rfl
  generalize isLevelB t r = B at *
  have HR := hid hR
  clear hR
  have hlv := ho.lv
  have hln := ho.len
  obtain ⟨list, levels, fin, no⟩ := t
  obtain ⟨f0, f1, f2, f3⟩ := fin
  obtain ⟨r0, r1, r2, r3⟩ := r
  simp only [Rc.val, recV] at *
  clear hb hown ho
  have e2 : ((r2 : Int) == 0) = decide (r2 = 0) := by rw [Bool.eq_iff_iff]; simp
  have e3 : ((r3 : Int) == 1) = decide (r3 = 1) := by rw [Bool.eq_iff_iff]; simp; omega
  have e0 : ((r0 : Int) == (levels : Int)) = decide (r0 = levels) := by rw [Bool.eq_iff_iff]; simp; omega
  have e4 : ((levels : Int) == (list.length : Int)) = decide (levels = list.length) := by rw [Bool.eq_iff_iff]; simp; omega
  have e5 : decide ((levels : Int) < 65536) = decide (levels < 65536) := by rw [Bool.eq_iff_iff]; simp; omega
  generalize decide (r2 = 0) = b2 at *
  generalize decide (r3 = 1) = b3 at *
  generalize decide (r0 = levels) = b0 at *
  generalize decide (levels = list.length) = b4 at *
  generalize decide (levels < 65536) = b5 at *
  cases b2 with
  | false =>
    go_enter Tryz.func158, Tryz.ntmps158
    go_wp2_with fail
    have ht1 : Touch [] w (w.alloc (.cells #[.int .u64 (r0 : Int), .int .u64 (r1 : Int), .int .u64 (r2 : Int), .int .u64 (r3 : Int)] 176)) := (Touch.refl [] w).alloc _
    have cb := fun i => cell_row (heap_alloc_new w (.cells #[.int .u64 (r0 : Int), .int .u64 (r1 : Int), .int .u64 (r2 : Int), .int .u64 (r3 : Int)] 176)) i
    have cc := fun i => (ht1.cell (p := ⟨tb, i, none⟩) hlt (by simp)).trans (c i)
    generalize w.alloc (.cells #[.int .u64 (r0 : Int), .int .u64 (r1 : Int), .int .u64 (r2 : Int), .int .u64 (r3 : Int)] 176) = W1 at *
    generalize w.heap.size = bx at *
    have HT1 := hid ht1
    clear ht1 c hlt
    go_quiet (fail)
    go_wp2_with fail
    go_ret
    exact ⟨by rw [HR.out]; rfl, HT1.out.drewN _⟩
  | true =>
    cases b3 with
    | false =>
      go_enter Tryz.func158, Tryz.ntmps158
      go_wp2_with fail
      have ht1 : Touch [] w (w.alloc (.cells #[.int .u64 (r0 : Int), .int .u64 (r1 : Int), .int .u64 (r2 : Int), .int .u64 (r3 : Int)] 176)) := (Touch.refl [] w).alloc _
      have cb := fun i => cell_row (heap_alloc_new w (.cells #[.int .u64 (r0 : Int), .int .u64 (r1 : Int), .int .u64 (r2 : Int), .int .u64 (r3 : Int)] 176)) i
      have cc := fun i => (ht1.cell (p := ⟨tb, i, none⟩) hlt (by simp)).trans (c i)
      generalize w.alloc (.cells #[.int .u64 (r0 : Int), .int .u64 (r1 : Int), .int .u64 (r2 : Int), .int .u64 (r3 : Int)] 176) = W1 at *
      generalize w.heap.size = bx at *
      have HT1 := hid ht1
      clear ht1 c hlt
      go_quiet (fail)
      go_wp2_with fail
      go_ret
      exact ⟨by rw [HR.out]; rfl, HT1.out.drewN _⟩
    | true =>
      cases b0 with
      | false =>
        go_enter Tryz.func158, Tryz.ntmps158
        go_wp2_with fail
        have ht1 : Touch [] w (w.alloc (.cells #[.int .u64 (r0 : Int), .int .u64 (r1 : Int), .int .u64 (r2 : Int), .int .u64 (r3 : Int)] 176)) := (Touch.refl [] w).alloc _
        have cb := fun i => cell_row (heap_alloc_new w (.cells #[.int .u64 (r0 : Int), .int .u64 (r1 : Int), .int .u64 (r2 : Int), .int .u64 (r3 : Int)] 176)) i
        have cc := fun i => (ht1.cell (p := ⟨tb, i, none⟩) hlt (by simp)).trans (c i)
        generalize w.alloc (.cells #[.int .u64 (r0 : Int), .int .u64 (r1 : Int), .int .u64 (r2 : Int), .int .u64 (r3 : Int)] 176) = W1 at *
        generalize w.heap.size = bx at *
        have HT1 := hid ht1
        clear ht1 c hlt
        go_quiet (fail)
        go_wp2_with fail
        go_ret
        exact ⟨by rw [HR.out]; rfl, HT1.out.drewN _⟩
      | true =>
        cases b4 with
        | false =>
          go_enter Tryz.func158, Tryz.ntmps158
          go_wp2_with fail
          have ht1 : Touch [] w (w.alloc (.cells #[.int .u64 (r0 : Int), .int .u64 (r1 : Int), .int .u64 (r2 : Int), .int .u64 (r3 : Int)] 176)) := (Touch.refl [] w).alloc _
          have cb := fun i => cell_row (heap_alloc_new w (.cells #[.int .u64 (r0 : Int), .int .u64 (r1 : Int), .int .u64 (r2 : Int), .int .u64 (r3 : Int)] 176)) i
          have cc := fun i => (ht1.cell (p := ⟨tb, i, none⟩) hlt (by simp)).trans (c i)
          generalize w.alloc (.cells #[.int .u64 (r0 : Int), .int .u64 (r1 : Int), .int .u64 (r2 : Int), .int .u64 (r3 : Int)] 176) = W1 at *
          generalize w.heap.size = bx at *
          have HT1 := hid ht1
          clear ht1 c hlt
          go_quiet (fail)
          go_wp2_with fail
          go_ret
          exact ⟨by rw [HR.out]; rfl, HT1.out.drewN _⟩
        | true =>
          cases b5 with
          | false =>
            go_enter Tryz.func158, Tryz.ntmps158
            go_wp2_with fail
            have ht1 : Touch [] w (w.alloc (.cells #[.int .u64 (r0 : Int), .int .u64 (r1 : Int), .int .u64 (r2 : Int), .int .u64 (r3 : Int)] 176)) := (Touch.refl [] w).alloc _
            have cb := fun i => cell_row (heap_alloc_new w (.cells #[.int .u64 (r0 : Int), .int .u64 (r1 : Int), .int .u64 (r2 : Int), .int .u64 (r3 : Int)] 176)) i
            have cc := fun i => (ht1.cell (p := ⟨tb, i, none⟩) hlt (by simp)).trans (c i)
            generalize w.alloc (.cells #[.int .u64 (r0 : Int), .int .u64 (r1 : Int), .int .u64 (r2 : Int), .int .u64 (r3 : Int)] 176) = W1 at *
            generalize w.heap.size = bx at *
            have HT1 := hid ht1
            clear ht1 c hlt
            go_quiet (fail)
            go_wp2_with fail
            go_ret
            exact ⟨by rw [HR.out]; rfl, HT1.out.drewN _⟩
          | true =>
            go_enter Tryz.func158, Tryz.ntmps158
            go_wp2_with fail
            have ht1 : Touch [] w (w.alloc (.cells #[.int .u64 (r0 : Int), .int .u64 (r1 : Int), .int .u64 (r2 : Int), .int .u64 (r3 : Int)] 176)) := (Touch.refl [] w).alloc _
            have cb := fun i => cell_row (heap_alloc_new w (.cells #[.int .u64 (r0 : Int), .int .u64 (r1 : Int), .int .u64 (r2 : Int), .int .u64 (r3 : Int)] 176)) i
            have cc := fun i => (ht1.cell (p := ⟨tb, i, none⟩) hlt (by simp)).trans (c i)
            generalize w.alloc (.cells #[.int .u64 (r0 : Int), .int .u64 (r1 : Int), .int .u64 (r2 : Int), .int .u64 (r3 : Int)] 176) = W1 at *
            generalize w.heap.size = bx at *
            have HT1 := hid ht1
            clear ht1 c hlt
            go_quiet (fail)
            go_wp2_with fail
            go_ret
            exact ⟨by rw [HR.out]; rfl, HT1.out.drewN _⟩

set_option maxHeartbeats 400000 in
theorem isRow_any (h : ToldAt w tb gl t) (ho : t.Ok) (r : Rc) :
    Calls Tryz.prog 159 #[ptr tb, r.val] w fun e w' => e = .returned (.bool (isRowB t r)) ∧ Touch [] w w' := by
  obtain ⟨v, hb, hown, -, -⟩ := h
  have hlt := lt_of_block hb
  have c := fun i => cell_row hb i
  have hv : ∃ sa ca, v = .slice sa t.list.length ca := by
    rcases hown.2 with ⟨h1, h0⟩ | ⟨g, cap, cur, hv, _⟩
    · exact ⟨none, 0, by rw [h0]; exact h1⟩
    · exact ⟨_, _, hv⟩
  obtain ⟨sa, ca, rfl⟩ := hv
  have hR : isRowB t r = (decide (r.2.2.1 = 0) && decide (r.2.2.2 = 2) && decide (t.list.length < t.levels + 1024)) := rfl
  generalize isRowB t r = B at *
  have HR := hid hR
  clear hR
  have hlv := ho.lv
  have hln := ho.len
  have hle := ho.le
  obtain ⟨list, levels, fin, no⟩ := t
  obtain ⟨f0, f1, f2, f3⟩ := fin
  obtain ⟨r0, r1, r2, r3⟩ := r
  simp only [Rc.val, recV] at *
  clear hb hown ho
  have e2 : ((r2 : Int) == 0) = decide (r2 = 0) := by rw [Bool.eq_iff_iff]; simp
  have e3 : ((r3 : Int) == 2) = decide (r3 = 2) := by rw [Bool.eq_iff_iff]; simp; omega
  have e5 : decide ((list.length : Int) - (levels : Int) < 1024) = decide (list.length < levels + 1024) := by rw [Bool.eq_iff_iff]; simp; omega
  generalize decide (r2 = 0) = b2 at *
  generalize decide (r3 = 2) = b3 at *
  generalize decide (list.length < levels + 1024) = b5 at *
  cases b2 with
  | false =>
    go_enter Tryz.func159, Tryz.ntmps159
    go_wp2_with fail
    have ht1 : Touch [] w (w.alloc (.cells #[.int .u64 (r0 : Int), .int .u64 (r1 : Int), .int .u64 (r2 : Int), .int .u64 (r3 : Int)] 176)) := (Touch.refl [] w).alloc _
    have cb := fun i => cell_row (heap_alloc_new w (.cells #[.int .u64 (r0 : Int), .int .u64 (r1 : Int), .int .u64 (r2 : Int), .int .u64 (r3 : Int)] 176)) i
    have cc := fun i => (ht1.cell (p := ⟨tb, i, none⟩) hlt (by simp)).trans (c i)
    generalize w.alloc (.cells #[.int .u64 (r0 : Int), .int .u64 (r1 : Int), .int .u64 (r2 : Int), .int .u64 (r3 : Int)] 176) = W1 at *
    generalize w.heap.size = bx at *
    have HT1 := hid ht1
    clear ht1 c hlt
    go_quiet (fail)
    go_wp2_with fail
    go_ret
    exact ⟨by rw [HR.out]; rfl, HT1.out.drewN _⟩
  | true =>
    cases b3 with
    | false =>
      go_enter Tryz.func159, Tryz.ntmps159
      go_wp2_with fail
      have ht1 : Touch [] w (w.alloc (.cells #[.int .u64 (r0 : Int), .int .u64 (r1 : Int), .int .u64 (r2 : Int), .int .u64 (r3 : Int)] 176)) := (Touch.refl [] w).alloc _
      have cb := fun i => cell_row (heap_alloc_new w (.cells #[.int .u64 (r0 : Int), .int .u64 (r1 : Int), .int .u64 (r2 : Int), .int .u64 (r3 : Int)] 176)) i
      have cc := fun i => (ht1.cell (p := ⟨tb, i, none⟩) hlt (by simp)).trans (c i)
      generalize w.alloc (.cells #[.int .u64 (r0 : Int), .int .u64 (r1 : Int), .int .u64 (r2 : Int), .int .u64 (r3 : Int)] 176) = W1 at *
      generalize w.heap.size = bx at *
      have HT1 := hid ht1
      clear ht1 c hlt
      go_quiet (fail)
      go_wp2_with fail
      go_ret
      exact ⟨by rw [HR.out]; rfl, HT1.out.drewN _⟩
    | true =>
      cases b5 with
      | false =>
        go_enter Tryz.func159, Tryz.ntmps159
        go_wp2_with fail
        have ht1 : Touch [] w (w.alloc (.cells #[.int .u64 (r0 : Int), .int .u64 (r1 : Int), .int .u64 (r2 : Int), .int .u64 (r3 : Int)] 176)) := (Touch.refl [] w).alloc _
        have cb := fun i => cell_row (heap_alloc_new w (.cells #[.int .u64 (r0 : Int), .int .u64 (r1 : Int), .int .u64 (r2 : Int), .int .u64 (r3 : Int)] 176)) i
        have cc := fun i => (ht1.cell (p := ⟨tb, i, none⟩) hlt (by simp)).trans (c i)
        generalize w.alloc (.cells #[.int .u64 (r0 : Int), .int .u64 (r1 : Int), .int .u64 (r2 : Int), .int .u64 (r3 : Int)] 176) = W1 at *
        generalize w.heap.size = bx at *
        have HT1 := hid ht1
        clear ht1 c hlt
        go_quiet (fail)
        go_wp2_with fail
        go_ret
        exact ⟨by rw [HR.out]; rfl, HT1.out.drewN _⟩
      | true =>
        go_enter Tryz.func159, Tryz.ntmps159
        go_wp2_with fail
        have ht1 : Touch [] w (w.alloc (.cells #[.int .u64 (r0 : Int), .int .u64 (r1 : Int), .int .u64 (r2 : Int), .int .u64 (r3 : Int)] 176)) := (Touch.refl [] w).alloc _
        have cb := fun i => cell_row (heap_alloc_new w (.cells #[.int .u64 (r0 : Int), .int .u64 (r1 : Int), .int .u64 (r2 : Int), .int .u64 (r3 : Int)] 176)) i
        have cc := fun i => (ht1.cell (p := ⟨tb, i, none⟩) hlt (by simp)).trans (c i)
        generalize w.alloc (.cells #[.int .u64 (r0 : Int), .int .u64 (r1 : Int), .int .u64 (r2 : Int), .int .u64 (r3 : Int)] 176) = W1 at *
        generalize w.heap.size = bx at *
        have HT1 := hid ht1
        clear ht1 c hlt
        go_quiet (fail)
        go_wp2_with fail
        go_ret
        exact ⟨by rw [HR.out]; rfl, HT1.out.drewN _⟩
end
end Go.Proofs.YthehcjjckabljaaGreatDoor
/-
  take: the next record.
-/
namespace Go.Proofs.YthehcjjckabljaaGreatDoor
open Go.RowKit Go.Deep
set_option maxRecDepth 100000
set_option linter.unusedSimpArgs false
set_option linter.unusedVariables false

theorem infoPair : (Tryz.prog.info? 240).map (fun i => (i.zero, i.size, i.bytes)) = some (some (.agg #[.int .u64 0, .int .u64 0]), 2, 16) := by kernel_rfl

/-- append of one pair, as a step of a region that draws. -/
theorem step_pair {ops : Array Oper} {o : Oper} {a : Act} {w : World} {K : Act → World → Prop} {Q : Exit → Act → World → Prop} {X : Prop}
    (hg : o.guard = none) (s x : Operand) (hop : o.op = Op.call { callee := Callee.builtin Builtin.append, args := #[s, x], argTypes := #[184, 184] })
    (v : Value) (n : Nat) (xs : List Value) (b : Nat) (c0 c1 : Value) (hs : a.eval s = v) (hx : a.eval x = .slice (some ⟨b, 0, none⟩) 1 1) (hown : w.ownsRow 0 240 2 v n xs) (hb : w.heap[b]? = some (.cells #[c0, c1] 240 (0, 0))) (h0 : c0.oneCell' = true) (h1 : c1.oneCell' = true) (hn : n ≤ 1099511627776)
    (hK : ∀ g cap w', w'.ownsRow 0 240 2 (.slice (some ⟨g, 0, none⟩) (n + 1) cap) (n + 1) (xs ++ [c0, c1]) → w.grownBy w' v.ownBlock → (v.ownBlock = some g ∨ g = w.heap.size) → g < w'.heap.size → K (a.put o.dst (.slice (some ⟨g, 0, none⟩) (n + 1) cap)) w') :
    if Region.wanted o (yielded ops a.tmps) = true then Oper.wp Tryz.prog o a w K Q else X := by
  obtain ⟨i, hi, hz0, hz1, hz2⟩ := info_parts infoPair
  have hnews : ∀ j u, [c0, c1][j]? = some u → w.cell? ((⟨b, 0, none⟩ : Addr).add j) = some u := by
    intro j u hu
    have hadd : (⟨b, 0, none⟩ : Addr).add j = ⟨b, j, none⟩ := by unfold Addr.add; split <;> simp_all
    rw [hadd, cell_row hb j]
    simpa using hu
  exact step_append_lies (P := Tryz.prog) w hg s x 184 hop 0 240 i _ 2 16 Tryz.underlying184 hi hz0 hz1 hz2 rfl (by decide) v n xs hs hown ⟨b, 0, none⟩ 1 1 [c0, c1] hx rfl hnews (by simp [h0, h1]) (by decide) (by unfold maxLen; omega) (by omega) (Nat.zero_le _) _ rfl hK

section
variable {w w' : World} {tb : Nat} {gl : List Nat} {t : Told}

theorem Told.take_none {t : Told} {r : Rc} (h : t.none = true) : t.take r = t := by unfold Told.take; rw [if_pos h]
theorem Told.take_end {t : Told} {r : Rc} (h : t.none = false) (h1 : t.fin.1 = 18446744073709551615) : t.take r = .bad := by unfold Told.take; rw [if_neg (by simp [h]), if_pos h1]
theorem Told.take_mark {t : Told} {r : Rc} (h : t.none = false) (h1 : t.fin.1 ≠ 18446744073709551615) (h2 : r.1 = 18446744073709551615) : t.take r = { t with fin := r } := by unfold Told.take; rw [if_neg (by simp [h]), if_neg h1, if_pos h2]
theorem Told.take_level {t : Told} {r : Rc} (h : t.none = false) (h1 : t.fin.1 ≠ 18446744073709551615) (h2 : r.1 ≠ 18446744073709551615) (h3 : isLevelB t r = true) : t.take r = { t with levels := t.levels + 1, list := t.list ++ [(r.1, r.2.1)] } := by unfold Told.take; rw [if_neg (by simp [h]), if_neg h1, if_neg h2, if_pos h3]
theorem Told.take_row {t : Told} {r : Rc} (h : t.none = false) (h1 : t.fin.1 ≠ 18446744073709551615) (h2 : r.1 ≠ 18446744073709551615) (h3 : isLevelB t r = false) (h4 : isRowB t r = true) : t.take r = { t with list := t.list ++ [(r.1, r.2.1)] } := by unfold Told.take; rw [if_neg (by simp [h]), if_neg h1, if_neg h2, if_neg (by simp [h3]), if_pos h4]
theorem Told.take_bad {t : Told} {r : Rc} (h : t.none = false) (h1 : t.fin.1 ≠ 18446744073709551615) (h2 : r.1 ≠ 18446744073709551615) (h3 : isLevelB t r = false) (h4 : isRowB t r = false) : t.take r = .bad := by unfold Told.take; rw [if_neg (by simp [h]), if_neg h1, if_neg h2, if_neg (by simp [h3]), if_neg (by simp [h4])]

theorem ToldAt.touch {G : List Nat} (h : ToldAt w tb gl t) (ht : Touch G w w') (h1 : tb ∉ G) (h2 : ∀ x ∈ gl, x ∉ G) : ToldAt w' tb gl t := by
  obtain ⟨v, hb, hown, rfl, h4⟩ := h
  refine ⟨v, (ht.block tb (lt_of_block hb) h1).trans hb, ⟨hown.1, ?_⟩, rfl, h4⟩
  rcases hown.2 with hn | ⟨g, cap, cur, rfl, hb', hg, rest⟩
  · exact .inl hn
  · exact .inr ⟨g, cap, cur, rfl, hb', (ht.block g (lt_of_block hg) (h2 g (by simp [Value.ownBlock]))).trans hg, rest⟩

theorem own_touch {F : List Nat} {v : Value} {n : Nat} {xs : List Value} (h : w.ownsRow 0 240 2 v n xs) (ht : Touch F w w') (hF : ∀ x, v.ownBlock = some x → x ∉ F) : w'.ownsRow 0 240 2 v n xs := by
  refine ⟨h.1, ?_⟩
  rcases h.2 with hn | ⟨g, cap, cur, rfl, hb, hg, rest⟩
  · exact .inl hn
  · exact .inr ⟨g, cap, cur, rfl, hb, (ht.block g (lt_of_block hg) (hF g rfl)).trans hg, rest⟩
/-- what take makes of it. -/
def Took (w w' : World) (tb : Nat) (gl : List Nat) (t : Told) : Prop := ∃ gl', ToldAt w' tb gl' t ∧ Touch (tb :: gl) w w' ∧ ∀ y ∈ gl', y ∈ gl ∨ w.heap.size ≤ y

theorem told_set7 {a0 a1 a2 a3 a4 a5 a6 : Value} (hb : w.heap[tb]? = some (.cells #[a0, a1, a2, a3, a4, a5, a6] 186 (0, 0))) (v0 v1 v2 v3 v4 v5 v6 : Value) :
    (((((((w.setCell ⟨tb, 0, none⟩ v0).setCell ⟨tb, 1, none⟩ v1).setCell ⟨tb, 2, none⟩ v2).setCell ⟨tb, 3, none⟩ v3).setCell ⟨tb, 4, none⟩ v4).setCell ⟨tb, 5, none⟩ v5).setCell ⟨tb, 6, none⟩ v6).heap[tb]? = some (.cells #[v0, v1, v2, v3, v4, v5, v6] 186 (0, 0)) := by
  rw [heap_setCell_row (heap_setCell_row (heap_setCell_row (heap_setCell_row (heap_setCell_row (heap_setCell_row (heap_setCell_row hb 0 v0) 1 v1) 2 v2) 3 v3) 4 v4) 5 v5) 6 v6]
  simp
theorem told_set4 {a0 a1 a2 a3 a4 a5 a6 : Value} (hb : w.heap[tb]? = some (.cells #[a0, a1, a2, a3, a4, a5, a6] 186 (0, 0))) (v2 v3 v4 v5 : Value) :
    ((((w.setCell ⟨tb, 2, none⟩ v2).setCell ⟨tb, 3, none⟩ v3).setCell ⟨tb, 4, none⟩ v4).setCell ⟨tb, 5, none⟩ v5).heap[tb]? = some (.cells #[a0, a1, v2, v3, v4, v5, a6] 186 (0, 0)) := by
  rw [heap_setCell_row (heap_setCell_row (heap_setCell_row (heap_setCell_row hb 2 v2) 3 v3) 4 v4) 5 v5]
  simp
theorem told_set1 {a0 a1 a2 a3 a4 a5 a6 : Value} (hb : w.heap[tb]? = some (.cells #[a0, a1, a2, a3, a4, a5, a6] 186 (0, 0))) (v1 : Value) :
    (w.setCell ⟨tb, 1, none⟩ v1).heap[tb]? = some (.cells #[a0, v1, a2, a3, a4, a5, a6] 186 (0, 0)) := by
  rw [heap_setCell_row hb 1 v1]
  simp
theorem told_set0 {a0 a1 a2 a3 a4 a5 a6 : Value} (hb : w.heap[tb]? = some (.cells #[a0, a1, a2, a3, a4, a5, a6] 186 (0, 0))) (v0 : Value) :
    (w.setCell ⟨tb, 0, none⟩ v0).heap[tb]? = some (.cells #[v0, a1, a2, a3, a4, a5, a6] 186 (0, 0)) := by
  rw [heap_setCell_row hb 0 v0]
  simp
/-- no table's. -/
theorem told_badW (hw : w'.heap[tb]? = some (.cells #[.slice none 0 0, .int .i64 0, .int .u64 0, .int .u64 0, .int .u64 0, .int .u64 0, .bool true] 186 (0, 0))) (ht : Touch [tb] w w') : Took w w' tb gl .bad :=
  ⟨[], ⟨.slice none 0 0, hw, World.ownsRow_nil _ _ _ _, rfl, by simp⟩, ht.mono (by simp), by simp⟩

set_option maxHeartbeats 2000000 in
theorem take_none_any (h : ToldAt w tb gl t) (ho : t.Ok) (r : Rc) (hn : t.none = true) :
    Calls Tryz.prog 109 #[ptr tb, r.val] w fun e w' => e = .returned (.tuple #[]) ∧ Took w w' tb gl (t.take r) := by
  rw [Told.take_none hn]
  have HH := hid h
  obtain ⟨v, hb, hown, -, -⟩ := h
  have hlt := lt_of_block hb
  have c := fun i => cell_row hb i
  obtain ⟨r0, r1, r2, r3⟩ := r
  simp only [Rc.val, recV, hn] at *
  clear hown hb ho
  go_enter Tryz.func109, Tryz.ntmps109
  go_wp2_with fail
  go_end0
  exact ⟨rfl, gl, HH.out.touch ((Touch.refl [] _).alloc _) (by simp) (by simp), (Touch.refl _ _).alloc _, fun y hy => .inl hy⟩
set_option maxHeartbeats 2000000 in
theorem take_end_any (h : ToldAt w tb gl t) (ho : t.Ok) (r : Rc) (hn : t.none = false) (h1 : t.fin.1 = 18446744073709551615) :
    Calls Tryz.prog 109 #[ptr tb, r.val] w fun e w' => e = .returned (.tuple #[]) ∧ Took w w' tb gl (t.take r) := by
  rw [Told.take_end hn h1]
  obtain ⟨v, hb, hown, -, -⟩ := h
  have hlt := lt_of_block hb
  have c := fun i => cell_row hb i
  have u := fun i => unfrozen_row hb i
  have HB := hid hb
  obtain ⟨r0, r1, r2, r3⟩ := r
  have h1i : ((t.fin.1 : Nat) : Int) = 18446744073709551615 := by omega
  simp only [Rc.val, recV, hn, h1i] at *
  clear hown hb ho h1 h1i
  go_enter Tryz.func109, Tryz.ntmps109
  go_wp2_with fail
  go_end0
  refine ⟨rfl, ?_⟩
  have t7 : Touch [tb] w (((((((w.setCell ⟨tb, 0, none⟩ (.slice none 0 0)).setCell ⟨tb, 1, none⟩ (.int .i64 0)).setCell ⟨tb, 2, none⟩ (.int .u64 0)).setCell ⟨tb, 3, none⟩ (.int .u64 0)).setCell ⟨tb, 4, none⟩ (.int .u64 0)).setCell ⟨tb, 5, none⟩ (.int .u64 0)).setCell ⟨tb, 6, none⟩ (.bool true)) :=
    (((((((Touch.refl [tb] w).setCell (by simp) _).setCell (by simp) _).setCell (by simp) _).setCell (by simp) _).setCell (by simp) _).setCell (by simp) _).setCell (by simp) _
  have h7 := told_set7 HB.out (.slice none 0 0) (.int .i64 0) (.int .u64 0) (.int .u64 0) (.int .u64 0) (.int .u64 0) (.bool true)
  exact told_badW ((Below.heap_alloc _ _ tb (lt_of_block h7)).trans h7) (t7.alloc _)
set_option maxHeartbeats 2000000 in
theorem take_mark_any (h : ToldAt w tb gl t) (ho : t.Ok) (r : Rc) (hn : t.none = false) (h1 : t.fin.1 ≠ 18446744073709551615) (h2 : r.1 = 18446744073709551615) :
    Calls Tryz.prog 109 #[ptr tb, r.val] w fun e w' => e = .returned (.tuple #[]) ∧ Took w w' tb gl (t.take r) := by
  rw [Told.take_mark hn h1 h2]
  have HH := hid h
  obtain ⟨v, hb, hown, hgl, htg⟩ := h
  have hlt := lt_of_block hb
  have c := fun i => cell_row hb i
  have u := fun i => unfrozen_row hb i
  obtain ⟨r0, r1, r2, r3⟩ := r
  have h1i : (((t.fin.1 : Nat) : Int) == 18446744073709551615) = false := by simp; omega
  have h2i : ((r0 : Nat) : Int) = 18446744073709551615 := by simp only at h2; omega
  obtain ⟨list, levels, fin, no⟩ := t
  obtain ⟨f0, f1, f2, f3⟩ := fin
  simp only at hn h1 h2 h1i
  subst hn
  simp only [Rc.val, recV] at *
  have HB := hid hb
  have HO := hid hown
  have HG := hid (And.intro hgl htg)
  have HR := hid h2i
  rw [h2i]
  clear hown hb ho h1 h2 hgl htg
  go_enter Tryz.func109, Tryz.ntmps109
  go_wp2_with fail
  go_end0
  refine ⟨rfl, ?_⟩
  have t4 : Touch [tb] w ((((w.setCell ⟨tb, 2, none⟩ (.int .u64 18446744073709551615)).setCell ⟨tb, 3, none⟩ (.int .u64 (r1 : Int))).setCell ⟨tb, 4, none⟩ (.int .u64 (r2 : Int))).setCell ⟨tb, 5, none⟩ (.int .u64 (r3 : Int))) :=
    ((((Touch.refl [tb] w).setCell (by simp) _).setCell (by simp) _).setCell (by simp) _).setCell (by simp) _
  have h4 := told_set4 HB.out (.int .u64 18446744073709551615) (.int .u64 (r1 : Int)) (.int .u64 (r2 : Int)) (.int .u64 (r3 : Int))
  have t5 := t4.alloc (.cells #[.int .u64 18446744073709551615, .int .u64 (r1 : Int), .int .u64 (r2 : Int), .int .u64 (r3 : Int)] 176)
  have h5 := (Below.heap_alloc _ (.cells #[.int .u64 18446744073709551615, .int .u64 (r1 : Int), .int .u64 (r2 : Int), .int .u64 (r3 : Int)] 176) tb (lt_of_block h4)).trans h4
  refine ⟨gl, ⟨v, by simp only [HR.out]; exact h5, own_touch HO.out t5 (fun x hx => ?_), HG.out.1, HG.out.2⟩, t5.mono (by simp), fun y hy => .inl hy⟩
  have h6 := HG.out.2
  rw [HG.out.1, hx] at h6
  simp at h6 ⊢
  exact fun e => h6 e.symm
end
end Go.Proofs.YthehcjjckabljaaGreatDoor
/-
  take: a level, a row, none of them.
-/
namespace Go.Proofs.YthehcjjckabljaaGreatDoor
open Go.RowKit Go.Deep
set_option maxRecDepth 100000
set_option linter.unusedSimpArgs false
set_option linter.unusedVariables false

section
variable {w w' : World} {tb : Nat} {gl : List Nat} {t : Told}

set_option maxHeartbeats 2000000 in
theorem take_bad_any (h : ToldAt w tb gl t) (ho : t.Ok) (r : Rc) (hn : t.none = false) (h1 : t.fin.1 ≠ 18446744073709551615) (h2 : r.1 ≠ 18446744073709551615) (h3 : isLevelB t r = false) (h4 : isRowB t r = false) :
    Calls Tryz.prog 109 #[ptr tb, r.val] w fun e w' => e = .returned (.tuple #[]) ∧ Took w w' tb gl (t.take r) := by
  rw [Told.take_bad hn h1 h2 h3 h4]
  have HH := hid h
  have HL := hid (fun W (ht : Touch [] w W) => isLevel_any (h.touch ht (by simp) (by simp)) ho r)
  have HRW := hid (fun W (ht : Touch [] w W) => isRow_any (h.touch ht (by simp) (by simp)) ho r)
  obtain ⟨v, hb, hown, hgl, htg⟩ := h
  have hlt := lt_of_block hb
  have c := fun i => cell_row hb i
  have hlv := ho.lv
  have hlen := ho.len
  obtain ⟨r0, r1, r2, r3⟩ := r
  obtain ⟨list, levels, fin, no⟩ := t
  obtain ⟨f0, f1, f2, f3⟩ := fin
  simp only at hn h1 h2
  have h1i : (((f0 : Nat) : Int) == 18446744073709551615) = false := by simp; omega
  have h2i : (((r0 : Nat) : Int) == 18446744073709551615) = false := by simp; omega
  subst hn
  have hL := h3
  have hR := h4
  clear h3 h4
  rw [hL] at HL; rw [hR] at HRW
  simp only [Rc.val, recV] at *
  have HB := hid hb
  have HO := hid hown
  have HG := hid (And.intro hgl htg)
  have HT1 := hid ((Touch.refl [] w).alloc (.cells #[.int .u64 (r0 : Int), .int .u64 (r1 : Int), .int .u64 (r2 : Int), .int .u64 (r3 : Int)] 176))
  have HBX := hid (heap_alloc_new w (.cells #[.int .u64 (r0 : Int), .int .u64 (r1 : Int), .int .u64 (r2 : Int), .int .u64 (r3 : Int)] 176))
  have HWS := hid (fun W (ht : Touch [] (w.alloc (.cells #[.int .u64 (r0 : Int), .int .u64 (r1 : Int), .int .u64 (r2 : Int), .int .u64 (r3 : Int)] 176)) W) => And.intro ((ht.block w.heap.size (lt_of_block HBX.out) (by simp)).trans HBX.out) (((HT1.out.trans ht (by simp)).block tb (lt_of_block HB.out) (by simp)).trans HB.out))
  clear hown hb ho h1 h2 hgl htg hL hR
  go_enter Tryz.func109, Tryz.ntmps109
  go_wp2_with (first
    | (go_at_call 159; refine (HRW.out _ HT2.out).mono ?_; rintro e w3 ⟨rfl, ht3⟩; have HT3 := hid (HT2.out.trans ht3 (by simp)); have HA3 := hid (HA2.out.trans ht3 (by simp)); obtain ⟨hx3, hb3⟩ := HWS.out _ HA3.out; have c3 := (fun i => cell_row hb3 i); have u3 := (fun i => unfrozen_row hb3 i); have x3 := (fun i => cell_row hx3 i); have HB3 := hid hb3; have HX3 := hid hx3; clear hb3 hx3 ht3)
    | (go_at_call 158; refine (HL.out _ HT1.out).mono ?_; rintro e w2 ⟨rfl, ht2⟩; have HT2 := hid (HT1.out.trans ht2 (by simp)); have HA2 := hid ht2; obtain ⟨hx2, hb2⟩ := HWS.out _ ht2; have c2 := (fun i => cell_row hb2 i); have u2 := (fun i => unfrozen_row hb2 i); have x2 := (fun i => cell_row hx2 i); have HB2 := hid hb2; have HX2 := hid hx2; clear hb2 hx2 ht2))
  go_end0
  refine ⟨rfl, ?_⟩
  have h7 := told_set7 HB3.out (.slice none 0 0) (.int .i64 0) (.int .u64 0) (.int .u64 0) (.int .u64 0) (.int .u64 0) (.bool true)
  exact told_badW h7 ((((((((HT3.out.mono (by simp)).setCell (by simp) _).setCell (by simp) _).setCell (by simp) _).setCell (by simp) _).setCell (by simp) _).setCell (by simp) _).setCell (by simp) _)
end
end Go.Proofs.YthehcjjckabljaaGreatDoor
