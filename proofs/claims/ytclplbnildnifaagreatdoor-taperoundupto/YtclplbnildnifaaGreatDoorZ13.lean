import Derived.RangeFuncNested
import Derived.RangeFuncBound
import Derived.RangeFuncCalls
import Derived.RangeFuncLeaves
import Derived.TacticsInMore
import Derived.OwnWalkIn
import Derived.Shelf.RegionOpen
import Derived.Test.YtclplbnildnifaaGreatDoorZ12
/-
  The last record, and how many there are, at the desk at rest.
-/
namespace Go.Proofs.YtclplbnildnifaaGreatDoor
open Go.RowKit Go.Deep
set_option linter.unusedSimpArgs false
set_option linter.unusedVariables false

section
variable {W W2 : World} {b : Bn} {k kb K B kind z : Nat} {bs : List (List UInt8)} {sa : Srco} {l : List Rc} {c r : Int}

theorem Hom.went {k' : Nat} {F : List Nat} {s : Pu.St} {A : PubA} {n : Nat} {c' r' : Int} {w' : World} (S : Stand W b n A s F) (hi : Idle s K) (hp : s.peak = (K : Int)) (hk : DeskAt W kb b (K : Int) 1) (hkF : kb ∉ F) (hlk : b.lo ≤ kb) (hr : KeepO W b.lo F sa l) (t : Touch [] W W2) (h : Went W2 w' b k' (mkA B true bs c' r') ((s.take (K : Int)).give (K : Int)) F []) : Hom w' b k' kb K B bs sa l c' r' := by
  obtain ⟨F', S', t', f⟩ := h
  refine ⟨F', _, S', hi.back, by rw [hi.peak, hp]; simp, (hk.touch t (by simp)).touch t' (by simpa using hkF), fun hx => ?_, hlk, (hr.quiet t).touch t' (fun y hy => S.base y (by simpa using hy)) (fun y hy => by simpa using hy) (fun y hy => f y hy)⟩
  rcases f _ hx with h | h
  · exact hkF h
  · have := lt_of_block hk; have := t.size; omega

theorem tap_last (C : Tap b K B kind bs l) (hz : z < l.length) (hz1 : z + 1 = l.length) : ∃ u a, u + 1 = bs.length ∧ chunk K u l = a ++ [l[z]] ∧ (chunk K u l).length ≤ K ∧ u * K + (chunk K u l).length = l.length := by
  have h0 : 0 < bs.length := by
    rcases Nat.eq_zero_or_pos bs.length with h | h
    · have := C.all; rw [h] at this; omega
    · exact h
  obtain rfl : z = l.length - 1 := by omega
  obtain ⟨a, h1, h2, h3⟩ := last_chunk (l := l) (v := bs.length - 1) C.hK.1 (by have := C.m; omega) (by omega)
  exact ⟨bs.length - 1, a, by omega, h1, h2, h3⟩
theorem Tap.none (C : Tap b K B kind bs l) (h : l.length = 0) : bs.length = 0 := by
  rcases Nat.eq_zero_or_pos bs.length with h' | h'
  · exact h'
  · have := C.lt h'; omega

theorem hom_last_ok (h : Hom W b k kb K B bs sa l c r) (C : Tap b K B kind bs l) (hk : k < 549755813888) (hz : z < l.length) (hz1 : z + 1 = l.length) :
    Calls Tryz.prog 16 #[ptr kb, .string nmA, .int .i64 (kind : Int)] W fun e w' => e = .returned (.tuple #[(l[z]).val, .bool true, .int .i64 0]) ∧ Hom w' b (k + 1) kb K B bs sa l (c + 1) (r + 1) := by
  obtain ⟨F, s, S, hi, hp, hkk, hkF, hlk, hr⟩ := h.x
  obtain ⟨u, a, hu, h1, h2, h3⟩ := tap_last C hz hz1
  exact (last_ok (kind := kind) S hk hkk hkF C.nil C.hB C.hK C.k1 C.k2 hi hu C.few (C.good u (by omega)) h1 h2 (C.read (by omega))).mono fun e w' ⟨e1, hw⟩ => ⟨e1, Hom.went S hi hp hkk hkF hlk hr (Touch.refl [] W) hw⟩
theorem hom_size_ok (h : Hom W b k kb K B bs sa l c r) (C : Tap b K B kind bs l) (hk : k < 549755813888) (hz : z < l.length) (hz1 : z + 1 = l.length) (t : Touch [] W W2) (hs : W.heap.size < W2.heap.size) :
    Calls Tryz.prog 17 #[ptr kb, .string nmA, .int .i64 (kind : Int)] W2 fun e w' => e = .returned (.tuple #[.int .i64 (l.length : Int), .int .i64 0]) ∧ Hom w' b (k + 1) kb K B bs sa l (c + 1) (r + 1) ∧ w'.heap[W.heap.size]? = W2.heap[W.heap.size]? := by
  obtain ⟨F, s, S, hi, hp, hkk, hkF, hlk, hr⟩ := h.x
  obtain ⟨u, a, hu, h1, h2, h3⟩ := tap_last C hz hz1
  have H := (size_ok (kind := kind) (S.quiet t) hk (hkk.touch t (by simp)) hkF C.nil C.hB C.hK C.k1 C.k2 hi hu C.few (C.good u (by omega)) h1 h2 (C.read (by omega)))
  rw [show bs.length - 1 = u by omega, h3] at H
  refine H.mono fun e w' ⟨e1, hw⟩ => ⟨e1, Hom.went S hi hp hkk hkF hlk hr t hw, ?_⟩
  obtain ⟨F', S', t', f⟩ := hw
  exact t'.block _ hs (by simp; exact fun hx => Nat.lt_irrefl _ (S.lt _ hx))

theorem hom_last_nil (h : Hom W b k kb K B bs sa l c r) (C : Tap b K B kind bs l) (hk : k < 549755813888) (h0 : l.length = 0) :
    Calls Tryz.prog 16 #[ptr kb, .string nmA, .int .i64 (kind : Int)] W fun e w' => e = .returned (.tuple #[zeroR, .bool false, .int .i64 0]) ∧ Hom w' b k kb K B bs sa l c r := by
  obtain ⟨F, s, S, hi, hp, hkk, hkF, hlk, hr⟩ := h.x
  have hb0 := C.none h0
  have hk1 := C.k1
  have hk2 := C.k2
  refine (Last_of (T := 1) (r := (0, 0, 0, 0)) (sm := false) (er := 0) (n2 := k) (A2 := mkA B true bs c r) S (by omega) hkk hkF (hold_mk (by omega) hi.leave) fun w1 F1 rb S1 hk1' hkF1 hrF1 hlo hne hrow => ?_).mono fun e w' ⟨e1, hw⟩ => ⟨e1, Hom.went S hi hp hkk hkF hlk hr (Touch.refl [] W) hw⟩
  rw [rfresh_eq, hb0] at hrow
  exact (Next_no fun W1 t1 => Peek_end (x := nmA) (kb := kb) (o := none) (c := 0) (blocks := 0) ((t1.block rb (lt_of_block hrow) (by simp)).trans hrow)).mono fun e w' ⟨e1, t1⟩ => ⟨e1, (Went.quiet S1 t1).mono (by simp), _, _, _, _, (t1.block rb (lt_of_block hrow) (by simp)).trans hrow⟩
theorem hom_size_nil (h : Hom W b k kb K B bs sa l c r) (C : Tap b K B kind bs l) (hk : k < 549755813888) (h0 : l.length = 0) :
    Calls Tryz.prog 17 #[ptr kb, .string nmA, .int .i64 (kind : Int)] W fun e w' => e = .returned (.tuple #[.int .i64 0, .int .i64 0]) ∧ Hom w' b k kb K B bs sa l c r := by
  obtain ⟨F, s, S, hi, hp, hkk, hkF, hlk, hr⟩ := h.x
  have hb0 := C.none h0
  have hk1 := C.k1
  have hk2 := C.k2
  refine (Size_no (T := 1) (er := 0) (n2 := k) (A2 := mkA B true bs c r) S (by omega) hkk hkF (hold_mk (by omega) hi.leave) fun w1 F1 rb S1 hk1' hkF1 hrF1 hlo hne hrow => ?_).mono fun e w' ⟨e1, hw⟩ => ⟨e1, Hom.went S hi hp hkk hkF hlk hr (Touch.refl [] W) hw⟩
  rw [rfresh_eq, hb0] at hrow
  exact (Peek_end (x := nmA) (kb := kb) (o := none) (c := 0) (blocks := 0) hrow).mono fun e w' ⟨e1, t1⟩ => ⟨e1, (Went.quiet S1 t1).mono (by simp), _, _, _, _, (t1.block rb (lt_of_block hrow) (by simp)).trans hrow⟩
end
end Go.Proofs.YtclplbnildnifaaGreatDoor
/-
  ends.
-/
namespace Go.Proofs.YtclplbnildnifaaGreatDoor
open Go.RowKit Go.Deep
set_option linter.unusedSimpArgs false
set_option linter.unusedVariables false

/-- how many blocks a call of Last or Size reads. -/
def fewN (n : Nat) : Nat := if n = 0 then 0 else 1

section
variable {W : World} {b : Bn} {k kb K B kind : Nat} {bs : List (List UInt8)} {sa : Option Addr} {w0 : World} {O : List (Nat × Obj)} {l : List Rc} {c r : Int} {cp : Nat}

set_option maxRecDepth 100000 in
set_option maxHeartbeats 4000000 in
theorem ends_any (h : Hom W b k kb K B bs ⟨⟨sa, w0⟩, O⟩ l c r) (C : Tap b K B kind bs l) (hk : k < 549755000000) :
    Calls Tryz.prog 22 #[ptr kb, .int .i64 (kind : Int), .slice sa l.length cp] W fun e w' => e = .returned (.bool true) ∧ Hom w' b (k + 2) kb K B bs ⟨⟨sa, w0⟩, O⟩ l (c + 2 * (fewN bs.length : Int)) (r + 2 * (fewN bs.length : Int)) := by
  have hl := C.len
  by_cases h0 : l.length = 0
  · have hb0 := C.none h0
    have hf : fewN bs.length = 0 := by unfold fewN; rw [if_pos hb0]
    have hd0 : ((l.length : Int) == 0) = true := by simp [h0]
    have hd1 : (l.length : Int) = 0 := by omega
    have HLA := hid (hom_last_nil h C (by omega) h0)
    have HC := hid C
    have H0 := hid h0
    have HF := hid hf
    clear h C h0 hb0 hf
    go_enter Tryz.func22, Tryz.ntmps22
    go_wp2_with (go_at_call 16; refine HLA.out.mono ?_; rintro e w9 ⟨rfl, hh⟩; have HH9 := hid hh; clear hh)
    refine (hom_size_nil (HH9.out.quiet ((Touch.refl [] w9).alloc _)) HC.out (by omega) H0.out).mono ?_
    rintro e w11 ⟨rfl, hh⟩
    have HH := hid hh
    clear hh
    go_wp2_with fail
    go_quiet (fail)
    go_wp2_with fail
    go_ret
    refine ⟨rfl, ?_⟩
    rw [HF.out]
    simpa using (HH.out.quiet ((Touch.refl [] w11).drewN nq)).mono (show k ≤ k + 2 by omega)
  · obtain ⟨z, hz⟩ : ∃ z, z + 1 = l.length := ⟨l.length - 1, by omega⟩
    have hzl : z < l.length := by omega
    have hf : fewN bs.length = 1 := by
      unfold fewN
      rw [if_neg]
      intro hb
      have := C.all
      rw [hb] at this
      omega
    have hd1 : ¬ (l.length : Int) = 0 := by omega
    have hd0 : ((l.length : Int) == 0) = false := beq_eq_false_iff_ne.2 hd1
    have hd2 : decide ((0 : Int) < (l.length : Int)) = true := decide_eq_true (by omega)
    have hzi : (l.length : Int) - 1 = (z : Int) := by omega
    have hd3 : 0 < l.length := by omega
    have HLA := hid (hom_last_ok h C (by omega) hzl hz)
    have HC := hid C
    have HZ := hid hz
    have HF := hid hf
    clear h C hz hf h0
    go_enter Tryz.func22, Tryz.ntmps22
    go_wp2_with (go_at_call 16; refine HLA.out.mono ?_; rintro e w9 ⟨rfl, hh⟩; have HH9 := hid hh; clear hh)
    obtain ⟨W10, hW10⟩ : ∃ W10, W10 = w9.alloc (.cells #[.int .u64 (l[z].1 : Int), .int .u64 (l[z].2.1 : Int), .int .u64 (l[z].2.2.1 : Int), .int .u64 (l[z].2.2.2 : Int)] 38) := ⟨_, rfl⟩
    have hb : W10.heap[w9.heap.size]? = some (.cells #[.int .u64 (l[z].1 : Int), .int .u64 (l[z].2.1 : Int), .int .u64 (l[z].2.2.1 : Int), .int .u64 (l[z].2.2.2 : Int)] 38) := by rw [hW10]; exact heap_alloc_new w9 _
    rw [← hW10]
    have HSZ := hid (hom_size_ok (W2 := W10) HH9.out HC.out (by omega) hzl HZ.out (by rw [hW10]; exact (Touch.refl [] w9).alloc _) (lt_of_block hb))
    refine HSZ.out.mono ?_
    rintro e w11 ⟨rfl, hh11, hkeep⟩
    have hb11 := hkeep.trans hb
    have q0 := cell_row hb11 0
    have q1 := cell_row hb11 1
    have q2 := cell_row hb11 2
    have q3 := cell_row hb11 3
    simp only [List.getElem?_toArray, List.getElem?_cons_zero, List.getElem?_cons_succ] at q0 q1 q2 q3
    have HH11 := hid hh11
    generalize w9.heap.size = ob at q0 q1 q2 q3 ⊢
    clear hW10 hb hkeep hb11 hh11
    obtain ⟨a, rfl, _, hab, c0, c1, c2, c3⟩ := HH11.out.recs.recs.at_ z hzl
    have hki : (z : Int) < (l.length : Int) := by omega
    have hk0 : (0 : Int) ≤ (z : Int) := by omega
    have heq := eqs l[z]
    go_wp2_with fail
    go_quiet (fail)
    go_wp2_with fail
    go_ret
    refine ⟨rfl, ?_⟩
    rw [HF.out]
    have e1 : c + 2 * ((1 : Nat) : Int) = c + 1 + 1 := by omega
    have e2 : r + 2 * ((1 : Nat) : Int) = r + 1 + 1 := by omega
    rw [e1, e2]
    exact HH11.out.quiet ((Touch.refl [] w11).drewN nq)
end
end Go.Proofs.YtclplbnildnifaaGreatDoor
/-
  A pass forward by Next alone, with what stays beside it told (for the iterator).
-/
namespace Go.Proofs.YtclplbnildnifaaGreatDoor
open Go.RowKit Go.Deep
set_option linter.unusedSimpArgs false
set_option linter.unusedVariables false

structure RgI (W : World) (b : Bn) (n : Nat) (s : Pu.St) (F : List Nat) (g : Nat) (lv : Value) (kb rb kind K B : Nat) (bs : List (List UInt8)) (l : List Rc) (c0 r0 : Int) (i t : Nat) : Prop where
  S : Stand W b (n + t) (mkA B true bs (c0 + (t : Int)) (r0 + (t : Int))) s F
  gF : g ∉ F
  gr : g ≠ rb
  gl : g < W.heap.size
  go : b.lo ≤ g
  row : W.heap[rb]? = some (.cells (rrow kb nmA kind lv 0 false bs.length t) 106 (0, 0))
  ls : LsAt W g lv ((l.drop i).take (t * K - i))
  le : i ≤ t * K
  few : t ≤ bs.length
  near : t * K ≤ i + K

section
variable {W W' : World} {b : Bn} {n : Nat} {s : Pu.St} {F G : List Nat} {g kb rb kind K B : Nat} {lv : Value} {T : Int} {bs : List (List UInt8)} {l : List Rc} {i t : Nat} {c0 r0 : Int}

theorem RgI.touch (I : RgI W b n s F g lv kb rb kind K B bs l c0 r0 i t) (q : Touch G W W') (hG : ∀ y ∈ G, y ∉ F ∧ b.lo ≤ y ∧ y ≠ rb ∧ y ≠ g) : RgI W' b n s F g lv kb rb kind K B bs l c0 r0 i t :=
  ⟨I.S.touch q (fun y hy => ⟨(hG y hy).1, (hG y hy).2.1⟩), I.gF, I.gr, Nat.lt_of_lt_of_le I.gl q.size, I.go, (q.block rb (lt_of_block I.row) (fun h => (hG _ h).2.2.1 rfl)).trans I.row, I.ls.touch q (fun h => (hG _ h).2.2.2 rfl), I.le, I.few, I.near⟩

theorem rg_next (I : RgI W b n s F g lv kb rb kind K B bs l c0 r0 i t) (C : Tap b K B kind bs l) (hn : n < 549755813888) (hk : DeskAt W kb b (K : Int) T) (hkF : kb ∉ F) (hil : i < l.length) (hrF : rb ∉ F) (hlo : b.lo ≤ rb) (hne : rb ≠ kb) :
    Calls Tryz.prog 13 #[ptr rb] W fun e w' => e = .returned (.tuple #[(l[i]).val, .bool true, .int .i64 0]) ∧ ∃ F2 g2 lv2 t2, RgI w' b n s F2 g2 lv2 kb rb kind K B bs l c0 r0 (i + 1) t2 ∧ Touch (rb :: F) W w' ∧ (∀ y ∈ F2, y ∈ F ∨ W.heap.size ≤ y) ∧ (g2 = g ∨ W.heap.size ≤ g2) := by
  obtain ⟨S, n1, n2, n3, n4, row, ls, hle, hfew, hnear⟩ := I
  have hK := C.hK
  have hbf := C.few
  by_cases hlt : i < t * K
  · rw [take_cons hil hlt] at ls
    refine (Next_have row ls (by simp only [List.length_cons, List.length_take]; omega) n2 n3).mono fun e w' ⟨e1, t1, lv', r1, l1⟩ => ⟨e1, F, g, lv', t, ⟨S.touch t1 (fun y hy => ?_), n1, n2, Nat.lt_of_lt_of_le n3 t1.size, n4, r1, l1, hlt, hfew, by omega⟩, t1.mono (by simp), fun y hy => .inl hy, .inl rfl⟩
    simp at hy
    subst hy
    exact ⟨hrF, hlo⟩
  · have hit : i = t * K := by omega
    have htv : t < bs.length := by
      rcases Nat.lt_or_ge t bs.length with h | h
      · exact h
      · have h1 := C.all
        have h2 := Nat.mul_le_mul_right K h
        omega
    have h1 : (t + 1) * K = t * K + K := Nat.succ_mul t K
    obtain ⟨hc1, hc2, hc3⟩ := C.chunk htv
    have hch : chunk K t l = l[i] :: (l.drop (i + 1)).take ((t + 1) * K - (i + 1)) := by
      rw [← take_cons hil (show i < (t + 1) * K by omega)]
      unfold chunk
      rw [← hit, show (t + 1) * K - i = K by omega]
    have hg := C.read htv
    have hrd := read_mk (B := B) (c := c0 + (t : Int)) (r := r0 + (t : Int)) (bs := bs) (i := t) htv
    rw [C.good t htv] at hrd
    have htr : b.tr (mkA B true bs (c0 + (t : Int)) (r0 + (t : Int))) = noTr := tr_nil C.nil _
    have hlen0 : (LsAt W g lv []) := by
      have := ls
      rw [show t * K - i = 0 by omega] at this
      simpa using this
    obtain ⟨o, cc, hlv, _, _⟩ := hlen0.val
    simp only [List.length_nil] at hlv
    subst hlv
    have hrw' : rb < W.heap.size := lt_of_block row
    have N := Next_load (x := nmA) (kb := kb) S hrF hlo hrw' (kind := kind) (blocks := bs.length) (taken := t) (back := false) (n1 := n + t + 1) (A1 := mkA B true bs (c0 + (t : Int) + 1) (r0 + (t : Int) + 1)) (r := l[i]) (t := (l.drop (i + 1)).take ((t + 1) * K - (i + 1))) (by rw [← hch]; omega)
      (fun W1 t1 => Peek_load (x := nmA) (kb := kb) (S.quiet t1) (o := o) (c := cc) ((t1.block rb hrw' (by simp)).trans row) htv (by rw [← hch]; omega)
        (fun W2 t2 => by
          have L := load_ok (x := nmA) ((S.quiet t1).quiet t2) (by omega) (K := K) (fits_of C.hB C.hK) ((hk.touch t1 (by simp)).touch t2 (by simp)) hkF (kind := kind) (blocks := bs.length) (taken := t) (i := t) (lv := .slice o 0 cc) (dead := 0) ((t2.block rb (lt_of_block ((t1.block rb hrw' (by simp)).trans row)) (by simp)).trans ((t1.block rb hrw' (by simp)).trans row)) hrF hlo hne ⟨rfl, htv⟩ (by omega) C.k1 C.k2 (by rw [htr, hrd]) (by rw [htr, hrd]) hg.sum hg.formed hg.kind hg.place hg.count hg.words (by omega) hc3
          rw [htr, hrd, hch] at L
          exact L))
    refine N.mono fun e w' ⟨e1, g', lv', hW, hgr, r1, l1⟩ => ?_
    obtain ⟨F2, S2, t2, f2, hN⟩ := hW
    obtain ⟨g1, g2, g3⟩ := hN g' (by simp)
    refine ⟨e1, F2, g', lv', t + 1, ⟨?_, g1, hgr, g3, Nat.le_trans S.room g2, r1, l1, by omega, by omega, by omega⟩, t2.mono (by simp), f2, .inr g2⟩
    have e1 : c0 + ((t + 1 : Nat) : Int) = c0 + (t : Int) + 1 := by omega
    have e2 : r0 + ((t + 1 : Nat) : Int) = r0 + (t : Int) + 1 := by omega
    rw [e1, e2]
    exact S2

theorem rg_end (I : RgI W b n s F g lv kb rb kind K B bs l c0 r0 l.length t) (C : Tap b K B kind bs l) :
    t = bs.length ∧ Calls Tryz.prog 13 #[ptr rb] W fun e w' => e = .returned (.tuple #[zeroR, .bool false, .int .i64 0]) ∧ Touch [] W w' := by
  obtain ⟨S, n1, n2, n3, n4, row, ls, hle, hfew, hnear⟩ := I
  have ht : t = bs.length := by
    rcases Nat.lt_or_ge t bs.length with h | h
    · have := C.lt h; omega
    · omega
  subst ht
  refine ⟨rfl, ?_⟩
  have hlen0 : (LsAt W g lv []) := by
    have := ls
    rw [List.drop_length] at this
    simpa using this
  obtain ⟨o, cc, hlv, _, _⟩ := hlen0.val
  simp only [List.length_nil] at hlv
  subst hlv
  exact Next_no fun W1 t1 => Peek_end (o := o) (c := cc) ((t1.block rb (lt_of_block row) (by simp)).trans row)
end
end Go.Proofs.YtclplbnildnifaaGreatDoor
/-
  The iterator, at any loop body.
-/
namespace Go.Proofs.YtclplbnildnifaaGreatDoor
open Go.RowKit Go.Deep
set_option linter.unusedSimpArgs false
set_option linter.unusedVariables false

section
variable {w w' W : World} {b : Bn} {n : Nat} {A : PubA} {s : Pu.St} {F : List Nat} {kb rb : Nat} {K : Nat} {T : Int} {x : ByteArray}

set_option maxRecDepth 100000 in
set_option maxHeartbeats 4000000 in
theorem RClose_din (S : Stand w b n A s F) (hk : DeskAt w kb b K T) (hkF : kb ∉ F) {kind blocks taken : Nat} {lv : Value} {dead : Int} {back : Bool} (hrow : w.heap[rb]? = some (.cells (rrow kb x kind lv dead back blocks taken) 106 (0, 0))) (hrF : rb ∉ F) (hlo : b.lo ≤ rb) (hne : rb ≠ kb) (u : FrameMode) (m : Nat) :
    CallsDIn Fence.wide m Tryz.prog 14 #[ptr rb] u w fun e u' w' => u' = u ∧ (e = .returned (.int .i64 0) ∧ Went w w' b n A (s.give K) F [rb]) := by
  have HR := hid (release_any S hk hkF (hb := rb) (x := x) (kind := (kind : Int)) (lv := lv) (dead := dead) (cl := false) ⟨_, _, hrow, rfl, rfl, rfl, rfl, rfl, rfl⟩ hrF hlo hne)
  have c5 := cell_row hrow 5
  simp only [List.getElem?_toArray, List.getElem?_cons_zero, List.getElem?_cons_succ] at c5
  clear S hk hkF hrow hrF hlo hne
  refine callsDIn_of_wp Tryz.func14 rfl trivial (wpIn_wide.2 ?_)
  simp only [Tryz.ntmps14, List.size_toArray, List.length_cons, List.length_nil, Nat.reduceAdd, Nat.reduceSub, Array.replicate_succ, Array.replicate_zero, List.push_toArray, List.append_toArray, List.nil_append, List.cons_append]
  go_wp2_with (go_at_call 43; refine HR.out.mono ?_; rintro e w1 ⟨rfl, hf⟩)
  go_ret
  exact ⟨rfl, hf.2⟩

theorem rg_read {bs : List (List UInt8)} {l : List Rc} {c r : Int} {B kind : Nat} (S : Stand W b n (mkA B true bs c r) s F) (hid : Idle s K) (hkk : DeskAt W kb b (K : Int) 1) (hkF : kb ∉ F) (hlk : b.lo ≤ kb) (C : Tap b K B kind bs l) (hn : n < 549755813888) :
    Calls Tryz.prog 12 #[ptr kb, .string nmA, .int .i64 (kind : Int)] W fun e w' => ∃ rb F', e = .returned (.tuple #[ptr rb, .int .i64 0]) ∧ RgI w' b n (s.take (K : Int)) F' kb (.slice none 0 0) kb rb kind K B bs l c r 0 0 ∧ rb ∉ F' ∧ b.lo ≤ rb ∧ W.heap.size ≤ rb ∧ rb < w'.heap.size ∧ Touch F W w' ∧ (∀ y ∈ F', y ∈ F ∨ W.heap.size ≤ y) := by
  have hk1 := C.k1
  have hk2 := C.k2
  refine (TRead_ok (T := 1) S (by omega) hkk hkF nmA (kind : Int) (hold_mk (by omega) hid.leave)).mono fun e w' ⟨rb, e1, hw, row⟩ => ?_
  obtain ⟨F', S', t, f, hN⟩ := hw
  obtain ⟨n1, n2, n3⟩ := hN rb (by simp)
  have lk := lt_of_block hkk
  rw [length_mk] at row
  have hkF' : kb ∉ F' := fun hx => by
    rcases f _ hx with h | h
    · exact hkF h
    · omega
  refine ⟨rb, F', e1, ⟨by simpa using S', hkF', by omega, by have := t.size; omega, hlk, row, ?_, by omega, by omega, by have := C.hK; omega⟩, n1, Nat.le_trans S.room n2, n2, n3, by simpa using t, f⟩
  simp only [Nat.zero_mul, Nat.zero_sub, List.take_zero]
  exact LsAt.none _ _
end
end Go.Proofs.YtclplbnildnifaaGreatDoor
/-
  The iterator's rounds: what its caller keeps beside it.
-/
namespace Go.Proofs.YtclplbnildnifaaGreatDoor
open Go.RowKit Go.Deep
set_option linter.unusedSimpArgs false
set_option linter.unusedVariables false

/-- what a loop's body calls its own: it lies in the blocks G. -/
structure OwOk (b : Bn) (kb : Nat) (Ow : Nat → World → Prop) (G : List Nat) : Prop where
  kept : ∀ j W1 W2 Q, Ow j W1 → Touch Q W1 W2 → (∀ y ∈ Q, y ∉ G) → Ow j W2
  lt : ∀ j W, Ow j W → ∀ y ∈ G, y < W.heap.size
  lo : ∀ y ∈ G, b.lo ≤ y ∧ y ≠ kb

structure RIt (b : Bn) (k : Nat) (s : Pu.St) (kb rb kind K B : Nat) (bs : List (List UInt8)) (sa : Srco) (l : List Rc) (c r : Int) (Ow : Nat → World → Prop) (G : List Nat) (i j : Nat) (W : World) : Prop where
  x : ∃ F g lv t, RgI W b k s F g lv kb rb kind K B bs l c r i t ∧ Ow j W ∧ DeskAt W kb b (K : Int) 1 ∧ kb ∉ F ∧ rb ∉ F ∧ KeepO W b.lo (G ++ rb :: F) sa l ∧ (∀ y ∈ G, y ∉ F ∧ y ≠ rb ∧ y ≠ g)

structure HomG (W : World) (b : Bn) (k kb K B : Nat) (bs : List (List UInt8)) (sa : Srco) (l : List Rc) (c r : Int) (G : List Nat) : Prop where
  x : ∃ F s, Stand W b k (mkA B true bs c r) s F ∧ Idle s K ∧ s.peak = (K : Int) ∧ DeskAt W kb b (K : Int) 1 ∧ kb ∉ F ∧ b.lo ≤ kb ∧ KeepO W b.lo (G ++ F) sa l ∧ ∀ y ∈ G, y ∉ F

section
variable {W W' : World} {b : Bn} {k kb rb K B i j kind : Nat} {s : Pu.St} {bs : List (List UInt8)} {sa : Srco} {l : List Rc} {c r : Int} {Ow : Nat → World → Prop} {G Q : List Nat}

theorem HomG.hom (h : HomG W b k kb K B bs sa l c r G) (hG : ∀ y ∈ G, b.lo ≤ y ∧ y ≠ kb) (t : Touch G W W') : Hom W' b k kb K B bs sa l c r := by
  obtain ⟨F, s, S, hi, hp, hk, hkF, hlk, hr, hg⟩ := h.x
  exact ⟨F, s, S.touch t (fun y hy => ⟨hg y hy, (hG y hy).1⟩), hi, hp, hk.touch t (fun h => (hG _ h).2 rfl), hkF, hlk, hr.touch t (fun y hy => (hG y hy).1) (fun y hy => by simp [hy]) (fun y hy => .inl (by simp [hy]))⟩

theorem RIt.quiet (I : RIt b k s kb rb kind K B bs sa l c r Ow G i j W) (O : OwOk b kb Ow G) (t : Touch [] W W') : RIt b k s kb rb kind K B bs sa l c r Ow G i j W' := by
  obtain ⟨F, g, lv, tt, R, o, hk, hkF, hrF, hr, hg⟩ := I.x
  exact ⟨F, g, lv, tt, R.touch t (by simp), O.kept _ _ _ _ o t (by simp), hk.touch t (by simp), hkF, hrF, hr.quiet t, hg⟩
theorem RIt.own (I : RIt b k s kb rb kind K B bs sa l c r Ow G i j W) : Ow j W := by
  obtain ⟨F, g, lv, tt, R, o, hk, hkF, hrF, hr, hg⟩ := I.x
  exact o
theorem RIt.keep (I : RIt b k s kb rb kind K B bs sa l c r Ow G i j W) : Keep W b.lo sa.src l := by
  obtain ⟨F, g, lv, tt, R, o, hk, hkF, hrF, hr, hg⟩ := I.x
  exact hr.1
/-- the body has run. -/
theorem RIt.round {j' : Nat} (I : RIt b k s kb rb kind K B bs sa l c r Ow G i j W) (O : OwOk b kb Ow G) (t : Touch G W W') (o' : Ow j' W') : RIt b k s kb rb kind K B bs sa l c r Ow G i j' W' := by
  obtain ⟨F, g, lv, tt, R, o, hk, hkF, hrF, hr, hg⟩ := I.x
  exact ⟨F, g, lv, tt, R.touch t (fun y hy => ⟨(hg y hy).1, (O.lo y hy).1, (hg y hy).2.1, (hg y hy).2.2⟩), o', hk.touch t (fun h => (O.lo _ h).2 rfl), hkF, hrF, hr.touch t (fun y hy => (O.lo y hy).1) (fun y hy => by simp [hy]) (fun y hy => .inl hy), hg⟩

theorem it_next (I : RIt b k s kb rb kind K B bs sa l c r Ow G i j W) (O : OwOk b kb Ow G) (C : Tap b K B kind bs l) (hk : k < 549755813888) (hil : i < l.length) (hlo : b.lo ≤ rb) (hne : rb ≠ kb) :
    Calls Tryz.prog 13 #[ptr rb] W fun e w' => e = .returned (.tuple #[(l[i]).val, .bool true, .int .i64 0]) ∧ RIt b k s kb rb kind K B bs sa l c r Ow G (i + 1) j w' := by
  obtain ⟨F, g, lv, tt, R, o, hkk, hkF, hrF, hr, hg⟩ := I.x
  refine (rg_next R C hk hkk hkF hil hrF hlo hne).mono fun e w' ⟨e1, F2, g2, lv2, t2, R2, T2, f2, hg2⟩ => ⟨e1, F2, g2, lv2, t2, R2, ?_, ?_, ?_, ?_, ?_, ?_⟩
  · refine O.kept _ _ _ _ o T2 (fun y hy hG => ?_)
    simp at hy
    rcases hy with rfl | hy
    · exact (hg _ hG).2.1 rfl
    · exact (hg _ hG).1 hy
  · exact hkk.touch T2 (by simp; exact ⟨fun e => hne e.symm, hkF⟩)
  · intro hx
    rcases f2 _ hx with h | h
    · exact hkF h
    · have := lt_of_block hkk; omega
  · intro hx
    rcases f2 _ hx with h | h
    · exact hrF h
    · have := lt_of_block R.row; omega
  · refine hr.touch T2 (fun y hy => ?_) (fun y hy => by simp at hy ⊢; exact .inr hy) (fun y hy => ?_)
    · simp at hy
      rcases hy with rfl | hy
      · exact hlo
      · exact R.S.base y hy
    · simp at hy
      rcases hy with hy | rfl | hy
      · exact .inl (by simp [hy])
      · exact .inl (by simp)
      · rcases f2 _ hy with h | h
        · exact .inl (by simp [h])
        · exact .inr h
  · intro y hy
    have hl := O.lt _ _ o y hy
    refine ⟨fun hx => ?_, (hg y hy).2.1, ?_⟩
    · rcases f2 _ hx with h | h
      · exact (hg y hy).1 h
      · omega
    · rcases hg2 with h | h
      · rw [h]; exact (hg y hy).2.2
      · omega

theorem it_end (I : RIt b k s kb rb kind K B bs sa l c r Ow G l.length j W) (O : OwOk b kb Ow G) (C : Tap b K B kind bs l) :
    Calls Tryz.prog 13 #[ptr rb] W fun e w' => e = .returned (.tuple #[zeroR, .bool false, .int .i64 0]) ∧ RIt b k s kb rb kind K B bs sa l c r Ow G l.length j w' := by
  obtain ⟨F, g, lv, tt, R, _⟩ := I.x
  exact (rg_end R C).2.mono fun e w' ⟨e1, t⟩ => ⟨e1, I.quiet O t⟩

theorem it_close (I : RIt b k (s.take (K : Int)) kb rb kind K B bs sa l c r Ow G l.length j W) (O : OwOk b kb Ow G) (C : Tap b K B kind bs l) (hid : Idle s K) (hp : s.peak = (K : Int)) (hlk : b.lo ≤ kb) (hlo : b.lo ≤ rb) (hne : rb ≠ kb) (u : FrameMode) (m : Nat) :
    CallsDIn Fence.wide m Tryz.prog 14 #[ptr rb] u W fun e u' w' => u' = u ∧ (e = .returned (.int .i64 0) ∧ Ow j w' ∧ HomG w' b (k + bs.length) kb K B bs sa l (c + (bs.length : Int)) (r + (bs.length : Int)) G) := by
  obtain ⟨F, g, lv, tt, R, o, hkk, hkF, hrF, hr, hg⟩ := I.x
  obtain ⟨rfl, _⟩ := rg_end R C
  have hlt := fun y hy => O.lt _ _ o y hy
  refine (RClose_din R.S hkk hkF R.row hrF hlo hne u m).mono fun e u' w' ⟨h1, h2, F2, S2, t2, f2⟩ => ⟨h1, h2, ?_, F2, _, S2, hid.back, by rw [hid.peak, hp]; simp, ?_, ?_, hlk, ?_, ?_⟩
  · refine O.kept _ _ _ _ o t2 (fun y hy hG => ?_)
    simp at hy
    rcases hy with rfl | hy
    · exact (hg _ hG).2.1 rfl
    · exact (hg _ hG).1 hy
  · exact hkk.touch t2 (by simp; exact ⟨fun e => hne e.symm, hkF⟩)
  · intro hx
    rcases f2 _ hx with h | h
    · exact hkF h
    · have := lt_of_block hkk; omega
  · refine hr.touch t2 (fun y hy => ?_) (fun y hy => by simp at hy ⊢; exact .inr hy) (fun y hy => ?_)
    · simp at hy
      rcases hy with rfl | hy
      · exact hlo
      · exact R.S.base y hy
    · simp at hy
      rcases hy with hy | hy
      · exact .inl (by simp [hy])
      · rcases f2 _ hy with h | h
        · exact .inl (by simp [h])
        · exact .inr h
  · intro y hy hx
    rcases f2 _ hx with h | h
    · exact (hg y hy).1 h
    · have := hlt y hy; omega
end
end Go.Proofs.YtclplbnildnifaaGreatDoor
/-
  All's function, walked at any loop body.
-/
namespace Go.Proofs.YtclplbnildnifaaGreatDoor
open Go.RowKit Go.Deep
set_option linter.unusedSimpArgs false
set_option linter.unusedVariables false

section
variable {W W' : World} {b : Bn} {k kb K B kind : Nat} {s : Pu.St} {F : List Nat} {bs : List (List UInt8)} {sa : Srco} {l : List Rc} {c r : Int} {Ow : Nat → World → Prop} {G : List Nat}

theorem all_any (x : ByteArray) : Calls Tryz.prog 49 #[ptr kb, .string x, .int .i64 (kind : Int)] W fun e w' => ∃ b1 b2 b3, e = .returned (.func (.func 93) #[] #[ptr b1, ptr b2, ptr b3]) ∧ Touch [] W w' ∧ w'.heap[b1]? = some (.cells #[ptr kb] 23 (0, 0)) ∧ w'.heap[b2]? = some (.cells #[.string x] 9 (0, 0)) ∧ w'.heap[b3]? = some (.cells #[.int .i64 (kind : Int)] 3 (0, 0)) := by
  go_enter Tryz.func49, Tryz.ntmps49
  go_wp2_with fail
  go_ret
  refine ⟨_, _, _, rfl, ((Touch.refl [] W).alloc _ |>.alloc _ |>.alloc _), ?_, ?_, ?_⟩
  · refine (Below.heap_alloc _ _ _ (by simp; omega)).trans ((Below.heap_alloc _ _ _ (by simp)).trans (heap_alloc_new W _))
  · refine (Below.heap_alloc _ _ _ (by simp)).trans ?_
    have := heap_alloc_new (W.alloc (.cells #[ptr kb] 23)) (.cells #[.string x] 9)
    simpa using this
  · have := heap_alloc_new ((W.alloc (.cells #[ptr kb] 23)).alloc (.cells #[.string x] 9)) (.cells #[.int .i64 (kind : Int)] 3)
    simpa using this

set_option maxRecDepth 100000 in
set_option maxHeartbeats 4000000 in
theorem all1_any {mu : World → Nat} {L b1 b2 b3 m : Nat} (S : Stand W b k (mkA B true bs c r) s F) (hi : Idle s K) (hp : s.peak = (K : Int)) (hkk : DeskAt W kb b (K : Int) 1) (hkF : kb ∉ F) (hlk : b.lo ≤ kb) (hr : KeepO W b.lo (G ++ F) sa l) (C : Tap b K B kind bs l) (hk : k < 549755813888)
    (O : OwOk b kb Ow G) (h0 : Ow 0 W) (hG : ∀ y ∈ G, y ∉ F) (hmu : ∀ j X, Ow j X → mu X = j)
    (hb1 : W.heap[b1]? = some (.cells #[ptr kb] 23 (0, 0))) (hb2 : W.heap[b2]? = some (.cells #[.string nmA] 9 (0, 0))) (hb3 : W.heap[b3]? = some (.cells #[.int .i64 (kind : Int)] 3 (0, 0)))
    (hY : ∀ m' j (hj : j < l.length) X, Ow j X → Keep X b.lo sa.src l → YieldAt Fence.wide m' Tryz.prog L #[(l[j]).val, .int .i64 0] X fun e X2 => e = .returned (.bool true) ∧ Ow (j + 1) X2 ∧ Touch G X X2) :
    CallsIn Fence.wide m Tryz.prog 93 #[.func (.yield L) #[] #[], ptr b1, ptr b2, ptr b3] W fun e w' => (∃ v, e = .returned v) ∧ Ow l.length w' ∧ HomG w' b (k + bs.length) kb K B bs sa l (c + (bs.length : Int)) (r + (bs.length : Int)) G := by
  have HR := hid (rg_read S hi hkk hkF hlk C hk)
  have HOK := hid (show ∀ rb F' w1, RgI w1 b k (s.take (K : Int)) F' kb (.slice none 0 0) kb rb kind K B bs l c r 0 0 → rb ∉ F' → W.heap.size ≤ rb → Touch F W w1 → (∀ y ∈ F', y ∈ F ∨ W.heap.size ≤ y) → RIt b k (s.take (K : Int)) kb rb kind K B bs sa l c r Ow G 0 0 w1 from fun rb F' w1 R hrF hrb t f => by
    refine ⟨F', kb, _, 0, R, O.kept _ _ _ _ h0 t (fun y hy hG' => hG y hG' hy), hkk.touch t hkF, R.gF, hrF, hr.touch t (fun y hy => S.base y hy) (fun y hy => by simp [hy]) (fun y hy => by
      simp at hy
      rcases hy with hy | rfl | hy
      · exact .inl (by simp [hy])
      · exact .inr hrb
      · rcases f y hy with h | h
        · exact .inl (by simp [h])
        · exact .inr h), fun y hy => ⟨fun hx => ?_, ?_, (O.lo y hy).2⟩⟩
    · rcases f y hx with h | h
      · exact hG y hy h
      · have := O.lt _ _ h0 y hy; omega
    · have := O.lt _ _ h0 y hy; omega)
  have c1 := cell_row hb1 0
  have c2 := cell_row hb2 0
  have c3 := cell_row hb3 0
  simp only [List.getElem?_toArray, List.getElem?_cons_zero] at c1 c2 c3
  have lk := lt_of_block hkk
  have hsl := S.room
  have HC := hid C
  have HO := hid O
  have HYY := hid hY
  have HI := hid hi
  have HP := hid hp
  have HMU := hid hmu
  clear S hkk hkF hr C O h0 hG hb1 hb2 hb3 hY hi hp hmu
  refine callsIn_of_wp_defers Tryz.func93 rfl trivial (wpIn_wide.2 ?_)
  simp only [Tryz.ntmps93, List.size_toArray, List.length_cons, List.length_nil, Nat.reduceAdd, Nat.reduceSub, Array.replicate_succ, Array.replicate_zero, List.push_toArray, List.append_toArray, List.nil_append, List.cons_append]
  go_wp2_with (go_at_call 12; refine HR.out.mono ?_; rintro e w1 ⟨rb, F', rfl, hR, hrF, hlo, hrb, hrl, ht, hf⟩; have HI1 := hid (HOK.out rb F' w1 hR hrF hrb ht hf); clear hR hrF hrl ht hf)
  have hne : rb ≠ kb := by omega
  go_loopw [] (fun X => ∃ j : Nat, j ≤ l.length ∧ Hid (RIt b k (s.take (K : Int)) kb rb kind K B bs sa l c r Ow G j j X)) (fun X => l.length - mu X)
  case atStart => exact ⟨0, Nat.zero_le _, HI1⟩
  case round =>
    obtain ⟨j, hj, hJ⟩ := hrel
    by_cases hjl : j < l.length
    · have HN := hid (it_next hJ.out HO.out HC.out hk hjl hlo hne)
      go_upto_region 6 with (go_at_call 13; refine HN.out.mono ?_; rintro e w2 ⟨rfl, hh⟩; have H2 := hid hh; clear hh)
      obtain ⟨W3, hW3⟩ : ∃ W3, W3 = w2.alloc (.cells #[.int .u64 (l[j].1 : Int), .int .u64 (l[j].2.1 : Int), .int .u64 (l[j].2.2.1 : Int), .int .u64 (l[j].2.2.2 : Int)] 38) := ⟨_, rfl⟩
      have hb3 : W3.heap[w2.heap.size]? = some (.cells #[.int .u64 (l[j].1 : Int), .int .u64 (l[j].2.1 : Int), .int .u64 (l[j].2.2.1 : Int), .int .u64 (l[j].2.2.2 : Int)] 38) := by rw [hW3]; exact heap_alloc_new w2 _
      have H3 := hid (H2.out.quiet HO.out (W' := W3) (by rw [hW3]; exact (Touch.refl [] w2).alloc _))
      rw [← hW3]
      have q0 := cell_row hb3 0
      have q1 := cell_row hb3 1
      have q2 := cell_row hb3 2
      have q3 := cell_row hb3 3
      simp only [List.getElem?_toArray, List.getElem?_cons_zero, List.getElem?_cons_succ] at q0 q1 q2 q3
      generalize w2.heap.size = ob at q0 q1 q2 q3 ⊢
      clear hW3 hb3
      refine (wpIn_wide (n := m)).1 ?_
      obtain ⟨fn, tm, asg, bd, hy, hRd⟩ := HYY.out (m - 1) j hjl W3 H3.out.own H3.out.keep
      have HRd := hid hRd
      clear hRd
      gi_wp2
      refine ⟨fun h => (by cases h), HRd.out.mono ?_⟩
      rintro e W4 ⟨rfl, ho4, ht4⟩
      have H4 := hid (H3.out.round HO.out ht4 ho4)
      have e4 := HMU.out _ _ ho4
      have e0 := HMU.out _ _ hJ.out.own
      clear ho4 ht4
      gi_wp2
      go_wp2_with fail
      exact ⟨⟨j + 1, by omega, H4⟩, by omega⟩
    · obtain rfl : j = l.length := by omega
      have HN := hid (it_end hJ.out HO.out HC.out)
      go_wp2_with (go_at_call 13; refine HN.out.mono ?_; rintro e w2 ⟨rfl, hh⟩; have H2 := hid hh; clear hh)
      have H3 := H2.out.quiet HO.out ((Touch.refl [] w2).alloc (.cells #[.int .u64 0, .int .u64 0, .int .u64 0, .int .u64 0] 38))
      refine leavesIn_cons (f := 14) (args := #[ptr rb]) (by simp) (fun h => by cases h) (by simp [go_sem]) (fun _ _ => trivial) ?_
      refine (it_close H3 HO.out HC.out HI.out HP.out hlk hlo hne .returning (m - 1)).mono ?_
      rintro e u' w4 ⟨rfl, rfl, ho, hg⟩
      exact ⟨_, results_none rfl _ _ _, ⟨_, rfl⟩, ho, hg⟩
end
end Go.Proofs.YtclplbnildnifaaGreatDoor
/-
  A range over a function, where the iterator and the body share an invariant (for any program, at the wide fence).
-/
namespace Go.Proofs.YtclplbnildnifaaGreatDoor
open Go.RowKit Go.Deep
set_option linter.unusedSimpArgs false
set_option linter.unusedVariables false

theorem Touch.putObj {F : List Nat} {a w : World} (h : Touch F a w) {r : Nat} (o : Obj) (hr : r ∈ F ∨ a.heap.size ≤ r) : Touch F a (w.putObj r o) :=
  ⟨h.os, h.tape, h.output, Nat.le_trans h.size (by simp), fun k hk hF => (World.putObj_heap_other (fun e => by subst e; rcases hr with h1 | h1; exact hF h1; omega)).trans (h.block k hk hF)⟩

/-- a loop's record. -/
structure RfRec where
  fn : FuncId
  tmps : Array Value
  ps : Array Tmp
  assign : Code
  body : Code
  D : Nat
def RfRec.at (q : RfRec) (st : LoopState) (pe : Option Code) : Loop := { state := st, pending := pe, fn := q.fn, tmps := q.tmps, params := q.ps, assign := q.assign, body := q.body, defers := q.D }

section
variable {P : Program} {m : Nat}

/-- the statement: the iterator's function is called in a world that has the record and the block for deferred calls. -/
theorem wp_range {g : Operand} {ps : Array Tmp} {assign body : Code} {Q : Exit → Act → World → Prop} {a : Act} {w : World} {gf : Nat} {lb : Array Value} (hg : a.eval g = .func (.func gf) #[] lb) (eg : ∀ args w, (callFunc gf args).run P w = .ok (.enter gf args) w)
    (H : ∀ (q : RfRec) (W1 : World), q.tmps = a.tmps → q.ps = ps → q.assign = assign → q.body = body → W1.heap[w.heap.size + 1]? = some (.loop (q.at .ready none)) → W1.heap[w.heap.size]? = some (.deferred (some [])) → Touch [] w W1 → W1.heap.size = w.heap.size + 2 →
      CallsIn Fence.wide m P gf (#[.func (.yield (w.heap.size + 1)) #[] #[]] ++ lb) W1 fun e W2 => (∃ v, e = .returned v) ∧ ∃ st pe, st ≠ .busy ∧ W2.heap[w.heap.size + 1]? = some (.loop (q.at st pe)) ∧
        ∀ W3, W3 = W2.putObj (w.heap.size + 1) (.loop (q.at .exhausted pe)) → (match pe with
          | none => Q .normal { a with defers := { target := .collected w.heap.size, args := #[] } :: a.defers } W3
          | some c => c.wp P Q { a with defers := { target := .collected w.heap.size, args := #[] } :: a.defers } W3)) :
    (Code.rangeFunc g ps assign body).wp P Q a w := by
  refine (wpIn_wide (n := m + 1)).1 (wpIn_rangeFunc ?_)
  intro fn hfn
  obtain ⟨q, hq⟩ : ∃ q : RfRec, q = ⟨fn, a.tmps, ps, assign, body, w.heap.size⟩ := ⟨_, rfl⟩
  obtain ⟨W1, hW1⟩ : ∃ W1, (w.alloc (.deferred (some []))).alloc (.loop (q.at .ready none)) = W1 := ⟨_, rfl⟩
  have hL1 : W1.heap[w.heap.size + 1]? = some (.loop (q.at .ready none)) := by
    rw [← hW1]; have := World.alloc_heap_new (w.alloc (.deferred (some []))) (.loop (q.at .ready none)); rwa [World.size_alloc] at this
  have hK1 : W1.heap[w.heap.size]? = some (.deferred (some [])) := by
    rw [← hW1]; exact (Below.heap_alloc _ _ _ (by simp)).trans (World.alloc_heap_new w _)
  refine ⟨w.heap.size + 1, [{ target := .collected w.heap.size, args := #[] }], W1, { target := .fn (.func gf) lb, args := #[.func (.yield (w.heap.size + 1)) #[] #[]] }, W1, gf,
    #[.func (.yield (w.heap.size + 1)) #[] #[]] ++ lb, W1, ?_, ?_, fun _ _ => trivial, ?_, fun h => (by cases h), ?_⟩
  · rw [← hW1, hq]; exact run_enterLoop_outer _ _ _ _ _
  · simp only [resolve, hg]
    simp [go_sem]
  · simp [invoke, go_sem, eg]
  · refine ⟨trivial, (H q W1 (by rw [hq]) (by rw [hq]) (by rw [hq]) (by rw [hq]) hL1 hK1 (by rw [← hW1]; exact ((Touch.refl [] w).alloc _).alloc _) (by rw [← hW1]; simp)).2 |> fun h => ?_⟩
    intro cs hr
    obtain ⟨e, w', fr, ⟨⟨v, rfl⟩, st, pe, hst, hl, hQ⟩, hs, hx⟩ := h cs hr
    refine ⟨.returned v, w', fr, ⟨pe, w'.putObj (w.heap.size + 1) (.loop (q.at .exhausted pe)), run_endLoop hl hst, ?_⟩, hs, hx⟩
    have := hQ _ rfl
    cases pe with
    | none => exact this
    | some c => exact wpIn_wide.2 this

/-- one round: the assignments, the record busy, the body. -/
theorem yield_round {q : RfRec} {L : Nat} {X : World} {args : Array Value} {R : Ending → World → Prop} (hl : X.heap[L]? = some (.loop (q.at .ready none))) (hs : args.size = q.ps.size)
    (H : q.assign.wpIn (Fence.wide.inRound L) m P (Exit.then (fun a₁ w₁ => w₁.heap[L]? = some (.loop (q.at .ready none)) ∧ q.body.wpIn (Fence.wide.inRound L) m P (roundPost P L R) a₁ (w₁.putObj L (.loop (q.at .busy none)))) (fun _ _ _ => False)) { tmps := (q.ps.zip args).foldl (fun t (p, v) => t.setIfInBounds p v) q.tmps, defers := [] } X) :
    YieldAt Fence.wide m P L args X R := by
  refine ⟨q.fn, _, q.assign, q.body, run_yield hl hs, roundIn_of_wpIn trivial (wpIn_mono H ?_)⟩
  intro e a1 w1 h
  cases e with
  | normal => exact ⟨_, run_beginRound h.1 rfl, h.2⟩
  | _ => exact h.elim

/-- a round's end: it goes on. -/
theorem round_on {q : RfRec} {L : Nat} {X : World} {a : Act} {R : Ending → World → Prop} (hl : X.heap[L]? = some (.loop (q.at .busy none))) (h : R (.returned (.bool true)) (X.putObj L (.loop (q.at .ready none)))) : roundPost P L R .normal a X :=
  ⟨_, _, run_endRound none hl, h⟩
end
end Go.Proofs.YtclplbnildnifaaGreatDoor
/-
  ranged.
-/
namespace Go.Proofs.YtclplbnildnifaaGreatDoor
open Go.RowKit Go.Deep
set_option linter.unusedSimpArgs false
set_option linter.unusedVariables false

attribute [local go_sem] Oper.semAt_some

/-- what ranged's loop calls its own. -/
structure Rgd (sb rx nb L D : Nat) (sv : Value) (rec : Loop) (j : Nat) (X : World) : Prop where
  s : X.heap[sb]? = some (.cells #[sv] 22 (0, 0))
  x : X.heap[rx]? = some (.cells #[.bool false] 4 (0, 0))
  n : X.heap[nb]? = some (.cells #[.int .i64 (j : Int)] 3 (0, 0))
  l : X.heap[L]? = some (.loop rec)
  d : X.heap[D]? = some (.deferred (some []))

theorem Rgd.ok {b : Bn} {kb sb rx nb L D : Nat} {sv : Value} {rec : Loop} (h : ∀ y ∈ [sb, rx, nb, L, D], b.lo ≤ y ∧ y ≠ kb) : OwOk b kb (Rgd sb rx nb L D sv rec) [sb, rx, nb, L, D] :=
  ⟨fun j W1 W2 Q o t hq => ⟨(t.block _ (lt_of_block o.s) (fun h => hq _ h (by simp))).trans o.s, (t.block _ (lt_of_block o.x) (fun h => hq _ h (by simp))).trans o.x, (t.block _ (lt_of_block o.n) (fun h => hq _ h (by simp))).trans o.n, (t.block _ (lt_of_block o.l) (fun h => hq _ h (by simp))).trans o.l, (t.block _ (lt_of_block o.d) (fun h => hq _ h (by simp))).trans o.d⟩,
   fun j W o y hy => by
    simp only [List.mem_cons, List.not_mem_nil, or_false] at hy
    rcases hy with rfl | rfl | rfl | rfl | rfl
    · exact lt_of_block o.s
    · exact lt_of_block o.x
    · exact lt_of_block o.n
    · exact lt_of_block o.l
    · exact lt_of_block o.d, h⟩

theorem nilq1 (d : Nat) (l : Array Value) (W : World) : (Op.equalIn (d + 1) 117 (.func (.func 93) #[] l) .nilFunc).run Tryz.prog W = .ok false W := by
  simp [Op.equalIn, Sem.run_bind, underlying, go_sem, Tryz.underlying117, Result.andThen]
theorem nilq (l : Array Value) (W : World) : (binOp .eql 117 (.func (.func 93) #[] l) .nilFunc).run Tryz.prog W = .ok (.bool false) W := by
  have h : (Op.equal 117 (.func (.func 93) #[] l) .nilFunc).run Tryz.prog W = .ok false W := nilq1 9999 l W
  simp [binOp, go_sem, h]

section
variable {W : World} {b : Bn} {k kb K B kind : Nat} {bs : List (List UInt8)} {sa : Option Addr} {w0 : World} {OO : List (Nat × Obj)} {l : List Rc} {c r : Int} {cp : Nat}

set_option maxRecDepth 100000 in
set_option maxHeartbeats 4000000 in
theorem ranged_any (h : Hom W b k kb K B bs ⟨⟨sa, w0⟩, OO⟩ l c r) (C : Tap b K B kind bs l) (hk : k < 549755813888) :
    Calls Tryz.prog 23 #[ptr kb, .int .i64 (kind : Int), .slice sa l.length cp] W fun e w' => e = .returned (.bool true) ∧ Hom w' b (k + bs.length) kb K B bs ⟨⟨sa, w0⟩, OO⟩ l (c + (bs.length : Int)) (r + (bs.length : Int)) := by
  have HH := hid h
  have HC := hid C
  have hl := C.len
  clear h C
  refine (callsIn_wide (n := 5)).1 ?_
  refine callsIn_of_wp_marks Tryz.func23 rfl trivial (wpIn_wide.2 ?_)
  simp only [Tryz.ntmps23, List.size_toArray, List.length_cons, List.length_nil, Nat.reduceAdd, Nat.reduceSub, Array.replicate_succ, Array.replicate_zero, List.push_toArray, List.append_toArray, List.nil_append, List.cons_append]
  have hnq := nilq
  go_wp2_with (go_at_call 49; refine (all_any nmA).mono ?_; rintro e w1 ⟨b1, b2, b3, rfl, t1, r1, r2, r3⟩)
  obtain ⟨Wa, hWa⟩ : ∃ Wa, Wa = w1.alloc (.cells #[.int .i64 0] 3) := ⟨_, rfl⟩
  have hna : Wa.heap[w1.heap.size]? = some (.cells #[.int .i64 ((0 : Nat) : Int)] 3) := by rw [hWa]; exact heap_alloc_new w1 _
  have ta : Touch [] w1 Wa := by rw [hWa]; exact (Touch.refl [] w1).alloc _
  have hsa0 : ((W.alloc (.cells #[.slice sa l.length cp] 22)).alloc (.cells #[.bool false] 4)).heap[W.heap.size]? = some (.cells #[.slice sa l.length cp] 22) := (Below.heap_alloc _ _ _ (by simp)).trans (heap_alloc_new W _)
  have hxa0 : ((W.alloc (.cells #[.slice sa l.length cp] 22)).alloc (.cells #[.bool false] 4)).heap[W.heap.size + 1]? = some (.cells #[.bool false] 4) := by have := heap_alloc_new (W.alloc (.cells #[.slice sa l.length cp] 22)) (.cells #[.bool false] 4); simpa using this
  have t0 : Touch [] W ((W.alloc (.cells #[.slice sa l.length cp] 22)).alloc (.cells #[.bool false] 4)) := ((Touch.refl [] W).alloc _).alloc _
  have hsz1 := t1.size
  have hs1 := (t1.block _ (lt_of_block hsa0) (by simp)).trans hsa0
  have hx1 := (t1.block _ (lt_of_block hxa0) (by simp)).trans hxa0
  have hsa := (ta.block _ (lt_of_block hs1) (by simp)).trans hs1
  have hxa := (ta.block _ (lt_of_block hx1) (by simp)).trans hx1
  have tWa : Touch [] W Wa := (t0.trans t1 (by simp)).trans ta (by simp)
  have hb1 := (ta.block _ (lt_of_block r1) (by simp)).trans r1
  have hb2 := (ta.block _ (lt_of_block r2) (by simp)).trans r2
  have hb3 := (ta.block _ (lt_of_block r3) (by simp)).trans r3
  have hlb1 := lt_of_block hs1
  have hlx1 := lt_of_block hx1
  have hsWa : Wa.heap.size = w1.heap.size + 1 := by rw [hWa]; simp
  rw [← hWa]
  generalize w1.heap.size = nb at *
  clear hWa hsa0 hxa0 t0 hsz1 hs1 hx1 t1 ta r1 r2 r3
  refine wp_range (m := 5) (gf := 93) (lb := #[ptr b1, ptr b2, ptr b3]) rfl (enters_of Tryz.func93 (by kernel_rfl) rfl) ?_
  intro q W1 hqt hqp hqa hqb hL hD tq hsz
  obtain ⟨F, s, S0, hi, hp, hkk0, hkF, hlk, hr0⟩ := HH.out.x
  have tt : Touch [] W W1 := tWa.trans tq (by simp)
  have lk := lt_of_block hkk0
  have room := S0.room
  obtain ⟨L, hLe⟩ : ∃ L, L = Wa.heap.size + 1 := ⟨_, rfl⟩
  obtain ⟨D, hDe⟩ : ∃ D, D = Wa.heap.size := ⟨_, rfl⟩
  rw [← hLe] at hL ⊢
  rw [← hDe] at hD ⊢
  have hsW := tWa.size
  have hlnb := lt_of_block hna
  obtain ⟨sb, hsb⟩ : ∃ sb, sb = W.heap.size := ⟨_, rfl⟩
  obtain ⟨rx, hrx⟩ : ∃ rx, rx = W.heap.size + 1 := ⟨_, rfl⟩
  have hlo : ∀ y ∈ [sb, rx, nb, L, D], b.lo ≤ y ∧ y ≠ kb := by
    intro y hy
    simp only [List.mem_cons, List.not_mem_nil, or_false] at hy
    omega
  have hGF : ∀ y ∈ [sb, rx, nb, L, D], y ∉ F := by
    intro y hy hF
    have := S0.lt y hF
    simp only [List.mem_cons, List.not_mem_nil, or_false] at hy
    omega
  have O : OwOk b kb (Rgd sb rx nb L D (.slice sa l.length cp) (q.at .ready none)) [sb, rx, nb, L, D] := Rgd.ok hlo
  have h0 : Rgd sb rx nb L D (.slice sa l.length cp) (q.at .ready none) 0 W1 := by
    refine ⟨?_, ?_, (tq.block _ hlnb (by simp)).trans hna, hL, hD⟩
    · rw [hsb]; exact (tq.block _ (lt_of_block hsa) (by simp)).trans hsa
    · rw [hrx]; exact (tq.block _ (lt_of_block hxa) (by simp)).trans hxa
  have hdis : sb ≠ nb ∧ rx ≠ nb ∧ D ≠ nb ∧ sb ≠ L ∧ rx ≠ L ∧ nb ≠ L ∧ D ≠ L := by omega
  rw [← hrx, ← hsb] at hqt
  refine (all1_any (mu := fun X => (((X.cell? ⟨nb, 0, none⟩).map intOf).getD 0).toNat) (S0.quiet tt) hi hp (hkk0.touch tt (by simp)) hkF hlk (hr0.touch tt (by simp) (by simp) (F' := [sb, rx, nb, L, D] ++ F) (fun y hy => by
    rcases List.mem_append.1 hy with h | h
    · refine .inr ?_
      simp only [List.mem_cons, List.not_mem_nil, or_false] at h
      omega
    · exact .inl h)) HC.out hk O h0 hGF (fun j X o => by rw [cell_row o.n 0]; simp [intOf]) ((tq.block _ (lt_of_block hb1) (by simp)).trans hb1) ((tq.block _ (lt_of_block hb2) (by simp)).trans hb2) ((tq.block _ (lt_of_block hb3) (by simp)).trans hb3) ?_).mono ?_
  · intro m' j hj X o hkeep
    have HLO := hid hlo
    have HQB := hid hqb
    have HO := hid O
    clear hLe hDe hsb hrx hsWa hsz hlo hGF O h0 hqb
    have hmix : Tryz.prog.follows .mixedOrders = true := by kernel_rfl
    refine yield_round o.l (by rw [hqp]; rfl) ?_
    rw [hqa, hqp, hqt]
    clear hqa hqp hqt
    gi_wp2
    obtain ⟨X2, hX2⟩ : ∃ X2, X2 = X.alloc (.cells #[.int .u64 (l[j].1 : Int), .int .u64 (l[j].2.1 : Int), .int .u64 (l[j].2.2.1 : Int), .int .u64 (l[j].2.2.2 : Int)] 38) := ⟨_, rfl⟩
    have hr2 : X2.heap[X.heap.size]? = some (.cells #[.int .u64 (l[j].1 : Int), .int .u64 (l[j].2.1 : Int), .int .u64 (l[j].2.2.1 : Int), .int .u64 (l[j].2.2.2 : Int)] 38) := by rw [hX2]; exact heap_alloc_new X _
    have t2 : Touch [] X X2 := by rw [hX2]; exact (Touch.refl [] X).alloc _
    rw [← hX2]
    have hob := lt_of_block o.l
    have hne : X.heap.size ≠ L := by omega
    have hnn : X.heap.size ≠ nb := by have := lt_of_block o.n; omega
    have o2 := HO.out.kept _ _ _ _ o t2 (by simp)
    generalize X.heap.size = ob at *
    refine ⟨o2.l, ?_⟩
    obtain ⟨X3, hX3⟩ : ∃ X3, X3 = X2.putObj L (.loop (q.at .busy none)) := ⟨_, rfl⟩
    have t3 : Touch [L] X2 X3 := by rw [hX3]; exact (Touch.refl [L] X2).putObj _ (by simp)
    have hl3 : X3.heap[L]? = some (.loop (q.at .busy none)) := by rw [hX3]; exact World.putObj_heap_same (lt_of_block o2.l)
    rw [← hX3]
    have hr3 := (t3.block _ (lt_of_block hr2) (by simpa using hne)).trans hr2
    have hs3 := (t3.block _ (lt_of_block o2.s) (by simpa using hdis.2.2.2.1)).trans o2.s
    have hn3 := (t3.block _ (lt_of_block o2.n) (by simpa using hdis.2.2.2.2.2.1)).trans o2.n
    have hk3 := (hkeep.touch t2 (by simp)).touch t3 (fun y hy => (HLO.out y (by simp at hy; simp [hy])).1)
    rw [HQB.out]
    have HO2 := hid o2
    have HT := hid (And.intro t2 t3)
    have HL3 := hid hl3
    have HN3 := hid hn3
    obtain ⟨a, rfl, _, hab, c0, c1, c2, c3⟩ := hk3.recs.at_ j hj
    have q0 := cell_row hr3 0
    have q1 := cell_row hr3 1
    have q2 := cell_row hr3 2
    have q3 := cell_row hr3 3
    have qs := cell_row hs3 0
    have qn := cell_row hn3 0
    have un := unfrozen_row hn3 0
    simp only [List.getElem?_toArray, List.getElem?_cons_zero, List.getElem?_cons_succ] at q0 q1 q2 q3 qs qn
    clear hX2 hX3 hr2 hr3 hs3 hn3 t2 t3 o2 hl3 hk3
    have hki : (j : Int) < (l.length : Int) := by omega
    have hk0 : (0 : Int) ≤ (j : Int) := by omega
    have hki2 : ¬ (l.length : Int) ≤ (j : Int) := by omega
    have hki3 : ¬ l.length ≤ j := by omega
    have hnlt := lt_of_block HN3.out
    have heq := eqs l[j]
    gi_wp2
    gi_region_with_o (fail)
    all_goals gi_wp2
    all_goals
      refine round_on (q := q) ?_ ⟨rfl, ⟨?_, ?_, ?_, ?_, ?_⟩, ?_⟩
      · exact (Below.heap_setCell _ _ _ _ (fun h => hdis.2.2.2.2.2.1 h.symm)).trans HL3.out
      · exact (World.putObj_heap_other hdis.2.2.2.1).trans ((Below.heap_setCell _ _ _ _ hdis.1).trans ((HT.out.2.block _ (lt_of_block HO2.out.s) (by simpa using hdis.2.2.2.1)).trans HO2.out.s))
      · exact (World.putObj_heap_other hdis.2.2.2.2.1).trans ((Below.heap_setCell _ _ _ _ hdis.2.1).trans ((HT.out.2.block _ (lt_of_block HO2.out.x) (by simpa using hdis.2.2.2.2.1)).trans HO2.out.x))
      · refine (World.putObj_heap_other hdis.2.2.2.2.2.1).trans ((heap_setCell_row HN3.out 0 _).trans ?_)
        simp
      · exact World.putObj_heap_same (by simp [World.setCell]; exact lt_of_block HL3.out)
      · exact (World.putObj_heap_other hdis.2.2.2.2.2.2).trans ((Below.heap_setCell _ _ _ _ hdis.2.2.1).trans ((HT.out.2.block _ (lt_of_block HO2.out.d) (by simpa using hdis.2.2.2.2.2.2)).trans HO2.out.d))
      · exact (((((HT.out.1.mono (by simp)).trans HT.out.2 (by simp)).drew).setCell (p := ⟨nb, 0, none⟩) (by simp) _).putObj _ (by simp))
  · rintro e W2 ⟨hv, ho, hg⟩
    refine ⟨hv, .ready, none, by simp, ho.l, ?_⟩
    intro W3 hW3
    have t3 : Touch [L] W2 W3 := by rw [hW3]; exact (Touch.refl [L] W2).putObj _ (by simp)
    have HG := hid hg
    have HT3 := hid t3
    have hs3 := (t3.block _ (lt_of_block ho.s) (by simpa using hdis.2.2.2.1)).trans ho.s
    have hx3 := (t3.block _ (lt_of_block ho.x) (by simpa using hdis.2.2.2.2.1)).trans ho.x
    have hn3 := (t3.block _ (lt_of_block ho.n) (by simpa using hdis.2.2.2.2.2.1)).trans ho.n
    have hd3 := (t3.block _ (lt_of_block ho.d) (by simpa using hdis.2.2.2.2.2.2)).trans ho.d
    have HX3 := hid hx3
    have HD3 := hid hd3
    have HLO := hid hlo
    have HDX := hid (show D ≠ rx by omega)
    have qs := cell_row hs3 0
    have qn := cell_row hn3 0
    have qx := cell_row hx3 0
    have ux := unfrozen_row hx3 0
    simp only [List.getElem?_toArray, List.getElem?_cons_zero, List.getElem?_cons_succ] at qs qn qx
    rw [← hrx, ← hsb]
    clear hW3 hs3 hx3 hn3 hd3 t3 hg ho hlo hLe hDe hsb hrx hsWa hsz hGF O h0 hqa hqb hqp hqt
    go_wp2_with fail
    have hD4 := (Below.heap_setCell W3 ⟨rx, 0, none⟩ (.bool true) D HDX.out).trans HD3.out
    have hx4 : ((W3.setCell ⟨rx, 0, none⟩ (.bool true)).putObj D (.deferred none)).heap[rx]? = some (.cells #[.bool true] 4 (0, 0)) := (World.putObj_heap_other HDX.out.symm).trans ((heap_setCell_row HX3.out 0 _).trans (by simp))
    have qx4 := cell_row hx4 0
    simp only [List.getElem?_toArray, List.getElem?_cons_zero] at qx4
    refine ⟨by simp, .inl ⟨_, _, rfl, run_takeDeferred hD4, ?_⟩⟩
    refine ⟨.bool true, by simp [results, Tryz.results23, go_sem, qx4], rfl, ?_⟩
    exact HG.out.hom HLO.out (((HT3.out.mono (by simp)).setCell (p := ⟨rx, 0, none⟩) (by simp) _).putObj _ (by simp))
end
end Go.Proofs.YtclplbnildnifaaGreatDoor
/-
  TapeRound, walked.
-/
namespace Go.Proofs.YtclplbnildnifaaGreatDoor
open Go.RowKit Go.Deep
set_option linter.unusedSimpArgs false
set_option linter.unusedVariables false

theorem cnt_mk {B : Nat} {bs : List (List UInt8)} {c r : Int} : (mkA B true bs c r).c.val = .agg #[.int .i64 c, .int .i64 r, .int .i64 (bs.length : Int), .int .i64 0, .int .i64 0, .int .i64 (bs.length : Int), .int .i64 (bs.length : Int)] := rfl

section
variable {W W' : World} {b : Bn} {k kb K B i kind : Nat} {bs : List (List UInt8)} {src : Src} {O : List (Nat × Obj)} {sa : Srco} {l : List Rc} {c r : Int}

theorem Hom.kk (h : Hom W b k kb K B bs sa l c r) : Calls Tryz.prog 8 #[ptr kb] W fun e w' => e = .returned (.int .i64 (K : Int)) ∧ w' = W := by
  obtain ⟨F, s, S, hi, hp, hk, hkF, hlk, hr⟩ := h.x
  exact K_any hk
theorem Hom.peak_s (h : Hom W b k kb K B bs sa l c r) : Calls Tryz.prog 19 #[ptr b.q] W fun e w' => e = .returned (.int .i64 (K : Int)) ∧ w' = W := by
  obtain ⟨F, s, S, hi, hp, hk, hkF, hlk, hr⟩ := h.x
  rw [← hp]
  exact YtclplbnildnifaaGreatDoor.peak_s S
theorem Hom.used_s (h : Hom W b k kb K B bs sa l c r) : Calls Tryz.prog 15 #[ptr b.q] W fun e w' => e = .returned (.int .i64 0) ∧ Hom w' b k kb K B bs sa l c r := by
  obtain ⟨F, s, S, hi, hp, hk, hkF, hlk, hr⟩ := h.x
  have H := YtclplbnildnifaaGreatDoor.used_s S
  rw [hi.hand, hi.lent] at H
  refine H.mono fun e w' ⟨e1, hw⟩ => ⟨e1, ?_⟩
  obtain ⟨F', S', t', f⟩ := hw
  refine ⟨F', s, S', hi, hp, hk.touch t' (by simpa using hkF), fun hx => ?_, hlk, hr.touch t' (fun y hy => S.base y (by simpa using hy)) (fun y hy => by simpa using hy) (fun y hy => f y hy)⟩
  rcases f _ hx with h | h
  · exact hkF h
  · have := lt_of_block hk; omega
theorem Hom.counts_s (h : Hom W b k kb K B bs sa l c r) : Calls Tryz.prog 18 #[ptr b.p] W fun e w' => e = .returned (.agg #[.int .i64 c, .int .i64 r, .int .i64 (bs.length : Int), .int .i64 0, .int .i64 0, .int .i64 (bs.length : Int), .int .i64 (bs.length : Int)]) ∧ Hom w' b k kb K B bs sa l c r := by
  obtain ⟨F, s, S, hi, hp, hk, hkF, hlk, hr⟩ := h.x
  have H := YtclplbnildnifaaGreatDoor.counts_s S
  rw [cnt_mk] at H
  exact H.mono fun e w' ⟨e1, t⟩ => ⟨e1, h.quiet t⟩
/-- a block that is laid is the caller's own. -/
theorem Hom.lay (h : Hom W b k kb K B bs ⟨src, []⟩ l c r) (o : Obj) : Hom (W.alloc o) b k kb K B bs ⟨src, [(W.heap.size, o)]⟩ l c r ∧ b.lo ≤ W.heap.size ∧ W.heap.size ≠ kb := by
  obtain ⟨F, s, S, hi, hp, hk, hkF, hlk, hr⟩ := h.x
  have t : Touch [] W (W.alloc o) := (Touch.refl [] W).alloc _
  have lk := lt_of_block hk
  refine ⟨⟨F, s, S.quiet t, hi, hp, hk.touch t (by simp), hkF, hlk, hr.1.touch t (by simp), fun p hp => ?_⟩, S.room, by omega⟩
  simp only [List.mem_singleton] at hp
  subst hp
  exact ⟨heap_alloc_new W o, fun hx => Nat.lt_irrefl _ (S.lt _ hx)⟩
/-- .. and is written over. -/
theorem Hom.over {y : Nat} {o : Obj} (h : Hom W b k kb K B bs ⟨src, [(y, o)]⟩ l c r) (hlo : b.lo ≤ y) (hne : y ≠ kb) (t : Touch [y] W W') : Hom W' b k kb K B bs ⟨src, []⟩ l c r := by
  obtain ⟨F, s, S, hi, hp, hk, hkF, hlk, hr⟩ := h.x
  have hy := hr.2 (y, o) (by simp)
  refine ⟨F, s, S.touch t (fun z hz => by simp at hz; subst hz; exact ⟨hy.2, hlo⟩), hi, hp, hk.touch t (by simp; exact fun e => hne e.symm), hkF, hlk, hr.1.touch t (fun z hz => by simp at hz; subst hz; exact hlo), fun p hp => by simp at hp⟩

theorem tap_of {b : Bn} {K B kind : Nat} {l : List Rc} (hbl : b.l = []) (hB : B = 32 + 32 * K) (hK : 1 ≤ K ∧ K ≤ 31) (hk1 : 1 ≤ kind) (hk2 : kind ≤ 5) (hs : smallR l) (hl : l.length ≤ 1048576) :
    Tap b K B kind (blocksOf kind K B l (nBlocks K l.length)) l :=
  ⟨hbl, hB, hK, hk1, hk2, hs, hl, blocksOf_length _ _ _ _ _, fun j hj => by rw [blocksOf_length] at hj; exact blocksOf_get hj⟩
end
end Go.Proofs.YtclplbnildnifaaGreatDoor
