import Derived.ChangeKeysEq
import Derived.ProofKit
import Derived.Deep.Slices
import Derived.LaidLaws
import Derived.MakeChecks
import Derived.Laws.IdiomArrays
import Derived.OpenShut
import Derived.Deep.DeepHandedRow
import Derived.Test.YtclplbnildnifaaGreatDoorTie
import Derived.Test.YtclplbnildnifaaGreatDoorCards
import Derived.Test.YtclplbnildnifaaGreatDoorZ12
/-
  TapeBits' stations.
-/
namespace Go.Proofs.YtclplbnildnifaaGreatDoor
open Go.RowKit Go.Deep
set_option linter.unusedSimpArgs false
set_option linter.unusedVariables false

theorem nBlocks_lt {K len v : Nat} (hK : 1 ≤ K) (h : v < nBlocks K len) : v * K < len := by
  have h1 : (v + 1) * K ≤ len + K - 1 := (Nat.le_div_iff_mul_le (by omega)).1 h
  rw [Nat.succ_mul] at h1
  omega
theorem nBlocks_le {K len : Nat} (hK : 1 ≤ K) : len ≤ nBlocks K len * K := by
  have h1 : len + K - 1 < (nBlocks K len + 1) * K := (Nat.div_lt_iff_lt_mul (by omega)).1 (Nat.lt_succ_self _)
  rw [Nat.succ_mul] at h1
  omega
theorem last_chunk {K v : Nat} {l : List Rc} (hK : 1 ≤ K) (hv : v + 1 = nBlocks K l.length) (hl : 0 < l.length) :
    ∃ a, chunk K v l = a ++ [l[l.length - 1]] ∧ (chunk K v l).length ≤ K ∧ v * K + (chunk K v l).length = l.length := by
  have h1 := nBlocks_lt hK (show v < nBlocks K l.length by omega)
  have h2 := nBlocks_le (len := l.length) hK
  rw [← hv, Nat.succ_mul] at h2
  have e : chunk K v l = l.drop (v * K) := by
    unfold chunk
    exact List.take_of_length_le (by rw [List.length_drop]; omega)
  have hne : l.drop (v * K) ≠ [] := by
    intro h
    have := congrArg List.length h
    simp at this
    omega
  rw [e]
  refine ⟨(l.drop (v * K)).dropLast, ?_, by rw [List.length_drop]; omega, by rw [List.length_drop]; omega⟩
  have h3 := List.dropLast_concat_getLast hne
  rw [List.getLast_drop, List.getLast_eq_getElem] at h3
  exact h3.symm

/-- what does not change once the block v is spoilt. -/
structure Kon (b : Bn) (K B : Nat) (bs : List (List UInt8)) (l : List Rc) (v : Nat) : Prop where
  nil : b.l = []
  hB : B = 32 + 32 * K
  hK : 1 ≤ K ∧ K ≤ 31
  small : smallR l
  len : l.length ≤ 1048576
  pos : 0 < l.length
  m : bs.length = nBlocks K l.length
  vlt : v < bs.length
  good : ∀ j, j < bs.length → j ≠ v → bs[j]? = some (encU 1 j (flatR (chunk K j l)) B)
  bad : ∃ bl, bs[v]? = some bl ∧ ¬ PureCrc.sumFits (numsU bl)
theorem Kon.few {b : Bn} {K B v : Nat} {bs : List (List UInt8)} {l : List Rc} (C : Kon b K B bs l v) : bs.length ≤ 1048576 := by
  have h := C.m
  have hl := C.len
  have hp := C.pos
  have h1 := nBlocks_lt C.hK.1 (show nBlocks K l.length - 1 < nBlocks K l.length by have := C.vlt; omega)
  have h2 : (nBlocks K l.length - 1) * 1 ≤ (nBlocks K l.length - 1) * K := Nat.mul_le_mul_left _ C.hK.1
  omega
theorem Kon.vl {b : Bn} {K B v : Nat} {bs : List (List UInt8)} {l : List Rc} (C : Kon b K B bs l v) : v * K < l.length := nBlocks_lt C.hK.1 (by have := C.vlt; have := C.m; omega)

/-- where the records lie, and the world at the law's start. -/
structure Src where
  sa : Option Addr
  w : World
structure Keep (W : World) (lo : Nat) (x : Src) (l : List Rc) : Prop where
  recs : RecsIn W lo x.sa l
  t : Touch [] x.w W
  le : x.w.heap.size ≤ lo
theorem Keep.touch {w w' : World} {lo : Nat} {x : Src} {l : List Rc} {G : List Nat} (h : Keep w lo x l) (t : Touch G w w') (hG : ∀ y ∈ G, lo ≤ y) : Keep w' lo x l :=
  ⟨h.recs.touch t hG, h.t.trans t (fun y hy => .inr (Nat.le_trans h.le (hG y hy))), h.le⟩

structure Home (W : World) (b : Bn) (k kb K B : Nat) (bs : List (List UInt8)) (sa : Src) (l : List Rc) : Prop where
  x : ∃ F s, ∃ c r : Int, Stand W b k (mkA B true bs c r) s F ∧ Idle s K ∧ DeskAt W kb b (K : Int) 1 ∧ kb ∉ F ∧ b.lo ≤ kb ∧ Keep W b.lo sa l

structure Rdg (W : World) (b : Bn) (k kb rb K B : Nat) (bs : List (List UInt8)) (sa : Src) (l : List Rc) (i : Nat) : Prop where
  x : ∃ w F s t, NxI w W b k (s.take (K : Int)) F kb rb 1 K B bs.length bs l i t ∧ Idle s K ∧ DeskAt w kb b (K : Int) 1 ∧ kb ∉ F ∧ b.lo ≤ kb ∧ Keep w b.lo sa l ∧ rb ∉ F ∧ b.lo ≤ rb ∧ rb ≠ kb ∧ rb < w.heap.size ∧ ∀ y ∈ F, b.lo ≤ y

structure Ddd (W : World) (b : Bn) (k kb rb K B : Nat) (bs : List (List UInt8)) (sa : Src) (l : List Rc) : Prop where
  x : ∃ w F s, DeadI w W b k (s.take (K : Int)) F kb rb 1 B bs 30 ∧ Idle s K ∧ DeskAt w kb b (K : Int) 1 ∧ kb ∉ F ∧ b.lo ≤ kb ∧ Keep w b.lo sa l ∧ rb ∉ F ∧ b.lo ≤ rb ∧ rb ≠ kb ∧ rb < w.heap.size ∧ ∀ y ∈ F, b.lo ≤ y

section
variable {W W' : World} {b : Bn} {k kb rb K B i v : Nat} {bs : List (List UInt8)} {sa : Src} {l : List Rc}

theorem Home.kk (h : Home W b k kb K B bs sa l) : Calls Tryz.prog 8 #[ptr kb] W fun e w' => e = .returned (.int .i64 (K : Int)) ∧ w' = W := by
  obtain ⟨F, s, c, r, S, hi, hk, hkF, hlk, hr⟩ := h.x
  exact K_any hk
theorem Home.block (h : Home W b k kb K B bs sa l) : Calls Tryz.prog 9 #[ptr b.p] W fun e w' => e = .returned (.int .i64 (B : Int)) ∧ w' = W := by
  obtain ⟨F, s, c, r, S, hi, hk, hkF, hlk, hr⟩ := h.x
  exact block_s S
theorem Home.recs (h : Home W b k kb K B bs sa l) : Keep W b.lo sa l := by
  obtain ⟨F, s, c, r, S, hi, hk, hkF, hlk, hr⟩ := h.x
  exact hr
/-- a call has been made. -/
theorem Home.went {W' : World} {k' : Nat} {F : List Nat} {s s' : Pu.St} {A : PubA} {n : Nat} {bs' : List (List UInt8)} {c' r' : Int} (S : Stand W b n A s F) (hk : DeskAt W kb b (K : Int) 1) (hkF : kb ∉ F) (hlk : b.lo ≤ kb) (hr : Keep W b.lo sa l) (hi' : Idle s' K) (h : Went W W' b k' (mkA B true bs' c' r') s' F []) : Home W' b k' kb K B bs' sa l := by
  obtain ⟨F', S', t, f⟩ := h
  refine ⟨F', s', c', r', S', hi', hk.touch t (by simpa using hkF), fun hx => ?_, hlk, hr.touch t (fun y hy => S.base y (by simpa using hy))⟩
  rcases f _ hx with h | h
  · exact hkF h
  · have := lt_of_block hk; omega

theorem home_spoil (h : Home W b k kb K B bs sa l) (hk : k < 549755813888) {i bit : Nat} (hi : i < bs.length) (hbit : bit < 8 * B) :
    Calls Tryz.prog 11 #[ptr b.p, .string nmA, .int .i64 (i : Int), .int .i64 (bit : Int)] W fun e w' => e = .returned (.int .i64 0) ∧ Home w' b (k + 1) kb K B (bs.set i ((bs[i]?.getD []).set (bit / 8) (flipB ((bs[i]?.getD [])[bit / 8]?.getD 0) (bit : Int)))) sa l := by
  obtain ⟨F, s, c, r, S, hid, hkk, hkF, hlk, hr⟩ := h.x
  have H := spoil_s S (by omega) nmA (i : Int) (bit : Int)
  rw [spoil_mk hi hbit] at H
  exact H.mono fun e w' ⟨e1, hw⟩ => ⟨e1, Home.went S hkk hkF hlk hr hid hw⟩

theorem home_read (h : Home W b k kb K B bs sa l) (C : Kon b K B bs l v) (hk : k < 549755813888) :
    Calls Tryz.prog 12 #[ptr kb, .string nmA, .int .i64 1] W fun e w' => ∃ rb, e = .returned (.tuple #[ptr rb, .int .i64 0]) ∧ Rdg w' b k kb rb K B bs sa l 0 := by
  obtain ⟨F, s, c, r, S, hid, hkk, hkF, hlk, hr⟩ := h.x
  refine (TRead_ok (T := 1) S (by omega) hkk hkF nmA 1 (hold_mk (by omega) hid.leave)).mono fun e w' ⟨rb, e1, hw, row⟩ => ⟨rb, e1, ?_⟩
  obtain ⟨F', S', t, f, hN⟩ := hw
  obtain ⟨n1, n2, n3⟩ := hN rb (by simp)
  have lk := lt_of_block hkk
  rw [length_mk] at row
  have hlo : b.lo ≤ w'.heap.size := S'.room
  have hkF' : kb ∉ F' := fun hx => by
    rcases f _ hx with h | h
    · exact hkF h
    · omega
  obtain ⟨g, hg1, hg2, hg3, hg4⟩ : ∃ g, g ∉ F' ∧ g ≠ rb ∧ g < w'.heap.size ∧ b.lo ≤ g := ⟨kb, hkF', by omega, by have := t.size; omega, hlk⟩
  refine ⟨w', F', s, 0, ⟨⟨F', g, .slice none 0 0, c, r, S', Touch.refl _ _, fun y hy => .inl hy, hg1, hg2, hg3, hg4, row, ?_⟩, by omega, by omega, by have := C.hK; omega⟩, hid, hkk.touch t (by simpa using hkF), hkF', hlk, hr.touch t (fun y hy => S.base y (by simpa using hy)), n1, Nat.le_trans S.room n2, by omega, n3, S'.base⟩
  simp only [Nat.zero_mul, Nat.zero_sub, List.take_zero]
  exact LsAt.none _ _

theorem Rdg.quiet (h : Rdg W b k kb rb K B bs sa l i) (t : Touch [] W W') : Rdg W' b k kb rb K B bs sa l i := by
  obtain ⟨w, F, s, tt, I, hi, hk, hkF, hlk, hr, h1, h2, h3, h4, h5⟩ := h.x
  obtain ⟨F', g, lv, c, r, S, tw, f, n1, n2, n3, n4, row, ls⟩ := I.went
  exact ⟨w, F, s, tt, ⟨⟨F', g, lv, c, r, S.quiet t, tw.trans t (by simp), f, n1, n2, Nat.lt_of_lt_of_le n3 t.size, n4, (t.block rb (lt_of_block row) (by simp)).trans row, ls.touch t (by simp)⟩, I.le, I.few, I.near⟩, hi, hk, hkF, hlk, hr, h1, h2, h3, h4, h5⟩
theorem Rdg.recs (h : Rdg W b k kb rb K B bs sa l i) : Keep W b.lo sa l := by
  obtain ⟨w, F, s, tt, I, hi, hk, hkF, hlk, hr, h1, h2, h3, h4, h5⟩ := h.x
  obtain ⟨F', g, lv, c, r, S, tw, f, n1, n2, n3, n4, row, ls⟩ := I.went
  exact hr.touch tw (fun y hy => by simp at hy; rcases hy with rfl | hy; exact h2; exact h5 y hy)
theorem Rdg.kk (h : Rdg W b k kb rb K B bs sa l i) : Calls Tryz.prog 8 #[ptr kb] W fun e w' => e = .returned (.int .i64 (K : Int)) ∧ w' = W := by
  obtain ⟨w, F, s, tt, I, hi, hk, hkF, hlk, hr, h1, h2, h3, h4, h5⟩ := h.x
  obtain ⟨F', g, lv, c, r, S, tw, f, n1, n2, n3, n4, row, ls⟩ := I.went
  exact K_any (hk.touch tw (by simp; exact ⟨fun e => h3 e.symm, hkF⟩))

theorem rdg_next (h : Rdg W b k kb rb K B bs sa l i) (C : Kon b K B bs l v) (hk : k < 549755813888) (hi : i < v * K) (hil : i < l.length) :
    Calls Tryz.prog 13 #[ptr rb] W fun e w' => e = .returned (.tuple #[(l[i]).val, .bool true, .int .i64 0]) ∧ Rdg w' b k kb rb K B bs sa l (i + 1) := by
  obtain ⟨w, F, s, tt, I, hid, hkk, hkF, hlk, hr, h1, h2, h3, h4, h5⟩ := h.x
  refine (next_step I hk hkk hkF C.nil C.hB C.hK (by omega) (by omega) C.small hil C.len h1 h2 h3 h4 C.few rfl hi C.vlt (fun j hj => C.good j (by have := C.vlt; omega) (by omega)) (by have := C.vl; omega)).mono fun e w' ⟨e1, t', I'⟩ => ⟨e1, w, F, s, t', I', hid, hkk, hkF, hlk, hr, h1, h2, h3, h4, h5⟩

theorem rdg_bad (h : Rdg W b k kb rb K B bs sa l (v * K)) (C : Kon b K B bs l v) (hk : k < 549755813888) :
    Calls Tryz.prog 13 #[ptr rb] W fun e w' => e = .returned (.tuple #[zeroR, .bool false, .int .i64 30]) ∧ Ddd w' b (k + v + 1) kb rb K B bs sa l := by
  obtain ⟨w, F, s, tt, I, hid, hkk, hkF, hlk, hr, h1, h2, h3, h4, h5⟩ := h.x
  obtain ⟨bl, hb1, hb2⟩ := C.bad
  refine (next_spoilt I hk hkk hkF C.nil C.hB C.hK (by omega) (by omega) h1 h2 h3 h4 C.few rfl C.vlt hb1 hb2).mono fun e w' ⟨e1, I'⟩ => ⟨e1, w, F, s, I', hid, hkk, hkF, hlk, hr, h1, h2, h3, h4, h5⟩

theorem Ddd.quiet (h : Ddd W b k kb rb K B bs sa l) (t : Touch [] W W') : Ddd W' b k kb rb K B bs sa l := by
  obtain ⟨w, F, s, I, hi, hk, hkF, hlk, hr, h1, h2, h3, h4, h5⟩ := h.x
  obtain ⟨F', lv, bk, tk, c, r, S, tw, f, row⟩ := I.went
  exact ⟨w, F, s, ⟨⟨F', lv, bk, tk, c, r, S.quiet t, tw.trans t (by simp), f, (t.block rb (lt_of_block row) (by simp)).trans row⟩⟩, hi, hk, hkF, hlk, hr, h1, h2, h3, h4, h5⟩
theorem ddd_next (h : Ddd W b k kb rb K B bs sa l) :
    Calls Tryz.prog 13 #[ptr rb] W fun e w' => e = .returned (.tuple #[zeroR, .bool false, .int .i64 30]) ∧ Ddd w' b k kb rb K B bs sa l := by
  obtain ⟨w, F, s, I, hi, hk, hkF, hlk, hr, h1, h2, h3, h4, h5⟩ := h.x
  exact (next_dead I (by decide)).mono fun e w' ⟨e1, I'⟩ => ⟨e1, w, F, s, I', hi, hk, hkF, hlk, hr, h1, h2, h3, h4, h5⟩
theorem ddd_close (h : Ddd W b k kb rb K B bs sa l) :
    Calls Tryz.prog 14 #[ptr rb] W fun e w' => e = .returned (.int .i64 0) ∧ Home w' b k kb K B bs sa l := by
  obtain ⟨w, F, s, I, hi, hk, hkF, hlk, hr, h1, h2, h3, h4, h5⟩ := h.x
  obtain ⟨F', lv, bk, tk, c, r, S, tw, f, row⟩ := I.went
  have hkW := hk.touch tw (by simp; exact ⟨fun e => h3 e.symm, hkF⟩)
  have hrW := hr.touch tw (fun y hy => by simp at hy; rcases hy with rfl | hy; exact h2; exact h5 y hy)
  have hkF' : kb ∉ F' := fun hx => by
    rcases f _ hx with h | h
    · exact hkF h
    · have := lt_of_block hk; omega
  have hrF' : rb ∉ F' := fun hx => by
    rcases f _ hx with h | h
    · exact h1 h
    · omega
  refine (RClose_any S hkW hkF' row hrF' h2 h3).mono fun e w' ⟨e1, hw⟩ => ⟨e1, ?_⟩
  obtain ⟨F2, S2, t2, f2⟩ := hw
  refine ⟨F2, _, c, r, S2, hi.back, hkW.touch t2 (by simp; exact ⟨fun e => h3 e.symm, hkF'⟩), fun hx => ?_, hlk, hrW.touch t2 (fun y hy => by simp at hy; rcases hy with rfl | hy; exact h2; exact S.base y hy)⟩
  rcases f2 _ hx with h | h
  · exact hkF' h
  · have := lt_of_block hkW; omega
theorem home_used (h : Home W b k kb K B bs sa l) :
    Calls Tryz.prog 15 #[ptr b.q] W fun e w' => e = .returned (.int .i64 0) ∧ Home w' b k kb K B bs sa l := by
  obtain ⟨F, s, c, r, S, hi, hk, hkF, hlk, hr⟩ := h.x
  have H := used_s S
  rw [hi.used] at H
  exact H.mono fun e w' ⟨e1, hw⟩ => ⟨e1, Home.went S hk hkF hlk hr hi hw⟩

/-- Last and Size, the last block spoilt. -/
theorem home_last_bad (h : Home W b k kb K B bs sa l) (C : Kon b K B bs l v) (hv : v + 1 = bs.length) (hk : k < 549755813888) :
    Calls Tryz.prog 16 #[ptr kb, .string nmA, .int .i64 1] W fun e w' => e = .returned (.tuple #[zeroR, .bool false, .int .i64 30]) ∧ Home w' b (k + 1) kb K B bs sa l := by
  obtain ⟨F, s, c, r, S, hi, hkk, hkF, hlk, hr⟩ := h.x
  obtain ⟨bl, hb1, hb2⟩ := C.bad
  exact (last_bad (kind := 1) S hk hkk hkF C.nil C.hB C.hK (by omega) (by omega) hi hv C.few hb1 hb2).mono fun e w' ⟨e1, hw⟩ => ⟨e1, Home.went S hkk hkF hlk hr hi.back hw⟩

theorem Kon.last (C : Kon b K B bs l v) (hv : v + 1 ≠ bs.length) : ∃ u, u + 1 = bs.length ∧ ∃ a, chunk K u l = a ++ [l[l.length - 1]'(by have := C.pos; omega)] ∧ (chunk K u l).length ≤ K ∧ u * K + (chunk K u l).length = l.length ∧ bs[u]? = some (encU 1 u (flatR (chunk K u l)) B) ∧ Good 1 u (encU 1 u (flatR (chunk K u l)) B) (chunk K u l) := by
  obtain ⟨u, hu⟩ : ∃ u, u + 1 = bs.length := ⟨bs.length - 1, by have := C.vlt; omega⟩
  obtain ⟨a, h1, h2, h3⟩ := last_chunk C.hK.1 (hu.trans C.m) C.pos
  have hB := C.hB
  have hK := C.hK
  have hf := C.few
  have h0 : 1 ≤ (chunk K u l).length := by rw [h1]; simp
  exact ⟨u, hu, a, h1, h2, h3, C.good u (by omega) (by omega), encU_good (by omega) (by omega) h0 (by omega) (by omega) (by omega) (flatR_mem (fun y hy => List.mem_of_mem_drop (List.mem_of_mem_take hy)) C.small) (by omega)⟩
theorem home_last_ok (h : Home W b k kb K B bs sa l) (C : Kon b K B bs l v) (hv : v + 1 ≠ bs.length) (hk : k < 549755813888) :
    Calls Tryz.prog 16 #[ptr kb, .string nmA, .int .i64 1] W fun e w' => e = .returned (.tuple #[(l[l.length - 1]'(by have := C.pos; omega)).val, .bool true, .int .i64 0]) ∧ Home w' b (k + 1) kb K B bs sa l := by
  obtain ⟨F, s, c, r, S, hi, hkk, hkF, hlk, hr⟩ := h.x
  obtain ⟨u, hu, a, h1, h2, h3, h4, h5⟩ := C.last hv
  exact (last_ok (kind := 1) S hk hkk hkF C.nil C.hB C.hK (by omega) (by omega) hi hu C.few h4 h1 h2 h5).mono fun e w' ⟨e1, hw⟩ => ⟨e1, Home.went S hkk hkF hlk hr hi.back hw⟩
end
end Go.Proofs.YtclplbnildnifaaGreatDoor
/-
  Records are compared.
-/
namespace Go.Proofs.YtclplbnildnifaaGreatDoor
open Go.RowKit Go.Deep
theorem info36 : ∃ i, Tryz.prog.info? 36 = some i ∧ Tryz.prog.cellsOf 36 = 1 := by
  have h : (Tryz.prog.info? 36).isSome = true := by kernel_rfl
  obtain ⟨i, hi⟩ := Option.isSome_iff_exists.1 h
  exact ⟨i, hi, by kernel_rfl⟩
theorem eq_rec (w : World) (a0 a1 a2 a3 b0 b1 b2 b3 : Int) : (Op.equalIn 10000 38 (.agg #[.int .u64 a0, .int .u64 a1, .int .u64 a2, .int .u64 a3]) (.agg #[.int .u64 b0, .int .u64 b1, .int .u64 b2, .int .u64 b3])).run Tryz.prog w = .ok (a0 == b0 && (a1 == b1 && (a2 == b2 && a3 == b3))) w := by
  obtain ⟨i, hi, hc⟩ := info36
  rw [run_equalIn_array w 9999 _ _ Tryz.underlying38 hi, hc]
  simp only [List.range, List.range.loop, Op.eqItems]
  simp [go_sem]
  by_cases h0 : a0 = b0 <;> by_cases h1 : a1 = b1 <;> by_cases h2 : a2 = b2 <;> by_cases h3 : a3 = b3 <;> simp [h0, h1, h2, h3]

section
variable {W W2 : World} {b : Bn} {k kb K B v z : Nat} {bs : List (List UInt8)} {sa : Src} {l : List Rc}
theorem Home.kept {k' : Nat} {F : List Nat} {s s' : Pu.St} {A : PubA} {n : Nat} {bs' : List (List UInt8)} {c' r' : Int} {w' : World} (S : Stand W b n A s F) (hk : DeskAt W kb b (K : Int) 1) (hkF : kb ∉ F) (hlk : b.lo ≤ kb) (hr : Keep W b.lo sa l) (hi' : Idle s' K) (t : Touch [] W W2) (hs : W.heap.size < W2.heap.size) (h : Went W2 w' b k' (mkA B true bs' c' r') s' F []) : Home w' b k' kb K B bs' sa l ∧ w'.heap[W.heap.size]? = W2.heap[W.heap.size]? := by
  refine ⟨Home.went (S.quiet t) (hk.touch t (by simp)) hkF hlk (hr.touch t (by simp)) hi' h, ?_⟩
  obtain ⟨F', S', t', f⟩ := h
  exact t'.block _ hs (by simp; exact fun hx => Nat.lt_irrefl _ (S.lt _ hx))
theorem home_size_bad2 (h : Home W b k kb K B bs sa l) (C : Kon b K B bs l v) (hv : v + 1 = bs.length) (hk : k < 549755813888) (t : Touch [] W W2) (hs : W.heap.size < W2.heap.size) :
    Calls Tryz.prog 17 #[ptr kb, .string nmA, .int .i64 1] W2 fun e w' => e = .returned (.tuple #[.int .i64 0, .int .i64 30]) ∧ Home w' b (k + 1) kb K B bs sa l ∧ w'.heap[W.heap.size]? = W2.heap[W.heap.size]? := by
  obtain ⟨F, s, c, r, S, hi, hkk, hkF, hlk, hr⟩ := h.x
  obtain ⟨bl, hb1, hb2⟩ := C.bad
  exact (size_bad (kind := 1) (S.quiet t) hk (hkk.touch t (by simp)) hkF C.nil C.hB C.hK (by omega) (by omega) hi hv C.few hb1 hb2).mono fun e w' ⟨e1, hw⟩ => ⟨e1, Home.kept S hkk hkF hlk hr hi.back t hs hw⟩
theorem home_size_ok2 (h : Home W b k kb K B bs sa l) (C : Kon b K B bs l v) (hv : v + 1 ≠ bs.length) (hk : k < 549755813888) (t : Touch [] W W2) (hs : W.heap.size < W2.heap.size) :
    Calls Tryz.prog 17 #[ptr kb, .string nmA, .int .i64 1] W2 fun e w' => e = .returned (.tuple #[.int .i64 (l.length : Int), .int .i64 0]) ∧ Home w' b (k + 1) kb K B bs sa l ∧ w'.heap[W.heap.size]? = W2.heap[W.heap.size]? := by
  obtain ⟨F, s, c, r, S, hi, hkk, hkF, hlk, hr⟩ := h.x
  obtain ⟨u, hu, a, h1, h2, h3, h4, h5⟩ := C.last hv
  have H := (size_ok (kind := 1) (S.quiet t) hk (hkk.touch t (by simp)) hkF C.nil C.hB C.hK (by omega) (by omega) hi hu C.few h4 h1 h2 h5)
  rw [show bs.length - 1 = u by omega, h3] at H
  exact H.mono fun e w' ⟨e1, hw⟩ => ⟨e1, Home.kept S hkk hkF hlk hr hi.back t hs hw⟩
theorem home_last_ok2 (h : Home W b k kb K B bs sa l) (C : Kon b K B bs l v) (hv : v + 1 ≠ bs.length) (hk : k < 549755813888) (hz : z < l.length) (hz1 : z + 1 = l.length) :
    Calls Tryz.prog 16 #[ptr kb, .string nmA, .int .i64 1] W fun e w' => e = .returned (.tuple #[(l[z]).val, .bool true, .int .i64 0]) ∧ Home w' b (k + 1) kb K B bs sa l := by
  obtain rfl : z = l.length - 1 := by omega
  exact home_last_ok h C hv hk
theorem next_two {rb i j n : Nat} (h0 : j = 0 → Rdg W b n kb rb K B bs sa l i) (h1 : j ≠ 0 → Ddd W b (n + v + 1) kb rb K B bs sa l) (e : i = v * K) (C : Kon b K B bs l v) (hn : n < 549755813888) :
    Calls Tryz.prog 13 #[ptr rb] W fun e w' => e = .returned (.tuple #[zeroR, .bool false, .int .i64 30]) ∧ Ddd w' b (n + v + 1) kb rb K B bs sa l := by
  by_cases h : j = 0
  · have H := h0 h
    rw [e] at H
    exact rdg_bad H C hn
  · exact ddd_next (h1 h)
end
end Go.Proofs.YtclplbnildnifaaGreatDoor
/-
  TapeBits, walked.
-/
namespace Go.Proofs.YtclplbnildnifaaGreatDoor
open Go.RowKit Go.Deep
set_option linter.unusedSimpArgs false
set_option linter.unusedVariables false

theorem kon_of {b : Bn} {K B v bit : Nat} {l : List Rc} (hbl : b.l = []) (hB : B = 32 + 32 * K) (hK : 1 ≤ K ∧ K ≤ 31) (hs : smallR l) (hl : l.length ≤ 1048576) (hp : 0 < l.length) (hv : v < nBlocks K l.length) (hbit : bit < 8 * B) :
    Kon b K B ((blocksOf 1 K B l (nBlocks K l.length)).set v ((((blocksOf 1 K B l (nBlocks K l.length)))[v]?.getD []).set (bit / 8) (flipB ((((blocksOf 1 K B l (nBlocks K l.length)))[v]?.getD [])[bit / 8]?.getD 0) (bit : Int)))) l v := by
  have hvl := nBlocks_lt hK.1 hv
  have hm : nBlocks K l.length ≤ 1048576 := by
    have h1 := nBlocks_lt hK.1 (show nBlocks K l.length - 1 < nBlocks K l.length by omega)
    have h2 : (nBlocks K l.length - 1) * 1 ≤ (nBlocks K l.length - 1) * K := Nat.mul_le_mul_left _ hK.1
    omega
  have hcl : 1 ≤ (chunk K v l).length ∧ (chunk K v l).length ≤ K := by
    unfold chunk
    rw [List.length_take, List.length_drop]
    omega
  refine ⟨hbl, hB, hK, hs, hl, hp, by rw [List.length_set, blocksOf_length], by rw [List.length_set, blocksOf_length]; exact hv, fun j hj hne => ?_, ⟨_, List.getElem?_set_self (by rw [blocksOf_length]; exact hv), ?_⟩⟩
  · rw [List.length_set, blocksOf_length] at hj
    rw [List.getElem?_set_ne (fun e => hne e.symm)]
    exact blocksOf_get hj
  · rw [blocksOf_get hv]
    have hle : (encU 1 v (flatR (chunk K v l)) B).length = B := encU_length (by rw [flatR_length]; omega)
    exact spoilt_sum (encU_good (l := chunk K v l) (by omega) (by omega) hcl.1 (by omega) (by omega) (by omega) (flatR_mem (fun y hy => List.mem_of_mem_drop (List.mem_of_mem_take hy)) hs) (by omega)).sum (by show 4 ≤ (encU 1 v (flatR (chunk K v l)) B).length; omega) (by show bit < 8 * (encU 1 v (flatR (chunk K v l)) B).length; omega)

set_option maxRecDepth 100000 in
set_option maxHeartbeats 4000000 in
theorem bits_any {w : World} {E : Nat → Addr} {lo : Nat} (V : Env w lo E) (hlo : lo = w.heap.size) (size at_ : Int) {sa : Option Addr} {l : List Rc} {c : Nat} (hin : RecsIn w lo sa l) (hs : smallR l) (hl : l.length ≤ 1048576) :
    Calls Tryz.prog 3 #[.int .i64 size, .slice sa l.length c, .int .i64 at_] w fun e w' => e = .returned (.bool true) ∧ Touch [] w w' := by
  have HLO := hid hlo
  have HD := hid (desk_any V (Nat.le_of_eq hlo) size)
  have HIN := hid hin
  have HSM := hid hs
  have hgt : decide ((549755813888 : Int) < (l.length : Int)) = false := by simp; omega
  have hgt2 : ¬ (549755813888 : Int) < (l.length : Int) := by omega
  by_cases hp : l.length = 0
  · have hd0 : ((l.length : Int) == 0) = true := by simp [hp]
    have hd1 : (l.length : Int) = 0 := by omega
    clear V hlo hin hs
    go_enter Tryz.func3, Tryz.ntmps3
    go_wp2_with (go_at_call 6; refine HD.out.mono ?_; rintro e w1 ⟨b, kb, lb, F, rfl, -, -, ht1, -⟩; have HT1 := hid ht1; clear ht1)
    go_ret
    exact ⟨rfl, HT1.out⟩
  · have hp' : 0 < l.length := by omega
    have hd1 : ¬ (l.length : Int) = 0 := by omega
    have hd0 : ((l.length : Int) == 0) = false := beq_eq_false_iff_ne.2 hd1
    obtain ⟨K, hKe⟩ : ∃ K : Nat, K = 1 + (size % 31).toNat := ⟨_, rfl⟩
    have hK : 1 ≤ K ∧ K ≤ 31 := by
      have h0 := Int.emod_nonneg size (show (31 : Int) ≠ 0 by omega)
      have h1 := Int.emod_lt_of_pos size (show (0 : Int) < 31 by omega)
      omega
    obtain ⟨B, hB⟩ : ∃ B : Nat, B = 32 + 32 * K := ⟨_, rfl⟩
    rw [← hKe, ← hB] at HD
    have HK := hid hK
    have HB := hid hB
    obtain ⟨M, hM⟩ : ∃ M, M = nBlocks K l.length := ⟨_, rfl⟩
    have HM := hid hM
    have hBb : B ≤ 1024 ∧ 64 ≤ B := by omega
    have hMb : 1 ≤ M ∧ M ≤ 1048576 := by
      have h2 := nBlocks_le (len := l.length) hK.1
      rw [← hM] at h2
      have h3 : 1 ≤ M := by
        rcases Nat.eq_zero_or_pos M with h | h
        · rw [h] at h2; omega
        · exact h
      have h1 := nBlocks_lt hK.1 (show M - 1 < nBlocks K l.length by omega)
      have h4 : (M - 1) * 1 ≤ (M - 1) * K := Nat.mul_le_mul_left _ hK.1
      omega
    have HMe : Hid (((l.length : Int) + (K : Int) - 1) / (K : Int) = (M : Int)) := by
      rw [hM]
      unfold nBlocks
      rw [Int.natCast_ediv]
      congr 1
      omega
    have HR1 : Hid (∀ X W, Calls Tryz.prog 10 #[.int .i64 X, .int .i64 (M : Int)] W fun e w' => (∃ v : Nat, v < M ∧ e = .returned (.int .i64 (v : Int))) ∧ w' = W) := fun X W => (rest_any X (M : Int) (by omega) (by omega) W).mono fun e w' ⟨e1, h⟩ => by
      have h0 := Int.emod_nonneg X (show (M : Int) ≠ 0 by omega)
      have h1 := Int.emod_lt_of_pos X (show (0 : Int) < M by omega)
      exact ⟨⟨(X % (M : Int)).toNat, by omega, by rw [e1, Int.toNat_of_nonneg h0]⟩, h⟩
    have HR2 : Hid (∀ X W, Calls Tryz.prog 10 #[.int .i64 X, .int .i64 (8 * (B : Int))] W fun e w' => (∃ v : Nat, v < 8 * B ∧ e = .returned (.int .i64 (v : Int))) ∧ w' = W) := fun X W => (rest_any X (8 * (B : Int)) (by omega) (by omega) W).mono fun e w' ⟨e1, h⟩ => by
      have h0 := Int.emod_nonneg X (show (8 * (B : Int)) ≠ 0 by omega)
      have h1 := Int.emod_lt_of_pos X (show (0 : Int) < 8 * (B : Int) by omega)
      exact ⟨⟨(X % (8 * (B : Int))).toNat, by omega, by rw [e1, Int.toNat_of_nonneg h0]⟩, h⟩
    have HP := hid hp'
    clear V hlo hin hs hB hKe hM
    go_enter Tryz.func3, Tryz.ntmps3
    go_wp2_with (first
      | (go_at_call 6; go_loud (refine HD.out.mono ?_; rintro e w1 ⟨b, kb, lb, F, rfl, hblo, hbl, ht1, hS, hdk, hkF, hkb, hF⟩; have HL : Hid (Calls Tryz.prog 7 #[ptr kb, .string nmA, .int .i64 1, .slice sa l.length c] w1 fun e w' => e = .returned (.int .i64 0) ∧ Home w' b (l.length + 3) kb K B (blocksOf 1 K B l M) ⟨sa, w⟩ l) := (by have hr0 := (HIN.out.touch ht1 (by simp)); rw [← hblo] at hr0; have hr1 : Keep w1 b.lo ⟨sa, w⟩ l := ⟨hr0, ht1, by have := HLO.out; show w.heap.size ≤ b.lo; omega⟩; have L := lay_any (kind := 1) hS hdk hkF hbl HB.out HK.out (by omega) (by omega) hl HSM.out (Idle.new K lb).leave hS.room (c := c) hr0; rw [← HM.out] at L; exact L.mono fun e w' ⟨e1, hw⟩ => ⟨e1, Home.went hS hdk hkF (by have := HLO.out; omega) hr1 (Idle.new K lb).back hw⟩); have HBL := hid hbl; clear hblo hbl ht1 hS hdk hkF hkb hF))
      | (go_at_call 7; refine HL.out.mono ?_; rintro e w2 ⟨rfl, hh⟩; have HH := hid hh; have HK8 := hid hh.kk; have HB9 := hid hh.block; have HSP : Hid (∀ v bit : Nat, v < M → bit < 8 * B → Calls Tryz.prog 11 #[ptr b.p, .string nmA, .int .i64 (v : Int), .int .i64 (bit : Int)] w2 fun e w' => e = .returned (.int .i64 0) ∧ ∃ bs, Kon b K B bs l v ∧ bs.length = M ∧ Home w' b (l.length + 3 + 1) kb K B bs ⟨sa, w⟩ l) := (fun v bit hv hb => by have H := home_spoil HH.out (by omega) (i := v) (bit := bit) (by rw [blocksOf_length]; exact hv) hb; have C := kon_of (bit := bit) HBL.out HB.out HK.out HSM.out hl HP.out (show v < nBlocks K l.length by rw [← HM.out]; exact hv) hb; rw [← HM.out] at C; exact H.mono fun e w' ⟨e1, h⟩ => ⟨e1, _, C, by rw [List.length_set, blocksOf_length], h⟩); clear hh)
      | (go_at_call 8; refine HK8.out.mono ?_; rintro e w3 ⟨rfl, hh⟩; have hh := hh.symm; subst hh)
      | (go_at_call 9; refine HB9.out.mono ?_; rintro e w3 ⟨rfl, hh⟩; have hh := hh.symm; subst hh)
      | (go_at_call 10; rw [HMe.out]; refine (HR1.out _ _).mono ?_; rintro e w3 ⟨⟨v, hv, rfl⟩, hh⟩; have hh := hh.symm; subst hh)
      | (go_at_call 10; refine (HR2.out _ _).mono ?_; rintro e w3 ⟨⟨bit, hbit, rfl⟩, hh⟩; have hh := hh.symm; subst hh)
      | (go_at_call 11; refine (HSP.out v bit hv hbit).mono ?_; rintro e w4 ⟨rfl, bs, hC, hbl, hh⟩; have HC := hid hC; have HN := hid hbl; have HH4 := hid hh; have HRD := hid (home_read hh hC (by omega)); clear hC hbl hh)
      | (go_at_call 12; refine HRD.out.mono ?_; rintro e w5 ⟨rb, rfl, hh⟩; have HG5 := hid hh; clear hh))
    obtain ⟨Q, hQ⟩ : ∃ Q, Q = v * K := ⟨_, rfl⟩
    have hwQ : IntKind.i64.wrap ((v : Int) * (K : Int)) = (Q : Int) := by
      have h1 := HC.out.vl
      rw [← hQ] at h1
      have e : (v : Int) * (K : Int) = (Q : Int) := by rw [hQ]; simp
      rw [e, IntKind.wrap_i64]
      omega
    have hQl : Q < l.length := by rw [hQ]; exact HC.out.vl
    have HQ := hid hQ
    clear hQ
    go_loopw [16] (fun i W => ∃ k : Nat, k ≤ Q ∧ i = .int .i64 k ∧ Rdg W b (l.length + 3 + 1) kb rb K B bs ⟨sa, w⟩ l k) (fun i _ => Q - (intOf i).toNat)
    case atStart => exact ⟨0, Nat.zero_le _, rfl, HG5.out⟩
    case round =>
      obtain ⟨k, hk, rfl, hI⟩ := hrel
      have HI := hid hI
      have HKI := hid hI.kk
      clear hI
      by_cases hkQ : k < Q
      · have hkl : k < l.length := by omega
        have HNX := hid (rdg_next HI.out HC.out (by omega) (by have := HQ.out; omega) hkl)
        go_wp2_with (first
          | (go_at_call 8; refine HKI.out.mono ?_; rintro e w3 ⟨rfl, hh⟩; have hh := hh.symm; subst hh)
          | (go_at_call 13; refine HNX.out.mono ?_; rintro e w6 ⟨rfl, hh⟩; have HG6 := hid hh; clear hh))
        obtain ⟨W7, hW7⟩ : ∃ W7, W7 = w6.alloc (.cells #[.int .u64 (l[k].1 : Int), .int .u64 (l[k].2.1 : Int), .int .u64 (l[k].2.2.1 : Int), .int .u64 (l[k].2.2.2 : Int)] 38) := ⟨_, rfl⟩
        have hb7 : W7.heap[w6.heap.size]? = some (.cells #[.int .u64 (l[k].1 : Int), .int .u64 (l[k].2.1 : Int), .int .u64 (l[k].2.2.1 : Int), .int .u64 (l[k].2.2.2 : Int)] 38) := by rw [hW7]; exact heap_alloc_new w6 _
        have HG7 := hid (HG6.out.quiet (W' := W7) (by rw [hW7]; exact (Touch.refl [] w6).alloc _))
        rw [← hW7]
        obtain ⟨a, rfl, _, hab, c0, c1, c2, c3⟩ := HG7.out.recs.recs.at_ k hkl
        have q0 := cell_row hb7 0
        have q1 := cell_row hb7 1
        have q2 := cell_row hb7 2
        have q3 := cell_row hb7 3
        simp only [List.getElem?_toArray, List.getElem?_cons_zero, List.getElem?_cons_succ] at q0 q1 q2 q3
        generalize w6.heap.size = ob at q0 q1 q2 q3 ⊢
        clear hW7 hb7
        have hki : (k : Int) < (l.length : Int) := by omega
        have hk0 : (0 : Int) ≤ (k : Int) := by omega
        have heq : ∀ W, (Op.equalIn 10000 38 (.agg #[.int .u64 (l[k].1 : Int), .int .u64 (l[k].2.1 : Int), .int .u64 (l[k].2.2.1 : Int), .int .u64 (l[k].2.2.2 : Int)]) (.agg #[.int .u64 (l[k].1 : Int), .int .u64 (l[k].2.1 : Int), .int .u64 (l[k].2.2.1 : Int), .int .u64 (l[k].2.2.2 : Int)])).run Tryz.prog W = .ok true W := fun W => by rw [eq_rec]; simp
        go_quiet (fail)
        go_wp2_with fail
        exact ⟨⟨k + 1, by omega, rfl, HG7.out.quiet ((Touch.refl [] W7).drewN nq)⟩, by simp [intOf]; omega⟩
      · obtain rfl : k = Q := by omega
        have HG5 := HI
        clear HI
        go_wp2_with (go_at_call 8; refine HKI.out.mono ?_; rintro e w3 ⟨rfl, hh⟩; have hh := hh.symm; subst hh)
        go_loopw [20] (fun i W => ∃ j : Nat, j ≤ 2 ∧ i = .int .i64 j ∧ (j = 0 → Rdg W b (l.length + 3 + 1) kb rb K B bs ⟨sa, w⟩ l k) ∧ (j ≠ 0 → Ddd W b (l.length + 3 + 1 + v + 1) kb rb K B bs ⟨sa, w⟩ l)) (fun i _ => 2 - (intOf i).toNat)
        case atStart => exact ⟨0, by omega, rfl, fun _ => HG5.out, fun h => absurd rfl h⟩
        case round =>
          obtain ⟨j, hj, rfl, hj0, hj1⟩ := hrel
          have HJ0 := hid hj0
          have HJ1 := hid hj1
          clear hj0 hj1
          by_cases hj2 : j < 2
          · have HNX := hid (next_two HJ0.out HJ1.out HQ.out HC.out (by omega))
            have heq : ∀ W, (Op.equalIn 10000 38 (.agg #[.int .u64 0, .int .u64 0, .int .u64 0, .int .u64 0]) (.agg #[.int .u64 0, .int .u64 0, .int .u64 0, .int .u64 0])).run Tryz.prog W = .ok true W := fun W => by rw [eq_rec]; simp
            go_wp2_with (go_at_call 13; refine HNX.out.mono ?_; rintro e w6 ⟨rfl, hh⟩; have HG6 := hid hh; clear hh)
            exact ⟨⟨j + 1, by omega, rfl, fun h => absurd h (by omega), fun _ => HG6.out.quiet ((Touch.refl [] w6).alloc _)⟩, by simp [intOf]; omega⟩
          · obtain rfl : j = 2 := by omega
            have HCL := hid (ddd_close (HJ1.out (by omega)))
            obtain ⟨z, hz⟩ : ∃ z, z + 1 = l.length := ⟨l.length - 1, by omega⟩
            have hzl : z < l.length := by omega
            have HZ := hid hz
            have hzi : (l.length : Int) - 1 = (z : Int) := by omega
            clear hz
            by_cases hv1 : v + 1 = M
            · have HV1 : Hid (v + 1 = bs.length) := by rw [HN.out]; exact hv1
              go_wp2_with (first
                | (go_at_call 14; refine HCL.out.mono ?_; rintro e w7 ⟨rfl, hh⟩; have HU := hid (home_used hh); clear hh)
                | (go_at_call 15; refine HU.out.mono ?_; rintro e w8 ⟨rfl, hh⟩; have HLA := hid (home_last_bad hh HC.out HV1.out (by omega)); clear hh)
                | (go_at_call 16; refine HLA.out.mono ?_; rintro e w9 ⟨rfl, hh⟩; have HH9 := hid hh; clear hh))
              obtain ⟨W10, hW10⟩ : ∃ W10, W10 = w9.alloc (.cells #[.int .u64 0, .int .u64 0, .int .u64 0, .int .u64 0] 38) := ⟨_, rfl⟩
              have hb : W10.heap[w9.heap.size]? = some (.cells #[.int .u64 0, .int .u64 0, .int .u64 0, .int .u64 0] 38) := by rw [hW10]; exact heap_alloc_new w9 _
              rw [← hW10]
              have HSZ := hid (home_size_bad2 (W2 := W10) HH9.out HC.out HV1.out (by omega) (by rw [hW10]; exact (Touch.refl [] w9).alloc _) (lt_of_block hb))
              refine HSZ.out.mono ?_
              rintro e w11 ⟨rfl, hh11, hkeep⟩
              have hb11 := hkeep.trans hb
              have q0 := cell_row hb11 0
              have q1 := cell_row hb11 1
              have q2 := cell_row hb11 2
              have q3 := cell_row hb11 3
              simp only [List.getElem?_toArray, List.getElem?_cons_zero, List.getElem?_cons_succ] at q0 q1 q2 q3
              have HH11 := hid hh11
              generalize w9.heap.size = ob at q0 q1 q2 q3 ⊢
              clear hW10 hb hkeep hb11 hh11
              have heq : ∀ W, (Op.equalIn 10000 38 (.agg #[.int .u64 0, .int .u64 0, .int .u64 0, .int .u64 0]) (.agg #[.int .u64 0, .int .u64 0, .int .u64 0, .int .u64 0])).run Tryz.prog W = .ok true W := fun W => by rw [eq_rec]; simp
              have HVM := hid hv1
              have hv2 : ((v : Int) == (M : Int) - 1) = true := beq_iff_eq.2 (by omega)
              have hv3 : decide ((v : Int) = (M : Int) - 1) = true := decide_eq_true (by omega)
              clear hv1
              go_wp2_with fail
              go_ret
              exact ⟨rfl, HH11.out.recs.t⟩
            · have HV1 : Hid (v + 1 ≠ bs.length) := by rw [HN.out]; exact hv1
              go_wp2_with (first
                | (go_at_call 14; refine HCL.out.mono ?_; rintro e w7 ⟨rfl, hh⟩; have HU := hid (home_used hh); clear hh)
                | (go_at_call 15; refine HU.out.mono ?_; rintro e w8 ⟨rfl, hh⟩; have HLA := hid (home_last_ok2 hh HC.out HV1.out (by omega) hzl HZ.out); clear hh)
                | (go_at_call 16; refine HLA.out.mono ?_; rintro e w9 ⟨rfl, hh⟩; have HH9 := hid hh; clear hh))
              obtain ⟨W10, hW10⟩ : ∃ W10, W10 = w9.alloc (.cells #[.int .u64 (l[z].1 : Int), .int .u64 (l[z].2.1 : Int), .int .u64 (l[z].2.2.1 : Int), .int .u64 (l[z].2.2.2 : Int)] 38) := ⟨_, rfl⟩
              have hb : W10.heap[w9.heap.size]? = some (.cells #[.int .u64 (l[z].1 : Int), .int .u64 (l[z].2.1 : Int), .int .u64 (l[z].2.2.1 : Int), .int .u64 (l[z].2.2.2 : Int)] 38) := by rw [hW10]; exact heap_alloc_new w9 _
              rw [← hW10]
              have HSZ := hid (home_size_ok2 (W2 := W10) HH9.out HC.out HV1.out (by omega) (by rw [hW10]; exact (Touch.refl [] w9).alloc _) (lt_of_block hb))
              refine HSZ.out.mono ?_
              rintro e w11 ⟨rfl, hh11, hkeep⟩
              have hb11 := hkeep.trans hb
              have q0 := cell_row hb11 0
              have q1 := cell_row hb11 1
              have q2 := cell_row hb11 2
              have q3 := cell_row hb11 3
              simp only [List.getElem?_toArray, List.getElem?_cons_zero, List.getElem?_cons_succ] at q0 q1 q2 q3
              have HH11 := hid hh11
              generalize w9.heap.size = ob at q0 q1 q2 q3 ⊢
              clear hW10 hb hkeep hb11 hh11
              have heq : ∀ W, (Op.equalIn 10000 38 (.agg #[.int .u64 (l[z].1 : Int), .int .u64 (l[z].2.1 : Int), .int .u64 (l[z].2.2.1 : Int), .int .u64 (l[z].2.2.2 : Int)]) (.agg #[.int .u64 (l[z].1 : Int), .int .u64 (l[z].2.1 : Int), .int .u64 (l[z].2.2.1 : Int), .int .u64 (l[z].2.2.2 : Int)])).run Tryz.prog W = .ok true W := fun W => by rw [eq_rec]; simp
              have HVM := hid hv1
              have hv4 : ¬ (v : Int) = (M : Int) - 1 := by omega
              have hv2 : ((v : Int) == (M : Int) - 1) = false := beq_eq_false_iff_ne.2 hv4
              have hv3 : decide ((v : Int) = (M : Int) - 1) = false := decide_eq_false hv4
              clear hv1
              obtain ⟨a, rfl, _, hab, c0, c1, c2, c3⟩ := HH11.out.recs.recs.at_ z hzl
              have hki : (z : Int) < (l.length : Int) := by omega
              have hk0 : (0 : Int) ≤ (z : Int) := by omega
              go_wp2_with fail
              go_quiet (fail)
              go_wp2_with fail
              go_ret
              exact ⟨rfl, HH11.out.recs.t.drewN _⟩
end Go.Proofs.YtclplbnildnifaaGreatDoor
/-
  TapeBits: what comes in.
-/
namespace Go.Proofs.YtclplbnildnifaaGreatDoor
open Go.ChangeShapes Go.WideShapes Go.ChangeAt Go.RowKit Go.Deep

theorem own : ownKnob Tryz.prog.godebug = none := by kernel_rfl
theorem laidOut : laidOutB Tryz.prog = true := by kernel_rfl
theorem cells9 : Tryz.prog.cellsOf 9 = 1 := by kernel_rfl
theorem cells36 : Tryz.prog.cellsOf 36 = 1 := by kernel_rfl
theorem cells38 : Tryz.prog.cellsOf 38 = 4 := by kernel_rfl

/-! ### what the bound gives -/
theorem bulk_one {H : Type} (d : DataW H) : 1 ≤ Rows.uptoBulk d := by
  cases d with
  | lit l => cases l <;> simp [Rows.uptoBulk]
  | nil => simp [Rows.uptoBulk]
  | ptr d => simp [Rows.uptoBulk]
  | slice elems spare => simp [Rows.uptoBulk]
  | agg parts => simp [Rows.uptoBulk]
  | iface t d => simp [Rows.uptoBulk]
  | map entries => simp [Rows.uptoBulk]
  | held h => simp [Rows.uptoBulk]
theorem bulk_length {H : Type} (l : List (DataW H)) : l.length ≤ Rows.uptoBulkAll l := by
  induction l with
  | nil => simp [Rows.uptoBulkAll]
  | cons x r ih => have := bulk_one x; simp only [Rows.uptoBulkAll, List.length_cons]; omega

theorem cells182 : Tryz.prog.cellsOf 342 = 1 := by kernel_rfl
theorem star : "*" ++ "errors.errorString" = "*errors.errorString" := by decide
theorem row158 (u : TypeId) (h : Tryz.prog.typeName? 3 u = some "*errors.errorString") : u = 320 :=
  typeName_ptr_named (nm := "errors.errorString") (by rw [star]; kernel_rfl) (by kernel_rfl) (by decide) u (by rw [star]; exact h)


set_option maxRecDepth 100000 in
theorem laid_step {W : World} {n : String} {i : Nat} {text : List UInt8} {r : List (String × DataW Unit)} {ps all : List MemPlace} (hg : Tryz.prog.globalNamed n = some i) (ht : (Tryz.prog.globals[i]?).map (·.type) = some 100)
    (h : DataW.LaidVars Tryz.prog W ((n, .iface "*errors.errorString" (.ptr (.agg [.lit (.string text)]))) :: r) ps) (hsub : ∀ x ∈ ps, x ∈ all)
    (hrows : ∀ b off, MemPlace.cell b off ∈ all → (∃ c t, W.heap[b]? = some (.cells c t (0, 0))) ∧ ∀ u v, W.cell? ⟨b, off, none⟩ = some (.iface u v) → Value.okWide Tryz.prog W .any 0 u v) :
    ∃ (a : Addr) (q : List MemPlace), W.cell? ⟨i, 0, none⟩ = some (.iface 320 (.pointer (some a))) ∧ (∃ c t, W.heap[a.block]? = some (.cells c t (0, 0))) ∧ a.spot = none ∧ DataW.LaidVars Tryz.prog W r q ∧ ps = .cell i 0 :: .cell a.block a.off :: q := by
  obtain ⟨g, t, cs, f, p, q, hg0, ht0, hv0, hd0, hr, e⟩ := h
  obtain rfl := Option.some.inj (hg.symm.trans hg0)
  obtain rfl := Option.some.inj (ht.symm.trans ht0)
  obtain ⟨l0⟩ := cs
  have ok0 : ∀ u v, l0 = [.iface u v] → Value.okWide Tryz.prog W .any 0 u v := fun u v el => by
    subst el
    exact (hrows i 0 (hsub _ (by rw [e]; simp [MemPlace.row]))).2 u v (by simpa using World.var?_cell hg0 hv0 0)
  obtain ⟨a, s, rfl, hc, _, _, rfl⟩ := errorString_of_trod Tryz.underlying100 row158 Tryz.underlying320 Tryz.underlying342 rfl rfl Tryz.underlying9 cells182 cells9 hd0 ok0
  have hsp := World.cell?_spot hc
  have hps : ps = .cell i 0 :: .cell a.block a.off :: q := by rw [e]; simp [MemPlace.row]
  exact ⟨a, q, by simpa using World.var?_cell hg0 hv0 0, (hrows a.block a.off (hsub _ (by rw [hps]; simp))).1, hsp, hr, hps⟩

set_option maxRecDepth 100000 in
/-- the eleven errors of the package, as the row's list gives them. -/
theorem sents_of_laid {W : World} (h0 : laidMetH Tryz.prog Rows.tapeBitsUptoRow.laid W) : ∃ E, Env W W.heap.size E := by
  have h : laidMet Tryz.prog Rows.tapeBitsUptoRow.laid W := h0
  obtain ⟨ps, hl0, hnd, hrows⟩ := h
  obtain ⟨a0, q0, v0, o0, s0, hl1, e0⟩ := laid_step (W := W) (i := 10) (by kernel_rfl) (by kernel_rfl) hl0 (fun x hx => hx) hrows
  obtain ⟨a1, q1, v1, o1, s1, hl2, e1⟩ := laid_step (W := W) (i := 0) (by kernel_rfl) (by kernel_rfl) hl1 (fun x hx => by rw [e0]; simp [hx]) hrows
  obtain ⟨a2, q2, v2, o2, s2, hl3, e2⟩ := laid_step (W := W) (i := 1) (by kernel_rfl) (by kernel_rfl) hl2 (fun x hx => by rw [e0, e1]; simp [hx]) hrows
  obtain ⟨a3, q3, v3, o3, s3, hl4, e3⟩ := laid_step (W := W) (i := 2) (by kernel_rfl) (by kernel_rfl) hl3 (fun x hx => by rw [e0, e1, e2]; simp [hx]) hrows
  obtain ⟨a4, q4, v4, o4, s4, hl5, e4⟩ := laid_step (W := W) (i := 3) (by kernel_rfl) (by kernel_rfl) hl4 (fun x hx => by rw [e0, e1, e2, e3]; simp [hx]) hrows
  obtain ⟨a5, q5, v5, o5, s5, hl6, e5⟩ := laid_step (W := W) (i := 4) (by kernel_rfl) (by kernel_rfl) hl5 (fun x hx => by rw [e0, e1, e2, e3, e4]; simp [hx]) hrows
  obtain ⟨a6, q6, v6, o6, s6, hl7, e6⟩ := laid_step (W := W) (i := 5) (by kernel_rfl) (by kernel_rfl) hl6 (fun x hx => by rw [e0, e1, e2, e3, e4, e5]; simp [hx]) hrows
  obtain ⟨a7, q7, v7, o7, s7, hl8, e7⟩ := laid_step (W := W) (i := 6) (by kernel_rfl) (by kernel_rfl) hl7 (fun x hx => by rw [e0, e1, e2, e3, e4, e5, e6]; simp [hx]) hrows
  obtain ⟨a8, q8, v8, o8, s8, hl9, e8⟩ := laid_step (W := W) (i := 7) (by kernel_rfl) (by kernel_rfl) hl8 (fun x hx => by rw [e0, e1, e2, e3, e4, e5, e6, e7]; simp [hx]) hrows
  obtain ⟨a9, q9, v9, o9, s9, hl10, e9⟩ := laid_step (W := W) (i := 8) (by kernel_rfl) (by kernel_rfl) hl9 (fun x hx => by rw [e0, e1, e2, e3, e4, e5, e6, e7, e8]; simp [hx]) hrows
  obtain ⟨a10, q10, v10, o10, s10, hl11, e10⟩ := laid_step (W := W) (i := 9) (by kernel_rfl) (by kernel_rfl) hl10 (fun x hx => by rw [e0, e1, e2, e3, e4, e5, e6, e7, e8, e9]; simp [hx]) hrows
  rw [e0, e1, e2, e3, e4, e5, e6, e7, e8, e9, e10] at hnd
  have hsub : ([a0, a1, a2, a3, a4, a5, a6, a7, a8, a9, a10].map fun a => MemPlace.cell a.block a.off).Nodup := List.Nodup.sublist (.cons _ (.cons_cons _ (.cons _ (.cons_cons _ (.cons _ (.cons_cons _ (.cons _ (.cons_cons _ (.cons _ (.cons_cons _ (.cons _ (.cons_cons _ (.cons _ (.cons_cons _ (.cons _ (.cons_cons _ (.cons _ (.cons_cons _ (.cons _ (.cons_cons _ (.cons _ (.cons_cons _ (List.nil_sublist _))))))))))))))))))))))) hnd
  have hL : [a0, a1, a2, a3, a4, a5, a6, a7, a8, a9, a10].Nodup := (List.pairwise_map.1 hsub).imp (fun {a b} hab e => hab (by rw [e]))
  have hne : ∀ i j : Nat, i < 11 → j < 11 → (fun k => #[a0, a1, a2, a3, a4, a5, a6, a7, a8, a9, a10].getD k a0) i = (fun k => #[a0, a1, a2, a3, a4, a5, a6, a7, a8, a9, a10].getD k a0) j → i = j := fun i j hi hj e => by
    have e1 : ∀ k (hk : k < 11), #[a0, a1, a2, a3, a4, a5, a6, a7, a8, a9, a10].getD k a0 = [a0, a1, a2, a3, a4, a5, a6, a7, a8, a9, a10][k]'(by simpa using hk) := fun k hk => by simp [Array.getD, hk]
    simp only [e1 i hi, e1 j hj] at e
    have hp := List.pairwise_iff_getElem.1 hL
    rcases Nat.lt_trichotomy i j with h | h | h
    · exact absurd e (hp i j _ _ h)
    · exact h
    · exact absurd e.symm (hp j i _ _ h)
  refine ⟨fun k => #[a0, a1, a2, a3, a4, a5, a6, a7, a8, a9, a10].getD k a0, ⟨⟨fun i hi => ?_, fun i hi => ?_, hne⟩, ?_, fun i hi => ?_, Nat.le_refl _⟩⟩
  · match i, hi with
    | 0, _ => exact v0
    | 1, _ => exact v1
    | 2, _ => exact v2
    | 3, _ => exact v3
    | 4, _ => exact v4
    | 5, _ => exact v5
    | 6, _ => exact v6
    | 7, _ => exact v7
    | 8, _ => exact v8
    | 9, _ => exact v9
    | 10, _ => exact v10
  · match i, hi with
    | 0, _ => exact o0
    | 1, _ => exact o1
    | 2, _ => exact o2
    | 3, _ => exact o3
    | 4, _ => exact o4
    | 5, _ => exact o5
    | 6, _ => exact o6
    | 7, _ => exact o7
    | 8, _ => exact o8
    | 9, _ => exact o9
    | 10, _ => exact o10
  · have := World.block_lt_of_cell? W _ v0
    exact this
  · match i, hi with
    | 0, _ => exact (by obtain ⟨c, t, ho⟩ := o0; exact lt_of_block ho)
    | 1, _ => exact (by obtain ⟨c, t, ho⟩ := o1; exact lt_of_block ho)
    | 2, _ => exact (by obtain ⟨c, t, ho⟩ := o2; exact lt_of_block ho)
    | 3, _ => exact (by obtain ⟨c, t, ho⟩ := o3; exact lt_of_block ho)
    | 4, _ => exact (by obtain ⟨c, t, ho⟩ := o4; exact lt_of_block ho)
    | 5, _ => exact (by obtain ⟨c, t, ho⟩ := o5; exact lt_of_block ho)
    | 6, _ => exact (by obtain ⟨c, t, ho⟩ := o6; exact lt_of_block ho)
    | 7, _ => exact (by obtain ⟨c, t, ho⟩ := o7; exact lt_of_block ho)
    | 8, _ => exact (by obtain ⟨c, t, ho⟩ := o8; exact lt_of_block ho)
    | 9, _ => exact (by obtain ⟨c, t, ho⟩ := o9; exact lt_of_block ho)
    | 10, _ => exact (by obtain ⟨c, t, ho⟩ := o10; exact lt_of_block ho)


theorem u64_wf {n : Int} (h : (Lit.int .u64 n).wf = true) : 0 ≤ n ∧ n ≤ 18446744073709551615 := by
  have e1 : IntKind.u64.min = 0 := rfl
  have e2 : IntKind.u64.max = 18446744073709551615 := rfl
  simpa [Lit.wf, e1, e2] using h

section
variable {H : Type} {enc : TypeId × Value → H} {W : World} {spare : Nat → Bool} {held : Bool}

/-- a record that came in. -/
theorem open_rec {m : Nat} {a : Addr} {cs : List Value} {x : DataW H × List MemPlace} (h1 : W.cells? 0 a 4 = some cs) (h2 : DataW.trod enc Tryz.prog W 0 spare held m 38 cs = some x) :
    ∃ r : Rc, (∀ y ∈ Rc.words r, y < 18446744073709551616) ∧ a.block < W.heap.size ∧ W.cell? a = some (.int .u64 (r.1 : Int)) ∧ W.cell? ⟨a.block, a.off + 1, none⟩ = some (.int .u64 (r.2.1 : Int)) ∧ W.cell? ⟨a.block, a.off + 2, none⟩ = some (.int .u64 (r.2.2.1 : Int)) ∧ W.cell? ⟨a.block, a.off + 3, none⟩ = some (.int .u64 (r.2.2.2 : Int)) := by
  have hm : (List.range 4).mapM (fun i => W.cell? (a.add i)) = some cs := by
    simpa [World.cells?] using h1
  have g : ∀ i, i < 4 → W.cell? (a.add i) = cs[i]? := fun i hi => mapM_some_get hm i i (by simp [hi])
  have hl : cs.length = 4 := by
    have := mapM_some_length hm
    simpa using this
  match cs, hl with
  | [c0, c1, c2, c3], _ =>
  obtain ⟨y0, y1, y2, y3, m', hx, hy0, hy1, hy2, hy3⟩ := trod_array4 Tryz.underlying38 cells36 h2
  obtain ⟨x0, e0, _, w0⟩ := DataW.trod_int Tryz.underlying36 hy0
  obtain ⟨x1, e1, _, w1⟩ := DataW.trod_int Tryz.underlying36 hy1
  obtain ⟨x2, e2, _, w2⟩ := DataW.trod_int Tryz.underlying36 hy2
  obtain ⟨x3, e3, _, w3⟩ := DataW.trod_int Tryz.underlying36 hy3
  simp at e0 e1 e2 e3
  subst e0 e1 e2 e3
  have w0 := u64_wf w0
  have w1 := u64_wf w1
  have w2 := u64_wf w2
  have w3 := u64_wf w3
  have g0 := g 0 (by omega)
  have g1 := g 1 (by omega)
  have g2 := g 2 (by omega)
  have g3 := g 3 (by omega)
  have hs1 := World.cell?_spot g0
  obtain ⟨b, off, spot⟩ := a
  have hsn : spot = none := by simpa [Addr.add] using hs1
  subst hsn
  rw [add_plain] at g0 g1 g2 g3
  have hlt : b < W.heap.size := by simpa using World.block_lt_of_cell? W _ g0
  refine ⟨(x0.toNat, x1.toNat, x2.toNat, x3.toNat), ?_, hlt, ?_, ?_, ?_, ?_⟩
  · intro y hy
    simp only [Rc.words, List.mem_cons, List.not_mem_nil, or_false] at hy
    omega
  · rw [Int.toNat_of_nonneg w0.1]; simpa using g0
  · rw [Int.toNat_of_nonneg w1.1]; simpa using g1
  · rw [Int.toNat_of_nonneg w2.1]; simpa using g2
  · rw [Int.toNat_of_nonneg w3.1]; simpa using g3

set_option maxRecDepth 100000 in
/-- records that came in. -/
theorem open_recs {v : Value} {d : DataW H} {ps : List MemPlace} {base : Nat} (hval : Value.okWide Tryz.prog W .any base 22 v) (h : DataW.Trod enc Tryz.prog W 0 spare held 22 v d ps) (hk : Rows.uptoBulk d ≤ 1048576) :
    ∃ (sa : Option Addr) (ca : Nat) (l : List Rc), v = .slice sa l.length ca ∧ RecsIn W W.heap.size sa l ∧ l.length ≤ 1048576 ∧ smallR l := by
  obtain ⟨a0, len, cap, rfl⟩ := okWide_slice Tryz.underlying22 hval
  obtain ⟨fuel, hf⟩ := h
  rcases open_slice Tryz.underlying22 hf with ⟨hcs, hx⟩ | ⟨a, len', cap', m, n, D, Pl, hcs, _, hl, hm, hmm, hx, hall⟩
  · simp [Value.cells] at hcs
    obtain ⟨rfl, rfl, rfl⟩ := hcs
    exact ⟨none, 0, [], rfl, ⟨fun k hk => by simp at hk⟩, Nat.zero_le _, fun y hy => by simp [flatR] at hy⟩
  · simp [Value.cells] at hcs
    obtain ⟨rfl, rfl, rfl⟩ := hcs
    rw [cells38] at hx hall
    obtain ⟨rfl, -⟩ := Prod.mk.inj hx
    have hlm : len ≤ m := by rw [hmm]; split <;> omega
    have hb1 : Rows.uptoBulkAll ((List.range len).map D) ≤ 1048576 := by
      simp only [Rows.uptoBulk] at hk
      omega
    have hlen2 := bulk_length ((List.range len).map D)
    simp only [List.length_map, List.length_range] at hlen2
    have each : ∀ i, i < len → ∃ r : Rc, (∀ y ∈ Rc.words r, y < 18446744073709551616) ∧ (a.add (i * 4)).block < W.heap.size ∧ W.cell? (a.add (i * 4)) = some (.int .u64 (r.1 : Int)) ∧ W.cell? ⟨(a.add (i * 4)).block, (a.add (i * 4)).off + 1, none⟩ = some (.int .u64 (r.2.1 : Int)) ∧ W.cell? ⟨(a.add (i * 4)).block, (a.add (i * 4)).off + 2, none⟩ = some (.int .u64 (r.2.2.1 : Int)) ∧ W.cell? ⟨(a.add (i * 4)).block, (a.add (i * 4)).off + 3, none⟩ = some (.int .u64 (r.2.2.2 : Int)) := fun i hi => by
      obtain ⟨cs', h1, h2⟩ := hall i (by omega)
      exact open_rec h1 h2
    obtain ⟨f, hf⟩ := choose_lt each
    have hlen : ((List.range len).map f).length = len := by simp
    refine ⟨some a, cap, (List.range len).map f, by rw [hlen], ⟨fun k hk => ?_⟩, by rw [hlen]; omega, fun y hy => ?_⟩
    · rw [hlen] at hk
      obtain ⟨_, h0, c0, c1, c2, c3⟩ := hf k hk
      rw [add_block] at h0
      exact ⟨a, rfl, h0, h0, by simpa using c0, by simpa using c1, by simpa using c2, by simpa using c3⟩
    · unfold flatR at hy
      obtain ⟨r, hr, hy⟩ := List.mem_flatMap.1 hy
      obtain ⟨k, hk, rfl⟩ := List.mem_map.1 hr
      exact (hf k (List.mem_range.1 hk)).1 y hy
end
end Go.Proofs.YtclplbnildnifaaGreatDoor
namespace Go.Proofs.YtclplbnildnifaaGreatDoor
open Go.ChangeShapes Go.WideShapes Go.ChangeAt Go.RowKit Go.Deep

set_option maxRecDepth 100000 in
/-- what the walk gives, for every argument within the bound and every world that holds the disk's errors. -/
theorem bits_contract (H : Type) (enc : TypeId × Value → H) (W : World) (base : Nat) (args : Array Value) (ds gs : List (DataW H)) (before : List MemPlace)
    (hval : ∀ (j : Nat) t v, Tryz.f3.params[j]? = some t → args[j]? = some v → Value.okWide Tryz.prog W .any base t v)
    (hW : DataW.Whole enc Tryz.prog Tryz.f3.params.toList Rows.tapeBitsSpec.vars false W args.toList ds gs before) (hk : Rows.uptoSmall H (ds ++ gs) = true) (hL : laidMetH Tryz.prog Rows.tapeBitsUptoRow.laid W) :
    Calls Tryz.prog 3 args W fun e W' => ∃ v, e = .returned v ∧ Rows.tapeBitsSpec.post enc Tryz.prog Tryz.f3 false true false false W args v W' := by
  have hW' := hW
  obtain ⟨p, q, hA0, hV, rfl, hfz, hnd⟩ := hW
  have hA : DataW.TrodAll enc Tryz.prog W 0 (fun _ => true) true Tryz.f3.params.toList args.toList ds p := hA0
  rw [Tryz.params3] at hA hval
  obtain ⟨v0, vs0, d0, ds0, p0, q0, hargs0, rfl, rfl, h0, r0⟩ := trodAll_cons hA
  obtain ⟨v1, vs1, d1, ds1, p1, q1, rfl, rfl, rfl, h1, r1⟩ := trodAll_cons r0
  obtain ⟨v2, vs2, d2, ds2, p2, q2, rfl, rfl, rfl, h2, r2⟩ := trodAll_cons r1
  obtain ⟨rfl, rfl, rfl⟩ := trodAll_nil r2
  obtain rfl : args = #[v0, v1, v2] := by cases args; simp_all
  obtain ⟨rfl, rfl⟩ := trodVars_none hV
  have hb := of_decide_eq_true hk
  simp only [List.append_nil, Rows.uptoBulkAll] at hb
  obtain ⟨size, rfl, rfl, rfl, wa⟩ := open_int Tryz.underlying3 (hval 0 3 v0 rfl rfl) h0
  obtain ⟨at_, rfl, rfl, rfl, wb⟩ := open_int Tryz.underlying3 (hval 2 3 v2 rfl rfl) h2
  clear hA0
  simp only [List.append_nil] at hW'
  have hlt1 : ∀ x ∈ p1, x.block < W.heap.size := fun x hx => by simpa using hW'.lt x (by simp [hx])
  obtain ⟨sa, ca, l, rfl, hin, hl, hs⟩ := open_recs (hval 1 22 v1 rfl rfl) h1 (by omega)
  obtain ⟨E, hE⟩ := sents_of_laid hL
  refine (bits_any hE rfl size at_ hin hs hl).mono fun e W' ⟨he, ht⟩ => ?_
  subst he
  have hnx : Below W.heap.size W W' := ht.below (Nat.le_refl _) (by simp)
  refine ⟨_, rfl, _, _, _, [], _, [], hW', ?_, trodAll_cons_mk (shut_int Tryz.underlying3 wa) (trodAll_cons_mk (Below.trod laidOut (by kernel_rfl) (of_decide_eq_true (by kernel_rfl)) h1 hnx hlt1) (trodAll_mk1 (shut_int Tryz.underlying3 wb))), rfl, hnx.frame _, fun h => by cases h⟩
  exact trodAll_mk1 (shut_bool Tryz.underlying4 _)

set_option maxRecDepth 100000 in
theorem bits_lifted (os : Os) (started : os.Started) (H : Type) (enc : TypeId × Value → H) (F : Stop.Interp) :
    ReturnsInHanded {} Tryz.checked os 3 .any ((Rows.OpenSpec.upto Rows.tapeBitsSpec).preRow enc Tryz.prog Tryz.f3 Rows.tapeBitsUptoRow.domain false Rows.tapeBitsUptoRow.laid) (((Rows.OpenSpec.upto Rows.tapeBitsSpec).at F).post enc Tryz.prog Tryz.f3 false true false false) := by
  obtain ⟨lw, hlw⟩ : ∃ lw : World, lw = (fun w0 : World => { w0 with heap := (((((((((((w0.heap.modify 10 fun
      | .cells _ t frozen => .cells #[.iface 320 (.pointer (some ⟨(World.holding Tryz.prog default ⟨#[], #[], []⟩).heap.size + 0, 0, none⟩))] t frozen
      | o => o).modify 0 fun
      | .cells _ t frozen => .cells #[.iface 320 (.pointer (some ⟨(World.holding Tryz.prog default ⟨#[], #[], []⟩).heap.size + 1, 0, none⟩))] t frozen
      | o => o).modify 1 fun
      | .cells _ t frozen => .cells #[.iface 320 (.pointer (some ⟨(World.holding Tryz.prog default ⟨#[], #[], []⟩).heap.size + 2, 0, none⟩))] t frozen
      | o => o).modify 2 fun
      | .cells _ t frozen => .cells #[.iface 320 (.pointer (some ⟨(World.holding Tryz.prog default ⟨#[], #[], []⟩).heap.size + 3, 0, none⟩))] t frozen
      | o => o).modify 3 fun
      | .cells _ t frozen => .cells #[.iface 320 (.pointer (some ⟨(World.holding Tryz.prog default ⟨#[], #[], []⟩).heap.size + 4, 0, none⟩))] t frozen
      | o => o).modify 4 fun
      | .cells _ t frozen => .cells #[.iface 320 (.pointer (some ⟨(World.holding Tryz.prog default ⟨#[], #[], []⟩).heap.size + 5, 0, none⟩))] t frozen
      | o => o).modify 5 fun
      | .cells _ t frozen => .cells #[.iface 320 (.pointer (some ⟨(World.holding Tryz.prog default ⟨#[], #[], []⟩).heap.size + 6, 0, none⟩))] t frozen
      | o => o).modify 6 fun
      | .cells _ t frozen => .cells #[.iface 320 (.pointer (some ⟨(World.holding Tryz.prog default ⟨#[], #[], []⟩).heap.size + 7, 0, none⟩))] t frozen
      | o => o).modify 7 fun
      | .cells _ t frozen => .cells #[.iface 320 (.pointer (some ⟨(World.holding Tryz.prog default ⟨#[], #[], []⟩).heap.size + 8, 0, none⟩))] t frozen
      | o => o).modify 8 fun
      | .cells _ t frozen => .cells #[.iface 320 (.pointer (some ⟨(World.holding Tryz.prog default ⟨#[], #[], []⟩).heap.size + 9, 0, none⟩))] t frozen
      | o => o).modify 9 fun
      | .cells _ t frozen => .cells #[.iface 320 (.pointer (some ⟨(World.holding Tryz.prog default ⟨#[], #[], []⟩).heap.size + 10, 0, none⟩))] t frozen
      | o => o) }) (World.holding Tryz.prog os ⟨#[.cells #[.string ⟨#[97, 32, 115, 101, 116, 117, 112, 32, 116, 104, 97, 116, 32, 109, 97, 121, 32, 110, 111, 116, 32, 98, 101]⟩] 342, .cells #[.string ⟨#[97, 32, 102, 97, 117, 108, 116, 32, 98, 101, 102, 97, 108, 108, 115, 32, 116, 104, 101, 32, 99, 97, 108, 108]⟩] 342, .cells #[.string ⟨#[116, 104, 101, 32, 112, 111, 119, 101, 114, 32, 105, 115, 32, 111, 102, 102]⟩] 342, .cells #[.string ⟨#[110, 111, 32, 110, 97, 109, 101]⟩] 342, .cells #[.string ⟨#[110, 111, 32, 102, 105, 108, 101, 32, 111, 102, 32, 116, 104, 97, 116, 32, 110, 97, 109, 101]⟩] 342, .cells #[.string ⟨#[97, 32, 102, 105, 108, 101, 32, 111, 102, 32, 116, 104, 97, 116, 32, 110, 97, 109, 101, 32, 97, 108, 114, 101, 97, 100, 121]⟩] 342, .cells #[.string ⟨#[116, 104, 101, 32, 102, 105, 108, 101, 32, 105, 115, 32, 115, 101, 97, 108, 101, 100]⟩] 342, .cells #[.string ⟨#[116, 104, 101, 32, 102, 105, 108, 101, 32, 105, 115, 32, 110, 111, 116, 32, 115, 101, 97, 108, 101, 100]⟩] 342, .cells #[.string ⟨#[110, 111, 32, 115, 117, 99, 104, 32, 98, 108, 111, 99, 107]⟩] 342, .cells #[.string ⟨#[110, 111, 32, 98, 108, 111, 99, 107, 32, 105, 115, 32, 102, 114, 101, 101]⟩] 342, .cells #[.string ⟨#[110, 111, 32, 115, 116, 97, 116, 101, 32, 111, 102, 32, 97, 32, 100, 105, 115, 107]⟩] 342], #[], []⟩) := ⟨_, rfl⟩
  have hos : lw.os = os := by rw [hlw]; rfl
  have hv : (lw.forCall (fun _ _ => 0) ⟨#[], #[.int .i64 0, .slice none 0 0, .int .i64 0], []⟩).variablesB Tryz.checked.prog = true := by rw [hlw]; kernel_rfl
  have hr : ((lw.forCall (fun _ _ => 0) ⟨#[], #[.int .i64 0, .slice none 0 0, .int .i64 0], []⟩).heap.toList.drop Tryz.checked.prog.globals.size).take ((begin Tryz.checked.prog (fun _ _ => 0) default).world.heap.size - Tryz.checked.prog.globals.size) = (begin Tryz.checked.prog (fun _ _ => 0) default).world.heap.toList.drop Tryz.checked.prog.globals.size := by rw [hlw]; kernel_rfl
  have hok : Input.okWideB Tryz.checked.prog (lw.forCall (fun _ _ => 0) ⟨#[], #[.int .i64 0, .slice none 0 0, .int .i64 0], []⟩) 3 ⟨#[], #[.int .i64 0, .slice none 0 0, .int .i64 0], []⟩ = true := by rw [hlw]; kernel_rfl
  have hx : DataW.whole enc Tryz.prog (lw.forCall (fun _ _ => 0) ⟨#[], #[.int .i64 0, .slice none 0 0, .int .i64 0], []⟩).memory Tryz.f3.params.toList Rows.tapeBitsSpec.vars false #[Value.int .i64 0, .slice none 0 0, .int .i64 0].toList 8 = some ([.lit (.int .i64 0), .nil, .lit (.int .i64 0)], [], []) := by rw [hlw]; kernel_rfl
  have hlm : laidMet Tryz.prog Rows.tapeBitsUptoRow.laid (lw.forCall (fun _ _ => 0) ⟨#[], #[.int .i64 0, .slice none 0 0, .int .i64 0], []⟩).memory := by rw [hlw]; exact laidMet_of_run' 8 (by kernel_rfl) (by kernel_rfl)
  clear hlw
  refine returnsInHanded_of_row (C := Tryz.checked) (s := Rows.OpenSpec.upto Rows.tapeBitsSpec) own started (by kernel_rfl) Tryz.func3
    (witness_row_at (enc := enc) (C := Tryz.checked) false lw #[.int .i64 0, .slice none 0 0, .int .i64 0] hos hv hr hok
      (OpenSpec.preRow_of_cond 8 hx (by kernel_rfl) (fun k hk => by cases hk; kernel_rfl) (by kernel_rfl) hlm)) ?_
  intro W base args ds gs before hval hW _ hcond _ hL _ _
  exact bits_contract H enc W base args ds gs before hval hW (hcond _ rfl) hL

theorem bits_said : Rows.TapeBitsUptoSaid :=
  OpenClaim.holds_of_cond 3 Tryz.f3 rfl rfl rfl rfl rfl rfl rfl ⟨rfl, rfl, rfl, rfl, rfl⟩ rfl rfl rfl rfl rfl (by kernel_rfl) Tryz.func3 (by kernel_rfl)
    (of_decide_eq_true (by kernel_rfl)) (by unfold Func.isWrapper; first | (rw [if_pos (by decide +kernel)]; kernel_rfl) | (rw [if_neg (by decide +kernel)]; exact ⟨rfl, rfl⟩))
    (fun os started H enc _ F => by rw [OpenClaim.pre_eq_preRow]; exact bits_lifted os started H enc F)

/-- no parameter wants a stand-in. -/
theorem bits_plain (f : FuncId) (fn : Func) (hf : Tryz.pinned.checked.prog.funcNamed "strata/stratalaw04.TapeBits" = some f) (hfn : Tryz.pinned.checked.prog.funcs[f]? = some fn) :
    true = Tryz.pinned.checked.prog.looks [] ∧ ∀ (j : Nat) t, fn.params[j]? = some t → Tryz.pinned.checked.prog.wantsStandIn t = false := by
  obtain rfl : f = 3 := Option.some.inj ((show Tryz.prog.funcNamed "strata/stratalaw04.TapeBits" = some 3 by kernel_rfl).symm.trans hf) |>.symm
  obtain rfl : fn = Tryz.f3 := (Option.some.inj (Tryz.func3.symm.trans hfn)).symm
  refine ⟨by kernel_rfl, fun j t ht => ?_⟩
  rw [Tryz.params3] at ht
  have hm : t = 3 ∨ t = 22 := by
    have := Array.mem_of_getElem? ht
    simp only [List.mem_toArray, List.mem_cons, List.not_mem_nil, or_false] at this
    rcases this with h | h | h
    · exact .inl h
    · exact .inr h
    · exact .inl h
  rcases hm with rfl | rfl
  · exact (show Tryz.prog.wantsStandIn 3 = false by kernel_rfl)
  · exact (show Tryz.prog.wantsStandIn 22 = false by kernel_rfl)

theorem tapeBits_holds : Rows.TapeBitsUptoCardSaid :=
  Claim7.holds_tied_plain_at .later [] _ _ _ _ bits_said (fun _ h => by cases h) (by kernel_rfl) (fun _ h => by cases h) tapeBitsUpto_row_tie rfl ⟨rfl, rfl⟩ (by kernel_rfl) rfl bits_plain (by kernel_rfl)
#print axioms tapeBits_holds
end Go.Proofs.YtclplbnildnifaaGreatDoor
