/-
  formatBits, base sixteen.
-/
import Derived.Test.YtjcmhgibedjjnaaDoorA1
import Derived.Test.YtjcmhgibedjjnaaDoorHex
import Derived.Laws.Bits64b
namespace Go.Proofs.YtjcmhgibedjjnaaDoor
open Go.RowKit Go.Deep PureHex
set_option maxRecDepth 100000

abbrev str (l : List UInt8) : Value := .string ⟨l.toArray⟩
theorem cell_row {w : World} {b : Nat} {c : Array Value} {t : TypeId} {fz : Nat × Nat} (h : w.heap[b]? = some (.cells c t fz)) (i : Nat) : w.cell? ⟨b, i, none⟩ = c[i]? := by simp [World.cell?, h]
theorem unfrozen_row {w : World} {b : Nat} {c : Array Value} {t : TypeId} (h : w.heap[b]? = some (.cells c t (0, 0))) (i : Nat) : w.frozen? ⟨b, i, none⟩ = false := by simp [World.frozen?, h]
theorem row_set {W : World} {b : Nat} {cs : Array Value} {t i : Nat} {u : Value} (hr : W.heap[b]? = some (.cells cs t (0, 0))) : (W.setCell ⟨b, i, none⟩ u).heap[b]? = some (.cells (cs.setIfInBounds i u) t (0, 0)) := by
  have hb := (Array.getElem?_eq_some_iff.1 hr).1
  simp [World.setCell, Array.getElem?_modify, hr]
/-- what formatBits knows: the digits D are written from i on. -/
structure Hx (u0 : Nat) (w : World) (u i : Nat) (D : List UInt8) (W : World) : Prop where
  all : hexN u0 = hexN u ++ D
  len : i + D.length = 65
  few : D.length ≤ 15
  lt : u < 16 ^ (16 - D.length)
  row : ∃ cs, W.heap[w.heap.size]? = some (.cells cs 57 (0, 0)) ∧ cs.size = 65 ∧ ∀ (j : Nat) (x : UInt8), D[j]? = some x → cs[i + j]? = some (.int .u8 x.toNat)
  below : Below w.heap.size w W
theorem mask15 (u : Nat) (hu : u < 18446744073709551616) : bits BinOp.and IntKind.u64 (u : Int) 15 = ((u % 16 : Nat) : Int) := by
  have := bits_and_u64_nat u 15 hu (by decide)
  rw [show u &&& 15 = u % 16 from Nat.and_two_pow_sub_one_eq_mod u 4] at this
  exact this
theorem len57 : Tryd.prog.arrayLen 57 = 65 := by kernel_rfl
theorem dig (m : Nat) (h : m < 16) (hz : m < (⟨#[48, 49, 50, 51, 52, 53, 54, 55, 56, 57, 97, 98, 99, 100, 101, 102, 103, 104, 105, 106, 107, 108, 109, 110, 111, 112, 113, 114, 115, 116, 117, 118, 119, 120, 121, 122]⟩ : ByteArray).size) : ((⟨#[48, 49, 50, 51, 52, 53, 54, 55, 56, 57, 97, 98, 99, 100, 101, 102, 103, 104, 105, 106, 107, 108, 109, 110, 111, 112, 113, 114, 115, 116, 117, 118, 119, 120, 121, 122]⟩ : ByteArray)[m]'hz) = hexC m := by
  have key : ∀ k : Fin 16, ∀ h : k.val < 36, ((⟨#[48, 49, 50, 51, 52, 53, 54, 55, 56, 57, 97, 98, 99, 100, 101, 102, 103, 104, 105, 106, 107, 108, 109, 110, 111, 112, 113, 114, 115, 116, 117, 118, 119, 120, 121, 122]⟩ : ByteArray)[k.val]'h) = hexC k.val := by decide +kernel
  exact key ⟨m, h⟩ hz
theorem slice57 (b k : Nat) (hk : k < 65) (W : World) : (Instr.sliceAt 57 (.pointer (some ⟨b, 0, none⟩)) (some (.int .i64 (k : Int))) none none).run Tryd.prog W = .ok (.slice (some ⟨b, k, none⟩) (65 - k) (65 - k)) W := by
  rw [run_sliceAt_array_l W 57 ⟨b, 0, none⟩ (by kernel_rfl) .i64 (k : Int) (by omega) (by rw [len57]; omega), len57]
  have hs : (sizeOf (Tryd.prog.elem 57)).run Tryd.prog W = .ok 1 W := by kernel_rfl
  rw [hs]
  simp only [Result.andThen, slicedAt, Int.toNat_natCast, Nat.mul_one]
  rw [if_neg (by omega)]
  have e : (⟨b, 0, none⟩ : Addr).add k = ⟨b, k, none⟩ := by
    unfold Addr.add
    split <;> simp_all
  rw [e]
theorem zero57 (w : World) : (zeroValue 57).run Tryd.prog w = .ok (.agg (Array.replicate 65 (.int .u8 0))) w := by kernel_rfl
theorem Hx.start (u0 : Nat) (hu : u0 < 18446744073709551616) (w : World) : Hx u0 w u0 65 [] (w.alloc (.cells (Array.replicate 65 (.int .u8 0)) 57)) :=
  ⟨by simp, rfl, by simp, by simpa using hu, ⟨_, heap_alloc_new w _, by simp, by simp⟩, (Below.refl _ _).alloc (Nat.le_refl _) _⟩
theorem Hx.put {u0 : Nat} {w W : World} {u i : Nat} {D : List UInt8} (h : Hx u0 w u (i + 1) D W) (x : UInt8) (v : Value) (hv : v = .int .u8 x.toNat) :
    (∃ cs, (W.setCell ⟨w.heap.size, i, none⟩ v).heap[w.heap.size]? = some (.cells cs 57 (0, 0)) ∧ cs.size = 65 ∧ ∀ (j : Nat) (y : UInt8), (x :: D)[j]? = some y → cs[i + j]? = some (.int .u8 y.toNat)) ∧ Below w.heap.size w (W.setCell ⟨w.heap.size, i, none⟩ v) := by
  obtain ⟨cs, h1, h2, h3⟩ := h.row
  have hl := h.len
  refine ⟨⟨_, row_set h1, by simp [h2], fun j y hy => ?_⟩, h.below.setCell (Nat.le_refl _) _⟩
  cases j with
  | zero =>
    obtain rfl : x = y := by simpa using hy
    rw [Nat.add_zero, Array.getElem?_setIfInBounds_self_of_lt (by omega), hv]
  | succ j =>
    rw [Array.getElem?_setIfInBounds_ne (by omega)]
    have := h3 j y (by simpa using hy)
    rwa [show i + 1 + j = i + (j + 1) by omega] at this
theorem Hx.step {u0 : Nat} {w W : World} {u k : Nat} {D : List UInt8} (h : Hx u0 w u (k + 1) D W) (hs : ¬ u < 16) (v : Value) (hv : v = .int .u8 (hexC (u % 16)).toNat) : Hx u0 w (u / 16) k (hexC (u % 16) :: D) (W.setCell ⟨w.heap.size, k, none⟩ v) := by
  obtain ⟨p1, p2⟩ := h.put (hexC (u % 16)) v hv
  have hf := h.few
  have hl := h.len
  have hlt := h.lt
  have h2 : D.length ≤ 14 := by
    by_cases e : D.length = 15
    · rw [e] at hlt
      omega
    · omega
  refine ⟨?_, by simp only [List.length_cons]; omega, by simp only [List.length_cons]; omega, ?_, p1, p2⟩
  · rw [h.all, hex_big hs, List.append_assoc]
    rfl
  · simp only [List.length_cons]
    refine Nat.div_lt_of_lt_mul ?_
    rw [Nat.mul_comm, ← Nat.pow_succ, show (16 - (D.length + 1)).succ = 16 - D.length by omega]
    exact hlt
theorem Hx.text {u0 : Nat} {w W : World} {u k : Nat} {D : List UInt8} (h : Hx u0 w u (k + 1) D W) (hs : u < 16) (v : Value) (hv : v = .int .u8 (hexC u).toNat) :
    (convert 27 9 (.slice (some ⟨w.heap.size, k, none⟩) (65 - k) (65 - k))).run Tryd.prog (W.setCell ⟨w.heap.size, k, none⟩ v) = .ok (str (hexN u0)) (W.setCell ⟨w.heap.size, k, none⟩ v) ∧ Below w.heap.size w (W.setCell ⟨w.heap.size, k, none⟩ v) := by
  obtain ⟨⟨cs, p1, p2, p3⟩, p4⟩ := h.put (hexC u) v hv
  have hl := h.len
  have e : hexN u0 = hexC u :: D := by rw [h.all, hex_small hs]; rfl
  have el : 65 - k = (hexN u0).length := by rw [e, List.length_cons]; omega
  refine ⟨?_, p4⟩
  rw [el]
  refine run_convert_bytes_back (P := Tryd.prog) _ 27 9 5 ⟨w.heap.size, k, none⟩ _ (hexN u0) Tryd.underlying27 Tryd.underlying5 Tryd.underlying9 (fun j hj => ?_)
  rw [show (⟨w.heap.size, k, none⟩ : Addr).add j = ⟨w.heap.size, k + j, none⟩ by unfold Addr.add; split <;> simp_all, cell_row p1]
  exact p3 j _ (by rw [← e]; exact List.getElem?_eq_getElem hj)
set_option maxHeartbeats 4000000 in
theorem bits_any (u0 : Nat) (hu : u0 < 18446744073709551616) (w : World) (h : Tz w) : Calls Tryd.prog 22 #[.slice none 0 0, .int .u64 u0, .int .i64 16, .bool false, .bool false] w fun e w' => e = .returned (.tuple #[.slice none 0 0, str (hexN u0)]) ∧ Below w.heap.size w w' := by
  have P2 : Hid (∀ W, Calls Tryd.prog 31 #[.int .i64 16] W fun e w' => e = .returned (.bool true) ∧ w' = W) := fun W => pow2 W
  have TZ : Hid (∀ W, Below w.heap.size w W → Calls Tryd.prog 32 #[.int .u64 16] W fun e w' => e = .returned (.int .i64 4) ∧ w' = W) := fun W hb => tz W (h.on hb)
  have z57 := fun W => zero57 W
  have H0 := hid (Hx.start u0 hu w)
  obtain ⟨w1, hw1⟩ : ∃ w1, w1 = w.alloc (.cells (Array.replicate 65 (.int .u8 0)) 57) := ⟨_, rfl⟩
  have HW1 := hid hw1
  clear h hw1
  go_enter Tryd.func22, Tryd.ntmps22
  go_wp2_with (first
    | (go_at_call 32; refine Calls.mono (TZ.out _ H0.out.below) ?_; rintro e w2 ⟨rfl, rfl⟩)
    | (go_at_call 31; refine Calls.mono (P2.out _) ?_; rintro e w2 ⟨rfl, rfl⟩))
  go_loopw [1, 13] (fun uv iv W => ∃ (u i : Nat) (D : List UInt8), uv = .int .u64 (u : Int) ∧ iv = .int .i64 (i : Int) ∧ Hid (Hx u0 w u i D W)) (fun uv _ _ => (intOf uv).toNat)
  case atStart => exact ⟨u0, 65, [], rfl, rfl, H0⟩
  case round =>
    obtain ⟨u, i, D, rfl, rfl, HR⟩ := hrel
    obtain ⟨cs, r1, r2, r3⟩ := HR.out.row
    have hl := HR.out.len
    have hf := HR.out.few
    have hlt := HR.out.lt
    obtain ⟨k, rfl⟩ : ∃ k, i = k + 1 := ⟨i - 1, by omega⟩
    obtain ⟨x, hx⟩ : ∃ x, cs[k]? = some x := ⟨_, Array.getElem?_eq_getElem (by omega)⟩
    have c1 := (cell_row r1 k).trans hx
    have f1 := unfrozen_row r1 k
    have hsz := (Array.getElem?_eq_some_iff.1 r1).1
    have hu64 : u < 18446744073709551616 := Nat.lt_of_lt_of_le hlt (Nat.pow_le_pow_right (by decide) (Nat.sub_le 16 D.length))
    have R2 := hid r2
    have HL := hid hl
    have hk : k < 65 := by omega
    have al := len57
    clear r3 hlt r1 r2 hx hl hf
    have SL : ∀ W, (Instr.sliceAt 57 (.pointer (some ⟨w.heap.size, 0, none⟩)) (some (.int .i64 (k : Int))) none none).run Tryd.prog W = .ok (.slice (some ⟨w.heap.size, k, none⟩) (65 - k) (65 - k)) W := fun W => slice57 w.heap.size k hk W
    by_cases hs : u < 16
    · have cv := HR.out.text hs (.int .u8 (((⟨#[48, 49, 50, 51, 52, 53, 54, 55, 56, 57, 97, 98, 99, 100, 101, 102, 103, 104, 105, 106, 107, 108, 109, 110, 111, 112, 113, 114, 115, 116, 117, 118, 119, 120, 121, 122]⟩ : ByteArray)[u]'(show u < 36 by omega)).toNat : Int)) (by rw [dig u hs])
      obtain ⟨cv1, cv2⟩ := cv
      have CV2 := hid cv2
      clear z57 cv2
      go_wp2
      refine bodyPost_ret (results_tmp2 rfl _ _ _) rfl ?_
      exact ⟨rfl, CV2.out⟩
    · have hm := mask15 u hu64
      have hm2 : u % 16 < 16 := Nat.mod_lt _ (by decide)
      clear z57 SL
      obtain ⟨m, hm3⟩ : ∃ m, m = u % 16 := ⟨_, rfl⟩
      rw [← hm3] at hm hm2
      have HM3 := hid hm3
      clear hm3
      go_wp2
      refine ⟨⟨u / 16, k, _, by go_num, rfl, hid (HR.out.step hs _ ?_)⟩, by simp [intOf]; omega⟩
      rw [← HM3.out, dig m hm2]
end Go.Proofs.YtjcmhgibedjjnaaDoor
