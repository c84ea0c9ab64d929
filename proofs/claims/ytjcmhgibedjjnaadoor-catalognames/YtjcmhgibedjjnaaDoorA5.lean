/-
  The document's names; the law.
-/
import Derived.Test.YtjcmhgibedjjnaaDoorA4
namespace Go.Proofs.YtjcmhgibedjjnaaDoor
open Go.RowKit Go.Deep PureHex
set_option maxRecDepth 100000

theorem info5 : (Tryd.prog.info? 5).map (fun i => (i.zero, i.size, i.bytes)) = some (some (.int .u8 0), 1, 1) := by kernel_rfl
/-- bytes as cells. -/
def cb (l : List UInt8) : List Value := l.map fun b => Value.int .u8 b.toNat
theorem cb_length (l : List UInt8) : (cb l).length = l.length := by simp [cb]
theorem cb_append (l m : List UInt8) : cb (l ++ m) = cb l ++ cb m := by simp [cb]
theorem add_plain (g o k : Nat) : (⟨g, o, none⟩ : Addr).add k = ⟨g, o + k, none⟩ := by
  unfold Addr.add
  split <;> simp_all
theorem add_zero_addr (g j : Nat) : (⟨g, 0, none⟩ : Addr).add j = ⟨g, j, none⟩ := by rw [add_plain, Nat.zero_add]
/-- the text T is owned there: since W0 nothing below B has turned. -/
def Buf (B : Nat) (T : List UInt8) (W0 : World) (v : Value) (w : World) : Prop := Lib.OwnBuf B 5 v T.length (cb T) W0 w
theorem Buf.empty {B : Nat} {W0 w : World} (hb : Below B W0 w) (hB : B ≤ w.heap.size) : Buf B [] W0 (.slice none 0 0) w :=
  ⟨⟨rfl, .inl ⟨rfl, rfl⟩⟩, hb, hB⟩
theorem Buf.shape {B : Nat} {T : List UInt8} {W0 : World} {v : Value} {w : World} (h : Buf B T W0 v w) : ∃ sa c, v = .slice sa T.length c := by
  rcases h.1.2 with ⟨hn, h0⟩ | ⟨g, cap, cur, fz, hv, _⟩
  · exact ⟨_, _, by rw [hn, h0]⟩
  · exact ⟨_, _, hv⟩
theorem Buf.text {B : Nat} {T : List UInt8} {W0 : World} {v : Value} {w : World} (h : Buf B T W0 v w) : (convert 27 9 v).run Tryd.prog w = .ok (str T) w := by
  rcases h.1.2 with ⟨hn, h0⟩ | ⟨g, cap, cur, fz, hv, hB, hg, hf, hc, hm, hs, ht⟩
  · have : T = [] := List.eq_nil_of_length_eq_zero h0
    subst this
    rw [hn, run_convert_bytes_string w 27 9 5 none 0 0 Tryd.underlying27 Tryd.underlying5 Tryd.underlying9]
    simp [Conv.bytesToString]
    rfl
  · rw [hv]
    refine run_convert_bytes_back (P := Tryd.prog) w 27 9 5 ⟨g, 0, none⟩ cap T Tryd.underlying27 Tryd.underlying5 Tryd.underlying9 (fun j hj => ?_)
    rw [Nat.mul_one] at ht
    have h1 : cur.toList[j]? = (cb T)[j]? := by rw [← ht, List.getElem?_take_of_lt hj]
    simp [cb, List.getElem?_eq_getElem hj] at h1
    rw [add_zero_addr, cell_row hg]
    exact h1
theorem app_bytes {ops : Array Oper} {rest : List Oper} {o : Oper} {a : Act} {Q : Exit → Act → World → Prop} {w0 : World} {cs : Array Value} (hgd : o.guard = none) (s x : Operand)
    (ho : o.op = .call { callee := .builtin .append, args := #[s, x], argTypes := #[27, 27] })
    (B : Nat) (v : Value) (T D : List UInt8) (hcs : cs = (cb D).toArray) (m : Nat) (hm : m = D.length) (hs : a.eval s = v) (W0 : World) (hb : Buf B T W0 v w0) (hx : a.eval x = .slice (some ⟨w0.heap.size, 0, none⟩) m m) (hlen : T.length + D.length ≤ 140737488355328)
    (h : ∀ v' w', Buf B (T ++ D) W0 v' w' → wpList Tryd.prog ops Q rest (a.put o.dst v') w') : wpList Tryd.prog ops Q (o :: rest) a (w0.alloc (.cells cs 5)) := by
  obtain ⟨i, hi, hz0, hz1, hz2⟩ := info_parts info5
  subst hcs hm
  have hb' := Lib.OwnBuf.alloc hb (.cells (cb D).toArray 5)
  refine wpList_append_ownF _ hgd s x 27 ho B 5 i (.int .u8 0) 1 1 Tryd.underlying27 hi hz0 hz1 hz2 rfl (by decide) v T.length (cb T) hs hb'.1 ⟨w0.heap.size, 0, none⟩ D.length D.length (cb D) hx (by rw [cb_length, Nat.mul_one]) ?_ ?_ (by unfold maxLen; omega) (by omega) hb'.2.2 ?_
  · intro j u hj
    rw [add_zero_addr, cell_row (heap_alloc_new w0 _)]
    simpa using hj
  · intro u hu
    simp only [cb, List.mem_map] at hu
    obtain ⟨b, _, rfl⟩ := hu
    rfl
  · intro v' w' ho' hg _
    refine h v' w' ?_
    unfold Buf
    rw [List.length_append, cb_append]
    exact hb'.grown ho' hg
theorem mask_at (u k : Nat) (hu : u < 18446744073709551616) : bits BinOp.and IntKind.u64 ((u : Int) / 2 ^ (4 * (15 - k))) 15 = ((u / 16 ^ (15 - k) % 16 : Nat) : Int) := by
  have e : (u : Int) / 2 ^ (4 * (15 - k)) = ((u / 16 ^ (15 - k) : Nat) : Int) := by
    rw [Int.natCast_ediv, show (2 : Int) ^ (4 * (15 - k)) = ((2 ^ (4 * (15 - k)) : Nat) : Int) from (Int.natCast_pow 2 _).symm, Nat.pow_mul]
  rw [e]
  exact mask15 _ (Nat.lt_of_le_of_lt (Nat.div_le_self _ _) hu)
theorem dig16 (m : Nat) (h : m < 16) (hz : m < (⟨#[48, 49, 50, 51, 52, 53, 54, 55, 56, 57, 97, 98, 99, 100, 101, 102]⟩ : ByteArray).size) : ((⟨#[48, 49, 50, 51, 52, 53, 54, 55, 56, 57, 97, 98, 99, 100, 101, 102]⟩ : ByteArray)[m]'hz) = hexC m := by
  have key : ∀ k : Fin 16, ∀ h : k.val < 16, ((⟨#[48, 49, 50, 51, 52, 53, 54, 55, 56, 57, 97, 98, 99, 100, 101, 102]⟩ : ByteArray)[k.val]'h) = hexC k.val := by decide +kernel
  exact key ⟨m, h⟩ hz
set_option maxHeartbeats 4000000 in
theorem hex_any (u : Nat) (hu : u < 18446744073709551616) (w : World) : Calls Tryd.prog 9 #[.int .u64 u] w fun e w' => e = .returned (str (hexW 16 u)) ∧ Below w.heap.size w w' := by
  go_enter Tryd.func9, Tryd.ntmps9
  go_wp2
  go_loopw [3, 4] (fun bv iv W => ∃ k : Nat, k ≤ 16 ∧ iv = .int .i64 (15 - (k : Int)) ∧ Hid (Buf w.heap.size (hexT u k) w bv W)) (fun _ iv _ => (intOf iv + 1).toNat)
  case atStart => exact ⟨0, by omega, rfl, hid (Buf.empty (Below.refl _ _) (Nat.le_refl _))⟩
  case round =>
    obtain ⟨k, hk, rfl, HB⟩ := hrel
    obtain ⟨sa, ca, rfl⟩ := HB.out.shape
    by_cases hlt : k < 16
    · have hm := mask_at u k hu
      have hm2 : u / 16 ^ (15 - k) % 16 < 16 := Nat.mod_lt _ (by decide)
      have HT := hid (hexT_step u k hlt)
      have HL : Hid ((hexT u k).length = k) := hexW_len _ _
      obtain ⟨m, hm3⟩ : ∃ m, m = u / 16 ^ (15 - k) % 16 := ⟨_, rfl⟩
      rw [← hm3] at hm hm2 HT
      clear hm3
      go_wp2_with (first
        | (at_builtin; refine app_bytes rfl _ _ rfl w.heap.size _ _ [hexC m] (by rw [dig16 m hm2]; rfl) 1 rfl rfl w HB.out rfl (by rw [HL.out]; simp; omega) ?_; intro v1 w1 r1; have R1 := hid r1; clear r1))
      rw [← HT.out] at R1
      first
        | exact ⟨⟨k + 1, by omega, by go_num, R1⟩, by simp [intOf]; omega⟩
        | trace_state
    · have hk16 : k = 16 := by omega
      have hneg : ¬ (0 ≤ 15 - (k : Int)) := by omega
      have HF : Hid (hexT u k = hexW 16 u) := by
        rw [hk16]
        exact hexT_full u
      clear hk16
      have hc := HB.out.text
      have BB := hid HB.out.2.1
      go_wp2
      go_ret
      exact ⟨by rw [← HF.out]; rfl, BB.out⟩
set_option maxHeartbeats 1000000 in
theorem rfile_any (u : Nat) (hu : u < 18446744073709551616) (w : World) : Calls Tryd.prog 5 #[.int .u64 u] w fun e w' => e = .returned (str ([100, 100, 45] ++ hexW 16 u)) ∧ Below w.heap.size w w' := by
  have B := hid (hex_any u hu w)
  have hl := hexW_len 16 u
  obtain ⟨s, hs⟩ : ∃ s, s = hexW 16 u := ⟨_, rfl⟩
  rw [← hs] at B hl ⊢
  have hsz : (⟨s.toArray⟩ : ByteArray).size = 16 := hl
  clear hs hl
  go_enter Tryd.func5, Tryd.ntmps5
  go_wp2_with (first
    | (go_at_call 9; refine B.out.mono ?_; rintro e w2 ⟨rfl, b2⟩; have B2 := hid b2; clear b2))
  go_ret
  exact ⟨congrArg (fun b => Ending.returned (Value.string b)) (str_add [100, 100, 45] s), B2.out⟩
set_option maxHeartbeats 1000000 in
theorem rname_any (u : Nat) (hu : u < 18446744073709551616) (w : World) : Calls Tryd.prog 7 #[.int .u64 u] w fun e w' => e = .returned (str ([99, 97, 116, 45] ++ hexW 16 u)) ∧ Below w.heap.size w w' := by
  have B := hid (hex_any u hu w)
  have hl := hexW_len 16 u
  obtain ⟨s, hs⟩ : ∃ s, s = hexW 16 u := ⟨_, rfl⟩
  rw [← hs] at B hl ⊢
  have hsz : (⟨s.toArray⟩ : ByteArray).size = 16 := hl
  clear hs hl
  go_enter Tryd.func7, Tryd.ntmps7
  go_wp2_with (first
    | (go_at_call 9; refine B.out.mono ?_; rintro e w2 ⟨rfl, b2⟩; have B2 := hid b2; clear b2))
  go_ret
  exact ⟨congrArg (fun b => Ending.returned (Value.string b)) (str_add [99, 97, 116, 45] s), B2.out⟩
set_option maxHeartbeats 1000000 in
theorem names_law (u : Nat) (hu : u < 18446744073709551616) (w : World) (h : Tz w) : Calls Tryd.prog 3 #[.int .u64 u] w fun e w' => e = .returned (.bool true) ∧ Below w.heap.size w w' := by
  have H4 : Hid (∀ W, Below w.heap.size w W → Calls Tryd.prog 4 #[.int .u64 u] W fun e w' => e = .returned (str ([100, 100, 45] ++ hexW 16 u)) ∧ Below w.heap.size w w') := fun W hb => (file_any u hu W (h.on hb)).mono fun e w' ⟨h1, h2⟩ => ⟨h1, hb.trans (h2.mono hb.size)⟩
  have H5 : Hid (∀ W, Below w.heap.size w W → Calls Tryd.prog 5 #[.int .u64 u] W fun e w' => e = .returned (str ([100, 100, 45] ++ hexW 16 u)) ∧ Below w.heap.size w w') := fun W hb => (rfile_any u hu W).mono fun e w' ⟨h1, h2⟩ => ⟨h1, hb.trans (h2.mono hb.size)⟩
  have H6 : Hid (∀ W, Below w.heap.size w W → Calls Tryd.prog 6 #[.int .u64 u] W fun e w' => e = .returned (str ([99, 97, 116, 45] ++ hexW 16 u)) ∧ Below w.heap.size w w') := fun W hb => (name_any u hu W (h.on hb)).mono fun e w' ⟨h1, h2⟩ => ⟨h1, hb.trans (h2.mono hb.size)⟩
  have H7 : Hid (∀ W, Below w.heap.size w W → Calls Tryd.prog 7 #[.int .u64 u] W fun e w' => e = .returned (str ([99, 97, 116, 45] ++ hexW 16 u)) ∧ Below w.heap.size w w') := fun W hb => (rname_any u hu W).mono fun e w' ⟨h1, h2⟩ => ⟨h1, hb.trans (h2.mono hb.size)⟩
  obtain ⟨s, hs⟩ : ∃ s, s = [100, 100, 45] ++ hexW 16 u := ⟨_, rfl⟩
  obtain ⟨t, ht⟩ : ∃ t, t = [99, 97, 116, 45] ++ hexW 16 u := ⟨_, rfl⟩
  rw [← hs] at H4 H5
  rw [← ht] at H6 H7
  clear hs ht h
  go_enter Tryd.func3, Tryd.ntmps3
  go_wp2_with (first
    | (go_at_call 7; refine Calls.mono (H7.out _ B6.out) ?_; rintro e w7 ⟨rfl, b7⟩; have B7 := hid b7; clear b7)
    | (go_at_call 6; refine Calls.mono (H6.out _ B5.out) ?_; rintro e w6 ⟨rfl, b6⟩; have B6 := hid b6; clear b6)
    | (go_at_call 5; refine Calls.mono (H5.out _ B4.out) ?_; rintro e w5 ⟨rfl, b5⟩; have B5 := hid b5; clear b5)
    | (go_at_call 4; refine Calls.mono (H4.out _ (Below.refl _ _)) ?_; rintro e w4 ⟨rfl, b4⟩; have B4 := hid b4; clear b4))
  first
    | (go_ret; exact ⟨rfl, B7.out⟩)
    | trace_state
end Go.Proofs.YtjcmhgibedjjnaaDoor
