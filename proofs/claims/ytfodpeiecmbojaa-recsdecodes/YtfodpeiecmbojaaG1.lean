/-
  The document's own: Fit, Sum, number.
-/
import Derived.Test.YtfodpeiecmbojaaE1
import Derived.Deep.AppendLies
import Derived.OwnWalk
namespace Go.Proofs.Ytfodpeiecmbojaa
open Go.RowKit Go.Deep PureCrc

set_option maxHeartbeats 400000 in
theorem rfit_any (b : Int) (w : World) : Calls Try.prog 17 #[.int .i64 b] w fun e w' => e = .returned (.int .i64 (fitN b)) ∧ w' = w := by
  by_cases h1 : b < 64
  · have HB := hid (show fitN b = 0 by unfold fitN; rw [if_neg (by omega)])
    go_enter Try.func17, Try.ntmps17
    go_wp2
    go_ret
    rw [HB.out]
    exact ⟨rfl, rfl⟩
  · by_cases h2 : b > 65536
    · have HB := hid (show fitN b = 0 by unfold fitN; rw [if_neg (by omega)])
      go_enter Try.func17, Try.ntmps17
      go_wp2
      go_ret
      rw [HB.out]
      exact ⟨rfl, rfl⟩
    · have hm : b.tmod 32 = b % 32 := Int.tmod_eq_emod_of_nonneg (by omega)
      have hq : b.tdiv 32 = b / 32 := Int.tdiv_eq_ediv_of_nonneg (by omega)
      by_cases h3 : b % 32 = 0
      · have HB := hid (show fitN b = b / 32 - 1 by unfold fitN; rw [if_pos (by omega)])
        go_enter Try.func17, Try.ntmps17
        go_wp2
        go_ret
        rw [HB.out]
        exact ⟨rfl, rfl⟩
      · have HB := hid (show fitN b = 0 by unfold fitN; rw [if_neg (by omega)])
        have hne : ¬ b % 32 = 0 := h3
        go_enter Try.func17, Try.ntmps17
        go_wp2
        go_ret
        rw [HB.out]
        exact ⟨rfl, rfl⟩

theorem iter_end (n r : Nat) : iter (n + 1) r = T (iter n r) := iter_succ n r

set_option maxRecDepth 100000 in
set_option maxHeartbeats 1000000 in
theorem rsum_any (l : List Nat) (b o c : Nat) (w : World) (hr : Rd w b o l) (hl : ∀ x ∈ l, x < 256) (hn : l.length ≤ 1099511627776) :
    Calls Try.prog 22 #[.slice (some ⟨b, o, none⟩) l.length c] w fun e w' => e = .returned (.int .u32 (crc l : Int)) ∧ w' = w := by
  have HR := hid hr
  have HL := hid hl
  clear hr hl
  go_enter Try.func22, Try.ntmps22
  go_wp2
  go_loopw [3, 4] (fun s i W => ∃ k : Nat, k ≤ l.length ∧ i = .int .i64 k ∧ s = .int .u32 (reg 4294967295 (l.take k) : Int) ∧ W = w) (fun _ i _ => l.length - (intOf i).toNat)
  case atStart => exact ⟨0, Nat.zero_le _, rfl, rfl, rfl⟩
  case round =>
    obtain ⟨k, hk, rfl, rfl, rfl⟩ := hrel
    by_cases hlt : k < l.length
    · have hx := HL.out _ (List.getElem_mem hlt)
      have hs := reg_lt (l := l.take k) (fun x hx => HL.out x (List.mem_of_mem_take hx)) (r := 4294967295) (by decide)
      have hs' : reg 4294967295 (l.take k) < 4294967296 := hs
      have hreg : reg 4294967295 (l.take (k + 1)) = iter 8 (reg 4294967295 (l.take k) ^^^ l[k]) := by
        rw [List.take_succ_eq_append_getElem hlt, reg_append]; rfl
      obtain ⟨s, hsd⟩ : ∃ s, s = reg 4294967295 (l.take k) := ⟨_, rfl⟩
      rw [← hsd] at hs' hreg ⊢
      have HREG := hid hreg
      obtain ⟨x, hxd⟩ : ∃ x, x = l[k] := ⟨_, rfl⟩
      have hc := HR.out k hlt
      rw [← hxd] at hx hc HREG
      have hxx := u32_xor_nat s x hs' (by omega)
      have hy : s ^^^ x < 2 ^ 32 := Nat.xor_lt_two_pow hs' (by omega)
      obtain ⟨y, hyd⟩ : ∃ y, y = s ^^^ x := ⟨_, rfl⟩
      rw [← hyd] at hxx hy HREG
      clear hs hsd hreg hxd hyd hs'
      go_wp2
      go_loopw [3, 5] (fun s i W => ∃ j : Nat, j ≤ 8 ∧ i = .int .i64 j ∧ s = .int .u32 (iter j y : Int) ∧ W = wr) (fun _ i _ => 8 - (intOf i).toNat)
      case atStart => exact ⟨0, by omega, rfl, rfl, rfl⟩
      case round =>
        obtain ⟨j, hj, rfl, rfl, hW⟩ := hrel
        subst hW
        by_cases hlt2 : j < 8
        · have hi := iter_lt j (r := y) hy
          have hi' : iter j y < 4294967296 := hi
          have HIS := hid (iter_end j y)
          obtain ⟨z, hz⟩ : ∃ z, z = iter j y := ⟨_, rfl⟩
          rw [← hz] at hi' HIS ⊢
          have hpl : poly < 4294967296 := by decide
          have HX := hid (u32_xor_nat (z / 2) poly (by omega) hpl)
          clear hz hi hpl
          by_cases ho : z % 2 = 1
          · have HT : Hid (T z = z / 2 ^^^ poly) := by show _ = _; unfold T; rw [if_pos ho]
            have ho1 : (z : Int) % 2 = 1 := by omega
            go_wp2
            refine ⟨⟨j + 1, hlt2, rfl, ?_, trivial⟩, by simp [intOf]; omega⟩
            rw [HIS.out, HT.out]
            exact congrArg (Value.int .u32) HX.out
          · have HT : Hid (T z = z / 2) := by show _ = _; unfold T; rw [if_neg ho, Nat.xor_zero]
            have ho1 : (z : Int) % 2 = 0 := by omega
            go_wp2
            refine ⟨⟨j + 1, hlt2, rfl, ?_, trivial⟩, by simp [intOf]; omega⟩
            rw [HIS.out, HT.out]
            simp
        · have e8 : j = 8 := by omega
          subst e8
          go_wp2
          exact ⟨⟨k + 1, hlt, rfl, by rw [HREG.out], trivial⟩, by simp [intOf]; omega⟩
    · go_wp2
      go_ret
      have e : k = l.length := by omega
      have hs := reg_lt (l := l) HL.out (r := 4294967295) (by decide)
      have ec : (4294967295 - (reg 4294967295 (l.take k) : Int)) % 4294967296 = (crc l : Int) := by
        rw [e, List.take_length]
        unfold crc
        rw [not_sum hs]
        omega
      exact ⟨congrArg (fun x => Ending.returned (Value.int .u32 x)) ec, rfl⟩

/-! ### bytes of one's own -/
def bcl (l : List Nat) : List Value := l.map fun x : Nat => Value.int .u8 (x : Int)
/-- a slice of bytes that nobody else has, in a block not below base. -/
abbrev OwnB (w : World) (base : Nat) (v : Value) (l : List Nat) : Prop := w.ownsRow base 5 1 v l.length (bcl l)

theorem info_parts {e : TypeId} {z : Value} {n b : Nat} (h : (Try.prog.info? e).map (fun i => (i.zero, i.size, i.bytes)) = some (some z, n, b)) : ∃ i, Try.prog.info? e = some i ∧ i.zero = some z ∧ i.size = n ∧ i.bytes = b := by
  obtain ⟨i, hi, h2⟩ := Option.map_eq_some_iff.1 h
  simp only [Prod.mk.injEq] at h2
  exact ⟨i, hi, h2.1, h2.2.1, h2.2.2⟩
theorem Try.info5b : (Try.prog.info? 5).map (fun i => (i.zero, i.size, i.bytes)) = some (some (.int .u8 0), 1, 1) := by kernel_rfl

theorem below_grown {w w' : World} {base : Nat} {row : Option Nat} (hg : w.grownBy w' row) (hr : ∀ k, row = some k → base ≤ k) (hb : base ≤ w.heap.size) : Below base w w' :=
  ⟨hg.os, hg.tape, hg.output, hg.size, fun k hk => hg.block k (by omega) (fun e => by have := hr k e.symm; omega)⟩

theorem wpList_app (w : World) {ops : Array Oper} {rest : List Oper} {o : Oper} {a : Act} {Q : Exit → Act → World → Prop} (hgd : o.guard = none) (s x : Operand)
    (hop : o.op = Op.call { callee := Callee.builtin Builtin.append, args := #[s, x], argTypes := #[22, 22] })
    (base : Nat) (v : Value) (l : List Nat) (ad : Addr) (news : List Nat) (m c : Nat) (hs : a.eval s = v) (hx : a.eval x = .slice (some ad) m c) (hml : news.length = m) (hown : OwnB w base v l) (hc : ∀ j (h : j < news.length), w.cell? (ad.add j) = some (.int .u8 (news[j] : Int)))
    (hm : 0 < m) (hn : l.length + m ≤ 70368744177664) (hb : base ≤ w.heap.size)
    (hK : ∀ v' w', OwnB w' base v' (l ++ news) → Below base w w' → wpList Try.prog ops Q rest (a.put o.dst v') w') : wpList Try.prog ops Q (o :: rest) a w := by
  obtain ⟨i, h0, hz0, hz1, hz2⟩ := info_parts Try.info5b
  refine wpList_append_lies w hgd s x 22 hop base 5 i (.int .u8 0) 1 1 Try.underlying22 h0 hz0 hz1 hz2 rfl (by decide) v l.length (bcl l) hs hown ad m c (bcl news) hx (by simp [bcl, hml])
    (fun j u hu => ?_) (fun u hu => ?_) hm (by unfold maxLen; omega) (by omega) hb _ rfl (fun g cap w' r1 r2 r3 _ => hK _ w' ?_ (below_grown r2 (fun k hk => (hown.lt k hk).1) hb))
  · simp only [bcl, List.getElem?_map] at hu
    obtain ⟨y, hy, rfl⟩ := Option.map_eq_some_iff.1 hu
    obtain ⟨hj, rfl⟩ := List.getElem?_eq_some_iff.1 hy
    exact hc j hj
  · obtain ⟨y, _, rfl⟩ := List.mem_map.1 hu
    rfl
  · have e : bcl (l ++ news) = bcl l ++ bcl news := by simp [bcl]
    unfold OwnB
    rw [e, List.length_append, hml]
    exact r1

theorem one_byte (W : World) (y : Nat) : ∀ j (h : j < [y % 256].length), (W.alloc (.cells #[.int .u8 ((y : Int) % 256)] 5)).cell? ((⟨W.heap.size, 0, none⟩ : Addr).add j) = some (.int .u8 (([y % 256][j] : Nat) : Int)) := fun j h => by
  have hj : j = 0 := by simp at h; exact h
  subst hj
  simp [Addr.add]

set_option maxRecDepth 100000 in
set_option maxHeartbeats 1000000 in
theorem number_any (base : Nat) (sv : Value) (l : List Nat) (v n : Nat) (w : World) (h : OwnB w base sv l) (hb : base ≤ w.heap.size) (hn : n ≤ 65536) (hl : l.length ≤ 1099511627776) (hv : v < 18446744073709551616) :
    Calls Try.prog 36 #[sv, .int .u64 (v : Int), .int .i64 (n : Int)] w fun e w' => ∃ sv', e = .returned sv' ∧ OwnB w' base sv' (l ++ le n v) ∧ Below base w w' := by
  have HH := hid h
  clear h
  go_enter Try.func36, Try.ntmps36
  go_wp2
  go_loopw [0, 1, 7] (fun bv vv i W => ∃ k : Nat, k ≤ n ∧ i = .int .i64 k ∧ vv = .int .u64 ((v / 256 ^ k : Nat) : Int) ∧ OwnB W base bv (l ++ le k v) ∧ Below base w W) (fun _ _ i _ => n - (intOf i).toNat)
  case atStart => exact ⟨0, Nat.zero_le _, rfl, by simp, by simpa [le] using HH.out, Below.refl _ _⟩
  case round =>
    obtain ⟨k, hk, rfl, rfl, h1, h2⟩ := hrel
    have hbW : base ≤ wr.heap.size := Nat.le_trans hb h2.size
    by_cases hlt : k < n
    · have H1 := hid (h1.alloc (.cells #[.int .u8 (((v / 256 ^ k : Nat) : Int) % 256)] 5))
      have HC := hid (one_byte wr (v / 256 ^ k))
      have H2 := hid h2
      have hll : (l ++ le k v).length = l.length + k := by rw [List.length_append, le_length]
      have hdv : v / 256 ^ k / 256 = v / 256 ^ (k + 1) := by rw [Nat.div_div_eq_div_mul, Nat.pow_succ]
      have HDV := hid hdv
      have HLE : Hid (l ++ le (k + 1) v = (l ++ le k v) ++ [v / 256 ^ k % 256]) := by show _ = _; rw [le_succ, List.append_assoc]
      have hyv : v / 256 ^ k < 18446744073709551616 := Nat.lt_of_le_of_lt (Nat.div_le_self ..) hv
      obtain ⟨y, hy⟩ : ∃ y, y = v / 256 ^ k := ⟨_, rfl⟩
      rw [← hy] at HDV HLE H1 HC hyv ⊢
      have hsz : (wr.alloc (.cells #[.int .u8 ((y : Int) % 256)] 5)).heap.size = wr.heap.size + 1 := by simp
      have HLL := hid hll
      clear h1 h2 hdv hy hll
      go_wp2_with (first
        | (at_builtin; refine wpList_app _ rfl _ _ rfl base _ (l ++ le k v) ⟨wr.heap.size, 0, none⟩ [y % 256] 1 1 rfl rfl rfl H1.out HC.out (by omega) (by have := HLL.out; omega) (by omega) ?_; intro v3 w3 r1 r2; have K1 := hid r1; have K2 := hid r2; clear r1 r2))
      have hbe : Below base w w3 := (H2.out.alloc (by omega) _).trans K2.out
      refine ⟨⟨k + 1, hlt, rfl, ?_, by rw [HLE.out]; exact K1.out, hbe⟩, by simp [intOf]; omega⟩
      rw [← HDV.out]
      simp
    · have HF := hid (And.intro h1 h2)
      have e : k = n := by omega
      subst e
      clear h1 h2
      go_wp2
      go_ret
      exact ⟨_, rfl, HF.out⟩
end Go.Proofs.Ytfodpeiecmbojaa
