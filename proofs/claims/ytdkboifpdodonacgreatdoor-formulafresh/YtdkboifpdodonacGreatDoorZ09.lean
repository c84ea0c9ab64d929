import Derived.Test.YtdkboifpdodonacGreatDoorZ08
set_option linter.unusedSimpArgs false
/-
 The landed program's isBlank, isNoBlank, isDigit, run.
-/
namespace Go.Proofs.YtdkboifpdodonacGreatDoor
open Go.RowKit Go.Deep PureCnf
set_option maxRecDepth 100000

/-! ### runes -/
theorem get_in (s : ByteArray) (j : Nat) (h : j < s.size) : s.get! j = s[j] := by
 simp [ByteArray.get!, getElem!_pos, h]
 rfl
/-- what one rune takes up: bytes of the text, all of them beyond the letters of seven bits. -/
theorem decode_span (s : ByteArray) (pos : Nat) (h : pos < s.size) (ha : 128 ≤ (s[pos]'h).toNat) :
  1 ≤ (Utf8.decode s pos).2 ∧ pos + (Utf8.decode s pos).2 ≤ s.size ∧ ∀ j (hj : j < s.size), pos ≤ j → j < pos + (Utf8.decode s pos).2 → 128 ≤ (s[j]'hj).toNat := by
 refine ⟨(decode_high s pos h ha).2, ?_⟩
 have h0 : s.get! (pos + 0) = s[pos]'h := get_in s pos h
 have hn : ¬ (s[pos]'h).toNat < 128 := by omega
 have one : pos + 1 ≤ s.size ∧ ∀ j (hj : j < s.size), pos ≤ j → j < pos + 1 → 128 ≤ (s[j]'hj).toNat := by
  refine ⟨h, fun j hj h1 h2 => ?_⟩
  obtain rfl : j = pos := by omega
  exact ha
 have big : ∀ k, pos + k < s.size → (s.get! (pos + k)).toNat / 64 = 2 → ∀ hj : pos + k < s.size, 128 ≤ (s[pos + k]'hj).toNat := by
  intro k hk he hj
  rw [get_in s (pos + k) hj] at he
  omega
 simp only [Utf8.decode, h0, hn, if_false]
 split
 ·next h1 =>
  simp only [Bool.and_eq_true, beq_iff_eq, decide_eq_true_eq] at h1
  split
  ·refine ⟨by omega, fun j hj a b => ?_⟩
   rcases Nat.eq_or_lt_of_le a with rfl | a
   ·exact ha
   ·obtain rfl : j = pos + 1 := by omega
    exact big 1 h1.2.1 h1.2.2 _
  ·exact one
 ·split
  ·next h1 =>
   simp only [Bool.and_eq_true, beq_iff_eq, decide_eq_true_eq] at h1
   split
   ·refine ⟨by omega, fun j hj a b => ?_⟩
    rcases Nat.eq_or_lt_of_le a with rfl | a
    ·exact ha
    ·rcases (show j = pos + 1 ∨ j = pos + 2 by omega) with rfl | rfl
     ·exact big 1 h1.1.2.1 h1.1.2.2 _
     ·exact big 2 h1.2.1 h1.2.2 _
   ·exact one
  ·split
   ·next h1 =>
    simp only [Bool.and_eq_true, beq_iff_eq, decide_eq_true_eq] at h1
    split
    ·refine ⟨by omega, fun j hj a b => ?_⟩
     rcases Nat.eq_or_lt_of_le a with rfl | a
     ·exact ha
     ·rcases (show j = pos + 1 ∨ j = pos + 2 ∨ j = pos + 3 by omega) with rfl | rfl | rfl
      ·exact big 1 h1.1.1.2.1 h1.1.1.2.2 _
      ·exact big 2 h1.1.2.1 h1.1.2.2 _
      ·exact big 3 h1.2.1 h1.2.2 _
    ·exact one
   ·exact one

def whR (r : Nat) : Bool := decide (r = 32 ∨ r = 9 ∨ r = 13)
def digR (r : Nat) : Bool := decide (48 ≤ r ∧ r ≤ 57)
theorem whR_byte (c : UInt8) : whR c.toNat = whB c := rfl
theorem digR_byte (c : UInt8) : digR c.toNat = digB c := rfl

set_option maxHeartbeats 400000 in
theorem isBlank_any (r : Nat) (w : World) : Calls Tryz.prog 62 #[.int .i32 (r : Int)] w fun e w' => e = .returned (.bool (whR r)) ∧ w' = w := by
 by_cases h1 : (r : Int) = 32
 ·have HD : Hid (whR r = true) := by show _ = _; unfold whR; simp; omega
  rw [h1]
  clear h1
  go_enter Tryz.func62, Tryz.ntmps62
  go_wp2
  go_ret
  rw [HD.out]
  exact ⟨rfl, rfl⟩
 ·by_cases h2 : (r : Int) = 9
  ·have HD : Hid (whR r = true) := by show _ = _; unfold whR; simp; omega
   rw [h2]
   clear h2 h1
   go_enter Tryz.func62, Tryz.ntmps62
   go_wp2
   go_ret
   rw [HD.out]
   exact ⟨rfl, rfl⟩
  ·by_cases h3 : (r : Int) = 13
   ·have HD : Hid (whR r = true) := by show _ = _; unfold whR; simp; omega
    rw [h3]
    clear h2 h1 h3
    go_enter Tryz.func62, Tryz.ntmps62
    go_wp2
    go_ret
    rw [HD.out]
    exact ⟨rfl, rfl⟩
   ·have HD : Hid (whR r = false) := by show _ = _; unfold whR; simp; omega
    have g1 : ((r : Int) == 32) = false := by simp; omega
    have g2 : ((r : Int) == 9) = false := by simp; omega
    have g3 : ((r : Int) == 13) = false := by simp; omega
    clear h1 h2 h3
    go_enter Tryz.func62, Tryz.ntmps62
    go_wp2
    go_ret
    rw [HD.out]
    exact ⟨rfl, rfl⟩

set_option maxHeartbeats 400000 in
theorem isNoBlank_any (r : Nat) (w : World) : Calls Tryz.prog 64 #[.int .i32 (r : Int)] w fun e w' => e = .returned (.bool (!whR r)) ∧ w' = w := by
 have HB := hid (isBlank_any r w)
 go_enter Tryz.func64, Tryz.ntmps64
 go_wp2_with (go_at_call 62; refine HB.out.mono ?_; rintro e w' ⟨rfl, rfl⟩)
 go_ret
 exact ⟨rfl, rfl⟩

set_option maxHeartbeats 400000 in
theorem isDigit_any (r : Nat) (w : World) : Calls Tryz.prog 98 #[.int .i32 (r : Int)] w fun e w' => e = .returned (.bool (digR r)) ∧ w' = w := by
 by_cases h1 : 48 ≤ (r : Int)
 ·by_cases h2 : (r : Int) ≤ 57
  ·have HD : Hid (digR r = true) := by show _ = _; unfold digR; simp; omega
   go_enter Tryz.func98, Tryz.ntmps98
   go_wp2
   go_ret
   rw [HD.out]
   exact ⟨rfl, rfl⟩
  ·have HD : Hid (digR r = false) := by show _ = _; unfold digR; simp; omega
   go_enter Tryz.func98, Tryz.ntmps98
   go_wp2
   go_ret
   rw [HD.out]
   exact ⟨rfl, rfl⟩
 ·have HD : Hid (digR r = false) := by show _ = _; unfold digR; simp; omega
  go_enter Tryz.func98, Tryz.ntmps98
  go_wp2
  go_ret
  rw [HD.out]
  exact ⟨rfl, rfl⟩

/-! ### run -/
theorem tw_take {p : UInt8 → Bool} : ∀ {l : List UInt8} {k : Nat}, k ≤ l.length → (l.take k).all p = true → (∀ h : k < l.length, p l[k] = false) → l.takeWhile p = l.take k := by
 intro l
 induction l with
 | nil => intro k _ _ _; simp
 | cons c t ih =>
  intro k hk ha hs
  cases k with
  | zero =>
   have := hs (by simp)
   simp at this
   simp [this]
  | succ k =>
   simp at ha
   rw [List.takeWhile_cons, if_pos ha.1, List.take_succ_cons, ih (by simpa using hk) (by simpa using ha.2) (fun h => by have := hs (by simpa using h); rwa [List.getElem_cons_succ] at this)]
theorem all_more {p : UInt8 → Bool} {l : List UInt8} {k n : Nat} (ha : (l.take k).all p = true) (h : ∀ j (hj : j < l.length), k ≤ j → j < k + n → p l[j] = true) : (l.take (k + n)).all p = true := by
 rw [List.all_eq_true]
 intro x hx
 obtain ⟨j, hj, rfl⟩ := List.getElem_of_mem hx
 rw [List.length_take] at hj
 rw [List.getElem_take]
 by_cases hjk : j < k
 ·refine List.all_eq_true.1 ha _ ?_
  rw [List.mem_iff_getElem]
  exact ⟨j, by rw [List.length_take]; omega, by rw [List.getElem_take]⟩
 ·exact h j (by omega) (by omega) (by omega)
theorem below_iter (w : World) (s : ByteArray) (pos : Nat) : Below w.heap.size w (w.iter s pos) := (Below.refl _ _).alloc (Nat.le_refl _) _

/-- the runes and the bytes of a predicate are told alike. -/
structure Alike (R : Nat → Bool) (p : UInt8 → Bool) : Prop where
 low : ∀ c : UInt8, c.toNat < 128 → R c.toNat = p c
 high : ∃ b, (∀ r, 128 ≤ r → R r = b) ∧ ∀ c : UInt8, 128 ≤ c.toNat → p c = b
theorem alike_wh : Alike whR whB := ⟨fun _ _ => rfl, false, fun r h => by unfold whR; simp; omega, fun c h => by unfold whB; simp; omega⟩
theorem alike_ink : Alike (fun r => !whR r) inkB := ⟨fun _ _ => rfl, true, fun r h => by unfold whR; simp; omega, fun c h => by unfold inkB whB; simp; omega⟩
theorem alike_dig : Alike digR digB := ⟨fun _ _ => rfl, false, fun r h => by unfold digR; simp; omega, fun c h => by unfold digB; simp; omega⟩

/-- one rune: what it says, and what the bytes say over which it goes. -/
theorem rune_step {R : Nat → Bool} {p : UInt8 → Bool} (hA : Alike R p) (s : ByteArray) (pos : Nat) (h : pos < s.size) :
  1 ≤ (Utf8.decode s pos).2 ∧ pos + (Utf8.decode s pos).2 ≤ s.size ∧ R (Utf8.decode s pos).1 = p s[pos] ∧ ∀ j (hj : j < s.size), pos ≤ j → j < pos + (Utf8.decode s pos).2 → p s[j] = p s[pos] := by
 by_cases ha : (s[pos]'h).toNat < 128
 ·rw [decode_ascii s pos h ha]
  refine ⟨Nat.le_refl _, h, hA.low _ ha, fun j hj h1 h2 => ?_⟩
  obtain rfl : j = pos := by simp at h2; omega
  rfl
 ·obtain ⟨b, hb, hp⟩ := hA.high
  obtain ⟨h1, h2, h3⟩ := decode_span s pos h (by omega)
  have h4 := (decode_high s pos h (by omega)).1
  refine ⟨h1, h2, by rw [hb _ h4, hp _ (by omega)], fun j hj a c => ?_⟩
  rw [hp _ (h3 j hj a c), hp _ (by omega)]
end Go.Proofs.YtdkboifpdodonacGreatDoor
/-
 Tokens: where they begin and end, what numbers they have: plain mathematics.
-/
namespace PureForm
open PureCnf

theorem skipB_ge (l : List UInt8) : ∀ (d i : Nat), l.length - i = d → i ≤ skipB l i ∧ (i ≤ l.length → skipB l i ≤ l.length) := by
 intro d
 induction d using Nat.strongRecOn with
 | _ d ih =>
  intro i hd
  rw [skipB_eq]
  split
  ·next h =>
   split
   ·split
    ·next h2 =>
     have := ih (l.length - runW lineB l i l.length) (by omega) _ rfl
     have h3 : runW lineB l i l.length ≤ l.length := runW_le (by omega)
     exact ⟨by omega, fun _ => this.2 h3⟩
    ·exact ⟨Nat.le_refl _, fun h => h⟩
   ·split
    ·have := ih (l.length - (i + 1)) (by omega) _ rfl
     exact ⟨by omega, fun _ => this.2 (by omega)⟩
    ·exact ⟨Nat.le_refl _, fun h => h⟩
  ·exact ⟨Nat.le_refl _, fun h => h⟩

/-- a token that may come. -/
structure TokOk (l : List UInt8) (i : Nat) (t : Tok) : Prop where
 at_ : t.at_ ≤ l.length
 end_ : t.kind ≠ 0 → i < t.end_ ∧ t.end_ ≤ l.length
 end0 : t.end_ ≤ l.length
 kind : t.kind ≤ 11
 bad : t.kind = 1 → t.n ≠ 0
 num : t.n ≤ 65535
 op : t.kind = 7 → t.n ≤ 10
 quant : t.kind = 5 → t.n ≤ 5

theorem word_ok {l w : List UInt8} {i p : Nat} (hp : i ≤ p) (hw : 0 < w.length) (hl : p + w.length ≤ l.length) : TokOk l i (wordT w p) := by
 have hr := numB_range w.tail 65535
 unfold wordT
 split
 ·exact ⟨by simp; omega, fun _ => ⟨by simp; omega, by simpa using hl⟩, by simpa using hl, by simp, by simp, by simp, by simp, by simp⟩
 ·split
  ·exact ⟨by simp; omega, fun _ => ⟨by simp; omega, by simpa using hl⟩, by simpa using hl, by simp, by simp, by simp, by simp, by simp⟩
  ·split
   ·exact ⟨by simp; omega, fun _ => ⟨by simp; omega, by simpa using hl⟩, by simpa using hl, by simp, by simp, by simp, by simp, by simp⟩
   ·split
    ·exact ⟨by simp; omega, fun _ => ⟨by simp; omega, by simpa using hl⟩, by simpa using hl, by simp, by simp, by simp, by simp, by simp⟩
    ·split
     ·exact ⟨by simp; omega, fun _ => ⟨by simp; omega, by simpa using hl⟩, by simpa using hl, by simp, by simp, by simp, by simp, by simp⟩
     ·split
      ·split
       ·exact ⟨by simp; omega, fun _ => ⟨by simp; omega, by simpa using hl⟩, by simpa using hl, by simp, by simp, by simp; omega, by simp, by simp⟩
       ·exact ⟨by simp; omega, fun _ => ⟨by simp; omega, by simpa using hl⟩, by simpa using hl, by simp, by simp, by simp, by simp, by simp⟩
      ·exact ⟨by simp; omega, fun _ => ⟨by simp; omega, by simpa using hl⟩, by simpa using hl, by simp, by simp, by simp, by simp, by simp⟩

theorem sign_ok {l : List UInt8} {i p : Nat} (hp : i ≤ p) (hl : p < l.length) : ∀ (L : List (List UInt8 × Nat × Nat)), (∀ x ∈ L, 0 < x.1.length ∧ 2 ≤ x.2.1 ∧ x.2.1 ≤ 11 ∧ x.2.2 ≤ 10 ∧ (x.2.1 = 5 → x.2.2 ≤ 5)) → TokOk l i (signT l p L) := by
 intro L
 induction L with
 | nil =>
  intro _
  exact ⟨by simp [signT]; omega, fun _ => ⟨by simp [signT]; omega, by simp [signT]; omega⟩, by simp [signT]; omega, by simp [signT], by simp [signT], by simp [signT], by simp [signT], by simp [signT]⟩
 | cons x r ih =>
  intro h
  rw [signT]
  split
  ·next he =>
   obtain ⟨h1, h2, h3, h4, h5⟩ := h x (List.mem_cons_self ..)
   have hlen := congrArg List.length he
   rw [List.length_take, List.length_drop] at hlen
   exact ⟨by simp; omega, fun _ => ⟨by simp; omega, by simp; omega⟩, by simp; omega, by simpa using h3, fun e => by simp at e; omega, by simp; omega, fun _ => by simpa using h4, fun e => by simpa using h5 (by simpa using e)⟩
  ·exact ih (fun y hy => h y (List.mem_cons_of_mem _ hy))

theorem next_ok (l : List UInt8) (i : Nat) : TokOk l i (nextT l i) := by
 obtain ⟨h1, h2⟩ := skipB_ge l _ i rfl
 unfold nextT
 split
 ·next h =>
  split
  ·next hl =>
   have hk : skipB l i < runW alnB l (skipB l i) l.length := by
    rw [runW_on h (Nat.le_refl _) (by simp [alnB, hl])]
    have := runW_ge alnB l (skipB l i + 1) l.length
    omega
   have hk2 : runW alnB l (skipB l i) l.length ≤ l.length := runW_le (by omega)
   have hlen : ((l.take (runW alnB l (skipB l i) l.length)).drop (skipB l i)).length = runW alnB l (skipB l i) l.length - skipB l i := by simp; omega
   exact word_ok h1 (by rw [hlen]; omega) (by rw [hlen]; omega)
  ·split
   ·next hd =>
    have hk : skipB l i < runW digB l (skipB l i) l.length := by
     rw [runW_on h (Nat.le_refl _) hd]
     have := runW_ge digB l (skipB l i + 1) l.length
     omega
    have hk2 : runW digB l (skipB l i) l.length ≤ l.length := runW_le (by omega)
    split
    ·next hb => exact ⟨by simp; omega, fun _ => ⟨by simp; omega, by simp; omega⟩, by simp; omega, by simp, by simp, by simp; omega, by simp, by simp⟩
    ·exact ⟨by simp; omega, fun _ => ⟨by simp; omega, by simpa using hk2⟩, by simpa using hk2, by simp, by simp, by simp, by simp, by simp⟩
   ·exact sign_ok h1 h signs (by decide)
 ·exact ⟨by simp, by simp, by simp, by simp, by simp, by simp, by simp, by simp⟩

theorem run_err {l : List UInt8} {q : Nat} {s : PS} {e : Nat} (h : stepP s (nextT l q) = .error e) : runP s (toksFrom l q) = .error (e, (nextT l q).at_) := by
 rw [toksFrom_eq]
 split <;> rw [runP, h]
theorem run_done {l : List UInt8} {q : Nat} {s : PS} {o : List Nd} (h : stepP s (nextT l q) = .ok (.inr o)) : runP s (toksFrom l q) = .ok o := by
 rw [toksFrom_eq]
 split <;> rw [runP, h]
theorem run_on {l : List UInt8} {q : Nat} {s s' : PS} (h0 : (nextT l q).kind ≠ 0) (h : stepP s (nextT l q) = .ok (.inl s')) : runP s (toksFrom l q) = runP s' (toksFrom l (nextT l q).end_) := by
 rw [toksFrom_eq, dif_pos ⟨h0, (next_ok l q).end_ h0⟩, runP, h]

theorem parseF_err {l : List UInt8} {f : Nat × Nat} (hl : l.length ≤ 1048576) (h : runP ⟨[], [], 0, 0, 0⟩ (toksFrom l 0) = .error f) : parseF l = .error (f.1, some f.2) := by
 unfold parseF
 rw [if_neg (by omega), h]
theorem parseF_ok {l : List UInt8} {o : List Nd} (hl : l.length ≤ 1048576) (h : runP ⟨[], [], 0, 0, 0⟩ (toksFrom l 0) = .ok o) : parseF l = .ok o := by
 unfold parseF
 rw [if_neg (by omega), h]
theorem parseF_long {l : List UInt8} (hl : 1048576 < l.length) : parseF l = .error (5, none) := by
 unfold parseF
 rw [if_pos hl]
end PureForm
/-
 The landed scanner: letters, digits, runs of them.
-/
namespace Go.Proofs.YtdkboifpdodonacGreatDoor
open Go.RowKit Go.Deep PureCnf PureForm
set_option maxRecDepth 100000

def letR (r : Nat) : Bool := decide ((97 ≤ r ∧ r ≤ 122) ∨ (65 ≤ r ∧ r ≤ 90))
def alnR (r : Nat) : Bool := letR r || digR r
theorem alike_let : Alike letR letB := ⟨fun _ _ => rfl, false, fun r h => by unfold letR; simp; omega, fun c h => by unfold letB; simp; omega⟩
theorem alike_aln : Alike alnR alnB := ⟨fun _ _ => rfl, false, fun r h => by unfold alnR letR digR; simp; omega, fun c h => by unfold alnB letB digB; simp; omega⟩

set_option maxHeartbeats 800000 in
theorem isLetter_any (r : Nat) (w : World) : Calls Tryz.prog 95 #[.int .i32 (r : Int)] w fun e w' => e = .returned (.bool (letR r)) ∧ w' = w := by
 have hc : (97 ≤ (r : Int) ∧ (r : Int) ≤ 122) ∨ (97 ≤ (r : Int) ∧ ¬ (r : Int) ≤ 122 ∧ 65 ≤ (r : Int) ∧ ¬ (r : Int) ≤ 90) ∨ (¬ 97 ≤ (r : Int) ∧ 65 ≤ (r : Int) ∧ (r : Int) ≤ 90) ∨ (¬ 97 ≤ (r : Int) ∧ 65 ≤ (r : Int) ∧ ¬ (r : Int) ≤ 90) ∨ (¬ 97 ≤ (r : Int) ∧ ¬ 65 ≤ (r : Int)) := by omega
 rcases hc with ⟨h1, h2⟩ | ⟨h1, h2, h3, h4⟩ | ⟨h1, h2, h3⟩ | ⟨h1, h2, h3⟩ | ⟨h1, h2⟩
 ·have HD : Hid (letR r = true) := by show _ = _; unfold letR; simp; omega
  go_enter Tryz.func95, Tryz.ntmps95
  go_wp2
  go_ret
  rw [HD.out]
  exact ⟨rfl, rfl⟩
 ·have HD : Hid (letR r = false) := by show _ = _; unfold letR; simp; omega
  go_enter Tryz.func95, Tryz.ntmps95
  go_wp2
  go_ret
  rw [HD.out]
  exact ⟨rfl, rfl⟩
 ·have HD : Hid (letR r = true) := by show _ = _; unfold letR; simp; omega
  go_enter Tryz.func95, Tryz.ntmps95
  go_wp2
  go_ret
  rw [HD.out]
  exact ⟨rfl, rfl⟩
 ·have HD : Hid (letR r = false) := by show _ = _; unfold letR; simp; omega
  go_enter Tryz.func95, Tryz.ntmps95
  go_wp2
  go_ret
  rw [HD.out]
  exact ⟨rfl, rfl⟩
 ·have HD : Hid (letR r = false) := by show _ = _; unfold letR; simp; omega
  go_enter Tryz.func95, Tryz.ntmps95
  go_wp2
  go_ret
  rw [HD.out]
  exact ⟨rfl, rfl⟩
set_option maxHeartbeats 400000 in
theorem isAln_any (r : Nat) (w : World) : Calls Tryz.prog 96 #[.int .i32 (r : Int)] w fun e w' => e = .returned (.bool (alnR r)) ∧ w' = w := by
 have HL := fun W => hid (isLetter_any r W)
 have HG := fun W => hid (isDigit_any r W)
 unfold alnR
 cases hl : letR r with
 | true =>
  simp only [hl] at HL
  clear hl
  go_enter Tryz.func96, Tryz.ntmps96
  go_wp2_with (first | (go_at_call 95; refine (HL _).out.mono ?_; rintro e w' ⟨rfl, rfl⟩) | (go_at_call 98; refine (HG _).out.mono ?_; rintro e w' ⟨rfl, rfl⟩))
  go_ret
  exact ⟨rfl, rfl⟩
 | false =>
  simp only [hl] at HL
  clear hl
  go_enter Tryz.func96, Tryz.ntmps96
  go_wp2_with (first | (go_at_call 95; refine (HL _).out.mono ?_; rintro e w' ⟨rfl, rfl⟩) | (go_at_call 98; refine (HG _).out.mono ?_; rintro e w' ⟨rfl, rfl⟩))
  go_ret
  exact ⟨rfl, rfl⟩

set_option maxHeartbeats 1000000 in
theorem runD_any (s : ByteArray) (w : World) :
  Calls Tryz.prog 61 #[.string s, .func (.func 98) #[] #[]] w fun e w' => e = .returned (str (s.data.toList.takeWhile digB)) ∧ Below w.heap.size w w' := by
 have hlen : s.data.toList.length = s.size := by simp
 have HC := fun r W => hid (isDigit_any r W)
 have HL := hid hlen
 clear hlen
 go_enter Tryz.func61, Tryz.ntmps61
 go_wp2
 go_loopw [5] (fun _ w' => ∃ pos : Nat, w' = w.iter s pos ∧ pos ≤ s.size ∧ Hid ((s.data.toList.take pos).all digB = true)) (fun _ w' => s.size - w'.iterPos w.heap.size)
 case atStart => exact ⟨0, rfl, Nat.zero_le _, rfl⟩
 case round =>
  obtain ⟨pos, rfl, hle, HA⟩ := hrel
  by_cases hp : pos < s.size
  ·have hnx : ∀ ty, (Instr.next (.pointer (some ⟨w.heap.size, 0, none⟩)) true ty).run Tryz.prog (w.iter s pos) = _ := fun ty => run_next_any w s pos ty hp
   obtain ⟨q1, q2, q3, q4⟩ := rune_step alike_dig s pos hp
   have hB := HC (Utf8.decode s pos).1 (w.iter s (pos + (Utf8.decode s pos).2))
   simp only [q3] at hB
   cases hd : digB s[pos] with
   | true =>
    rw [hd] at hB
    have HA1 : Hid ((s.data.toList.take (pos + (Utf8.decode s pos).2)).all digB = true) := by
     refine all_more HA.out (fun j hj a b => ?_)
     have hj' : j < s.size := by rw [← HL.out]; exact hj
     rw [list_at s j hj', q4 j hj' a b, hd]
    have HQ := hid q4
    have HQ3 := hid q3
    clear q3 q4 hd
    go_wp2_with (go_at_call 98; refine hB.out.mono ?_; rintro e w' ⟨rfl, rfl⟩)
    go_roundw
    case rel => exact ⟨_, rfl, q2, HA1.out⟩
    case measure => simp; omega
   | false =>
    rw [hd] at hB
    have HT : Hid (s.data.toList.takeWhile digB = s.data.toList.take pos) := tw_take (by rw [HL.out]; omega) HA.out (fun h => by rw [list_at s pos hp]; exact hd)
    clear q3 q4 hd
    go_wp2_with (go_at_call 98; refine hB.out.mono ?_; rintro e w' ⟨rfl, rfl⟩)
    go_ret
    refine ⟨?_, below_iter _ _ _⟩
    rw [HT.out, Lib.extract_eq]
    simp
  ·have hnx : ∀ ty, (Instr.next (.pointer (some ⟨w.heap.size, 0, none⟩)) true ty).run Tryz.prog (w.iter s pos) = _ := fun ty => run_next_end w s pos ty hp
   have HT : Hid (s.data.toList.takeWhile digB = s.data.toList) := by
    have := tw_take (p := digB) (l := s.data.toList) (k := pos) (by rw [HL.out]; omega) HA.out (fun h => absurd h (by rw [HL.out]; omega))
    show _ = _
    rw [this, List.take_of_length_le (by rw [HL.out]; omega)]
   go_wp2
   go_ret
   refine ⟨?_, below_iter _ _ _⟩
   rw [HT.out]
   show _ = Ending.returned (.string ⟨s.data.toList.toArray⟩)
   rw [Lib.mk_data]
   rfl


set_option maxHeartbeats 1000000 in
theorem runL_any (s : ByteArray) (w : World) :
  Calls Tryz.prog 61 #[.string s, .func (.func 95) #[] #[]] w fun e w' => e = .returned (str (s.data.toList.takeWhile letB)) ∧ Below w.heap.size w w' := by
 have hlen : s.data.toList.length = s.size := by simp
 have HC := fun r W => hid (isLetter_any r W)
 have HL := hid hlen
 clear hlen
 go_enter Tryz.func61, Tryz.ntmps61
 go_wp2
 go_loopw [5] (fun _ w' => ∃ pos : Nat, w' = w.iter s pos ∧ pos ≤ s.size ∧ Hid ((s.data.toList.take pos).all letB = true)) (fun _ w' => s.size - w'.iterPos w.heap.size)
 case atStart => exact ⟨0, rfl, Nat.zero_le _, rfl⟩
 case round =>
  obtain ⟨pos, rfl, hle, HA⟩ := hrel
  by_cases hp : pos < s.size
  ·have hnx : ∀ ty, (Instr.next (.pointer (some ⟨w.heap.size, 0, none⟩)) true ty).run Tryz.prog (w.iter s pos) = _ := fun ty => run_next_any w s pos ty hp
   obtain ⟨q1, q2, q3, q4⟩ := rune_step alike_let s pos hp
   have hB := HC (Utf8.decode s pos).1 (w.iter s (pos + (Utf8.decode s pos).2))
   simp only [q3] at hB
   cases hd : letB s[pos] with
   | true =>
    rw [hd] at hB
    have HA1 : Hid ((s.data.toList.take (pos + (Utf8.decode s pos).2)).all letB = true) := by
     refine all_more HA.out (fun j hj a b => ?_)
     have hj' : j < s.size := by rw [← HL.out]; exact hj
     rw [list_at s j hj', q4 j hj' a b, hd]
    have HQ := hid q4
    have HQ3 := hid q3
    clear q3 q4 hd
    go_wp2_with (go_at_call 95; refine hB.out.mono ?_; rintro e w' ⟨rfl, rfl⟩)
    go_roundw
    case rel => exact ⟨_, rfl, q2, HA1.out⟩
    case measure => simp; omega
   | false =>
    rw [hd] at hB
    have HT : Hid (s.data.toList.takeWhile letB = s.data.toList.take pos) := tw_take (by rw [HL.out]; omega) HA.out (fun h => by rw [list_at s pos hp]; exact hd)
    clear q3 q4 hd
    go_wp2_with (go_at_call 95; refine hB.out.mono ?_; rintro e w' ⟨rfl, rfl⟩)
    go_ret
    refine ⟨?_, below_iter _ _ _⟩
    rw [HT.out, Lib.extract_eq]
    simp
  ·have hnx : ∀ ty, (Instr.next (.pointer (some ⟨w.heap.size, 0, none⟩)) true ty).run Tryz.prog (w.iter s pos) = _ := fun ty => run_next_end w s pos ty hp
   have HT : Hid (s.data.toList.takeWhile letB = s.data.toList) := by
    have := tw_take (p := letB) (l := s.data.toList) (k := pos) (by rw [HL.out]; omega) HA.out (fun h => absurd h (by rw [HL.out]; omega))
    show _ = _
    rw [this, List.take_of_length_le (by rw [HL.out]; omega)]
   go_wp2
   go_ret
   refine ⟨?_, below_iter _ _ _⟩
   rw [HT.out]
   show _ = Ending.returned (.string ⟨s.data.toList.toArray⟩)
   rw [Lib.mk_data]
   rfl


set_option maxHeartbeats 1000000 in
theorem runA_any (s : ByteArray) (w : World) :
  Calls Tryz.prog 61 #[.string s, .func (.func 96) #[] #[]] w fun e w' => e = .returned (str (s.data.toList.takeWhile alnB)) ∧ Below w.heap.size w w' := by
 have hlen : s.data.toList.length = s.size := by simp
 have HC := fun r W => hid (isAln_any r W)
 have HL := hid hlen
 clear hlen
 go_enter Tryz.func61, Tryz.ntmps61
 go_wp2
 go_loopw [5] (fun _ w' => ∃ pos : Nat, w' = w.iter s pos ∧ pos ≤ s.size ∧ Hid ((s.data.toList.take pos).all alnB = true)) (fun _ w' => s.size - w'.iterPos w.heap.size)
 case atStart => exact ⟨0, rfl, Nat.zero_le _, rfl⟩
 case round =>
  obtain ⟨pos, rfl, hle, HA⟩ := hrel
  by_cases hp : pos < s.size
  ·have hnx : ∀ ty, (Instr.next (.pointer (some ⟨w.heap.size, 0, none⟩)) true ty).run Tryz.prog (w.iter s pos) = _ := fun ty => run_next_any w s pos ty hp
   obtain ⟨q1, q2, q3, q4⟩ := rune_step alike_aln s pos hp
   have hB := HC (Utf8.decode s pos).1 (w.iter s (pos + (Utf8.decode s pos).2))
   simp only [q3] at hB
   cases hd : alnB s[pos] with
   | true =>
    rw [hd] at hB
    have HA1 : Hid ((s.data.toList.take (pos + (Utf8.decode s pos).2)).all alnB = true) := by
     refine all_more HA.out (fun j hj a b => ?_)
     have hj' : j < s.size := by rw [← HL.out]; exact hj
     rw [list_at s j hj', q4 j hj' a b, hd]
    have HQ := hid q4
    have HQ3 := hid q3
    clear q3 q4 hd
    go_wp2_with (go_at_call 96; refine hB.out.mono ?_; rintro e w' ⟨rfl, rfl⟩)
    go_roundw
    case rel => exact ⟨_, rfl, q2, HA1.out⟩
    case measure => simp; omega
   | false =>
    rw [hd] at hB
    have HT : Hid (s.data.toList.takeWhile alnB = s.data.toList.take pos) := tw_take (by rw [HL.out]; omega) HA.out (fun h => by rw [list_at s pos hp]; exact hd)
    clear q3 q4 hd
    go_wp2_with (go_at_call 96; refine hB.out.mono ?_; rintro e w' ⟨rfl, rfl⟩)
    go_ret
    refine ⟨?_, below_iter _ _ _⟩
    rw [HT.out, Lib.extract_eq]
    simp
  ·have hnx : ∀ ty, (Instr.next (.pointer (some ⟨w.heap.size, 0, none⟩)) true ty).run Tryz.prog (w.iter s pos) = _ := fun ty => run_next_end w s pos ty hp
   have HT : Hid (s.data.toList.takeWhile alnB = s.data.toList) := by
    have := tw_take (p := alnB) (l := s.data.toList) (k := pos) (by rw [HL.out]; omega) HA.out (fun h => absurd h (by rw [HL.out]; omega))
    show _ = _
    rw [this, List.take_of_length_le (by rw [HL.out]; omega)]
   go_wp2
   go_ret
   refine ⟨?_, below_iter _ _ _⟩
   rw [HT.out]
   show _ = Ending.returned (.string ⟨s.data.toList.toArray⟩)
   rw [Lib.mk_data]
   rfl


end Go.Proofs.YtdkboifpdodonacGreatDoor
/-
 The landed program's run.
-/
namespace Go.Proofs.YtdkboifpdodonacGreatDoor
open Go.RowKit Go.Deep PureCnf
set_option maxRecDepth 100000

set_option maxHeartbeats 1000000 in
theorem runB_any (s : ByteArray) (w : World) :
  Calls Tryz.prog 61 #[.string s, .func (.func 62) #[] #[]] w fun e w' => e = .returned (str (s.data.toList.takeWhile whB)) ∧ Below w.heap.size w w' := by
 have hlen : s.data.toList.length = s.size := by simp
 have HC := fun r W => hid (isBlank_any r W)
 have HL := hid hlen
 clear hlen
 go_enter Tryz.func61, Tryz.ntmps61
 go_wp2
 go_loopw [5] (fun _ w' => ∃ pos : Nat, w' = w.iter s pos ∧ pos ≤ s.size ∧ Hid ((s.data.toList.take pos).all whB = true)) (fun _ w' => s.size - w'.iterPos w.heap.size)
 case atStart => exact ⟨0, rfl, Nat.zero_le _, rfl⟩
 case round =>
  obtain ⟨pos, rfl, hle, HA⟩ := hrel
  by_cases hp : pos < s.size
  ·have hnx : ∀ ty, (Instr.next (.pointer (some ⟨w.heap.size, 0, none⟩)) true ty).run Tryz.prog (w.iter s pos) = _ := fun ty => run_next_any w s pos ty hp
   obtain ⟨q1, q2, q3, q4⟩ := rune_step alike_wh s pos hp
   have hB := HC (Utf8.decode s pos).1 (w.iter s (pos + (Utf8.decode s pos).2))
   simp only [q3] at hB
   cases hd : whB s[pos] with
   | true =>
    rw [hd] at hB
    have HA1 : Hid ((s.data.toList.take (pos + (Utf8.decode s pos).2)).all whB = true) := by
     refine all_more HA.out (fun j hj a b => ?_)
     have hj' : j < s.size := by rw [← HL.out]; exact hj
     rw [list_at s j hj', q4 j hj' a b, hd]
    have HQ := hid q4
    have HQ3 := hid q3
    clear q3 q4 hd
    go_wp2_with (go_at_call 62; refine hB.out.mono ?_; rintro e w' ⟨rfl, rfl⟩)
    go_roundw
    case rel => exact ⟨_, rfl, q2, HA1.out⟩
    case measure => simp; omega
   | false =>
    rw [hd] at hB
    have HT : Hid (s.data.toList.takeWhile whB = s.data.toList.take pos) := tw_take (by rw [HL.out]; omega) HA.out (fun h => by rw [list_at s pos hp]; exact hd)
    clear q3 q4 hd
    go_wp2_with (go_at_call 62; refine hB.out.mono ?_; rintro e w' ⟨rfl, rfl⟩)
    go_ret
    refine ⟨?_, below_iter _ _ _⟩
    rw [HT.out, Lib.extract_eq]
    simp
  ·have hnx : ∀ ty, (Instr.next (.pointer (some ⟨w.heap.size, 0, none⟩)) true ty).run Tryz.prog (w.iter s pos) = _ := fun ty => run_next_end w s pos ty hp
   have HT : Hid (s.data.toList.takeWhile whB = s.data.toList) := by
    have := tw_take (p := whB) (l := s.data.toList) (k := pos) (by rw [HL.out]; omega) HA.out (fun h => absurd h (by rw [HL.out]; omega))
    show _ = _
    rw [this, List.take_of_length_le (by rw [HL.out]; omega)]
   go_wp2
   go_ret
   refine ⟨?_, below_iter _ _ _⟩
   rw [HT.out]
   show _ = Ending.returned (.string ⟨s.data.toList.toArray⟩)
   rw [Lib.mk_data]
   rfl

set_option maxHeartbeats 1000000 in
theorem runN_any (s : ByteArray) (w : World) :
  Calls Tryz.prog 61 #[.string s, .func (.func 64) #[] #[]] w fun e w' => e = .returned (str (s.data.toList.takeWhile inkB)) ∧ Below w.heap.size w w' := by
 have hlen : s.data.toList.length = s.size := by simp
 have HC := fun r W => hid (isNoBlank_any r W)
 have HL := hid hlen
 clear hlen
 go_enter Tryz.func61, Tryz.ntmps61
 go_wp2
 go_loopw [5] (fun _ w' => ∃ pos : Nat, w' = w.iter s pos ∧ pos ≤ s.size ∧ Hid ((s.data.toList.take pos).all inkB = true)) (fun _ w' => s.size - w'.iterPos w.heap.size)
 case atStart => exact ⟨0, rfl, Nat.zero_le _, rfl⟩
 case round =>
  obtain ⟨pos, rfl, hle, HA⟩ := hrel
  by_cases hp : pos < s.size
  ·have hnx : ∀ ty, (Instr.next (.pointer (some ⟨w.heap.size, 0, none⟩)) true ty).run Tryz.prog (w.iter s pos) = _ := fun ty => run_next_any w s pos ty hp
   obtain ⟨q1, q2, q3, q4⟩ := rune_step alike_ink s pos hp
   have hB := HC (Utf8.decode s pos).1 (w.iter s (pos + (Utf8.decode s pos).2))
   simp only [q3] at hB
   cases hd : inkB s[pos] with
   | true =>
    rw [hd] at hB
    have HA1 : Hid ((s.data.toList.take (pos + (Utf8.decode s pos).2)).all inkB = true) := by
     refine all_more HA.out (fun j hj a b => ?_)
     have hj' : j < s.size := by rw [← HL.out]; exact hj
     rw [list_at s j hj', q4 j hj' a b, hd]
    have HQ := hid q4
    have HQ3 := hid q3
    clear q3 q4 hd
    go_wp2_with (go_at_call 64; refine hB.out.mono ?_; rintro e w' ⟨rfl, rfl⟩)
    go_roundw
    case rel => exact ⟨_, rfl, q2, HA1.out⟩
    case measure => simp; omega
   | false =>
    rw [hd] at hB
    have HT : Hid (s.data.toList.takeWhile inkB = s.data.toList.take pos) := tw_take (by rw [HL.out]; omega) HA.out (fun h => by rw [list_at s pos hp]; exact hd)
    clear q3 q4 hd
    go_wp2_with (go_at_call 64; refine hB.out.mono ?_; rintro e w' ⟨rfl, rfl⟩)
    go_ret
    refine ⟨?_, below_iter _ _ _⟩
    rw [HT.out, Lib.extract_eq]
    simp
  ·have hnx : ∀ ty, (Instr.next (.pointer (some ⟨w.heap.size, 0, none⟩)) true ty).run Tryz.prog (w.iter s pos) = _ := fun ty => run_next_end w s pos ty hp
   have HT : Hid (s.data.toList.takeWhile inkB = s.data.toList) := by
    have := tw_take (p := inkB) (l := s.data.toList) (k := pos) (by rw [HL.out]; omega) HA.out (fun h => absurd h (by rw [HL.out]; omega))
    show _ = _
    rw [this, List.take_of_length_le (by rw [HL.out]; omega)]
   go_wp2
   go_ret
   refine ⟨?_, below_iter _ _ _⟩
   rw [HT.out]
   show _ = Ending.returned (.string ⟨s.data.toList.toArray⟩)
   rw [Lib.mk_data]
   rfl
end Go.Proofs.YtdkboifpdodonacGreatDoor
/-
 The landed program's number, amount.
-/
namespace Go.Proofs.YtdkboifpdodonacGreatDoor
open Go.RowKit Go.Deep PureCnf
set_option maxRecDepth 100000

def numV (l : List UInt8) (most : Nat) : Int := if 0 ≤ numB l most then numB l most else 0
def numY (l : List UInt8) (most : Nat) : Bool := decide (0 ≤ numB l most)
theorem num_no {l : List UInt8} {most : Nat} (h : numB l most = -1) : numV l most = 0 ∧ numY l most = false := by
 unfold numV numY; rw [h]; simp
theorem num_yes {l : List UInt8} {most : Nat} {v : Nat} (h : numB l most = (v : Int)) : numV l most = v ∧ numY l most = true := by
 unfold numV numY; rw [h]; simp
theorem empty_size (s : ByteArray) (h : s.size = 0) : s = ⟨#[]⟩ := by
 apply ByteArray.ext
 exact Array.eq_empty_of_size_eq_zero h

theorem not_empty (s : ByteArray) (h : 0 < s.size) : s.toList.isEmpty = false := by
 rw [Lib.toList_data]
 cases hl : s.data.toList with
 | nil =>
  have : s.data.toList.length = s.size := by simp
  rw [hl] at this; simp at this; omega
 | cons _ _ => rfl

set_option maxHeartbeats 2000000 in
theorem number33_any (s : ByteArray) (most : Nat) (w : World) (hs : s.size ≤ 1099511627776) (hm : most ≤ 1099511627776) :
  Calls Tryz.prog 79 #[.string s, .int .i64 (most : Int)] w fun e w' => e = .returned (.tuple #[.int .i64 (numV s.data.toList most), .bool (numY s.data.toList most)]) ∧ Below w.heap.size w w' := by
 have hlen : s.data.toList.length = s.size := by simp
 cases hp : plainB s.data.toList with
 | false =>
  have HN := hid (num_no (numB_plain (most := most) hp))
  by_cases h0 : s.size = 0
  ·clear hp
   obtain rfl := empty_size s h0
   clear h0 hlen hs
   go_enter Tryz.func79, Tryz.ntmps79
   go_wp2
   go_ret2
   have h := HN.out
   exact ⟨by rw [show numV [] most = 0 from h.1, show numY [] most = false from h.2]; rfl, Below.refl _ _⟩
  ·have h1 : 1 < s.size ∧ s.data.toList.head? = some 48 := by
    have hne : s.data.toList ≠ [] := fun e => h0 (by rw [← hlen, e]; rfl)
    simpa [plainB, hne] using hp
   obtain ⟨h2, h3⟩ := h1
   have h4 : (s[0].toNat : Int) = 48 := by
    rw [List.head?_eq_getElem?, List.getElem?_eq_getElem (by omega)] at h3
    have := Option.some.inj h3
    rw [list_at s 0 (by omega)] at this
    rw [this]; rfl
   have h5 := not_empty s (by omega)
   clear hp h0 h3
   go_enter Tryz.func79, Tryz.ntmps79
   go_wp2
   go_ret2
   rw [HN.out.1, HN.out.2]
   exact ⟨rfl, Below.refl _ _⟩
 | true =>
  have h0 : s.data.toList ≠ [] := fun e => by rw [e] at hp; simp [plainB] at hp
  have h1 : 0 < s.size := by
   rcases Nat.eq_zero_or_pos s.size with h | h
   ·exact absurd (List.eq_nil_of_length_eq_zero (hlen.trans h)) h0
   ·exact h
  have h2 : s.size = 1 ∨ (1 < s.size ∧ ((s[0].toNat : Int) == 48) = false) := by
   by_cases h : 1 < s.size
   ·refine .inr ⟨h, ?_⟩
    have h3 : s.data.toList.head? ≠ some 48 := by simpa [plainB, h0, h] using hp
    rw [List.head?_eq_getElem?, List.getElem?_eq_getElem (by omega), list_at s 0 (by omega)] at h3
    have h4 : s[0].toNat ≠ 48 := fun e => h3 (by rw [← UInt8.toNat_inj.1 (show s[0].toNat = (48 : UInt8).toNat from e)])
    simp; omega
   ·exact .inl (by omega)
  have h5 := not_empty s h1
  have HP := hid hp
  have HL := hid hlen
  have HC := fun r W => hid (isDigit_any r W)
  clear hp h0 hlen
  have h6 : (s.size = 1 ∧ (s[0].toNat : Int) = 48) ∨ (s.size = 1 ∧ ((s[0].toNat : Int) == 48) = false) ∨ (1 < s.size ∧ ((s[0].toNat : Int) == 48) = false) := by
   rcases h2 with h2 | h2
   ·by_cases h : (s[0].toNat : Int) = 48
    ·exact .inl ⟨h2, h⟩
    ·exact .inr (.inl ⟨h2, by simpa using h⟩)
   ·exact .inr (.inr h2)
  clear h2
  rcases h6 with ⟨h2, h6⟩ | ⟨h2, h6⟩ | ⟨h2, h6⟩
  all_goals
   go_enter Tryz.func79, Tryz.ntmps79
   go_wp2
   go_loopw [6] (fun n w' => ∃ k : Nat, w' = w.iter s k ∧ k ≤ s.size ∧ n = .int .i64 (valN (s.data.toList.take k) : Int) ∧ valN (s.data.toList.take k) ≤ most ∧ Hid ((s.data.toList.take k).all digB = true)) (fun _ w' => s.size - w'.iterPos w.heap.size)
   case atStart => exact ⟨0, rfl, Nat.zero_le _, rfl, Nat.zero_le _, rfl⟩
   case round =>
    obtain ⟨k, rfl, hk, rfl, hv, HA⟩ := hrel
    by_cases hlt : k < s.size
    ·have hlt' : k < s.data.toList.length := by rw [HL.out]; exact hlt
     cases hd : digB s[k] with
     | false =>
      have hnx : ∀ ty, (Instr.next (.pointer (some ⟨w.heap.size, 0, none⟩)) true ty).run Tryz.prog (w.iter s k) = _ := fun ty => run_next_any w s k ty hlt
      obtain ⟨q1, q2, q3, q4⟩ := rune_step alike_dig s k hlt
      have hB := HC (Utf8.decode s k).1 (w.iter s (k + (Utf8.decode s k).2))
      rw [q3, hd] at hB
      have HN := hid (num_no (numB_off (most := most) hlt' hd))
      clear hd q3 q4
      go_wp2_with (go_at_call 98; refine hB.out.mono ?_; rintro e w' ⟨rfl, rfl⟩)
      go_ret2
      rw [HN.out.1, HN.out.2]
      exact ⟨rfl, below_iter _ _ _⟩
     | true =>
      have hr : 48 ≤ s[k].toNat ∧ s[k].toNat ≤ 57 := by simpa [digB] using hd
      have hnx : ∀ ty, (Instr.next (.pointer (some ⟨w.heap.size, 0, none⟩)) true ty).run Tryz.prog (w.iter s k) = _ := fun ty => run_next_ascii w s k ty hlt (by omega)
      have hB := HC s[k].toNat (w.iter s (k + 1))
      rw [digR_byte, hd] at hB
      have hv1 : Hid ((valN (s.data.toList.take (k + 1)) : Int) = 10 * (valN (s.data.toList.take k) : Int) + ((s[k].toNat : Int) - 48)) := by
       show _ = _
       rw [take_snoc _ k hlt', valN_snoc, list_at s k hlt]; omega
      have HA1 : Hid ((s.data.toList.take (k + 1)).all digB = true) := by
       show _ = _
       rw [take_snoc _ k hlt', List.all_append, HA.out, list_at s k hlt]
       simp [hd]
      clear hd
      obtain ⟨r1, r2⟩ := hr
      have r3 : (48 : Int) ≤ (s[k].toNat : Int) := by omega
      have r4 : (s[k].toNat : Int) ≤ 57 := by omega
      have r5 : (0 : Int) ≤ (valN (s.data.toList.take k) : Int) := by omega
      have r6 : (valN (s.data.toList.take k) : Int) ≤ 1099511627776 := by omega
      by_cases hgt : (most : Int) < 10 * (valN (s.data.toList.take k) : Int) + ((s[k].toNat : Int) - 48)
      ·have HN := hid (num_no (numB_great (l := s.data.toList) (most := most) (k := k + 1) (by have := hv1.out; omega)))
       go_wp2_with (go_at_call 98; refine hB.out.mono ?_; rintro e w' ⟨rfl, rfl⟩)
       go_ret2
       rw [HN.out.1, HN.out.2]
       exact ⟨rfl, below_iter _ _ _⟩
      ·go_wp2_with (go_at_call 98; refine hB.out.mono ?_; rintro e w' ⟨rfl, rfl⟩)
       go_roundw
       case rel => exact ⟨k + 1, rfl, hlt, by rw [hv1.out], by have := hv1.out; omega, HA1.out⟩
       case measure => simp; omega
    ·have hnx : ∀ ty, (Instr.next (.pointer (some ⟨w.heap.size, 0, none⟩)) true ty).run Tryz.prog (w.iter s k) = _ := fun ty => run_next_end w s k ty hlt
     have HE : Hid (numV s.data.toList most = (valN (s.data.toList.take k) : Int) ∧ numY s.data.toList most = true) := by
      have e : s.data.toList.take k = s.data.toList := List.take_of_length_le (by rw [HL.out]; omega)
      have ha := HA.out
      rw [e] at ha hv ⊢
      exact num_yes (numB_end HP.out ha hv)
     go_wp2
     go_ret2
     rw [HE.out.1, HE.out.2]
     exact ⟨rfl, below_iter _ _ _⟩
end Go.Proofs.YtdkboifpdodonacGreatDoor
