import Derived.Test.YtcpncfngadablaaGreatDoorZ30
/-
  The law's own file: it is made, written twice, sealed.
-/
namespace Go.Proofs.YtcpncfngadablaaGreatDoor
open Go.RowKit Go.Deep ShfKit
set_option maxRecDepth 100000

theorem find_ins {k : List UInt8} {f : FileA} : ∀ {l : List (List UInt8 × FileA)}, findA l k = none → findA (insA (k, f) l) k = some f
  | [], _ => by simp [insA, findA]
  | y :: r, h => by
    have hy : y.1 ≠ k := fun e => by simp [findA, e] at h
    have hr : findA r k = none := by simpa [findA, hy] using h
    unfold insA
    split
    · simp [findA]
    · have := find_ins (f := f) hr
      simpa [findA, hy] using this
theorem find_set {k : List UInt8} {f f0 : FileA} : ∀ {l : List (List UInt8 × FileA)}, findA l k = some f0 → findA (setA k f l) k = some f
  | [], h => by simp [findA] at h
  | y :: r, h => by
    by_cases hy : y.1 = k
    · simp [findA, setA, hy]
    · have hr : findA r k = some f0 := by simpa [findA, hy] using h
      have := find_set (f := f) hr
      simpa [findA, setA, hy] using this
theorem fine_ok {t : Nat} {A : PubA} {s : ByteArray} {bl : List UInt8} (h : Inv t A) (ht : t ≤ 1073741824) (hbl : bl.length = A.B) (h0 : (createA s A).1 = 0) :
    (appendA s bl (createA s A).2).1 = 0 ∧ (appendA s bl (appendA s bl (createA s A).2).2).1 = 0 ∧ (sealA s (appendA s bl (appendA s bl (createA s A).2).2).2).1 = 0 := by
  have hu := h.used
  have ht2 := h.total
  have hBs := h.Bs
  have hn : nameB s = true := by
    cases hb : nameB s with
    | true => rfl
    | false => rw [createA, hb] at h0; simp at h0
  have hf : findA A.files (nm s) = none := by
    cases hb : findA A.files (nm s) with
    | none => rfl
    | some f => rw [createA, hn, hb] at h0; simp at h0
  have e1 : (createA s A).2 = { A with files := insA (nm s, ⟨false, []⟩) A.files, c := { A.c with calls := A.c.calls + 1 } } := by
    rw [createA, hn, hf]
    rfl
  rw [e1]
  have f1 : findA (insA (nm s, ⟨false, []⟩) A.files) (nm s) = some ⟨false, []⟩ := find_ins hf
  have e2 : appendA s bl { A with files := insA (nm s, ⟨false, []⟩) A.files, c := { A.c with calls := A.c.calls + 1 } } = (0, { A with files := setA (nm s) ⟨false, [bl]⟩ (insA (nm s, ⟨false, []⟩) A.files), c := { A.c with calls := A.c.calls + 1 + 1, appends := A.c.appends + 1, used := A.c.used + 1, most := max A.c.most (A.c.used + 1) } }) := by
    unfold appendA
    rw [if_pos hn, f1]
    simp only [Bool.false_eq_true, if_false, hbl, ne_eq, not_true_eq_false]
    rw [if_neg (by omega)]
    rfl
  rw [e2]
  have f2 : findA (setA (nm s) ⟨false, [bl]⟩ (insA (nm s, ⟨false, []⟩) A.files)) (nm s) = some ⟨false, [bl]⟩ := find_set f1
  have e3 : appendA s bl { A with files := setA (nm s) ⟨false, [bl]⟩ (insA (nm s, ⟨false, []⟩) A.files), c := { A.c with calls := A.c.calls + 1 + 1, appends := A.c.appends + 1, used := A.c.used + 1, most := max A.c.most (A.c.used + 1) } } = (0, { A with files := setA (nm s) ⟨false, [bl, bl]⟩ (setA (nm s) ⟨false, [bl]⟩ (insA (nm s, ⟨false, []⟩) A.files)), c := { A.c with calls := A.c.calls + 1 + 1 + 1, appends := A.c.appends + 1 + 1, used := A.c.used + 1 + 1, most := max (max A.c.most (A.c.used + 1)) (A.c.used + 1 + 1) } }) := by
    unfold appendA
    rw [if_pos hn, f2]
    simp only [Bool.false_eq_true, if_false, hbl, ne_eq, not_true_eq_false]
    rw [if_neg (by omega)]
    rfl
  rw [e3]
  have f3 : findA (setA (nm s) ⟨false, [bl, bl]⟩ (setA (nm s) ⟨false, [bl]⟩ (insA (nm s, ⟨false, []⟩) A.files))) (nm s) = some ⟨false, [bl, bl]⟩ := find_set f2
  refine ⟨rfl, rfl, ?_⟩
  unfold sealA
  rw [if_pos hn, f3]
  rfl
theorem createA_B (s : ByteArray) (A : PubA) : (createA s A).2.B = A.B := by unfold createA; (repeat' split) <;> rfl
theorem sealA_B (s : ByteArray) (A : PubA) : (sealA s A).2.B = A.B := by unfold sealA; (repeat' split) <;> rfl
theorem deleteA_B (s : ByteArray) (A : PubA) : (deleteA s A).2.B = A.B := by unfold deleteA; (repeat' split) <;> rfl
theorem appendA_B (s : ByteArray) (bl : List UInt8) (A : PubA) : (appendA s bl A).2.B = A.B := by unfold appendA; (repeat' split) <;> rfl
abbrev n1S : ByteArray := ⟨#[110, 45, 49]⟩
def bl0 (B : Nat) : List UInt8 := dataA 1 B [1, 2, 3]
theorem bl0_len {B : Nat} (h : 64 ≤ B) : (bl0 B).length = B := by
  unfold bl0 dataA
  rw [if_neg (by decide), List.length_append, List.length_take, List.length_replicate]
  simp
  omega
section
variable {w W W' : World} {E : Nat → Addr} {p mf mt B t ob ab : Nat} {X : PubA} {D D' : DiskC} {zs : List Nat}
/-- the disk and the law's own operation. -/
structure Fi (w W : World) (p mf mt B t ob ab : Nat) (zs : List Nat) (X : PubA) (D : DiskC) : Prop where
  run : Runs W w.heap.size p mf mt B t D
  pub : D.pub = X
  low : Below w.heap.size w W
  one : W.heap[ob]? = some (.cells #[.int .i64 2, .string n1S, .int .i64 1, .int .i64 0, .slice (some ⟨ab, 0, none⟩) 3 3] 40 (0, 0))
  arr : W.heap[ab]? = some (.cells #[.int .u8 1, .int .u8 2, .int .u8 3] 5 (0, 0))
  off : ob ∉ D.foot p mf mt ∧ ab ∉ D.foot p mf mt
  zero : ∀ b ∈ zs, W.heap[b]? = some (.cells #[.int .i64 0, .int .i64 0, .int .i64 0, .int .i64 0] 44 (0, 0)) ∧ b ∉ D.foot p mf mt ∧ w.heap.size ≤ b
theorem Fi.below (h : Fi w W p mf mt B t ob ab zs X D) (hb : Below W.heap.size W W') : Fi w W' p mf mt B t ob ab zs X D :=
  ⟨h.run.touch (Touch.of_below hb (Nat.le_refl _)), h.pub, h.low.trans (hb.mono h.low.size), (hb.block _ (lt_of_block h.one)).trans h.one, (hb.block _ (lt_of_block h.arr)).trans h.arr, h.off, fun b hz => ⟨(hb.block _ (lt_of_block (h.zero b hz).1)).trans (h.zero b hz).1, (h.zero b hz).2⟩⟩
theorem Fi.env (h : Fi w W p mf mt B t ob ab zs X D) (V : Env w w.heap.size E) : Env W w.heap.size E := ⟨V.sents.below h.low V.vars V.objs, V.vars, V.objs, h.low.size⟩
theorem Fi.did {X' : PubA} (h : Fi w W p mf mt B t ob ab zs X D) (hi : Inv (t + 1) X') (hB : X'.B = X.B) (hd : Did W W' w.heap.size p mf mt D X') : ∃ D', Fi w W' p mf mt B (t + 1) ob ab zs X' D' := by
  obtain ⟨D', R', hp, hT, ht, hf⟩ := hd
  have hDB : D'.B = B := by
    have h1 : D'.pub.B = D.pub.B := by rw [hp, hB, h.pub]
    exact (show D'.B = D.B from h1).trans h.run.B
  refine ⟨D', ⟨R', hT, by rw [hp]; exact hi, hDB⟩, hp, h.low.trans (ht.below h.low.size (fun b hb => h.run.rep.base b hb)), (ht.block _ (lt_of_block h.one) h.off.1).trans h.one, (ht.block _ (lt_of_block h.arr) h.off.2).trans h.arr, ⟨fun hm => ?_, fun hm => ?_⟩, fun b hz => ⟨(ht.block _ (lt_of_block (h.zero b hz).1) (h.zero b hz).2.1).trans (h.zero b hz).1, fun hm => ?_, (h.zero b hz).2.2⟩⟩
  · rcases hf _ hm with h1 | h1
    · exact h.off.1 h1
    · have := lt_of_block h.one
      omega
  · rcases hf _ hm with h1 | h1
    · exact h.off.2 h1
    · have := lt_of_block h.arr
      omega
  · rcases hf _ hm with h1 | h1
    · exact (h.zero b hz).2.1 h1
    · have := lt_of_block (h.zero b hz).1
      omega
theorem Fi.alloc (h : Fi w W p mf mt B t ob ab [] X D) : Fi w (W.alloc (.cells #[.int .i64 0, .int .i64 0, .int .i64 0, .int .i64 0] 44)) p mf mt B t ob ab [W.heap.size] X D := by
  have h1 := h.below ((Below.refl _ _).alloc (Nat.le_refl _) (.cells #[.int .i64 0, .int .i64 0, .int .i64 0, .int .i64 0] 44))
  refine ⟨h1.run, h1.pub, h1.low, h1.one, h1.arr, h1.off, fun b hb => ?_⟩
  simp at hb
  subst hb
  exact ⟨heap_alloc_new _ _, fun hm => by have := h.run.rep.lt _ hm; omega, h.low.size⟩
theorem Fi.cells (h : Fi w W p mf mt B t ob ab zs X D) : W.cell? ⟨ob, 0, none⟩ = some (.int .i64 2) ∧ W.cell? ⟨ob, 1, none⟩ = some (.string n1S) ∧ W.cell? ⟨ob, 2, none⟩ = some (.int .i64 1) ∧ W.cell? ⟨ob, 3, none⟩ = some (.int .i64 0) ∧ W.cell? ⟨ob, 4, none⟩ = some (.slice (some ⟨ab, 0, none⟩) 3 3) := by
  have c := fun i => cell_row h.one i
  refine ⟨?_, ?_, ?_, ?_, ?_⟩ <;> rw [c] <;> rfl
theorem Fi.inv (h : Fi w W p mf mt B t ob ab zs X D) : Inv t X ∧ X.files.Pairwise (fun a b => a.1 ≠ b.1) := by
  have h1 := h.run.inv
  have h2 := h.run.keys
  rw [h.pub] at h1 h2
  exact ⟨h1, h2⟩
theorem Fi.create (h : Fi w W p mf mt B t ob ab zs X D) (V : Env w w.heap.size E) (ht : t ≤ 1073741824) (s : ByteArray) :
    Calls Tryz.prog 9 #[.pointer (some ⟨p, 0, none⟩), .string s] W fun e W' => e = .returned (.int .i64 (createA s X).1) ∧ ∃ D', Fi w W' p mf mt B (t + 1) ob ab zs (createA s X).2 D' := by
  have hc := Create_any (h.env V) h.run.rep h.run.T h.run.inv.on (h.run.inv.small (by omega)) s
  rw [h.pub] at hc
  exact hc.mono fun e W' ⟨e1, hd⟩ => ⟨e1, h.did (h.inv.1.create s) (createA_B s X) hd⟩
theorem Fi.seal (h : Fi w W p mf mt B t ob ab zs X D) (V : Env w w.heap.size E) (ht : t ≤ 1073741824) (s : ByteArray) :
    Calls Tryz.prog 12 #[.pointer (some ⟨p, 0, none⟩), .string s] W fun e W' => e = .returned (.int .i64 (sealA s X).1) ∧ ∃ D', Fi w W' p mf mt B (t + 1) ob ab zs (sealA s X).2 D' := by
  have hc := Seal_any (h.env V) h.run.rep h.run.T h.run.inv.on (h.run.inv.small (by omega)) s
  rw [h.pub] at hc
  exact hc.mono fun e W' ⟨e1, hd⟩ => ⟨e1, h.did (h.inv.1.seal h.inv.2 s) (sealA_B s X) hd⟩
theorem Fi.append (h : Fi w W p mf mt B t ob ab zs X D) (V : Env w w.heap.size E) (ht : t ≤ 1073741824) (s : ByteArray) {sa : Option Addr} {n c : Nat} {bl : List UInt8} (hs : Shows W sa n c bl) (hn : ∀ a, sa = some a → a.block ∉ D.foot p mf mt) :
    Calls Tryz.prog 10 #[.pointer (some ⟨p, 0, none⟩), .string s, .slice sa n c] W fun e W' => e = .returned (.int .i64 (appendA s bl X).1) ∧ ∃ D', Fi w W' p mf mt B (t + 1) ob ab zs (appendA s bl X).2 D' := by
  have hcc := h.run.inv.calls
  have hc := Append_any (h.env V) h.run.rep h.run.T h.run.inv.on (h.run.inv.small (by omega)) (by simp only [DiskC.pub] at hcc; omega) s (bl := bl) ⟨hs.len, hs.cap, fun h0 => by
    obtain ⟨a, e, hl, hc⟩ := hs.at_ h0
    exact ⟨a, e, hl, hn a e, hc⟩⟩
  rw [h.pub] at hc
  exact hc.mono fun e W' ⟨e1, hd⟩ => ⟨e1, h.did (h.inv.1.append h.inv.2 s bl) (appendA_B s bl X) hd⟩
theorem Fi.data (h : Fi w W p mf mt B t ob ab zs X D) (h64 : 64 ≤ B) (h65 : B ≤ 65536) :
    Calls Tryz.prog 11 #[.agg #[.int .i64 2, .string n1S, .int .i64 1, .int .i64 0, .slice (some ⟨ab, 0, none⟩) 3 3], .int .i64 (B : Int)] W fun e W' => ∃ sa c, e = .returned (.slice sa B c) ∧ Shows W' sa B c (bl0 B) ∧ (∀ a, sa = some a → a.block ∉ D.foot p mf mt) ∧ Fi w W' p mf mt B t ob ab zs X D := by
  have hsh : Shows W (some ⟨ab, 0, none⟩) 3 3 [1, 2, 3] := ⟨rfl, Nat.le_refl _, fun _ => ⟨_, rfl, lt_of_block h.arr, fun j v hv => by
    rw [add_zero_addr, cell_row h.arr]
    have hj := (List.getElem?_eq_some_iff.1 hv).1
    simp [Lib.byteCells] at hj hv
    match j, hj with
    | 0, _ => simpa using hv
    | 1, _ => simpa using hv
    | 2, _ => simpa using hv⟩, fun e => by simp at e⟩
  have hc := data_any 2 n1S 1 0 hsh (by omega) h64 h65
  unfold opV at hc
  have hl : (dataA 1 B [1, 2, 3]).length = B := bl0_len h64
  rw [hl] at hc
  refine hc.mono ?_
  rintro e W' ⟨sa, c, rfl, h1, h2, h3⟩
  exact ⟨sa, c, rfl, h1, fun a ha hm => by have := h.run.rep.lt _ hm; have := h3 a ha; omega, h.below (h2.below (Nat.le_refl _) (by simp))⟩
end
end Go.Proofs.YtcpncfngadablaaGreatDoor
/-
  The law's steps.
-/
namespace Go.Proofs.YtcpncfngadablaaGreatDoor
open Go.RowKit Go.Deep ShfKit
set_option maxRecDepth 100000
section
variable {w W W' W1 : World} {E : Nat → Addr} {lo p mf mt B t t' : Nat} {D D' : DiskC} {S S' : Sg} {n m : Nat} {fv : Value} {l : List SFile}
theorem names_same {a b : Value} {N : Nat} {names : List (List UInt8)} (h1 : W.ownsRow 0 9 1 a N (names.map encStr)) (h2 : W.ownsRow 0 9 1 b N (names.map encStr)) (hN : N ≤ 1099511627776) :
    Calls Tryz.prog 18 #[a, b] W fun e W' => e = .returned (.bool true) ∧ Below W.heap.size W W' := by
  have hl : names.length = N := by have := h1.1; simpa using this
  have h1' := h1
  have h2' := h2
  rw [← hl] at h1' h2'
  have t1 : ToldAt W 0 ⟨0, 0, false, [], names, cnt0⟩ (toldV 0 0 false (.slice none 0 0) a cnt0) := ⟨_, _, rfl, World.ownsRow_nil _ _ _ _, h1'⟩
  have t2 : ToldAt W 0 ⟨0, 0, false, [], names, cnt0⟩ (toldV 0 0 false (.slice none 0 0) b cnt0) := ⟨_, _, rfl, World.ownsRow_nil _ _ _ _, h2'⟩
  have hc := hid (sameTold_true t1 t2 (by show names.length ≤ _; omega))
  unfold toldV cnt0 at hc
  obtain ⟨s1, c1, e1⟩ := sh_slice h1
  obtain ⟨s2, c2, e2⟩ := sh_slice h2
  rw [e1, e2] at hc ⊢
  clear h1 h2 h1' h2' t1 t2 e1 e2 hl
  go_enter Tryz.func18, Tryz.ntmps18
  go_wp2_with (go_at_call 42; refine hc.out.mono ?_; rintro e w2 ⟨rfl, ht⟩; have HT := hid ht; clear ht)
  go_ret
  exact ⟨rfl, HT.out.below (Nat.le_refl _) (by simp)⟩
/-- a block that none of the two has. -/
theorem Stp.box (h : Stp W W' p mf mt D D' S S') {b : Nat} {o : Obj} (hb : W.heap[b]? = some o) (hf : b ∉ S.foot ++ D.foot p mf mt) : W'.heap[b]? = some o ∧ b ∉ S'.foot ++ D'.foot p mf mt := by
  have hlt := lt_of_block hb
  refine ⟨(h.touch.block b hlt (fun hm => ?_)).trans hb, fun hm => ?_⟩
  · rcases List.mem_append.1 hm with hm | hm
    · exact hf (List.mem_append.2 (.inl (hdr_foot hm)))
    · exact hf (List.mem_append.2 (.inr hm))
  · rcases List.mem_append.1 hm with hm | hm
    · rcases h.foot b hm with h1 | h1
      · exact hf (List.mem_append.2 (.inl h1))
      · omega
    · rcases h.dft b hm with h1 | h1
      · exact hf (List.mem_append.2 (.inr h1))
      · omega
theorem Stp.low (h : Stp W W' p mf mt D D' S S') (hs : Sy W E lo p mf mt B t D S) (hw : Below lo w W) : Below lo w W' := hw.trans (h.touch.below hs.env.room (fun b hb => by
  rcases List.mem_append.1 hb with hb | hb
  · exact hs.slo b (hdr_foot hb)
  · exact hs.run.rep.base b hb))
/-- a new shelf, with nothing on it. -/
def sg0 (p : Nat) : Sg := ⟨p, .slice none 0 0, .slice none 0 0, .slice none 0 0, [], [], []⟩
theorem sg0_foot (q : Nat) : (sg0 q).foot = [q] := rfl
theorem Sy.new (V : Env W lo E) (h : Runs W lo p mf mt B t D) {o : Obj} (ho : o = .cells #[.slice none 0 0, .slice none 0 0, .slice none 0 0] 55 (0, 0)) : Sy (W.alloc o) E lo p mf mt B t D (sg0 W.heap.size) := by
  have hb : Below W.heap.size W (W.alloc o) := (Below.refl _ _).alloc (Nat.le_refl _) _
  have ht : Touch [] W (W.alloc o) := Touch.of_below hb (Nat.le_refl _)
  subst ho
  refine ⟨V.touch ht (by simp), h.touch ht, ⟨heap_alloc_new W _, World.ownsRow_nil _ _ _ _, World.ownsRow_nil _ _ _ _, World.ownsRow_nil _ _ _ _, Fam.nil _ _ _ _, Fam.nil _ _ _ _, Fam.nil _ _ _ _⟩, fun b hb hm => ?_, fun b hm => ?_⟩
  · rw [sg0_foot] at hm
    simp at hm
    have := h.rep.lt b hb
    omega
  · rw [sg0_foot] at hm
    simp at hm
    subst hm
    exact V.room
theorem Runs.did (h : Runs W lo p mf mt B t D) {X' : PubA} (hi : Inv (t + 1) X') (hB : X'.B = D.pub.B) (hd : Did W W' lo p mf mt D X') : ∃ D', Runs W' lo p mf mt B (t + 1) D' ∧ Touch (D.foot p mf mt) W W' ∧ ∀ b ∈ D'.foot p mf mt, b ∈ D.foot p mf mt ∨ W.heap.size ≤ b := by
  obtain ⟨D', R', hp, hT, ht, hf⟩ := hd
  have hDB : D'.B = B := by
    have h1 : D'.pub.B = D.pub.B := by rw [hp, hB]
    exact (show D'.B = D.B from h1).trans h.B
  exact ⟨D', ⟨R', hT, by rw [hp]; exact hi, hDB⟩, ht, hf⟩
theorem Sy.create (h : Sy W E lo p mf mt B t D S) (ht : t ≤ 1073741824) (s : ByteArray) :
    Calls Tryz.prog 9 #[.pointer (some ⟨p, 0, none⟩), .string s] W fun e W' => ∃ c, e = .returned (.int .i64 c) ∧ ∃ D', Sy W' E lo p mf mt B (t + 1) D' S ∧ Stp W W' p mf mt D D' S S := by
  have hc := Create_any h.env h.run.rep h.run.T h.run.inv.on (h.run.inv.small (by omega)) s
  refine hc.mono fun e W' ⟨e1, hd⟩ => ⟨_, e1, ?_⟩
  obtain ⟨D', r1, r2, r3⟩ := h.run.did (h.run.inv.create s) (createA_B s D.pub) hd
  exact ⟨D', h.disk r1 r2 r3⟩
theorem Sy.delete (h : Sy W E lo p mf mt B t D S) (ht : t ≤ 1073741824) (s : ByteArray) :
    Calls Tryz.prog 16 #[.pointer (some ⟨p, 0, none⟩), .string s] W fun e W' => ∃ c, e = .returned (.int .i64 c) ∧ ∃ D', Sy W' E lo p mf mt B (t + 1) D' S ∧ Stp W W' p mf mt D D' S S := by
  have hcc := h.run.inv.calls
  have hc := Delete_any h.env h.run.rep h.run.T h.run.inv.on (h.run.inv.small (by omega)) (by simp only [DiskC.pub] at hcc; omega) s
  refine hc.mono fun e W' ⟨e1, hd⟩ => ⟨_, e1, ?_⟩
  obtain ⟨D', r1, r2, r3⟩ := h.run.did (h.run.inv.delete h.run.keys s) (deleteA_B s D.pub) hd
  exact ⟨D', h.disk r1 r2 r3⟩
theorem Runs.state1 (h : Runs W lo p mf mt B t D) (ht : t ≤ 1049000) :
    Calls Tryz.prog 14 #[.pointer (some ⟨p, 0, none⟩)] W fun e w1 => ∃ fv l, e = .returned (.agg #[.int .i64 (B : Int), fv]) ∧ StateAt w1 W.heap.size B fv l ∧ l.map SFile.pub = D.ents.map Ent.pub ∧ Below W.heap.size W w1 := by
  have hr := State_any h.rep (h.inv.small (by omega))
  rw [h.B] at hr
  exact hr
theorem Runs.few (h : Runs W lo p mf mt B t D) (ht : t ≤ 1049000) (hp : l.map SFile.pub = D.ents.map Ent.pub) : l.length ≤ 1049000 ∧ ∀ e ∈ l, e.file.blocks.length ≤ 1049000 := by
  have h1 := h.inv.total
  have h2 := h.inv.few
  have h3 : D.pub.files = l.map SFile.pub := hp.symm
  rw [h3] at h1 h2
  simp at h2
  refine ⟨by omega, fun e he => ?_⟩
  have := le_total e.pub (l := l.map SFile.pub) (List.mem_map_of_mem he)
  have h4 : e.pub.2 = e.file := rfl
  rw [h4] at this
  omega
/-- the state is copied: the copy lies by itself. -/
theorem Runs.copy1 (h : Runs W lo p mf mt B t D) (ht : t ≤ 1049000) (hst : StateAt W1 W.heap.size B fv l) (hp : l.map SFile.pub = D.ents.map Ent.pub) :
    Calls Tryz.prog 13 #[.agg #[.int .i64 (B : Int), fv]] W1 fun e w2 => ∃ fo m, e = .returned (.agg #[.int .i64 (B : Int), fo]) ∧ StateFr w2 W1.heap.size fo m ∧ m.map SFile.pub = D.ents.map Ent.pub ∧ Below W1.heap.size W1 w2 := by
  obtain ⟨h1, h2⟩ := h.few ht hp
  refine (Copy_any (x := (B : Int)) hst.sh (by omega) (fun e he => by have := h2 e he; omega)).mono ?_
  rintro e w2 ⟨fo, m, rfl, a1, a2, a3⟩
  exact ⟨fo, m, rfl, a1, a2.trans hp, a3⟩
end
end Go.Proofs.YtcpncfngadablaaGreatDoor
/-
  What lies on the shelf behind the law's two rounds of asking.
-/
namespace Go.Proofs.YtcpncfngadablaaGreatDoor
open Go.RowKit Go.Deep ShfKit
set_option maxRecDepth 100000
theorem two_of {α : Type} {l : List α} (h : l.length = 2) : ∃ a b, l = [a, b] := by
  match l, h with
  | [a, b], _ => exact ⟨a, b, rfl⟩
section
variable {w W0 W1 W2 W W' : World} {E : Nat → Addr} {p mf mt B t1 t2 sp : Nat} {D0 D1 D2 D3 : DiskC} {S1 S2 : Sg} {tl1 tl2 : List Tl} {nl1 nl2 : List Value} {ex1 ex2 : List Rw} {lo : Nat}
/-- four states, four lists of names. -/
structure Four (W : World) (B sp gs gt cs ct : Nat) (q0 q1 q2 q3 : Tl) (v0 v1 v2 v3 : Value) : Prop where
  s2 : W.cell? ⟨sp, 2, none⟩ = some (.slice (some ⟨gs, 0, none⟩) 4 cs)
  t2 : W.cell? ⟨sp, 1, none⟩ = some (.slice (some ⟨gt, 0, none⟩) 4 ct)
  g0 : W.cell? ⟨gs, 0, none⟩ = some (.int .i64 (B : Int))
  g1 : W.cell? ⟨gs, 1, none⟩ = some q0.fv
  g2 : W.cell? ⟨gs, 2, none⟩ = some (.int .i64 (B : Int))
  g3 : W.cell? ⟨gs, 3, none⟩ = some q1.fv
  g4 : W.cell? ⟨gs, 4, none⟩ = some (.int .i64 (B : Int))
  g5 : W.cell? ⟨gs, 5, none⟩ = some q2.fv
  g6 : W.cell? ⟨gs, 6, none⟩ = some (.int .i64 (B : Int))
  g7 : W.cell? ⟨gs, 7, none⟩ = some q3.fv
  h0 : W.cell? ⟨gt, 0, none⟩ = some v0
  h1 : W.cell? ⟨gt, 1, none⟩ = some v1
  h2 : W.cell? ⟨gt, 2, none⟩ = some v2
  h3 : W.cell? ⟨gt, 3, none⟩ = some v3
theorem Four.below {gs gt cs ct : Nat} {q0 q1 q2 q3 : Tl} {v0 v1 v2 v3 : Value} (h : Four W B sp gs gt cs ct q0 q1 q2 q3 v0 v1 v2 v3) (hb : Below W.heap.size W W') : Four W' B sp gs gt cs ct q0 q1 q2 q3 v0 v1 v2 v3 := by
  have up : ∀ {a : Addr} {v : Value}, W.cell? a = some v → W'.cell? a = some v := fun {a v} hc => (hb.cell (World.block_lt_of_cell? W a hc)).trans hc
  exact ⟨up h.s2, up h.t2, up h.g0, up h.g1, up h.g2, up h.g3, up h.g4, up h.g5, up h.g6, up h.g7, up h.h0, up h.h1, up h.h2, up h.h3⟩
theorem four_of (h1 : As W0 W1 E lo p mf mt B D0 (sg0 sp) t1 D1 S1 tl1 nl1 ex1) (h2 : As W2 W E lo p mf mt B D2 S1 t2 D3 S2 tl2 nl2 ex2) {q0 q1 q2 q3 : Tl} {v0 v1 v2 v3 : Value} (e1 : tl1 = [q0, q1]) (e2 : tl2 = [q2, q3]) (f1 : nl1 = [v0, v1]) (f2 : nl2 = [v2, v3]) : ∃ gs gt cs ct, Four W B sp gs gt cs ct q0 q1 q2 q3 v0 v1 v2 v3 := by
  have hp : S2.p = sp := h2.sp.trans h1.sp
  have hls : S2.Ls = [q0.row B, q1.row B, q2.row B, q3.row B] := by rw [h2.ls, h1.ls, e1, e2]; rfl
  have hlt : S2.Lt.map (·.1) = [v0, v1, v2, v3] := by rw [h2.lt, h1.lt, f1, f2]; rfl
  have hltl : S2.Lt.length = 4 := by have := congrArg List.length hlt; simpa using this
  have hsl : S2.Ls.length = 4 := by rw [hls]; rfl
  have hcl : S2.cells = [.int .i64 (B : Int), q0.fv, .int .i64 (B : Int), q1.fv, .int .i64 (B : Int), q2.fv, .int .i64 (B : Int), q3.fv] := by unfold Sg.cells; rw [hls]; rfl
  have rs := h2.sy.sh.rs
  have rt := h2.sy.sh.rt
  rw [hcl, hsl] at rs
  rw [hlt, hltl] at rt
  have c2 := cell_row h2.sy.sh.row 2
  have c1 := cell_row h2.sy.sh.row 1
  simp at c1 c2
  rw [hp] at c1 c2
  obtain ⟨gs, cs, es, _, _, _, _⟩ := own_cell rs (j := 0) (x := .int .i64 (B : Int)) rfl
  obtain ⟨gt, ct, et, _, _, _, _⟩ := own_cell rt (j := 0) (x := v0) rfl
  have at1 : ∀ (j : Nat) (x : Value), [Value.int .i64 (B : Int), q0.fv, .int .i64 (B : Int), q1.fv, .int .i64 (B : Int), q2.fv, .int .i64 (B : Int), q3.fv][j]? = some x → W.cell? ⟨gs, j, none⟩ = some x := fun j x hj => by
    obtain ⟨g, c, e, _, _, hc, _⟩ := own_cell rs hj
    rw [es] at e
    simp only [Value.slice.injEq, Option.some.injEq, Addr.mk.injEq] at e
    obtain ⟨⟨rfl, _⟩, _⟩ := e
    exact hc
  have at2 : ∀ (j : Nat) (x : Value), [v0, v1, v2, v3][j]? = some x → W.cell? ⟨gt, j, none⟩ = some x := fun j x hj => by
    obtain ⟨g, c, e, _, _, hc, _⟩ := own_cell rt hj
    rw [et] at e
    simp only [Value.slice.injEq, Option.some.injEq, Addr.mk.injEq] at e
    obtain ⟨⟨rfl, _⟩, _⟩ := e
    exact hc
  rw [es] at c2
  rw [et] at c1
  exact ⟨gs, gt, cs, ct, c2, c1, at1 0 _ rfl, at1 1 _ rfl, at1 2 _ rfl, at1 3 _ rfl, at1 4 _ rfl, at1 5 _ rfl, at1 6 _ rfl, at1 7 _ rfl, at2 0 _ rfl, at2 1 _ rfl, at2 2 _ rfl, at2 3 _ rfl⟩
/-- what spoils asks for. -/
theorem ph_of (h1 : As W0 W1 E lo p mf mt B D0 (sg0 sp) t1 D1 S1 tl1 nl1 ex1) (h2 : As W2 W E lo p mf mt B D2 S1 t2 D3 S2 tl2 nl2 ex2) (n0 : D0.ents.length ≤ 1049000) (n2 : D2.ents.length ≤ 1049000) : Ph (QB 0) (QT 1 1049000 0 0) (QT 3 1049000 0 0) S2 := by
  have hlb : S2.Lb = ex1 ++ ex2 := by rw [h2.lb, h1.lb]; rfl
  have hlt : S2.Lt = nl1.map (nmRow (D0.ents.map Ent.name)) ++ nl2.map (nmRow (D2.ents.map Ent.name)) := by rw [h2.lt, h1.lt]; rfl
  have hls : S2.Ls = tl1.map (Tl.row B) ++ tl2.map (Tl.row B) := by rw [h2.ls, h1.ls]; rfl
  refine ⟨fun j x hx => ⟨?_, fun h => by omega⟩, fun j x hx => ⟨?_, fun h => by omega, fun _ l hl => by omega⟩, fun j x hx => ⟨?_, fun h => by omega, fun _ l hl => by omega⟩⟩
  · have hm := List.mem_of_getElem? hx
    rw [hlb] at hm
    rcases List.mem_append.1 hm with hm | hm
    · exact h1.ok x hm
    · exact h2.ok x hm
  · have hm := List.mem_of_getElem? hx
    rw [hlt] at hm
    rcases List.mem_append.1 hm with hm | hm
    · obtain ⟨v, _, rfl⟩ := List.mem_map.1 hm
      simpa [nmRow] using n0
    · obtain ⟨v, _, rfl⟩ := List.mem_map.1 hm
      simpa [nmRow] using n2
  · have hm := List.mem_of_getElem? hx
    rw [hls, List.map_append, List.map_map, List.map_map] at hm
    rcases List.mem_append.1 hm with hm | hm
    · obtain ⟨q, hq, rfl⟩ := List.mem_map.1 hm
      have := congrArg List.length (h1.told q hq).2
      simp at this
      show q.l.length ≤ _
      omega
    · obtain ⟨q, hq, rfl⟩ := List.mem_map.1 hm
      have := congrArg List.length (h2.told q hq).2
      simp at this
      show q.l.length ≤ _
      omega
/-- two states alike. -/
theorem same_states {q : Tl} {nh : Nat} {fh : Value} {lh : List SFile} {files : List (List UInt8 × FileA)} (h1 : StateFr W q.n q.fv q.l) (h2 : StateFr W nh fh lh) (p1 : q.l.map SFile.pub = files) (p2 : lh.map SFile.pub = files) (hf : files.length ≤ 1049000) (ht : total files ≤ 1049000) :
    Calls Tryz.prog 17 #[.agg #[.int .i64 (B : Int), q.fv], .agg #[.int .i64 (B : Int), fh]] W fun e W' => e = .returned (.bool true) ∧ Below W.heap.size W W' := by
  have hl : q.l.length = files.length := by have := congrArg List.length p1; simpa using this
  refine SameState_sh h1.sh h2.sh (p1.trans p2.symm) (by omega) (fun e he => ?_)
  have := le_total e.pub (l := q.l.map SFile.pub) (List.mem_map_of_mem he)
  rw [p1] at this
  have h4 : e.pub.2 = e.file := rfl
  rw [h4] at this
  omega
end
end Go.Proofs.YtcpncfngadablaaGreatDoor
