import Derived.Test.YtcpncfngadablaaDoorZ27
import Derived.Test.YtcpncfngadablaaDoorZ18
import Derived.Test.YtcpncfngadablaaDoorZ19
namespace Go.Proofs.YtcpncfngadablaaDoor
open Go.RowKit Go.Deep

/-- a file among others, ahead of the first whose name is behind its own. -/
def insS (e : SFile) : List SFile → List SFile
  | [] => [e]
  | y :: r => if bytesBefore e.name y.name then e :: y :: r else y :: insS e r
def sortS (l : List SFile) : List SFile := l.foldl (fun acc e => insS e acc) []

theorem insS_none {e : SFile} : ∀ {a : List SFile}, (∀ y ∈ a, bytesBefore e.name y.name = false) → insS e a = a ++ [e]
  | [], _ => rfl
  | y :: r, h => by
    have h1 := h y (by simp)
    simp [insS, h1, insS_none (a := r) fun z hz => h z (by simp [hz])]
theorem insS_some {e z : SFile} : ∀ {a : List SFile}, (∃ y ∈ a, bytesBefore e.name y.name = true) → insS e (a ++ [z]) = insS e a ++ [z]
  | [], h => by obtain ⟨y, hy, _⟩ := h; simp at hy
  | y :: r, h => by
    by_cases h1 : bytesBefore e.name y.name = true
    · simp [insS, h1]
    · have : ∃ y ∈ r, bytesBefore e.name y.name = true := by
        obtain ⟨q, hq, hb⟩ := h
        simp at hq
        rcases hq with rfl | hq
        · exact absurd hb h1
        · exact ⟨q, hq, hb⟩
      simp [insS, h1, insS_some this]
theorem insS_hit {e z : SFile} (hz : bytesBefore e.name z.name = true) : ∀ {a : List SFile}, (∀ y ∈ a, bytesBefore e.name y.name = false) → insS e (a ++ [z]) = a ++ [e] ++ [z]
  | [], _ => by simp [insS, hz]
  | y :: r, h => by
    have h1 := h y (by simp)
    have := insS_hit hz (a := r) fun z hz => h z (by simp [hz])
    simp [insS, h1, this]
theorem insS_len (e : SFile) : ∀ a : List SFile, (insS e a).length = a.length + 1
  | [] => rfl
  | y :: r => by
    unfold insS
    split
    · simp
    · simp [insS_len e r]
theorem sortS_snoc (a : List SFile) (e : SFile) : sortS (a ++ [e]) = insS e (sortS a) := by simp [sortS]

/-- what State's inner loop has made. -/
def Inn (e : SFile) (acc : List SFile) (j : Nat) (d : Bool) (m : List SFile) : Prop :=
  (d = false ∧ m = acc.take j ∧ ∀ y ∈ acc.take j, bytesBefore e.name y.name = false) ∨ (d = true ∧ m = insS e (acc.take j) ∧ ∃ y ∈ acc.take j, bytesBefore e.name y.name = true)

section
variable {e : SFile} {acc m : List SFile} {j : Nat}
theorem Inn.start : Inn e acc 0 false [] := .inl ⟨rfl, by simp, by simp⟩
theorem Inn.hit (h : Inn e acc j false m) (hj : j < acc.length) (hb : bytesBefore e.name acc[j].name = true) : Inn e acc (j + 1) true (m ++ [e] ++ [acc[j]]) := by
  rcases h with ⟨_, rfl, h⟩ | ⟨h, _⟩
  · refine .inr ⟨rfl, ?_, acc[j], ?_, hb⟩
    · rw [List.take_succ_eq_append_getElem hj, insS_hit hb h]
    · rw [List.take_succ_eq_append_getElem hj]; exact List.mem_append_right _ (List.mem_singleton.2 rfl)
  · simp at h
theorem Inn.miss (h : Inn e acc j false m) (hj : j < acc.length) (hb : bytesBefore e.name acc[j].name = false) : Inn e acc (j + 1) false (m ++ [acc[j]]) := by
  rcases h with ⟨_, rfl, h⟩ | ⟨h, _⟩
  · refine .inl ⟨rfl, by rw [List.take_succ_eq_append_getElem hj], fun y hy => ?_⟩
    rw [List.take_succ_eq_append_getElem hj] at hy
    rcases List.mem_append.1 hy with hy | hy
    · exact h y hy
    · simp at hy; subst hy; exact hb
  · simp at h
theorem Inn.past (h : Inn e acc j true m) (hj : j < acc.length) : Inn e acc (j + 1) true (m ++ [acc[j]]) := by
  rcases h with ⟨h, _⟩ | ⟨_, rfl, h⟩
  · simp at h
  · refine .inr ⟨rfl, ?_, ?_⟩
    · rw [List.take_succ_eq_append_getElem hj, insS_some h]
    · obtain ⟨y, hy, hb⟩ := h
      exact ⟨y, by rw [List.take_succ_eq_append_getElem hj]; exact List.mem_append_left _ hy, hb⟩
theorem Inn.endF (h : Inn e acc acc.length false m) : m ++ [e] = insS e acc := by
  rcases h with ⟨_, rfl, h⟩ | ⟨h, _⟩
  · rw [List.take_length] at h ⊢
    rw [insS_none h]
  · simp at h
theorem Inn.endT (h : Inn e acc acc.length true m) : m = insS e acc := by
  rcases h with ⟨h, _⟩ | ⟨_, rfl, h⟩
  · simp at h
  · rw [List.take_length]
theorem Inn.len {d : Bool} (h : Inn e acc j d m) (hj : j ≤ acc.length) : m.length ≤ acc.length + 1 := by
  rcases h with ⟨_, rfl, _⟩ | ⟨_, rfl, _⟩
  · simp; omega
  · rw [insS_len]; simp; omega
end

section
variable {w w' W w0 wr : World} {x : Int} {fv : Value} {l m : List SFile}

theorem nm_less (a b : List UInt8) : Op.bytesLess (⟨a.toArray⟩ : ByteArray).toList (⟨b.toArray⟩ : ByteArray).toList = bytesBefore a b := by
  rw [ByteArray.toList_eq, ByteArray.toList_eq, less_before]

theorem wpList_append_file {ops : Array Oper} {rest : List Oper} {o : Oper} {a : Act} {w : World} {Q : Exit → Act → World → Prop} (hg : o.guard = none) (s x : Operand) (hop : o.op = Op.call { callee := Callee.builtin Builtin.append, args := #[s, x], argTypes := #[41, 41] })
    (base : Nat) (v : Value) (n : Nat) (xs : List Value) (b : Nat) (c0 c1 c2 : Value) (hs : a.eval s = v) (hx : a.eval x = .slice (some ⟨b, 0, none⟩) 1 1) (hown : w.ownsRow base 75 3 v n xs) (hb : w.heap[b]? = some (.cells #[c0, c1, c2] 75 (0, 0))) (h0 : c0.oneCell' = true) (h1 : c1.oneCell' = true) (h2 : c2.oneCell' = true) (hn : n ≤ 1099511627776) (hbase : base ≤ w.heap.size)
    (hK : ∀ g cap w', w'.ownsRow base 75 3 (.slice (some ⟨g, 0, none⟩) (n + 1) cap) (n + 1) (xs ++ [c0, c1, c2]) → w.grownBy w' v.ownBlock → wpList Tryd.prog ops Q rest (a.put o.dst (.slice (some ⟨g, 0, none⟩) (n + 1) cap)) w') :
    wpList Tryd.prog ops Q (o :: rest) a w := by
  refine wpList_plain hg fun K' hK' => ?_
  have := step_append_file (ops := ops) (X := False) (K := K') (Q := Q) hg s x hop base v n xs b c0 c1 c2 hs hx hown hb h0 h1 h2 hn hbase (fun g cap w' r1 r2 => hK' _ _ (hK g cap w' r1 r2))
  rwa [if_pos (by simp [Region.wanted, hg])] at this

theorem row_form {n : Nat} (h : w.ownsRow n 75 3 fv l.length (l.flatMap SFile.cells)) (hl : 0 < l.length) : ∃ G gc, fv = .slice (some ⟨G, 0, none⟩) l.length gc ∧ n ≤ G ∧ G < w.heap.size := by
  rcases h.2 with ⟨_, h0⟩ | ⟨g, cap, cur, hv, hb, hg, _⟩
  · omega
  · exact ⟨g, cap, hv, hb, lt_of_block hg⟩
theorem row_slice {n : Nat} (h : w.ownsRow n 75 3 fv l.length (l.flatMap SFile.cells)) : ∃ a c, fv = .slice a l.length c := by
  rcases h.2 with ⟨h1, h0⟩ | ⟨g, cap, cur, hv, hb, hg, _⟩
  · exact ⟨none, 0, by rw [h0]; exact h1⟩
  · exact ⟨_, cap, hv⟩
theorem row_cells {n G gc k : Nat} (h : w.ownsRow n 75 3 fv l.length (l.flatMap SFile.cells)) (hv : fv = .slice (some ⟨G, 0, none⟩) l.length gc) (hk : k < l.length) : w.cell? ⟨G, k * 3, none⟩ = some (encStr l[k].name) ∧ w.cell? ⟨G, k * 3 + 1, none⟩ = some (.bool l[k].file.shut) ∧ w.cell? ⟨G, k * 3 + 2, none⟩ = some l[k].sv := by
  have hadd : ∀ i, (⟨G, 0, none⟩ : Addr).add i = ⟨G, i, none⟩ := fun i => by unfold Addr.add; split <;> simp_all
  have he : l[k]? = some l[k] := List.getElem?_eq_getElem hk
  have hc := h.cells (g := G) (by rw [hv]; rfl)
  have c0 := hc (3 * k) (encStr l[k].name) (by have := flat3 k 0 _ he (by omega); simpa [SFile.cells] using this)
  have c1 := hc (3 * k + 1) (.bool l[k].file.shut) (by have := flat3 k 1 _ he (by omega); simpa [SFile.cells] using this)
  have c2 := hc (3 * k + 2) l[k].sv (by have := flat3 k 2 _ he (by omega); simpa [SFile.cells] using this)
  rw [hadd, Nat.mul_comm] at c0 c1 c2
  exact ⟨c0, c1, c2⟩
theorem row_below {n : Nat} {cs : List Value} {k : Nat} (h : w.ownsRow n 75 3 fv k cs) (hb : Below w.heap.size w w') : w'.ownsRow n 75 3 fv k cs := by
  refine ⟨h.1, ?_⟩
  rcases h.2 with hn | ⟨g, cap, cur, hv, hb', hg, rest⟩
  · exact .inl hn
  · exact .inr ⟨g, cap, cur, hv, hb', (hb.block g (lt_of_block hg)).trans hg, rest⟩

/-- a list that is being made, in memory newer than w0. -/
structure SIn (w0 wr : World) (fm : Value) (m : List SFile) : Prop where
  low : Below w0.heap.size w0 wr
  own : wr.ownsRow w0.heap.size 75 3 fm m.length (m.flatMap SFile.cells)

theorem SIn.facts {fm : Value} (h : SIn w0 wr fm m) (n : Nat) (o : Obj) : ((wr.drewN n).alloc o).ownsRow w0.heap.size 75 3 fm m.length (m.flatMap SFile.cells) ∧ w0.heap.size ≤ ((wr.drewN n).alloc o).heap.size := by
  have hs := h.low.size
  have hd : (wr.drewN n).heap.size = wr.heap.size := rfl
  exact ⟨row_below (w := wr.drewN n) h.own ((Below.refl _ _).alloc (Nat.le_refl _) o), by simp; omega⟩
theorem SIn.next {fm v' : Value} {n : Nat} {o : Obj} {w3 : World} (h : SIn w0 wr fm m) (e : SFile) (h1 : w3.ownsRow w0.heap.size 75 3 v' (m.length + 1) (m.flatMap SFile.cells ++ e.cells)) (h2 : ((wr.drewN n).alloc o).grownBy w3 fm.ownBlock) : SIn w0 w3 v' (m ++ [e]) := by
  have hs := h.low.size
  have hd : (wr.drewN n).heap.size = wr.heap.size := rfl
  have hb : Below w0.heap.size w0 (wr.drewN n) := h.low.trans ⟨rfl, rfl, rfl, Nat.le_refl _, fun _ _ => rfl⟩
  exact ⟨(hb.alloc (by omega) o).grown h2 (by simp; omega) fun b hb => (h.own.lt b hb).1, by simpa [List.flatMap_append] using h1⟩
end
end Go.Proofs.YtcpncfngadablaaDoor
namespace Go.Proofs.YtcpncfngadablaaDoor
open Go.RowKit Go.Deep

section
variable {w w' W w0 wr : World} {x : Int} {fv : Value} {l m : List SFile}

/-- one file's cells, its name and its blocks' slice as the walk reads them. -/
theorem row_read {n k : Nat} {wr2 : World} (h : w.ownsRow n 75 3 fv l.length (l.flatMap SFile.cells)) (hsl : ∀ e ∈ l, ∃ a n c, e.sv = .slice a n c) (hk : k < l.length) (hb : Below w.heap.size w wr2) :
    ∃ G gc t a n c, fv = .slice (some ⟨G, 0, none⟩) l.length gc ∧ t = (⟨l[k].name.toArray⟩ : ByteArray) ∧ l[k].sv = .slice a n c ∧ ∀ q, (wr2.drewN q).cell? ⟨G, k * 3, none⟩ = some (.string t) ∧ (wr2.drewN q).cell? ⟨G, k * 3 + 1, none⟩ = some (.bool l[k].file.shut) ∧ (wr2.drewN q).cell? ⟨G, k * 3 + 2, none⟩ = some (.slice a n c) := by
  obtain ⟨G, gc, e, _⟩ := row_form h (by omega)
  obtain ⟨a, n, c, hv⟩ := hsl l[k] (List.getElem_mem hk)
  have hc := row_cells (row_below h hb) e hk
  rw [hv] at hc
  exact ⟨G, gc, _, a, n, c, e, rfl, hv, fun _ => hc⟩

theorem SIn.up {v : Value} (h : SIn w0 wr v m) (hA : Below W.heap.size W w0) : SIn W wr v m := ⟨hA.trans (h.low.mono hA.size), owns_mono h.own hA.size⟩

theorem insS_mem {e y : SFile} : ∀ {a : List SFile}, y ∈ insS e a → y = e ∨ y ∈ a
  | [], h => by simp [insS] at h; exact .inl h
  | z :: r, h => by
    unfold insS at h
    split at h
    · simpa using h
    · simp at h
      rcases h with h | h
      · exact .inr (by simp [h])
      · rcases insS_mem h with h | h
        · exact .inl h
        · exact .inr (by simp [h])
theorem sortS_mem {y : SFile} : ∀ (k : Nat), y ∈ sortS (l.take k) → y ∈ l
  | 0, h => by simp [sortS] at h
  | k + 1, h => by
    by_cases hk : k < l.length
    · rw [List.take_succ_eq_append_getElem hk, sortS_snoc] at h
      rcases insS_mem h with rfl | h
      · exact List.getElem_mem hk
      · exact sortS_mem k h
    · rw [List.take_of_length_le (by omega)] at h
      exact sortS_mem k (by rw [List.take_of_length_le (by omega)]; exact h)
theorem sortS_len : ∀ (k : Nat), k ≤ l.length → (sortS (l.take k)).length = k
  | 0, _ => by simp [sortS]
  | k + 1, h => by rw [List.take_succ_eq_append_getElem (by omega), sortS_snoc, insS_len, sortS_len k (by omega)]

set_option maxRecDepth 100000 in
set_option maxHeartbeats 1000000 in
theorem StateF_any {n1 : Nat} (h : w.ownsRow n1 75 3 fv l.length (l.flatMap SFile.cells)) (hsl : ∀ e ∈ l, ∃ a n c, e.sv = .slice a n c) (hn : l.length < 1099511627776) :
    Calls Tryd.prog 37 #[.int .i64 x, fv] w fun e w' => ∃ fv2, e = .returned (.agg #[.int .i64 x, fv2]) ∧ w'.ownsRow w.heap.size 75 3 fv2 (sortS l).length ((sortS l).flatMap SFile.cells) ∧ Below w.heap.size w w' := by
  obtain ⟨fa, fc, e0⟩ := row_slice h
  obtain ⟨W, hW⟩ : ∃ W, W = w.alloc (.cells #[.int .i64 0, .slice none 0 0] 43) := ⟨_, rfl⟩
  have b1 : W.heap[w.heap.size]? = some (.cells #[.int .i64 0, .slice none 0 0] 43) := by rw [hW]; exact heap_alloc_new w _
  have hTW : Below w.heap.size w W := by rw [hW]; exact (Below.refl _ w).alloc (Nat.le_refl _) _
  have H := hid h
  have HSL := hid hsl
  have HEE := hid e0
  have HB1 := hid b1
  have HE := hid hW
  have HTW := hid hTW
  have lw := lt_of_block b1
  rw [e0]
  clear h hsl hW b1 hTW e0
  go_enter Tryd.func37, Tryd.ntmps37
  go_wp2
  rw [← HE.out]
  go_loopw [5, 6] (fun a i wr => ∃ k : Nat, k ≤ l.length ∧ i = .int .i64 k ∧ SIn W wr a (sortS (l.take k))) (fun _ i _ => l.length - (intOf i).toNat)
  case atStart => exact ⟨0, Nat.zero_le _, rfl, Below.refl _ _, World.ownsRow_nil _ _ _ _⟩
  case round =>
    obtain ⟨k, hk, rfl, hinv⟩ := hrel
    have hbw : Below w.heap.size w wr := HTW.out.trans (hinv.low.mono HTW.out.size)
    obtain ⟨ga, gc, hfa⟩ := row_slice hinv.own
    have hlen := sortS_len (l := l) k hk
    obtain ⟨acc, hacc⟩ : ∃ acc, acc = sortS (l.take k) := ⟨_, rfl⟩
    rw [← hacc] at hinv hlen hfa
    by_cases hlt : k < l.length
    · have HA := hid hinv
      have HFA := hid hfa
      have HBW := hid hbw
      have HACC := hid hacc
      have HASL := hid (show ∀ e ∈ acc, ∃ a n c, e.sv = .slice a n c from fun e he => HSL.out e (sortS_mem k (hacc ▸ he)))
      subst hfa
      clear hinv hbw hacc
      obtain ⟨w0, h0⟩ : ∃ w0, w0 = wr := ⟨_, rfl⟩
      subst h0
      go_wp2
      go_loopw [7, 8, 9] (fun m d j wr => ∃ (i : Nat) (b : Bool) (ml : List SFile), i ≤ acc.length ∧ j = .int .i64 i ∧ d = .bool b ∧ SIn w0 wr m ml ∧ Inn l[k] acc i b ml) (fun _ _ j _ => acc.length - (intOf j).toNat)
      case atStart => exact ⟨0, false, [], Nat.zero_le _, rfl, rfl, ⟨Below.refl _ _, World.ownsRow_nil _ _ _ _⟩, Inn.start⟩
      case round =>
        obtain ⟨i, b, ml, hi, rfl, rfl, hin, hinn⟩ := hrel
        obtain ⟨ma, mc, hm⟩ := row_slice hin.own
        have hml := hinn.len hi
        have HM := hid hm
        subst hm
        have HF := hid (fun n o => hin.facts n o)
        have hbr : Below w.heap.size w wr := HBW.out.trans (hin.low.mono HBW.out.size)
        obtain ⟨G, gcc, t, a1, n1', c1, eG, ht, hv1, hc1⟩ := row_read H.out HSL.out hlt hbr
        rw [HEE.out] at eG
        simp only [Value.slice.injEq, true_and] at eG
        obtain ⟨rfl, rfl⟩ := eG
        have hc10 := hc1 0
        by_cases hlti : i < acc.length
        · obtain ⟨G2, gc2, t2, a2, n2, c2, eG2, ht2, hv2, hc2⟩ := row_read HA.out.own HASL.out hlti hin.low
          simp only [Value.slice.injEq, true_and] at eG2
          obtain ⟨rfl, rfl⟩ := eG2
          have hq := nm_less l[k].name acc[i].name
          rw [← ht, ← ht2] at hq
          have hc20 := hc2 0
          have d1 : wr.cell? _ = _ := hc10.1
          have d2 : wr.cell? _ = _ := hc10.2.1
          have d3 : wr.cell? _ = _ := hc10.2.2
          have y1 : wr.cell? _ = _ := hc20.1
          have y2 : wr.cell? _ = _ := hc20.2.1
          have y3 : wr.cell? _ = _ := hc20.2.2
          have HV1 := hid hv1
          have HV2 := hid hv2
          have HT := hid ht
          have HT2 := hid ht2
          have HI := hid hin
          have HN := hid hinn
          clear hin hinn hv1 hv2 ht ht2 hc1 hc2 hc10 hc20 hbr
          have HRD := hid (show ∀ w3, Below w0.heap.size w0 w3 → w3.cell? ⟨G2, i * 3, none⟩ = some (.string t2) ∧ w3.cell? ⟨G2, i * 3 + 1, none⟩ = some (.bool acc[i].file.shut) ∧ w3.cell? ⟨G2, i * 3 + 2, none⟩ = some (.slice a2 n2 c2) from fun w3 hb => by
            have := row_cells (row_below HA.out.own hb) rfl hlti
            rw [HV2.out] at this
            rw [HT2.out]
            exact this)
          cases b
          · cases hb : bytesBefore l[k].name acc[i].name
            · rw [hb] at hq
              have HNX := hid (HN.out.miss hlti hb)
              clear hb
              go_wp2
              go_quiet (fail)
              go_wp2_with (first | (at_builtin; refine wpList_append_file rfl _ _ rfl w0.heap.size (.slice ma ml.length mc) ml.length (ml.flatMap SFile.cells) _ (.string t2) (.bool acc[i].file.shut) (.slice a2 n2 c2) rfl rfl (HF.out _ _).1 (heap_alloc_new _ _) rfl rfl rfl (by omega) (HF.out _ _).2 (fun g cap w3 r1 r2 => ?_); have H1 := hid r1; have H2 := hid r2; clear r1 r2))
              have HNW := hid (HI.out.next acc[i] (by have := H1.out; rw [HT2.out, ← HV2.out] at this; exact this) H2.out)
              clear H1 H2
              go_wp2
              go_roundw
              case rel => exact ⟨i + 1, false, ml ++ [acc[i]], by omega, by go_num, rfl, HNW.out, HNX.out⟩
              case measure => simp [intOf]; omega
            · rw [hb] at hq
              have HNX := hid (HN.out.hit hlti hb)
              clear hb
              go_wp2
              go_quiet (fail)
              go_wp2_with (first | (at_builtin; refine wpList_append_file rfl _ _ rfl w0.heap.size (.slice (some ⟨g, 0, none⟩) (ml.length + 1) cap) (ml ++ [l[k]]).length ((ml ++ [l[k]]).flatMap SFile.cells) _ (.string t2) (.bool acc[i].file.shut) (.slice a2 n2 c2) rfl rfl (r4.out 0 _).1 (heap_alloc_new _ _) rfl rfl rfl (by simp; omega) (r4.out 0 _).2 (fun g cap w3 r1 r2 => ?_); have H1 := hid r1; have H2 := hid r2; clear r1 r2) | (at_builtin; refine wpList_append_file rfl _ _ rfl w0.heap.size (.slice ma ml.length mc) ml.length (ml.flatMap SFile.cells) _ (.string t) (.bool l[k].file.shut) (.slice a1 n1' c1) rfl rfl (HF.out _ _).1 (heap_alloc_new _ _) rfl rfl rfl (by omega) (HF.out _ _).2 (fun g cap w3 r1 r2 => ?_); have r3 := HI.out.next l[k] (by rw [HT.out, ← HV1.out] at r1; exact r1) r2; have r4 := hid (fun n o => r3.facts n o); have r5 := r3.low; have y31 := (HRD.out w3 r5).1; have y32 := (HRD.out w3 r5).2.1; have y33 := (HRD.out w3 r5).2.2; have H3 := hid r3; clear r1 r2 r3 r5))
              have HNW := hid (H3.out.next (n := 0) acc[i] (by have := H1.out; rw [HT2.out, ← HV2.out] at this; exact this) H2.out)
              clear H1 H2
              go_wp2
              go_roundw
              case rel => exact ⟨i + 1, true, ml ++ [l[k]] ++ [acc[i]], by omega, by go_num, rfl, by simpa using HNW.out, HNX.out⟩
              case measure => simp [intOf]; omega
          · have HNX := hid (HN.out.past hlti)
            clear hq
            go_wp2
            go_quiet (fail)
            go_wp2_with (first | (at_builtin; refine wpList_append_file rfl _ _ rfl w0.heap.size (.slice ma ml.length mc) ml.length (ml.flatMap SFile.cells) _ (.string t2) (.bool acc[i].file.shut) (.slice a2 n2 c2) rfl rfl (HF.out _ _).1 (heap_alloc_new _ _) rfl rfl rfl (by omega) (HF.out _ _).2 (fun g cap w3 r1 r2 => ?_); have H1 := hid r1; have H2 := hid r2; clear r1 r2))
            have HNW := hid (HI.out.next acc[i] (by have := H1.out; rw [HT2.out, ← HV2.out] at this; exact this) H2.out)
            clear H1 H2
            go_wp2
            go_roundw
            case rel => exact ⟨i + 1, true, ml ++ [acc[i]], by omega, by go_num, rfl, HNW.out, HNX.out⟩
            case measure => simp [intOf]; omega
        · have hii : i = acc.length := by omega
          subst hii
          have d1 : wr.cell? _ = _ := hc10.1
          have d2 : wr.cell? _ = _ := hc10.2.1
          have d3 : wr.cell? _ = _ := hc10.2.2
          have HV1 := hid hv1
          have HT := hid ht
          have HI := hid hin
          have hso := sortS_snoc (l.take k) l[k]
          rw [← List.take_succ_eq_append_getElem hlt, ← HACC.out] at hso
          have HSO := hid hso
          have HN := hid hinn
          clear hin hinn hv1 ht hc1 hc10 hbr hso
          cases b
          · have HEN := hid HN.out.endF
            go_wp2_with (first | (at_builtin; refine wpList_append_file rfl _ _ rfl w0.heap.size (.slice ma ml.length mc) ml.length (ml.flatMap SFile.cells) _ (.string t) (.bool l[k].file.shut) (.slice a1 n1' c1) rfl rfl (HF.out 0 _).1 (heap_alloc_new _ _) rfl rfl rfl (by omega) (HF.out 0 _).2 (fun g cap w3 r1 r2 => ?_); have H1 := hid r1; have H2 := hid r2; clear r1 r2))
            have HNW := hid ((HI.out.next (n := 0) l[k] (by have := H1.out; rw [HT.out, ← HV1.out] at this; exact this) H2.out).up HA.out.low)
            rw [HEN.out, ← HSO.out] at HNW
            clear H1 H2
            go_wp2
            go_roundw
            case rel => exact ⟨k + 1, by omega, by go_num, HNW.out⟩
            case measure => simp [intOf]; omega
          · have HEN := hid HN.out.endT
            have HNW := hid (HI.out.up HA.out.low)
            go_wp2
            go_roundw
            case rel => exact ⟨k + 1, by omega, by go_num, by rw [HSO.out, ← HEN.out]; exact HNW.out⟩
            case measure => simp [intOf]; omega
    · have hkk : k = l.length := by omega
      subst hkk
      rw [List.take_length] at hacc
      have q1 := (hinv.low.block _ (lt_of_block HB1.out)).trans HB1.out
      have r0 := fun i => cell_row q1 i
      have r1 := fun i => unfrozen_row q1 i
      have lq := lt_of_block q1
      have HI := hid hinv
      have HBW := hid hbw
      have HACC := hid hacc
      subst hfa
      clear hinv hbw q1 hacc
      go_wp2
      refine bodyPost_ret (v := .agg #[.int .i64 x, .slice ga l.length gc]) (by simp [results, Tryd.results37, go_sem, r0]) rfl ?_
      have hO := HI.out.own
      rw [← HACC.out, hlen]
      rw [hlen] at hO
      exact ⟨_, rfl, owns_mono (owns_low (owns_low hO (by omega) _ _) (by omega) _ _) HTW.out.size, (HBW.out.setCell (Nat.le_refl _) _).setCell (Nat.le_refl _) _⟩
end
end Go.Proofs.YtcpncfngadablaaDoor
namespace Go.Proofs.YtcpncfngadablaaDoor
open Go.RowKit Go.Deep

section
variable {w w' : World} {E : Nat → Addr} {lo p mf mt : Nat} {D : DiskC}

theorem StateAt.below {n B : Nat} {fv : Value} {l : List SFile} (h : StateAt w n B fv l) (hb : Below w.heap.size w w') : StateAt w' n B fv l := h.kept fun b _ hlt => hb.block b hlt

theorem few_of {l : List SFile} (hS : Small D.pub) (hp : l.map SFile.pub = D.ents.map Ent.pub) : l.length ≤ 1099511627776 ∧ ∀ e ∈ l, e.file.blocks.length ≤ 1099511627776 := by
  refine ⟨?_, fun e he => ?_⟩
  · have := hS.files
    simp only [DiskC.pub] at this
    rw [← hp] at this
    simpa using this
  · have h1 : e.pub ∈ D.ents.map Ent.pub := by rw [← hp]; exact List.mem_map.2 ⟨e, he, rfl⟩
    exact hS.blocks e.pub h1

set_option maxRecDepth 100000 in
set_option maxHeartbeats 1000000 in
/-- at a cut the disk holds what it held. -/
theorem cut_same (R : Rep w lo p mf mt D) (hS : Small D.pub) {n1 : Nat} {fv : Value} {l : List SFile} (h : StateAt w n1 D.B fv l) (hp : l.map SFile.pub = D.ents.map Ent.pub) (k : Int) (s : ByteArray) (N bit : Int) (sa : Option Addr) (n c : Nat) :
    Calls Tryd.prog 15 #[.agg #[.int .i64 D.B, fv], ptr p, opV k s N bit sa n c, .int .i64 D.B] w fun e w' => e = .returned (.bool true) ∧ Below w.heap.size w w' := by
  obtain ⟨a0, c0, e0⟩ := h.sliceL
  unfold opV
  obtain ⟨W, hW⟩ : ∃ W, W = (w.alloc (.cells #[.int .i64 D.B, fv] 43)).alloc (.cells #[.int .i64 k, .string s, .int .i64 N, .int .i64 bit, .slice sa n c] 40) := ⟨_, rfl⟩
  have hW1 := heap_two w (.cells #[.int .i64 D.B, fv] 43) (.cells #[.int .i64 k, .string s, .int .i64 N, .int .i64 bit, .slice sa n c] 40)
  rw [← hW] at hW1
  have hTW : Below w.heap.size w W := by rw [hW]; exact ((Below.refl _ w).alloc (Nat.le_refl _) _).alloc (by simp) _
  have HST := hid (State_any (R.touch (F := []) (Touch.of_below hTW (Nat.le_refl _)) (by simp)) hS)
  have hf := few_of hS hp
  have H := hid h
  have HP := hid hp
  have HEE := hid e0
  have HE := hid hW
  have HW := hid hW1
  have HTW := hid hTW
  have HF := hid hf
  rw [e0] at HE HW ⊢
  clear h hp R hS hW hW1 hTW e0 hf
  go_enter Tryd.func15, Tryd.ntmps15
  go_wp2_with fail
  rw [← HE.out]
  refine HST.out.mono ?_
  rintro e w1 ⟨fv1, l1, rfl, h1, hp1, hb1⟩
  obtain ⟨a1, c1, e1⟩ := h1.sliceL
  have z1 := cell_row ((hb1.block _ (lt_of_block HW.out.1)).trans HW.out.1) 0
  have z2 := cell_row ((hb1.block _ (lt_of_block HW.out.1)).trans HW.out.1) 1
  simp at z1 z2
  have HC := hid (fun W2 (hb : Below w1.heap.size w1 W2) => SameState_true (w := W2) (x := (D.B : Int)) (H.out.below (HTW.out.trans ((hb1.mono HTW.out.size).trans (hb.mono (Nat.le_trans HTW.out.size hb1.size))))) (h1.below hb) (HP.out.trans hp1.symm) HF.out.1 HF.out.2)
  have HB1 := hid hb1
  have HE1 := hid e1
  rw [HEE.out, e1] at HC
  rw [e1]
  have lw := Nat.lt_of_lt_of_le (lt_of_block HW.out.1) hb1.size
  clear h1 hp1 hb1 e1
  go_wp2_with fail
  refine Calls.mono (HC.out _ ((Below.refl _ w1).alloc (Nat.le_refl _) _)) ?_
  rintro e w2 ⟨rfl, hb2⟩
  have HB2 := hid hb2
  clear hb2
  go_wp2
  go_ret
  exact ⟨rfl, HTW.out.trans ((HB1.out.mono HTW.out.size).trans ((((Below.refl _ w1).alloc (Nat.le_refl _) _).trans (HB2.out.mono (by simp))).mono (Nat.le_trans HTW.out.size HB1.out.size)))⟩
end
end Go.Proofs.YtcpncfngadablaaDoor
