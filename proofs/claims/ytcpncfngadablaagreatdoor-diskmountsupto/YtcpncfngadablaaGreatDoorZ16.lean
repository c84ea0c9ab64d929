import Derived.Test.YtcpncfngadablaaGreatDoorZ15
/-
  A state that was handed out is written full and grown: what lies where (the law's own fresh).
-/
namespace Go.Proofs.YtcpncfngadablaaGreatDoor
open Go.RowKit Go.Deep ShfKit
set_option maxRecDepth 100000
/-! ### a block that bears its mark, not grown -/
set_option maxHeartbeats 1000000 in
theorem filled_plain {w : World} {g m c : Nat} {cs : Array Value} (n : Int) (h : w.heap[g]? = some (.cells cs 5 (0, 0))) (hm : m ≤ cs.size) (hb : ∀ j, j < m → cs[j]? = some (.int .u8 (mk n j))) (hm2 : m ≤ 1099511627776) :
    Calls Tryz.prog 77 #[.slice (some ⟨g, 0, none⟩) m c, .int .i64 n] w fun e w' => e = .returned (.bool true) ∧ Touch [] w w' := by
  have H := hid h
  have HB := hid hb
  clear h hb
  go_enter Tryz.func77, Tryz.ntmps77
  go_wp2
  go_loopw [6] (fun i wr => ∃ k : Nat, k ≤ m ∧ i = .int .i64 k ∧ wr.heap[g]? = some (.cells cs 5 (0, 0)) ∧ Touch [] w wr) (fun i _ => m - (intOf i).toNat)
  case atStart => exact ⟨0, Nat.zero_le _, rfl, H.out, Touch.refl _ _⟩
  case round =>
    obtain ⟨k, hk, rfl, hrow, ht⟩ := hrel
    by_cases hlt : k < m
    · have c0 := cell_row hrow k
      rw [HB.out k hlt] at c0
      have HROW := hid hrow
      have HT := hid ht
      clear hrow ht
      by_cases h64 : 64 < m
      · by_cases hd : m - 64 ≤ k
        · obtain ⟨d, rfl⟩ : ∃ d, k = (m - 64) + d := ⟨k - (m - 64), by omega⟩
          have hdd : ((m - 64 : Nat) : Int) + (d : Int) - ((m : Int) - 64) = (d : Int) := by omega
          simp only [mk] at c0
          by_cases he : n / 2 ^ (8 * ((m - 64 + d) % 3)) % 256 = n / 2 ^ (8 * (d % 3)) % 256
          · rw [he] at c0
            clear he
            go_wp2
            go_quiet (fail)
            go_wp2
            exact ⟨⟨m - 64 + d + 1, by omega, by go_num, HROW.out, HT.out.drewN _⟩, by simp [intOf]; omega⟩
          · have he2 : (n / 2 ^ (8 * ((m - 64 + d) % 3)) % 256 != n / 2 ^ (8 * (d % 3)) % 256) = true := by simpa using he
            clear he
            go_wp2
            go_quiet (fail)
            go_wp2
            exact ⟨⟨m - 64 + d + 1, by omega, by go_num, HROW.out, HT.out.drewN _⟩, by simp [intOf]; omega⟩
        · simp only [mk] at c0
          go_wp2
          go_quiet (fail)
          go_wp2
          exact ⟨⟨k + 1, by omega, by go_num, HROW.out, HT.out.drewN _⟩, by simp [intOf]; omega⟩
      · simp only [mk] at c0
        go_wp2
        go_quiet (fail)
        go_wp2
        exact ⟨⟨k + 1, by omega, by go_num, HROW.out, HT.out.drewN _⟩, by simp [intOf]; omega⟩
    · have e : k = m := by omega
      subst e
      go_wp2
      go_ret
      exact ⟨rfl, ht⟩
/-! ### all blocks of a state, one behind the other -/
def allB (l : List SFile) : List Nat := l.flatMap SFile.bs
def offB (l : List SFile) (i : Nat) : Nat := (allB (l.take i)).length
theorem offB_zero (l : List SFile) : offB l 0 = 0 := by simp [offB, allB]
theorem offB_succ {l : List SFile} {i : Nat} {e : SFile} (he : l[i]? = some e) : offB l (i + 1) = offB l i + e.bs.length := by
  unfold offB allB
  rw [List.take_add_one, he, List.flatMap_append]
  simp
theorem offB_all (l : List SFile) : offB l l.length = (allB l).length := by unfold offB; rw [List.take_length]
theorem allB_at {l : List SFile} {i j b : Nat} {e : SFile} (he : l[i]? = some e) (hb : e.bs[j]? = some b) : (allB l)[offB l i + j]? = some b := by
  have sp := split_at he
  have : allB l = allB (l.take i) ++ (e.bs ++ allB (l.drop (i + 1))) := by
    conv => lhs; rw [sp]
    unfold allB
    rw [List.flatMap_append, List.flatMap_cons]
  rw [this]
  unfold offB
  rw [List.getElem?_append_right (by omega), Nat.add_sub_cancel_left, List.getElem?_append_left (List.getElem?_eq_some_iff.1 hb).1]
  exact hb
theorem allB_nodup {l : List SFile} (ha : ApartS l) (hn : ∀ e ∈ l, e.bs.Nodup) : (allB l).Nodup := by
  induction l with
  | nil => exact List.nodup_nil
  | cons e l ih =>
    obtain ⟨h1, h2⟩ := List.pairwise_cons.1 ha
    unfold allB
    rw [List.flatMap_cons, List.nodup_append]
    refine ⟨hn e (by simp), ih h2 fun x hx => hn x (List.mem_cons_of_mem _ hx), fun a ha2 b hb2 e2 => ?_⟩
    subst e2
    obtain ⟨f, hf, hb⟩ := List.mem_flatMap.1 hb2
    exact (h1 f hf).2 a ha2 hb
theorem nodup_at {l : List Nat} (h : l.Nodup) {i j b : Nat} (hi : l[i]? = some b) (hj : l[j]? = some b) : i = j := by
  obtain ⟨l1, v1⟩ := List.getElem?_eq_some_iff.1 hi
  obtain ⟨l2, v2⟩ := List.getElem?_eq_some_iff.1 hj
  rcases Nat.lt_trichotomy i j with hlt | he | hgt
  · exact absurd (v1.trans v2.symm) (List.pairwise_iff_getElem.1 h i j l1 l2 hlt)
  · exact he
  · exact absurd (v2.trans v1.symm) (List.pairwise_iff_getElem.1 h j i l2 l1 hgt)
/-- a block of B bytes; its mark, if it has one. -/
def Blk (W : World) (B b : Nat) (mark : Option Int) : Prop :=
  ∃ cs : Array Value, W.heap[b]? = some (.cells cs 5 (0, 0)) ∧ cs.size = B ∧ (∀ j, j < B → ∃ x : Int, cs[j]? = some (.int .u8 x)) ∧ ∀ m, mark = some m → ∀ j, j < B → cs[j]? = some (.int .u8 (mk m j))
theorem Blk.kept {W W' : World} {B b : Nat} {mark : Option Int} (h : Blk W B b mark) (hk : W'.heap[b]? = W.heap[b]?) : Blk W' B b mark := by
  obtain ⟨cs, h1, r⟩ := h
  exact ⟨cs, hk.trans h1, r⟩
/-! ### the first loop: every block gets its mark -/
structure Ph1 (w W : World) (n B k : Nat) (l : List SFile) : Prop where
  low : Below n w W
  but : But 5 w W
  blk : ∀ (q b : Nat), (allB l)[q]? = some b → Blk W B b (if q < k then some ((q : Int) + 1) else none)
theorem allB_mem {l : List SFile} {q b : Nat} (h : (allB l)[q]? = some b) : ∃ e ∈ l, b ∈ e.bs := by
  have := List.mem_of_getElem? h
  unfold allB at this
  rw [List.mem_flatMap] at this
  exact this
theorem Ph1.start {w : World} {n B : Nat} {fv : Value} {l : List SFile} (h : StateAt w n B fv l) : Ph1 w w n B 0 l := by
  refine ⟨Below.refl _ _, fun k c e fz _ _ => rfl, fun q b hq => ?_⟩
  obtain ⟨e, he, hb⟩ := allB_mem hq
  obtain ⟨j, hj, rfl⟩ := List.getElem_of_mem hb
  have hbl := h.each e he
  have hj2 : j < e.file.blocks.length := by rw [← hbl.len]; exact hj
  obtain ⟨h1, h2⟩ := hbl.bytes j _ _ (List.getElem?_eq_getElem hj) (List.getElem?_eq_getElem hj2)
  refine ⟨_, h2, by simp [Lib.byteCells_length, h1], fun i hi => ?_, fun m hm => by simp at hm⟩
  have hi2 : i < (e.file.blocks[j]).length := by omega
  exact ⟨_, by simp only [List.getElem?_toArray, Lib.byteCells, List.getElem?_map, List.getElem?_eq_getElem hi2]; rfl⟩
theorem Ph1.fill {w W W' : World} {n B k b : Nat} {l : List SFile} (h : Ph1 w W n B k l) (hnd : (allB l).Nodup) (hb : (allB l)[k]? = some b) (hnb : n ≤ b) {cs' : Array Value} (hr : W'.heap[b]? = some (.cells cs' 5 (0, 0))) (hsz : cs'.size = B) (hm : ∀ j, j < B → cs'[j]? = some (.int .u8 (YtcpncfngadablaaGreatDoor.mk ((k : Int) + 1) j))) (ht : Touch [b] W W') : Ph1 w W' n B (k + 1) l := by
  obtain ⟨cs, hrow, _⟩ := h.blk k b hb
  have bt : But 5 W W' := but_touch ht hrow
  refine ⟨h.low.trans ⟨ht.os, ht.tape, ht.output, ht.size, fun i hi => ?_⟩, fun i c e fz hi he => ?_, fun q b' hq => ?_⟩
  · by_cases hl : i < W.heap.size
    · exact ht.block i hl (by simp; omega)
    · have hW := lt_of_block hrow
      omega
  · have e1 := h.but i c e fz hi he
    exact (bt i c e fz (e1.trans hi) he).trans e1
  · by_cases e : q = k
    · subst e
      rw [hb] at hq
      cases hq
      refine ⟨cs', hr, hsz, fun j hj => ⟨_, hm j hj⟩, fun m hm2 j hj => ?_⟩
      rw [if_pos (by omega)] at hm2
      cases hm2
      exact hm j hj
    · have hne : b' ≠ b := fun e2 => by
        subst e2
        exact e (nodup_at hnd hq hb)
      have h1 := h.blk q b' hq
      have lt : b' < W.heap.size := by obtain ⟨_, h2, _⟩ := h1; exact lt_of_block h2
      have h2 := h1.kept (ht.block b' lt (by simp; exact hne))
      have e3 : (if q < k + 1 then some ((q : Int) + 1) else none) = (if q < k then some ((q : Int) + 1) else none) := by
        by_cases hq2 : q < k
        · rw [if_pos hq2, if_pos (by omega)]
        · rw [if_neg hq2, if_neg (by omega)]
      rw [e3]
      exact h2
/-- the state's own lists, as they are read. -/
structure So (W : World) (B : Nat) (fv : Value) (l : List SFile) : Prop where
  row : ∃ xs, W.ownsRow 0 71 3 fv l.length xs ∧ ∀ (i : Nat) (e : SFile), l[i]? = some e → xs[i * 3 + 2]? = some e.sv
  svs : ∀ (i : Nat) (e : SFile), l[i]? = some e → W.ownsRow 0 31 1 e.sv e.bs.length (e.bs.map fun b => sliceV b B)
theorem So.start {w : World} {n B : Nat} {fv : Value} {l : List SFile} (h : StateAt w n B fv l) : So w B fv l := by
  refine ⟨⟨_, own_base h.own (Nat.zero_le _), fun i e he => ?_⟩, fun i e he => ?_⟩
  · have := flat3 i 2 e he (by omega)
    rw [Nat.mul_comm 3 i] at this
    rw [this]
    rfl
  · have hb := h.each e (List.mem_of_getElem? he)
    rw [hb.len]
    exact hb.own
theorem So.but {w W : World} {B : Nat} {fv : Value} {l : List SFile} (h : So w B fv l) (hb : But 5 w W) : So W B fv l := by
  obtain ⟨xs, h1, h2⟩ := h.row
  exact ⟨⟨xs, hb.own h1 (by decide), h2⟩, fun i e he => hb.own (h.svs i e he) (by decide)⟩
theorem So.below {w W : World} {B : Nat} {fv : Value} {l : List SFile} (h : So w B fv l) (hb : Below w.heap.size w W) : So W B fv l := by
  obtain ⟨xs, h1, h2⟩ := h.row
  exact ⟨⟨xs, own_kept h1 fun g hg => hb.block g (own_block h1 hg).2, h2⟩, fun i e he => own_kept (h.svs i e he) fun g hg => hb.block g (own_block (h.svs i e he) hg).2⟩
/-- a file's list of blocks, and one of them. -/
theorem So.file {W : World} {B : Nat} {fv : Value} {l : List SFile} (h : So W B fv l) {i : Nat} {e : SFile} (he : l[i]? = some e) :
    ∃ G gc sa sc, fv = .slice (some ⟨G, 0, none⟩) l.length gc ∧ W.cell? ⟨G, i * 3 + 2, none⟩ = some e.sv ∧ e.sv = .slice sa e.bs.length sc ∧ ∀ (j b : Nat), e.bs[j]? = some b → ∃ S, sa = some ⟨S, 0, none⟩ ∧ W.cell? ⟨S, j, none⟩ = some (sliceV b B) := by
  obtain ⟨xs, h1, h2⟩ := h.row
  obtain ⟨G, gc, hv, _, _, hc, _⟩ := own_cell h1 (h2 i e he)
  have ho := h.svs i e he
  obtain ⟨sa, sc, hs⟩ := sh_slice ho
  refine ⟨G, gc, sa, sc, hv, hc, hs, fun j b hb => ?_⟩
  obtain ⟨S, sc', hs', _, _, hc', _⟩ := own_cell ho (j := j) (x := sliceV b B) (by rw [List.getElem?_map, hb]; rfl)
  rw [hs] at hs'
  simp only [Value.slice.injEq, true_and] at hs'
  exact ⟨S, hs'.1, hc'⟩
theorem So.len {W : World} {B : Nat} {fv : Value} {l : List SFile} (h : So W B fv l) : ∃ a c, fv = .slice a l.length c := by
  obtain ⟨xs, h1, _⟩ := h.row
  exact sh_slice h1
/-! ### the second loop: every block is grown by 64 -/
structure Ph2 (w1 W : World) (B k : Nat) (gv : Value) (vs : List Value) : Prop where
  low : Below w1.heap.size w1 W
  own : W.ownsRow w1.heap.size 31 1 gv k vs
  at_ : ∀ (q : Nat) (v : Value), vs[q]? = some v → ∃ (g c : Nat) (cs : Array Value), v = .slice (some ⟨g, 0, none⟩) (B + 64) c ∧ w1.heap.size ≤ g ∧ W.heap[g]? = some (.cells cs 5 (0, 0)) ∧ B + 64 ≤ cs.size ∧ ∀ j, j < B + 64 → cs[j]? = some (.int .u8 (YtcpncfngadablaaGreatDoor.mk ((q : Int) + 1) (if B + 64 - 64 ≤ j then j - (B + 64 - 64) else j)))
theorem Ph2.start (w1 : World) (B : Nat) : Ph2 w1 w1 B 0 (.slice none 0 0) [] := ⟨Below.refl _ _, World.ownsRow_nil _ _ _ _, by simp⟩
theorem Ph2.next {w1 W Wx W9 : World} {B k k' : Nat} {gv gv' : Value} {vs : List Value} {g c : Nat} {cs : Array Value} {o : Obj} (h : Ph2 w1 W B k gv vs) (hx : Below W.heap.size W Wx) (hgl : W.heap.size ≤ g) (hr : Wx.heap[g]? = some (.cells cs 5 (0, 0))) (hsz : B + 64 ≤ cs.size)
    (hm : ∀ j, j < B + 64 → cs[j]? = some (.int .u8 (YtcpncfngadablaaGreatDoor.mk ((k : Int) + 1) (if B + 64 - 64 ≤ j then j - (B + 64 - 64) else j)))) (hk : k' = k + 1)
    (ho : W9.ownsRow w1.heap.size 31 1 gv' k' (vs ++ [.slice (some ⟨g, 0, none⟩) (B + 64) c]))
    (hf : (gv'.ownBlock = gv.ownBlock ∧ (Wx.alloc o).grownBy W9 gv.ownBlock) ∨ ((∀ x, gv'.ownBlock = some x → (Wx.alloc o).heap.size ≤ x) ∧ (Wx.alloc o).grownBy W9 none)) : Ph2 w1 W9 B k' gv' (vs ++ [.slice (some ⟨g, 0, none⟩) (B + 64) c]) := by
  subst hk
  have s1 := h.low.size
  have s2 := hx.size
  obtain ⟨gr, _⟩ := grown_all hf
  have hgb : ∀ x, gv.ownBlock = some x → w1.heap.size ≤ x ∧ ∃ c fz, Wx.heap[x]? = some (Obj.cells c 31 fz) := fun x hx2 => by
    obtain ⟨h1, h2⟩ := own_block h.own hx2
    obtain ⟨c, fz, h3⟩ := Lib.ownsRow_kind h.own x hx2
    exact ⟨h1, c, fz, (hx.block x h2).trans h3⟩
  have k5 : ∀ x c' , Wx.heap[x]? = some (Obj.cells c' 5 (0, 0)) → W9.heap[x]? = some (Obj.cells c' 5 (0, 0)) := fun x c' hx5 => by
    have l1 := lt_of_block hx5
    rw [gr.block x (by simp; omega) (fun e => by
      obtain ⟨_, c2, f2, h3⟩ := hgb x e.symm
      rw [hx5] at h3
      simp at h3), Below.heap_alloc _ _ _ l1]
    exact hx5
  refine ⟨?_, ho, fun q v hv => ?_⟩
  · refine h.low.trans ?_
    have b1 : Below w1.heap.size W (Wx.alloc o) := (hx.mono s1).alloc (by omega) _
    exact b1.grown gr (by simp; omega) (fun x hx2 => (hgb x hx2).1)
  · have hvl : vs.length = k := by simpa using h.own.1
    by_cases hq : q < vs.length
    · rw [List.getElem?_append_left hq] at hv
      obtain ⟨g1, c1, cs1, e1, l1, r1, z1, m1⟩ := h.at_ q v hv
      exact ⟨g1, c1, cs1, e1, l1, k5 g1 cs1 ((hx.block g1 (lt_of_block r1)).trans r1), z1, m1⟩
    · rw [List.getElem?_append_right (by omega)] at hv
      have hq2 : q = k := by
        have := (List.getElem?_eq_some_iff.1 hv).1
        simp at this
        omega
      subst hq2
      rw [hvl, Nat.sub_self] at hv
      simp at hv
      subst hv
      exact ⟨g, c, cs, rfl, by omega, k5 g cs hr, hsz, hm⟩
end Go.Proofs.YtcpncfngadablaaGreatDoor
/-
  fresh, 2: the lists are grown; what is read in the end.
-/
namespace Go.Proofs.YtcpncfngadablaaGreatDoor
open Go.RowKit Go.Deep ShfKit
set_option maxRecDepth 100000
abbrev SFile.cut (B : Nat) (e : SFile) : List Value := e.bs.map fun b => sliceV b B
def hdr (fv : Value) (l : List SFile) : List Nat := fv.ownBlock.toList ++ l.flatMap fun e => e.sv.ownBlock.toList
theorem hdr_fv {fv : Value} {l : List SFile} {g : Nat} (h : fv.ownBlock = some g) : g ∈ hdr fv l := by simp [hdr, h]
theorem hdr_sv {fv : Value} {l : List SFile} {e : SFile} {g : Nat} (he : e ∈ l) (h : e.sv.ownBlock = some g) : g ∈ hdr fv l := by
  unfold hdr
  rw [List.mem_append]
  exact .inr (List.mem_flatMap.2 ⟨e, he, by simp [h]⟩)
theorem hdr_of {fv : Value} {l : List SFile} {g : Nat} (h : g ∈ hdr fv l) : fv.ownBlock = some g ∨ ∃ e ∈ l, e.sv.ownBlock = some g := by
  unfold hdr at h
  rw [List.mem_append] at h
  rcases h with h | h
  · exact .inl (by simpa using h)
  · obtain ⟨e, he, h⟩ := List.mem_flatMap.1 h
    exact .inr ⟨e, he, by simpa using h⟩
/-- where the state's lists lie. -/
structure Hd (w2 : World) (fv : Value) (l : List SFile) : Prop where
  lt : ∀ b ∈ hdr fv l, b < w2.heap.size
  ne : ∀ g, fv.ownBlock = some g → ∀ e ∈ l, e.sv.ownBlock ≠ some g
  ap : ∀ (i j : Nat) (a b : SFile), l[i]? = some a → l[j]? = some b → i ≠ j → ∀ g, a.sv.ownBlock = some g → b.sv.ownBlock ≠ some g
theorem Hd.of {w2 : World} {B : Nat} {fv : Value} {l : List SFile} (h : So w2 B fv l) (ha : ApartS l) : Hd w2 fv l := by
  obtain ⟨xs, h1, _⟩ := h.row
  refine ⟨fun b hb => ?_, fun g hg e he hs => ?_, fun i j a b hi hj hij g hg hs => ?_⟩
  · rcases hdr_of hb with hb | ⟨e, he, hb⟩
    · exact (own_block h1 hb).2
    · obtain ⟨i, hi⟩ := List.getElem?_of_mem he
      exact (own_block (h.svs i e hi) hb).2
  · obtain ⟨i, hi⟩ := List.getElem?_of_mem he
    obtain ⟨c1, f1, k1⟩ := Lib.ownsRow_kind h1 g hg
    obtain ⟨c2, f2, k2⟩ := Lib.ownsRow_kind (h.svs i e hi) g hs
    rw [k1] at k2
    simp only [Option.some.injEq, Obj.cells.injEq] at k2
    exact absurd k2.2.1 (by decide)
  · obtain ⟨li, vi⟩ := List.getElem?_eq_some_iff.1 hi
    obtain ⟨lj, vj⟩ := List.getElem?_eq_some_iff.1 hj
    rcases Nat.lt_or_gt_of_ne hij with hlt | hlt
    · have := (List.pairwise_iff_getElem.1 ha i j li lj hlt).1 g (by rw [vi]; exact hg)
      rw [vj] at this
      exact this hs
    · have := (List.pairwise_iff_getElem.1 ha j i lj li hlt).1 g (by rw [vj]; exact hs)
      rw [vi] at this
      exact this hg
/-! ### the third loop: every list of blocks is grown -/
structure Ph3 (w2 W : World) (B k : Nat) (rv fv : Value) (l : List SFile) (rvs : List Value) : Prop where
  tch : Touch (hdr fv l) w2 W
  row : ∃ xs, W.ownsRow 0 71 3 fv l.length xs ∧ ∀ (i : Nat) (e : SFile), l[i]? = some e → xs[i * 3 + 2]? = some e.sv
  rest : ∀ (i : Nat) (e : SFile), k ≤ i → l[i]? = some e → W.ownsRow 0 31 1 e.sv e.bs.length (e.cut B)
  own : W.ownsRow w2.heap.size 51 1 rv k rvs
  done : ∀ (i : Nat) (e : SFile), i < k → l[i]? = some e → ∃ r c x, rvs[i]? = some (.slice (some ⟨r, 0, none⟩) (e.bs.length + 1) c) ∧ Pair W 0 31 1 e.sv e.bs.length (e.cut B) (.slice (some ⟨r, 0, none⟩) (e.bs.length + 1) c) (e.bs.length + 1) (e.cut B ++ [.slice (some ⟨x, 0, none⟩) 2 2]) ∧ (e.sv.ownBlock = some r ∨ w2.heap.size ≤ r) ∧ w2.heap.size ≤ x ∧ W.heap[x]? = some (.cells #[.int .u8 ((i : Int) % 256), .int .u8 ((i : Int) / 256 % 256)] 5 (0, 0))
theorem Ph3.start {w2 : World} {B : Nat} {fv : Value} {l : List SFile} (h : So w2 B fv l) : Ph3 w2 w2 B 0 (.slice none 0 0) fv l [] :=
  ⟨Touch.refl _ _, h.row, fun i e _ he => h.svs i e he, World.ownsRow_nil _ _ _ _, fun i e hi => by omega⟩
theorem own_type {W : World} {b1 b2 e1 e2 s1 s2 n1 n2 : Nat} {v1 v2 : Value} {x1 x2 : List Value} (h1 : W.ownsRow b1 e1 s1 v1 n1 x1) (h2 : W.ownsRow b2 e2 s2 v2 n2 x2) (hne : e1 ≠ e2) {g : Nat} (hg : v1.ownBlock = some g) : v2.ownBlock ≠ some g := fun hg2 => by
  obtain ⟨c1, f1, k1⟩ := Lib.ownsRow_kind h1 g hg
  obtain ⟨c2, f2, k2⟩ := Lib.ownsRow_kind h2 g hg2
  rw [k1] at k2
  simp only [Option.some.injEq, Obj.cells.injEq] at k2
  exact hne k2.2.1
theorem Ph3.next {w2 W W4 W6 : World} {B k m1 k1 : Nat} {rv fv rv' v4 name : Value} {l : List SFile} {rvs : List Value} {e : SFile} {G gc : Nat} {W3 : World} (h : Ph3 w2 W B k rv fv l rvs) (hd : Hd w2 fv l) (he : l[k]? = some e) (hfv : fv = .slice (some ⟨G, 0, none⟩) l.length gc)
    (hW3 : W3 = ((W.setCell ⟨G, k * 3, none⟩ name).alloc (.cells #[.int .u8 ((k : Int) % 256), .int .u8 ((k : Int) / 256 % 256)] 5)).alloc (.cells #[.slice (some ⟨W.heap.size, 0, none⟩) 2 2] 31)) (hm1 : m1 = e.bs.length + 1) (hk1 : k1 = k + 1)
    (ho4 : W4.ownsRow 0 31 1 v4 m1 (e.cut B ++ [.slice (some ⟨W.heap.size, 0, none⟩) 2 2])) (hf4 : (v4.ownBlock = e.sv.ownBlock ∧ W3.grownBy W4 e.sv.ownBlock) ∨ ((∀ g, v4.ownBlock = some g → W3.heap.size ≤ g) ∧ W3.grownBy W4 none)) {o5 : Obj}
    (ho6 : W6.ownsRow w2.heap.size 51 1 rv' k1 (rvs ++ [v4])) (hf6 : (rv'.ownBlock = rv.ownBlock ∧ (W4.alloc o5).grownBy W6 rv.ownBlock) ∨ ((∀ g, rv'.ownBlock = some g → (W4.alloc o5).heap.size ≤ g) ∧ (W4.alloc o5).grownBy W6 none)) :
    Ph3 w2 W6 B k1 rv' fv l (rvs ++ [v4]) := by
  subst hm1 hk1
  have z0 := h.tch.size
  have hG : fv.ownBlock = some G := by rw [hfv]; rfl
  have lG := hd.lt G (hdr_fv hG)
  have hem : e ∈ l := List.mem_of_getElem? he
  have z3 : W3.heap.size = W.heap.size + 2 := by rw [hW3]; simp [World.setCell]
  obtain ⟨g4, _⟩ := grown_all hf4
  obtain ⟨g6, _⟩ := grown_all hf6
  have z4 := g4.size
  have z6 := g6.size
  simp only [World.size_alloc] at z6
  have hS : ∀ g, e.sv.ownBlock = some g → g < w2.heap.size ∧ g ≠ G := fun g hg => ⟨hd.lt g (hdr_sv hem hg), fun e2 => hd.ne G hG e hem (by rw [hg, e2])⟩
  have hR : ∀ g, rv.ownBlock = some g → w2.heap.size ≤ g ∧ g < W.heap.size := fun g hg => own_block h.own hg
  have b3 : ∀ b, b < W.heap.size → b ≠ G → W3.heap[b]? = W.heap[b]? := fun b hb hne => by
    rw [hW3, Below.heap_alloc _ _ _ (by simp [World.setCell]; omega), Below.heap_alloc _ _ _ (by simpa [World.setCell] using hb), Below.heap_setCell _ _ _ _ (by simpa using hne)]
  have b6 : ∀ b, b < W4.heap.size → rv.ownBlock ≠ some b → W6.heap[b]? = W4.heap[b]? := fun b hb hne => by
    rw [g6.block b (by simp; omega) (fun e2 => hne e2.symm), Below.heap_alloc _ _ _ hb]
  have b46 : ∀ b, b < W3.heap.size → e.sv.ownBlock ≠ some b → rv.ownBlock ≠ some b → W6.heap[b]? = W3.heap[b]? := fun b hb h1 h2 => by
    rw [b6 b (by omega) h2, g4.block b hb (fun e2 => h1 e2.symm)]
  have kb : ∀ b, b < W.heap.size → b ≠ G → e.sv.ownBlock ≠ some b → rv.ownBlock ≠ some b → W6.heap[b]? = W.heap[b]? := fun b hb h0 h1 h2 => by
    rw [b46 b (by omega) h1 h2, b3 b hb h0]
  refine ⟨?_, ?_, fun i f hi hf => ?_, ho6, fun i f hi hf => ?_⟩
  · refine Touch.grown (Touch.alloc (Touch.grown ?_ g4 (fun g hg => .inl (hdr_sv hem hg))) _) g6 (fun g hg => .inr (hR g hg).1)
    rw [hW3]
    exact ((h.tch.setCell (p := ⟨G, k * 3, none⟩) (.inl (hdr_fv hG)) name).alloc _).alloc _
  · obtain ⟨xs, h1, h2⟩ := h.row
    obtain ⟨s1, _⟩ := own_set h1 (j := k * 3) hfv name
    refine ⟨xs.set (k * 3) name, own_kept s1 fun g hg => ?_, fun i f hf => ?_⟩
    · rw [hG] at hg
      cases hg
      have hGl := (own_block h1 hG).2
      rw [b46 G (by omega) (fun e2 => (hS G e2).2 rfl) (fun e2 => by have := (hR G e2).1; omega), hW3, Below.heap_alloc _ _ _ (by simp [World.setCell]; omega), Below.heap_alloc _ _ _ (by simpa [World.setCell] using hGl)]
    · rw [List.getElem?_set_ne (by omega)]
      exact h2 i f hf
  · have ho := h.rest i f (by omega) hf
    refine own_kept ho fun g hg => ?_
    have hlt := hd.lt g (hdr_sv (List.mem_of_getElem? hf) hg)
    exact kb g (by omega) (fun e2 => hd.ne G hG f (List.mem_of_getElem? hf) (by rw [hg, e2])) (fun e2 => hd.ap i k f e hf he (by omega) g hg e2) (fun e2 => by have := (hR g e2).1; omega)
  · have hrl : rvs.length = k := by simpa using h.own.1
    by_cases hik : i < k
    · obtain ⟨r, c, x, h1, hp, hr, hx, hxr⟩ := h.done i f hik hf
      have hfm := List.mem_of_getElem? hf
      refine ⟨r, c, x, by rw [List.getElem?_append_left (by omega)]; exact h1, hp.kept (by omega) (fun b hb => ?_), hr, hx, ?_⟩
      · have lb := (hp.blk hb).2
        have sv : ∀ g, f.sv.ownBlock = some g → W6.heap[g]? = W.heap[g]? := fun g hg => by
          have hlt := hd.lt g (hdr_sv hfm hg)
          exact kb g (by omega) (fun e2 => hd.ne G hG f hfm (by rw [hg, e2])) (fun e2 => hd.ap i k f e hf he (by omega) g hg e2) (fun e2 => by have := (hR g e2).1; omega)
        rcases hb with hb | hb
        · exact sv b hb
        · have hbr : r = b := by simpa [Value.ownBlock] using hb
          subst hbr
          rcases hr with hr | hr
          · exact sv r hr
          · exact kb r lb (by omega) (fun e2 => by have := (hS r e2).1; omega) (own_type hp.own h.own (by decide) (by rfl))
      · have lx := lt_of_block hxr
        rw [kb x lx (by omega) (fun e2 => by have := (hS x e2).1; omega) (fun e2 => by
          obtain ⟨c2, f2, k2⟩ := Lib.ownsRow_kind h.own x e2
          rw [hxr] at k2
          simp at k2)]
        exact hxr
    · have : i = k := by omega
      subst this
      rw [he] at hf
      cases hf
      have own3 : W3.ownsRow 0 31 1 e.sv e.bs.length (e.cut B) := own_kept (h.rest i e (Nat.le_refl _) he) fun g hg => b3 g (own_block (h.rest i e (Nat.le_refl _) he) hg).2 (hS g hg).2
      obtain ⟨p4, p4b⟩ := (Pair.start own3).grow ho4 hf4
      obtain ⟨r, c, hv4, _, _⟩ := own_cell ho4 (j := e.bs.length) (x := .slice (some ⟨W.heap.size, 0, none⟩) 2 2) (by rw [List.getElem?_append_right (by simp)]; simp)
      have hrb : e.sv.ownBlock = some r ∨ W3.heap.size ≤ r := by
        rcases hf4 with ⟨h1, _⟩ | ⟨h1, _⟩
        · left; rw [← h1, hv4]; rfl
        · right; exact h1 r (by rw [hv4]; rfl)
      rw [hv4] at p4 p4b
      refine ⟨r, c, W.heap.size, by rw [List.getElem?_append_right (by omega), hrl, Nat.sub_self, hv4]; rfl, p4.kept (by omega) (fun b hb => ?_), ?_, z0, ?_⟩
      · have lb := (p4.blk hb).2
        refine b6 b lb (fun e2 => ?_)
        have h9 := hR b e2
        rcases hb with hb | hb
        · have := (hS b hb).1
          omega
        · have hbr : r = b := by simpa [Value.ownBlock] using hb
          subst hbr
          rcases hrb with h8 | h8
          · have := (hS r h8).1
            omega
          · omega
      · rcases hrb with h8 | h8
        · exact .inl h8
        · exact .inr (by omega)
      · have hx3 : W3.heap[W.heap.size]? = some (.cells #[.int .u8 ((i : Int) % 256), .int .u8 ((i : Int) / 256 % 256)] 5 (0, 0)) := by
          rw [hW3, Below.heap_alloc _ _ _ (by simp [World.setCell])]
          have := heap_alloc_new (W.setCell ⟨G, i * 3, none⟩ name) (.cells #[.int .u8 ((i : Int) % 256), .int .u8 ((i : Int) / 256 % 256)] 5)
          simpa [World.setCell] using this
        rw [b46 _ (by omega) (fun e2 => by have := (hS _ e2).1; omega) (fun e2 => by have := (hR _ e2).2; omega)]
        exact hx3
/-! ### what is read in the end -/
structure Ph4 (W : World) (B N : Nat) (gv rv fv : Value) (l : List SFile) : Prop where
  len : ∃ a c, fv = .slice a l.length c
  files : ∀ (i : Nat) (e : SFile), l[i]? = some e → ∃ G gc sa sc Rv rc r cr x, fv = .slice (some ⟨G, 0, none⟩) l.length gc ∧ W.cell? ⟨G, i * 3 + 2, none⟩ = some e.sv ∧ e.sv = .slice sa e.bs.length sc ∧ rv = .slice (some ⟨Rv, 0, none⟩) l.length rc ∧ W.cell? ⟨Rv, i, none⟩ = some (.slice (some ⟨r, 0, none⟩) (e.bs.length + 1) cr) ∧ W.cell? ⟨r, e.bs.length, none⟩ = some (.slice (some ⟨x, 0, none⟩) 2 2) ∧ W.cell? ⟨x, 0, none⟩ = some (.int .u8 ((i : Int) % 256)) ∧ W.cell? ⟨x, 1, none⟩ = some (.int .u8 ((i : Int) / 256 % 256)) ∧ ∀ (j b : Nat), e.bs[j]? = some b → ∃ S, sa = some ⟨S, 0, none⟩ ∧ W.cell? ⟨S, j, none⟩ = some (sliceV b B)
  blk : ∀ (q b : Nat), (allB l)[q]? = some b → Blk W B b (some ((q : Int) + 1))
  grn : ∀ q, q < N → ∃ Gv c g c' cs, gv = .slice (some ⟨Gv, 0, none⟩) N c ∧ W.cell? ⟨Gv, q, none⟩ = some (.slice (some ⟨g, 0, none⟩) (B + 64) c') ∧ W.heap[g]? = some (.cells cs 5 (0, 0)) ∧ B + 64 ≤ cs.size ∧ ∀ j, j < B + 64 → cs[j]? = some (.int .u8 (YtcpncfngadablaaGreatDoor.mk ((q : Int) + 1) (if B + 64 - 64 ≤ j then j - (B + 64 - 64) else j)))
/-- behind the third loop, one file more has been put behind the list. -/
theorem Ph4.of {w w1 w2 W W3 W4 : World} {n B m1 : Nat} {gv rv fv v4 : Value} {l : List SFile} {vs rvs : List Value} {zs xs : List Value} (h1 : Ph1 w w1 n B (allB l).length l) (h2 : Ph2 w1 w2 B (allB l).length gv vs) (h3 : Ph3 w2 W B l.length rv fv l rvs) (hd1 : Hd w1 fv l) (hso : So w2 B fv l) (hd : Hd w2 fv l) (hW3 : Below W.heap.size W W3)
    (hx1 : W.ownsRow 0 71 3 fv l.length xs) (hx2 : ∀ (i : Nat) (e : SFile), l[i]? = some e → xs[i * 3 + 2]? = some e.sv) (ho4 : W4.ownsRow 0 71 3 v4 m1 (xs ++ zs)) (hf4 : (v4.ownBlock = fv.ownBlock ∧ W3.grownBy W4 fv.ownBlock) ∨ ((∀ g, v4.ownBlock = some g → W3.heap.size ≤ g) ∧ W3.grownBy W4 none)) :
    Ph4 W4 B (allB l).length gv rv fv l := by
  have own3 : W3.ownsRow 0 71 3 fv l.length xs := own_kept hx1 fun g hg => hW3.block g (own_block hx1 hg).2
  obtain ⟨pr, _⟩ := (Pair.start own3).grow ho4 hf4
  obtain ⟨g4, _⟩ := grown_all hf4
  have z1 := h2.low.size
  have z3 := h3.tch.size
  have z4 := hW3.size
  have kb : ∀ b, b < W.heap.size → fv.ownBlock ≠ some b → W4.heap[b]? = W.heap[b]? := fun b hb hne => by
    rw [g4.block b (by omega) (fun e => hne e.symm), hW3.block b hb]
  have k5 : ∀ b c, w2.heap[b]? = some (Obj.cells c 5 (0, 0)) → W4.heap[b]? = some (Obj.cells c 5 (0, 0)) := fun b c hb => by
    have lb := lt_of_block hb
    have nh : b ∉ hdr fv l := fun hm => by
      rcases hdr_of hm with hm | ⟨e, he, hm⟩
      · obtain ⟨ys, hy, _⟩ := hso.row
        obtain ⟨c2, f2, k2⟩ := Lib.ownsRow_kind hy b hm
        rw [hb] at k2
        simp at k2
      · obtain ⟨i, hi⟩ := List.getElem?_of_mem he
        obtain ⟨c2, f2, k2⟩ := Lib.ownsRow_kind (hso.svs i e hi) b hm
        rw [hb] at k2
        simp at k2
    rw [kb b (by omega) (fun e => nh (hdr_fv e)), h3.tch.block b lb nh]
    exact hb
  refine ⟨sh_slice hx1, fun i e he => ?_, fun q b hq => ?_, fun q hq => ?_⟩
  · have hil := (List.getElem?_eq_some_iff.1 he).1
    have hem := List.mem_of_getElem? he
    obtain ⟨r, c, x, hr1, hp, hrb, hxl, hxr⟩ := h3.done i e hil he
    have lfv : ∀ g, fv.ownBlock = some g → g < w2.heap.size := fun g hg => hd.lt g (hdr_fv hg)
    have hp4 := hp.kept (W' := W4) (by have := g4.size; omega) (fun b hb => kb b (hp.blk hb).2 (fun e2 => by
      rcases hb with hb | hb
      · exact hd.ne b e2 e hem hb
      · have hbr : r = b := by simpa [Value.ownBlock] using hb
        subst hbr
        rcases hrb with h8 | h8
        · exact hd.ne r e2 e hem h8
        · have := lfv r e2
          omega))
    have hj : i * 3 + 2 < xs.length := (List.getElem?_eq_some_iff.1 (hx2 i e he)).1
    have hje : xs[i * 3 + 2] = e.sv := (List.getElem?_eq_some_iff.1 (hx2 i e he)).2
    obtain ⟨G, gc, hfv, _, _, hcell⟩ := pr.rd (i * 3 + 2) hj
    rw [hje] at hcell
    obtain ⟨sa, sc, hsv⟩ := hp4.shape
    obtain ⟨Rv, rc, hrv, hRb, hRl, hRc, _⟩ := own_cell h3.own hr1
    obtain ⟨r', c', hr', _, _, hrc, _⟩ := own_cell hp4.own (j := e.bs.length) (x := .slice (some ⟨x, 0, none⟩) 2 2) (by rw [List.getElem?_append_right (by simp)]; simp)
    simp only [Value.slice.injEq, Option.some.injEq, Addr.mk.injEq] at hr'
    obtain ⟨⟨rfl, _⟩, _⟩ := hr'
    have hx4 : W4.heap[x]? = some (.cells #[.int .u8 ((i : Int) % 256), .int .u8 ((i : Int) / 256 % 256)] 5 (0, 0)) := (kb x (lt_of_block hxr) (fun e2 => by have := lfv x e2; omega)).trans hxr
    refine ⟨G, gc, sa, sc, Rv, rc, r, c, x, hfv, hcell, hsv, hrv, ?_, hrc, cell_row hx4 0, cell_row hx4 1, fun j b hb => ?_⟩
    · rw [World.cell?_of_block (w := W) (kb Rv hRl (fun e2 => by have := lfv Rv e2; omega))]
      exact hRc
    · have hjl : j < (e.cut B).length := by simpa [SFile.cut] using (List.getElem?_eq_some_iff.1 hb).1
      obtain ⟨S, sc', hs', _, _, hc'⟩ := hp4.rd j hjl
      rw [hsv] at hs'
      simp only [Value.slice.injEq, true_and] at hs'
      refine ⟨S, hs'.1, hc'.trans ?_⟩
      have : (e.cut B)[j]? = some (sliceV b B) := by simp only [SFile.cut, List.getElem?_map, hb]; rfl
      rw [List.getElem?_eq_getElem hjl] at this
      exact this
  · have hb1 := h1.blk q b hq
    rw [if_pos (List.getElem?_eq_some_iff.1 hq).1] at hb1
    obtain ⟨cs, hr, rest⟩ := hb1
    exact ⟨cs, k5 b cs ((h2.low.block b (lt_of_block hr)).trans hr), rest⟩
  · have hvl : vs.length = (allB l).length := by simpa using h2.own.1
    obtain ⟨v, hv⟩ : ∃ v, vs[q]? = some v := ⟨_, List.getElem?_eq_getElem (by omega)⟩
    obtain ⟨g, c', cs, hve, _, hgr, hsz, hm⟩ := h2.at_ q v hv
    obtain ⟨Gv, c, hgv, hGb, hGl, hGc, _⟩ := own_cell h2.own hv
    have nh : Gv ∉ hdr fv l := fun hm2 => by have := hd1.lt Gv hm2; omega
    refine ⟨Gv, c, g, c', cs, hgv, ?_, k5 g cs hgr, hsz, hm⟩
    rw [World.cell?_of_block (w := w2) ((kb Gv (by omega) (fun e2 => nh (hdr_fv e2))).trans (h3.tch.block Gv hGl nh)), ← hve]
    exact hGc
end Go.Proofs.YtcpncfngadablaaGreatDoor
