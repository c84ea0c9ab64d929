import Derived.Deep.LoopGhost
import Derived.Lib.AppendZerosOnto
import Derived.Test.YtcpncfngadablaaGreatDoorZ07
namespace Go.Proofs.YtcpncfngadablaaGreatDoor
open Go.RowKit Go.Deep

/-- that append, in a walk. -/
theorem wpList_append_fresh (w : World) {ops : Array Oper} {rest : List Oper} {o : Oper} {a : Act} {Q : Exit → Act → World → Prop} (hgd : o.guard = none) (s x : Operand)
    (hop : o.op = Op.call { callee := Callee.builtin Builtin.append, args := #[s, x], argTypes := #[51, 51] })
    (v : Value) (n : Nat) (xs : List Value) (ad : Addr) (u : Value) (hs : a.eval s = v) (hx : a.eval x = .slice (some ad) 1 1) (hown : w.ownsRow 0 31 1 v n xs) (hu : w.cell? ad = some u) (h1 : u.oneCell' = true) (hn : n ≤ 1099511627776)
    (hK : ∀ v' w', w'.ownsRow 0 31 1 v' (n + 1) (xs ++ [u]) → w.grownBy w' v.ownBlock → (v'.ownBlock = v.ownBlock ∨ v'.ownBlock = some w.heap.size) → wpList Tryz.prog ops Q rest (a.put o.dst v') w') : wpList Tryz.prog ops Q (o :: rest) a w := by
  refine wpList_plain hgd fun K' hK' => ?_
  obtain ⟨v', w', hrun, r1, r2, r3, r4⟩ := run_append_fresh w o.type v n xs hown ad u hu h1 hn
  unfold Oper.wp
  simp [execOp, hop, resolve, invoke, builtin, hs, hx, hrun, Result.andThen]
  exact hK' _ _ (hK v' w' r1 r2 r3)

/-- Blocks lie behind a slice: sv the slice, bs where each block lies. -/
structure BlocksAt (w : World) (B : Nat) (sv : Value) (bs : List Nat) (blocks : List (List UInt8)) : Prop where
  own : w.ownsRow 0 31 1 sv blocks.length (bs.map fun b => sliceV b B)
  bytes : ∀ (i b : Nat) (bl : List UInt8), bs[i]? = some b → blocks[i]? = some bl → bl.length = B ∧ BytesAt w b bl

theorem BlocksAt.len {w : World} {B : Nat} {sv : Value} {bs : List Nat} {blocks : List (List UInt8)} (h : BlocksAt w B sv bs blocks) : bs.length = blocks.length := by simpa using h.own.1
theorem FileAt.blocksAt {w : World} {B : Nat} {L : Lay} {f : FileA} (h : FileAt w B L f) : BlocksAt w B L.sv L.bs f.blocks := ⟨h.own, h.bytes⟩

/-- block i, where it lies. -/
theorem BlocksAt.at {w : World} {B : Nat} {sv : Value} {bs : List Nat} {blocks : List (List UInt8)} (h : BlocksAt w B sv bs blocks) {i : Nat} (hi : i < blocks.length) :
    ∃ g cap b, sv = .slice (some ⟨g, 0, none⟩) blocks.length cap ∧ w.cell? ⟨g, i, none⟩ = some (sliceV b B) ∧ blocks[i].length = B ∧ BytesAt w b blocks[i] ∧ bs[i]? = some b := by
  have hlen := h.len
  have hb : bs[i]? = some (bs[i]'(by omega)) := List.getElem?_eq_getElem (by omega)
  have hbl := h.bytes i _ blocks[i] hb (List.getElem?_eq_getElem hi)
  rcases h.own.2 with ⟨_, h2⟩ | ⟨g, cap, cur, h1, _, hg, hc, _⟩
  · omega
  · refine ⟨g, cap, _, h1, ?_, hbl.1, hbl.2, hb⟩
    have hc2 := h.own.cells (g := g) (by rw [h1]; rfl) i (sliceV (bs[i]'(by omega)) B) (by simp [hb])
    have hadd : (⟨g, 0, none⟩ : Addr).add i = ⟨g, i, none⟩ := by unfold Addr.add; split <;> simp_all
    rw [hadd] at hc2
    exact hc2

/-- all of it lies from n on. -/
def FreshB (n : Nat) (sv : Value) (bs : List Nat) : Prop := (∀ x, sv.ownBlock = some x → n ≤ x) ∧ (∀ b ∈ bs, n ≤ b) ∧ (sv.ownBlock.toList ++ bs).Nodup

theorem BlocksAt.lt {w : World} {B : Nat} {sv : Value} {bs : List Nat} {blocks : List (List UInt8)} (h : BlocksAt w B sv bs blocks) : (∀ x, sv.ownBlock = some x → x < w.heap.size) ∧ ∀ b ∈ bs, b < w.heap.size := by
  refine ⟨fun x hx => (h.own.lt x hx).2, fun b hb => ?_⟩
  obtain ⟨i, hi, rfl⟩ := List.getElem_of_mem hb
  exact lt_of_block (h.bytes i _ (blocks[i]'(by rw [← h.len]; exact hi)) (List.getElem?_eq_getElem hi) (List.getElem?_eq_getElem _)).2

theorem BlocksAt.kept {w w' : World} {B : Nat} {sv : Value} {bs : List Nat} {blocks : List (List UInt8)} (h : BlocksAt w B sv bs blocks) (hk : ∀ b, (sv.ownBlock = some b ∨ b ∈ bs) → w'.heap[b]? = w.heap[b]?) : BlocksAt w' B sv bs blocks := by
  refine ⟨⟨h.own.1, ?_⟩, fun i b bl hb hbl => ?_⟩
  · rcases h.own.2 with hn | ⟨g, cap, cur, hv, hb, hg, rest⟩
    · exact .inl hn
    · exact .inr ⟨g, cap, cur, hv, hb, (hk g (.inl (by rw [hv]; rfl))).trans hg, rest⟩
  · have := h.bytes i b bl hb hbl
    exact ⟨this.1, (hk b (.inr (List.mem_of_getElem? hb))).trans this.2⟩

/-- one more block behind them. -/
theorem BlocksAt.snoc {w w2 w3 : World} {B n g : Nat} {sv v' : Value} {bs : List Nat} {blocks : List (List UInt8)} {nb : List UInt8} {o : Obj} (h : BlocksAt w B sv bs blocks) (hf : FreshB n sv bs) (hn : n ≤ w.heap.size) (hg : w.heap.size ≤ g) (hg2 : g < w2.heap.size) (h2 : Touch [] w w2) (hnb : nb.length = B) (hb : BytesAt w2 g nb)
    (hown : w3.ownsRow 0 31 1 v' (blocks.length + 1) ((bs.map fun b => sliceV b B) ++ [sliceV g B])) (hgr : (w2.alloc o).grownBy w3 sv.ownBlock) (hfr : v'.ownBlock = sv.ownBlock ∨ v'.ownBlock = some (w2.alloc o).heap.size) :
    BlocksAt w3 B v' (bs ++ [g]) (blocks ++ [nb]) ∧ FreshB n v' (bs ++ [g]) ∧ Touch sv.ownBlock.toList w w3 := by
  have hlen := h.len
  have hs2 := h2.size
  obtain ⟨hf1, hf2, hf3⟩ := hf
  obtain ⟨l1, l2⟩ := h.lt
  rw [List.nodup_append] at hf3
  have hsz : (w2.alloc o).heap.size = w2.heap.size + 1 := by simp
  refine ⟨⟨?_, ?_⟩, ⟨?_, ?_, ?_⟩, ?_⟩
  · simpa using hown
  · intro i b bl hb' hbl
    by_cases hi : i < bs.length
    · rw [List.getElem?_append_left hi] at hb'
      rw [List.getElem?_append_left (by omega)] at hbl
      have h1 := h.bytes i b bl hb' hbl
      have hm := List.mem_of_getElem? hb'
      have hlt := l2 b hm
      refine ⟨h1.1, ?_⟩
      show w3.heap[b]? = _
      rw [hgr.block _ (by omega) (fun e => hf3.2.2 b (by simp [← e]) b hm rfl), Below.heap_alloc _ _ _ (by omega), h2.block _ hlt (by simp)]
      exact h1.2
    · have hi' : i = bs.length := by
        have := (List.getElem?_eq_some_iff.1 hb').1
        simp at this
        omega
      subst hi'
      simp at hb'
      rw [hlen] at hbl
      simp at hbl
      subst hb' hbl
      refine ⟨hnb, ?_⟩
      show w3.heap[g]? = _
      rw [hgr.block _ (by omega) (fun e => by have := l1 g e.symm; omega), Below.heap_alloc _ _ _ hg2]
      exact hb
  · intro x hx
    rcases hfr with e | e
    · exact hf1 x (e ▸ hx)
    · rw [e] at hx; simp at hx; omega
  · intro b hb
    simp at hb
    rcases hb with hb | rfl
    · exact hf2 b hb
    · omega
  · rw [List.nodup_append]
    refine ⟨by cases v'.ownBlock <;> simp, ?_, ?_⟩
    · rw [List.nodup_append]
      exact ⟨hf3.2.1, by simp, fun x hx y hy => by simp at hy; subst hy; have := l2 x hx; omega⟩
    · intro x hx y hy
      simp only [Option.mem_toList] at hx
      simp only [List.mem_append, List.mem_cons, List.not_mem_nil, or_false] at hy
      rcases hfr with e | e
      · rw [e] at hx
        rcases hy with hy | hy
        · exact hf3.2.2 x (by simp [hx]) y hy
        · have := l1 x hx; omega
      · rw [e] at hx
        simp at hx
        rcases hy with hy | hy
        · have := l2 y hy; omega
        · omega
  · exact ((h2.mono (by simp)).alloc o).grown hgr (fun x hx => .inl (by simp [hx]))

section
variable {w w' : World} {E : Nat → Addr} {lo p mf mt : Nat} {D : DiskC}

set_option maxRecDepth 100000 in
set_option maxHeartbeats 400000 in
theorem copyBlocks_any {B : Nat} {sv : Value} {bs : List Nat} {blocks : List (List UInt8)} (h : BlocksAt w B sv bs blocks) (hB1 : 64 ≤ B) (hB2 : B ≤ 65536) (hn : blocks.length ≤ 1099511627776) :
    Calls Tryz.prog 75 #[sv] w fun e w' => ∃ sv' bs', e = .returned sv' ∧ BlocksAt w' B sv' bs' blocks ∧ FreshB w.heap.size sv' bs' ∧ Below w.heap.size w w' := by
  rcases h.own.2 with ⟨hsv, h2⟩ | ⟨G, gc, _, hsv, _⟩
  · have hbl : blocks = [] := List.eq_nil_of_length_eq_zero h2
    subst hbl
    rw [hsv]
    clear h hsv
    go_enter Tryz.func75, Tryz.ntmps75
    go_wp2
    refine wp_loop_rounds 1 ?_
    rw [rounds_succ]
    go_wp2
    go_ret
    exact ⟨.slice none 0 0, [], rfl, ⟨World.ownsRow_nil _ _ _ _, fun i b bl hb => by simp at hb⟩, ⟨by simp [Value.ownBlock], by simp, by simp [Value.ownBlock]⟩, Below.refl _ _⟩
  · have H := hid h
    have HSV := hid hsv
    rw [hsv]
    clear h hsv
    go_enter Tryz.func75, Tryz.ntmps75
    go_wp2
    go_loopw [3, 8] (fun v i wr => ∃ (k : Nat) (bs' : List Nat), k ≤ blocks.length ∧ i = .int .i64 k ∧ BlocksAt wr B v bs' (blocks.take k) ∧ FreshB w.heap.size v bs' ∧ Below w.heap.size w wr) (fun _ i _ => blocks.length - (intOf i).toNat)
    case atStart => exact ⟨0, [], Nat.zero_le _, rfl, ⟨World.ownsRow_nil _ _ _ _, fun i b bl hb => by simp at hb⟩, ⟨by simp [Value.ownBlock], by simp, by simp [Value.ownBlock]⟩, Below.refl _ _⟩
    case round =>
      obtain ⟨k, bs', hk, rfl, hB, hF, hb⟩ := hrel
      by_cases hlt : k < blocks.length
      · have hsrc : BlocksAt wr B sv bs blocks := H.out.kept fun b hb' => hb.block b (by rcases hb' with h | h; exact H.out.lt.1 b h; exact H.out.lt.2 b h)
        obtain ⟨g, cap, b, e1, cG, hlen, hby, _⟩ := hsrc.at hlt
        rw [HSV.out] at e1
        simp only [Value.slice.injEq, Option.some.injEq, Addr.mk.injEq] at e1
        obtain ⟨⟨rfl, _⟩, hgc⟩ := e1
        clear hgc
        have hl : (blocks.take k).length = k := by simp; omega
        have HC := hid (copy_at hby hlen hB1 hB2)
        have HB := hid hB
        have HF := hid hF
        have HBW := hid hb
        have HL := hid hl
        have HLEN := hid hlen
        clear hsrc hby hB hF hb hl hlen
        go_wp2_with (first
          | (go_at_call 71; refine HC.out.mono ?_; rintro e w2 ⟨rfl, hb2, ht2, hz2⟩; have HB2 := hid hb2; have HT2 := hid ht2; have HZ2 := hid hz2; clear hb2 ht2 hz2)
          | (at_builtin; refine wpList_append_fresh _ rfl _ _ rfl u3 k (bs'.map fun b => sliceV b B) ⟨w2.heap.size, 0, none⟩ (sliceV wr.heap.size B) rfl rfl ?h1 ?h2 rfl ?h3 ?_; rotate_left 3; intro v' w3 r1 r2 r3; have H1 := hid r1; have H2 := hid r2; have H3 := hid r3; clear r1 r2 r3))
        case h1 =>
          have h := ownsRow_touch HB.out.own HT2.out (by simp)
          rw [HL.out] at h
          exact h.alloc _
        case h2 => exact cell_row (heap_alloc_new w2 _) 0
        case h3 => omega
        have hz := HZ2.out
        have hbw := HBW.out.size
        have hl := HL.out
        have hr := HB.out.snoc (nb := blocks[k]) HF.out hbw (Nat.le_refl _) (by omega) HT2.out HLEN.out HB2.out (by rw [hl]; exact H1.out) H2.out H3.out
        have htk : blocks.take (k + 1) = blocks.take k ++ [blocks[k]] := List.take_succ_eq_append_getElem hlt
        have hbel : Below w.heap.size w w3 := HBW.out.trans (hr.2.2.below hbw (fun b hb => HF.out.1 b (by simpa using hb)))
        rw [← htk] at hr
        have HR := hid hr
        have HBE := hid hbel
        clear hr hbel htk hz hl hbw
        go_roundw
        case rel => first | exact ⟨k + 1, bs' ++ [wr.heap.size], by omega, by go_num, HR.out.1, HR.out.2.1, HBE.out⟩ | ((repeat apply Exists.intro); exact ⟨⟨k + 1, bs' ++ [wr.heap.size], by omega, by go_num, HR.out.1, HR.out.2.1, HBE.out⟩, rfl⟩)
        case measure => simp [intOf]; omega
      · go_wp2
        go_ret
        have hk' : k = blocks.length := by omega
        subst hk'
        rw [List.take_length] at hB
        exact ⟨u3, bs', rfl, hB, hF, hb⟩
end
end Go.Proofs.YtcpncfngadablaaGreatDoor
namespace Go.Proofs.YtcpncfngadablaaGreatDoor
open Go.RowKit Go.Deep

section
variable {w w' : World} {E : Nat → Addr} {lo p mf mt : Nat} {D : DiskC}

/-- an operation of a script, as a value. -/
def opV (k : Int) (s : ByteArray) (N bit : Int) (sa : Option Addr) (n c : Nat) : Value := .agg #[.int .i64 k, .string s, .int .i64 N, .int .i64 bit, .slice sa n c]

theorem wpList_append_copy (w : World) {ops : Array Oper} {rest : List Oper} {o : Oper} {a : Act} {Q : Exit → Act → World → Prop} (hgd : o.guard = none) (x : Operand)
    (hop : o.op = Op.call { callee := Callee.builtin Builtin.append, args := #[.const (.slice none 0 0), x], argTypes := #[31, 31] })
    (sa : Option Addr) (n c : Nat) (d : List UInt8) (hx : a.eval x = .slice sa n c) (h : Shows w sa n c d) (hn : n ≤ 1099511627776)
    (hK : ∀ v' w', w'.ownsRow w.heap.size 5 1 v' n (Lib.byteCells d) → Below w.heap.size w w' → wpList Tryz.prog ops Q rest (a.put o.dst v') w') : wpList Tryz.prog ops Q (o :: rest) a w := by
  refine wpList_plain hgd fun K' hK' => ?_
  obtain ⟨v', w', hrun, ho, hb⟩ := run_append_bytes o.type w h hn
  have hs : a.eval (.const (.slice none 0 0)) = .slice none 0 0 := rfl
  unfold Oper.wp
  simp [execOp, hop, resolve, invoke, builtin, hs, hx, hrun, Result.andThen]
  exact hK' _ _ (hK v' w' ho hb)

theorem Shows.touch {sa : Option Addr} {n c : Nat} {d : List UInt8} {F : List Nat} (h : Shows w sa n c d) (ht : Touch F w w') (hF : ∀ a, sa = some a → a.block ∉ F) : Shows w' sa n c d :=
  ⟨h.len, h.cap, fun h0 => by
    obtain ⟨a, e, hl, hc⟩ := h.at_ h0
    exact ⟨a, e, by have := ht.size; omega, fun j v hv => by
      have h1 := hc j v hv
      have hb : (a.add j).block = a.block := by unfold Addr.add; split <;> rfl
      rw [ht.cell (by rw [hb]; exact hl) (by rw [hb]; exact hF a e)]
      exact h1⟩, h.nil⟩

theorem Shows.take {sa : Option Addr} {n c k : Nat} {d : List UInt8} (h : Shows w sa n c d) (hk : k ≤ n) (h0 : 0 < k) : Shows w sa k c (d.take k) := by
  have hl := h.len
  have hc := h.cap
  refine ⟨by rw [List.length_take]; omega, by omega, fun _ => ?_, fun e => by have := h.nil e; omega⟩
  obtain ⟨a, e, ha, hcell⟩ := h.at_ (by omega)
  refine ⟨a, e, ha, fun j v hv => hcell j v ?_⟩
  have : Lib.byteCells d = Lib.byteCells (d.take k) ++ Lib.byteCells (d.drop k) := by rw [← Lib.byteCells_append, List.take_append_drop]
  rw [this, List.getElem?_append_left (List.getElem?_eq_some_iff.1 hv).1]
  exact hv

def lenV : Value → Nat | .slice _ n _ => n | _ => 0

set_option maxRecDepth 100000 in
set_option maxHeartbeats 400000 in
theorem data_any (k : Int) (s : ByteArray) (N bit : Int) {sa : Option Addr} {n c B : Nat} {d : List UInt8} (h : Shows w sa n c d) (hn : n ≤ 1073741824) (hB1 : 64 ≤ B) (hB : B ≤ 65536) :
    Calls Tryz.prog 11 #[opV k s N bit sa n c, .int .i64 B] w fun e w' => ∃ sa' c', e = .returned (.slice sa' (dataA N B d).length c') ∧ Shows w' sa' (dataA N B d).length c' (dataA N B d) ∧ Touch [] w w' ∧ ∀ a, sa' = some a → w.heap.size ≤ a.block := by
  have HS := hid h
  clear h
  have hz : (w.alloc (Obj.cells #[.int .i64 k, .string s, .int .i64 N, .int .i64 bit, .slice sa n c] 40 (0, 0))).heap.size = w.heap.size + 1 := by simp
  obtain ⟨wb, hwb⟩ : ∃ wb, wb = w.alloc (Obj.cells #[.int .i64 k, .string s, .int .i64 N, .int .i64 bit, .slice sa n c] 40 (0, 0)) := ⟨_, rfl⟩
  have hrow : wb.heap[w.heap.size]? = some (.cells #[.int .i64 k, .string s, .int .i64 N, .int .i64 bit, .slice sa n c] 40 (0, 0)) := by rw [hwb]; exact heap_alloc_new _ _
  have HTB : Touch [] w wb := by rw [hwb]; exact (Touch.refl [] w).alloc _
  have c2 := cell_row hrow 2
  have c4 := cell_row hrow 4
  simp at c2 c4
  have HS' := hid (HS.out.touch HTB (by simp))
  have hl := HS.out.len
  rw [← hwb] at hz
  have HWB := hid hwb
  have HROW := hid hrow
  clear hwb hrow
  unfold opV
  go_enter Tryz.func11, Tryz.ntmps11
  go_wp2_with (first
    | (rw [← HWB.out])
    | (at_builtin; refine wpList_append_copy _ rfl _ rfl sa n c d rfl HS'.out (by omega) ?_; intro v1 w1 ho hb; have HO := hid ho; have HB1 := hid hb; have d2 := (hb.cell (p := ⟨w.heap.size, 2, none⟩) (by simp; omega)).trans c2; have HZ := hid hb.size; clear ho hb c4))
  · have hN : N = 0 := by first | assumption | (have := ‹(N == 0) = true›; simpa using this)
    obtain ⟨sa', c', rfl, hs, hge⟩ := shows_own HO.out
    have HSH := hid hs
    have HGE := hid hge
    clear hs hge
    go_wp2
    go_ret
    have e : dataA N B d = d := by unfold dataA; rw [if_pos hN]
    rw [e, HSH.out.len]
    exact ⟨sa', c', rfl, HSH.out, HTB.trans (Touch.of_below (F := []) HB1.out (Nat.le_refl _)) (by simp), fun a ha => by have := HGE.out a ha; omega⟩
  · have hN : N ≠ 0 := by first | assumption | (have := ‹(N == 0) = false›; simpa using this) | (have := ‹¬ (N == 0) = true›; simpa using this)
    have HN := hid hN
    have hNb : (N == 0) = false := by simpa using hN
    rw [hNb]
    clear hNb
    have HTB' := hid HTB
    clear hN HTB
    go_loopw [5] (fun v wr => ∃ m, n ≤ m ∧ (m ≤ B ∨ m = n) ∧ wr.ownsRow wb.heap.size 5 1 v m (Lib.byteCells (d ++ List.replicate (m - n) 0)) ∧ Below wb.heap.size wb wr) (fun v _ => B - lenV v)
    case atStart => exact ⟨n, Nat.le_refl _, .inr rfl, by simpa using HO.out, HB1.out⟩
    case round =>
      obtain ⟨m, hm1, hm2, ho, hb⟩ := hrel
      obtain ⟨sa', c', rfl, hs, hge⟩ := shows_own ho
      have HO2 := hid ho
      have HB2 := hid hb
      have HSH := hid hs
      have hsz := hb.size
      have hcap := hs.cap
      have HGE := hid hge
      clear ho hb hs hge
      by_cases hlt : m < B
      · have h1 : ((m : Int) < (B : Int)) := by omega
        go_wp2_with (first
          | (at_builtin; refine wpList_append_zero _ rfl _ _ rfl wb.heap.size _ m (d ++ List.replicate (m - n) 0) ⟨wr.heap.size, 0, none⟩ rfl rfl (HO2.out.alloc _) (cell_row (heap_alloc_new wr _) 0) (by omega) (by simp; omega) ?_; intro v3 w3 r1 r2; have H1 := hid r1; have H2 := hid r2; clear r1 r2))
        have hr : w3.ownsRow wb.heap.size 5 1 v3 (m + 1) (Lib.byteCells (d ++ List.replicate (m + 1 - n) 0)) := by
          have h := H1.out
          rw [List.append_assoc, ← List.replicate_succ', show m - n + 1 = m + 1 - n by omega] at h
          exact h
        have hbe : Below wb.heap.size wb w3 := (HB2.out.trans (((Below.refl _ wr).alloc (by omega) _))).trans H2.out
        have HR := hid hr
        have HBE := hid hbe
        clear hr hbe
        go_roundw
        case rel => first | exact ⟨m + 1, by omega, by omega, HR.out, HBE.out⟩ | ((repeat apply Exists.intro); exact ⟨⟨m + 1, by omega, by omega, HR.out, HBE.out⟩, rfl⟩)
        case measure =>
          obtain ⟨_, _, e3, _⟩ := shows_own HR.out
          rw [e3]
          simp [lenV]
          omega
      · have h1 : ¬ ((m : Int) < (B : Int)) := by omega
        have hmx : B ≤ c' := by omega
        have HM := hid hmx
        go_wp2
        go_ret
        have hda : dataA N B d = (d ++ List.replicate (m - n) 0).take B := by
          unfold dataA
          rw [if_neg HN.out]
          have hl2 := HS.out.len
          rcases hm2 with h | h
          · have : m = B := by omega
            subst this
            rw [List.take_of_length_le (l := d) (by omega), List.take_of_length_le (by simp; omega), hl2]
          · subst h
            rw [show B - d.length = 0 by omega]
            simp
        have hlen : ((d ++ List.replicate (m - n) 0).take B).length = B := by
          have := HSH.out.len
          rw [List.length_take]
          omega
        rw [hda, hlen]
        refine ⟨sa', c', rfl, HSH.out.take (by omega) (by omega), HTB'.out.trans (Touch.of_below (F := []) HB2.out (Nat.le_refl _)) (by simp), fun a ha => by have := HGE.out a ha; omega⟩

/-! ### blot -/
/-- a row of bytes of one's own, whatever they are. -/
def OwnB (w : World) (base : Nat) (v : Value) (m : Nat) : Prop := ∃ xs, w.ownsRow base 5 1 v m xs ∧ ∀ u ∈ xs, ∃ x : Int, u = .int .u8 x

theorem OwnB.of {base n : Nat} {v : Value} {d : List UInt8} (h : w.ownsRow base 5 1 v n (Lib.byteCells d)) : OwnB w base v n :=
  ⟨_, h, fun u hu => by
    simp only [Lib.byteCells, List.mem_map] at hu
    obtain ⟨x, _, rfl⟩ := hu
    exact ⟨_, rfl⟩⟩


set_option maxRecDepth 100000 in
set_option maxHeartbeats 400000 in
theorem blot_nil : Calls Tryz.prog 24 #[.slice none 0 0] w fun e w' => e = .returned (.tuple #[]) ∧ w' = w := by
  go_enter Tryz.func24, Tryz.ntmps24
  go_wp2
  refine wp_loop_rounds 1 ?_
  rw [rounds_succ]
  go_wp2
  go_end0
  exact ⟨rfl, rfl⟩

set_option maxRecDepth 100000 in
set_option maxHeartbeats 400000 in
theorem blot_row {g m c : Nat} {cs : Array Value} (h : w.heap[g]? = some (.cells cs 5 (0, 0))) (hm : m ≤ cs.size) (hb : ∀ j, j < m → ∃ x : Int, cs[j]? = some (.int .u8 x)) (hm2 : m ≤ 1099511627776) :
    Calls Tryz.prog 24 #[.slice (some ⟨g, 0, none⟩) m c] w fun e w' => e = .returned (.tuple #[]) ∧ (∃ cs' : Array Value, w'.heap[g]? = some (.cells cs' 5 (0, 0)) ∧ cs'.size = cs.size ∧ ∀ j, j < m → ∃ x : Int, cs'[j]? = some (.int .u8 x)) ∧ Touch [g] w w' := by
  have H := hid h
  have HB := hid hb
  clear h hb
  go_enter Tryz.func24, Tryz.ntmps24
  go_wp2
  go_loopw [2] (fun i wr => ∃ k : Nat, k ≤ m ∧ i = .int .i64 k ∧ (∃ cs' : Array Value, wr.heap[g]? = some (.cells cs' 5 (0, 0)) ∧ cs'.size = cs.size ∧ ∀ j, j < m → ∃ x : Int, cs'[j]? = some (.int .u8 x)) ∧ Touch [g] w wr) (fun i _ => m - (intOf i).toNat)
  case atStart => exact ⟨0, Nat.zero_le _, rfl, ⟨cs, H.out, rfl, HB.out⟩, Touch.refl _ _⟩
  case round =>
    obtain ⟨k, hk, rfl, ⟨cs', hrow, hsz, hb⟩, ht⟩ := hrel
    by_cases hlt : k < m
    · obtain ⟨x, hx⟩ := hb k hlt
      have c0 := cell_row hrow k
      rw [hx] at c0
      have f0 := unfrozen_row hrow k
      have HROW := hid hrow
      have HBB := hid hb
      have HT := hid ht
      clear hrow hb ht hx
      go_wp2
      have hrow2 := heap_setCell_row HROW.out k (.int .u8 (bits BinOp.xor .u8 x 165))
      refine ⟨⟨k + 1, by omega, by go_num, ⟨_, hrow2, by simpa using hsz, ?_⟩, HT.out.setCell (by simp) _⟩, by simp [intOf]; omega⟩
      intro j hj
      by_cases e : j = k
      · subst e
        exact ⟨_, by rw [Array.getElem?_setIfInBounds_self_of_lt (by omega)]⟩
      · rw [Array.getElem?_setIfInBounds_ne (by omega)]
        exact HBB.out j hj
    · go_wp2
      go_end0
      exact ⟨rfl, ⟨cs', hrow, hsz, hb⟩, ht⟩

theorem blot_own {base m : Nat} {v : Value} (h : OwnB w base v m) (hm : m ≤ 1099511627776) :
    Calls Tryz.prog 24 #[v] w fun e w' => e = .returned (.tuple #[]) ∧ OwnB w' base v m ∧ Touch v.ownBlock.toList w w' := by
  obtain ⟨xs, ⟨h1, h2⟩, hx⟩ := h
  rcases h2 with ⟨rfl, rfl⟩ | ⟨g, cap, cur, rfl, hb, hg, hc, hcm, hcs, ht⟩
  · exact blot_nil.mono fun e w' ⟨e1, e2⟩ => ⟨e1, by rw [e2]; exact ⟨xs, ⟨h1, .inl ⟨rfl, rfl⟩⟩, hx⟩, by rw [e2]; exact Touch.refl _ _⟩
  · refine (blot_row hg (by omega) (fun j hj => ?_) hm).mono fun e w' ⟨e1, ⟨cs', hg', hs', hb'⟩, ht'⟩ => ⟨e1, ⟨cs'.toList.take (m * 1), ⟨by simp; omega, .inr ⟨g, cap, cs', rfl, hb, hg', hc, hcm, by omega, rfl⟩⟩, ?_⟩, ht'⟩
    · have hj2 : xs[j]? = some (xs[j]'(by omega)) := List.getElem?_eq_getElem (by omega)
      obtain ⟨x, hxx⟩ := hx _ (List.getElem_mem (by omega : j < xs.length))
      refine ⟨x, ?_⟩
      rw [← hxx, ← hj2, ← ht, List.getElem?_take_of_lt (by omega)]
      simp
    · intro u hu
      obtain ⟨j, hj, rfl⟩ := List.getElem_of_mem hu
      have hjm : j < m := by simp at hj; omega
      obtain ⟨x, hxx⟩ := hb' j hjm
      refine ⟨x, ?_⟩
      rw [List.getElem_take, Array.getElem_toList]
      exact (Array.getElem?_eq_some_iff.1 hxx).2

/-- 'append(b, make([]byte, 100)...)' of a slice that is full. -/
theorem run_append_100 (ty : TypeId) {base m : Nat} {sa : Option Addr} (h : OwnB w base (.slice sa m m) m) (hm : m ≤ 65536) :
    ∃ v' w', (Builtin.append_ #[31, 3] ty #[.slice sa m m, .int .i64 100]).run Tryz.prog w = .ok v' w' ∧ OwnB w' w.heap.size v' (m + 100) ∧ Below w.heap.size w w' := by
  obtain ⟨i, hi, hz0, hz1, hz2⟩ := info_parts Tryz.info5
  obtain ⟨xs, ho, hx⟩ := h
  have hold : (Builtin.firstCells i.size m (.slice sa m m)).run Tryz.prog w.drew = .ok xs.toArray w.drew := by
    rw [hz1]
    rcases ho.2 with ⟨e1, rfl⟩ | ⟨g, cap, cur, e1, _, hg, _⟩
    · have : xs = [] := List.eq_nil_of_length_eq_zero (by simpa using ho.1)
      subst this
      simp only [Value.slice.injEq] at e1
      obtain ⟨rfl, _⟩ := e1
      exact run_firstCells_none _ _ _ _ _
    · simp only [Value.slice.injEq] at e1
      obtain ⟨rfl, _, _⟩ := e1
      exact run_firstCells_some (P := Tryz.prog) w.drew 1 m ⟨g, 0, none⟩ m m xs ho.1 (fun j v hv => by simpa using ho.cells (g := g) rfl j v hv)
  have hr := Lib.run_append_grow_zeros (P := Tryz.prog) w 31 3 ty 5 i (.int .u8 0) .i64 .i64 Tryz.underlying31 Tryz.underlying3 hi hz0 sa m m xs hold 100 (by omega) (by omega) (by omega) (by omega) (by omega) (by have := nextslicecap_le (need := m + 100) (old := m) (by omega); rw [hz2]; omega)
  refine ⟨_, _, hr, ⟨xs ++ List.replicate 100 (.int .u8 0), ⟨by simp [ho.1], .inr ⟨w.heap.size, _, _, rfl, Nat.le_refl _, heap_alloc_new w.drew _, grownCap_ge _ _ _ _, grownCap_le_maxLen _ _ _ _ (by unfold maxLen; omega), ?_, ?_⟩⟩, ?_⟩, ?_⟩
  · have := grownCap_ge w (m + 100) m 5
    have h1 := ho.1
    simp only [Array.size_append, List.size_toArray, size_zeroCells]
    simp [Value.cells]
    omega
  · have hz : (Builtin.zeroCells (Value.cells (.int .u8 0)) 100).toList = List.replicate 100 (.int .u8 0) := by
      apply List.ext_getElem
      · simp [Builtin.zeroCells, Value.cells]
      · intro j h1 h2
        rw [List.getElem_replicate]
        simp [Builtin.zeroCells, Value.cells, Nat.mod_one]
    have h1 := ho.1
    simp only [Array.toList_append, hz, List.append_assoc]
    rw [← List.append_assoc, List.take_left' (by simp [h1])]
  · intro u hu
    simp only [List.mem_append, List.mem_replicate] at hu
    rcases hu with hu | ⟨_, rfl⟩
    · exact hx u hu
    · exact ⟨0, rfl⟩
  · exact (Below.refl _ w).drew.alloc (Nat.le_refl _) _
end
end Go.Proofs.YtcpncfngadablaaGreatDoor
