import Derived.Test.YtcpncfngadablaaDoorZ06
import Derived.Test.YtcpncfngadablaaDoorZ08
import Derived.Lib.AppendZerosOnto
namespace Go.Proofs.YtcpncfngadablaaDoor
open Go.RowKit Go.Deep

section
variable {w w' : World} {E : Nat → Addr} {lo p mf mt : Nat} {D : DiskC}

/-- an operation of a script, as a value. -/
def opV (k : Int) (s : ByteArray) (N bit : Int) (sa : Option Addr) (n c : Nat) : Value := .agg #[.int .i64 k, .string s, .int .i64 N, .int .i64 bit, .slice sa n c]

theorem wpList_append_copy (w : World) {ops : Array Oper} {rest : List Oper} {o : Oper} {a : Act} {Q : Exit → Act → World → Prop} (hgd : o.guard = none) (x : Operand)
    (hop : o.op = Op.call { callee := Callee.builtin Builtin.append, args := #[.const (.slice none 0 0), x], argTypes := #[31, 31] })
    (sa : Option Addr) (n c : Nat) (d : List UInt8) (hx : a.eval x = .slice sa n c) (h : Shows w sa n c d) (hn : n ≤ 1099511627776)
    (hK : ∀ v' w', w'.ownsRow w.heap.size 5 1 v' n (Lib.byteCells d) → Below w.heap.size w w' → wpList Tryd.prog ops Q rest (a.put o.dst v') w') : wpList Tryd.prog ops Q (o :: rest) a w := by
  refine wpList_plain hgd fun K' hK' => ?_
  obtain ⟨v', w', hrun, ho, hb⟩ := run_append_bytes o.type w h hn
  have hs : a.eval (.const (.slice none 0 0)) = .slice none 0 0 := rfl
  unfold Oper.wp
  simp [execOp, hop, resolve, invoke, builtin, hs, hx, hrun, Result.andThen]
  exact hK' _ _ (hK v' w' ho hb)

theorem Shows.touch {sa : Option Addr} {n c : Nat} {d : List UInt8} {F : List Nat} (h : Shows w sa n c d) (ht : Touch F w w') (hF : ∀ a, sa = some a → a.block ∉ F) : Shows w' sa n c d :=
  ⟨h.len, h.cap, fun h0 => by
    obtain ⟨a, e, hl, hc⟩ := h.at_ h0
    exact ⟨a, e, by have := ht.size; omega, fun j v hv => by
      have h1 := hc j v hv
      have hb : (a.add j).block = a.block := by unfold Addr.add; split <;> rfl
      rw [ht.cell (by rw [hb]; exact hl) (by rw [hb]; exact hF a e)]
      exact h1⟩, h.nil⟩

theorem Shows.take {sa : Option Addr} {n c k : Nat} {d : List UInt8} (h : Shows w sa n c d) (hk : k ≤ n) (h0 : 0 < k) : Shows w sa k c (d.take k) := by
  have hl := h.len
  have hc := h.cap
  refine ⟨by rw [List.length_take]; omega, by omega, fun _ => ?_, fun e => by have := h.nil e; omega⟩
  obtain ⟨a, e, ha, hcell⟩ := h.at_ (by omega)
  refine ⟨a, e, ha, fun j v hv => hcell j v ?_⟩
  have : Lib.byteCells d = Lib.byteCells (d.take k) ++ Lib.byteCells (d.drop k) := by rw [← Lib.byteCells_append, List.take_append_drop]
  rw [this, List.getElem?_append_left (List.getElem?_eq_some_iff.1 hv).1]
  exact hv

def lenV : Value → Nat | .slice _ n _ => n | _ => 0

set_option maxRecDepth 100000 in
set_option maxHeartbeats 400000 in
theorem data_any (k : Int) (s : ByteArray) (N bit : Int) {sa : Option Addr} {n c B : Nat} {d : List UInt8} (h : Shows w sa n c d) (hn : n ≤ 1073741824) (hB1 : 64 ≤ B) (hB : B ≤ 65536) :
    Calls Tryd.prog 20 #[opV k s N bit sa n c, .int .i64 B] w fun e w' => ∃ sa' c', e = .returned (.slice sa' (dataA N B d).length c') ∧ Shows w' sa' (dataA N B d).length c' (dataA N B d) ∧ Touch [] w w' ∧ ∀ a, sa' = some a → w.heap.size ≤ a.block := by
  have HS := hid h
  clear h
  have hz : (w.alloc (Obj.cells #[.int .i64 k, .string s, .int .i64 N, .int .i64 bit, .slice sa n c] 40 (0, 0))).heap.size = w.heap.size + 1 := by simp
  obtain ⟨wb, hwb⟩ : ∃ wb, wb = w.alloc (Obj.cells #[.int .i64 k, .string s, .int .i64 N, .int .i64 bit, .slice sa n c] 40 (0, 0)) := ⟨_, rfl⟩
  have hrow : wb.heap[w.heap.size]? = some (.cells #[.int .i64 k, .string s, .int .i64 N, .int .i64 bit, .slice sa n c] 40 (0, 0)) := by rw [hwb]; exact heap_alloc_new _ _
  have HTB : Touch [] w wb := by rw [hwb]; exact (Touch.refl [] w).alloc _
  have c2 := cell_row hrow 2
  have c4 := cell_row hrow 4
  simp at c2 c4
  have HS' := hid (HS.out.touch HTB (by simp))
  have hl := HS.out.len
  rw [← hwb] at hz
  have HWB := hid hwb
  have HROW := hid hrow
  clear hwb hrow
  unfold opV
  go_enter Tryd.func20, Tryd.ntmps20
  go_wp2_with (first
    | (rw [← HWB.out])
    | (at_builtin; refine wpList_append_copy _ rfl _ rfl sa n c d rfl HS'.out (by omega) ?_; intro v1 w1 ho hb; have HO := hid ho; have HB1 := hid hb; have d2 := (hb.cell (p := ⟨w.heap.size, 2, none⟩) (by simp; omega)).trans c2; have HZ := hid hb.size; clear ho hb c4))
  · have hN : N = 0 := by first | assumption | (have := ‹(N == 0) = true›; simpa using this)
    obtain ⟨sa', c', rfl, hs, hge⟩ := shows_own HO.out
    have HSH := hid hs
    have HGE := hid hge
    clear hs hge
    go_wp2
    go_ret
    have e : dataA N B d = d := by unfold dataA; rw [if_pos hN]
    rw [e, HSH.out.len]
    exact ⟨sa', c', rfl, HSH.out, HTB.trans (Touch.of_below (F := []) HB1.out (Nat.le_refl _)) (by simp), fun a ha => by have := HGE.out a ha; omega⟩
  · have hN : N ≠ 0 := by first | assumption | (have := ‹(N == 0) = false›; simpa using this) | (have := ‹¬ (N == 0) = true›; simpa using this)
    have HN := hid hN
    have hNb : (N == 0) = false := by simpa using hN
    rw [hNb]
    clear hNb
    have HTB' := hid HTB
    clear hN HTB
    go_loopw [5] (fun v wr => ∃ m, n ≤ m ∧ (m ≤ B ∨ m = n) ∧ wr.ownsRow wb.heap.size 5 1 v m (Lib.byteCells (d ++ List.replicate (m - n) 0)) ∧ Below wb.heap.size wb wr) (fun v _ => B - lenV v)
    case atStart => exact ⟨n, Nat.le_refl _, .inr rfl, by simpa using HO.out, HB1.out⟩
    case round =>
      obtain ⟨m, hm1, hm2, ho, hb⟩ := hrel
      obtain ⟨sa', c', rfl, hs, hge⟩ := shows_own ho
      have HO2 := hid ho
      have HB2 := hid hb
      have HSH := hid hs
      have hsz := hb.size
      have hcap := hs.cap
      have HGE := hid hge
      clear ho hb hs hge
      by_cases hlt : m < B
      · have h1 : ((m : Int) < (B : Int)) := by omega
        go_wp2_with (first
          | (at_builtin; refine wpList_append_zero _ rfl _ _ rfl wb.heap.size _ m (d ++ List.replicate (m - n) 0) ⟨wr.heap.size, 0, none⟩ rfl rfl (HO2.out.alloc _) (cell_row (heap_alloc_new wr _) 0) (by omega) (by simp; omega) ?_; intro v3 w3 r1 r2; have H1 := hid r1; have H2 := hid r2; clear r1 r2))
        have hr : w3.ownsRow wb.heap.size 5 1 v3 (m + 1) (Lib.byteCells (d ++ List.replicate (m + 1 - n) 0)) := by
          have h := H1.out
          rw [List.append_assoc, ← List.replicate_succ', show m - n + 1 = m + 1 - n by omega] at h
          exact h
        have hbe : Below wb.heap.size wb w3 := (HB2.out.trans (((Below.refl _ wr).alloc (by omega) _))).trans H2.out
        have HR := hid hr
        have HBE := hid hbe
        clear hr hbe
        go_roundw
        case rel => first | exact ⟨m + 1, by omega, by omega, HR.out, HBE.out⟩ | ((repeat apply Exists.intro); exact ⟨⟨m + 1, by omega, by omega, HR.out, HBE.out⟩, rfl⟩)
        case measure =>
          obtain ⟨_, _, e3, _⟩ := shows_own HR.out
          rw [e3]
          simp [lenV]
          omega
      · have h1 : ¬ ((m : Int) < (B : Int)) := by omega
        have hmx : B ≤ c' := by omega
        have HM := hid hmx
        go_wp2
        go_ret
        have hda : dataA N B d = (d ++ List.replicate (m - n) 0).take B := by
          unfold dataA
          rw [if_neg HN.out]
          have hl2 := HS.out.len
          rcases hm2 with h | h
          · have : m = B := by omega
            subst this
            rw [List.take_of_length_le (l := d) (by omega), List.take_of_length_le (by simp; omega), hl2]
          · subst h
            rw [show B - d.length = 0 by omega]
            simp
        have hlen : ((d ++ List.replicate (m - n) 0).take B).length = B := by
          have := HSH.out.len
          rw [List.length_take]
          omega
        rw [hda, hlen]
        refine ⟨sa', c', rfl, HSH.out.take (by omega) (by omega), HTB'.out.trans (Touch.of_below (F := []) HB2.out (Nat.le_refl _)) (by simp), fun a ha => by have := HGE.out a ha; omega⟩

/-! ### blot -/
/-- a row of bytes of one's own, whatever they are. -/
def OwnB (w : World) (base : Nat) (v : Value) (m : Nat) : Prop := ∃ xs, w.ownsRow base 5 1 v m xs ∧ ∀ u ∈ xs, ∃ x : Int, u = .int .u8 x

theorem OwnB.of {base n : Nat} {v : Value} {d : List UInt8} (h : w.ownsRow base 5 1 v n (Lib.byteCells d)) : OwnB w base v n :=
  ⟨_, h, fun u hu => by
    simp only [Lib.byteCells, List.mem_map] at hu
    obtain ⟨x, _, rfl⟩ := hu
    exact ⟨_, rfl⟩⟩

theorem OwnB.bytes {base g : Nat} {d : List UInt8} (h : BytesAt w g d) (hb : base ≤ g) (hd : d.length ≤ 1099511627776) : OwnB w base (sliceV g d.length) d.length :=
  OwnB.of (d := d) ⟨by simp [Lib.byteCells_length], .inr ⟨g, d.length, _, rfl, hb, h, Nat.le_refl _, by unfold maxLen; omega, by simp [Lib.byteCells_length], by rw [List.take_of_length_le (by simp [Lib.byteCells_length])]⟩⟩

set_option maxRecDepth 100000 in
set_option maxHeartbeats 400000 in
theorem blot_nil : Calls Tryd.prog 22 #[.slice none 0 0] w fun e w' => e = .returned (.tuple #[]) ∧ w' = w := by
  go_enter Tryd.func22, Tryd.ntmps22
  go_wp2
  refine wp_loop_rounds 1 ?_
  rw [rounds_succ]
  go_wp2
  go_end0
  exact ⟨rfl, rfl⟩

set_option maxRecDepth 100000 in
set_option maxHeartbeats 400000 in
theorem blot_row {g m c : Nat} {cs : Array Value} (h : w.heap[g]? = some (.cells cs 5 (0, 0))) (hm : m ≤ cs.size) (hb : ∀ j, j < m → ∃ x : Int, cs[j]? = some (.int .u8 x)) (hm2 : m ≤ 1099511627776) :
    Calls Tryd.prog 22 #[.slice (some ⟨g, 0, none⟩) m c] w fun e w' => e = .returned (.tuple #[]) ∧ (∃ cs' : Array Value, w'.heap[g]? = some (.cells cs' 5 (0, 0)) ∧ cs'.size = cs.size ∧ ∀ j, j < m → ∃ x : Int, cs'[j]? = some (.int .u8 x)) ∧ Touch [g] w w' := by
  have H := hid h
  have HB := hid hb
  clear h hb
  go_enter Tryd.func22, Tryd.ntmps22
  go_wp2
  go_loopw [2] (fun i wr => ∃ k : Nat, k ≤ m ∧ i = .int .i64 k ∧ (∃ cs' : Array Value, wr.heap[g]? = some (.cells cs' 5 (0, 0)) ∧ cs'.size = cs.size ∧ ∀ j, j < m → ∃ x : Int, cs'[j]? = some (.int .u8 x)) ∧ Touch [g] w wr) (fun i _ => m - (intOf i).toNat)
  case atStart => exact ⟨0, Nat.zero_le _, rfl, ⟨cs, H.out, rfl, HB.out⟩, Touch.refl _ _⟩
  case round =>
    obtain ⟨k, hk, rfl, ⟨cs', hrow, hsz, hb⟩, ht⟩ := hrel
    by_cases hlt : k < m
    · obtain ⟨x, hx⟩ := hb k hlt
      have c0 := cell_row hrow k
      rw [hx] at c0
      have f0 := unfrozen_row hrow k
      have HROW := hid hrow
      have HBB := hid hb
      have HT := hid ht
      clear hrow hb ht hx
      go_wp2
      have hrow2 := heap_setCell_row HROW.out k (.int .u8 (bits BinOp.xor .u8 x 165))
      refine ⟨⟨k + 1, by omega, by go_num, ⟨_, hrow2, by simpa using hsz, ?_⟩, HT.out.setCell (by simp) _⟩, by simp [intOf]; omega⟩
      intro j hj
      by_cases e : j = k
      · subst e
        exact ⟨_, by rw [Array.getElem?_setIfInBounds_self_of_lt (by omega)]⟩
      · rw [Array.getElem?_setIfInBounds_ne (by omega)]
        exact HBB.out j hj
    · go_wp2
      go_end0
      exact ⟨rfl, ⟨cs', hrow, hsz, hb⟩, ht⟩

theorem blot_own {base m : Nat} {v : Value} (h : OwnB w base v m) (hm : m ≤ 1099511627776) :
    Calls Tryd.prog 22 #[v] w fun e w' => e = .returned (.tuple #[]) ∧ OwnB w' base v m ∧ Touch v.ownBlock.toList w w' := by
  obtain ⟨xs, ⟨h1, h2⟩, hx⟩ := h
  rcases h2 with ⟨rfl, rfl⟩ | ⟨g, cap, cur, rfl, hb, hg, hc, hcm, hcs, ht⟩
  · exact blot_nil.mono fun e w' ⟨e1, e2⟩ => ⟨e1, by rw [e2]; exact ⟨xs, ⟨h1, .inl ⟨rfl, rfl⟩⟩, hx⟩, by rw [e2]; exact Touch.refl _ _⟩
  · refine (blot_row hg (by omega) (fun j hj => ?_) hm).mono fun e w' ⟨e1, ⟨cs', hg', hs', hb'⟩, ht'⟩ => ⟨e1, ⟨cs'.toList.take (m * 1), ⟨by simp; omega, .inr ⟨g, cap, cs', rfl, hb, hg', hc, hcm, by omega, rfl⟩⟩, ?_⟩, ht'⟩
    · have hj2 : xs[j]? = some (xs[j]'(by omega)) := List.getElem?_eq_getElem (by omega)
      obtain ⟨x, hxx⟩ := hx _ (List.getElem_mem (by omega : j < xs.length))
      refine ⟨x, ?_⟩
      rw [← hxx, ← hj2, ← ht, List.getElem?_take_of_lt (by omega)]
      simp
    · intro u hu
      obtain ⟨j, hj, rfl⟩ := List.getElem_of_mem hu
      have hjm : j < m := by simp at hj; omega
      obtain ⟨x, hxx⟩ := hb' j hjm
      refine ⟨x, ?_⟩
      rw [List.getElem_take, Array.getElem_toList]
      exact (Array.getElem?_eq_some_iff.1 hxx).2

/-- 'append(b, make([]byte, 100)...)' of a slice that is full. -/
theorem run_append_100 (ty : TypeId) {base m : Nat} {sa : Option Addr} (h : OwnB w base (.slice sa m m) m) (hm : m ≤ 65536) :
    ∃ v' w', (Builtin.append_ #[31, 3] ty #[.slice sa m m, .int .i64 100]).run Tryd.prog w = .ok v' w' ∧ OwnB w' w.heap.size v' (m + 100) ∧ Below w.heap.size w w' := by
  obtain ⟨i, hi, hz0, hz1, hz2⟩ := info_parts Tryd.info5
  obtain ⟨xs, ho, hx⟩ := h
  have hold : (Builtin.firstCells i.size m (.slice sa m m)).run Tryd.prog w.drew = .ok xs.toArray w.drew := by
    rw [hz1]
    rcases ho.2 with ⟨e1, rfl⟩ | ⟨g, cap, cur, e1, _, hg, _⟩
    · have : xs = [] := List.eq_nil_of_length_eq_zero (by simpa using ho.1)
      subst this
      simp only [Value.slice.injEq] at e1
      obtain ⟨rfl, _⟩ := e1
      exact run_firstCells_none _ _ _ _ _
    · simp only [Value.slice.injEq] at e1
      obtain ⟨rfl, _, _⟩ := e1
      exact run_firstCells_some (P := Tryd.prog) w.drew 1 m ⟨g, 0, none⟩ m m xs ho.1 (fun j v hv => by simpa using ho.cells (g := g) rfl j v hv)
  have hr := Lib.run_append_grow_zeros (P := Tryd.prog) w 31 3 ty 5 i (.int .u8 0) .i64 .i64 Tryd.underlying31 Tryd.underlying3 hi hz0 sa m m xs hold 100 (by omega) (by omega) (by omega) (by omega) (by omega) (by have := nextslicecap_le (need := m + 100) (old := m) (by omega); rw [hz2]; omega)
  refine ⟨_, _, hr, ⟨xs ++ List.replicate 100 (.int .u8 0), ⟨by simp [ho.1], .inr ⟨w.heap.size, _, _, rfl, Nat.le_refl _, heap_alloc_new w.drew _, grownCap_ge _ _ _ _, grownCap_le_maxLen _ _ _ _ (by unfold maxLen; omega), ?_, ?_⟩⟩, ?_⟩, ?_⟩
  · have := grownCap_ge w (m + 100) m 5
    have h1 := ho.1
    simp only [Array.size_append, List.size_toArray, size_zeroCells]
    simp [Value.cells]
    omega
  · have hz : (Builtin.zeroCells (Value.cells (.int .u8 0)) 100).toList = List.replicate 100 (.int .u8 0) := by
      apply List.ext_getElem
      · simp [Builtin.zeroCells, Value.cells]
      · intro j h1 h2
        rw [List.getElem_replicate]
        simp [Builtin.zeroCells, Value.cells, Nat.mod_one]
    have h1 := ho.1
    simp only [Array.toList_append, hz, List.append_assoc]
    rw [← List.append_assoc, List.take_left' (by simp [h1])]
  · intro u hu
    simp only [List.mem_append, List.mem_replicate] at hu
    rcases hu with hu | ⟨_, rfl⟩
    · exact hx u hu
    · exact ⟨0, rfl⟩
  · exact (Below.refl _ w).drew.alloc (Nat.le_refl _) _
end
end Go.Proofs.YtcpncfngadablaaDoor
