import Derived.Test.YtcpncfngadablaaDoorZ05
import Derived.Test.YtcpncfngadablaaDoorIter
import Derived.Test.YtcpncfngadablaaDoorZ06
import Derived.Deep.RegionLaw
import Derived.Deep.LoopGhost
namespace Go.Proofs.YtcpncfngadablaaDoor
open Go.RowKit Go.Deep

section
variable {w w' : World} {E : Nat → Addr} {lo p mf mt : Nat} {D : DiskC}

/-! ### Delete -/
def deleteA (s : ByteArray) (A : PubA) : Int × PubA :=
  if nameB s then
    match findA A.files (nm s) with
    | none => (12, A)
    | some f => (0, { A with files := dropA (nm s) A.files, c := { A.c with calls := A.c.calls + 1, used := A.c.used - f.blocks.length, most := max A.c.most (A.c.used - f.blocks.length) } })
  else (11, A)

set_option maxHeartbeats 400000 in
theorem Delete_of {i : Option Nat} {s : ByteArray} {Post : World → Prop} (h : Calls Tryd.prog 46 #[ptr p, .string s] w fun e w' => e = .returned (i.elim .nilIface (errV E)) ∧ Post w') {v : Int}
    (ha : ∀ w1, Post w1 → Calls Tryd.prog 41 #[ptr p, i.elim .nilIface (errV E)] w1 fun e w' => e = .returned (.int .i64 v) ∧ w' = w1) :
    Calls Tryd.prog 25 #[ptr p, .string s] w fun e w' => e = .returned (.int .i64 v) ∧ Post w' := by
  have H := hid h
  have HA := hid ha
  clear h ha
  go_enter Tryd.func25, Tryd.ntmps25
  go_wp2_with (first | (go_at_call 46; refine H.out.mono ?_; rintro e w1 ⟨rfl, hp⟩) | (go_at_call 41; refine (HA.out _ hp).mono ?_; rintro e w2 ⟨rfl, rfl⟩))
  go_ret
  exact ⟨rfl, hp⟩

theorem foot_drop {k : List UInt8} {D' : DiskC} (he : D'.ents = dropE k D.ents) : ∀ b ∈ D'.foot p mf mt, b ∈ D.foot p mf mt ∨ w.heap.size ≤ b := by
  intro b hb
  simp only [DiskC.foot, List.mem_cons, List.mem_flatMap, he] at hb ⊢
  rcases hb with h | h | h | ⟨x, hx, h⟩
  · exact .inl (.inl h)
  · exact .inl (.inr (.inl h))
  · exact .inl (.inr (.inr (.inl h)))
  · exact .inl (.inr (.inr (.inr ⟨x, (List.mem_filter.1 hx).1, h⟩)))

theorem Delete_any (V : Env w lo E) (R : Rep w lo p mf mt D) (hT : D.T = .map []) (ho : D.on = true) (hS : Small D.pub) (hcc : D.c.calls + 1 ≤ 1099511627776) (s : ByteArray) :
    Calls Tryd.prog 25 #[ptr p, .string s] w fun e w' => e = .returned (.int .i64 (deleteA s D.pub).1) ∧ Did w w' lo p mf mt D (deleteA s D.pub).2 := by
  unfold deleteA
  have hfp : findA D.pub.files (nm s) = (findE D.ents (nm s)).map Ent.file := find_pub _ _
  by_cases hn : nameB s = true
  · rw [if_pos hn, hfp]
    cases hf : findE D.ents (nm s) with
    | none =>
      have h := Delete_of (i := some 4) (drop_err s 4 fun o1 o2 => find_none ((V.alloc o1).alloc o2).sents ((R.alloc o1).alloc o2) s ho hn hf) (v := 12) fun w1 ht => answer_err (V.touch ht (by simp)).sents 4 (by omega) (by omega) (by omega)
      exact h.mono fun e w1 ⟨h1, h2⟩ => ⟨h1, Did.same R hT h2⟩
    | some e0 =>
      have hc := drop_ok R s ho hn hf (a := 0) (k := 0) (b := 0) (by rw [hT]; exact no_trouble _) (by decide) (by decide) hS hcc
      have hF : ∀ b ∈ [p, mf, mt], b ∈ D.foot p mf mt := fun b hb => by
        simp at hb
        rcases hb with rfl | rfl | rfl <;> simp [DiskC.foot]
      have h := Delete_of (E := E) (i := none) hc (v := 0) fun w1 h => answer_nil (V.touch h.2 fun b hb => R.base b (hF b hb)).sents
      refine h.mono fun e w1 ⟨h1, hR, ht⟩ => ⟨h1, _, hR, ?_, ?_, ht.mono hF, foot_drop rfl⟩
      · simp only [DiskC.pub, DiskC.numbered, drop_pub]
        rfl
      · show D.T.del _ = _
        rw [hT]
        rfl
  · rw [if_neg hn]
    have h := Delete_of (i := some 3) (drop_err s 3 fun o1 o2 => find_bad ((V.alloc o1).alloc o2).sents ((R.alloc o1).alloc o2) s ho (by simpa using hn)) (v := 11) fun w1 ht => answer_err (V.touch ht (by simp)).sents 3 (by omega) (by omega) (by omega)
    exact h.mono fun e w1 ⟨h1, h2⟩ => ⟨h1, Did.same R hT h2⟩
end

/-! ### append to a file's blocks -/
theorem Tryd.info31 : (Tryd.prog.info? 31).map (fun i => (i.zero, i.size, i.bytes)) = some (some (.slice none 0 0), 1, 24) := by kernel_rfl

theorem run_append_fresh (w : World) (ty : TypeId) (v : Value) (n : Nat) (xs : List Value) (hown : w.ownsRow 0 31 1 v n xs) (ad : Addr) (u : Value) (hu : w.cell? ad = some u) (h1 : u.oneCell' = true) (hn : n ≤ 1099511627776) :
    ∃ v' w', (Builtin.append_ #[73, 73] ty #[v, .slice (some ad) 1 1]).run Tryd.prog w = .ok v' w' ∧ w'.ownsRow 0 31 1 v' (n + 1) (xs ++ [u]) ∧ w.grownBy w' v.ownBlock ∧ (v'.ownBlock = v.ownBlock ∨ v'.ownBlock = some w.heap.size) ∧ v'.ownBlock ≠ none := by
  obtain ⟨i, hi, hz0, hz1, hz2⟩ := info_parts Tryd.info31
  have hnews : ∀ j x, [u][j]? = some x → w.cell? (ad.add j) = some x := by
    intro j x hx
    cases j with
    | zero => simp at hx; subst hx; simpa [Addr.add] using hu
    | succ j => simp at hx
  have h1' : ∀ x ∈ [u], x.oneCell' = true := by simpa using h1
  obtain ⟨v', w', hr, ho, hg, hnil⟩ := run_append_own (P := Tryd.prog) w 0 73 ty 31 i (.slice none 0 0) 1 24 Tryd.underlying73 hi hz0 hz1 hz2 rfl (by decide) v n xs hown ad 1 1 [u] rfl hnews h1' (by unfold maxLen; omega) (by omega) (Nat.zero_le _)
  refine ⟨v', w', hr, ho, hg, ?_, ?_⟩
  · rcases hown.2 with ⟨rfl, rfl⟩ | ⟨g, cap, cur, rfl, hbg, hgg, hnc, hcm, hcs, htake⟩
    · have hx : xs = [] := List.eq_nil_of_length_eq_zero (by simpa using hown.1)
      subst hx
      have hr' := run_append_nil (P := Tryd.prog) w 73 ty 31 i (.slice none 0 0) Tryd.underlying73 hi hz0 ad 1 1 [u] (by rw [hz1]; rfl) hnews (by omega) (by omega) (by rw [hz2]; omega)
      rw [hr] at hr'
      simp only [Result.ok.injEq] at hr'
      right
      rw [hr'.1]
      rfl
    · by_cases hroom : n + 1 ≤ cap
      · have hr' := run_append_room (P := Tryd.prog) w 73 ty 31 i Tryd.underlying73 hi g n cap cur hgg ad 1 1 [u] (by rw [hz1]; rfl) hnews h1' hroom (by rw [hz1, hcs]; simp; omega)
        rw [hr] at hr'
        simp only [Result.ok.injEq] at hr'
        left
        rw [hr'.1]
        rfl
      · have hr' := run_append_grow (P := Tryd.prog) w 73 ty 31 i (.slice none 0 0) Tryd.underlying73 hi hz0 ⟨g, 0, none⟩ n cap xs (by rw [hz1]; exact hown.1) (hown.cells (g := g) rfl) ad 1 1 [u] (by rw [hz1]; rfl) hnews (by omega) (by omega) (by rw [hz2]; exact growslice_fits (by omega) (by omega))
        rw [hr] at hr'
        simp only [Result.ok.injEq] at hr'
        right
        rw [hr'.1]
        rfl
  · rcases ho.2 with ⟨h, h2⟩ | ⟨g, cap, cur, h, _⟩
    · omega
    · rw [h]; simp [Value.ownBlock]

/-- that append, as one step of a region that draws. -/
theorem step_append_fresh {ops : Array Oper} {o : Oper} {a : Act} {w : World} {K : Act → World → Prop} {Q : Exit → Act → World → Prop} {X : Prop}
    (hg : o.guard = none) (s x : Operand) (hop : o.op = Op.call { callee := Callee.builtin Builtin.append, args := #[s, x], argTypes := #[73, 73] })
    (v : Value) (n : Nat) (xs : List Value) (ad : Addr) (u : Value) (hs : a.eval s = v) (hx : a.eval x = .slice (some ad) 1 1) (hown : w.ownsRow 0 31 1 v n xs) (hu : w.cell? ad = some u) (h1 : u.oneCell' = true) (hn : n ≤ 1099511627776)
    (hK : ∀ g cap w', w'.ownsRow 0 31 1 (.slice (some ⟨g, 0, none⟩) (n + 1) cap) (n + 1) (xs ++ [u]) → w.grownBy w' v.ownBlock → (some g = v.ownBlock ∨ g = w.heap.size) → K (a.put o.dst (.slice (some ⟨g, 0, none⟩) (n + 1) cap)) w') :
    if Region.wanted o (yielded ops a.tmps) = true then Oper.wp Tryd.prog o a w K Q else X := by
  have hw : Region.wanted o (yielded ops a.tmps) = true := by simp [Region.wanted, hg]
  rw [if_pos hw]
  obtain ⟨v', w', hrun, r1, r2, r3, r4⟩ := run_append_fresh w o.type v n xs hown ad u hu h1 hn
  have hv : ∃ g cap, v' = .slice (some ⟨g, 0, none⟩) (n + 1) cap := by
    rcases r1.2 with ⟨_, h⟩ | ⟨g, cap, _, h, _⟩
    · omega
    · exact ⟨g, cap, h⟩
  obtain ⟨g, cap, rfl⟩ := hv
  unfold Oper.wp
  simp [execOp, hop, resolve, invoke, builtin, hs, hx, hrun, Result.andThen]
  exact hK g cap w' r1 r2 (by rcases r3 with h | h; exact .inl h; right; simpa [Value.ownBlock] using h)

theorem ownsRow_touch {w w' : World} {F : List Nat} {v : Value} {n : Nat} {xs : List Value} (h : w.ownsRow 0 31 1 v n xs) (ht : Touch F w w') (hF : ∀ x, v.ownBlock = some x → x ∉ F) : w'.ownsRow 0 31 1 v n xs := by
  refine ⟨h.1, ?_⟩
  rcases h.2 with hn | ⟨g, cap, cur, rfl, hb, hg, rest⟩
  · exact .inl hn
  · exact .inr ⟨g, cap, cur, rfl, hb, (ht.block g (lt_of_block hg) (hF g rfl)).trans hg, rest⟩
end Go.Proofs.YtcpncfngadablaaDoor
namespace Go.Proofs.YtcpncfngadablaaDoor
open Go.RowKit Go.Deep

theorem before_lt : ∀ a b : List UInt8, bytesBefore a b = true → a < b
  | [], [], h => by simp [bytesBefore] at h
  | [], _ :: _, _ => by simp
  | _ :: _, [], h => by simp [bytesBefore] at h
  | a :: r, b :: s, h => by
    simp only [bytesBefore, Bool.or_eq_true, decide_eq_true_eq, Bool.and_eq_true, beq_iff_eq] at h
    rw [List.cons_lt_cons_iff]
    rcases h with h | ⟨rfl, h⟩
    · exact .inl h
    · exact .inr ⟨rfl, before_lt r s h⟩

section
variable {w w' : World} {E : Nat → Addr} {lo p mf mt : Nat} {D : DiskC}

theorem Rep.rising (R : Rep w lo p mf mt D) : D.ents.Pairwise fun a b => bytesBefore a.name b.name = true := by
  obtain ⟨es, clock, hb, F, hs, hD⟩ := R.files
  simp only [mapOf, DataW.map.injEq] at hD
  have hu := R.uniq
  have hk : ChangeMaps.StrKeys (D.ents.map Ent.key) := fun x hx => by
    obtain ⟨e, _, rfl⟩ := List.mem_map.1 hx
    exact ⟨_, rfl⟩
  have hpw : (D.ents.map Ent.key).Pairwise fun p q => p.1 ≠ q.1 := by
    rw [List.pairwise_map]
    exact hu.imp fun h e => h (by simpa [Ent.key] using e)
  have hperm := WideShapes.sorted_perm (es.toList.map (WideElems.rg Tryd.prog 9 ptrElem))
  rw [← hD] at hperm
  have hk' := ChangeMaps.strKeys_perm hperm hk
  have hpw' := (hperm.pairwise_iff (fun h => Ne.symm h)).1 hpw
  have h := ChangeMaps.sorted_sorted _ hk' hpw'
  rw [← hD, List.pairwise_map] at h
  exact h

theorem Rep.names_sorted (R : Rep w lo p mf mt D) {ss : List (List UInt8)} (h : ss.Perm (strKeys (mapOf D.ents))) : ss.mergeSort (fun x y => decide (x ≤ y)) = D.ents.map Ent.name := by
  have hk : strKeys (mapOf D.ents) = D.ents.map Ent.name := by
    simp only [strKeys, mapOf, List.map_map]
    rfl
  rw [hk] at h
  have e1 := mergeSort_of_perm h
  have e2 : (D.ents.map Ent.name).mergeSort (fun x y => decide (x ≤ y)) = D.ents.map Ent.name := by
    apply List.mergeSort_of_pairwise
    rw [List.pairwise_map]
    refine R.rising.imp fun h => ?_
    simp only [decide_eq_true_eq]
    exact List.le_of_lt (before_lt _ _ h)
  exact e1.trans e2

/-! ### rising, Names -/
set_option maxHeartbeats 1000000 in
theorem rising_any (R : Rep w lo p mf mt D) (hS : D.ents.length ≤ 1099511627776) :
    Calls Tryd.prog 29 #[ptr p] w fun e w' => ∃ v, e = .returned v ∧ w'.ownsRow w.heap.size 9 1 v D.ents.length ((D.ents.map Ent.name).map encStr) ∧ (v = .slice none 0 0 ↔ D.ents = []) ∧ Below w.heap.size w w' := by
  have k3 := R.cell 3
  simp only [dRow] at k3
  have hsz : Maps.size (mapOf D.ents) = D.ents.length := by simp [mapOf, Maps.size]
  have HK := hid (fun W => callsIn_wide.1 (Tryd.maps_Keys_50 (some mf) W))
  have HS := hid (callsIn_wide.1 (Tryd.slices_Sorted_keys_49_50 mf D.ents.length (mapOf D.ents) ptrElem w R.files (by rw [hsz]; unfold maxLen; omega) (by rw [hsz]; omega)))
  have HR := hid R
  clear hsz R
  go_enter Tryd.func29, Tryd.ntmps29
  go_wp2_with (first
    | (go_at_call 50; refine (HK.out _).mono ?_; rintro e w' ⟨rfl, rfl⟩)
    | (go_at_call 49; refine HS.out.mono ?_; rintro e w' ⟨v, ss, rfl, hP, hrow, hnil, hb⟩))
  go_ret
  have hn := HR.out.names_sorted hP
  have hl : ss.length = D.ents.length := by
    rw [hP.length_eq]
    simp [strKeys, mapOf]
  rw [hn, hl] at hrow
  refine ⟨v, rfl, ⟨hrow.1, ?_⟩, ?_, ((Below.refl _ w).alloc (Nat.le_refl _) _).trans (hb.mono (by simp))⟩
  · rcases hrow.2 with h | ⟨g, cap, cur, h, hbg, r⟩
    · exact .inl h
    · exact .inr ⟨g, cap, cur, h, by simp at hbg; omega, r⟩
  · rw [hnil]
    constructor
    · intro h; subst h; exact List.eq_nil_of_length_eq_zero (by simpa using hl.symm)
    · intro h; rw [h] at hl; exact List.eq_nil_of_length_eq_zero (by simpa using hl)
end
end Go.Proofs.YtcpncfngadablaaDoor
namespace Go.Proofs.YtcpncfngadablaaDoor
open Go.RowKit Go.Deep

/-- that append, in a walk. -/
theorem wpList_append_fresh (w : World) {ops : Array Oper} {rest : List Oper} {o : Oper} {a : Act} {Q : Exit → Act → World → Prop} (hgd : o.guard = none) (s x : Operand)
    (hop : o.op = Op.call { callee := Callee.builtin Builtin.append, args := #[s, x], argTypes := #[73, 73] })
    (v : Value) (n : Nat) (xs : List Value) (ad : Addr) (u : Value) (hs : a.eval s = v) (hx : a.eval x = .slice (some ad) 1 1) (hown : w.ownsRow 0 31 1 v n xs) (hu : w.cell? ad = some u) (h1 : u.oneCell' = true) (hn : n ≤ 1099511627776)
    (hK : ∀ v' w', w'.ownsRow 0 31 1 v' (n + 1) (xs ++ [u]) → w.grownBy w' v.ownBlock → (v'.ownBlock = v.ownBlock ∨ v'.ownBlock = some w.heap.size) → wpList Tryd.prog ops Q rest (a.put o.dst v') w') : wpList Tryd.prog ops Q (o :: rest) a w := by
  refine wpList_plain hgd fun K' hK' => ?_
  obtain ⟨v', w', hrun, r1, r2, r3, r4⟩ := run_append_fresh w o.type v n xs hown ad u hu h1 hn
  unfold Oper.wp
  simp [execOp, hop, resolve, invoke, builtin, hs, hx, hrun, Result.andThen]
  exact hK' _ _ (hK v' w' r1 r2 r3)

/-- Blocks lie behind a slice: sv the slice, bs where each block lies. -/
structure BlocksAt (w : World) (B : Nat) (sv : Value) (bs : List Nat) (blocks : List (List UInt8)) : Prop where
  own : w.ownsRow 0 31 1 sv blocks.length (bs.map fun b => sliceV b B)
  bytes : ∀ (i b : Nat) (bl : List UInt8), bs[i]? = some b → blocks[i]? = some bl → bl.length = B ∧ BytesAt w b bl

theorem BlocksAt.len {w : World} {B : Nat} {sv : Value} {bs : List Nat} {blocks : List (List UInt8)} (h : BlocksAt w B sv bs blocks) : bs.length = blocks.length := by simpa using h.own.1
theorem FileAt.blocksAt {w : World} {B : Nat} {L : Lay} {f : FileA} (h : FileAt w B L f) : BlocksAt w B L.sv L.bs f.blocks := ⟨h.own, h.bytes⟩

/-- block i, where it lies. -/
theorem BlocksAt.at {w : World} {B : Nat} {sv : Value} {bs : List Nat} {blocks : List (List UInt8)} (h : BlocksAt w B sv bs blocks) {i : Nat} (hi : i < blocks.length) :
    ∃ g cap b, sv = .slice (some ⟨g, 0, none⟩) blocks.length cap ∧ w.cell? ⟨g, i, none⟩ = some (sliceV b B) ∧ blocks[i].length = B ∧ BytesAt w b blocks[i] ∧ bs[i]? = some b := by
  have hlen := h.len
  have hb : bs[i]? = some (bs[i]'(by omega)) := List.getElem?_eq_getElem (by omega)
  have hbl := h.bytes i _ blocks[i] hb (List.getElem?_eq_getElem hi)
  rcases h.own.2 with ⟨_, h2⟩ | ⟨g, cap, cur, h1, _, hg, hc, _⟩
  · omega
  · refine ⟨g, cap, _, h1, ?_, hbl.1, hbl.2, hb⟩
    have hc2 := h.own.cells (g := g) (by rw [h1]; rfl) i (sliceV (bs[i]'(by omega)) B) (by simp [hb])
    have hadd : (⟨g, 0, none⟩ : Addr).add i = ⟨g, i, none⟩ := by unfold Addr.add; split <;> simp_all
    rw [hadd] at hc2
    exact hc2

/-- all of it lies from n on. -/
def FreshB (n : Nat) (sv : Value) (bs : List Nat) : Prop := (∀ x, sv.ownBlock = some x → n ≤ x) ∧ (∀ b ∈ bs, n ≤ b) ∧ (sv.ownBlock.toList ++ bs).Nodup

theorem BlocksAt.lt {w : World} {B : Nat} {sv : Value} {bs : List Nat} {blocks : List (List UInt8)} (h : BlocksAt w B sv bs blocks) : (∀ x, sv.ownBlock = some x → x < w.heap.size) ∧ ∀ b ∈ bs, b < w.heap.size := by
  refine ⟨fun x hx => (h.own.lt x hx).2, fun b hb => ?_⟩
  obtain ⟨i, hi, rfl⟩ := List.getElem_of_mem hb
  exact lt_of_block (h.bytes i _ (blocks[i]'(by rw [← h.len]; exact hi)) (List.getElem?_eq_getElem hi) (List.getElem?_eq_getElem _)).2

theorem BlocksAt.kept {w w' : World} {B : Nat} {sv : Value} {bs : List Nat} {blocks : List (List UInt8)} (h : BlocksAt w B sv bs blocks) (hk : ∀ b, (sv.ownBlock = some b ∨ b ∈ bs) → w'.heap[b]? = w.heap[b]?) : BlocksAt w' B sv bs blocks := by
  refine ⟨⟨h.own.1, ?_⟩, fun i b bl hb hbl => ?_⟩
  · rcases h.own.2 with hn | ⟨g, cap, cur, hv, hb, hg, rest⟩
    · exact .inl hn
    · exact .inr ⟨g, cap, cur, hv, hb, (hk g (.inl (by rw [hv]; rfl))).trans hg, rest⟩
  · have := h.bytes i b bl hb hbl
    exact ⟨this.1, (hk b (.inr (List.mem_of_getElem? hb))).trans this.2⟩

/-- one more block behind them. -/
theorem BlocksAt.snoc {w w2 w3 : World} {B n g : Nat} {sv v' : Value} {bs : List Nat} {blocks : List (List UInt8)} {nb : List UInt8} {o : Obj} (h : BlocksAt w B sv bs blocks) (hf : FreshB n sv bs) (hn : n ≤ w.heap.size) (hg : w.heap.size ≤ g) (hg2 : g < w2.heap.size) (h2 : Touch [] w w2) (hnb : nb.length = B) (hb : BytesAt w2 g nb)
    (hown : w3.ownsRow 0 31 1 v' (blocks.length + 1) ((bs.map fun b => sliceV b B) ++ [sliceV g B])) (hgr : (w2.alloc o).grownBy w3 sv.ownBlock) (hfr : v'.ownBlock = sv.ownBlock ∨ v'.ownBlock = some (w2.alloc o).heap.size) :
    BlocksAt w3 B v' (bs ++ [g]) (blocks ++ [nb]) ∧ FreshB n v' (bs ++ [g]) ∧ Touch sv.ownBlock.toList w w3 := by
  have hlen := h.len
  have hs2 := h2.size
  obtain ⟨hf1, hf2, hf3⟩ := hf
  obtain ⟨l1, l2⟩ := h.lt
  rw [List.nodup_append] at hf3
  have hsz : (w2.alloc o).heap.size = w2.heap.size + 1 := by simp
  refine ⟨⟨?_, ?_⟩, ⟨?_, ?_, ?_⟩, ?_⟩
  · simpa using hown
  · intro i b bl hb' hbl
    by_cases hi : i < bs.length
    · rw [List.getElem?_append_left hi] at hb'
      rw [List.getElem?_append_left (by omega)] at hbl
      have h1 := h.bytes i b bl hb' hbl
      have hm := List.mem_of_getElem? hb'
      have hlt := l2 b hm
      refine ⟨h1.1, ?_⟩
      show w3.heap[b]? = _
      rw [hgr.block _ (by omega) (fun e => hf3.2.2 b (by simp [← e]) b hm rfl), Below.heap_alloc _ _ _ (by omega), h2.block _ hlt (by simp)]
      exact h1.2
    · have hi' : i = bs.length := by
        have := (List.getElem?_eq_some_iff.1 hb').1
        simp at this
        omega
      subst hi'
      simp at hb'
      rw [hlen] at hbl
      simp at hbl
      subst hb' hbl
      refine ⟨hnb, ?_⟩
      show w3.heap[g]? = _
      rw [hgr.block _ (by omega) (fun e => by have := l1 g e.symm; omega), Below.heap_alloc _ _ _ hg2]
      exact hb
  · intro x hx
    rcases hfr with e | e
    · exact hf1 x (e ▸ hx)
    · rw [e] at hx; simp at hx; omega
  · intro b hb
    simp at hb
    rcases hb with hb | rfl
    · exact hf2 b hb
    · omega
  · rw [List.nodup_append]
    refine ⟨by cases v'.ownBlock <;> simp, ?_, ?_⟩
    · rw [List.nodup_append]
      exact ⟨hf3.2.1, by simp, fun x hx y hy => by simp at hy; subst hy; have := l2 x hx; omega⟩
    · intro x hx y hy
      simp only [Option.mem_toList] at hx
      simp only [List.mem_append, List.mem_cons, List.not_mem_nil, or_false] at hy
      rcases hfr with e | e
      · rw [e] at hx
        rcases hy with hy | hy
        · exact hf3.2.2 x (by simp [hx]) y hy
        · have := l1 x hx; omega
      · rw [e] at hx
        simp at hx
        rcases hy with hy | hy
        · have := l2 y hy; omega
        · omega
  · exact ((h2.mono (by simp)).alloc o).grown hgr (fun x hx => .inl (by simp [hx]))

section
variable {w w' : World} {E : Nat → Addr} {lo p mf mt : Nat} {D : DiskC}

set_option maxRecDepth 100000 in
set_option maxHeartbeats 400000 in
theorem copyBlocks_any {B : Nat} {sv : Value} {bs : List Nat} {blocks : List (List UInt8)} (h : BlocksAt w B sv bs blocks) (hB1 : 64 ≤ B) (hB2 : B ≤ 65536) (hn : blocks.length ≤ 1099511627776) :
    Calls Tryd.prog 51 #[sv] w fun e w' => ∃ sv' bs', e = .returned sv' ∧ BlocksAt w' B sv' bs' blocks ∧ FreshB w.heap.size sv' bs' ∧ Below w.heap.size w w' := by
  rcases h.own.2 with ⟨hsv, h2⟩ | ⟨G, gc, _, hsv, _⟩
  · have hbl : blocks = [] := List.eq_nil_of_length_eq_zero h2
    subst hbl
    rw [hsv]
    clear h hsv
    go_enter Tryd.func51, Tryd.ntmps51
    go_wp2
    refine wp_loop_rounds 1 ?_
    rw [rounds_succ]
    go_wp2
    go_ret
    exact ⟨.slice none 0 0, [], rfl, ⟨World.ownsRow_nil _ _ _ _, fun i b bl hb => by simp at hb⟩, ⟨by simp [Value.ownBlock], by simp, by simp [Value.ownBlock]⟩, Below.refl _ _⟩
  · have H := hid h
    have HSV := hid hsv
    rw [hsv]
    clear h hsv
    go_enter Tryd.func51, Tryd.ntmps51
    go_wp2
    go_loopw [3, 8] (fun v i wr => ∃ (k : Nat) (bs' : List Nat), k ≤ blocks.length ∧ i = .int .i64 k ∧ BlocksAt wr B v bs' (blocks.take k) ∧ FreshB w.heap.size v bs' ∧ Below w.heap.size w wr) (fun _ i _ => blocks.length - (intOf i).toNat)
    case atStart => exact ⟨0, [], Nat.zero_le _, rfl, ⟨World.ownsRow_nil _ _ _ _, fun i b bl hb => by simp at hb⟩, ⟨by simp [Value.ownBlock], by simp, by simp [Value.ownBlock]⟩, Below.refl _ _⟩
    case round =>
      obtain ⟨k, bs', hk, rfl, hB, hF, hb⟩ := hrel
      by_cases hlt : k < blocks.length
      · have hsrc : BlocksAt wr B sv bs blocks := H.out.kept fun b hb' => hb.block b (by rcases hb' with h | h; exact H.out.lt.1 b h; exact H.out.lt.2 b h)
        obtain ⟨g, cap, b, e1, cG, hlen, hby, _⟩ := hsrc.at hlt
        rw [HSV.out] at e1
        simp only [Value.slice.injEq, Option.some.injEq, Addr.mk.injEq] at e1
        obtain ⟨⟨rfl, _⟩, hgc⟩ := e1
        clear hgc
        have hl : (blocks.take k).length = k := by simp; omega
        have HC := hid (copy_at hby hlen hB1 hB2)
        have HB := hid hB
        have HF := hid hF
        have HBW := hid hb
        have HL := hid hl
        have HLEN := hid hlen
        clear hsrc hby hB hF hb hl hlen
        go_wp2_with (first
          | (go_at_call 60; refine HC.out.mono ?_; rintro e w2 ⟨rfl, hb2, ht2, hz2⟩; have HB2 := hid hb2; have HT2 := hid ht2; have HZ2 := hid hz2; clear hb2 ht2 hz2)
          | (at_builtin; refine wpList_append_fresh _ rfl _ _ rfl u3 k (bs'.map fun b => sliceV b B) ⟨w2.heap.size, 0, none⟩ (sliceV wr.heap.size B) rfl rfl ?h1 ?h2 rfl ?h3 ?_; rotate_left 3; intro v' w3 r1 r2 r3; have H1 := hid r1; have H2 := hid r2; have H3 := hid r3; clear r1 r2 r3))
        case h1 =>
          have h := ownsRow_touch HB.out.own HT2.out (by simp)
          rw [HL.out] at h
          exact h.alloc _
        case h2 => exact cell_row (heap_alloc_new w2 _) 0
        case h3 => omega
        have hz := HZ2.out
        have hbw := HBW.out.size
        have hl := HL.out
        have hr := HB.out.snoc (nb := blocks[k]) HF.out hbw (Nat.le_refl _) (by omega) HT2.out HLEN.out HB2.out (by rw [hl]; exact H1.out) H2.out H3.out
        have htk : blocks.take (k + 1) = blocks.take k ++ [blocks[k]] := List.take_succ_eq_append_getElem hlt
        have hbel : Below w.heap.size w w3 := HBW.out.trans (hr.2.2.below hbw (fun b hb => HF.out.1 b (by simpa using hb)))
        rw [← htk] at hr
        have HR := hid hr
        have HBE := hid hbel
        clear hr hbel htk hz hl hbw
        go_roundw
        case rel => first | exact ⟨k + 1, bs' ++ [wr.heap.size], by omega, by go_num, HR.out.1, HR.out.2.1, HBE.out⟩ | ((repeat apply Exists.intro); exact ⟨⟨k + 1, bs' ++ [wr.heap.size], by omega, by go_num, HR.out.1, HR.out.2.1, HBE.out⟩, rfl⟩)
        case measure => simp [intOf]; omega
      · go_wp2
        go_ret
        have hk' : k = blocks.length := by omega
        subst hk'
        rw [List.take_length] at hB
        exact ⟨u3, bs', rfl, hB, hF, hb⟩
end
end Go.Proofs.YtcpncfngadablaaDoor
