import Derived.Test.YtcpncfngadablaaGreatDoorZ10
/-
  The document's disk: Names.
-/
namespace Go.Proofs.YtcpncfngadablaaGreatDoor
open Go.RowKit Go.Deep ShfKit
set_option maxRecDepth 100000
set_option maxHeartbeats 2000000 in
theorem rNames_any {w : World} {R : RefD} (h : RefAt w R) (hn : R.fs.length ≤ 1099511627776) :
    Calls Tryz.prog 84 #[.pointer (some ⟨R.p, 0, none⟩)] w fun e w' => ∃ v, e = .returned v ∧ w'.ownsRow w.heap.size 9 1 v (if R.on then R.names else []).length ((if R.on then R.names else []).map encStr) ∧ Below w.heap.size w w' := by
  obtain ⟨p, hp⟩ : ∃ p, p = R.p := ⟨_, rfl⟩
  obtain ⟨n, hnn⟩ : ∃ n, n = R.fs.length := ⟨_, rfl⟩
  obtain ⟨fa, fc, hfv⟩ := sh_slice h.own
  rw [← hnn] at hfv hn
  have KP : Hid (∀ W, Below w.heap.size w W → W.cell? ⟨p, 2, none⟩ = some (.slice fa n fc) ∧ W.cell? ⟨p, 11, none⟩ = some (.bool R.on)) := fun W hb => by
    have hr := h.below hb
    have c2 : W.cell? ⟨R.p, 2, none⟩ = some R.fv := cell_row hr.row 2
    have c11 : W.cell? ⟨R.p, 11, none⟩ = some (.bool R.on) := cell_row hr.row 11
    rw [hp, c2, c11, hfv]
    exact ⟨rfl, rfl⟩
  have HR := hid h
  have HNN := hid hnn
  have HFV := hid hfv
  have HNM : Hid (R.names.length = n) := by rw [hnn]; show _ = _; simp [RefD.names]
  rw [← hp]
  clear h hp hnn hfv
  cases hon : R.on with
  | false =>
    rw [hon] at KP
    obtain ⟨c2, c11⟩ := KP.out w (Below.refl _ _)
    have B0 : Hid (w.ownsRow w.heap.size 9 1 (.slice none 0 0) 0 []) := World.ownsRow_nil _ _ _ _
    clear hon KP
    simp only [Bool.false_eq_true, if_false]
    by_cases h0 : n = 0
    · subst h0
      go_enter Tryz.func84, Tryz.ntmps84
      go_wp2_with fail
      refine wp_loop_rounds 1 ?_
      rw [rounds_succ]
      go_wp2_with fail
      go_ret
      exact ⟨_, rfl, B0.out, Below.refl _ _⟩
    · have hx : (0 : Int) < (n : Int) := by omega
      go_enter Tryz.func84, Tryz.ntmps84
      go_wp2_with fail
      refine wp_loop_rounds 1 ?_
      rw [rounds_succ]
      go_wp2_with fail
      go_ret
      exact ⟨_, rfl, B0.out, Below.refl _ _⟩
  | true =>
    rw [hon] at KP
    clear hon
    simp only [if_true]
    go_enter Tryz.func84, Tryz.ntmps84
    go_wp2_with fail
    go_loopw [3, 4] (fun lv iv W => Hid (∃ i : Nat, iv = .int .i64 (i : Int) ∧ i ≤ n ∧ W.ownsRow w.heap.size 9 1 lv i ((R.names.take i).map encStr) ∧ Below w.heap.size w W)) (fun _ iv _ => match iv with | .int _ i => n + 1 - i.toNat | _ => 0)
    case atStart => exact ⟨0, rfl, Nat.zero_le _, World.ownsRow_nil _ _ _ _, Below.refl _ _⟩
    case round =>
      obtain ⟨W, hW⟩ : ∃ W, W = wr := ⟨_, rfl⟩
      rw [← hW] at hrel ⊢
      clear hW
      obtain ⟨i, rfl, hin, how, hbw⟩ := hrel.out
      clear hrel
      obtain ⟨sl, cl, rfl⟩ := sh_slice how
      obtain ⟨c2, c11⟩ := KP.out _ hbw
      have HO := hid how
      have HB := hid hbw
      rcases Nat.lt_or_eq_of_le hin with hlt | hlt
      · obtain ⟨e, he⟩ : ∃ e, R.fs[i]? = some e := ⟨_, List.getElem?_eq_getElem (by rw [← HNN.out]; exact hlt)⟩
        obtain ⟨G, gc, hG, _, c0, _, _, _⟩ := (HR.out.below hbw).file he
        rw [HFV.out, ← HNN.out] at hG
        simp only [Value.slice.injEq, true_and] at hG
        obtain ⟨rfl, rfl⟩ := hG
        obtain ⟨nm, hnm⟩ : ∃ nm, nm = e.name := ⟨_, rfl⟩
        rw [← hnm] at c0
        have HT : Hid ((R.names.take (i + 1)).map encStr = (R.names.take i).map encStr ++ [encStr nm]) := by
          have hne : R.names[i]? = some nm := by unfold RefD.names; rw [List.getElem?_map, he, hnm]; rfl
          show _ = _
          rw [List.take_add_one, hne, List.map_append]
          rfl
        have hlt1 : (i : Int) < (n : Int) := by omega
        have V1 : IntKind.i64.wrap ((i : Int) + 1) = (i : Int) + 1 := by rw [IntKind.wrap_i64]; omega
        have i0 : (0 : Int) ≤ (i : Int) := by omega
        have SZ := hid hbw.size
        clear he hnm how hbw
        go_wp2_with (at_builtin; refine wpl_one rfl _ _ 32 rfl w.heap.size 9 _ 1 16 Tryz.underlying32 info9 rfl (by decide) (.slice sl i cl) i ((R.names.take i).map encStr) rfl HO.out [encStr nm] 9 _ rfl rfl rfl (fun u hu => by simp at hu; subst hu; rfl) (by omega) (by omega) SZ.out ?_; intro v8 w8 o8 f8; have O8 := hid o8; have B8 : Hid (Below w.heap.size w w8) := (by obtain ⟨g1, _⟩ := grown_all f8; have b1 := HB.out.alloc HB.out.size (.cells #[encStr nm] 9); exact ⟨g1.os.trans b1.os, g1.tape.trans b1.tape, g1.output.trans b1.output, Nat.le_trans b1.size g1.size, fun b hb => (g1.block b (by have := b1.size; omega) (fun e => by have := (own_block HO.out e.symm).1; omega)).trans (b1.block b hb)⟩); clear o8 f8)
        clear V1
        refine ⟨⟨i + 1, by go_num, by omega, by rw [HT.out]; exact O8.out, B8.out⟩, ?_⟩
        show n + 1 - ((i : Int) + 1).toNat < n + 1 - (i : Int).toNat
        omega
      · have hlt1 : ¬ (i : Int) < (n : Int) := by omega
        have OE : Hid (World.ownsRow W w.heap.size 9 1 (.slice sl i cl) R.names.length (R.names.map encStr)) := by
          have h1 := how
          rw [List.take_of_length_le (by rw [HNM.out]; omega)] at h1
          rw [HNM.out, ← hlt]
          exact h1
        have hl9 := hlt.symm
        clear hlt how hbw
        subst hl9
        go_wp2_with fail
        go_ret
        exact ⟨_, rfl, OE.out, HB.out⟩
end Go.Proofs.YtcpncfngadablaaGreatDoor
/-
  The document's disk: blocks in new memory.
-/
namespace Go.Proofs.YtcpncfngadablaaGreatDoor
open Go.RowKit Go.Deep ShfKit
set_option maxRecDepth 100000
theorem wpl_far {ops : Array Oper} {rest : List Oper} {o : Oper} {a : Act} {Q : Exit → Act → World → Prop} {W : World} (hg : o.guard = none) (s x : Operand) (t : TypeId) (hop : o.op = Op.call { callee := Callee.builtin Builtin.append, args := #[s, x], argTypes := #[t, t] })
    (B : Nat) (e : TypeId) (z : Value) (size bytes : Nat) (ht : Tryz.prog.underlying t = some (.slice e)) (hinf : (Tryz.prog.info? e).map (fun i => (i.zero, i.size, i.bytes)) = some (some z, size, bytes))
    (hzs : z.cells.size = size) (hsz : 0 < size) (v : Value) (n : Nat) (xs : List Value) (hs : a.eval s = v) (hown : W.ownsRow B e size v n xs) (ad : Addr) (m c : Nat) (news : List Value) (hx : a.eval x = .slice (some ad) m c) (hl : news.length = m * size) (hnews : ∀ j u, news[j]? = some u → W.cell? (ad.add j) = some u) (h1 : ∀ u ∈ news, u.oneCell' = true) (hn : n + m ≤ 1099511627776) (hby : (n + m) * bytes ≤ 140737488355328) (hbase : B ≤ W.heap.size)
    (hK : ∀ v' w', w'.ownsRow B e size v' (n + m) (xs ++ news) → ((v'.ownBlock = v.ownBlock ∧ W.grownBy w' v.ownBlock) ∨ ((∀ g, v'.ownBlock = some g → W.heap.size ≤ g) ∧ W.grownBy w' none)) → wpList Tryz.prog ops Q rest (a.put o.dst v') w') :
    wpList Tryz.prog ops Q (o :: rest) a W := by
  obtain ⟨i, hi, hz0, hz1, hz2⟩ := info_parts hinf
  exact wpList_append_far _ hg s x t hop B e i z size bytes ht hi hz0 hz1 hz2 hzs hsz v n xs hs hown ad m c news hx hl hnews h1 (by unfold maxLen; omega) hby hbase hK
/-- a list of blocks in new memory. -/
structure NewB (w W : World) (B : Nat) (v : Value) (vs : List Value) (blocks : List (List UInt8)) : Prop where
  own : W.ownsRow w.heap.size 31 1 v blocks.length vs
  fam : Fam W w.heap.size 5 1 ((vs.zip blocks).map fun x => (x.1, B, Lib.byteCells x.2))
  low : Below w.heap.size w W
theorem NewB.vlen {w W : World} {B : Nat} {v : Value} {vs : List Value} {blocks : List (List UInt8)} (h : NewB w W B v vs blocks) : vs.length = blocks.length := by simpa using h.own.1
theorem NewB.next {w W W5 W7 : World} {B : Nat} {v v5 v' : Value} {vs : List Value} {blocks : List (List UInt8)} {bl : List UInt8} {o : Obj} (h : NewB w W B v vs blocks) (h5 : W5.ownsRow W.heap.size 5 1 v5 B (Lib.byteCells bl)) (g5 : W.grownBy W5 none)
    (ho : W7.ownsRow w.heap.size 31 1 v' (blocks.length + 1) (vs ++ [v5])) (hf : (v'.ownBlock = v.ownBlock ∧ (W5.alloc o).grownBy W7 v.ownBlock) ∨ ((∀ g, v'.ownBlock = some g → (W5.alloc o).heap.size ≤ g) ∧ (W5.alloc o).grownBy W7 none)) : NewB w W7 B v' (vs ++ [v5]) (blocks ++ [bl]) := by
  have b5 : Below W.heap.size W W5 := ⟨g5.os, g5.tape, g5.output, g5.size, fun b hb => g5.block b hb (by simp)⟩
  have bA : Below W.heap.size W (W5.alloc o) := b5.alloc b5.size _
  have oA : (W5.alloc o).ownsRow w.heap.size 31 1 v blocks.length vs := own_kept h.own fun g hg => bA.block g (own_block h.own hg).2
  have but : But 31 (W5.alloc o) W7 := But.of_own oA hf
  have fA : Fam (W5.alloc o) w.heap.size 5 1 ((vs.zip blocks).map (fun x => (x.1, B, Lib.byteCells x.2)) ++ [(v5, B, Lib.byteCells bl)]) := h.fam.push bA (own_kept h5 fun g hg => Below.heap_alloc _ _ _ (own_block h5 hg).2) h.low.size
  obtain ⟨g1, _⟩ := grown_all hf
  refine ⟨by rw [List.length_append]; exact ho, ?_, ?_⟩
  · have e1 : ((vs ++ [v5]).zip (blocks ++ [bl])).map (fun x => (x.1, B, Lib.byteCells x.2)) = (vs.zip blocks).map (fun x => (x.1, B, Lib.byteCells x.2)) ++ [(v5, B, Lib.byteCells bl)] := by
      rw [List.zip_append h.vlen, List.map_append]
      rfl
    rw [e1]
    exact but.fam fA (by decide)
  · have l1 : Below w.heap.size w (W5.alloc o) := h.low.trans (bA.mono h.low.size)
    exact ⟨g1.os.trans l1.os, g1.tape.trans l1.tape, g1.output.trans l1.output, Nat.le_trans l1.size g1.size, fun b hb => (g1.block b (by have := l1.size; omega) (fun e => by have := (own_block oA e.symm).1; omega)).trans (l1.block b hb)⟩
set_option maxHeartbeats 2000000 in
theorem copied_any {w : World} {sv : Value} {blocks : List (List UInt8)} {B : Nat} (h : BlocksSh w sv blocks) (hB : 0 < B) (hB2 : B ≤ 65536) (hl : ∀ b ∈ blocks, b.length = B) (hn : blocks.length ≤ 1099511627776) :
    Calls Tryz.prog 61 #[sv] w fun e w' => ∃ v vs, e = .returned v ∧ NewB w w' B v vs blocks := by
  obtain ⟨sa, sc, hsv⟩ := h.sl
  obtain ⟨n, hnn⟩ : ∃ n, n = blocks.length := ⟨_, rfl⟩
  rw [← hnn] at hsv hn
  have HH := hid h
  have HSV := hid hsv
  have HN := hid hnn
  have HL := hid hl
  rw [hsv]
  clear h hsv hnn hl
  go_enter Tryz.func61, Tryz.ntmps61
  go_wp2_with fail
  go_loopw [3, 4] (fun lv iv W => Hid (∃ (i : Nat) (vs : List Value), iv = .int .i64 (i : Int) ∧ i ≤ n ∧ NewB w W B lv vs (blocks.take i))) (fun _ iv _ => match iv with | .int _ i => n + 1 - i.toNat | _ => 0)
  case atStart => exact ⟨0, [], rfl, Nat.zero_le _, World.ownsRow_nil _ _ _ _, Fam.nil _ _ _ _, Below.refl _ _⟩
  case round =>
    obtain ⟨W, hW⟩ : ∃ W, W = wr := ⟨_, rfl⟩
    rw [← hW] at hrel ⊢
    clear hW
    obtain ⟨i, vs, rfl, hin, hnb⟩ := hrel.out
    clear hrel
    have hti : (blocks.take i).length = i := by rw [List.length_take, ← HN.out]; omega
    obtain ⟨sl, cl, hlv⟩ := sh_slice hnb.own
    rw [hti] at hlv
    subst hlv
    have HNB := hid hnb
    rcases Nat.lt_or_eq_of_le hin with hlt | hlt
    · obtain ⟨bl, hbl⟩ : ∃ bl, blocks[i]? = some bl := ⟨_, List.getElem?_eq_getElem (by rw [← HN.out]; exact hlt)⟩
      obtain ⟨G, gc, xa, xn, xc, e1, c1, s1⟩ := (HH.out.below hnb.low).at_ i (by rw [← HN.out]; exact hlt)
      rw [HSV.out, ← HN.out] at e1
      simp only [Value.slice.injEq, true_and] at e1
      obtain ⟨rfl, rfl⟩ := e1
      have hbe : blocks[i]'(by rw [← HN.out]; exact hlt) = bl := (List.getElem?_eq_some_iff.1 hbl).2
      rw [hbe] at s1
      have hblB : bl.length = B := HL.out bl (List.mem_of_getElem? hbl)
      have hxn : xn = B := by rw [← s1.len, hblB]
      subst hxn
      obtain ⟨ad, rfl, _, hcells⟩ := s1.at_ hB
      have HT : Hid (blocks.take (i + 1) = blocks.take i ++ [bl]) := by show _ = _; rw [List.take_add_one, hbl]; rfl
      have HCL := hid hcells
      have HBL := hid hblB
      have OW : Hid (W.ownsRow w.heap.size 31 1 (.slice sl i cl) i vs) := by
        have h1 := hnb.own
        rw [hti] at h1
        exact h1
      have SZ := hid hnb.low.size
      have HTI := hid hti
      have hlt1 : (i : Int) < (n : Int) := by omega
      have V1 : IntKind.i64.wrap ((i : Int) + 1) = (i : Int) + 1 := by rw [IntKind.wrap_i64]; omega
      have i0 : (0 : Int) ≤ (i : Int) := by omega
      clear hnb hbl hbe s1 hcells hti hblB
      go_wp2_with (first
        | (have q := O5; clear q; at_builtin; refine wpl_one rfl _ _ 51 rfl w.heap.size 31 _ 1 24 Tryz.underlying51 info31 rfl (by decide) (.slice sl i cl) i vs rfl (own_kept OW.out fun g hg => G5.out.block g (own_block OW.out hg).2 (by simp)) [.slice s5 xn c5] 31 _ rfl rfl rfl (fun u hu => by simp at hu; subst hu; rfl) (by omega) (by omega) (Nat.le_trans SZ.out G5.out.size) ?_; intro v8 w8 o8 f8; have NX := hid (HNB.out.next O5.out G5.out (by rw [HTI.out]; exact o8) f8); clear o8 f8)
        | (at_builtin; refine wpl_far rfl _ _ 31 rfl W.heap.size 5 _ 1 1 Tryz.underlying31 info5 rfl (by decide) (.slice none 0 0) 0 [] rfl (World.ownsRow_nil _ _ _ _) ad xn xc (Lib.byteCells bl) rfl (by rw [Lib.byteCells_length, HBL.out, Nat.mul_one]) HCL.out (fun u hu => by simp only [Lib.byteCells, List.mem_map] at hu; obtain ⟨c, _, rfl⟩ := hu; rfl) (by omega) (by omega) (Nat.le_refl _) ?_; intro v5 W5 o5 f5; rw [Nat.zero_add, List.nil_append] at o5; obtain ⟨s5, c5, rfl⟩ := sh_slice o5; have O5 := hid o5; have G5 : Hid (W.grownBy W5 none) := (by rcases f5 with ⟨_, h1⟩ | ⟨_, h1⟩ <;> exact h1); clear o5 f5))
      clear V1
      refine ⟨⟨i + 1, _, by go_num, by omega, by rw [HT.out]; exact NX.out⟩, ?_⟩
      show n + 1 - ((i : Int) + 1).toNat < n + 1 - (i : Int).toNat
      omega
    · have hlt1 : ¬ (i : Int) < (n : Int) := by omega
      have OE : Hid (NewB w W B (.slice sl i cl) vs blocks) := by
        have h1 := hnb
        rw [List.take_of_length_le (by rw [← HN.out]; omega)] at h1
        exact h1
      have hl9 := hlt.symm
      clear hlt hnb hti
      subst hl9
      go_wp2_with fail
      go_ret
      exact ⟨_, rfl, vs, OE.out⟩
end Go.Proofs.YtcpncfngadablaaGreatDoor
/-
  The document's disk: Delete.
-/
namespace Go.Proofs.YtcpncfngadablaaGreatDoor
open Go.RowKit Go.Deep ShfKit
set_option maxRecDepth 100000
theorem fam_sub {W : World} {B e size : Nat} {L L' : List Rw} (h : Fam W B e size L) (hs : L'.Sublist L) : Fam W B e size L' := by
  have pw : List.Pairwise (fun x y : Rw => ∀ g, x.1.ownBlock = some g → y.1.ownBlock ≠ some g) L := List.pairwise_iff_getElem.2 fun i j hi hj hij g hg => h.apart i j _ _ g (List.getElem?_eq_getElem hi) (List.getElem?_eq_getElem hj) (by omega) hg
  have pw' := List.pairwise_iff_getElem.1 (pw.sublist hs)
  refine ⟨fun i x hx => ?_, fun i j x y g hx hy hne hg hg' => ?_⟩
  · obtain ⟨k, hk⟩ := List.getElem?_of_mem (hs.subset (List.mem_of_getElem? hx))
    exact h.own k x hk
  · obtain ⟨hi, rfl⟩ := List.getElem?_eq_some_iff.1 hx
    obtain ⟨hj, rfl⟩ := List.getElem?_eq_some_iff.1 hy
    rcases Nat.lt_or_gt_of_ne hne with hlt | hlt
    · exact pw' i j hi hj hlt g hg hg'
    · exact pw' j i hj hi hlt g hg' hg
theorem fam_blks_sub {L L' : List Rw} (hs : L'.Sublist L) : ∀ b ∈ blks L', b ∈ blks L := fun b hb => by
  obtain ⟨i, x, hx, hg⟩ := mem_blks.1 hb
  obtain ⟨k, hk⟩ := List.getElem?_of_mem (hs.subset (List.mem_of_getElem? hx))
  exact mem_blks.2 ⟨k, x, hk, hg⟩
theorem split_at {α : Type} {l : List α} {k : Nat} {e : α} (h : l[k]? = some e) : l = l.take k ++ e :: l.drop (k + 1) := by
  obtain ⟨hk, rfl⟩ := List.getElem?_eq_some_iff.1 h
  rw [← List.drop_eq_getElem_cons hk, List.take_append_drop]
/-- the files' list lies elsewhere. -/
def RefD.fvd (R : RefD) (v : Value) : RefD := { R with fv := v }
/-- a file less. -/
def RefD.dropAt (R : RefD) (k : Nat) (e : RFile) : RefD := { R with fs := R.fs.take k ++ R.fs.drop (k + 1), c := { R.c with used := R.c.used - e.file.blocks.length } }
theorem RefAt.dropped {w w' : World} {R : RefD} (h : RefAt w R) {k : Nat} {e : RFile} (he : R.fs[k]? = some e) {v : Value} {m : Nat} (hm : m = (R.fs.take k ++ R.fs.drop (k + 1)).length)
    (hrow : w'.heap[R.p]? = some (.cells ((R.dropAt k e).fvd v).row 100 (0, 0))) (ho : w'.ownsRow w.heap.size 71 3 v m ((R.fs.take k ++ R.fs.drop (k + 1)).flatMap RFile.cells)) (hb : But 100 w w') :
    RefAt w' ((R.dropAt k e).fvd v) ∧ ∀ b ∈ ((R.dropAt k e).fvd v).foot, b ∈ R.foot ∨ w.heap.size ≤ b := by
  have sp := split_at he
  have s1 : ((R.fs.take k ++ R.fs.drop (k + 1)).map RFile.r31).Sublist (R.fs.map RFile.r31) := by
    conv => rhs; rw [sp]
    rw [List.map_append, List.map_append, List.map_cons]
    exact (List.Sublist.refl _).append (List.sublist_cons_self _ _)
  have s2 : ((R.fs.take k ++ R.fs.drop (k + 1)).flatMap (RFile.r5 R.B)).Sublist (R.fs.flatMap (RFile.r5 R.B)) := by
    conv => rhs; rw [sp]
    rw [List.flatMap_append, List.flatMap_append, List.flatMap_cons]
    exact (List.Sublist.refl _).append (List.sublist_append_right _ _)
  refine ⟨⟨hrow, ?_, hb.own h.tro (by decide), fam_sub (hb.fam h.f31 (by decide)) s1, fam_sub (hb.fam h.f5 (by decide)) s2, fun x hx => h.len x ?_⟩, fun b hbm => ?_⟩
  · show World.ownsRow _ 0 71 3 v (R.fs.take k ++ R.fs.drop (k + 1)).length _
    rw [← hm]
    exact own_base ho (Nat.zero_le _)
  · have hx' : x ∈ R.fs.take k ++ R.fs.drop (k + 1) := hx
    rw [List.mem_append] at hx'
    rcases hx' with h1 | h1
    · exact List.mem_of_mem_take h1
    · exact List.mem_of_mem_drop h1
  · have hb' : b ∈ R.p :: (v.ownBlock.toList ++ (R.tv.ownBlock.toList ++ (blks ((R.fs.take k ++ R.fs.drop (k + 1)).map RFile.r31) ++ blks ((R.fs.take k ++ R.fs.drop (k + 1)).flatMap (RFile.r5 R.B))))) := hbm
    simp only [List.mem_append, List.mem_cons, Option.mem_toList] at hb'
    simp only [RefD.foot, List.mem_append, List.mem_cons, Option.mem_toList]
    rcases hb' with h1 | h1 | h1 | h1 | h1
    · exact .inl (.inl h1)
    · exact .inr (own_block ho h1).1
    · exact .inl (.inr (.inr (.inl h1)))
    · exact .inl (.inr (.inr (.inr (.inl (fam_blks_sub s1 b h1)))))
    · exact .inl (.inr (.inr (.inr (.inr (fam_blks_sub s2 b h1)))))
def RefD.delR (R : RefD) (key : List UInt8) : Int × RefD :=
  if (R.known key).2 = 0 then
    match R.fs[findI R.names key]? with
    | none => (0, R)
    | some e => if (R.befall true).2.1 then ((R.befall true).1, (R.befall true).2.2.dropAt (findI R.names key) e) else ((R.befall true).1, (R.befall true).2.2)
  else ((R.known key).2, R)
theorem step_far {ops : Array Oper} {o : Oper} {a : Act} {w : World} {K : Act → World → Prop} {Q : Exit → Act → World → Prop} {X : Prop} (hg : o.guard = none) (sl x : Operand) (t e : TypeId) (z : Value) (size bytes : Nat)
    (ho : o.op = .call { callee := .builtin .append, args := #[sl, x], argTypes := #[t, t] }) (hu : Tryz.prog.underlying t = some (.slice e)) (hinf : (Tryz.prog.info? e).map (fun i => (i.zero, i.size, i.bytes)) = some (some z, size, bytes))
    (hzs : z.cells.size = size) (hsz : 0 < size) (B n m c : Nat) (v : Value) (xs news : List Value) (ad : Addr) (hs : a.eval sl = v) (hown : w.ownsRow B e size v n xs) (hx : a.eval x = .slice (some ad) m c)
    (hl : news.length = m * size) (hnews : ∀ j u, news[j]? = some u → w.cell? (ad.add j) = some u) (h1 : ∀ u ∈ news, u.oneCell' = true) (hn : n + m ≤ 1099511627776) (hby : (n + m) * bytes ≤ 140737488355328) (hB : B ≤ w.heap.size)
    (h : ∀ v' w', w'.ownsRow B e size v' (n + m) (xs ++ news) → ((v'.ownBlock = v.ownBlock ∧ w.grownBy w' v.ownBlock) ∨ ((∀ g, v'.ownBlock = some g → w.heap.size ≤ g) ∧ w.grownBy w' none)) → K (a.put o.dst v') w') :
    if Region.wanted o (yielded ops a.tmps) = true then Oper.wp Tryz.prog o a w K Q else X := by
  have hw : Region.wanted o (yielded ops a.tmps) = true := by simp [Region.wanted, hg]
  rw [if_pos hw]
  exact wp_far sl x t e z size bytes ho hu hinf hzs hsz B n m c v xs news ad hs hown hx hl hnews h1 hn hby hB h
theorem add_none_addr (b o j : Nat) : (⟨b, o, none⟩ : Addr).add j = ⟨b, o + j, none⟩ := by unfold Addr.add; split <;> simp_all
theorem rflat_len (l : List RFile) : (l.flatMap RFile.cells).length = l.length * 3 := by
  induction l with
  | nil => rfl
  | cons a l ih => rw [List.flatMap_cons, List.length_append, ih, List.length_cons]; simp [RFile.cells]; omega
theorem rflat_one (l : List RFile) (hs : ∀ e ∈ l, e.sv.oneCell' = true) : ∀ u ∈ l.flatMap RFile.cells, u.oneCell' = true := fun u hu => by
  obtain ⟨e, he, h⟩ := List.mem_flatMap.1 hu
  simp [RFile.cells] at h
  rcases h with rfl | rfl | rfl
  · rfl
  · rfl
  · exact hs e he
/-- what Delete's last steps stand on. -/
theorem RefAt.cut {w5 Z : World} {R2 : RefD} (hr : RefAt w5 R2) {i : Nat} {e0 : RFile} (he : R2.fs[i]? = some e0) {G gc : Nat} (hv : R2.fv = .slice (some ⟨G, 0, none⟩) R2.fs.length gc)
    (hZ : Z = ((w5.setCell ⟨R2.p, 9, none⟩ (.int .i64 (R2.c.used - e0.file.blocks.length))).drew).drew) :
    Z.cell? ⟨R2.p, 2, none⟩ = some R2.fv ∧ (∀ j x, (R2.fs.flatMap RFile.cells)[j]? = some x → Z.cell? ⟨G, j, none⟩ = some x) ∧
    ∀ W7 v7, W7.ownsRow Z.heap.size 71 3 v7 i ((R2.fs.take i).flatMap RFile.cells) → Z.grownBy W7 none →
      W7.cell? ⟨R2.p, 2, none⟩ = some R2.fv ∧ (∀ j x, (R2.fs.flatMap RFile.cells)[j]? = some x → W7.cell? ⟨G, j, none⟩ = some x) ∧
      ∀ W8 v8 n8, n8 = i + (R2.fs.length - (i + 1)) → W8.ownsRow Z.heap.size 71 3 v8 n8 ((R2.fs.take i).flatMap RFile.cells ++ (R2.fs.drop (i + 1)).flatMap RFile.cells) →
        ((v8.ownBlock = v7.ownBlock ∧ W7.grownBy W8 v7.ownBlock) ∨ ((∀ g, v8.ownBlock = some g → W7.heap.size ≤ g) ∧ W7.grownBy W8 none)) →
        W8.cell? ⟨R2.p, 2, none⟩ = some R2.fv ∧ W8.frozen? ⟨R2.p, 2, none⟩ = false ∧ RefAt (W8.setCell ⟨R2.p, 2, none⟩ v8) ((R2.dropAt i e0).fvd v8) ∧ Touch R2.foot w5 (W8.setCell ⟨R2.p, 2, none⟩ v8) ∧ ∀ b ∈ ((R2.dropAt i e0).fvd v8).foot, b ∈ R2.foot ∨ w5.heap.size ≤ b := by
  have tZ : Touch [R2.p] w5 Z := by rw [hZ]; exact (((Touch.refl [R2.p] w5).setCell (.inl (by simp)) _).drew).drew
  have sZ : Z.heap.size = w5.heap.size := by rw [hZ]; simp [World.setCell, World.drew]
  have rZ : Z.heap[R2.p]? = some (.cells (R2.dropAt i e0).row 100 (0, 0)) := by rw [hZ]; exact heap_setCell_row hr.row 9 _
  have bZ : But 100 w5 Z := but_touch tZ hr.row
  have oZ : Z.ownsRow 0 71 3 R2.fv R2.fs.length (R2.fs.flatMap RFile.cells) := bZ.own hr.own (by decide)
  have hpl : R2.p < Z.heap.size := lt_of_block rZ
  have cG : ∀ j x, (R2.fs.flatMap RFile.cells)[j]? = some x → Z.cell? ⟨G, j, none⟩ = some x := fun j x hj => by
    obtain ⟨g', c', e', _, _, hc, _⟩ := own_cell oZ hj
    rw [hv] at e'
    simp only [Value.slice.injEq, Option.some.injEq, Addr.mk.injEq] at e'
    obtain ⟨⟨rfl, _⟩, _⟩ := e'
    exact hc
  have hGl : G < Z.heap.size := (own_block oZ (by rw [hv]; rfl)).2
  refine ⟨cell_row rZ 2, cG, fun W7 v7 o7 g7 => ?_⟩
  have b7 : Below Z.heap.size Z W7 := ⟨g7.os, g7.tape, g7.output, g7.size, fun b hb => g7.block b hb (by simp)⟩
  have r7 := (b7.block _ hpl).trans rZ
  refine ⟨cell_row r7 2, fun j x hj => (b7.cell (p := ⟨G, j, none⟩) hGl).trans (cG j x hj), fun W8 v8 n8 hn8 o8 f8 => ?_⟩
  obtain ⟨g8, _⟩ := grown_all f8
  have b8 : Below Z.heap.size Z W8 := b7.trans ⟨g8.os, g8.tape, g8.output, g8.size, fun b hb => g8.block b (by have := g7.size; omega) (fun e => by have := (own_block o7 e.symm).1; omega)⟩
  have r8 := (b8.block _ hpl).trans rZ
  have t9 : Touch [R2.p] w5 (W8.setCell ⟨R2.p, 2, none⟩ v8) := (tZ.trans (Touch.of_below (F := []) b8 (Nat.le_refl _)) (by simp)).setCell (.inl (by simp)) _
  have hne : ∀ g, v8.ownBlock = some g → (W8.setCell ⟨R2.p, 2, none⟩ v8).heap[g]? = W8.heap[g]? := fun g hg => Below.heap_setCell W8 _ _ _ (fun e => by have := (own_block o8 hg).1; simp at e; omega)
  obtain ⟨d1, d2⟩ := hr.dropped (w' := W8.setCell ⟨R2.p, 2, none⟩ v8) he (v := v8) (m := n8) (by rw [hn8, List.length_append, List.length_take, List.length_drop]; have := (List.getElem?_eq_some_iff.1 he).1; omega) (heap_setCell_row r8 2 _) (by rw [List.flatMap_append, ← sZ]; exact own_kept o8 hne) (but_touch t9 hr.row)
  exact ⟨cell_row r8 2, unfrozen_row r8 2, d1, t9.mono (by simp [RefD.foot]), d2⟩
set_option maxHeartbeats 4000000 in
theorem rDelete_any {w : World} {R : RefD} (h : RefAt w R) (key : List UInt8) (hk : key.length ≤ 1099511627776) (hn : R.fs.length ≤ 1048576) (hc : 0 ≤ R.c.calls ∧ R.c.calls ≤ 1099511627776) (hf : 0 ≤ R.c.faults ∧ R.c.faults ≤ 1099511627776) (hl : R.trs.length ≤ 1099511627776) (hu : 0 ≤ R.c.used ∧ R.c.used ≤ 1099511627776) (hbl : ∀ e ∈ R.fs, e.file.blocks.length ≤ 1099511627776) :
    Calls Tryz.prog 82 #[.pointer (some ⟨R.p, 0, none⟩), encStr key] w fun e w' => e = .returned (.int .i64 (R.delR key).1) ∧ ∃ v, RefAt w' ((R.delR key).2.fvd v) ∧ Touch R.foot w w' ∧ ∀ b ∈ ((R.delR key).2.fvd v).foot, b ∈ R.foot ∨ w.heap.size ≤ b := by
  have HK := hid (known_any h key hk (by omega))
  obtain ⟨p, hp⟩ : ∃ p, p = R.p := ⟨_, rfl⟩
  rw [← hp] at HK ⊢
  by_cases hcd : (R.known key).2 = 0
  · obtain ⟨h1, _, _, e0, he0, _⟩ := R.known_at hcd
    rw [h1, hcd] at HK
    obtain ⟨G, gc, hfv, hG, _, _, _, _⟩ := h.file he0
    obtain ⟨i, hi⟩ : ∃ i, i = findI R.names key := ⟨_, rfl⟩
    obtain ⟨n, hnn⟩ : ∃ n, n = R.fs.length := ⟨_, rfl⟩
    rw [← hi] at HK he0
    have hin : i < n := by rw [hnn]; exact (List.getElem?_eq_some_iff.1 he0).1
    have hlt1 : (i : Int) < (n : Int) := by omega
    have i0 : (0 : Int) ≤ (i : Int) := by omega
    have hpl : p < w.heap.size := by rw [hp]; exact lt_of_block h.row
    obtain ⟨t, ht⟩ : ∃ t, t = R.troub := ⟨_, rfl⟩
    obtain ⟨c, hcde⟩ : ∃ c, c = (R.befall true).1 := ⟨_, rfl⟩
    obtain ⟨d, hdn⟩ : ∃ d, d = (R.befall true).2.1 := ⟨_, rfl⟩
    obtain ⟨R2, hR2⟩ : ∃ R2, R2 = (R.befall true).2.2 := ⟨_, rfl⟩
    have hkp := R.called.met_keeps R.troub true
    have k1 : R2.fs = R.fs := by rw [hR2]; exact hkp.1
    have k2 : R2.fv = R.fv := by rw [hR2]; exact hkp.2.1
    have k3 : R2.p = R.p := by rw [hR2]; exact hkp.2.2.1
    have k4 : R2.foot = R.foot := by rw [hR2]; exact hkp.2.2.2.1
    have k5 : R2.c.used = R.c.used := by
      rw [hR2]
      unfold RefD.befall RefD.met
      (repeat' split) <;> rfl
    have HS : Hid (R.delR key = if d then (c, R2.dropAt i e0) else (c, R2)) := by
      show _ = _
      unfold RefD.delR
      rw [if_pos hcd, ← hi, he0]
      simp only
      rw [← hdn, ← hcde, ← hR2]
    have C97 : Hid (∀ w2, Quiet w w2 → Calls Tryz.prog 97 #[.pointer (some ⟨p, 0, none⟩)] w2 fun e w' => e = .returned (.agg #[.int .i64 t.at_, .int .i64 t.kind, .int .i64 t.bytes]) ∧ RefAt w' R.called ∧ Touch [p] w2 w') := fun w2 hq => by
      have r := trouble_any (h.below (quiet_below hq)) hc hl
      rw [← ht, ← hp] at r
      exact r
    have C98 : Hid (∀ W4, RefAt W4 R.called → Calls Tryz.prog 98 #[.pointer (some ⟨p, 0, none⟩), .agg #[.int .i64 t.at_, .int .i64 t.kind, .int .i64 t.bytes], .bool true] W4 fun e w' => e = .returned (.tuple #[.int .i64 c, .bool d]) ∧ RefAt w' R2 ∧ Touch [p] W4 w') := fun W4 hr => by
      have r := met_any hr t true hf
      have e1 : R.called.met t true = R.befall true := by unfold RefD.befall; rw [ht]
      rw [e1, ← hcde, ← hdn, ← hR2] at r
      rw [hp]
      exact r
    have PF : Hid (p ∈ R.foot) := by rw [hp]; show _ ∈ _; simp [RefD.foot]
    obtain ⟨m, hm⟩ : ∃ m, m = e0.file.blocks.length := ⟨_, rfl⟩
    obtain ⟨u, huu⟩ : ∃ u, u = R.c.used := ⟨_, rfl⟩
    have hm2 : m ≤ 1099511627776 := by rw [hm]; exact hbl e0 (List.mem_of_getElem? he0)
    rw [← huu] at hu
    have V1 : IntKind.i64.wrap (u - (m : Int)) = u - (m : Int) := by rw [IntKind.wrap_i64]; omega
    have V2 : IntKind.i64.wrap ((i : Int) + 1) = (i : Int) + 1 := by rw [IntKind.wrap_i64]; omega
    have i1 : (0 : Int) ≤ (i : Int) + 1 := by omega
    have i2 : (i : Int) + 1 ≤ (n : Int) := by omega
    have hgc : n ≤ gc := by
      rcases h.own.2 with ⟨e', _⟩ | ⟨g', cap, cur, e', _, hr, hnc, _⟩
      · rw [hfv] at e'; cases e'
      · rw [hfv] at e'
        simp only [Value.slice.injEq, Option.some.injEq, Addr.mk.injEq] at e'
        obtain ⟨_, _, rfl⟩ := e'
        rw [hnn]
        exact hnc
    have i3 : (i : Int) ≤ (gc : Int) := by omega
    have K5 : Hid (∀ w5, RefAt w5 R2 → w5.cell? ⟨p, 2, none⟩ = some (.slice (some ⟨G, 0, none⟩) n gc) ∧ w5.frozen? ⟨p, 2, none⟩ = false ∧ w5.cell? ⟨p, 9, none⟩ = some (.int .i64 u) ∧ w5.frozen? ⟨p, 9, none⟩ = false ∧ (∃ sa sc, w5.cell? ⟨G, i * 3 + 2, none⟩ = some (.slice sa m sc)) ∧ G ≠ p) := fun w5 hr => by
      have he2 : R2.fs[i]? = some e0 := by rw [k1]; exact he0
      have hv2 : R2.fv = .slice (some ⟨G, 0, none⟩) R2.fs.length gc := by rw [k2, k1]; exact hfv
      obtain ⟨G', gc', hv', _, _, _, q2, _⟩ := hr.file he2
      rw [hv2] at hv'
      simp only [Value.slice.injEq, Option.some.injEq, Addr.mk.injEq] at hv'
      obtain ⟨⟨rfl, -⟩, -, -⟩ := hv'
      have q5 : w5.cell? ⟨R2.p, 2, none⟩ = some R2.fv := cell_row hr.row 2
      have q6 : w5.cell? ⟨R2.p, 9, none⟩ = some (.int .i64 R2.c.used) := cell_row hr.row 9
      obtain ⟨sa, sc, hsv⟩ := sh_slice (hr.f31.own i _ (by rw [List.getElem?_map, he2]; rfl) : w5.ownsRow 0 31 1 e0.sv e0.file.blocks.length e0.vs)
      refine ⟨by rw [hp, ← k3, q5, hv2, k1, hnn], by rw [hp, ← k3]; exact unfrozen_row hr.row 2, by rw [hp, ← k3, q6, k5, huu], by rw [hp, ← k3]; exact unfrozen_row hr.row 9, ⟨sa, sc, by rw [q2, hsv, hm]⟩, fun e => ?_⟩
      rw [hp, ← k3] at e
      have r1 := hr.row
      rw [← e] at r1
      obtain ⟨c1, z1, r2⟩ := Lib.ownsRow_kind hr.own G (by rw [hv2]; rfl)
      rw [r2] at r1
      simp only [Option.some.injEq, Obj.cells.injEq] at r1
      exact absurd r1.2.1 (by decide)
    have K4 := hid k4
    have K6 := hid (fun (w5 : World) (hr : RefAt w5 R2) (Z : World) hZ => RefAt.cut (Z := Z) hr (by rw [k1]; exact he0 : R2.fs[i]? = some e0) (by rw [k2, k1]; exact hfv : R2.fv = .slice (some ⟨G, 0, none⟩) R2.fs.length gc) hZ)
    obtain ⟨A, hA⟩ : ∃ A, A = (R.fs.take i).flatMap RFile.cells := ⟨_, rfl⟩
    obtain ⟨D, hD⟩ : ∃ D, D = (R.fs.drop (i + 1)).flatMap RFile.cells := ⟨_, rfl⟩
    have sA : R.fs.flatMap RFile.cells = A ++ (e0.cells ++ D) := by
      conv => lhs; rw [split_at he0]
      rw [List.flatMap_append, List.flatMap_cons, hA, hD]
    have LA : Hid (A.length = i * 3) := by show _ = _; rw [hA, rflat_len, List.length_take, ← hnn]; omega
    have LD : Hid (D.length = (n - (i + 1)) * 3) := by show _ = _; rw [hD, rflat_len, List.length_drop, ← hnn]
    have svo : ∀ e ∈ R.fs, e.sv.oneCell' = true := fun e he => by
      obtain ⟨k, hk⟩ := List.getElem?_of_mem he
      obtain ⟨sa, sc, hsv⟩ := sh_slice (h.f31.own k _ (by rw [List.getElem?_map, hk]; rfl) : w.ownsRow 0 31 1 e.sv e.file.blocks.length e.vs)
      rw [hsv]
      rfl
    have OA : Hid (∀ u ∈ A, u.oneCell' = true) := by show ∀ u ∈ A, _; rw [hA]; exact rflat_one _ fun e he => svo e (List.mem_of_mem_take he)
    have OD : Hid (∀ u ∈ D, u.oneCell' = true) := by show ∀ u ∈ D, _; rw [hD]; exact rflat_one _ fun e he => svo e (List.mem_of_mem_drop he)
    have PA : Hid (∀ (j : Nat) x, A[j]? = some x → (R.fs.flatMap RFile.cells)[j]? = some x) := fun j x hx => by rw [sA, List.getElem?_append_left (List.getElem?_eq_some_iff.1 hx).1]; exact hx
    have PD : Hid (∀ (j : Nat) x, D[j]? = some x → (R.fs.flatMap RFile.cells)[(i + 1) * 3 + j]? = some x) := fun j x hx => by
      rw [sA, List.getElem?_append_right (by rw [LA.out]; omega), List.getElem?_append_right (by rw [LA.out]; simp [RFile.cells]; omega), LA.out]
      have e1 : (i + 1) * 3 + j - i * 3 - e0.cells.length = j := by simp [RFile.cells]; omega
      rw [e1]
      exact hx
    rw [k3, ← hp, k2, k1, hfv, k5, ← huu, ← hm, ← hnn, ← hA, ← hD] at K6
    rw [← hnn] at hn
    clear h hp h1 he0 hfv hcd hi hnn ht hcde hdn hR2 hkp k1 k2 k3 k4 k5 hm huu hA hD sA svo
    cases d with
    | true =>
      go_enter Tryz.func82, Tryz.ntmps82
      go_wp2_with (first
        | (have q := R3; clear q; go_at_call 98; refine (C98.out _ (R3.out.below ((Below.refl _ _).alloc (Nat.le_refl _) _))).mono ?_; rintro e w5 ⟨rfl, r5, t5⟩; obtain ⟨m0, m1, m2, m3, ⟨sa, sc, m4⟩, m5⟩ := K5.out _ r5; have R5 := hid r5; have T5 := hid t5; clear r5 t5)
        | (have q := HQ; clear q; go_at_call 97; refine (C97.out _ HQ.out).mono ?_; rintro e w3 ⟨rfl, r3, t3⟩; have R3 := hid r3; have T3 := hid t3; clear r3 t3)
        | (go_at_call 99; refine HK.out.mono ?_; rintro e w2 ⟨rfl, hq⟩; have HQ := hid hq; clear hq))
      go_region
      go_wp2
      obtain ⟨W6, hW6⟩ : ∃ W6, W6 = (w5.setCell ⟨p, 9, none⟩ (.int .i64 (u - (m : Int)))).drew := ⟨_, rfl⟩
      rw [← hW6]
      obtain ⟨z2, zG, z7⟩ := K6.out w5 R5.out W6.drew (by rw [hW6])
      have k62 : W6.cell? ⟨p, 2, none⟩ = some (.slice (some ⟨G, 0, none⟩) n gc) := z2
      have ZG := hid zG
      have Z7 := hid z7
      clear hW6 zG z7 z2 m0 m1 m2 m3 m4
      obtain ⟨o, HIF⟩ : ∃ o, Hid (((if gc = i + 1 then some (⟨G, 0, none⟩ : Addr) else some ⟨G, (i + 1) * 3, none⟩) = some ⟨G, o, none⟩) ∧ ∀ W7 : World, (∀ j x, (R.fs.flatMap RFile.cells)[j]? = some x → W7.cell? ⟨G, j, none⟩ = some x) → ∀ (j : Nat) x, D[j]? = some x → W7.cell? ((⟨G, o, none⟩ : Addr).add j) = some x) := by
        by_cases hgi : gc = i + 1
        · refine ⟨0, ?_, fun W7 _ j x hx => ?_⟩
          · rw [if_pos hgi]
          · have := (List.getElem?_eq_some_iff.1 hx).1
            rw [LD.out] at this
            omega
        · refine ⟨(i + 1) * 3, ?_, fun W7 hG j x hx => ?_⟩
          · rw [if_neg hgi]
          · rw [add_none_addr]
            exact hG _ x (PD.out j x hx)
      go_region_law (first
        | (have q := O7; clear q; refine step_far rfl _ _ 45 71 _ 3 48 rfl Tryz.underlying45 inf71 rfl (by decide) W6.drew.heap.size i (n - (i + 1)) (gc - (i + 1)) (.slice s7 i c7) A D ⟨G, o, none⟩ rfl O7.out (by show Value.slice (if gc = i + 1 then some (⟨G, 0, none⟩ : Addr) else some ⟨G, (i + 1) * 3, none⟩) (n - (i + 1)) (gc - (i + 1)) = _; rw [HIF.out.1]) LD.out (fun j x hx => HIF.out.2 W7 KG.out j x hx) OD.out (by omega) (by omega) G7.out.size ?_; intro v8 W8 o8 f8; obtain ⟨s8, c8, rfl⟩ := sh_slice o8; obtain ⟨k82, k83, k84⟩ := K8.out _ _ _ rfl o8 f8; have K84 := hid k84; clear o8 f8 k84)
        | (refine step_far rfl _ _ 45 71 _ 3 48 rfl Tryz.underlying45 inf71 rfl (by decide) W6.drew.heap.size 0 i gc (.slice none 0 0) [] A ⟨G, 0, none⟩ rfl (World.ownsRow_nil _ _ _ _) rfl LA.out (fun j x hx => by rw [add_zero_addr]; exact ZG.out j x (PA.out j x hx)) OA.out (by omega) (by omega) (Nat.le_refl _) ?_; intro v7 W7 o7 f7; rw [Nat.zero_add, List.nil_append] at o7; obtain ⟨s7, c7, rfl⟩ := sh_slice o7; have g7 : W6.drew.grownBy W7 none := (by rcases f7 with ⟨_, h1⟩ | ⟨_, h1⟩ <;> exact h1); obtain ⟨k72, kG, k8⟩ := Z7.out _ _ o7 g7; have O7 := hid o7; have G7 := hid g7; have KG := hid kG; have K8 := hid k8; clear o7 f7 g7 kG k8))
      all_goals go_wp2
      all_goals
        go_ret
        rw [HS.out]
        refine ⟨rfl, _, K84.out.1, ?_, fun b hb => ?_⟩
        · have tt : Touch R.foot w w5 := (((Touch.of_below (F := R.foot) (quiet_below HQ.out) (Nat.le_refl _)).trans T3.out (fun b hb => by simp at hb; subst hb; exact .inl PF.out)).alloc _).trans T5.out (fun b hb => by simp at hb; subst hb; exact .inl PF.out)
          exact tt.trans K84.out.2.1 (fun b hb => .inl (by have h9 := K4.out; rw [← h9]; exact hb))
        · have tt : Touch R.foot w w5 := (((Touch.of_below (F := R.foot) (quiet_below HQ.out) (Nat.le_refl _)).trans T3.out (fun b hb => by simp at hb; subst hb; exact .inl PF.out)).alloc _).trans T5.out (fun b hb => by simp at hb; subst hb; exact .inl PF.out)
          rcases K84.out.2.2 b hb with h9 | h9
          · exact .inl (by have h8 := K4.out; rw [← h8]; exact h9)
          · exact .inr (Nat.le_trans tt.size h9)
    | false =>
      go_enter Tryz.func82, Tryz.ntmps82
      go_wp2_with (first
        | (have q := R3; clear q; go_at_call 98; refine (C98.out _ (R3.out.below ((Below.refl _ _).alloc (Nat.le_refl _) _))).mono ?_; rintro e w5 ⟨rfl, r5, t5⟩; have R5 := hid r5; have T5 := hid t5; clear r5 t5)
        | (have q := HQ; clear q; go_at_call 97; refine (C97.out _ HQ.out).mono ?_; rintro e w3 ⟨rfl, r3, t3⟩; have R3 := hid r3; have T3 := hid t3; clear r3 t3)
        | (go_at_call 99; refine HK.out.mono ?_; rintro e w2 ⟨rfl, hq⟩; have HQ := hid hq; clear hq))
      go_ret
      rw [HS.out]
      refine ⟨rfl, R2.fv, R5.out, ?_, fun b hb => .inl (by have h9 := K4.out; rw [← h9]; exact hb)⟩
      exact (((Touch.of_below (F := R.foot) (quiet_below HQ.out) (Nat.le_refl _)).trans T3.out (fun b hb => by simp at hb; subst hb; exact .inl PF.out)).alloc _).trans T5.out (fun b hb => by simp at hb; subst hb; exact .inl PF.out)
  · obtain ⟨c, hcc⟩ : ∃ c, c = (R.known key).2 := ⟨_, rfl⟩
    have HS : Hid (R.delR key = (c, R)) := by show _ = _; unfold RefD.delR; rw [if_neg hcd, hcc]
    rw [← hcc] at HK hcd
    have HR := hid h
    clear h hp hcc
    go_enter Tryz.func82, Tryz.ntmps82
    go_wp2_with (go_at_call 99; refine HK.out.mono ?_; rintro e w2 ⟨rfl, hq⟩; have HQ := hid hq; clear hq)
    go_ret
    rw [HS.out]
    exact ⟨rfl, R.fv, HR.out.below (quiet_below HQ.out), Touch.of_below (quiet_below HQ.out) (Nat.le_refl _), fun b hb => .inl hb⟩
end Go.Proofs.YtcpncfngadablaaGreatDoor
/-
  The document's disk: Create: appends of nothing, a file more.
-/
namespace Go.Proofs.YtcpncfngadablaaGreatDoor
open Go.RowKit Go.Deep ShfKit
set_option maxRecDepth 100000
/-- an append of a list that is nil. -/
theorem run_append_none {P : Program} (w : World) (t ty e : TypeId) (i : TypeInfo) (ht : P.underlying t = some (.slice e)) (hi : P.info? e = some i) (b : Option Addr) (n cap c : Nat) (hn : n ≤ cap) :
    (Builtin.append_ #[t, t] ty #[.slice b n cap, .slice none 0 c]).run P w = .ok (.slice b n cap) w := by
  cases b <;> simp [Builtin.append_, run_underlying ht, sizeOf, typeInfo, hi, Builtin.lenOf, hn, run_firstCells_none, storeCells]
theorem wpl_none {ops : Array Oper} {rest : List Oper} {o : Oper} {a : Act} {Q : Exit → Act → World → Prop} {W : World} (hg : o.guard = none) (s x : Operand) (t : TypeId) (hop : o.op = Op.call { callee := Callee.builtin Builtin.append, args := #[s, x], argTypes := #[t, t] })
    (e : TypeId) (z : Value) (size bytes : Nat) (ht : Tryz.prog.underlying t = some (.slice e)) (hinf : (Tryz.prog.info? e).map (fun i => (i.zero, i.size, i.bytes)) = some (some z, size, bytes))
    (b : Option Addr) (n cap c : Nat) (hs : a.eval s = .slice b n cap) (hx : a.eval x = .slice none 0 c) (hn : n ≤ cap) (hK : wpList Tryz.prog ops Q rest (a.put o.dst (.slice b n cap)) W) :
    wpList Tryz.prog ops Q (o :: rest) a W := by
  obtain ⟨i, hi, hz0, hz1, hz2⟩ := info_parts hinf
  refine wpList_plain hg fun K hK' => ?_
  have hrun := run_append_none (P := Tryz.prog) W t o.type e i ht hi b n cap c hn
  unfold Oper.wp
  simp [execOp, hop, resolve, invoke, builtin, hs, hx, hrun, Result.andThen]
  exact hK' _ _ hK
theorem fam_iff {W : World} {B e size : Nat} {L : List Rw} : Fam W B e size L ↔ (∀ x ∈ L, W.ownsRow B e size x.1 x.2.1 x.2.2) ∧ L.Pairwise (fun x y : Rw => ∀ g, x.1.ownBlock = some g → y.1.ownBlock ≠ some g) := by
  refine ⟨fun h => ⟨fun x hx => ?_, List.pairwise_iff_getElem.2 fun i j hi hj hij g hg => h.apart i j _ _ g (List.getElem?_eq_getElem hi) (List.getElem?_eq_getElem hj) (by omega) hg⟩, fun h => ⟨fun i x hx => h.1 x (List.mem_of_getElem? hx), fun i j x y g hx hy hne hg hg' => ?_⟩⟩
  · obtain ⟨k, hk⟩ := List.getElem?_of_mem hx
    exact h.own k x hk
  · have pw := List.pairwise_iff_getElem.1 h.2
    obtain ⟨hi, rfl⟩ := List.getElem?_eq_some_iff.1 hx
    obtain ⟨hj, rfl⟩ := List.getElem?_eq_some_iff.1 hy
    rcases Nat.lt_or_gt_of_ne hne with hlt | hlt
    · exact pw i j hi hj hlt g hg hg'
    · exact pw j i hj hi hlt g hg' hg
/-- a row more that has no block. -/
theorem fam_ins {W : World} {B e size : Nat} {A C : List Rw} {y : Rw} (h : Fam W B e size (A ++ C)) (hy : y.1.ownBlock = none) (ho : W.ownsRow B e size y.1 y.2.1 y.2.2) : Fam W B e size (A ++ y :: C) := by
  obtain ⟨h1, h2⟩ := fam_iff.1 h
  obtain ⟨p1, p2, p3⟩ := List.pairwise_append.1 h2
  refine fam_iff.2 ⟨fun x hx => ?_, List.pairwise_append.2 ⟨p1, List.pairwise_cons.2 ⟨fun b _ g hg => (by rw [hy] at hg; cases hg), p2⟩, fun a ha b hb g hg => ?_⟩⟩
  · rcases List.mem_append.1 hx with h3 | h3
    · exact h1 x (List.mem_append.2 (.inl h3))
    · rcases List.mem_cons.1 h3 with rfl | h4
      · exact ho
      · exact h1 x (List.mem_append.2 (.inr h4))
  · rcases List.mem_cons.1 hb with rfl | h4
    · rw [hy]
      simp
    · exact p3 a ha b h4 g hg
def RFile.fresh (key : List UInt8) : RFile := ⟨key, { shut := false, blocks := [] }, .slice none 0 0, []⟩
/-- a file more. -/
def RefD.addAt (R : RefD) (k : Nat) (key : List UInt8) : RefD := { R with fs := R.fs.take k ++ RFile.fresh key :: R.fs.drop k }
theorem RefAt.added {w w' : World} {R : RefD} (h : RefAt w R) {k : Nat} {key : List UInt8} {v : Value} {m : Nat} (hm : m = (R.fs.take k ++ RFile.fresh key :: R.fs.drop k).length)
    (hrow : w'.heap[R.p]? = some (.cells ((R.addAt k key).fvd v).row 100 (0, 0))) (ho : w'.ownsRow w.heap.size 71 3 v m ((R.fs.take k ++ RFile.fresh key :: R.fs.drop k).flatMap RFile.cells)) (hb : But 100 w w') :
    RefAt w' ((R.addAt k key).fvd v) ∧ ∀ b ∈ ((R.addAt k key).fvd v).foot, b ∈ R.foot ∨ w.heap.size ≤ b := by
  have s1 : (R.fs.take k ++ RFile.fresh key :: R.fs.drop k).map RFile.r31 = (R.fs.take k).map RFile.r31 ++ (.slice none 0 0, 0, []) :: (R.fs.drop k).map RFile.r31 := by
    rw [List.map_append, List.map_cons]
    rfl
  have s0 : R.fs.map RFile.r31 = (R.fs.take k).map RFile.r31 ++ (R.fs.drop k).map RFile.r31 := by rw [← List.map_append, List.take_append_drop]
  have s2 : (R.fs.take k ++ RFile.fresh key :: R.fs.drop k).flatMap (RFile.r5 R.B) = R.fs.flatMap (RFile.r5 R.B) := by
    conv => rhs; rw [← List.take_append_drop k R.fs]
    rw [List.flatMap_append, List.flatMap_append, List.flatMap_cons]
    rfl
  have b1 : blks ((R.fs.take k ++ RFile.fresh key :: R.fs.drop k).map RFile.r31) = blks (R.fs.map RFile.r31) := by
    rw [s1, s0, blks_append, blks_append]
    rfl
  refine ⟨⟨hrow, ?_, hb.own h.tro (by decide), ?_, ?_, fun x hx => ?_⟩, fun b hbm => ?_⟩
  · show World.ownsRow _ 0 71 3 v (R.fs.take k ++ RFile.fresh key :: R.fs.drop k).length _
    rw [← hm]
    exact own_base ho (Nat.zero_le _)
  · show Fam _ 0 31 1 ((R.fs.take k ++ RFile.fresh key :: R.fs.drop k).map RFile.r31)
    rw [s1]
    have h31 := hb.fam h.f31 (by decide)
    rw [s0] at h31
    exact fam_ins h31 rfl (World.ownsRow_nil _ _ _ _)
  · show Fam _ 0 5 1 ((R.fs.take k ++ RFile.fresh key :: R.fs.drop k).flatMap (RFile.r5 R.B))
    rw [s2]
    exact hb.fam h.f5 (by decide)
  · have hx' : x ∈ R.fs.take k ++ RFile.fresh key :: R.fs.drop k := hx
    rw [List.mem_append, List.mem_cons] at hx'
    rcases hx' with h1 | rfl | h1
    · exact h.len x (List.mem_of_mem_take h1)
    · rfl
    · exact h.len x (List.mem_of_mem_drop h1)
  · have hb' : b ∈ R.p :: (v.ownBlock.toList ++ (R.tv.ownBlock.toList ++ (blks ((R.fs.take k ++ RFile.fresh key :: R.fs.drop k).map RFile.r31) ++ blks ((R.fs.take k ++ RFile.fresh key :: R.fs.drop k).flatMap (RFile.r5 R.B))))) := hbm
    rw [b1, s2] at hb'
    simp only [List.mem_append, List.mem_cons, Option.mem_toList] at hb'
    simp only [RefD.foot, List.mem_append, List.mem_cons, Option.mem_toList]
    rcases hb' with h1 | h1 | h1 | h1 | h1
    · exact .inl (.inl h1)
    · exact .inr (own_block ho h1).1
    · exact .inl (.inr (.inr (.inl h1)))
    · exact .inl (.inr (.inr (.inr (.inl h1))))
    · exact .inl (.inr (.inr (.inr (.inr h1))))
end Go.Proofs.YtcpncfngadablaaGreatDoor
