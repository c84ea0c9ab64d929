import Derived.Carry
import Derived.Test.YtdkboifpdodonabGreatDoorZ17
set_option linter.unusedSimpArgs false
/-
  FormulaMeans: both, over, set.
-/
namespace Go.Proofs.YtdkboifpdodonabGreatDoor.Doc
open Go.RowKit Go.Deep PureCnf PureForm
set_option maxRecDepth 100000

/-- a list of nodes in the making. -/
structure NL (w W : World) (v : Value) (l : List Nd) : Prop where
  own : W.ownsRow w.heap.size 49 2 v l.length (nds l)
  below : Below w.heap.size w W
theorem NL.nil (w : World) : NL w w (.slice none 0 0) [] := ⟨World.ownsRow_nil _ _ _ _, Below.refl _ _⟩
theorem NL.on {w W W' : World} {v : Value} {l : List Nd} (h : NL w W v l) (hb : Below W.heap.size W W') : NL w W' v l := ⟨ownsRow_below h.own hb, h.below.trans (hb.mono h.below.size)⟩
theorem nds_append (a b : List Nd) : nds (a ++ b) = nds a ++ nds b := by simp [nds]
theorem nds_one (l : List Nd) : ∀ u ∈ nds l, u.oneCell' = true := by
  intro u hu
  simp only [nds, List.mem_flatMap] at hu
  obtain ⟨p, _, hp⟩ := hu
  simp [nd] at hp
  rcases hp with rfl | rfl <;> rfl
theorem app_nodes {ops : Array Oper} {rest : List Oper} {o : Oper} {a : Act} {Q : Exit → Act → World → Prop} {w W : World} {v : Value} {l : List Nd} (hgd : o.guard = none) (sl y : Operand)
    (ho : o.op = .call { callee := .builtin .append, args := #[sl, y], argTypes := #[22, 22] }) (h : NL w W v l) (g : List Nd) (sg : Option Addr) (cg : Nat) (hg : NodesAt W sg g) (hcg : sg = none → cg = 0) (hs : a.eval sl = v) (hx : a.eval y = .slice sg g.length cg) (hl : l.length + g.length ≤ 1099511627776)
    (hK : ∀ sx cx w', NL w w' (.slice sx (l.length + g.length) cx) (l ++ g) → wpList Tryz.prog ops Q rest (a.put o.dst (.slice sx (l.length + g.length) cx)) w') :
    wpList Tryz.prog ops Q (o :: rest) a W := by
  obtain ⟨i, hi, hz0, hz1, hz2⟩ := info_parts info51
  cases sg with
  | none =>
    have h0 : g = [] := by
      cases g with
      | nil => rfl
      | cons x r =>
        obtain ⟨g', o', e, _⟩ := hg.at_ 0 (by simp)
        cases e
    subst h0
    have hc := hcg rfl
    subst hc
    obtain ⟨sx, cx, hv⟩ := own_shape h.own
    refine wpList_append_own_none hgd sl y 22 ho w.heap.size 49 i 2 Tryz.underlying22 hi v l.length (nds l) hs h.own hx ?_
    have := hK sx cx W (by simpa [← hv] using h)
    simpa [← hv] using this
  | some ad =>
    refine wpList_append_own W hgd sl y 22 ho w.heap.size 49 i _ 2 16 Tryz.underlying22 hi hz0 hz1 hz2 rfl (by decide) v l.length (nds l) hs h.own ad g.length cg (nds g) hx (nds_length g) (fun j u hu => ?_) (nds_one g) (by unfold maxLen; omega) (by omega) h.below.size ?_
    · have hj : j < g.length * 2 := by
        have := (List.getElem?_eq_some_iff.1 hu).1
        rwa [nds_length] at this
      obtain ⟨b, o', e, _, c0, c1⟩ := hg.at_ (j / 2) (by omega)
      cases e
      have hat := nds_at g (j / 2) (j % 2) (by omega) (by omega)
      rw [show j / 2 * 2 + j % 2 = j by omega, hu] at hat
      have hadd : (⟨b, o', none⟩ : Addr).add j = ⟨b, o' + j, none⟩ := by
        by_cases h0 : j = 0
        · subst h0; simp [Addr.add]
        · simp [Addr.add, h0]
      rw [hadd, hat]
      rcases (show j % 2 = 0 ∨ j % 2 = 1 by omega) with h2 | h2
      · rw [h2, show o' + j = o' + j / 2 * 2 by omega, c0]; rfl
      · rw [h2, show o' + j = o' + j / 2 * 2 + 1 by omega, c1]; rfl
    · intro v' w' o' g' _
      have o2 : w'.ownsRow w.heap.size 49 2 v' (l ++ g).length (nds (l ++ g)) := by
        rw [nds_append, List.length_append]
        exact o'
      obtain ⟨sx, cx, rfl⟩ := own_shape o2
      rw [List.length_append] at o2 ⊢
      exact hK sx cx w' ⟨by rw [List.length_append]; exact o2, h.below.grown g' h.below.size (fun j hj => (h.own.lt j hj).1)⟩
theorem app_nodes0 {ops : Array Oper} {rest : List Oper} {o : Oper} {a : Act} {Q : Exit → Act → World → Prop} {w W : World} (hgd : o.guard = none) (sl y : Operand)
    (ho : o.op = .call { callee := .builtin .append, args := #[sl, y], argTypes := #[22, 22] }) (h : NL w W (.slice none 0 0) []) (g : List Nd) (sg : Option Addr) (cg : Nat) (hg : NodesAt W sg g) (hcg : sg = none → cg = 0) (hs : a.eval sl = .slice none 0 0) (hx : a.eval y = .slice sg g.length cg) (hl : g.length ≤ 1099511627776)
    (hK : ∀ sx cx w', NL w w' (.slice sx g.length cx) g → wpList Tryz.prog ops Q rest (a.put o.dst (.slice sx g.length cx)) w') :
    wpList Tryz.prog ops Q (o :: rest) a W := by
  refine app_nodes hgd sl y ho h g sg cg hg hcg hs hx (by simpa using hl) ?_
  intro sx cx w' hn
  simp only [List.length_nil, Nat.zero_add, List.nil_append] at hn ⊢
  exact hK sx cx w' hn
theorem app_node1 {ops : Array Oper} {rest : List Oper} {o : Oper} {a : Act} {Q : Exit → Act → World → Prop} {w W : World} {v : Value} {l : List Nd} (hgd : o.guard = none) (sl y : Operand)
    (ho : o.op = .call { callee := .builtin .append, args := #[sl, y], argTypes := #[22, 22] }) (h : NL w W v l) (x : Nd) (ad : Nat) (had : ad = W.heap.size) (hs : a.eval sl = v) (hx : a.eval y = .slice (some ⟨ad, 0, none⟩) 1 1) (n : Nat) (hn : n = l.length) (hl : l.length ≤ 1099511627776)
    (hK : ∀ sx cx w', NL w w' (.slice sx (n + 1) cx) (l ++ [x]) → wpList Tryz.prog ops Q rest (a.put o.dst (.slice sx (n + 1) cx)) w') :
    wpList Tryz.prog ops Q (o :: rest) a (W.alloc (.cells #[.int .i64 x.1, .int .i64 x.2] 49)) := by
  subst had hn
  have h2 := h.on ((Below.refl _ _).alloc (Nat.le_refl _) (Obj.cells #[.int .i64 x.1, .int .i64 x.2] 49))
  refine app_one hgd sl y 22 49 _ 2 16 ho Tryz.underlying22 info51 rfl (by decide) (by decide) w.heap.size l.length v (nds l) (nd x) ⟨W.heap.size, 0, none⟩ hs h2.own hx rfl (fun j u hu => by rw [add_zero_addr, cell_row (heap_alloc_new W _)]; simpa [nd] using hu) (fun u hu => by simp [nd] at hu; rcases hu with rfl | rfl <;> rfl) hl h2.below.size ?_
  intro v4 w4 o4 g4
  have o5 : w4.ownsRow w.heap.size 49 2 v4 (l ++ [x]).length (nds (l ++ [x])) := by
    rw [nds_append, List.length_append]
    simpa [nds] using o4
  obtain ⟨sx, cx, rfl⟩ := own_shape o5
  rw [List.length_append] at o5 ⊢
  exact hK sx cx w4 ⟨by rw [List.length_append]; exact o5, h2.below.grown g4 h2.below.size (fun j hj => (h2.own.lt j hj).1)⟩

set_option maxHeartbeats 1000000 in
set_option maxRecDepth 100000 in
theorem both_any (f g : List Nd) (sf sg : Option Addr) (cf cg : Nat) (op : Int) (w : World) (hf : NodesAt w sf f) (hg : NodesAt w sg g) (hcf : sf = none → cf = 0) (hcg : sg = none → cg = 0) (hl : f.length + g.length ≤ 1099511627776) :
    Calls Tryz.prog 20 #[.slice sf f.length cf, .slice sg g.length cg, .int .i64 op] w fun e w' => ∃ sx cx, e = .returned (.slice sx (f ++ g ++ [(op, 0)]).length cx) ∧ NodesAt w' sx (f ++ g ++ [(op, 0)]) ∧ Below w.heap.size w w' := by
  have HF := hid hf
  have HG := hid hg
  have HCF := hid hcf
  have HCG := hid hcg
  clear hf hg hcf hcg
  go_enter Tryz.func20, Tryz.ntmps20
  go_wp2_with (first
    | (have q := N2; clear q; at_builtin; refine app_node1 rfl _ _ rfl N2.out (op, 0) _ rfl rfl rfl (f.length + g.length) (by simp) (by simp; omega) ?_; intro s3 c3 w3 n3; have N3 := hid n3; clear n3)
    | (have q := N1; clear q; at_builtin; refine app_nodes rfl _ _ rfl N1.out g sg cg (HG.out.below N1.out.below) HCG.out rfl rfl hl ?_; intro s2 c2 w2 n2; have N2 := hid n2; clear n2)
    | (at_builtin; refine app_nodes0 rfl _ _ rfl (NL.nil w) f sf cf HF.out HCF.out rfl rfl (by omega) ?_; intro s1 c1 w1 n1; have N1 := hid n1; clear n1))
  go_ret
  obtain ⟨sx, cx, hv, hn⟩ := own_nodes N3.out.own
  exact ⟨sx, cx, congrArg Ending.returned hv, hn, N3.out.below⟩

set_option maxHeartbeats 1000000 in
set_option maxRecDepth 100000 in
theorem over_any (f : List Nd) (sf : Option Addr) (cf : Nat) (x : Nd) (w : World) (hf : NodesAt w sf f) (hcf : sf = none → cf = 0) (hl : f.length ≤ 1099511627776) :
    Calls Tryz.prog 22 #[.slice sf f.length cf, .agg #[.int .i64 x.1, .int .i64 x.2]] w fun e w' => ∃ sx cx, e = .returned (.slice sx (f ++ [x]).length cx) ∧ NodesAt w' sx (f ++ [x]) ∧ Below w.heap.size w w' := by
  have HF := hid hf
  have HCF := hid hcf
  clear hf hcf
  obtain ⟨x1, x2⟩ := x
  simp only
  go_enter Tryz.func22, Tryz.ntmps22
  go_wp2_with (first
    | (have q := N1; clear q; at_builtin; refine app_node1 rfl _ _ rfl N1.out (x1, x2) _ rfl rfl rfl f.length rfl hl ?_; intro s3 c3 w3 n3; have N3 := hid n3; clear n3)
    | (at_builtin; refine app_nodes0 rfl _ _ rfl (NL.nil (w.alloc (Obj.cells #[.int .i64 x1, .int .i64 x2] 49))) f sf cf (HF.out.below ((Below.refl _ _).alloc (Nat.le_refl _) _)) HCF.out rfl rfl hl ?_; intro s1 c1 w1 n1; have r1 := (n1.below.block w.heap.size (by simp)).trans (heap_alloc_new w _); have d1 := fun j => cell_row r1 j; have hs1 := (Array.getElem?_eq_some_iff.1 r1).1; have N1 := hid n1; clear n1 r1))
  go_ret
  obtain ⟨sx, cx, hv, hn⟩ := own_nodes N3.out.own
  have hb0 : Below w.heap.size w (w.alloc (Obj.cells #[.int .i64 x1, .int .i64 x2] 49)) := (Below.refl _ _).alloc (Nat.le_refl _) _
  exact ⟨sx, cx, (congrArg Ending.returned hv).trans (by simp), hn, hb0.trans (N3.out.below.mono hb0.size)⟩

def lenOfV (v : Value) : Nat := match v with
  | .slice _ n _ => n
  | _ => 0
/-- truths in the making. -/
structure BL (w W : World) (v : Value) (L : List Bool) : Prop where
  own : W.ownsRow w.heap.size 4 1 v L.length (bo L)
  below : Below w.heap.size w W
theorem BL.nil (w : World) : BL w w (.slice none 0 0) [] := ⟨World.ownsRow_nil _ _ _ _, Below.refl _ _⟩
theorem BL.on {w W W' : World} {v : Value} {L : List Bool} (h : BL w W v L) (hb : Below W.heap.size W W') : BL w W' v L := ⟨ownsRow_below h.own hb, h.below.trans (hb.mono h.below.size)⟩
theorem BL.at_ {w W : World} {v : Value} {L : List Bool} (h : BL w W v L) (h0 : 0 < L.length) : ∃ g cap, v = .slice (some ⟨g, 0, none⟩) L.length cap ∧ L.length ≤ cap ∧ g < W.heap.size ∧ (∀ j, W.frozen? ⟨g, j, none⟩ = false) ∧ ∀ k (hk : k < L.length), W.cell? ⟨g, k, none⟩ = some (.bool L[k]) := by
  rcases h.own.2 with ⟨_, h1⟩ | ⟨g, cap, cur, hv, hB, hg, hk, hc, hs, ht⟩
  · omega
  · refine ⟨g, cap, hv, hk, (Array.getElem?_eq_some_iff.1 hg).1, fun j => unfrozen_row hg j, fun k hk => ?_⟩
    rw [cell_row hg]
    have e : (cur.toList.take (L.length * 1))[k]? = (bo L)[k]? := by rw [ht]
    rw [List.getElem?_take_of_lt (by omega)] at e
    simp only [bo, List.getElem?_map, List.getElem?_eq_getElem hk, Option.map_some] at e
    simpa using e
theorem BL.put {w W : World} {g cap n : Nat} {L : List Bool} (h : BL w W (.slice (some ⟨g, 0, none⟩) n cap) L) (k : Nat) (u : Bool) : BL w (W.setCell ⟨g, k, none⟩ (.bool u)) (.slice (some ⟨g, 0, none⟩) n cap) (L.set k u) := by
  rcases h.own.2 with ⟨h1, _⟩ | ⟨g', cap', cur, hv, hB, hg, hn, hc, hs, ht⟩
  · simp at h1
  · simp only [Value.slice.injEq, Option.some.injEq, Addr.mk.injEq, and_true] at hv
    obtain ⟨rfl, rfl, rfl⟩ := hv
    refine ⟨⟨by simp [bo], .inr ⟨g, cap, cur.setIfInBounds k (.bool u), by simp, hB, row_set hg, by simpa using hn, hc, by simpa using hs, ?_⟩⟩, h.below.setCell hB _⟩
    have e1 := congrArg (fun l => l.set k (Value.bool u)) ht
    simp only [List.take_set, Array.toList_setIfInBounds, List.length_set] at e1 ⊢
    rw [e1]
    simp [bo]
theorem app_boolsO {ops : Array Oper} {rest : List Oper} {o : Oper} {a : Act} {Q : Exit → Act → World → Prop} {W : World} (hgd : o.guard = none) (sl y : Operand)
    (ho : o.op = .call { callee := .builtin .append, args := #[sl, y], argTypes := #[41, 41] }) (L : List Bool) (sb : Option Addr) (cb : Nat) (hb : BitsAt W sb L) (hcb : sb = none → cb = 0) (hs : a.eval sl = .slice none 0 0) (hx : a.eval y = .slice sb L.length cb) (hl : L.length ≤ 140737488351232)
    (hK : ∀ sx cx w', BL W w' (.slice sx L.length cx) L → wpList Tryz.prog ops Q rest (a.put o.dst (.slice sx L.length cx)) w') :
    wpList Tryz.prog ops Q (o :: rest) a W := by
  cases sb with
  | none =>
    have h0 : L = [] := by
      cases L with
      | nil => rfl
      | cons x r =>
        obtain ⟨g, o, e, _⟩ := hb.at_ 0 (by simp)
        cases e
    subst h0
    obtain ⟨i, hi, _⟩ := info_parts info4
    have hc := hcb rfl
    subst hc
    exact wpList_append_own_none hgd sl y 41 ho W.heap.size 4 i 1 Tryz.underlying41 hi (.slice none 0 0) 0 [] hs (World.ownsRow_nil _ _ _ _) hx (hK none 0 W (BL.nil W))
  | some ad =>
    obtain ⟨i, hi, hz0, hz1, hz2⟩ := info_parts info4
    have hown : W.ownsRow W.heap.size 4 1 (.slice none 0 0) 0 [] := World.ownsRow_nil _ _ _ _
    refine wpList_append_own W hgd sl y 41 ho W.heap.size 4 i _ 1 1 Tryz.underlying41 hi hz0 hz1 hz2 rfl (by decide) (.slice none 0 0) 0 [] hs hown ad L.length cb (bo L) hx (by simp [bo]) (fun j u hu => ?_) (fun u hu => by simp only [bo, List.mem_map] at hu; obtain ⟨x, _, rfl⟩ := hu; rfl) (by unfold maxLen; omega) (by omega) (Nat.le_refl _) ?_
    · have hj : j < L.length := by
        have := (List.getElem?_eq_some_iff.1 hu).1
        simpa [bo] using this
      obtain ⟨g, o, e, _, c0⟩ := hb.at_ j hj
      cases e
      simp only [bo, List.getElem?_map, List.getElem?_eq_getElem hj, Option.map_some, Option.some.injEq] at hu
      rw [← hu]
      by_cases h0 : j = 0
      · subst h0
        simpa [Addr.add] using c0
      · simpa [Addr.add, h0] using c0
    · intro v' w' o' g' _
      rw [List.nil_append, Nat.zero_add] at o'
      obtain ⟨sx, cx, rfl⟩ := own_shape o'
      exact hK sx cx w' ⟨o', (Below.refl _ _).grown g' (Nat.le_refl _) (fun j hj => by simp [Value.ownBlock] at hj)⟩

set_option maxHeartbeats 1000000 in
set_option maxRecDepth 100000 in
theorem set_any (L : List Bool) (sb : Option Addr) (cb k : Nat) (v : Bool) (w : World) (hb : BitsAt w sb L) (hcb : sb = none → cb = 0) (hL : L.length ≤ 140737488351232) (hk : k < 1000) :
    Calls Tryz.prog 23 #[.slice sb L.length cb, .int .i64 (k : Int), .bool v] w fun e w' => ∃ sx cx M, e = .returned (.slice sx M.length cx) ∧ BitsAt w' sx M ∧ M.length ≤ 140737488351232 ∧ bitsE M = upd (bitsE L) (k : Int) v ∧ Below w.heap.size w w' := by
  have HB := hid hb
  have HCB := hid hcb
  clear hb hcb
  go_enter Tryz.func23, Tryz.ntmps23
  go_wp2_with (at_builtin; refine app_boolsO rfl _ _ rfl L sb cb HB.out HCB.out rfl rfl (by omega) ?_; intro sx cx w1 n1; have N1 := hid n1; clear n1)
  go_loopw [7] (fun lv W => ∃ (L1 : List Bool) (s1 : Option Addr) (c1 : Nat), lv = .slice s1 L1.length c1 ∧ L1.length ≤ 140737488351232 ∧ Hid (BL w W (.slice s1 L1.length c1) L1 ∧ bitsE L1 = bitsE L)) (fun lv _ => 1000 - lenOfV lv)
  case atStart => exact ⟨L, sx, cx, rfl, by omega, N1.out, rfl⟩
  case round =>
    clear N1
    obtain ⟨L1, s1, c1, rfl, hl1, HR⟩ := hrel
    obtain ⟨h1, h2⟩ := HR.out
    have H1 := hid h1
    have H2 := hid h2
    clear HR h1 h2
    by_cases hle : (L1.length : Int) ≤ (k : Int)
    · go_wp2_with (at_builtin; refine app_one rfl _ _ 41 4 _ 1 1 rfl Tryz.underlying41 info4 rfl (by decide) (by decide) w.heap.size L1.length (.slice s1 L1.length c1) (bo L1) [.bool false] ⟨wr.heap.size, 0, none⟩ rfl (H1.out.on ((Below.refl _ _).alloc (Nat.le_refl _) _)).own rfl rfl (fun j u hu => by rw [add_zero_addr, cell_row (heap_alloc_new wr _)]; simpa using hu) (fun u hu => by simp at hu; subst hu; rfl) (by omega) (by have := H1.out.below.size; simp; omega) ?_; intro v4 w4 o4 g4; obtain ⟨s4, c4, rfl⟩ := own_shape o4; have N4 : Hid (BL w w4 (.slice s4 (L1.length + 1) c4) (L1 ++ [false])) := ⟨(by rw [List.length_append]; simpa [bo] using o4), (H1.out.on ((Below.refl _ _).alloc (Nat.le_refl _) _)).below.grown g4 (by have := H1.out.below.size; simp; omega) (fun j hj => (H1.out.own.lt j hj).1)⟩; clear o4 g4)
      exact ⟨⟨L1 ++ [false], s4, c4, by simp, by simp; omega, by simpa using N4.out, by rw [bitsE_snoc]; exact H2.out⟩, by simp [lenOfV]; omega⟩
    · obtain ⟨g, cap, hsl, hcap, hg, hfz, hcell⟩ := H1.out.at_ (by omega)
      simp only [Value.slice.injEq, true_and] at hsl
      obtain ⟨rfl, rfl⟩ := hsl
      have hkl : k < L1.length := by omega
      have ck := hcell k hkl
      have fk := hfz k
      have HP := hid (H1.out.put k v)
      have HU : Hid (bitsE (L1.set k v) = upd (bitsE L) (k : Int) v) := by show _ = _; rw [bitsE_set1 hkl, H2.out]
      clear hcell hfz
      go_wp2
      go_ret
      obtain ⟨sx2, cx2, hv2, hb2⟩ := own_bits HP.out.own
      exact ⟨sx2, cx2, L1.set k v, congrArg Ending.returned hv2, hb2, by simp; omega, HU.out, HP.out.below⟩
end Go.Proofs.YtdkboifpdodonabGreatDoor.Doc
/-
  FormulaMeans: the mathematics.
-/
namespace Go.Proofs.YtdkboifpdodonabGreatDoor.Doc
open Go.RowKit Go.Deep PureCnf PureForm
set_option maxRecDepth 100000

theorem evalF_err {f : List Nd} {L : List Bool} {n : Nat} (h : evalF f L = .error n) : n ≠ 0 := by
  unfold evalF at h
  split at h
  · split at h
    · split at h
      · cases h; decide
      · cases h
    · cases h; decide
  · cases h; decide
theorem eval_shape (f : List Nd) (L : List Bool) : ∃ (a : Bool) (n : Int), evalV (evalF f L) = .tuple #[.bool a, .int .i64 n] ∧ (n = 0 → evalF f L = .ok a) ∧ (∀ x, evalF f L = .ok x → a = x ∧ n = 0) := by
  cases h : evalF f L with
  | ok b => exact ⟨b, 0, rfl, fun _ => rfl, fun x e => by cases e; exact ⟨rfl, rfl⟩⟩
  | error n =>
    refine ⟨false, n, rfl, fun e => ?_, fun x e => by cases e⟩
    have := evalF_err h
    omega
theorem ok_small {f : List Nd} {L : List Bool} {a : Bool} (h : evalF f L = .ok a) : f.length ≤ 65536 := by
  obtain ⟨t, ht, hfm, _⟩ := evalF_ok h
  unfold formedF at hfm
  rw [ht] at hfm
  exact (of_decide_eq_true hfm).1
/-- the five answers. -/
def wantB (a b : Bool) (k : Nat) : Bool := if k = 0 then (a && b) else if k = 1 then (a || b) else if k = 2 then (a != b) else if k = 3 then (!a || b) else (a == b)
theorem both_ok {f g : List Nd} {L : List Bool} {a b : Bool} (hf : evalF f L = .ok a) (hg : evalF g L = .ok b) {k : Nat} (hk : k < 5) (hw : formedF (f ++ g ++ [((6 : Int) + (k : Int), 0)]) = true) : evalF (f ++ g ++ [((6 : Int) + (k : Int), 0)]) L = .ok (wantB a b k) := by
  obtain ⟨t, ht, _, hwt, ha⟩ := evalF_ok hf
  obtain ⟨u, hu, _, hwu, hb⟩ := evalF_ok hg
  have ho : two ((6 : Int) + (k : Int)) = true := by unfold two; exact decide_eq_true ⟨by omega, by omega⟩
  have hb2 := PureForm.tree_bi ht hu ho
  rw [evalF_of hb2 hw (by simp only [Tr.within_lf, Tr.within_un, Tr.within_bi, Tr.within_te]; omega)]
  subst ha hb
  congr 1
  obtain rfl | rfl | rfl | rfl | rfl : k = 0 ∨ k = 1 ∨ k = 2 ∨ k = 3 ∨ k = 4 := by omega
  all_goals rfl
theorem not_ok {f : List Nd} {L : List Bool} {a : Bool} (hf : evalF f L = .ok a) (hw : formedF (f ++ [(3, 0)]) = true) : evalF (f ++ [(3, 0)]) L = .ok (!a) := by
  obtain ⟨t, ht, _, hwt, ha⟩ := evalF_ok hf
  have h2 := tree_un (x := (3, 0)) ht (.inl ⟨rfl, rfl⟩)
  rw [evalF_of h2 hw (by simp [Tr.within_lf, Tr.within_un, Tr.within_bi, Tr.within_te, isQ]; omega)]
  subst ha
  rfl
/-- what a formula says with one truth turned. -/
def turnB (f : List Nd) (L : List Bool) (v : Nat) (u : Bool) : Bool := match treeOf f with
  | some t => t.says (upd (bitsE L) (v : Int) u)
  | none => false
theorem turn_ok {f : List Nd} {L M : List Bool} {a : Bool} {v : Nat} {u : Bool} (hf : evalF f L = .ok a) (hM : bitsE M = upd (bitsE L) (v : Int) u) : evalF f M = .ok (turnB f L v u) := by
  obtain ⟨t, ht, hfm, hwt, _⟩ := evalF_ok hf
  rw [evalF_of ht hfm hwt, hM]
  unfold turnB
  rw [ht]
theorem quant_ok {f : List Nd} {L : List Bool} {a : Bool} {v : Nat} (hv : v < 65536) (hf : evalF f L = .ok a) :
    (evalF (f ++ [(4, (v : Int))]) L = .ok (turnB f L v false || turnB f L v true) ∧ evalF (f ++ [(5, (v : Int))]) L = .ok (turnB f L v false && turnB f L v true)) ∨ ∃ n, evalF (f ++ [(4, (v : Int))]) L = .error n := by
  obtain ⟨t, ht, hfm, hwt, _⟩ := evalF_ok hf
  have h4 := tree_un (x := (4, (v : Int))) ht (.inr ⟨rfl, by simp only; omega, by simp only; omega⟩)
  have h5 := tree_un (x := (5, (v : Int))) ht (.inr ⟨rfl, by simp only; omega, by simp only; omega⟩)
  cases he : evalF (f ++ [(4, (v : Int))]) L with
  | error n => exact .inr ⟨n, rfl⟩
  | ok x =>
    left
    obtain ⟨t', ht', hfm', hwt', hx⟩ := evalF_ok he
    rw [h4] at ht'
    cases ht'
    have hfm5 : formedF (f ++ [(5, (v : Int))]) = true := by
      unfold formedF at hfm' ⊢
      rw [h4] at hfm'
      rw [h5]
      have h1 := of_decide_eq_true hfm'
      refine decide_eq_true ⟨by simpa using h1.1, ?_⟩
      have h2 := h1.2
      (first | rw [Tr.need_un, if_pos (by simp [isQ])] at h2 ⊢ | rw [Tr.need_bi, if_pos (by simp [isQ])] at h2 ⊢ | rw [Tr.need_te, if_pos (by simp [isQ])] at h2 ⊢ | rw [Tr.need_lf, if_pos (by simp [isQ])] at h2 ⊢)
      exact h2
    have hw5 : (Tr.un (5, (v : Int)) t).within ≤ 8 := by
      (first | rw [Tr.within_un, if_pos (by simp [isQ])] at hwt' ⊢ | rw [Tr.within_bi, if_pos (by simp [isQ])] at hwt' ⊢ | rw [Tr.within_te, if_pos (by simp [isQ])] at hwt' ⊢ | rw [Tr.within_lf, if_pos (by simp [isQ])] at hwt' ⊢)
      exact hwt'
    refine ⟨?_, ?_⟩
    · rw [hx]
      unfold turnB
      rw [ht]
      rfl
    · rw [evalF_of h5 hfm5 hw5]
      unfold turnB
      rw [ht]
      rfl
end Go.Proofs.YtdkboifpdodonabGreatDoor.Doc
