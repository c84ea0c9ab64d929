import Derived.Test.YtfmmmhcpdinhgabDoorZ04
/-
  The reader's begin.
-/
namespace Go.Proofs.YtfmmmhcpdinhgabDoor
open Go.RowKit Go.Deep PureNet PureRd Go.Maps Go.WideShapes
set_option maxRecDepth 100000

/-- but for the words at hand and the fault. -/
structure Same (s s' : Rs) : Prop where
  mode : s'.mode = s.mode
  lines : s'.lines = s.lines
  outs : s'.outs = s.outs
  places : s'.places = s.places
  names : s'.names = s.names
  cname : s'.cname = s.cname
theorem Same.refl (s : Rs) : Same s s := ⟨rfl, rfl, rfl, rfl, rfl, rfl⟩
theorem Same.trans {a b c : Rs} (h : Same a b) (k : Same b c) : Same a c := ⟨k.mode.trans h.mode, k.lines.trans h.lines, k.outs.trans h.outs, k.places.trans h.places, k.names.trans h.names, k.cname.trans h.cname⟩
theorem refuse_same (s : Rs) (c : Int) (a : Nat) : Same s (refuse s c a) := by unfold refuse; split <;> exact ⟨rfl, rfl, rfl, rfl, rfl, rfl⟩
theorem take_same (s : Rs) : Same s (take s).2 := by
  unfold take
  split
  · exact refuse_same _ _ _
  · exact ⟨rfl, rfl, rfl, rfl, rfl, rfl⟩
theorem name_same (nm : List UInt8 → Bool) (s : Rs) : Same s (name nm s).2 := by
  unfold name
  dsimp only
  split
  · exact take_same s
  · exact (take_same s).trans (refuse_same _ _ _)
/-- what a look-up of a place finds. -/
theorem PM.look {W : World} {pm : Nat} {s : Rs} (h : PM W pm s) (k : List UInt8) (hk : k.length ≤ 1048576) : ∃ c, (Instr.lookup 61 (.map (some pm)) (str k) true).run Tryd.prog W = .ok (.tuple #[.int .i64 c, .bool (placeOf s k).isSome]) W ∧ ∀ p, placeOf s k = some p → c = (p : Int) := by
  obtain ⟨n, D, ho, hn, hv⟩ := h
  have hz : (zeroValue 3).run Tryd.prog W = .ok (.int .i64 0) W := Tryd.zeroValue3 W
  have hk2 := WideMaps.keyOf_string_mk (P := Tryd.prog) (s := ⟨k.toArray⟩) Tryd.underlying9 (by show k.toArray.size ≤ _; unfold maxLen; simp; omega)
  obtain ⟨v, ps, hrun, hr⟩ := ho.look_ok (string_keyed Tryd.underlying9) Tryd.underlying61 hz (plainElem_int Tryd.underlying3 (by decide)) hk2
  obtain ⟨c, rfl, hc, _⟩ := plainElem_int_inv Tryd.underlying3 hr
  refine ⟨c, ?_, fun p hp => ?_⟩
  · rw [hrun]
    have := (hv k).1
    simp only at this ⊢
    rw [this]
  · simp only [Prod.mk.injEq] at hc
    have := (hv k).2 p (.lit (.int .i64 0)) hp
    have h2 := hc.1
    rw [this] at h2
    simpa using h2.symm

/-- a row of numbers grows by one, as a step. -/
theorem step_num {ops : Array Oper} {o : Oper} {a : Act} {w : World} {K : Act → World → Prop} {Q : Exit → Act → World → Prop} {X : Prop} (hgd : o.guard = none) (sl y : Operand) (ho : o.op = .call { callee := .builtin .append, args := #[sl, y], argTypes := #[23, 23] })
    (B n : Nat) (v : Value) (xs : List Value) (u : Int) (ad : Nat) (hs : a.eval sl = v) (hown : w.ownsRow B 3 1 v n xs) (hx : a.eval y = .slice (some ⟨ad, 0, none⟩) 1 1) (hc : w.cell? ⟨ad, 0, none⟩ = some (.int .i64 u)) (hn : n ≤ 1099511627776) (hB : B ≤ w.heap.size)
    (h : ∀ v' w', w'.ownsRow B 3 1 v' (n + 1) (xs ++ [.int .i64 u]) → w.grownBy w' v.ownBlock → K (a.put o.dst v') w') : if Region.wanted o (yielded ops a.tmps) = true then Oper.wp Tryd.prog o a w K Q else X :=
  step_one hgd sl y 23 3 (.int .i64 0) 1 8 ho Tryd.underlying23 info3 rfl (by decide) B n v xs [.int .i64 u] ⟨ad, 0, none⟩ hs hown hx rfl (fun j z hz => by
    rw [add_zero_addr]
    match j, hz with
    | 0, hz => simp at hz; subst hz; exact hc
    | (j + 1), hz => simp at hz) (fun z hz => by simp at hz; subst hz; rfl) (by omega) (by omega) hB h

theorem own_some {W : World} {B e size n : Nat} {v : Value} {xs : List Value} (h : W.ownsRow B e size v n xs) (hn : 0 < n) : ∃ g c, v = .slice (some ⟨g, 0, none⟩) n c ∧ n ≤ c ∧ B ≤ g ∧ g < W.heap.size := by
  rcases h.2 with ⟨_, h0⟩ | ⟨g, cap, cur, hv, hb, hr, hnc, _⟩
  · omega
  · exact ⟨g, cap, hv, hnc, hb, (Array.getElem?_eq_some_iff.1 hr).1⟩
theorem step_line {ops : Array Oper} {o : Oper} {a : Act} {w : World} {K : Act → World → Prop} {Q : Exit → Act → World → Prop} {X : Prop} (hgd : o.guard = none) (sl y : Operand) (ho : o.op = .call { callee := .builtin .append, args := #[sl, y], argTypes := #[65, 65] })
    (B n : Nat) (v : Value) (xs : List Value) (l : Ln) (u : Value) (hu : u.oneCell' = true) (ad : Nat) (hs : a.eval sl = v) (hown : w.ownsRow B 87 7 v n xs) (hx : a.eval y = .slice (some ⟨ad, 0, none⟩) 1 1) (hc : w.heap[ad]? = some (.cells (lnV l u).toArray 87 (0, 0))) (hn : n ≤ 1099511627776) (hB : B ≤ w.heap.size)
    (h : ∀ v' w', w'.ownsRow B 87 7 v' (n + 1) (xs ++ lnV l u) → w.grownBy w' v.ownBlock → K (a.put o.dst v') w') : if Region.wanted o (yielded ops a.tmps) = true then Oper.wp Tryd.prog o a w K Q else X :=
  step_one hgd sl y 65 87 _ 7 80 ho Tryd.underlying65 info104 rfl (by decide) B n v xs (lnV l u) ⟨ad, 0, none⟩ hs hown hx rfl (fun j z hz => by
    rw [add_zero_addr, cell_row hc]
    simpa using hz) (fun z hz => by
    simp only [lnV, List.mem_cons, List.not_mem_nil, or_false] at hz
    rcases hz with rfl | rfl | rfl | rfl | rfl | rfl | rfl <;> first | rfl | exact hu) (by omega) (by omega) hB h
theorem ShfKit_own_kept {w w' : World} {B e size n : Nat} {v : Value} {xs : List Value} (h : w.ownsRow B e size v n xs) (hk : ∀ g, v.ownBlock = some g → w'.heap[g]? = w.heap[g]?) : w'.ownsRow B e size v n xs := by
  refine ⟨h.1, ?_⟩
  rcases h.2 with hn | ⟨g, cap, cur, hv, hb, hr, rest⟩
  · exact .inl hn
  · exact .inr ⟨g, cap, cur, hv, hb, (hk g (by rw [hv]; rfl)).trans hr, rest⟩

set_option maxHeartbeats 4000000 in
theorem begin_any (kind : Int) (B b : Nat) (text : List UInt8) (s : Rs) (x : Bx) (w : World) (h : Rt w B b text s x) (hcap : s.names.length ≤ 2097152 ∧ s.lines.length ≤ 2097152 ∧ s.places.length ≤ 2097152) :
    Calls Tryd.prog 47 #[.pointer (some ⟨b, 0, none⟩), .int .i64 kind] w fun e w' => ∃ g c lf nv, e = .returned (.pointer (some ⟨g, s.lines.length * 7, none⟩)) ∧ Rt w' B b text (PureRd.begin nameL kind s) { x with lf := lf, nv := nv, ln := .slice (some ⟨g, 0, none⟩) (s.lines.length + 1) c, us := x.us ++ [.slice none 0 0] } ∧ Below B w w' := by
  have hbw : b < w.heap.size := (Array.getElem?_eq_some_iff.1 h.box).1
  have hB := h.base
  have hsm := h.small
  have hla := h.inla
  obtain ⟨s1, hs1⟩ : ∃ s1, s1 = (if s.names.length = 65536 then refuse s 8 s.last.2 else s) := ⟨_, rfl⟩
  obtain ⟨ty, hty⟩ : ∃ ty, ty = (name nameL s1).1 := ⟨_, rfl⟩
  obtain ⟨s2, hs2⟩ : ∃ s2, s2 = (name nameL s1).2 := ⟨_, rfl⟩
  obtain ⟨s3, hs3⟩ : ∃ s3, s3 = (if (placeOf s2 ty.1).isSome then refuse s2 141 ty.2 else s2) := ⟨_, rfl⟩
  have SM1 : Same s s1 := by rw [hs1]; split; exact refuse_same _ _ _; exact Same.refl _
  have SM2 : Same s s2 := by rw [hs2]; exact SM1.trans (name_same _ _)
  have SM3 : Same s s3 := by rw [hs3]; split; exact SM2.trans (refuse_same _ _ _); exact SM2
  have BG : Hid (PureRd.begin nameL kind s = { s3 with places := (ty.1, s.names.length) :: s3.places, names := s3.names ++ [ty.2], lines := s3.lines ++ [⟨kind, ty.1, 0, []⟩] }) := by
    show _ = _
    rw [hs3, hs2, hty, hs1]
    rfl
  have RF1 : Hid (s.names.length = 65536 → Calls Tryd.prog 36 #[.pointer (some ⟨b, 0, none⟩), .int .i64 8, .int .i64 (s.last.2 : Int)] w fun e w' => (∃ y, e = .returned y) ∧ Rt w' B b text s1 x ∧ Below B w w') := fun e => by
    have := refuse_any B b text s x 8 s.last.2 w h (by have : s.last.2 + s.last.1.length ≤ text.length := hla; omega) (by decide)
    rw [hs1, if_pos e]
    exact this.mono fun e w' h => ⟨h.1, h.2.1, h.2.2.1⟩
  have NAM : Hid (∀ W, Rt W B b text s1 x → Calls Tryd.prog 26 #[.pointer (some ⟨b, 0, none⟩)] W fun e w' => e = .returned (.agg #[str ty.1, .int .i64 (ty.2 : Int)]) ∧ (∃ lf, Rt w' B b text s2 { x with lf := lf }) ∧ Below B W w' ∧ ty.2 + ty.1.length ≤ text.length) := fun W hR => by
    rw [hty, hs2]
    exact (name_any B b text s1 x W hR).mono fun e w' h => ⟨h.1, h.2.1, h.2.2.1, take_in hR.inl⟩
  have RF2 : Hid (∀ W lf, (placeOf s2 ty.1).isSome = true → ty.2 ≤ text.length → Rt W B b text s2 { x with lf := lf } → Calls Tryd.prog 36 #[.pointer (some ⟨b, 0, none⟩), .int .i64 141, .int .i64 (ty.2 : Int)] W fun e w' => (∃ y, e = .returned y) ∧ Rt w' B b text s3 { x with lf := lf } ∧ Below B W w' ∧ Oth 67 (some b) W w') := fun W lf e1 e2 hR => by
    rw [hs3, if_pos e1]
    exact refuse_any B b text s2 _ 141 ty.2 W hR e2 (by decide)
  have S23 : Hid ((placeOf s2 ty.1).isSome = false → s3 = s2) := fun e => by rw [hs3, e]; rfl
  have S01 : Hid (s.names.length ≠ 65536 → s1 = s) := fun e => by rw [hs1, if_neg e]
  have SMH := hid SM3
  have SMH2 := hid SM2
  -- behind the name
  have AFT : Hid (∀ w2 lf, Rt w2 B b text s2 { x with lf := lf } → ty.2 + ty.1.length ≤ text.length → ∀ w3, w3 = w2.alloc (.cells #[str ty.1, .int .i64 (ty.2 : Int)] 64) →
      Rt w3 B b text s2 { x with lf := lf } ∧ Below w2.heap.size w2 w3 ∧ w3.heap[w2.heap.size]? = some (.cells #[str ty.1, .int .i64 (ty.2 : Int)] 64 (0, 0)) ∧ w2.heap.size ≠ b ∧ w3.cell? ⟨b, 7, none⟩ = some (.map (some x.pm)) ∧ b < w3.heap.size ∧ ∃ c, (Instr.lookup 61 (.map (some x.pm)) (str ty.1) true).run Tryd.prog w3.drew = .ok (.tuple #[.int .i64 c, .bool (placeOf s2 ty.1).isSome]) w3.drew) := fun w2 lf hR hti w3 h3 => by
    have b23 : Below w2.heap.size w2 w3 := by rw [h3]; exact (Below.refl _ _).alloc (Nat.le_refl _) _
    have r3 := hR.on b23
    have hbl := (Array.getElem?_eq_some_iff.1 hR.box).1
    obtain ⟨c, l2, hc2⟩ := (r3.on (Below.refl w3.heap.size w3).drew).places.look ty.1 (by omega)
    exact ⟨r3, b23, by rw [h3]; exact heap_alloc_new w2 _, by omega, cell_row r3.box 7, (Array.getElem?_eq_some_iff.1 r3.box).1, c, l2⟩
  have HCP := hid hcap
  -- the name's place
  have S3N : Hid (s3.names = s.names ∧ s3.lines = s.lines) := ⟨SM3.names, SM3.lines⟩
  obtain ⟨s4, hs4⟩ : ∃ s4, s4 = { s3 with places := (ty.1, s.names.length) :: s3.places } := ⟨_, rfl⟩
  obtain ⟨s5, hs5⟩ : ∃ s5, s5 = { s4 with names := s4.names ++ [ty.2] } := ⟨_, rfl⟩
  -- the map
  have MUP : Hid (∀ w4 lf, Rt w4 B b text s3 { x with lf := lf } → ty.1.length ≤ 1048576 → ∃ w5, (Instr.mapUpdate 61 (.map (some x.pm)) (str ty.1) (.int .i64 (s.names.length : Int))).run Tryd.prog w4.drew = .ok () w5 ∧ Rt w5 B b text s4 { x with lf := lf } ∧ w4.drew.grownBy w5 (some x.pm) ∧ Below B w4 w5 ∧ ∀ (k : Nat) (c : Array Value) (fz : Nat × Nat), w4.heap[k]? = some (.cells c 64 fz) → w5.heap[k]? = some (.cells c 64 fz)) := fun w4 lf hR hl => by
    have hR2 := hR.on (Below.refl w4.heap.size w4).drew
    obtain ⟨n, D, ho, hn, hv⟩ := hR2.places
    have hpl : s3.places.length ≤ 2097152 := by rw [SMH.out.places]; exact HCP.out.2.2
    have hval : plainElem (H := Unit) Tryd.prog 3 (.int .i64 (s.names.length : Int)) = some (.lit (.int .i64 (s.names.length : Int)), []) := plainElem_int Tryd.underlying3 (by
      have e1 : IntKind.i64.min = -9223372036854775808 := rfl
      have e2 : IntKind.i64.max = 9223372036854775807 := rfl
      have := HCP.out.1
      simp [Lit.wf, e1, e2]
      omega)
    obtain ⟨w5, hrun, ho5, hg5⟩ := ho.update (string_keyed Tryd.underlying9) Tryd.underlying61 (by have : n ≤ s3.places.length := hn; unfold maxLen; omega) (WideMaps.keyOf_string_mk (P := Tryd.prog) (s := ⟨ty.1.toArray⟩) Tryd.underlying9 (by show ty.1.toArray.size ≤ _; unfold maxLen; simp; omega)) hval
    refine ⟨w5, hrun, by rw [hs4]; exact hR2.atMap hg5 ty.1 s.names.length n D ho hn hv ho5 (by omega), hg5, ?_, fun k c fz hk => ?_⟩
    · have hbp : B ≤ x.pm := hR.pmB
      exact (Below.refl B w4).drew.grown hg5 (by have := hR.base; have := (Array.getElem?_eq_some_iff.1 hR.box).1; show B ≤ w4.heap.size; omega) (fun k hk => by cases hk; exact hbp)
    · obtain ⟨es, cl, hm, _⟩ := ho
      refine (hg5.block k (Array.getElem?_eq_some_iff.1 hk).1 (fun e => ?_)).trans hk
      have hm2 : w4.heap[x.pm]? = some (.map es cl) := hm
      rw [← Option.some.inj e, hk] at hm2
      cases hm2
  have NMP : Hid (∀ w5 lf (n1 : Nat), Rt w5 B b text s4 { x with lf := lf } → ty.2 ≤ text.length → w5.heap[n1]? = some (.cells #[str ty.1, .int .i64 (ty.2 : Int)] 64 (0, 0)) → n1 ≠ b → ∃ sn cn, x.nv = .slice sn s.names.length cn ∧ w5.drew.cell? ⟨b, 8, none⟩ = some (.slice sn s.names.length cn) ∧ w5.drew.cell? ⟨n1, 1, none⟩ = some (.int .i64 (ty.2 : Int)) ∧ b < w5.drew.heap.size ∧ n1 < w5.drew.heap.size ∧
      (w5.drew.alloc (.cells #[.int .i64 (ty.2 : Int)] 3)).ownsRow B 3 1 (.slice sn s.names.length cn) s.names.length (nats s.names) ∧ (w5.drew.alloc (.cells #[.int .i64 (ty.2 : Int)] 3)).cell? ⟨w5.heap.size, 0, none⟩ = some (.int .i64 (ty.2 : Int)) ∧ B ≤ (w5.drew.alloc (.cells #[.int .i64 (ty.2 : Int)] 3)).heap.size ∧
      ∀ v6 w6, w6.ownsRow B 3 1 v6 (s.names.length + 1) (nats s.names ++ [.int .i64 (ty.2 : Int)]) → (w5.drew.alloc (.cells #[.int .i64 (ty.2 : Int)] 3)).grownBy w6 (Value.slice sn s.names.length cn).ownBlock → (∃ z, w6.cell? ⟨b, 8, none⟩ = some z) ∧ w6.frozen? ⟨b, 8, none⟩ = false ∧ b < w6.heap.size ∧ ∀ W, W = w6.setCell ⟨b, 8, none⟩ v6 → Rt W B b text s5 { x with lf := lf, nv := v6 } ∧ Below B w5 W ∧ W.heap[n1]? = some (.cells #[str ty.1, .int .i64 (ty.2 : Int)] 64 (0, 0))) := fun w5 lf n1 hR ha hn hne => by
    have hs4n : s4.names = s.names := by rw [hs4]; exact S3N.out.1
    have hown := hR.names
    rw [hs4n] at hown
    obtain ⟨sn, cn, hnv⟩ := own_shape hown
    have hnv' : x.nv = .slice sn s.names.length cn := hnv
    have hbl := (Array.getElem?_eq_some_iff.1 hR.box).1
    have b5 : Below w5.heap.size w5 (w5.drew.alloc (.cells #[.int .i64 (ty.2 : Int)] 3)) := ((Below.refl w5.heap.size w5).drew).alloc (Nat.le_refl _) _
    have own2 : (w5.drew.alloc (.cells #[.int .i64 (ty.2 : Int)] 3)).ownsRow B 3 1 (.slice sn s.names.length cn) s.names.length (nats s.names) := by rw [← hnv']; exact ownsRow_below hown b5
    have hBs := hR.base
    refine ⟨sn, cn, hnv', by rw [← hnv']; exact cell_row hR.box 8, cell_row hn 1, hbl, (Array.getElem?_eq_some_iff.1 hn).1, own2, cell_row (heap_alloc_new w5.drew _) 0, by have := b5.size; omega, fun v6 w6 o6 g6 => ?_⟩
    have hb6 : w6.heap[b]? = some (.cells (boxV text s4 { x with lf := lf }) 67 (0, 0)) := (g6.block b (by have := b5.size; omega) (fun e => own_ne own2 ((b5.block b hbl).trans hR.box) (by decide) e.symm)).trans ((b5.block b hbl).trans hR.box)
    have hn5 := (b5.block n1 (Array.getElem?_eq_some_iff.1 hn).1).trans hn
    have hn6 := (g6.block n1 (Array.getElem?_eq_some_iff.1 hn5).1 (fun e => own_ne own2 hn5 (by decide) e.symm)).trans hn5
    refine ⟨⟨_, cell_row hb6 8⟩, unfrozen_row hb6 8, (Array.getElem?_eq_some_iff.1 hb6).1, fun W hW => ?_⟩
    have o56 : Oth 3 (some b) w5 w6 := (Oth.of_below b5).trans ((Lib.OthersKept.refl _ _ _).grown g6 (fun g hg => by
      rcases own2.2 with ⟨hv, _⟩ | ⟨g', cap, cur, hv, _, hr, _⟩
      · rw [hv] at hg; cases hg
      · rw [hv] at hg
        obtain rfl := Option.some.inj hg
        exact ⟨_, _, hr⟩))
    have o5W : Oth 3 (some b) w5 W := by rw [hW]; exact o56.setCell ⟨b, 8, none⟩ rfl _
    have hsz : w5.heap.size ≤ W.heap.size := by
      have h1 := b5.size
      have h2 := g6.size
      rw [hW]
      simp at h1 h2 ⊢
      omega
    have bW : Below B w5 W := by
      rw [hW]
      exact ((b5.mono (by omega)).grown g6 (by have := b5.size; omega) (fun k hk => (own2.lt k hk).1)).setCell (p := ⟨b, 8, none⟩) hBs _
    refine ⟨?_, bW, by rw [hW, Below.heap_setCell _ _ _ _ (show n1 ≠ b from hne)]; exact hn6⟩
    rw [hs5]
    refine hR.pushName o5W hsz v6 ty.2 ha ?_ ?_ (by rw [hs4n]; have := HCP.out.1; omega) rfl
    · rw [hs4n, hW]
      have hob : v6.ownBlock ≠ some b := by
        rcases o6.2 with ⟨hv, _⟩ | ⟨g', cap, cur, hv, _, hr, _⟩
        · rw [hv]; simp [Value.ownBlock]
        · rw [hv]
          intro e
          have e2 := Option.some.inj e
          subst e2
          rw [hb6] at hr
          simp only [Option.some.injEq, Obj.cells.injEq] at hr
          exact absurd hr.2.1 (by decide)
      refine ShfKit_own_kept o6 (fun g hg => Below.heap_setCell _ _ _ _ (fun e => hob (by rw [hg, e])))
    · rw [hW, row_set hb6]
      rfl
  -- the line
  obtain ⟨s6, hs6⟩ : ∃ s6, s6 = { s5 with lines := s5.lines ++ [(⟨kind, ty.1, 0, []⟩ : Ln)] } := ⟨_, rfl⟩
  have BG6 : Hid (PureRd.begin nameL kind s = s6) := by show _ = _; rw [BG.out, hs6, hs5, hs4]
  have LNP : Hid (∀ w7 lf nv (n1 : Nat), Rt w7 B b text s5 { x with lf := lf, nv := nv } → w7.heap[n1]? = some (.cells #[str ty.1, .int .i64 (ty.2 : Int)] 64 (0, 0)) → ∃ sl cl, w7.drew.cell? ⟨b, 5, none⟩ = some (.slice sl s.lines.length cl) ∧ w7.drew.cell? ⟨n1, 0, none⟩ = some (str ty.1) ∧ b < w7.drew.heap.size ∧ n1 < w7.drew.heap.size ∧
      ∀ w8, Below w7.heap.size w7 w8 → w8.cell? ⟨b, 5, none⟩ = some (.slice sl s.lines.length cl) ∧ b < w8.heap.size ∧ (w8.alloc (.cells (lnV ⟨kind, ty.1, 0, []⟩ (.slice none 0 0)).toArray 87)).cell? ⟨b, 5, none⟩ = some (.slice sl s.lines.length cl) ∧ (w8.alloc (.cells (lnV ⟨kind, ty.1, 0, []⟩ (.slice none 0 0)).toArray 87)).ownsRow B 87 7 (.slice sl s.lines.length cl) s.lines.length (lnsV s.lines x.us) ∧ (w8.alloc (.cells (lnV ⟨kind, ty.1, 0, []⟩ (.slice none 0 0)).toArray 87)).heap[w8.heap.size]? = some (.cells (lnV ⟨kind, ty.1, 0, []⟩ (.slice none 0 0)).toArray 87 (0, 0)) ∧ B ≤ (w8.alloc (.cells (lnV ⟨kind, ty.1, 0, []⟩ (.slice none 0 0)).toArray 87)).heap.size ∧
      ∀ v9 w9, w9.ownsRow B 87 7 v9 (s.lines.length + 1) (lnsV s.lines x.us ++ lnV ⟨kind, ty.1, 0, []⟩ (.slice none 0 0)) → (w8.alloc (.cells (lnV ⟨kind, ty.1, 0, []⟩ (.slice none 0 0)).toArray 87)).grownBy w9 (Value.slice sl s.lines.length cl).ownBlock → (∃ z, w9.cell? ⟨b, 5, none⟩ = some z) ∧ w9.frozen? ⟨b, 5, none⟩ = false ∧ b < w9.heap.size ∧ ∀ W, W = w9.setCell ⟨b, 5, none⟩ v9 → Rt W B b text s6 { x with lf := lf, nv := nv, ln := v9, us := x.us ++ [.slice none 0 0] } ∧ Below B w7 W) := fun w7 lf nv n1 hR hn => by
    have hs5l : s5.lines = s.lines := by rw [hs5, hs4]; exact S3N.out.2
    have hown := hR.lines
    rw [hs5l] at hown
    obtain ⟨sl, cl, hln⟩ := own_shape hown
    have hln' : x.ln = .slice sl s.lines.length cl := hln
    have hbl := (Array.getElem?_eq_some_iff.1 hR.box).1
    have c5 : w7.cell? ⟨b, 5, none⟩ = some (.slice sl s.lines.length cl) := by rw [← hln']; exact cell_row hR.box 5
    have hBs := hR.base
    refine ⟨sl, cl, c5, cell_row hn 0, hbl, (Array.getElem?_eq_some_iff.1 hn).1, fun w8 b8 => ?_⟩
    have b9 : Below w7.heap.size w7 (w8.alloc (.cells (lnV ⟨kind, ty.1, 0, []⟩ (.slice none 0 0)).toArray 87)) := b8.alloc b8.size _
    have own2 : (w8.alloc (.cells (lnV ⟨kind, ty.1, 0, []⟩ (.slice none 0 0)).toArray 87)).ownsRow B 87 7 (.slice sl s.lines.length cl) s.lines.length (lnsV s.lines x.us) := by rw [← hln']; exact ownsRow_below hown b9
    refine ⟨(b8.cell (p := ⟨b, 5, none⟩) hbl).trans c5, Nat.lt_of_lt_of_le hbl b8.size, (b9.cell (p := ⟨b, 5, none⟩) hbl).trans c5, own2, heap_alloc_new w8 _, by have := b9.size; omega, fun v9 w9 o9 g9 => ?_⟩
    have hb9 : w9.heap[b]? = some (.cells (boxV text s5 { x with lf := lf, nv := nv }) 67 (0, 0)) := (g9.block b (by have := b9.size; omega) (fun e => own_ne own2 ((b9.block b hbl).trans hR.box) (by decide) e.symm)).trans ((b9.block b hbl).trans hR.box)
    refine ⟨⟨_, cell_row hb9 5⟩, unfrozen_row hb9 5, (Array.getElem?_eq_some_iff.1 hb9).1, fun W hW => ?_⟩
    have o79 : Oth 87 (some b) w7 w9 := (Oth.of_below b9).trans ((Lib.OthersKept.refl _ _ _).grown g9 (fun g hg => by
      rcases own2.2 with ⟨hv, _⟩ | ⟨g', cap, cur, hv, _, hr, _⟩
      · rw [hv] at hg; cases hg
      · rw [hv] at hg
        obtain rfl := Option.some.inj hg
        exact ⟨_, _, hr⟩))
    have o7W : Oth 87 (some b) w7 W := by rw [hW]; exact o79.setCell ⟨b, 5, none⟩ rfl _
    have hsz : w7.heap.size ≤ W.heap.size := by
      have h1 := b9.size
      have h2 := g9.size
      rw [hW]
      simp at h1 h2 ⊢
      omega
    have bW : Below B w7 W := by
      rw [hW]
      exact ((b9.mono (by omega)).grown g9 (by have := b9.size; omega) (fun k hk => (own2.lt k hk).1)).setCell (p := ⟨b, 5, none⟩) hBs _
    refine ⟨?_, bW⟩
    rw [hs6]
    refine hR.pushLine o7W hsz v9 ⟨kind, ty.1, 0, []⟩ (.slice none 0 0) x.mx (Nat.le_refl _) (Nat.le_trans hR.mxl hsz) (fun z hz => by simp at hz) (WRow.nil _ _) ?_ ?_ (by rw [hs5l]; have := HCP.out.2.1; omega) rfl
    · rw [hs5l, hW]
      have hob : v9.ownBlock ≠ some b := by
        rcases o9.2 with ⟨hv, _⟩ | ⟨g', cap, cur, hv, _, hr, _⟩
        · rw [hv]; simp [Value.ownBlock]
        · rw [hv]
          intro e
          have e2 := Option.some.inj e
          subst e2
          rw [hb9] at hr
          simp only [Option.some.injEq, Obj.cells.injEq] at hr
          exact absurd hr.2.1 (by decide)
      exact ShfKit_own_kept o9 (fun g hg => Below.heap_setCell _ _ _ _ (fun e => hob (by rw [hg, e])))
    · rw [hW, row_set hb9]
      rfl
  have CLO : Hid (∀ W, ty.1.length ≤ 1048576 → Calls Tryd.prog 25 #[str ty.1] W fun e w' => e = .returned (str ty.1) ∧ Below W.heap.size W w') := fun W hl => clone_any ⟨ty.1.toArray⟩ W (by show ty.1.toArray.size ≤ _; simp; omega)
  obtain ⟨sn, cn, hnv⟩ := own_shape h.names
  have q8 : w.cell? ⟨b, 8, none⟩ = some (.slice sn s.names.length cn) := by rw [← hnv]; exact cell_row h.box 8
  have q4 : w.cell? ⟨b, 4, none⟩ = some (.int .i64 (s.last.2 : Int)) := cell_row h.box 4
  have hnp : s.names.length ≤ 2097152 := hcap.1
  have R0 := hid h
  have mixed := Tryd.lays161.mixed
  have HS4 := hid hs4
  have HS5 := hid hs5
  clear hs4 hs5 hs6
  clear h SM1 SM2 SM3 hs1 hs2 hs3 hty hla hcap
  go_enter Tryd.func47, Tryd.ntmps47
  go_upto_if 15 with fail
  go_cut [] (fun wx => Hid (Rt wx B b text s1 x ∧ Below B w wx))
  case first =>
    by_cases hA : s.names.length = 65536
    · have e1 : ((s.names.length : Int) == 65536) = true := by simp; omega
      have RC := hid (RF1.out hA)
      clear hA
      go_wp2_with (go_at_call 36; refine RC.out.mono ?_; rintro e w1 ⟨⟨yy, rfl⟩, k1, k2⟩; have K := hid (And.intro k1 k2); clear k1 k2)
      go_meet
      exact K.out
    · have e1 : ((s.names.length : Int) == 65536) = false := by simp; omega
      have K : Hid (Rt w B b text s1 x ∧ Below B w w) := ⟨by rw [S01.out hA]; exact R0.out, Below.refl _ _⟩
      go_wp2_with fail
      go_meet
      exact K.out
  case rest =>
  obtain ⟨w1, hw1⟩ : ∃ w1, w1 = wc := ⟨_, rfl⟩
  rw [← hw1] at hcut ⊢
  clear hw1
  have R1 : Hid (Rt w1 B b text s1 x) := hcut.out.1
  have B1 : Hid (Below B w w1) := hcut.out.2
  clear hcut R0 RF1 q8 q4
  go_upto_region 5 with (first
        | (have q := HW3; clear q; rw [← HW3.out]; clear HW3)
        | (go_at_call 26; refine (NAM.out _ R1.out).mono ?_; rintro e w2 ⟨rfl, ⟨lf, r2⟩, b2, hti⟩; obtain ⟨w3, hw3⟩ : ∃ w3, w3 = w2.alloc (.cells #[str ty.1, .int .i64 (ty.2 : Int)] 64) := ⟨_, rfl⟩; obtain ⟨r3, b23, n1, hne, c7, lb, cc, l2⟩ := AFT.out w2 lf r2 hti w3 hw3; have HW3 := hid hw3; have R3 := hid r3; have B23 := hid b23; have N1 := hid n1; have B2 := hid b2; have d0 := cell_row n1 0; have d1 := cell_row n1 1; have ln := (Array.getElem?_eq_some_iff.1 n1).1; have c7' : w3.drew.cell? ⟨b, 7, none⟩ = some (.map (some x.pm)) := c7; have d0' : w3.drew.cell? ⟨w2.heap.size, 0, none⟩ = some (str ty.1) := d0; clear hw3 r3 b23 n1 b2 r2))
  go_cut [8] (fun s8 wx => s8 = .bool (placeOf s2 ty.1).isSome ∧ wx = w3.drew)
  case first =>
    go_region
    all_goals (go_wp2_with fail; go_meet; exact ⟨rfl, rfl⟩)
  case rest =>
  obtain ⟨rfl, rfl⟩ := hcut
  clear l2 c7' d0' d0 d1 c7 lb ln
  have B3 : Hid (Below B w w3.drew) := ((B1.out.trans B2.out).trans (B23.out.mono (by have h1 := B1.out.size; have h2 := B2.out.size; omega))).drew
  have R3d : Hid (Rt w3.drew B b text s2 { x with lf := lf }) := R3.out.on (Below.refl w3.heap.size w3).drew
  have N3d : Hid (w3.drew.heap[w2.heap.size]? = some (.cells #[str ty.1, .int .i64 (ty.2 : Int)] 64 (0, 0))) := N1.out
  have d1 : w3.drew.cell? ⟨w2.heap.size, 1, none⟩ = some (.int .i64 (ty.2 : Int)) := cell_row N3d.out 1
  have ln : w2.heap.size < w3.drew.heap.size := (Array.getElem?_eq_some_iff.1 N3d.out).1
  clear R3 N1 B23
  go_upto_if 35 with fail
  go_cut [8, 35] (fun s8 s35 wx => Hid (Rt wx B b text s3 { x with lf := lf } ∧ Below B w wx ∧ wx.heap[w2.heap.size]? = some (.cells #[str ty.1, .int .i64 (ty.2 : Int)] 64 (0, 0))))
  case first =>
    cases hp : (placeOf s2 ty.1).isSome
    · have K : Hid (Rt w3.drew B b text s3 { x with lf := lf } ∧ Below B w w3.drew ∧ w3.drew.heap[w2.heap.size]? = some (.cells #[str ty.1, .int .i64 (ty.2 : Int)] 64 (0, 0))) := ⟨by rw [S23.out hp]; exact R3d.out, B3.out, N3d.out⟩
      go_wp2_with fail
      go_meet
      exact K.out
    · have RC := hid (RF2.out w3.drew lf hp (by omega) R3d.out)
      go_wp2_with (go_at_call 36; refine RC.out.mono ?_; rintro e w4 ⟨⟨yy, rfl⟩, k1, k2, k3⟩; have K : Hid (Rt w4 B b text s3 { x with lf := lf } ∧ Below B w w4 ∧ w4.heap[w2.heap.size]? = some (.cells #[str ty.1, .int .i64 (ty.2 : Int)] 64 (0, 0))) := ⟨k1, B3.out.trans k2, oth74 k3 N3d.out hne⟩; clear k1 k2 k3)
      go_meet
      exact K.out
  case rest =>
  obtain ⟨w4, hw4⟩ : ∃ w4, w4 = wc := ⟨_, rfl⟩
  rw [← hw4] at hcut ⊢
  clear hw4
  have R4 : Hid (Rt w4 B b text s3 { x with lf := lf }) := hcut.out.1
  have B4 : Hid (Below B w w4) := hcut.out.2.1
  have N4 : Hid (w4.heap[w2.heap.size]? = some (.cells #[str ty.1, .int .i64 (ty.2 : Int)] 64 (0, 0))) := hcut.out.2.2
  clear hcut B3 R3d N3d d1 ln B2 B1 R1 NAM AFT RF2 S23 S01 SMH2
  obtain ⟨w5, mu, r5, g5, b5, k5⟩ := MUP.out w4 lf R4.out (by omega)
  have R5 := hid r5
  have B5 : Hid (Below B w w5) := B4.out.trans b5
  have N5 := hid (k5 _ _ _ N4.out)
  have c7 : w4.drew.cell? ⟨b, 7, none⟩ = some (.map (some x.pm)) := cell_row R4.out.box 7
  have d0 : w4.drew.cell? ⟨w2.heap.size, 0, none⟩ = some (str ty.1) := cell_row N4.out 0
  have lb : b < w4.drew.heap.size := (Array.getElem?_eq_some_iff.1 R4.out.box).1
  have ln : w2.heap.size < w4.drew.heap.size := (Array.getElem?_eq_some_iff.1 N4.out).1
  clear r5 g5 b5 k5
  go_upto_region 8 with fail
  go_cut [] (fun wx => wx = w5)
  case first =>
    go_region
    all_goals (go_wp2_with fail; go_meet; exact rfl)
  case rest =>
  rw [hcut]
  clear hcut mu c7 d0 lb ln R4 N4
  obtain ⟨sn2, cn2, hnv2, c8, d1, lb, ln, own9, ce9, hB9, nx9⟩ := NMP.out w5 lf w2.heap.size R5.out (by omega) N5.out hne
  have OWN9 := hid own9
  have CE9 := hid ce9
  have HB9 := hid hB9
  have NX9 := hid nx9
  have c8' : (w5.drew.alloc (.cells #[.int .i64 (ty.2 : Int)] 3)).cell? ⟨b, 8, none⟩ = some (.slice sn2 s.names.length cn2) := (((Below.refl w5.heap.size w5).drew).alloc (Nat.le_refl _) _).cell (p := ⟨b, 8, none⟩) lb |>.trans c8
  have c8'' : (w5.alloc (.cells #[.int .i64 (ty.2 : Int)] 3)).cell? ⟨b, 8, none⟩ = some (.slice sn2 s.names.length cn2) := c8'
  clear own9 ce9 hB9 nx9 hnv2
  go_upto_region 9 with fail
  go_cut [] (fun wx => Hid (∃ nv, Rt wx B b text s5 { x with lf := lf, nv := nv } ∧ Below B w wx ∧ wx.heap[w2.heap.size]? = some (.cells #[str ty.1, .int .i64 (ty.2 : Int)] 64 (0, 0))))
  case first =>
    go_region_law (refine step_num rfl _ _ rfl B s.names.length (.slice sn2 s.names.length cn2) (nats s.names) (ty.2 : Int) _ rfl OWN9.out rfl CE9.out (by omega) HB9.out ?_; intro v6 w6 o6 g6; obtain ⟨⟨z8, e8⟩, f8, l8, nx6⟩ := NX9.out v6 w6 o6 g6; obtain ⟨sv6, cv6, rfl⟩ := own_shape o6; have NX6 := hid nx6; clear nx6 o6 g6)
    all_goals (go_wp2_with fail; go_meet; obtain ⟨r7, b7, n7⟩ := NX6.out _ rfl; exact ⟨_, r7, B5.out.trans b7, n7⟩)
  case rest =>
  obtain ⟨w7, hw7⟩ : ∃ w7, w7 = wc := ⟨_, rfl⟩
  rw [← hw7] at hcut ⊢
  clear hw7
  obtain ⟨nv, r7, b7, n7⟩ := hcut.out
  have R7 := hid r7
  have B7 := hid b7
  obtain ⟨sl, cl, c5, d0, lb7, ln7, nx8⟩ := LNP.out w7 lf _ w2.heap.size r7 n7
  have NX8 := hid nx8
  have CL7 := hid (CLO.out w7.drew (by omega))
  clear hcut r7 b7 n7 nx8 NX9 c8 c8' c8'' d1 lb ln OWN9 CE9 HB9 R5 N5 B5 B4
  go_upto_region 10 with fail
  go_cut [] (fun wx => Hid (∃ g c, Rt wx B b text s6 { x with lf := lf, nv := nv, ln := .slice (some ⟨g, 0, none⟩) (s.lines.length + 1) c, us := x.us ++ [.slice none 0 0] } ∧ Below B w wx))
  case first =>
    go_region_law (first
        | (have q := OW8; clear q; refine step_line rfl _ _ rfl B s.lines.length (.slice sl s.lines.length cl) (lnsV s.lines x.us) ⟨kind, ty.1, 0, []⟩ (.slice none 0 0) rfl _ rfl OW8.out rfl CE8.out (by have := HCP.out.2.1; omega) HB8.out ?_; intro v9 w9 o9 g9; obtain ⟨⟨z5, e5⟩, f5, l5, nx9⟩ := NX10.out v9 w9 o9 g9; obtain ⟨g10, c10, hv10, _, _, _⟩ := own_some o9 (by omega); obtain rfl := hv10; have NX9 := hid nx9; clear nx9 o9 g9)
        | (go_simp; go_at_call 25; refine CL7.out.mono ?_; rintro e w8 ⟨rfl, b8⟩; obtain ⟨k5, k6, k7, k8, k9, k10, k11⟩ := NX8.out w8 (((Below.refl w7.heap.size w7).drew).trans b8); have OW8 := hid k8; have CE8 := hid k9; have HB8 := hid k10; have NX10 := hid k11; clear k8 k9 k10 k11 b8))
    all_goals (go_wp2_with fail; go_meet; obtain ⟨r9, b9⟩ := NX9.out _ rfl; exact ⟨_, _, r9, B7.out.trans b9⟩)
  case rest =>
  obtain ⟨w9, hw9⟩ : ∃ w9, w9 = wc := ⟨_, rfl⟩
  rw [← hw9] at hcut ⊢
  clear hw9
  obtain ⟨g, c, r9, b9⟩ := hcut.out
  have c5' : w9.drew.cell? ⟨b, 5, none⟩ = some (.slice (some ⟨g, 0, none⟩) (s.lines.length + 1) c) := cell_row r9.box 5
  have lb9 : b < w9.drew.heap.size := (Array.getElem?_eq_some_iff.1 r9.box).1
  have R9 : Hid (Rt w9.drew B b text s6 { x with lf := lf, nv := nv, ln := .slice (some ⟨g, 0, none⟩) (s.lines.length + 1) c, us := x.us ++ [.slice none 0 0] }) := r9.on (Below.refl w9.heap.size w9).drew
  have B9 : Hid (Below B w w9.drew) := b9.drew
  have hlq : s.lines.length ≤ 2097152 := HCP.out.2.1
  clear hcut r9 b9 c5 d0 lb7 ln7 NX8 CL7 R7 B7
  go_wp2
  go_region
  go_wp2
  go_ret
  rw [BG6.out]
  exact ⟨g, c, lf, nv, rfl, R9.out, B9.out⟩
end Go.Proofs.YtfmmmhcpdinhgabDoor
/-
  What words mean: operators, first values; the reader's op.
-/
namespace Go.Proofs.YtfmmmhcpdinhgabDoor
open Go.RowKit Go.Deep PureNet PureRd
set_option maxRecDepth 100000

/-- the first place of a word among sixteen, from k on. -/
def opFrom (T : Nat → List UInt8) (l : List UInt8) : Nat → Nat → Int
  | 0, _ => -1
  | n + 1, k => if T k = l then (k : Int) else opFrom T l n (k + 1)
def opF (T : Nat → List UInt8) (l : List UInt8) : Int := opFrom T l 16 0
def fvF (l : List UInt8) : Int := if l = [48] then 0 else if l = [49] then 1 else -1
/-- the operators' words in memory. -/
structure OpsT (W : World) (T : Nat → List UInt8) : Prop where
  pos : 1 < W.heap.size
  word : ∀ k : Nat, k < 16 → W.cell? ⟨1, k, none⟩ = some (str (T k))
theorem OpsT.on {w W : World} {T : Nat → List UInt8} {B : Nat} (h : OpsT w T) (hb : Below B w W) (hB : 1 < B) : OpsT W T := ⟨Nat.lt_of_lt_of_le h.pos hb.size, fun k hk => (hb.cell (p := ⟨1, k, none⟩) hB).trans (h.word k hk)⟩

set_option maxHeartbeats 2000000 in
theorem firstValue_any (l : List UInt8) (w : World) : Calls Tryd.prog 51 #[str l] w fun e w' => e = .returned (.int .i64 (fvF l)) ∧ w' = w := by
  by_cases h0 : l = [48]
  · subst h0
    go_enter Tryd.func51, Tryd.ntmps51
    go_wp2
    go_ret
    exact ⟨rfl, rfl⟩
  by_cases h1 : l = [49]
  · subst h1
    go_enter Tryd.func51, Tryd.ntmps51
    go_wp2
    go_ret
    exact ⟨rfl, rfl⟩
  have e0 : (l == [48]) = false := by simpa using h0
  have e1 : (l == [49]) = false := by simpa using h1
  have HF : Hid (fvF l = -1) := by show _ = _; simp [fvF, h0, h1]
  clear h0 h1
  go_enter Tryd.func51, Tryd.ntmps51
  go_wp2
  go_ret
  exact ⟨by rw [HF.out]; rfl, rfl⟩

theorem index_ops (A : Array Value) (i : Nat) (u : ByteArray) (hi : i < 16) (h : A[i]? = some (.string u)) (W : World) : (Instr.index 107 (.agg A) (.int .i64 (i : Int))).run Tryd.prog W = .ok (.string u) W := by
  simp [Instr.index, run_underlying Tryd.underlying107, asIntOf, go_sem, part, h]
  intro h16
  omega

set_option maxHeartbeats 2000000 in
theorem operator_any (T : Nat → List UInt8) (l : List UInt8) (w : World) (h : OpsT w T) : Calls Tryd.prog 49 #[str l] w fun e w' => e = .returned (.int .i64 (opF T l)) ∧ w' = w := by
  have hp := h.pos
  have c0 := h.word 0 (by decide)
  have c1 := h.word 1 (by decide)
  have c2 := h.word 2 (by decide)
  have c3 := h.word 3 (by decide)
  have c4 := h.word 4 (by decide)
  have c5 := h.word 5 (by decide)
  have c6 := h.word 6 (by decide)
  have c7 := h.word 7 (by decide)
  have c8 := h.word 8 (by decide)
  have c9 := h.word 9 (by decide)
  have c10 := h.word 10 (by decide)
  have c11 := h.word 11 (by decide)
  have c12 := h.word 12 (by decide)
  have c13 := h.word 13 (by decide)
  have c14 := h.word 14 (by decide)
  have c15 := h.word 15 (by decide)
  clear h
  obtain ⟨A, hA⟩ : ∃ A : Array Value, A = #[.string ⟨(T 0).toArray⟩, .string ⟨(T 1).toArray⟩, .string ⟨(T 2).toArray⟩, .string ⟨(T 3).toArray⟩, .string ⟨(T 4).toArray⟩, .string ⟨(T 5).toArray⟩, .string ⟨(T 6).toArray⟩, .string ⟨(T 7).toArray⟩, .string ⟨(T 8).toArray⟩, .string ⟨(T 9).toArray⟩, .string ⟨(T 10).toArray⟩, .string ⟨(T 11).toArray⟩, .string ⟨(T 12).toArray⟩, .string ⟨(T 13).toArray⟩, .string ⟨(T 14).toArray⟩, .string ⟨(T 15).toArray⟩] := ⟨_, rfl⟩
  have HA : Hid (A.size = 16 ∧ ∀ k : Nat, k < 16 → A[k]? = some (str (T k))) := by
    refine ⟨by rw [hA]; rfl, fun k hk => ?_⟩
    rw [hA]
    rcases (by omega : k = 0 ∨ k = 1 ∨ k = 2 ∨ k = 3 ∨ k = 4 ∨ k = 5 ∨ k = 6 ∨ k = 7 ∨ k = 8 ∨ k = 9 ∨ k = 10 ∨ k = 11 ∨ k = 12 ∨ k = 13 ∨ k = 14 ∨ k = 15) with rfl | rfl | rfl | rfl | rfl | rfl | rfl | rfl | rfl | rfl | rfl | rfl | rfl | rfl | rfl | rfl <;> rfl
  have HAA := hid hA
  clear hA
  go_enter Tryd.func49, Tryd.ntmps49
  go_wp2
  rw [← HAA.out]
  go_loopw [6] (fun iv W => W = w ∧ ∃ i : Nat, i ≤ 16 ∧ iv = .int .i64 (i : Int) ∧ Hid (opF T l = opFrom T l (16 - i) i)) (fun iv _ => 16 - (intOf iv).toNat)
  case atStart => exact ⟨rfl, 0, by omega, rfl, rfl⟩
  case round =>
    obtain ⟨rfl, i, hi, rfl, HR⟩ := hrel
    by_cases hlt : i < 16
    · have a1 := HA.out.2 i hlt
      have a2 := HA.out.1
      obtain ⟨m, hm⟩ : ∃ m, 16 - i = m + 1 := ⟨15 - i, by omega⟩
      have HU : Hid (opF T l = if T i = l then (i : Int) else opFrom T l (16 - (i + 1)) (i + 1)) := by
        have h := HR.out
        rw [hm, opFrom] at h
        rw [show 16 - (i + 1) = m by omega]
        exact h
      have ix := fun W => index_ops A i _ hlt a1 W
      clear hm HR a1 a2
      by_cases he : T i = l
      · have e1 : (T i == l) = true := by simpa using he
        have HV : Hid (opF T l = (i : Int)) := by show _ = _; rw [HU.out, if_pos he]
        clear he
        go_wp2
        go_ret
        exact ⟨by rw [HV.out]; rfl, rfl⟩
      · have e1 : (T i == l) = false := by simpa using he
        have HV : Hid (opF T l = opFrom T l (16 - (i + 1)) (i + 1)) := by show _ = _; rw [HU.out, if_neg he]
        clear he
        go_wp2
        exact ⟨⟨by first | rfl | trivial, i + 1, hlt, by go_num, HV.out⟩, by simp [intOf] <;> omega⟩
    · have hie : i = 16 := by omega
      subst hie
      have HV : Hid (opF T l = -1) := by show _ = _; rw [HR.out]; rfl
      clear HR
      go_wp2
      go_ret
      exact ⟨by rw [HV.out]; rfl, rfl⟩

set_option maxHeartbeats 2000000 in
theorem op_78 (F : List UInt8 → Int) (B b : Nat) (text : List UInt8) (s : Rs) (x : Bx) (w : World) (h : Rt w B b text s x) (hF : ∀ W, Below B w W → Calls Tryd.prog 49 #[str (take s).1.1] W fun e w' => e = .returned (.int .i64 (F (take s).1.1)) ∧ w' = W) :
    Calls Tryd.prog 48 #[.pointer (some ⟨b, 0, none⟩), .func (.func 49) #[] #[]] w fun e w' => e = .returned (.int .i64 (op F s).1) ∧ (∃ lf, Rt w' B b text (op F s).2 { x with lf := lf }) ∧ Below B w w' ∧ Oth 67 (some b) w w' := by
  have TK := hid (take_any B b text s x w h)
  have hbw : b < w.heap.size := (Array.getElem?_eq_some_iff.1 h.box).1
  have HIN : Hid (InT text.length (take s).1) := take_in h.inl
  obtain ⟨ty, hty⟩ : ∃ ty, ty = (take s).1 := ⟨_, rfl⟩
  obtain ⟨s1, hs1⟩ : ∃ s1, s1 = (take s).2 := ⟨_, rfl⟩
  have NM : Hid (op F s = (F ty.1, if F ty.1 = -1 then refuse s1 140 ty.2 else s1)) := by
    show _ = _
    rw [hty, hs1]
    rfl
  rw [← hty, ← hs1] at TK
  rw [← hty] at HIN hF
  have hti : ty.2 + ty.1.length ≤ text.length := HIN.out
  have HFF := hid hF
  have RF : Hid (∀ W lf, Rt W B b text s1 { x with lf := lf } → Calls Tryd.prog 36 #[.pointer (some ⟨b, 0, none⟩), .int .i64 140, .int .i64 (ty.2 : Int)] W fun e w' => (∃ y, e = .returned y) ∧ Rt w' B b text (refuse s1 140 ty.2) { x with lf := lf } ∧ Below B W w' ∧ Oth 67 (some b) W w') := fun W lf hW => refuse_any B b text s1 _ 140 ty.2 W hW (by omega) (by decide)
  have MID : Hid (∀ w1 lf, Rt w1 B b text s1 { x with lf := lf } → Below B w w1 → Oth 67 (some b) w w1 → ∀ w2, w2 = w1.alloc (.cells #[str ty.1, .int .i64 (ty.2 : Int)] 64) →
      Rt w2 B b text s1 { x with lf := lf } ∧ Below B w w2 ∧ Oth 67 (some b) w w2 ∧ w2.heap[w1.heap.size]? = some (.cells #[str ty.1, .int .i64 (ty.2 : Int)] 64 (0, 0))) := fun w1 lf hR hb ho w2 h2 => by
    have b12 : Below w1.heap.size w1 w2 := by rw [h2]; exact (Below.refl _ _).alloc (Nat.le_refl _) _
    have hs := hb.size
    have := hR.base
    have := (Array.getElem?_eq_some_iff.1 hR.box).1
    exact ⟨hR.on b12, hb.trans (b12.mono (by omega)), ho.trans (Oth.of_below b12), by rw [h2]; exact heap_alloc_new w1 _⟩
  clear h hty hs1 hti HIN hF
  by_cases hm : F ty.1 = -1
  · have e1 : (F ty.1 == -1) = true := by simpa using hm
    have e2 : Hid (op F s = (F ty.1, refuse s1 140 ty.2)) := by show _ = _; rw [NM.out, if_pos hm]
    clear hm NM
    go_enter Tryd.func48, Tryd.ntmps48
    go_wp2_with (first
      | (have q := HW2; clear q; rw [← HW2.out]; clear HW2)
      | (have q := M1; clear q; go_at_call 36; refine (RF.out w2 lf M1.out).mono ?_; rintro e w3 ⟨⟨yy, rfl⟩, r3, b3, o3⟩; have R3 := hid r3; have B3 : Hid (Below B w w3) := M2.out.trans b3; have O3 : Hid (Oth 67 (some b) w w3) := M3.out.trans o3; clear r3 b3 o3)
      | (have q := FW; clear q; go_at_call 49; refine FW.out.mono ?_; rintro e w9 ⟨rfl, h9⟩; have h9 := h9.symm; subst h9; clear FW)
      | (go_at_call 45; refine TK.out.mono ?_; rintro e w1 ⟨rfl, ⟨lf, r1⟩, b1, o1⟩; obtain ⟨w2, hw2⟩ : ∃ w2, w2 = w1.alloc (.cells #[str ty.1, .int .i64 (ty.2 : Int)] 64) := ⟨_, rfl⟩; obtain ⟨m1, m2, m3, m5⟩ := MID.out w1 lf r1 b1 o1 w2 hw2; have HW2 := hid hw2; have M1 := hid m1; have M2 := hid m2; have M3 := hid m3; have FW := hid (HFF.out w2 m2); have c0 := cell_row m5 0; have c1 := cell_row m5 1; have l5 := (Array.getElem?_eq_some_iff.1 m5).1; clear hw2 m1 m2 m3 m5 r1 b1 o1))
    go_ret
    rw [e2.out]
    exact ⟨rfl, ⟨lf, R3.out⟩, B3.out, O3.out⟩
  · have e1 : (F ty.1 == -1) = false := by simpa using hm
    have e2 : Hid (op F s = (F ty.1, s1)) := by show _ = _; rw [NM.out, if_neg hm]
    clear hm NM RF
    go_enter Tryd.func48, Tryd.ntmps48
    go_wp2_with (first
      | (have q := HW2; clear q; rw [← HW2.out]; clear HW2)
      | (have q := FW; clear q; go_at_call 49; refine FW.out.mono ?_; rintro e w9 ⟨rfl, h9⟩; have h9 := h9.symm; subst h9; clear FW)
      | (go_at_call 45; refine TK.out.mono ?_; rintro e w1 ⟨rfl, ⟨lf, r1⟩, b1, o1⟩; obtain ⟨w2, hw2⟩ : ∃ w2, w2 = w1.alloc (.cells #[str ty.1, .int .i64 (ty.2 : Int)] 64) := ⟨_, rfl⟩; obtain ⟨m1, m2, m3, m5⟩ := MID.out w1 lf r1 b1 o1 w2 hw2; have HW2 := hid hw2; have M1 := hid m1; have M2 := hid m2; have M3 := hid m3; have FW := hid (HFF.out w2 m2); have c0 := cell_row m5 0; have c1 := cell_row m5 1; have l5 := (Array.getElem?_eq_some_iff.1 m5).1; clear hw2 m1 m2 m3 m5 r1 b1 o1))
    go_ret
    rw [e2.out]
    exact ⟨rfl, ⟨lf, M1.out⟩, M2.out, M3.out⟩

set_option maxHeartbeats 2000000 in
theorem op_80 (F : List UInt8 → Int) (B b : Nat) (text : List UInt8) (s : Rs) (x : Bx) (w : World) (h : Rt w B b text s x) (hF : ∀ W, Below B w W → Calls Tryd.prog 51 #[str (take s).1.1] W fun e w' => e = .returned (.int .i64 (F (take s).1.1)) ∧ w' = W) :
    Calls Tryd.prog 48 #[.pointer (some ⟨b, 0, none⟩), .func (.func 51) #[] #[]] w fun e w' => e = .returned (.int .i64 (op F s).1) ∧ (∃ lf, Rt w' B b text (op F s).2 { x with lf := lf }) ∧ Below B w w' ∧ Oth 67 (some b) w w' := by
  have TK := hid (take_any B b text s x w h)
  have hbw : b < w.heap.size := (Array.getElem?_eq_some_iff.1 h.box).1
  have HIN : Hid (InT text.length (take s).1) := take_in h.inl
  obtain ⟨ty, hty⟩ : ∃ ty, ty = (take s).1 := ⟨_, rfl⟩
  obtain ⟨s1, hs1⟩ : ∃ s1, s1 = (take s).2 := ⟨_, rfl⟩
  have NM : Hid (op F s = (F ty.1, if F ty.1 = -1 then refuse s1 140 ty.2 else s1)) := by
    show _ = _
    rw [hty, hs1]
    rfl
  rw [← hty, ← hs1] at TK
  rw [← hty] at HIN hF
  have hti : ty.2 + ty.1.length ≤ text.length := HIN.out
  have HFF := hid hF
  have RF : Hid (∀ W lf, Rt W B b text s1 { x with lf := lf } → Calls Tryd.prog 36 #[.pointer (some ⟨b, 0, none⟩), .int .i64 140, .int .i64 (ty.2 : Int)] W fun e w' => (∃ y, e = .returned y) ∧ Rt w' B b text (refuse s1 140 ty.2) { x with lf := lf } ∧ Below B W w' ∧ Oth 67 (some b) W w') := fun W lf hW => refuse_any B b text s1 _ 140 ty.2 W hW (by omega) (by decide)
  have MID : Hid (∀ w1 lf, Rt w1 B b text s1 { x with lf := lf } → Below B w w1 → Oth 67 (some b) w w1 → ∀ w2, w2 = w1.alloc (.cells #[str ty.1, .int .i64 (ty.2 : Int)] 64) →
      Rt w2 B b text s1 { x with lf := lf } ∧ Below B w w2 ∧ Oth 67 (some b) w w2 ∧ w2.heap[w1.heap.size]? = some (.cells #[str ty.1, .int .i64 (ty.2 : Int)] 64 (0, 0))) := fun w1 lf hR hb ho w2 h2 => by
    have b12 : Below w1.heap.size w1 w2 := by rw [h2]; exact (Below.refl _ _).alloc (Nat.le_refl _) _
    have hs := hb.size
    have := hR.base
    have := (Array.getElem?_eq_some_iff.1 hR.box).1
    exact ⟨hR.on b12, hb.trans (b12.mono (by omega)), ho.trans (Oth.of_below b12), by rw [h2]; exact heap_alloc_new w1 _⟩
  clear h hty hs1 hti HIN hF
  by_cases hm : F ty.1 = -1
  · have e1 : (F ty.1 == -1) = true := by simpa using hm
    have e2 : Hid (op F s = (F ty.1, refuse s1 140 ty.2)) := by show _ = _; rw [NM.out, if_pos hm]
    clear hm NM
    go_enter Tryd.func48, Tryd.ntmps48
    go_wp2_with (first
      | (have q := HW2; clear q; rw [← HW2.out]; clear HW2)
      | (have q := M1; clear q; go_at_call 36; refine (RF.out w2 lf M1.out).mono ?_; rintro e w3 ⟨⟨yy, rfl⟩, r3, b3, o3⟩; have R3 := hid r3; have B3 : Hid (Below B w w3) := M2.out.trans b3; have O3 : Hid (Oth 67 (some b) w w3) := M3.out.trans o3; clear r3 b3 o3)
      | (have q := FW; clear q; go_at_call 51; refine FW.out.mono ?_; rintro e w9 ⟨rfl, h9⟩; have h9 := h9.symm; subst h9; clear FW)
      | (go_at_call 45; refine TK.out.mono ?_; rintro e w1 ⟨rfl, ⟨lf, r1⟩, b1, o1⟩; obtain ⟨w2, hw2⟩ : ∃ w2, w2 = w1.alloc (.cells #[str ty.1, .int .i64 (ty.2 : Int)] 64) := ⟨_, rfl⟩; obtain ⟨m1, m2, m3, m5⟩ := MID.out w1 lf r1 b1 o1 w2 hw2; have HW2 := hid hw2; have M1 := hid m1; have M2 := hid m2; have M3 := hid m3; have FW := hid (HFF.out w2 m2); have c0 := cell_row m5 0; have c1 := cell_row m5 1; have l5 := (Array.getElem?_eq_some_iff.1 m5).1; clear hw2 m1 m2 m3 m5 r1 b1 o1))
    go_ret
    rw [e2.out]
    exact ⟨rfl, ⟨lf, R3.out⟩, B3.out, O3.out⟩
  · have e1 : (F ty.1 == -1) = false := by simpa using hm
    have e2 : Hid (op F s = (F ty.1, s1)) := by show _ = _; rw [NM.out, if_neg hm]
    clear hm NM RF
    go_enter Tryd.func48, Tryd.ntmps48
    go_wp2_with (first
      | (have q := HW2; clear q; rw [← HW2.out]; clear HW2)
      | (have q := FW; clear q; go_at_call 51; refine FW.out.mono ?_; rintro e w9 ⟨rfl, h9⟩; have h9 := h9.symm; subst h9; clear FW)
      | (go_at_call 45; refine TK.out.mono ?_; rintro e w1 ⟨rfl, ⟨lf, r1⟩, b1, o1⟩; obtain ⟨w2, hw2⟩ : ∃ w2, w2 = w1.alloc (.cells #[str ty.1, .int .i64 (ty.2 : Int)] 64) := ⟨_, rfl⟩; obtain ⟨m1, m2, m3, m5⟩ := MID.out w1 lf r1 b1 o1 w2 hw2; have HW2 := hid hw2; have M1 := hid m1; have M2 := hid m2; have M3 := hid m3; have FW := hid (HFF.out w2 m2); have c0 := cell_row m5 0; have c1 := cell_row m5 1; have l5 := (Array.getElem?_eq_some_iff.1 m5).1; clear hw2 m1 m2 m3 m5 r1 b1 o1))
    go_ret
    rw [e2.out]
    exact ⟨rfl, ⟨lf, M1.out⟩, M2.out, M3.out⟩
end Go.Proofs.YtfmmmhcpdinhgabDoor
/-
  Several rows of one type, each in a block of its own. For any program.
-/
namespace ShfKit
open Go Go.RowKit
set_option maxRecDepth 100000

abbrev Rw := Value × Nat × List Value
/-- rows, each in a block of its own. -/
structure Fam (W : World) (B e size : Nat) (L : List Rw) : Prop where
  own : ∀ (i : Nat) (x : Rw), L[i]? = some x → W.ownsRow B e size x.1 x.2.1 x.2.2
  apart : ∀ (i j : Nat) (x y : Rw) (g : Nat), L[i]? = some x → L[j]? = some y → i ≠ j → x.1.ownBlock = some g → y.1.ownBlock ≠ some g

section
variable {P : Program} {W W' : World} {B e size : Nat} {L : List Rw}
theorem Fam.nil (W : World) (B e size : Nat) : Fam W B e size [] := ⟨fun i x h => by simp at h, fun i j x y g h => by simp at h⟩
theorem Fam.kept (h : Fam W B e size L) (hk : ∀ g, B ≤ g → g < W.heap.size → W'.heap[g]? = W.heap[g]?) : Fam W' B e size L :=
  ⟨fun i x hx => own_kept (h.own i x hx) fun g hg => hk g (own_block (h.own i x hx) hg).1 (own_block (h.own i x hx) hg).2, h.apart⟩
theorem Fam.below (h : Fam W B e size L) (hb : Below W.heap.size W W') : Fam W' B e size L := h.kept fun g _ hg => hb.block g hg
/-- one of them has become another, and only its own block has turned, or new ones have come. -/
theorem Fam.turn (h : Fam W B e size L) {i : Nat} {x y : Rw} (hx : L[i]? = some x) (ho : W'.ownsRow B e size y.1 y.2.1 y.2.2)
    (hf : (y.1.ownBlock = x.1.ownBlock ∧ W.grownBy W' x.1.ownBlock) ∨ ((∀ g, y.1.ownBlock = some g → W.heap.size ≤ g) ∧ W.grownBy W' none)) : Fam W' B e size (L.set i y) := by
  have hi := (List.getElem?_eq_some_iff.1 hx).1
  have old : ∀ (j : Nat) (z : Rw), j ≠ i → L[j]? = some z → W'.ownsRow B e size z.1 z.2.1 z.2.2 := fun j z hj hz => by
    refine own_kept (h.own j z hz) fun g hg => ?_
    have hlt := (own_block (h.own j z hz) hg).2
    rcases hf with ⟨_, hgr⟩ | ⟨_, hgr⟩
    · exact hgr.block g hlt (fun e => h.apart j i z x g hz hx hj hg e.symm)
    · exact hgr.block g hlt (fun e => by cases e)
  have new : ∀ (j : Nat) (z : Rw) (g : Nat), j ≠ i → L[j]? = some z → z.1.ownBlock = some g → y.1.ownBlock ≠ some g := fun j z g hj hz hg hy => by
    rcases hf with ⟨he, _⟩ | ⟨hn, _⟩
    · rw [he] at hy
      exact h.apart j i z x g hz hx hj hg hy
    · have := hn g hy
      have := (own_block (h.own j z hz) hg).2
      omega
  refine ⟨fun j z hz => ?_, fun j k z u g hz hu hjk hg => ?_⟩
  · rw [List.getElem?_set] at hz
    by_cases hji : i = j
    · rw [if_pos hji, if_pos (by omega)] at hz
      cases hz
      exact ho
    · rw [if_neg hji] at hz
      exact old j z (fun e => hji e.symm) hz
  · rw [List.getElem?_set] at hz hu
    by_cases hji : i = j
    · rw [if_pos hji, if_pos (by omega)] at hz
      cases hz
      rw [if_neg (by omega)] at hu
      intro hue
      exact new k u g (by omega) hu hue hg
    · rw [if_neg hji] at hz
      by_cases hki : i = k
      · rw [if_pos hki, if_pos (by omega)] at hu
        cases hu
        exact new j z g (fun e => hji e.symm) hz hg
      · rw [if_neg hki] at hu
        exact h.apart j k z u g hz hu hjk hg
/-- one more row, in a block that is new. -/
theorem Fam.push (h : Fam W B e size L) {y : Rw} (hb : Below W.heap.size W W') (ho : W'.ownsRow W.heap.size e size y.1 y.2.1 y.2.2) (hB : B ≤ W.heap.size) : Fam W' B e size (L ++ [y]) := by
  have h2 := h.below hb
  refine ⟨fun j z hz => ?_, fun j k z u g hz hu hjk hg => ?_⟩
  · by_cases hj : j < L.length
    · rw [List.getElem?_append_left hj] at hz
      exact h2.own j z hz
    · rw [List.getElem?_append_right (by omega)] at hz
      have : j - L.length = 0 := by have := (List.getElem?_eq_some_iff.1 hz).1; simp at this; omega
      rw [this] at hz
      cases hz
      exact own_base ho hB
  · by_cases hj : j < L.length
    · rw [List.getElem?_append_left hj] at hz
      by_cases hk : k < L.length
      · rw [List.getElem?_append_left hk] at hu
        exact h.apart j k z u g hz hu hjk hg
      · rw [List.getElem?_append_right (by omega)] at hu
        have : k - L.length = 0 := by have := (List.getElem?_eq_some_iff.1 hu).1; simp at this; omega
        rw [this] at hu
        cases hu
        intro e
        have := (own_block ho e).1
        have := (own_block (h.own j z hz) hg).2
        omega
    · rw [List.getElem?_append_right (by omega)] at hz
      have : j - L.length = 0 := by have := (List.getElem?_eq_some_iff.1 hz).1; simp at this; omega
      rw [this] at hz
      cases hz
      by_cases hk : k < L.length
      · rw [List.getElem?_append_left hk] at hu
        intro e
        have := (own_block ho hg).1
        have := (own_block (h.own k u hu) e).2
        omega
      · have := (List.getElem?_eq_some_iff.1 hu).1
        simp at this
        have hk2 : k = L.length := by omega
        have : j - L.length = 0 := by omega
        omega
/-- a cell of a row. -/
theorem own_cell {v : Value} {n : Nat} {xs : List Value} (h : W.ownsRow B e size v n xs) {j : Nat} {x : Value} (hj : xs[j]? = some x) : ∃ g c, v = .slice (some ⟨g, 0, none⟩) n c ∧ B ≤ g ∧ g < W.heap.size ∧ W.cell? ⟨g, j, none⟩ = some x ∧ W.frozen? ⟨g, j, none⟩ = false := by
  have hlt := (List.getElem?_eq_some_iff.1 hj).1
  rcases h.2 with ⟨hv, h0⟩ | ⟨g, cap, cur, hv, hb, hr, hnc, hcm, hcs, htk⟩
  · have := h.1
    rw [h0] at this
    omega
  · refine ⟨g, cap, hv, hb, (Array.getElem?_eq_some_iff.1 hr).1, ?_, by simp [World.frozen?, hr]⟩
    rw [← htk] at hj
    rw [List.getElem?_take] at hj
    split at hj
    · simp [World.cell?, hr]
      simpa using hj
    · cases hj
/-- a cell of a row is written. -/
theorem own_set {v : Value} {n : Nat} {xs : List Value} (h : W.ownsRow B e size v n xs) {g c j : Nat} (hv : v = .slice (some ⟨g, 0, none⟩) n c) (u : Value) : (W.setCell ⟨g, j, none⟩ u).ownsRow B e size v n (xs.set j u) ∧ W.grownBy (W.setCell ⟨g, j, none⟩ u) v.ownBlock := by
  have hob : v.ownBlock = some g := by rw [hv]; rfl
  refine ⟨⟨by rw [List.length_set]; exact h.1, ?_⟩, ⟨rfl, rfl, rfl, by simp [World.setCell], fun k hk hne => Below.heap_setCell W _ _ _ (fun e => hne (by rw [hob, e]))⟩⟩
  rcases h.2 with ⟨hv', h0⟩ | ⟨g', cap, cur, hv', hb, hr, hnc, hcm, hcs, htk⟩
  · rw [hv] at hv'; cases hv'
  · rw [hv] at hv'
    cases hv'
    refine .inr ⟨g, c, cur.setIfInBounds j u, hv, hb, ?_, hnc, hcm, by simpa using hcs, ?_⟩
    · simp [World.setCell, Array.getElem?_modify, hr]
    · rw [← htk, Array.toList_setIfInBounds, List.take_set]
theorem Fam.write (h : Fam W B e size L) {i : Nat} {x : Rw} (hx : L[i]? = some x) {g c j : Nat} (hv : x.1 = .slice (some ⟨g, 0, none⟩) x.2.1 c) (u : Value) : Fam (W.setCell ⟨g, j, none⟩ u) B e size (L.set i (x.1, x.2.1, x.2.2.set j u)) := by
  obtain ⟨h1, h2⟩ := own_set (h.own i x hx) (j := j) hv u
  exact h.turn (y := (x.1, x.2.1, x.2.2.set j u)) hx h1 (.inl ⟨rfl, h2⟩)
end
end ShfKit
