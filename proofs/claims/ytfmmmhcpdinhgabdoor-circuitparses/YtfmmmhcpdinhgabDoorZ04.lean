import Derived.Test.YtfmmmhcpdinhgabDoorZ03
/-
  The reader's namesOf.
-/
namespace Go.Proofs.YtfmmmhcpdinhgabDoor
open Go.RowKit Go.Deep PureNet PureRd
set_option maxRecDepth 100000

theorem info74 : (Tryd.prog.info? 64).map (fun i => (i.zero, i.size, i.bytes)) = some (some (.agg #[.string ⟨#[]⟩, .int .i64 0]), 2, 24) := by kernel_rfl
theorem make_words (n : Nat) (hn : n ≤ 1000) (W : World) : (Instr.makeSlice 62 (.int .i64 (n : Int)) (.int .i64 (n : Int))).run Tryd.prog W = .ok (.slice (some ⟨W.heap.size, 0, none⟩) n n) (W.alloc (.cells (madeCells #[.string ⟨#[]⟩, .int .i64 0] (n * 2)) 64)) := by
  obtain ⟨i, hi, hz, hs, hb⟩ := info_parts info74
  have h := run_make (P := Tryd.prog) W 62 64 i _ Tryd.underlying62 hi hz .i64 .i64 (n : Int) (n : Int) (by omega) (Int.le_refl _) (by rw [hb]; omega) (by omega)
  rw [hs] at h
  simp only [Int.toNat_natCast] at h
  exact h
theorem namesOf_len (nm : List UInt8 → Bool) (n : Nat) (s : Rs) : (namesOf nm n s).1.length = n := by
  induction n with
  | zero => rfl
  | succ n ih => simp [namesOf, ih]
theorem namesOf_le (nm : List UInt8 → Bool) (N : Nat) (s : Rs) (h : ∀ y ∈ s.left, InT N y) : ∀ n, (∀ y ∈ (namesOf nm n s).2.left, InT N y) ∧ ∀ y ∈ (namesOf nm n s).1, InT N y := by
  have tl : ∀ s : Rs, (∀ y ∈ s.left, InT N y) → ∀ y ∈ (take s).2.left, InT N y := fun s h => by
    unfold take
    split
    · rename_i e
      intro y hy
      unfold refuse at hy
      split at hy <;> exact h y hy
    · rename_i z t e
      intro y hy
      exact h y (by rw [e]; exact List.mem_cons_of_mem _ hy)
  have nl : ∀ s : Rs, (∀ y ∈ s.left, InT N y) → ∀ y ∈ (name nm s).2.left, InT N y := fun s h => by
    unfold name
    dsimp only
    split
    · exact tl s h
    · intro y hy
      unfold refuse at hy
      split at hy <;> exact tl s h y hy
  intro n
  induction n with
  | zero => exact ⟨h, fun y hy => by simp [namesOf] at hy⟩
  | succ n ih =>
    refine ⟨nl _ ih.1, fun y hy => ?_⟩
    simp only [namesOf, List.mem_append, List.mem_singleton] at hy
    rcases hy with hy | rfl
    · exact ih.2 y hy
    · exact take_in ih.1

set_option maxHeartbeats 2000000 in
theorem namesOf_any (n : Nat) (hn : n ≤ 1000) (B b : Nat) (text : List UInt8) (s : Rs) (x : Bx) (w : World) (h : Rt w B b text s x) :
    Calls Tryd.prog 50 #[.pointer (some ⟨b, 0, none⟩), .int .i64 (n : Int)] w fun e w' => ∃ u cur, e = .returned (.slice (some ⟨u, 0, none⟩) n n) ∧ w.heap.size ≤ u ∧ w'.heap[u]? = some (.cells cur 64 (0, 0)) ∧ (∀ (j : Nat) (y : Wd), (namesOf nameL n s).1[j]? = some y → cur[j * 2]? = some (str y.1) ∧ cur[j * 2 + 1]? = some (.int .i64 (y.2 : Int))) ∧ (∃ lf, Rt w' B b text (namesOf nameL n s).2 { x with lf := lf }) ∧ Below B w w' ∧ Oth 67 (some b) w w' := by
  have mk := make_words n hn
  obtain ⟨w0, hw0⟩ : ∃ w0, w0 = w.alloc (.cells (madeCells #[.string ⟨#[]⟩, .int .i64 0] (n * 2)) 64) := ⟨_, rfl⟩
  have BW : Below w.heap.size w w0 := by rw [hw0]; exact (Below.refl _ _).alloc (Nat.le_refl _) _
  have hbw : b < w.heap.size := (Array.getElem?_eq_some_iff.1 h.box).1
  have hB := h.base
  have hmx := h.mxl
  have START : Hid (∃ cur lf, w0.heap[w.heap.size]? = some (.cells cur 64 (0, 0)) ∧ cur.size = n * 2 ∧ (∀ (j : Nat) (y : Wd), (namesOf nameL 0 s).1[j]? = some y → cur[j * 2]? = some (str y.1) ∧ cur[j * 2 + 1]? = some (.int .i64 (y.2 : Int))) ∧ Rt w0 B b text (namesOf nameL 0 s).2 { x with lf := lf } ∧ Below B w w0 ∧ Oth 67 (some b) w w0) :=
    ⟨_, x.lf, by rw [hw0]; exact heap_alloc_new w _, size_madeCells _ _, fun j y hy => by simp [namesOf] at hy, h.on BW, BW.mono (by omega), Oth.of_below BW⟩
  have NAM : Hid (∀ W i lf, Rt W B b text (namesOf nameL i s).2 { x with lf := lf } → Calls Tryd.prog 26 #[.pointer (some ⟨b, 0, none⟩)] W fun e w' => e = .returned (.agg #[str (name nameL (namesOf nameL i s).2).1.1, .int .i64 ((name nameL (namesOf nameL i s).2).1.2 : Int)]) ∧ (∃ lf, Rt w' B b text (namesOf nameL (i + 1) s).2 { x with lf := lf }) ∧ Below B W w' ∧ Oth 67 (some b) W w') := fun W i lf hR => name_any B b text _ { x with lf := lf } W hR
  have HW0 := hid hw0
  clear h BW hw0
  go_enter Tryd.func50, Tryd.ntmps50
  go_wp2_with (rw [← HW0.out])
  clear mk
  go_loopw [11] (fun iv W => ∃ i : Nat, i ≤ n ∧ iv = .int .i64 (i : Int) ∧ Hid (∃ cur lf, W.heap[w.heap.size]? = some (.cells cur 64 (0, 0)) ∧ cur.size = n * 2 ∧ (∀ (j : Nat) (y : Wd), (namesOf nameL i s).1[j]? = some y → cur[j * 2]? = some (str y.1) ∧ cur[j * 2 + 1]? = some (.int .i64 (y.2 : Int))) ∧ Rt W B b text (namesOf nameL i s).2 { x with lf := lf } ∧ Below B w W ∧ Oth 67 (some b) w W)) (fun iv _ => n - (intOf iv).toNat)
  case atStart => exact ⟨0, Nat.zero_le _, rfl, START.out⟩
  case round =>
    clear START
    obtain ⟨i, hi, rfl, HR⟩ := hrel
    obtain ⟨cur, lf, r1, r2, r3, r4, r5, r6⟩ := HR.out
    have R1 := hid r1
    have R2 := hid r2
    have R3 := hid r3
    have R5 := hid r5
    have R6 := hid r6
    by_cases hlt : i < n
    · have NI := hid (NAM.out wr i lf r4)
      obtain ⟨y, hy⟩ : ∃ y, y = (name nameL (namesOf nameL i s).2).1 := ⟨_, rfl⟩
      rw [← hy] at NI
      have STEP : Hid (∀ w2 lf2, Rt w2 B b text (namesOf nameL (i + 1) s).2 { x with lf := lf2 } → Below B wr w2 → Oth 67 (some b) wr w2 → (∃ z0 z1, w2.cell? ⟨w.heap.size, i * 2, none⟩ = some z0 ∧ w2.cell? ⟨w.heap.size, i * 2 + 1, none⟩ = some z1) ∧ (∀ j, w2.frozen? ⟨w.heap.size, j, none⟩ = false) ∧ w.heap.size < w2.heap.size ∧ ∀ W, W = (w2.setCell ⟨w.heap.size, i * 2, none⟩ (str y.1)).setCell ⟨w.heap.size, i * 2 + 1, none⟩ (.int .i64 (y.2 : Int)) → ∃ cur lf, W.heap[w.heap.size]? = some (.cells cur 64 (0, 0)) ∧ cur.size = n * 2 ∧ (∀ (j : Nat) (y : Wd), (namesOf nameL (i + 1) s).1[j]? = some y → cur[j * 2]? = some (str y.1) ∧ cur[j * 2 + 1]? = some (.int .i64 (y.2 : Int))) ∧ Rt W B b text (namesOf nameL (i + 1) s).2 { x with lf := lf } ∧ Below B w W ∧ Oth 67 (some b) w W) := fun w2 lf2 hR hb ho => by
        have hu := oth74 ho R1.out (by omega)
        have hsz := R2.out
        have hc : ∀ j, w2.cell? ⟨w.heap.size, j, none⟩ = cur[j]? := fun j => cell_row hu j
        refine ⟨⟨_, _, (hc _).trans (Array.getElem?_eq_getElem (by omega)), (hc _).trans (Array.getElem?_eq_getElem (by omega))⟩, fun j => unfrozen_row hu j, (Array.getElem?_eq_some_iff.1 hu).1, fun W hW => ?_⟩
        have hu2 : W.heap[w.heap.size]? = some (.cells ((cur.setIfInBounds (i * 2) (str y.1)).setIfInBounds (i * 2 + 1) (.int .i64 (y.2 : Int))) 64 (0, 0)) := by rw [hW, row_set (row_set hu)]
        have hsame : ∀ k, k ≠ w.heap.size → W.heap[k]? = w2.heap[k]? := fun k hk => by rw [hW, Below.heap_setCell _ _ _ _ hk, Below.heap_setCell _ _ _ _ hk]
        have hs2 : w2.heap.size = W.heap.size := by rw [hW]; simp
        refine ⟨_, lf2, hu2, by simpa using hsz, fun j z hz => ?_, hR.aside (k := w.heap.size) (by omega) (fun j o hj hne => (hsame j hne).trans hj) ⟨_, _, hu⟩ hmx, ?_, fun k ob hk h1 h2 => (hsame k (by have := (Array.getElem?_eq_some_iff.1 hk).1; omega)).trans ((R6.out.trans ho) k ob hk h1 h2)⟩
        · rw [show (namesOf nameL (i + 1) s).1 = (namesOf nameL i s).1 ++ [y] by rw [hy]; rfl] at hz
          have hl := namesOf_len nameL i s
          by_cases hj : j < i
          · rw [List.getElem?_append_left (by omega)] at hz
            have := R3.out j z hz
            rw [Array.getElem?_setIfInBounds_ne (by omega), Array.getElem?_setIfInBounds_ne (by omega), Array.getElem?_setIfInBounds_ne (by omega), Array.getElem?_setIfInBounds_ne (by omega)]
            exact this
          · rw [List.getElem?_append_right (by omega), hl] at hz
            have hj2 : j = i := by
              have := (List.getElem?_eq_some_iff.1 hz).1
              simp at this
              omega
            subst hj2
            simp at hz
            subst hz
            rw [Array.getElem?_setIfInBounds_ne (by omega)]
            constructor
            · rw [Array.getElem?_setIfInBounds_self_of_lt (by omega)]
            · rw [Array.getElem?_setIfInBounds_self_of_lt (by simp; omega)]
        · rw [hW]
          exact ((R5.out.trans hb).setCell (p := ⟨w.heap.size, i * 2, none⟩) (by show B ≤ w.heap.size; omega) _).setCell (p := ⟨w.heap.size, i * 2 + 1, none⟩) (by show B ≤ w.heap.size; omega) _
      clear HR r1 r2 r3 r4 r5 r6 hy
      go_wp2_with (go_at_call 26; refine NI.out.mono ?_; rintro e w2 ⟨rfl, ⟨lf2, k1⟩, k2, k3⟩; obtain ⟨⟨z0, z1, d0, d1⟩, d2, d3, fin⟩ := STEP.out w2 lf2 k1 k2 k3; have FN := hid fin; clear k1 k2 k3 fin)
      exact ⟨⟨i + 1, hlt, by go_num, FN.out _ rfl⟩, by simp [intOf] <;> omega⟩
    · have hie : i = n := by omega
      subst hie
      have FN : Hid (∃ u cur, Value.slice (some ⟨w.heap.size, 0, none⟩) i i = .slice (some ⟨u, 0, none⟩) i i ∧ w.heap.size ≤ u ∧ wr.heap[u]? = some (.cells cur 64 (0, 0)) ∧ (∀ (j : Nat) (y : Wd), (namesOf nameL i s).1[j]? = some y → cur[j * 2]? = some (str y.1) ∧ cur[j * 2 + 1]? = some (.int .i64 (y.2 : Int))) ∧ (∃ lf, Rt wr B b text (namesOf nameL i s).2 { x with lf := lf }) ∧ Below B w wr ∧ Oth 67 (some b) w wr) := ⟨_, cur, rfl, Nat.le_refl _, r1, r3, ⟨lf, r4⟩, r5, r6⟩
      clear HR r1 r2 r3 r4 r5 r6 R1 R2 R3 R5 R6
      obtain ⟨u, cur2, e2, f⟩ := FN.out
      have E2 := hid e2
      clear e2 FN
      go_wp2
      go_ret
      exact ⟨u, cur2, by rw [← E2.out]; rfl, f⟩
end Go.Proofs.YtfmmmhcpdinhgabDoor
/-
  The reader in memory: a place, a name, a line more.
-/
namespace Go.Proofs.YtfmmmhcpdinhgabDoor
open Go.RowKit Go.Deep PureNet PureRd Go.Maps Go.WideShapes
set_option maxRecDepth 100000

theorem info104 : (Tryd.prog.info? 87).map (fun i => (i.zero, i.size, i.bytes)) = some (some (.agg #[.int .i64 0, .string ⟨#[]⟩, .int .i64 0, .int .i64 0, .int .i64 0, .int .i64 0, .slice none 0 0]), 7, 80) := by kernel_rfl
theorem placeOf_push (s : Rs) (k : List UInt8) (p : Nat) (q : List UInt8) : placeOf { s with places := (k, p) :: s.places } q = if q = k then some p else placeOf s q := by
  unfold placeOf
  simp only [List.find?_cons]
  by_cases h : q = k
  · subst h; simp
  · have : (k == q) = false := by simpa using fun e => h e.symm
    rw [this, if_neg h]
/-- a map block turns, and no other. -/
theorem Rt.atMap {W W' : World} {B b : Nat} {text : List UInt8} {s : Rs} {x : Bx} (h : Rt W B b text s x) (hg : W.grownBy W' (some x.pm)) (k : List UInt8) (p n : Nat) (D : DataW Unit)
    (hD : W.ownsMap Tryd.prog 9 (plainElem Tryd.prog 3) x.pm n D) (hn : n ≤ s.places.length) (hv : ∀ q, has D (.string q) = (placeOf s q).isSome ∧ ∀ p z, placeOf s q = some p → D.atKey (.string q) z = .lit (.int .i64 (p : Int)))
    (hD' : W'.ownsMap Tryd.prog 9 (plainElem Tryd.prog 3) x.pm (n + 1) (D.put (.string k) (.lit (.int .i64 (p : Int))))) (hfew : s.places.length + 1 ≤ 1099511627776) : Rt W' B b text { s with places := (k, p) :: s.places } x := by
  obtain ⟨es, cl, hm, _⟩ := hD
  have cne : ∀ {j : Nat} {c : Array Value} {t : Nat} {fz : Nat × Nat}, W.heap[j]? = some (.cells c t fz) → some j ≠ some x.pm := fun hj e => by
    rw [Option.some.inj e, hm] at hj
    cases hj
  have keep : ∀ {j : Nat} {c : Array Value} {t : Nat} {fz : Nat × Nat}, W.heap[j]? = some (.cells c t fz) → W'.heap[j]? = some (.cells c t fz) := fun hj => (hg.block _ (Array.getElem?_eq_some_iff.1 hj).1 (cne hj)).trans hj
  have own : ∀ {e size n : Nat} {v : Value} {xs : List Value}, W.ownsRow B e size v n xs → W'.ownsRow B e size v n xs := fun ho => by
    refine ⟨ho.1, ?_⟩
    rcases ho.2 with hn | ⟨g, cap, cur, hv, hb, hr, rest⟩
    · exact .inl hn
    · exact .inr ⟨g, cap, cur, hv, hb, keep hr, rest⟩
  have wrow : ∀ {v : Value} {ws : List Wd}, WRow W x.mx v ws → WRow W' x.mx v ws := fun ⟨sa, c, hv, hc, hr⟩ => ⟨sa, c, hv, hc, fun h0 => by
    obtain ⟨g, o, cur, fz, e, hgM, hg, hx⟩ := hr h0
    exact ⟨g, o, cur, fz, e, hgM, keep hg, hx⟩⟩
  refine ⟨h.base, keep h.box, ?_, wrow h.left, own h.lines, h.many, fun i l u hl hu => wrow (h.uses i l u hl hu), ?_, own h.names, h.small, h.inl, h.inla, h.inn, h.inu, by simpa using hfew, h.fewL, h.fewN, h.fewO, h.flt, Nat.le_trans h.mxl hg.size, h.two, h.pmB⟩
  · rcases h.mode with hm | ⟨hm, m, n, D, e, ho, hD⟩
    · exact .inl hm
    · exact .inr ⟨hm, m, n, D, e, ho.kept hg (fun e2 => h.two m e (Option.some.inj e2)), hD⟩
  · have hD2 : IsMap D := World.ownsMap.isMap (w := W) (P := Tryd.prog) (k := 9) (R := plainElem Tryd.prog 3) (b := x.pm) (n := n) ⟨es, cl, hm, by assumption⟩
    refine ⟨n + 1, _, hD', by simpa using hn, fun q => ?_⟩
    rw [placeOf_push]
    by_cases hq : q = k
    · subst hq
      rw [if_pos rfl, has_put_same hD2 (by constructor)]
      exact ⟨rfl, fun p2 z e => by cases e; exact atKey_put_same hD2 (by constructor) _ _⟩
    · have hne : Lit.string q ≠ Lit.string k := fun e => hq (by simpa using e)
      rw [if_neg hq, has_put_other hne]
      exact ⟨(hv q).1, fun p2 z e => by rw [atKey_put_other hne]; exact (hv q).2 p2 z e⟩
/-- what is appended to a row of one type, and the box that shows it. -/
theorem Rt.pushName {W W' W2 : World} {B b : Nat} {text : List UInt8} {s : Rs} {x : Bx} (h : Rt W B b text s x) (ho : Oth 3 (some b) W W') (hs : W.heap.size ≤ W'.heap.size) (nv : Value) (a : Nat) (ha : a ≤ text.length) (hown : W'.ownsRow B 3 1 nv (s.names.length + 1) (nats s.names ++ [.int .i64 (a : Int)]))
    (hbox : W'.heap[b]? = some (.cells (boxV text { s with names := s.names ++ [a] } { x with nv := nv }) 67 (0, 0))) (hfew : s.names.length + 1 ≤ 1099511627776) (e : W2 = W') : Rt W2 B b text { s with names := s.names ++ [a] } { x with nv := nv } := by
  subst e
  have hb : ∀ (tt : Nat), tt ≠ 67 → ∀ k c fz, some b = some k → W.heap[k]? ≠ some (.cells c tt fz) := fun tt ht k c fz e h2 => by
    obtain rfl := Option.some.inj e
    rw [h.box] at h2
    simp only [Option.some.injEq, Obj.cells.injEq] at h2
    exact ht h2.2.1.symm
  refine ⟨h.base, hbox, h.mode.kept ho ⟨_, _, _, h.box⟩, h.left.kept ho (by decide) (hb 64 (by decide)), own_oth h.lines ho (by decide) (hb 87 (by decide)), h.many, fun i l u hl hu => (h.uses i l u hl hu).kept ho (by decide) (hb 64 (by decide)), h.places.kept ho ⟨_, _, _, h.box⟩, ?_, h.small, h.inl, h.inla, ?_, h.inu, h.few, h.fewL, by simpa using hfew, h.fewO, h.flt, Nat.le_trans h.mxl hs, h.two, h.pmB⟩
  · have e1 : nats (s.names ++ [a]) = nats s.names ++ [.int .i64 (a : Int)] := by simp [nats]
    have e2 : (s.names ++ [a]).length = s.names.length + 1 := by simp
    show W2.ownsRow B 3 1 nv (s.names ++ [a]).length (nats (s.names ++ [a]))
    rw [e1, e2]
    exact hown
  · intro y hy
    simp only [List.mem_append, List.mem_singleton] at hy
    rcases hy with hy | rfl
    · exact h.inn y hy
    · exact ha
theorem lnsV_push (l : List Ln) (us : List Value) (y : Ln) (u : Value) (h : us.length = l.length) : lnsV (l ++ [y]) (us ++ [u]) = lnsV l us ++ lnV y u := by
  unfold lnsV
  rw [List.zip_append (by omega)]
  simp
theorem Rt.pushLine {W W' W2 : World} {B b : Nat} {text : List UInt8} {s : Rs} {x : Bx} (h : Rt W B b text s x) (ho : Oth 87 (some b) W W') (hs : W.heap.size ≤ W'.heap.size) (ln : Value) (y : Ln) (u : Value) (mx : Nat) (hmx : x.mx ≤ mx) (hmx2 : mx ≤ W'.heap.size) (hy : ∀ z ∈ y.uses, InT text.length z) (hu : WRow W' mx u y.uses) (hown : W'.ownsRow B 87 7 ln (s.lines.length + 1) (lnsV s.lines x.us ++ lnV y u))
    (hbox : W'.heap[b]? = some (.cells (boxV text { s with lines := s.lines ++ [y] } { x with ln := ln, us := x.us ++ [u], mx := mx }) 67 (0, 0))) (hfew : s.lines.length + 1 ≤ 1099511627776) (e : W2 = W') : Rt W2 B b text { s with lines := s.lines ++ [y] } { x with ln := ln, us := x.us ++ [u], mx := mx } := by
  subst e
  have hb : ∀ (tt : Nat), tt ≠ 67 → ∀ k c fz, some b = some k → W.heap[k]? ≠ some (.cells c tt fz) := fun tt ht k c fz e h2 => by
    obtain rfl := Option.some.inj e
    rw [h.box] at h2
    simp only [Option.some.injEq, Obj.cells.injEq] at h2
    exact ht h2.2.1.symm
  have up : ∀ {v : Value} {ws : List Wd}, WRow W x.mx v ws → WRow W2 mx v ws := fun hw => by
    obtain ⟨sa, c, hv, hc, hr⟩ := hw.kept ho (by decide) (hb 64 (by decide))
    exact ⟨sa, c, hv, hc, fun h0 => by
      obtain ⟨g, o, cur, fz, e, hgM, hg, hx⟩ := hr h0
      exact ⟨g, o, cur, fz, e, by omega, hg, hx⟩⟩
  refine ⟨h.base, hbox, h.mode.kept ho ⟨_, _, _, h.box⟩, up h.left, ?_, by simp [h.many], fun i l v hl hv => ?_, h.places.kept ho ⟨_, _, _, h.box⟩, own_oth h.names ho (by decide) (hb 3 (by decide)), h.small, h.inl, h.inla, h.inn, ?_, h.few, by simpa using hfew, h.fewN, h.fewO, h.flt, hmx2, h.two, h.pmB⟩
  · show W2.ownsRow B 87 7 ln (s.lines ++ [y]).length (lnsV (s.lines ++ [y]) (x.us ++ [u]))
    rw [lnsV_push _ _ _ _ h.many, show (s.lines ++ [y]).length = s.lines.length + 1 by simp]
    exact hown
  · by_cases hi : i < s.lines.length
    · have hl2 : s.lines[i]? = some l := by
        have := hl
        simp only at this
        rwa [List.getElem?_append_left hi] at this
      have hv2 : x.us[i]? = some v := by
        have := hv
        simp only at this
        rwa [List.getElem?_append_left (by have := h.many; omega)] at this
      exact up (h.uses i l v hl2 hv2)
    · have hm := h.many
      have hl2 := hl
      have hv2 := hv
      simp only at hl2 hv2
      rw [List.getElem?_append_right (by omega)] at hl2 hv2
      have h0 : i - s.lines.length = 0 := by
        have := (List.getElem?_eq_some_iff.1 hl2).1
        simp at this
        omega
      rw [h0] at hl2
      rw [hm, h0] at hv2
      simp at hl2 hv2
      subst hl2 hv2
      exact hu
  · intro l hl z hz
    simp only [List.mem_append, List.mem_singleton] at hl
    rcases hl with hl | rfl
    · exact h.inu l hl z hz
    · exact hy z hz
end Go.Proofs.YtfmmmhcpdinhgabDoor
/-
  strings.IndexRune of a rune beyond seven bits, among three blanks.
-/
namespace Go.Proofs.YtfmmmhcpdinhgabDoor
open Go.RowKit Go.Deep PureNet PureRd
set_option maxRecDepth 100000

theorem enc_tail (c : Nat) : (UInt8.ofNat (128 + c % 64)).toNat = 128 + c % 64 := by
  rw [UInt8.toNat_ofNat']
  omega
theorem enc_last (c : Int) (h : 128 ≤ c) : ∃ n b, (Utf8.encode c).size = n + 2 ∧ n ≤ 2 ∧ (Utf8.encode c).data.toList[n + 1]? = some b ∧ 128 ≤ b.toNat := by
  have key : ∀ d : Nat, 128 ≤ d → ∃ n b, (if d < 128 then (⟨#[UInt8.ofNat d]⟩ : ByteArray) else if d < 2048 then ⟨#[UInt8.ofNat (192 + d / 64), UInt8.ofNat (128 + d % 64)]⟩ else if d < 65536 then ⟨#[UInt8.ofNat (224 + d / 4096), UInt8.ofNat (128 + d / 64 % 64), UInt8.ofNat (128 + d % 64)]⟩ else ⟨#[UInt8.ofNat (240 + d / 262144), UInt8.ofNat (128 + d / 4096 % 64), UInt8.ofNat (128 + d / 64 % 64), UInt8.ofNat (128 + d % 64)]⟩).size = n + 2 ∧ n ≤ 2 ∧ (if d < 128 then (⟨#[UInt8.ofNat d]⟩ : ByteArray) else if d < 2048 then ⟨#[UInt8.ofNat (192 + d / 64), UInt8.ofNat (128 + d % 64)]⟩ else if d < 65536 then ⟨#[UInt8.ofNat (224 + d / 4096), UInt8.ofNat (128 + d / 64 % 64), UInt8.ofNat (128 + d % 64)]⟩ else ⟨#[UInt8.ofNat (240 + d / 262144), UInt8.ofNat (128 + d / 4096 % 64), UInt8.ofNat (128 + d / 64 % 64), UInt8.ofNat (128 + d % 64)]⟩).data.toList[n + 1]? = some b ∧ 128 ≤ b.toNat := by
    intro d hd
    rw [if_neg (by omega)]
    by_cases h1 : d < 2048
    · rw [if_pos h1]
      exact ⟨0, _, rfl, by omega, rfl, by rw [enc_tail]; omega⟩
    · rw [if_neg h1]
      by_cases h2 : d < 65536
      · rw [if_pos h2]
        exact ⟨1, _, rfl, by omega, rfl, by rw [enc_tail]; omega⟩
      · rw [if_neg h2]
        exact ⟨2, _, rfl, by omega, rfl, by rw [enc_tail]; omega⟩
  unfold Utf8.encode
  dsimp only
  split
  · exact key _ (by omega)
  · exact key _ (by decide)
theorem conv_rune (c : Int) (w : World) : (convert 21 9 (.int .i32 c)).run Tryd.prog w = .ok (.string (Utf8.encode c)) w := by
  simp [convert, run_underlying Tryd.underlying21, run_underlying Tryd.underlying9, Conv.intToString]
/-- some truth, and nothing has turned. -/
def TruthW (w : World) (e : Ending) (w' : World) : Prop := (∃ b, e = .returned (.bool b)) ∧ w' = w
set_option maxHeartbeats 1000000 in
theorem valid_any (c : Int) (w : World) : Calls Tryd.prog 80 #[.int .i32 c] w fun e w' => TruthW w e w' := by
  by_cases h0 : (0 : Int) ≤ c
  · by_cases h1 : c < 55296
    · go_enter Tryd.func80, Tryd.ntmps80
      go_wp2
      go_ret
      exact ⟨⟨_, rfl⟩, rfl⟩
    · by_cases h2 : (57343 : Int) < c
      · by_cases h3 : c ≤ 1114111
        · go_enter Tryd.func80, Tryd.ntmps80
          go_wp2
          go_ret
          exact ⟨⟨_, rfl⟩, rfl⟩
        · go_enter Tryd.func80, Tryd.ntmps80
          go_wp2
          go_ret
          exact ⟨⟨_, rfl⟩, rfl⟩
      · go_enter Tryd.func80, Tryd.ntmps80
        go_wp2
        go_ret
        exact ⟨⟨_, rfl⟩, rfl⟩
  · have h2 : ¬ (57343 : Int) < c := by omega
    go_enter Tryd.func80, Tryd.ntmps80
    go_wp2
    go_ret
    exact ⟨⟨_, rfl⟩, rfl⟩
theorem byte_none (l : List UInt8) (hl : ∀ x ∈ l, x.toNat < 128) (b : UInt8) (hb : 128 ≤ b.toNat) (w : World) : Calls Tryd.prog 79 #[.string ⟨l.toArray⟩, .int .u8 (b.toNat : Int)] w fun e w' => e = .returned (.int .i64 (-1)) ∧ w' = w := by
  have h := Any.strings_IndexByte (P := Tryd.prog) (ρ := Tryd.lays153_ren) { Tryd.lays153 with } ⟨l.toArray⟩ (b.toNat : Int) w
  have e : Lib.indexByte l ((b.toNat : Int)).toNat.toUInt8 = -1 := by
    have e2 : ((b.toNat : Int)).toNat.toUInt8 = b := by simp
    rw [e2]
    clear h
    induction l with
    | nil => rfl
    | cons x t ih =>
      have hx := hl x (by simp)
      have hne : (x == b) = false := by rw [beq_eq_false_iff_ne]; intro e; subst e; omega
      rw [Lib.indexByte, hne, ih (fun y hy => hl y (by simp [hy]))]
      rfl
  rw [← e]
  exact h

set_option maxHeartbeats 4000000 in
/-- U+FFFD is none of the blanks. -/
theorem rune_odd (w : World) : Calls Tryd.prog 65 #[.string ⟨#[32, 9, 13]⟩, .int .i32 65533] w fun e w' => e = .returned (.int .i64 (-1)) ∧ Below w.heap.size w w' := by
  have hsz : (⟨#[32, 9, 13]⟩ : ByteArray).size = 3 := rfl
  have BI : Hid (∀ k, Below w.heap.size w (w.iter ⟨#[32, 9, 13]⟩ k)) := fun k => (Below.refl _ _).alloc (Nat.le_refl _) _
  go_enter Tryd.func65, Tryd.ntmps65
  go_wp2
  go_loopg [5, 6] 3 (fun k _ _ W => ∃ i : Nat, k + i = 3 ∧ W = w.iter ⟨#[32, 9, 13]⟩ i)
  case atStart => exact ⟨0, rfl, rfl⟩
  case round =>
    obtain ⟨i, hk, rfl⟩ := hrel
    rcases (show i = 0 ∨ i = 1 ∨ i = 2 ∨ i = 3 by omega) with rfl | rfl | rfl | rfl
    · have hnx := fun ty => run_next_ascii (P := Tryd.prog) w ⟨#[32, 9, 13]⟩ 0 ty (by decide) (by decide)
      go_wp2
      go_roundg 2
      case measure => omega
      case rel => exact ⟨1, rfl, rfl⟩
    · have hnx := fun ty => run_next_ascii (P := Tryd.prog) w ⟨#[32, 9, 13]⟩ 1 ty (by decide) (by decide)
      go_wp2
      go_roundg 1
      case measure => omega
      case rel => exact ⟨2, rfl, rfl⟩
    · have hnx := fun ty => run_next_ascii (P := Tryd.prog) w ⟨#[32, 9, 13]⟩ 2 ty (by decide) (by decide)
      go_wp2
      go_roundg 0
      case measure => omega
      case rel => exact ⟨3, rfl, rfl⟩
    · have hnx := fun ty => run_next_end (P := Tryd.prog) w ⟨#[32, 9, 13]⟩ 3 ty (by decide)
      go_wp2
      go_ret
      exact ⟨rfl, BI.out _⟩

set_option maxHeartbeats 8000000 in
/-- a rune beyond seven bits is none of the blanks. -/
theorem rune_high (c : Int) (h : 128 ≤ c) (hne : c ≠ 65533) (w : World) : Calls Tryd.prog 65 #[.string ⟨#[32, 9, 13]⟩, .int .i32 c] w fun e w' => e = .returned (.int .i64 (-1)) ∧ Below w.heap.size w w' := by
  have e0 : (c == 65533) = false := by simpa using hne
  have hsz3 : (⟨#[32, 9, 13]⟩ : ByteArray).size = 3 := rfl
  have hw2 : IntKind.i64.wrap 2 = 2 := by rw [IntKind.wrap_i64]; omega
  have hw3 : IntKind.i64.wrap 3 = 3 := by rw [IntKind.wrap_i64]; omega
  have g0 : (0 : Int) ≤ c := by omega
  have g1 : ¬ c < 128 := by omega
  have VR := fun W => hid (valid_any c W)
  have cv := fun W => conv_rune c W
  obtain ⟨n, b, hs, hn, hb, hb2⟩ := enc_last c h
  generalize Utf8.encode c = q at *
  have hlt : n + 1 < q.size := by omega
  have hq : q[n + 1]'hlt = b := by
    obtain ⟨h1, h2⟩ := List.getElem?_eq_some_iff.1 hb
    rw [← h2]
    rfl
  have B1 := fun W => hid (byte_none [13] (by decide) b hb2 W)
  have B0 := fun W => hid (byte_none [] (by intro x hx; cases hx) b hb2 W)
  have ne9 : (((((⟨#[32, 9, 13]⟩ : ByteArray)[1]'(by decide)).toNat : Nat) : Int) != (b.toNat : Int)) = true := by
    show ((9 : Int) != (b.toNat : Int)) = true
    rw [bne_iff_ne]
    omega
  have ne13 : (((((⟨#[32, 9, 13]⟩ : ByteArray)[2]'(by decide)).toNat : Nat) : Int) != (b.toNat : Int)) = true := by
    show ((13 : Int) != (b.toNat : Int)) = true
    rw [bne_iff_ne]
    omega
  clear h hne hb
  rcases (show n = 0 ∨ n = 1 ∨ n = 2 by omega) with rfl | rfl | rfl
  · have ex : (⟨#[32, 9, 13]⟩ : ByteArray).extract 2 3 = ⟨#[13]⟩ := by rw [Lib.extract_eq]; rfl
    go_enter Tryd.func65, Tryd.ntmps65
    go_wp2_with (go_at_call 80; refine (VR _).out.mono ?_; rintro e wv ⟨⟨bv, rfl⟩, hwv⟩; rw [hwv]; clear hwv)
    · go_ret
      exact ⟨rfl, Below.refl _ _⟩
    · refine wp_scope_straight ?_
      go_wp2
      go_loopg [9] 1 (fun _ iv W => W = w ∧ iv = .int .i64 1)
      case atStart => exact ⟨rfl, rfl⟩
      case round =>
        obtain ⟨rfl, rfl⟩ := hrel
        go_wp2
        refine wp_scope_straight ?_
        go_wp2
        go_quiet (fail)
        go_wp2
        go_region_law (go_simp; go_at_call 79; refine (B1 _).out.mono ?_; rintro e w1 ⟨rfl, hw1⟩; rw [hw1]; clear hw1)
        all_goals go_wp2
        all_goals simp only [Exit.noGoto, Exit.inBlock, Exit.then]
        all_goals exact bodyPost_ret (v := .int .i64 (-1)) (by simp [results, Tryd.results65, go_sem]) rfl ⟨rfl, below_drewN (Below.refl _ _) _⟩
  · have ex : (⟨#[32, 9, 13]⟩ : ByteArray).extract 3 3 = ⟨#[]⟩ := by rw [Lib.extract_eq]; rfl
    go_enter Tryd.func65, Tryd.ntmps65
    go_wp2_with (go_at_call 80; refine (VR _).out.mono ?_; rintro e wv ⟨⟨bv, rfl⟩, hwv⟩; rw [hwv]; clear hwv)
    · go_ret
      exact ⟨rfl, Below.refl _ _⟩
    · refine wp_scope_straight ?_
      go_wp2
      go_loopg [9] 1 (fun _ iv W => W = w ∧ iv = .int .i64 2)
      case atStart => exact ⟨rfl, rfl⟩
      case round =>
        obtain ⟨rfl, rfl⟩ := hrel
        go_wp2
        refine wp_scope_straight ?_
        go_wp2
        go_quiet (fail)
        go_wp2
        go_region_law (go_simp; go_at_call 79; refine (B0 _).out.mono ?_; rintro e w1 ⟨rfl, hw1⟩; rw [hw1]; clear hw1)
        all_goals go_wp2
        all_goals simp only [Exit.noGoto, Exit.inBlock, Exit.then]
        all_goals exact bodyPost_ret (v := .int .i64 (-1)) (by simp [results, Tryd.results65, go_sem]) rfl ⟨rfl, below_drewN (Below.refl _ _) _⟩
  · go_enter Tryd.func65, Tryd.ntmps65
    go_wp2_with (go_at_call 80; refine (VR _).out.mono ?_; rintro e wv ⟨⟨bv, rfl⟩, hwv⟩; rw [hwv]; clear hwv)
    · go_ret
      exact ⟨rfl, Below.refl _ _⟩
    · refine wp_scope_straight ?_
      go_wp2
      go_loopg [9] 1 (fun _ iv W => W = w ∧ iv = .int .i64 3)
      case atStart => exact ⟨rfl, rfl⟩
      case round =>
        obtain ⟨rfl, rfl⟩ := hrel
        go_wp2
        simp only [Exit.noGoto, Exit.inBlock]
        exact bodyPost_ret (v := .int .i64 (-1)) (by simp [results, Tryd.results65, go_sem]) rfl ⟨rfl, Below.refl _ _⟩
end Go.Proofs.YtfmmmhcpdinhgabDoor
/-
  strings.IndexAny of three blanks, in every text.
-/
namespace Go.Proofs.YtfmmmhcpdinhgabDoor
open Go.RowKit Go.Deep PureNet PureRd
set_option maxRecDepth 100000

theorem get_in (s : ByteArray) (j : Nat) (h : j < s.size) : s.get! j = s[j] := by
  simp [ByteArray.get!, getElem!_pos, h]
  rfl
/-- what one rune takes up: bytes of the text, all of them beyond the letters of seven bits. -/
theorem decode_span (s : ByteArray) (pos : Nat) (h : pos < s.size) (ha : 128 ≤ (s[pos]'h).toNat) :
    1 ≤ (Utf8.decode s pos).2 ∧ pos + (Utf8.decode s pos).2 ≤ s.size ∧ ∀ j (hj : j < s.size), pos ≤ j → j < pos + (Utf8.decode s pos).2 → 128 ≤ (s[j]'hj).toNat := by
  refine ⟨(decode_high s pos h ha).2, ?_⟩
  have h0 : s.get! (pos + 0) = s[pos]'h := get_in s pos h
  have hn : ¬ (s[pos]'h).toNat < 128 := by omega
  have one : pos + 1 ≤ s.size ∧ ∀ j (hj : j < s.size), pos ≤ j → j < pos + 1 → 128 ≤ (s[j]'hj).toNat := by
    refine ⟨h, fun j hj h1 h2 => ?_⟩
    obtain rfl : j = pos := by omega
    exact ha
  have big : ∀ k, pos + k < s.size → (s.get! (pos + k)).toNat / 64 = 2 → ∀ hj : pos + k < s.size, 128 ≤ (s[pos + k]'hj).toNat := by
    intro k hk he hj
    rw [get_in s (pos + k) hj] at he
    omega
  simp only [Utf8.decode, h0, hn, if_false]
  split
  · next h1 =>
    simp only [Bool.and_eq_true, beq_iff_eq, decide_eq_true_eq] at h1
    split
    · refine ⟨by omega, fun j hj a b => ?_⟩
      rcases Nat.eq_or_lt_of_le a with rfl | a
      · exact ha
      · obtain rfl : j = pos + 1 := by omega
        exact big 1 h1.2.1 h1.2.2 _
    · exact one
  · split
    · next h1 =>
      simp only [Bool.and_eq_true, beq_iff_eq, decide_eq_true_eq] at h1
      split
      · refine ⟨by omega, fun j hj a b => ?_⟩
        rcases Nat.eq_or_lt_of_le a with rfl | a
        · exact ha
        · rcases (show j = pos + 1 ∨ j = pos + 2 by omega) with rfl | rfl
          · exact big 1 h1.1.2.1 h1.1.2.2 _
          · exact big 2 h1.2.1 h1.2.2 _
      · exact one
    · split
      · next h1 =>
        simp only [Bool.and_eq_true, beq_iff_eq, decide_eq_true_eq] at h1
        split
        · refine ⟨by omega, fun j hj a b => ?_⟩
          rcases Nat.eq_or_lt_of_le a with rfl | a
          · exact ha
          · rcases (show j = pos + 1 ∨ j = pos + 2 ∨ j = pos + 3 by omega) with rfl | rfl | rfl
            · exact big 1 h1.1.1.2.1 h1.1.1.2.2 _
            · exact big 2 h1.1.2.1 h1.1.2.2 _
            · exact big 3 h1.2.1 h1.2.2 _
        · exact one
      · exact one


set_option maxHeartbeats 8000000 in
/-- a short text, whatever its bytes. -/
theorem index_short (s : ByteArray) (w : World) (h8 : s.size ≤ 8) : Calls Tryd.prog 54 #[.string s, .string ⟨#[32, 9, 13]⟩] w fun e w' => e = .returned (.int .i64 (Lib.indexAny s.data.toList [32, 9, 13])) ∧ Below w.heap.size w w' := by
  have SU : Hid (∀ W, Calls Tryd.prog 66 #[.int .i64 (s.size : Int)] W fun e w' => e = .returned (.bool false) ∧ w' = W) := fun W => by
    have h := Any.strings_shouldUseASCIISet (P := Tryd.prog) (ρ := Tryd.lays153_ren) { Tryd.lays153 with } (s.size : Int) W
    rw [show decide ((8 : Int) < (s.size : Int)) = false from decide_eq_false (by omega)] at h
    exact h
  have IA : Hid (∀ (x : UInt8) W, x.toNat < 128 → Calls Tryd.prog 65 #[.string ⟨#[32, 9, 13]⟩, .int .i32 (x.toNat : Int)] W fun e w' => e = .returned (.int .i64 (Lib.indexByte [32, 9, 13] x)) ∧ w' = W) := fun x W hx => by
    have h := Any.strings_IndexRune_ascii (P := Tryd.prog) (ρ := Tryd.lays153_ren) { Tryd.lays153 with } ⟨#[32, 9, 13]⟩ (x.toNat : Int) W (by omega) (by omega)
    rw [show ((x.toNat : Int)).toNat.toUInt8 = x by simp] at h
    exact h
  have IH : Hid (∀ (c : Int) W, 128 ≤ c → Calls Tryd.prog 65 #[.string ⟨#[32, 9, 13]⟩, .int .i32 c] W fun e w' => e = .returned (.int .i64 (-1)) ∧ Below W.heap.size W w') := fun c W hc => by
    by_cases h : c = 65533
    · subst h; exact rune_odd W
    · exact rune_high c hc h W
  go_enter Tryd.func54, Tryd.ntmps54
  go_wp2_with (go_at_call 66; refine (SU.out _).mono ?_; rintro e w1 ⟨rfl, hw1⟩; rw [hw1]; clear hw1)
  go_loopg [9, 10] s.size (fun k _ _ W => ∃ i : Nat, k + i = s.size ∧ Hid (W.heap[w.heap.size]? = some (.stringIter s i) ∧ Below w.heap.size w W ∧ Lib.NoAny s.data.toList [32, 9, 13] i))
  case atStart => exact ⟨0, by omega, World.iter_heap w s 0, (Below.refl _ _).alloc (Nat.le_refl _) _, Lib.NoAny.zero _ _⟩
  case round =>
    obtain ⟨WW, hWW⟩ : ∃ WW, WW = wr := ⟨_, rfl⟩
    rw [← hWW] at hrel ⊢
    clear hWW
    obtain ⟨i, hk, HR⟩ := hrel
    obtain ⟨r1, r2, r3⟩ := HR.out
    have HN := hid r3
    have HB := hid r2
    have HI := hid r1
    clear HR r2 r3
    by_cases hi : i < s.size
    · obtain ⟨x, hx⟩ : ∃ x : UInt8, s[i]'hi = x := ⟨_, rfl⟩
      have HX : Hid (s.data.toList[i]? = some x) := by show _ = _; rw [← hx]; exact Lib.data_getElem? s i hi
      by_cases h128 : x.toNat < 128
      · have hnx := fun ty => Lib.run_next_ascii_at (P := Tryd.prog) WW w.heap.size s i ty r1 hi (by rw [hx]; exact h128)
        rw [hx] at hnx
        have II := hid (Lib.iterAt_heap WW w.heap.size s i (i + 1) r1)
        have BB := hid (Lib.below_iterAt HB.out (Nat.le_refl _) s (i + 1))
        have hcon := Lib.contains_iff_indexByte [32, 9, 13] x
        clear r1 hx
        cases hin : ([32, 9, 13] : List UInt8).contains x
        · rw [hin] at hcon
          have hlt : ¬ ((0 : Int) ≤ Lib.indexByte [32, 9, 13] x) := of_decide_eq_false hcon.symm
          have HIN := hid hin
          clear hcon hin
          go_wp2_with (go_at_call 65; refine (IA.out _ _ h128).mono ?_; rintro e w1 ⟨rfl, hw1⟩; rw [hw1]; clear hw1)
          go_roundg (s.size - (i + 1))
          case measure => omega
          case rel => exact ⟨i + 1, by omega, II.out, BB.out, HN.out.succ HX.out HIN.out⟩
        · rw [hin] at hcon
          have hge : (0 : Int) ≤ Lib.indexByte [32, 9, 13] x := of_decide_eq_true hcon.symm
          have HIN := hid hin
          clear hcon hin
          go_wp2_with (go_at_call 65; refine (IA.out _ _ h128).mono ?_; rintro e w1 ⟨rfl, hw1⟩; rw [hw1]; clear hw1)
          go_ret
          exact ⟨by rw [Lib.indexAny_hit HN.out HX.out HIN.out]; rfl, BB.out⟩
      · have ha : 128 ≤ (s[i]'hi).toNat := by rw [hx]; omega
        obtain ⟨d1, d2, d3⟩ := decode_span s i hi ha
        have d4 := (decode_high s i hi ha).1
        have hnx := fun ty => Lib.run_next_any_at (P := Tryd.prog) WW w.heap.size s i ty r1 hi
        generalize Utf8.decode s i = dc at *
        obtain ⟨c, n⟩ := dc
        simp only at d1 d2 d3 d4 hnx
        have II := hid (Lib.iterAt_heap WW w.heap.size s i (i + n) r1)
        have BB := hid (Lib.below_iterAt HB.out (Nat.le_refl _) s (i + n))
        have HN2 : Hid (Lib.NoAny s.data.toList [32, 9, 13] (i + n)) := fun j b hj hb => by
          by_cases hji : j < i
          · exact HN.out j b hji hb
          · have hjs : j < s.size := by
              have := (List.getElem?_eq_some_iff.1 hb).1
              rw [← Lib.size_eq] at this
              exact this
            have hb2 := d3 j hjs (by omega) (by omega)
            have hb3 : s[j]'hjs = b := by
              have := Lib.data_getElem? s j hjs
              rw [hb] at this
              exact (Option.some.inj this).symm
            rw [hb3] at hb2
            have n1 : b ≠ 32 := fun e => by rw [e] at hb2; exact absurd hb2 (by decide)
            have n2 : b ≠ 9 := fun e => by rw [e] at hb2; exact absurd hb2 (by decide)
            have n3 : b ≠ 13 := fun e => by rw [e] at hb2; exact absurd hb2 (by decide)
            simp [n1, n2, n3]
        have hc : (128 : Int) ≤ (c : Int) := by omega
        have IC := hid (fun W => IH.out (c : Int) W hc)
        clear r1 hx ha d3 d4
        go_wp2_with (go_at_call 65; refine (IC.out _).mono ?_; rintro e w1 ⟨rfl, b1⟩; have B1 := hid (BB.out.trans (b1.mono (by have := BB.out.size; exact this))); have I1 := hid ((b1.block _ (Array.getElem?_eq_some_iff.1 II.out).1).trans II.out); clear b1)
        go_roundg (s.size - (i + n))
        case measure => omega
        case rel => exact ⟨i + n, by omega, I1.out, B1.out, HN2.out⟩
    · have hie : i = s.size := by omega
      have hnx := fun ty => Lib.run_next_end_at (P := Tryd.prog) WW w.heap.size s i ty r1 hi
      have HV : Hid (Lib.indexAny s.data.toList [32, 9, 13] = -1) := by show _ = _; exact Lib.indexAny_none (by rw [← Lib.size_eq, ← hie]; exact HN.out)
      clear r1 hie
      go_wp2
      go_ret
      exact ⟨by rw [HV.out]; rfl, HB.out⟩
theorem info_set : (Tryd.prog.info? (Tryd.lays153_ren.t 116)).map (fun i => (i.zero, i.size)) = some (some (.agg (Array.replicate 256 (.bool false))), 256) := by kernel_rfl
/-- every text. -/
theorem index_all (l : List UInt8) (w : World) (hl : l.length ≤ 1048576) : Calls Tryd.prog 54 #[str l, .string ⟨#[32, 9, 13]⟩] w fun e w' => e = .returned (.int .i64 (Lib.indexAny l [32, 9, 13])) ∧ Below w.heap.size w w' := by
  have hz : (⟨l.toArray⟩ : ByteArray).size = l.length := by show l.toArray.size = _; simp
  by_cases h8 : (⟨l.toArray⟩ : ByteArray).size ≤ 8
  · exact index_short ⟨l.toArray⟩ w h8
  · have h := Any.strings_IndexAny_long (P := Tryd.prog) (ρ := Tryd.lays153_ren) { Tryd.lays153 with } (zero_of_info info_set).1 (zero_of_info info_set).2 ⟨l.toArray⟩ ⟨#[32, 9, 13]⟩ w (by decide) (by omega) (by omega) (by decide) (fun j b hb => by
      match j, hb with
      | 0, hb => cases hb; decide
      | 1, hb => cases hb; decide
      | 2, hb => cases hb; decide
      | (j + 3), hb => simp at hb)
    refine h.mono fun e w' h2 => ⟨h2.1, ?_⟩
    rw [h2.2]
    exact ((Below.refl _ _).alloc (Nat.le_refl _) _).alloc (by simp) _
end Go.Proofs.YtfmmmhcpdinhgabDoor
/-
  The words of a line.
-/
namespace Go.Proofs.YtfmmmhcpdinhgabDoor
open Go.RowKit Go.Deep PureNet PureRd
set_option maxRecDepth 100000

abbrev nb (c : UInt8) : Bool := !blankB c
theorem contains_blank (c : UInt8) : ([32, 9, 13] : List UInt8).contains c = blankB c := by
  simp [blankB, Bool.or_assoc]
  rfl
theorem index_blank : ∀ (r : List UInt8), (Lib.indexAny r [32, 9, 13] = -1 ∧ r.takeWhile nb = r) ∨ ∃ k : Nat, Lib.indexAny r [32, 9, 13] = (k : Int) ∧ k < r.length ∧ r.takeWhile nb = r.take k
  | [] => .inl ⟨rfl, rfl⟩
  | c :: t => by
    rw [Lib.indexAny, contains_blank]
    by_cases h : blankB c = true
    · refine .inr ⟨0, by rw [if_pos h]; rfl, by simp, ?_⟩
      simp [nb, h]
    · have h1 : blankB c = false := by simpa using h
      rw [if_neg h]
      rcases index_blank t with ⟨a, b⟩ | ⟨k, a, b, d⟩
      · refine .inl ⟨by rw [a]; rfl, ?_⟩
        rw [List.takeWhile_cons, if_pos (by simp [nb, h1]), b]
      · refine .inr ⟨k + 1, ?_, by simpa using b, ?_⟩
        · rw [a]
          have : ((k : Int) == -1) = false := by simp
          rw [this]
          simp
        · rw [List.takeWhile_cons, if_pos (by simp [nb, h1]), d]
          rfl
theorem trim_blank (l : List UInt8) : Lib.trimLeftS l [32, 9, 13] = l.dropWhile blankB := by
  unfold Lib.trimLeftS
  congr 1
  funext c
  exact contains_blank c
/-- no blank in front. -/
def Bare (r : List UInt8) : Prop := r = [] ∨ (r.takeWhile nb).length ≠ 0
theorem bare_drop (s : List UInt8) : Bare (s.dropWhile blankB) := by
  cases hd : s.dropWhile blankB with
  | nil => exact .inl rfl
  | cons a t =>
    right
    have : blankB a = false := by
      have := List.head?_dropWhile_not blankB s
      rw [hd] at this
      simpa using this
    simp [nb, this]
theorem wr_step (p n : Nat) (r : List UInt8) (h0 : r ≠ []) (hb : Bare r) : wr p n (r.length + 1) r = (r.takeWhile nb, p + (n - r.length)) :: wr p n (((r.drop (r.takeWhile nb).length).dropWhile blankB).length + 1) ((r.drop (r.takeWhile nb).length).dropWhile blankB) := by
  rw [wr, if_neg (by simpa using h0)]
  show (r.takeWhile nb, p + (n - r.length)) :: wr p n r.length ((r.drop (r.takeWhile nb).length).dropWhile blankB) = _
  congr 1
  have ht : (r.takeWhile nb).length ≠ 0 := by
    rcases hb with h | h
    · exact absurd h h0
    · exact h
  have h1 := drop_len (r.drop (r.takeWhile nb).length) blankB
  have h2 : (r.drop (r.takeWhile nb).length).length = r.length - (r.takeWhile nb).length := List.length_drop
  have h3 : (r.takeWhile nb).length ≤ r.length := (List.takeWhile_prefix _).length_le
  refine wr_fuel p n _ _ _ ?_ (by omega) (by omega)
  rcases bare_drop (r.drop (r.takeWhile nb).length) with h | h
  · exact .inr h
  · exact .inl h
theorem wr_len (p n : Nat) : ∀ (f : Nat) (r : List UInt8), (wr p n f r).length ≤ f
  | 0, r => by simp [wr]
  | f + 1, r => by
    rw [wr]
    split
    · simp
    · have := wr_len p n f ((r.drop (r.takeWhile nb).length).dropWhile blankB)
      simp only [List.length_cons]
      exact Nat.succ_le_succ this
def wdV (l : List Wd) : List Value := l.flatMap fun y => [str y.1, .int .i64 (y.2 : Int)]
theorem wdV_len (l : List Wd) : (wdV l).length = l.length * 2 := by
  induction l with
  | nil => rfl
  | cons a t ih => simp only [wdV, List.flatMap_cons, List.length_append, List.length_cons, List.length_nil] at ih ⊢; omega
theorem wdV_at (l : List Wd) (j : Nat) (y : Wd) (h : l[j]? = some y) : (wdV l)[j * 2]? = some (str y.1) ∧ (wdV l)[j * 2 + 1]? = some (.int .i64 (y.2 : Int)) := by
  induction l generalizing j with
  | nil => simp at h
  | cons a t ih =>
    have e : wdV (a :: t) = [str a.1, .int .i64 (a.2 : Int)] ++ wdV t := rfl
    rw [e]
    cases j with
    | zero => simp at h; subst h; exact ⟨rfl, rfl⟩
    | succ j =>
      have := ih j (by simpa using h)
      rw [show (j + 1) * 2 = j * 2 + 2 by omega, List.getElem?_append_right (by simp), List.getElem?_append_right (by simp)]
      simpa using this
theorem own_wrow {W : World} {B n : Nat} {v : Value} {ws : List Wd} (h : W.ownsRow B 64 2 v n (wdV ws)) : WRow W W.heap.size v ws := by
  have hn : ws.length = n := by have := h.1; rw [wdV_len] at this; omega
  rcases h.2 with ⟨hv, h0⟩ | ⟨g, cap, cur, hv, hb, hr, hnc, hcm, hcs, htk⟩
  · have : ws = [] := List.eq_nil_of_length_eq_zero (by omega)
    subst this
    rw [hv]
    exact WRow.nil _ _
  · refine ⟨_, cap, by rw [hn]; exact hv, by omega, fun _ => ⟨g, 0, cur, (0, 0), rfl, (Array.getElem?_eq_some_iff.1 hr).1, hr, fun j y hy => ?_⟩⟩
    obtain ⟨h1, h2⟩ := wdV_at ws j y hy
    rw [← htk] at h1 h2
    rw [List.getElem?_take] at h1 h2
    rw [Nat.zero_add]
    constructor
    · split at h1
      · simpa using h1
      · cases h1
    · split at h2
      · simpa using h2
      · cases h2

set_option maxHeartbeats 4000000 in
theorem words_any (l : List UInt8) (p : Nat) (w : World) (hl : l.length ≤ 1048576) (hp : p ≤ 1048576) :
    Calls Tryd.prog 35 #[str l, .int .i64 (p : Int)] w fun e w' => ∃ v, e = .returned v ∧ WRow w' w'.heap.size v (wordsOf l p) ∧ Below w.heap.size w w' := by
  have hasc : ∀ c ∈ l, c.toNat < 256 := fun c _ => c.toNat_lt
  have CUT := hid (cut_any 35 ⟨l.toArray⟩ w (by show l.toArray.size ≤ _; simp; omega))
  obtain ⟨q, hq⟩ : ∃ q, q = cutHash l := ⟨_, rfl⟩
  have hql : q.length ≤ l.length := by rw [hq]; exact (List.takeWhile_prefix _).length_le
  have hqc : ∀ c ∈ q, c.toNat < 256 := fun c hc => hasc c (by rw [hq] at hc; exact (List.takeWhile_prefix _).subset hc)
  have CUT2 : Hid (Calls Tryd.prog 33 #[str l, .string ⟨#[35]⟩] w fun e w' => (∃ a b, e = .returned (.tuple #[str q, .string a, .bool b])) ∧ Below w.heap.size w w') := by rw [hq]; exact CUT.out
  have TRM : Hid (∀ (r : List UInt8) (W : World), Calls Tryd.prog 53 #[str r, .string ⟨#[32, 9, 13]⟩] W fun e w' => e = .returned (str (r.dropWhile blankB)) ∧ Below W.heap.size W w') := fun r W => by
    have h := Tryd.strings_TrimLeft_set ⟨r.toArray⟩ ⟨#[32, 9, 13]⟩ W (by decide) (by
      intro j b hb
      match j, hb with
      | 0, hb => cases hb; decide
      | 1, hb => cases hb; decide
      | 2, hb => cases hb; decide
      | (j + 3), hb => simp at hb)
    have e : Lib.trimLeftS r [32, 9, 13] = r.dropWhile blankB := trim_blank r
    rw [← e]
    exact h
  have IDX : Hid (∀ (r : List UInt8) (W : World), r.length ≤ 1048576 → (∀ c ∈ r, c.toNat < 256) → Calls Tryd.prog 54 #[str r, .string ⟨#[32, 9, 13]⟩] W fun e w' => e = .returned (.int .i64 (Lib.indexAny r [32, 9, 13])) ∧ Below W.heap.size W w') := fun r W h1 h2 =>
    index_all r W h1
  have HWO : Hid (wordsOf l p = wr p q.length (q.length + 1) (q.dropWhile blankB)) := by show _ = _; rw [hq]; rfl
  have HQL := hid hql
  have HQC := hid hqc
  clear CUT hq hqc hasc
  go_enter Tryd.func35, Tryd.ntmps35
  go_wp2_with (first
    | (have z := B1; clear z; go_at_call 53; refine (TRM.out q _).mono ?_; rintro e w2 ⟨rfl, b2⟩; have B2 : Hid (Below w.heap.size w w2) := B1.out.trans (b2.mono B1.out.size); clear b2)
    | (go_at_call 33; refine CUT2.out.mono ?_; rintro e w1 ⟨⟨a, bb, rfl⟩, b1⟩; have B1 := hid b1; clear b1))
  have START : Hid (∃ acc r, str (q.dropWhile blankB) = str r ∧ Bare r ∧ r.length ≤ q.length ∧ (∀ c ∈ r, c.toNat < 256) ∧ acc ++ wr p q.length (r.length + 1) r = wordsOf l p ∧ Mk w w2 64 2 (.slice none 0 0) acc.length (wdV acc)) := by
    have hd := drop_len q blankB
    refine ⟨[], q.dropWhile blankB, rfl, bare_drop q, hd, fun c hc => HQC.out c ((List.dropWhile_suffix _).subset hc), ?_, (Mk.nil w 64 2).on B2.out⟩
    rw [HWO.out, List.nil_append]
    refine wr_fuel p _ _ _ _ ?_ (by omega) (by omega)
    rcases bare_drop q with h | h
    · exact .inr h
    · exact .inl h
  clear B1 B2 CUT2
  go_loopw [5, 6] (fun lv rv W => Hid (∃ acc r, rv = str r ∧ Bare r ∧ r.length ≤ q.length ∧ (∀ c ∈ r, c.toNat < 256) ∧ acc ++ wr p q.length (r.length + 1) r = wordsOf l p ∧ Mk w W 64 2 lv acc.length (wdV acc))) (fun lv rv _ => match rv with | .string s => s.size | _ => 0)
  case atStart => exact START.out
  case round =>
    clear START
    obtain ⟨WW, hWW⟩ : ∃ WW, WW = wr := ⟨_, rfl⟩
    rw [← hWW] at hrel ⊢
    clear hWW
    obtain ⟨acc, r, rfl, hbare, hrl, hrc, heq, hmk⟩ := hrel.out
    obtain ⟨sv, cv, rfl⟩ := own_shape hmk.own
    have MK := hid hmk
    by_cases hr0 : r = []
    · subst hr0
      have FN : Hid (WRow WW WW.heap.size (.slice sv acc.length cv) (wordsOf l p) ∧ Below w.heap.size w WW) := by
        refine ⟨?_, hmk.below⟩
        rw [← heq]
        have : PureRd.wr p q.length (([] : List UInt8).length + 1) [] = [] := rfl
        rw [this, List.append_nil]
        exact own_wrow hmk.own
      clear hrel hbare hrl hrc heq hmk MK
      go_wp2
      go_ret
      exact ⟨_, rfl, FN.out⟩
    · have e0 : (r == []) = false := by simpa using hr0
      have hrl2 : r.length ≤ 1048576 := by have := HQL.out; omega
      have IX := hid (IDX.out r · hrl2 hrc)
      have hal : acc.length ≤ 1048577 := by
        have h1 := congrArg List.length heq
        rw [List.length_append, HWO.out] at h1
        have h2 := wr_len p q.length (q.length + 1) (q.dropWhile blankB)
        have := HQL.out
        omega
      have hql2 : q.length ≤ 1048576 := by have := HQL.out; omega
      have WS := hid (wr_step p q.length r hr0 hbare)
      have HEQ := hid heq
      have HRC := hid hrc
      have hbare2 : (r.takeWhile nb).length ≠ 0 := by
        rcases hbare with h | h
        · exact absurd h hr0
        · exact h
      rcases index_blank r with ⟨hi, ht⟩ | ⟨k, hi, hk, ht⟩
      · rw [hi] at IX
        have HNX : Hid (∃ acc2 r2, [] = r2 ∧ Bare r2 ∧ r2.length ≤ q.length ∧ (∀ c ∈ r2, c.toNat < 256) ∧ acc2 ++ PureRd.wr p q.length (r2.length + 1) r2 = wordsOf l p ∧ acc2 = acc ++ [(r, p + (q.length - r.length))] ∧ r2.length < r.length) := by
          have e1 : (r.drop (r.takeWhile nb).length).dropWhile blankB = [] := by rw [ht]; simp
          have h1 := drop_len (r.drop (r.takeWhile nb).length) blankB
          have h2 : (r.drop (r.takeWhile nb).length).length = r.length - (r.takeWhile nb).length := List.length_drop
          have h3 : (r.takeWhile nb).length ≤ r.length := (List.takeWhile_prefix _).length_le
          rw [e1] at h1
          refine ⟨_, _, rfl, ?_, by omega, fun c hc => ?_, ?_, rfl, by omega⟩
          · rw [← e1]; exact bare_drop _
          · rw [← e1] at hc
            exact HRC.out c (List.drop_subset _ _ ((List.dropWhile_suffix _).subset hc))
          · rw [← HEQ.out, WS.out, e1, ht]
            simp
        have RL : Hid (r.length ≤ q.length) := hrl
        have EX1 : (⟨r.toArray⟩ : ByteArray).extract r.length r.length = ⟨#[]⟩ := by rw [Lib.extract_eq]; simp
        have TR0 := hid (TRM.out [] ·)
        clear hrel hbare hrc heq hmk hi ht hbare2 WS HEQ HRC
        go_wp2_with (first
          | (have z := M2; clear z; go_at_call 53; (try rw [EX1]); refine (TR0.out _).mono ?_; rintro e w3 ⟨rfl, b3⟩; have M3 := hid (M2.out.on b3); clear b3)
          | (at_builtin; refine mk_app rfl _ _ 62 _ 24 rfl Tryd.underlying62 info74 rfl (by decide) M1.out [str r, .int .i64 ((p : Int) + (q.length : Int) - (r.length : Int))] 64 _ rfl rfl rfl rfl (fun u hu => by simp at hu; rcases hu with rfl | rfl <;> rfl) (by omega) (by omega) ?_; intro s2 c2 w2 _ m2; have M2 := hid m2; clear m2)
          | (go_at_call 54; refine (IX.out _).mono ?_; rintro e w1 ⟨rfl, b1⟩; have M1 := hid (MK.out.on b1); clear b1))
        obtain ⟨acc2, r2, er2, f1, f2, f3, f4, rfl, f6⟩ := HNX.out
        refine ⟨⟨acc ++ [(r, p + (q.length - r.length))], [], rfl, by rw [er2]; exact f1, by rw [er2]; exact f2, by rw [er2]; exact f3, by rw [er2]; exact f4, ?_⟩, ?_⟩
        · have e1 : wdV (acc ++ [(r, p + (q.length - r.length))]) = wdV acc ++ [str (r), .int .i64 ((p : Int) + (q.length : Int) - (r.length : Int))] := by
            unfold wdV
            rw [List.flatMap_append]
            have : ((p + (q.length - r.length) : Nat) : Int) = (p : Int) + (q.length : Int) - (r.length : Int) := by have := RL.out; omega
            simp [this]
          rw [e1, List.length_append]
          exact M3.out
        · rw [← er2] at f6
          show ([]).toArray.size < r.toArray.size
          simpa using f6
      · rw [hi] at IX
        have HNX : Hid (∃ acc2 r2, (r.drop k).dropWhile blankB = r2 ∧ Bare r2 ∧ r2.length ≤ q.length ∧ (∀ c ∈ r2, c.toNat < 256) ∧ acc2 ++ PureRd.wr p q.length (r2.length + 1) r2 = wordsOf l p ∧ acc2 = acc ++ [(r.take k, p + (q.length - r.length))] ∧ r2.length < r.length) := by
          have e0 : (r.takeWhile nb).length = k := by rw [ht, List.length_take]; omega
          have e1 : (r.drop (r.takeWhile nb).length).dropWhile blankB = (r.drop k).dropWhile blankB := by rw [e0]
          have h1 := drop_len (r.drop (r.takeWhile nb).length) blankB
          have h2 : (r.drop (r.takeWhile nb).length).length = r.length - (r.takeWhile nb).length := List.length_drop
          have h3 : (r.takeWhile nb).length ≤ r.length := (List.takeWhile_prefix _).length_le
          rw [e1] at h1
          refine ⟨_, _, rfl, ?_, by omega, fun c hc => ?_, ?_, rfl, by omega⟩
          · rw [← e1]; exact bare_drop _
          · exact HRC.out c (List.drop_subset _ _ ((List.dropWhile_suffix _).subset hc))
          · rw [← HEQ.out, WS.out, e1, ht]
            simp
        have RL : Hid (r.length ≤ q.length) := hrl
        have EX2 : (⟨r.toArray⟩ : ByteArray).extract 0 k = ⟨(r.take k).toArray⟩ := by rw [Lib.extract_eq]; simp
        have EX3 : (⟨r.toArray⟩ : ByteArray).extract k r.length = ⟨(r.drop k).toArray⟩ := by rw [Lib.extract_eq]; simp; exact List.take_of_length_le (by simp)
        have EX4 : (r.take k).length = k := by rw [List.length_take]; omega
        have EX5 : min k r.length = k := by omega
        have TR0 := hid (TRM.out (r.drop k) ·)
        clear hrel hbare hrc heq hmk hi ht hbare2 WS HEQ HRC
        go_wp2_with (first
          | (have z := M2; clear z; go_at_call 53; refine (TR0.out _).mono ?_; rintro e w3 ⟨rfl, b3⟩; have M3 := hid (M2.out.on b3); clear b3)
          | (at_builtin; refine mk_app rfl _ _ 62 _ 24 rfl Tryd.underlying62 info74 rfl (by decide) M1.out [str (r.take k), .int .i64 ((p : Int) + (q.length : Int) - (r.length : Int))] 64 _ rfl rfl rfl rfl (fun u hu => by simp at hu; rcases hu with rfl | rfl <;> rfl) (by omega) (by omega) ?_; intro s2 c2 w2 _ m2; have M2 := hid m2; clear m2)
          | (go_at_call 54; refine (IX.out _).mono ?_; rintro e w1 ⟨rfl, b1⟩; have M1 := hid (MK.out.on b1); clear b1))
        obtain ⟨acc2, r2, er2, f1, f2, f3, f4, rfl, f6⟩ := HNX.out
        refine ⟨⟨acc ++ [(r.take k, p + (q.length - r.length))], (r.drop k).dropWhile blankB, rfl, by rw [er2]; exact f1, by rw [er2]; exact f2, by rw [er2]; exact f3, by rw [er2]; exact f4, ?_⟩, ?_⟩
        · have e1 : wdV (acc ++ [(r.take k, p + (q.length - r.length))]) = wdV acc ++ [str (r.take k), .int .i64 ((p : Int) + (q.length : Int) - (r.length : Int))] := by
            unfold wdV
            rw [List.flatMap_append]
            have : ((p + (q.length - r.length) : Nat) : Int) = (p : Int) + (q.length : Int) - (r.length : Int) := by have := RL.out; omega
            simp [this]
          rw [e1, List.length_append]
          exact M3.out
        · rw [← er2] at f6
          show ((r.drop k).dropWhile blankB).toArray.size < r.toArray.size
          simpa using f6
end Go.Proofs.YtfmmmhcpdinhgabDoor
