import Derived.Test.YtfmmmhcpdinhgabDoorZ05
/-
  The reader in memory: its last line is written over.
-/
namespace Go.Proofs.YtfmmmhcpdinhgabDoor
open Go.RowKit Go.Deep PureNet PureRd ShfKit
set_option maxRecDepth 100000

theorem lnsV_len : ∀ (l : List Ln) (us : List Value), us.length = l.length → (lnsV l us).length = l.length * 7
  | [], [], _ => rfl
  | a :: l, u :: us, h => by
    have := lnsV_len l us (by simpa using h)
    have e : lnsV (a :: l) (u :: us) = lnV a u ++ lnsV l us := rfl
    rw [e, List.length_append, this]
    simp [lnV]
    omega
  | [], _ :: _, h => by simp at h
  | _ :: _, [], h => by simp at h
/-- a row of lines turns, and no other block. -/
theorem Rt.lineSet {W W' : World} {B b g c L : Nat} {text : List UInt8} {s : Rs} {x : Bx} (h : Rt W B b text s x) (l0 : List Ln) (y y' : Ln) (us0 : List Value) (u u' : Value) (hl : s.lines = l0 ++ [y]) (hu : x.us = us0 ++ [u]) (hL : L = l0.length) (hln : x.ln = .slice (some ⟨g, 0, none⟩) (L + 1) c)
    (hg : W.grownBy W' (some g)) (hown : W'.ownsRow B 87 7 x.ln (L + 1) (lnsV l0 us0 ++ lnV y' u')) (mx : Nat) (hmx : x.mx ≤ mx) (hmx2 : mx ≤ W'.heap.size) (hr : WRow W' mx u' y'.uses) (hin : ∀ z ∈ y'.uses, InT text.length z) :
    Rt W' B b text { s with lines := l0 ++ [y'] } { x with us := us0 ++ [u'], mx := mx } ∧ Oth 87 none W W' := by
  have hrow : ∃ c0 fz, W.heap[g]? = some (.cells c0 87 fz) := by
    rcases h.lines.2 with ⟨hv, _⟩ | ⟨g', cap, cur, hv, _, hr, _⟩
    · rw [hln] at hv; cases hv
    · rw [hln] at hv
      simp only [Value.slice.injEq, Option.some.injEq, Addr.mk.injEq] at hv
      obtain ⟨⟨rfl, _⟩, _⟩ := hv
      exact ⟨_, _, hr⟩
  have ho : Oth 87 none W W' := (Lib.OthersKept.refl _ _ _).grown hg (fun g2 hg2 => by obtain rfl := Option.some.inj hg2; exact hrow)
  have hne : ∀ {j : Nat} {o : Obj}, W.heap[j]? = some o → (∀ c fz, o ≠ .cells c 87 fz) → W'.heap[j]? = some o := fun hj h2 => ho _ _ hj (by simp) h2
  have own : ∀ {e size n : Nat} {v : Value} {xs : List Value}, W.ownsRow B e size v n xs → e ≠ 87 → W'.ownsRow B e size v n xs := fun ho2 he => by
    refine ⟨ho2.1, ?_⟩
    rcases ho2.2 with hn | ⟨g2, cap, cur, hv, hb, hr2, rest⟩
    · exact .inl hn
    · exact .inr ⟨g2, cap, cur, hv, hb, hne hr2 (fun c2 f2 e2 => by simp only [Obj.cells.injEq] at e2; exact he e2.2.1), rest⟩
  have up : ∀ {v : Value} {ws : List Wd}, WRow W x.mx v ws → WRow W' mx v ws := fun ⟨sa, c2, hv, hc, hr2⟩ => ⟨sa, c2, hv, hc, fun h0 => by
    obtain ⟨g2, o, cur, fz, e, hgM, hg2, hx⟩ := hr2 h0
    exact ⟨g2, o, cur, fz, e, by omega, hne hg2 (fun c3 f3 e3 => by simp only [Obj.cells.injEq] at e3; exact absurd e3.2.1 (by decide)), hx⟩⟩
  have hm := h.many
  rw [hl, hu] at hm
  have hm0 : us0.length = l0.length := by simpa using hm
  refine ⟨⟨h.base, hne h.box (fun c2 f2 e2 => by simp only [Obj.cells.injEq] at e2; exact absurd e2.2.1 (by decide)), ?_, up h.left, ?_, by simp [hm0], fun i l v hi hv => ?_, ?_, own h.names (by decide), h.small, h.inl, h.inla, h.inn, ?_, h.few, ?_, h.fewN, h.fewO, h.flt, hmx2, h.two, h.pmB⟩, ho⟩
  · rcases h.mode with hm | ⟨hm, m, n, D, e, ⟨es, cl, ho2, r⟩, hD⟩
    · exact .inl hm
    · exact .inr ⟨hm, m, n, D, e, ⟨es, cl, hne ho2 (fun c2 f2 e2 => by cases e2), r⟩, hD⟩
  · show W'.ownsRow B 87 7 x.ln (l0 ++ [y']).length (lnsV (l0 ++ [y']) (us0 ++ [u']))
    rw [lnsV_push _ _ _ _ hm0, show (l0 ++ [y']).length = L + 1 by rw [hL]; simp]
    exact hown
  · have hi2 : (l0 ++ [y'])[i]? = some l := hi
    have hv2 : (us0 ++ [u'])[i]? = some v := hv
    by_cases hlt : i < l0.length
    · rw [List.getElem?_append_left hlt] at hi2
      rw [List.getElem?_append_left (by omega)] at hv2
      exact up (h.uses i l v (by rw [hl, List.getElem?_append_left hlt]; exact hi2) (by rw [hu, List.getElem?_append_left (by omega)]; exact hv2))
    · rw [List.getElem?_append_right (by omega)] at hi2 hv2
      have h0 : i - l0.length = 0 := by
        have := (List.getElem?_eq_some_iff.1 hi2).1
        simp at this
        omega
      rw [h0] at hi2
      rw [hm0, h0] at hv2
      simp at hi2 hv2
      subst hi2 hv2
      exact hr
  · obtain ⟨n, D, ⟨es, cl, ho2, r⟩, hn, hD⟩ := h.places
    exact ⟨n, D, ⟨es, cl, hne ho2 (fun c2 f2 e2 => by cases e2), r⟩, hn, hD⟩
  · intro l hl2 z hz
    have hl3 : l ∈ l0 ++ [y'] := hl2
    simp only [List.mem_append, List.mem_singleton] at hl3
    rcases hl3 with hl3 | rfl
    · exact h.inu l (by rw [hl]; simp [hl3]) z hz
    · exact hin z hz
  · have := h.fewL
    rw [hl] at this
    simpa using this
/-- the last line's operator is set. -/
theorem Rt.setOp {W : World} {B b g c L : Nat} {text : List UInt8} {s : Rs} {x : Bx} (h : Rt W B b text s x) (l0 : List Ln) (y : Ln) (us0 : List Value) (u : Value) (o : Int) (hl : s.lines = l0 ++ [y]) (hu : x.us = us0 ++ [u]) (hL : L = l0.length) (hln : x.ln = .slice (some ⟨g, 0, none⟩) (L + 1) c) :
    (∃ z, W.cell? ⟨g, L * 7 + 2, none⟩ = some z) ∧ W.frozen? ⟨g, L * 7 + 2, none⟩ = false ∧ g < W.heap.size ∧ B ≤ g ∧ Rt (W.setCell ⟨g, L * 7 + 2, none⟩ (.int .i64 o)) B b text { s with lines := l0 ++ [{ y with op := o }] } x := by
  have hm := h.many
  rw [hl, hu] at hm
  have hm0 : us0.length = l0.length := by simpa using hm
  have hlen := lnsV_len l0 us0 hm0
  have hown := h.lines
  rw [hl, hu, lnsV_push _ _ _ _ hm0, show (l0 ++ [y]).length = L + 1 by rw [hL]; simp] at hown
  obtain ⟨g', c', hv, hBg, hgs, hce, hfr⟩ := own_cell hown (j := L * 7 + 2) (x := .int .i64 y.op) (by rw [List.getElem?_append_right (by omega), hlen, show L * 7 + 2 - l0.length * 7 = 2 by omega]; rfl)
  rw [hln] at hv
  simp only [Value.slice.injEq, Option.some.injEq, Addr.mk.injEq] at hv
  obtain ⟨⟨rfl, _⟩, _, rfl⟩ := hv
  obtain ⟨o2, g2⟩ := own_set hown (j := L * 7 + 2) hln (.int .i64 o)
  have e1 : (lnsV l0 us0 ++ lnV y u).set (L * 7 + 2) (.int .i64 o) = lnsV l0 us0 ++ lnV { y with op := o } u := by
    rw [List.set_append_right _ _ (by omega), hlen, show L * 7 + 2 - l0.length * 7 = 2 by omega]
    rfl
  rw [e1] at o2
  have hg3 : W.grownBy (W.setCell ⟨g, L * 7 + 2, none⟩ (.int .i64 o)) (some g) := by rw [hln] at g2; exact g2
  have hur : WRow W x.mx u y.uses := h.uses l0.length y u (by rw [hl]; simp) (by rw [hu, ← hm0]; simp)
  have r := (h.lineSet l0 y { y with op := o } us0 u u hl hu hL hln hg3 o2 x.mx (Nat.le_refl _) (by simpa using h.mxl) ?_ (fun z hz => h.inu y (by rw [hl]; simp) z hz)).1
  · rw [← hu] at r
    exact ⟨⟨_, hce⟩, hfr, hgs, hBg, r⟩
  · refine hur.kept (t := 87) (m := some g) ((Lib.OthersKept.refl _ _ _).setCell ⟨g, L * 7 + 2, none⟩ rfl _) (by decide) (fun k c2 fz e h2 => ?_)
    obtain rfl := Option.some.inj e
    rcases hown.2 with ⟨hv, _⟩ | ⟨g4, cap, cur, hv, _, hr, _⟩
    · rw [hln] at hv; cases hv
    · rw [hln] at hv
      simp only [Value.slice.injEq, Option.some.injEq, Addr.mk.injEq] at hv
      obtain ⟨⟨rfl, _⟩, _⟩ := hv
      rw [hr] at h2
      simp only [Option.some.injEq, Obj.cells.injEq] at h2
      exact absurd h2.2.1 (by decide)
/-- the last line's words are set. -/
theorem Rt.setUses {W : World} {B b g c L : Nat} {text : List UInt8} {s : Rs} {x : Bx} (h : Rt W B b text s x) (l0 : List Ln) (y : Ln) (us0 : List Value) (u u' : Value) (ws : List Wd) (hl : s.lines = l0 ++ [y]) (hu : x.us = us0 ++ [u]) (hL : L = l0.length) (hln : x.ln = .slice (some ⟨g, 0, none⟩) (L + 1) c) (hw : WRow W W.heap.size u' ws) (hin : ∀ z ∈ ws, InT text.length z) :
    (∃ z, W.cell? ⟨g, L * 7 + 6, none⟩ = some z) ∧ W.frozen? ⟨g, L * 7 + 6, none⟩ = false ∧ g < W.heap.size ∧ B ≤ g ∧ Rt (W.setCell ⟨g, L * 7 + 6, none⟩ u') B b text { s with lines := l0 ++ [{ y with uses := ws }] } { x with us := us0 ++ [u'], mx := W.heap.size } := by
  have hm := h.many
  rw [hl, hu] at hm
  have hm0 : us0.length = l0.length := by simpa using hm
  have hlen := lnsV_len l0 us0 hm0
  have hown := h.lines
  rw [hl, hu, lnsV_push _ _ _ _ hm0, show (l0 ++ [y]).length = L + 1 by rw [hL]; simp] at hown
  obtain ⟨g', c', hv, hBg, hgs, hce, hfr⟩ := own_cell hown (j := L * 7 + 6) (x := u) (by rw [List.getElem?_append_right (by omega), hlen, show L * 7 + 6 - l0.length * 7 = 6 by omega]; rfl)
  rw [hln] at hv
  simp only [Value.slice.injEq, Option.some.injEq, Addr.mk.injEq] at hv
  obtain ⟨⟨rfl, _⟩, _, rfl⟩ := hv
  obtain ⟨o2, g2⟩ := own_set hown (j := L * 7 + 6) hln u'
  have e1 : (lnsV l0 us0 ++ lnV y u).set (L * 7 + 6) u' = lnsV l0 us0 ++ lnV { y with uses := ws } u' := by
    rw [List.set_append_right _ _ (by omega), hlen, show L * 7 + 6 - l0.length * 7 = 6 by omega]
    rfl
  rw [e1] at o2
  have hg3 : W.grownBy (W.setCell ⟨g, L * 7 + 6, none⟩ u') (some g) := by rw [hln] at g2; exact g2
  have r := (h.lineSet l0 y { y with uses := ws } us0 u u' hl hu hL hln hg3 o2 W.heap.size h.mxl (by simp) ?_ hin).1
  · exact ⟨⟨_, hce⟩, hfr, hgs, hBg, r⟩
  · refine hw.kept (t := 87) (m := some g) ((Lib.OthersKept.refl _ _ _).setCell ⟨g, L * 7 + 6, none⟩ rfl _) (by decide) (fun k c2 fz e h2 => ?_)
    obtain rfl := Option.some.inj e
    rcases hown.2 with ⟨hv, _⟩ | ⟨g4, cap, cur, hv, _, hr, _⟩
    · rw [hln] at hv; cases hv
    · rw [hln] at hv
      simp only [Value.slice.injEq, Option.some.injEq, Addr.mk.injEq] at hv
      obtain ⟨⟨rfl, _⟩, _⟩ := hv
      rw [hr] at h2
      simp only [Option.some.injEq, Obj.cells.injEq] at h2
      exact absurd h2.2.1 (by decide)
end Go.Proofs.YtfmmmhcpdinhgabDoor
/-
  The reader's lines: input, gate, latch, mux.
-/
namespace PureRd
/-- the last line is turned. -/
def mapLast (s : Rs) (f : Ln → Ln) : Rs := { s with lines := s.lines.dropLast ++ (s.lines.getLast?.map f).toList }
theorem mapLast_of {s : Rs} {l0 : List Ln} {y : Ln} (h : s.lines = l0 ++ [y]) (f : Ln → Ln) : mapLast s f = { s with lines := l0 ++ [f y] } := by
  unfold mapLast
  rw [h]
  simp
def withOp (F : List UInt8 → Int) (s : Rs) : Rs := mapLast (op F s).2 (fun l => { l with op := (op F s).1 })
def withUses (nm : List UInt8 → Bool) (n : Nat) (s : Rs) : Rs := mapLast (namesOf nm n s).2 (fun l => { l with uses := (namesOf nm n s).1 })
end PureRd
namespace Go.Proofs.YtfmmmhcpdinhgabDoor
open Go.RowKit Go.Deep PureNet PureRd ShfKit
set_option maxRecDepth 100000

theorem op_same (F : List UInt8 → Int) (s : Rs) : Same s (op F s).2 := by
  unfold op
  dsimp only
  split
  · exact (take_same s).trans (refuse_same _ _ _)
  · exact take_same s
theorem namesOf_same (nm : List UInt8 → Bool) (s : Rs) : ∀ n, Same s (namesOf nm n s).2
  | 0 => Same.refl s
  | n + 1 => (namesOf_same nm s n).trans (name_same nm _)
theorem begin_lines (kind : Int) (s : Rs) : ∃ y, (PureRd.begin nameL kind s).lines = s.lines ++ [y] ∧ y.kind = kind ∧ y.op = 0 ∧ y.uses = [] := by
  refine ⟨⟨kind, (name nameL (if s.names.length = 65536 then refuse s 8 s.last.2 else s)).1.1, 0, []⟩, ?_, rfl, rfl, rfl⟩
  unfold PureRd.begin
  have h1 : Same s (if s.names.length = 65536 then refuse s 8 s.last.2 else s) := by split; exact refuse_same _ _ _; exact Same.refl _
  have h2 := h1.trans (name_same nameL _)
  have h3 : ∀ c : Prop, [Decidable c] → ∀ a, Same s (if c then refuse (name nameL (if s.names.length = 65536 then refuse s 8 s.last.2 else s)).2 141 a else (name nameL (if s.names.length = 65536 then refuse s 8 s.last.2 else s)).2) := fun c _ a => by split; exact h2.trans (refuse_same _ _ _); exact h2
  dsimp only
  rw [(h3 _ _).lines]
/-- a row of words, as a slice. -/
theorem wrow_of {W : World} {u n : Nat} {cur : Array Value} {ws : List Wd} (hr : W.heap[u]? = some (.cells cur 64 (0, 0))) (hx : ∀ (j : Nat) (y : Wd), ws[j]? = some y → cur[j * 2]? = some (str y.1) ∧ cur[j * 2 + 1]? = some (.int .i64 (y.2 : Int))) (hn : ws.length = n) : WRow W W.heap.size (.slice (some ⟨u, 0, none⟩) n n) ws :=
  ⟨_, n, by rw [hn], by omega, fun _ => ⟨u, 0, cur, (0, 0), rfl, (Array.getElem?_eq_some_iff.1 hr).1, hr, fun j y hy => by rw [Nat.zero_add]; exact hx j y hy⟩⟩

set_option maxHeartbeats 1000000 in
theorem input_any (B b : Nat) (text : List UInt8) (s : Rs) (x : Bx) (w : World) (h : Rt w B b text s x) (hcap : s.names.length ≤ 2097152 ∧ s.lines.length ≤ 2097152 ∧ s.places.length ≤ 2097152) :
    Calls Tryd.prog 27 #[.pointer (some ⟨b, 0, none⟩)] w fun e w' => (∃ v, e = .returned v) ∧ (∃ x', Rt w' B b text (PureRd.begin nameL 1 s) x' ∧ x'.pm = x.pm ∧ x'.rm = x.rm) ∧ Below B w w' := by
  have HB := hid (begin_any 1 B b text s x w h hcap)
  clear h hcap
  go_enter Tryd.func27, Tryd.ntmps27
  go_wp2_with (go_at_call 47; refine HB.out.mono ?_; rintro e w1 ⟨g, c, lf, nv, rfl, r1, b1⟩; have K := hid (And.intro r1 b1); clear r1 b1)
  first | go_end0 | refine bodyPost_end (results_none rfl _ _ _) rfl ?_
  exact ⟨⟨_, rfl⟩, ⟨_, K.out.1, rfl, rfl⟩, K.out.2⟩

set_option maxHeartbeats 2000000 in
theorem mux_any (B b : Nat) (text : List UInt8) (s : Rs) (x : Bx) (w : World) (h : Rt w B b text s x) (hcap : s.names.length ≤ 2097152 ∧ s.lines.length ≤ 2097152 ∧ s.places.length ≤ 2097152) :
    Calls Tryd.prog 29 #[.pointer (some ⟨b, 0, none⟩)] w fun e w' => (∃ v, e = .returned v) ∧ (∃ x', Rt w' B b text (withUses nameL 3 (PureRd.begin nameL 4 s)) x' ∧ x'.pm = x.pm ∧ x'.rm = x.rm) ∧ Below B w w' := by
  have HB := hid (begin_any 4 B b text s x w h hcap)
  obtain ⟨L, hL⟩ : ∃ L, L = s.lines.length := ⟨_, rfl⟩
  obtain ⟨s1, hs1⟩ : ∃ s1, s1 = PureRd.begin nameL 4 s := ⟨_, rfl⟩
  obtain ⟨y0, hl1, -, -, -⟩ := begin_lines 4 s
  have hmany := h.many
  have hla := h.small
  rw [← hs1, ← hL] at HB
  have HL := hid hL
  clear hL
  rw [← hs1] at hl1
  obtain ⟨s3, hs3⟩ : ∃ s3, s3 = s1 := ⟨_, rfl⟩
  have hl3 : s3.lines = s.lines ++ [y0] := by rw [hs3]; exact hl1
  obtain ⟨s4, hs4⟩ : ∃ s4, s4 = (namesOf nameL 3 s3).2 := ⟨_, rfl⟩
  obtain ⟨us, hus⟩ : ∃ us, us = (namesOf nameL 3 s3).1 := ⟨_, rfl⟩
  have hl4 : s4.lines = s.lines ++ [y0] := by rw [hs4, (namesOf_same _ _ _).lines, hl3]
  have FINE : Hid (withUses nameL 3 (PureRd.begin nameL 4 s) = { s4 with lines := s.lines ++ [({ (y0 : Ln) with uses := us } : Ln)] }) := by
    show _ = _
    rw [← hs1, hus]
    rw [← hs3]
    unfold withUses
    rw [← hs4]
    exact mapLast_of hl4 _
  have NMC : Hid (∀ w3 x3, Rt w3 B b text s3 x3 → Calls Tryd.prog 50 #[.pointer (some ⟨b, 0, none⟩), .int .i64 3] w3 fun e w' => ∃ u, e = .returned (.slice (some ⟨u, 0, none⟩) 3 3) ∧ WRow w' w'.heap.size (.slice (some ⟨u, 0, none⟩) 3 3) us ∧ (∀ z ∈ us, InT text.length z) ∧ (∃ lf, Rt w' B b text s4 { x3 with lf := lf }) ∧ Below B w3 w') := fun w3 x3 hR => by
    rw [hus, hs4]
    refine (namesOf_any 3 (by omega) B b text s3 x3 w3 hR).mono fun e w' h => ?_
    obtain ⟨u, cur, he, hu1, hu2, hu3, hu4, hu5, hu6⟩ := h
    exact ⟨u, he, wrow_of hu2 hu3 (namesOf_len _ _ _), (namesOf_le nameL text.length s3 hR.inl 3).2, hu4, hu5⟩
  have hB0 := h.base
  have HS3 := hid hs3
  clear h hcap hs1 hs3 hs4 hus
  have HL4 := hid hl4
  clear hl4 hl3 hl1



  go_enter Tryd.func29, Tryd.ntmps29
  go_wp2_with (first
    | (have q := R1; clear q; go_at_call 50; refine (NMC.out w1 xa (by rw [HS3.out]; exact R1.out)).mono ?_; rintro e w4 ⟨u, rfl, hw4, hin4, ⟨lf4, r4⟩, b4⟩; obtain ⟨⟨z4, c4⟩, f4, g4, hBg4, r5⟩ := r4.setUses s.lines y0 x.us (.slice none 0 0) (.slice (some ⟨u, 0, none⟩) 3 3) us HL4.out XA.out.2.1 HL.out XA.out.1 hw4 hin4; have R5 := hid r5; have B5 : Hid (Below B w (w4.setCell ⟨g, L * 7 + 6, none⟩ (.slice (some ⟨u, 0, none⟩) 3 3))) := ((B1.out.trans b4).setCell (p := ⟨g, L * 7 + 6, none⟩) hBg4 _); clear r4 b4 r5 hw4 hin4)
    | (go_at_call 47; refine HB.out.mono ?_; rintro e w1 ⟨g, c, lf, nv, rfl, r1, b1⟩; obtain ⟨xa, hxa⟩ : ∃ xa : Bx, xa = { x with lf := lf, nv := nv, ln := .slice (some ⟨g, 0, none⟩) (L + 1) c, us := x.us ++ [.slice none 0 0] } := ⟨_, rfl⟩; rw [← hxa] at r1; have XA : Hid (xa.ln = .slice (some ⟨g, 0, none⟩) (L + 1) c ∧ xa.us = x.us ++ [.slice none 0 0] ∧ xa.pm = x.pm ∧ xa.rm = x.rm) := (by rw [hxa]; exact ⟨rfl, rfl, rfl, rfl⟩); have R1 := hid r1; have B1 := hid b1; clear r1 b1 hxa))
  first | go_end0 | refine bodyPost_end (results_none rfl _ _ _) rfl ?_
  have R6 := R5.out
  rw [← FINE.out] at R6
  exact ⟨⟨_, rfl⟩, ⟨_, R6, XA.out.2.2.1, XA.out.2.2.2⟩, B5.out⟩

set_option maxHeartbeats 2000000 in
theorem gate_any (T : Nat → List UInt8) (B b : Nat) (text : List UInt8) (s : Rs) (x : Bx) (w : World) (h : Rt w B b text s x) (hcap : s.names.length ≤ 2097152 ∧ s.lines.length ≤ 2097152 ∧ s.places.length ≤ 2097152) (hops : OpsT w T) (hB2 : 1 < B) :
    Calls Tryd.prog 28 #[.pointer (some ⟨b, 0, none⟩)] w fun e w' => (∃ v, e = .returned v) ∧ (∃ x', Rt w' B b text (withUses nameL 2 (withOp (opF T) (PureRd.begin nameL 2 s))) x' ∧ x'.pm = x.pm ∧ x'.rm = x.rm) ∧ Below B w w' := by
  have HB := hid (begin_any 2 B b text s x w h hcap)
  obtain ⟨L, hL⟩ : ∃ L, L = s.lines.length := ⟨_, rfl⟩
  obtain ⟨s1, hs1⟩ : ∃ s1, s1 = PureRd.begin nameL 2 s := ⟨_, rfl⟩
  obtain ⟨y0, hl1, -, -, -⟩ := begin_lines 2 s
  have hmany := h.many
  have hla := h.small
  rw [← hs1, ← hL] at HB
  have HL := hid hL
  clear hL
  rw [← hs1] at hl1
  obtain ⟨s2, hs2⟩ : ∃ s2, s2 = (op (opF T) s1).2 := ⟨_, rfl⟩
  obtain ⟨ov, hov⟩ : ∃ ov, ov = (op (opF T) s1).1 := ⟨_, rfl⟩
  have hl2 : s2.lines = s.lines ++ [y0] := by rw [hs2, (op_same _ _).lines, hl1]
  obtain ⟨s3, hs3⟩ : ∃ s3, s3 = withOp (opF T) s1 := ⟨_, rfl⟩
  have e3 : s3 = { s2 with lines := s.lines ++ [{ y0 with op := ov }] } := by rw [hs3, hov]; unfold withOp; rw [← hs2]; exact mapLast_of hl2 _
  have OPC : Hid (∀ w1 x1, Rt w1 B b text s1 x1 → Below B w w1 → Calls Tryd.prog 48 #[.pointer (some ⟨b, 0, none⟩), .func (.func 49) #[] #[]] w1 fun e w' => e = .returned (.int .i64 ov) ∧ (∃ lf, Rt w' B b text s2 { x1 with lf := lf }) ∧ Below B w1 w') := fun w1 x1 hR hb => by
    rw [hov, hs2]
    exact (op_78 (opF T) B b text s1 x1 w1 hR (fun W hW => operator_any T _ W ((hops.on hb hB2).on hW hB2))).mono fun e w' h => ⟨h.1, h.2.1, h.2.2.1⟩
  have hl3 : s3.lines = s.lines ++ [{ y0 with op := ov }] := by rw [e3]
  obtain ⟨s4, hs4⟩ : ∃ s4, s4 = (namesOf nameL 2 s3).2 := ⟨_, rfl⟩
  obtain ⟨us, hus⟩ : ∃ us, us = (namesOf nameL 2 s3).1 := ⟨_, rfl⟩
  have hl4 : s4.lines = s.lines ++ [{ y0 with op := ov }] := by rw [hs4, (namesOf_same _ _ _).lines, hl3]
  have FINE : Hid (withUses nameL 2 (withOp (opF T) (PureRd.begin nameL 2 s)) = { s4 with lines := s.lines ++ [({ ({ y0 with op := ov } : Ln) with uses := us } : Ln)] }) := by
    show _ = _
    rw [← hs1, ← hs3, hus]
    
    unfold withUses
    rw [← hs4]
    exact mapLast_of hl4 _
  have NMC : Hid (∀ w3 x3, Rt w3 B b text s3 x3 → Calls Tryd.prog 50 #[.pointer (some ⟨b, 0, none⟩), .int .i64 2] w3 fun e w' => ∃ u, e = .returned (.slice (some ⟨u, 0, none⟩) 2 2) ∧ WRow w' w'.heap.size (.slice (some ⟨u, 0, none⟩) 2 2) us ∧ (∀ z ∈ us, InT text.length z) ∧ (∃ lf, Rt w' B b text s4 { x3 with lf := lf }) ∧ Below B w3 w') := fun w3 x3 hR => by
    rw [hus, hs4]
    refine (namesOf_any 2 (by omega) B b text s3 x3 w3 hR).mono fun e w' h => ?_
    obtain ⟨u, cur, he, hu1, hu2, hu3, hu4, hu5, hu6⟩ := h
    exact ⟨u, he, wrow_of hu2 hu3 (namesOf_len _ _ _), (namesOf_le nameL text.length s3 hR.inl 2).2, hu4, hu5⟩
  have hB0 := h.base
  clear h hcap hs1 hs3 hs4 hus hs2 hov
  have HL4 := hid hl4
  clear hl4 hl3
  have E3 := hid e3
  have HL2 := hid hl2
  clear e3 hl2 hl1
  go_enter Tryd.func28, Tryd.ntmps28
  go_wp2_with (first
    | (have q := R3e; clear q; (try rw [← HW3.out]); go_at_call 50; refine (NMC.out w3 _ R3e.out).mono ?_; rintro e w4 ⟨u, rfl, hw4, hin4, ⟨lf4, r4⟩, b4⟩; obtain ⟨⟨z4, c4⟩, f4, g4, hBg4, r5⟩ := r4.setUses s.lines { y0 with op := ov } x.us (.slice none 0 0) (.slice (some ⟨u, 0, none⟩) 2 2) us HL4.out XA.out.2.1 HL.out XA.out.1 hw4 hin4; have R5 := hid r5; have B5 : Hid (Below B w (w4.setCell ⟨g, L * 7 + 6, none⟩ (.slice (some ⟨u, 0, none⟩) 2 2))) := ((B2.out.trans b4).setCell (p := ⟨g, L * 7 + 6, none⟩) hBg4 _); clear r4 b4 r5 hw4 hin4)
    | (have q := R1; clear q; go_at_call 48; refine (OPC.out w1 xa R1.out B1.out).mono ?_; rintro e w2 ⟨rfl, ⟨lf2, r2⟩, b2⟩; obtain ⟨⟨z2, c2⟩, f2, g2, hBg, r3⟩ := r2.setOp s.lines y0 x.us (.slice none 0 0) ov HL2.out XA.out.2.1 HL.out XA.out.1; have R3 := hid r3; have B2 : Hid (Below B w (w2.setCell ⟨g, L * 7 + 2, none⟩ (.int .i64 ov))) := ((B1.out.trans b2).setCell (p := ⟨g, L * 7 + 2, none⟩) hBg _); obtain ⟨w3, hw3⟩ : ∃ w3, w3 = w2.setCell ⟨g, L * 7 + 2, none⟩ (.int .i64 ov) := ⟨_, rfl⟩; rw [← hw3] at R3 B2; have HW3 := hid hw3; have R3e : Hid (Rt w3 B b text s3 { xa with lf := lf2 }) := (by rw [E3.out]; exact R3.out); clear hw3 r2 b2 r3 R3)
    | (go_at_call 47; refine HB.out.mono ?_; rintro e w1 ⟨g, c, lf, nv, rfl, r1, b1⟩; obtain ⟨xa, hxa⟩ : ∃ xa : Bx, xa = { x with lf := lf, nv := nv, ln := .slice (some ⟨g, 0, none⟩) (L + 1) c, us := x.us ++ [.slice none 0 0] } := ⟨_, rfl⟩; rw [← hxa] at r1; have XA : Hid (xa.ln = .slice (some ⟨g, 0, none⟩) (L + 1) c ∧ xa.us = x.us ++ [.slice none 0 0] ∧ xa.pm = x.pm ∧ xa.rm = x.rm) := (by rw [hxa]; exact ⟨rfl, rfl, rfl, rfl⟩); have R1 := hid r1; have B1 := hid b1; clear r1 b1 hxa))
  first | go_end0 | refine bodyPost_end (results_none rfl _ _ _) rfl ?_
  have R6 := R5.out
  rw [← FINE.out] at R6
  exact ⟨⟨_, rfl⟩, ⟨_, R6, XA.out.2.2.1, XA.out.2.2.2⟩, B5.out⟩

set_option maxHeartbeats 2000000 in
theorem latch_any (B b : Nat) (text : List UInt8) (s : Rs) (x : Bx) (w : World) (h : Rt w B b text s x) (hcap : s.names.length ≤ 2097152 ∧ s.lines.length ≤ 2097152 ∧ s.places.length ≤ 2097152) :
    Calls Tryd.prog 30 #[.pointer (some ⟨b, 0, none⟩)] w fun e w' => (∃ v, e = .returned v) ∧ (∃ x', Rt w' B b text (withUses nameL 1 (withOp (fvF) (PureRd.begin nameL 3 s))) x' ∧ x'.pm = x.pm ∧ x'.rm = x.rm) ∧ Below B w w' := by
  have HB := hid (begin_any 3 B b text s x w h hcap)
  obtain ⟨L, hL⟩ : ∃ L, L = s.lines.length := ⟨_, rfl⟩
  obtain ⟨s1, hs1⟩ : ∃ s1, s1 = PureRd.begin nameL 3 s := ⟨_, rfl⟩
  obtain ⟨y0, hl1, -, -, -⟩ := begin_lines 3 s
  have hmany := h.many
  have hla := h.small
  rw [← hs1, ← hL] at HB
  have HL := hid hL
  clear hL
  rw [← hs1] at hl1
  obtain ⟨s2, hs2⟩ : ∃ s2, s2 = (op (fvF) s1).2 := ⟨_, rfl⟩
  obtain ⟨ov, hov⟩ : ∃ ov, ov = (op (fvF) s1).1 := ⟨_, rfl⟩
  have hl2 : s2.lines = s.lines ++ [y0] := by rw [hs2, (op_same _ _).lines, hl1]
  obtain ⟨s3, hs3⟩ : ∃ s3, s3 = withOp (fvF) s1 := ⟨_, rfl⟩
  have e3 : s3 = { s2 with lines := s.lines ++ [{ y0 with op := ov }] } := by rw [hs3, hov]; unfold withOp; rw [← hs2]; exact mapLast_of hl2 _
  have OPC : Hid (∀ w1 x1, Rt w1 B b text s1 x1 → Below B w w1 → Calls Tryd.prog 48 #[.pointer (some ⟨b, 0, none⟩), .func (.func 51) #[] #[]] w1 fun e w' => e = .returned (.int .i64 ov) ∧ (∃ lf, Rt w' B b text s2 { x1 with lf := lf }) ∧ Below B w1 w') := fun w1 x1 hR hb => by
    rw [hov, hs2]
    exact (op_80 (fvF) B b text s1 x1 w1 hR (fun W hW => firstValue_any _ W)).mono fun e w' h => ⟨h.1, h.2.1, h.2.2.1⟩
  have hl3 : s3.lines = s.lines ++ [{ y0 with op := ov }] := by rw [e3]
  obtain ⟨s4, hs4⟩ : ∃ s4, s4 = (namesOf nameL 1 s3).2 := ⟨_, rfl⟩
  obtain ⟨us, hus⟩ : ∃ us, us = (namesOf nameL 1 s3).1 := ⟨_, rfl⟩
  have hl4 : s4.lines = s.lines ++ [{ y0 with op := ov }] := by rw [hs4, (namesOf_same _ _ _).lines, hl3]
  have FINE : Hid (withUses nameL 1 (withOp (fvF) (PureRd.begin nameL 3 s)) = { s4 with lines := s.lines ++ [({ ({ y0 with op := ov } : Ln) with uses := us } : Ln)] }) := by
    show _ = _
    rw [← hs1, ← hs3, hus]
    
    unfold withUses
    rw [← hs4]
    exact mapLast_of hl4 _
  have NMC : Hid (∀ w3 x3, Rt w3 B b text s3 x3 → Calls Tryd.prog 50 #[.pointer (some ⟨b, 0, none⟩), .int .i64 1] w3 fun e w' => ∃ u, e = .returned (.slice (some ⟨u, 0, none⟩) 1 1) ∧ WRow w' w'.heap.size (.slice (some ⟨u, 0, none⟩) 1 1) us ∧ (∀ z ∈ us, InT text.length z) ∧ (∃ lf, Rt w' B b text s4 { x3 with lf := lf }) ∧ Below B w3 w') := fun w3 x3 hR => by
    rw [hus, hs4]
    refine (namesOf_any 1 (by omega) B b text s3 x3 w3 hR).mono fun e w' h => ?_
    obtain ⟨u, cur, he, hu1, hu2, hu3, hu4, hu5, hu6⟩ := h
    exact ⟨u, he, wrow_of hu2 hu3 (namesOf_len _ _ _), (namesOf_le nameL text.length s3 hR.inl 1).2, hu4, hu5⟩
  have hB0 := h.base
  clear h hcap hs1 hs3 hs4 hus hs2 hov
  have HL4 := hid hl4
  clear hl4 hl3
  have E3 := hid e3
  have HL2 := hid hl2
  clear e3 hl2 hl1
  go_enter Tryd.func30, Tryd.ntmps30
  go_wp2_with (first
    | (have q := R3e; clear q; (try rw [← HW3.out]); go_at_call 50; refine (NMC.out w3 _ R3e.out).mono ?_; rintro e w4 ⟨u, rfl, hw4, hin4, ⟨lf4, r4⟩, b4⟩; obtain ⟨⟨z4, c4⟩, f4, g4, hBg4, r5⟩ := r4.setUses s.lines { y0 with op := ov } x.us (.slice none 0 0) (.slice (some ⟨u, 0, none⟩) 1 1) us HL4.out XA.out.2.1 HL.out XA.out.1 hw4 hin4; have R5 := hid r5; have B5 : Hid (Below B w (w4.setCell ⟨g, L * 7 + 6, none⟩ (.slice (some ⟨u, 0, none⟩) 1 1))) := ((B2.out.trans b4).setCell (p := ⟨g, L * 7 + 6, none⟩) hBg4 _); clear r4 b4 r5 hw4 hin4)
    | (have q := R1; clear q; go_at_call 48; refine (OPC.out w1 xa R1.out B1.out).mono ?_; rintro e w2 ⟨rfl, ⟨lf2, r2⟩, b2⟩; obtain ⟨⟨z2, c2⟩, f2, g2, hBg, r3⟩ := r2.setOp s.lines y0 x.us (.slice none 0 0) ov HL2.out XA.out.2.1 HL.out XA.out.1; have R3 := hid r3; have B2 : Hid (Below B w (w2.setCell ⟨g, L * 7 + 2, none⟩ (.int .i64 ov))) := ((B1.out.trans b2).setCell (p := ⟨g, L * 7 + 2, none⟩) hBg _); obtain ⟨w3, hw3⟩ : ∃ w3, w3 = w2.setCell ⟨g, L * 7 + 2, none⟩ (.int .i64 ov) := ⟨_, rfl⟩; rw [← hw3] at R3 B2; have HW3 := hid hw3; have R3e : Hid (Rt w3 B b text s3 { xa with lf := lf2 }) := (by rw [E3.out]; exact R3.out); clear hw3 r2 b2 r3 R3)
    | (go_at_call 47; refine HB.out.mono ?_; rintro e w1 ⟨g, c, lf, nv, rfl, r1, b1⟩; obtain ⟨xa, hxa⟩ : ∃ xa : Bx, xa = { x with lf := lf, nv := nv, ln := .slice (some ⟨g, 0, none⟩) (L + 1) c, us := x.us ++ [.slice none 0 0] } := ⟨_, rfl⟩; rw [← hxa] at r1; have XA : Hid (xa.ln = .slice (some ⟨g, 0, none⟩) (L + 1) c ∧ xa.us = x.us ++ [.slice none 0 0] ∧ xa.pm = x.pm ∧ xa.rm = x.rm) := (by rw [hxa]; exact ⟨rfl, rfl, rfl, rfl⟩); have R1 := hid r1; have B1 := hid b1; clear r1 b1 hxa))
  first | go_end0 | refine bodyPost_end (results_none rfl _ _ _) rfl ?_
  have R6 := R5.out
  rw [← FINE.out] at R6
  exact ⟨⟨_, rfl⟩, ⟨_, R6, XA.out.2.2.1, XA.out.2.2.2⟩, B5.out⟩
end Go.Proofs.YtfmmmhcpdinhgabDoor
/-
  The reader's end and output.
-/
namespace PureRd
def output (nm : List UInt8 → Bool) (s : Rs) : Rs :=
  let s1 := if s.outs = 65536 then refuse s 8 s.last.2 else s
  let s2 := { s1 with outs := s1.outs + 1 }
  { (namesOf nm 1 s2).2 with lines := (namesOf nm 1 s2).2.lines ++ [⟨0, [], 0, (namesOf nm 1 s2).1⟩] }
def ended (s : Rs) : Rs := { s with mode := 2 }
end PureRd
namespace Go.Proofs.YtfmmmhcpdinhgabDoor
open Go.RowKit Go.Deep PureNet PureRd ShfKit
set_option maxRecDepth 100000

/-- the reader's block is written over, its first words too. -/
theorem Rt.turn {W W' : World} {B b : Nat} {text : List UInt8} {s s' : Rs} {x : Bx} {rm : Value} (h : Rt W B b text s x) (hk : Oth 67 (some b) W W') (hsz : W.heap.size ≤ W'.heap.size) (hb : W'.heap[b]? = some (.cells (boxV text s' { x with rm := rm }) 67 (0, 0)))
    (e1 : RM W' rm s'.mode) (e2 : s'.left = s.left) (e3 : s'.lines = s.lines) (e4 : s'.places = s.places) (e5 : s'.names = s.names) (e6 : s'.last = s.last) (ho : s'.outs ≤ 1099511627776) (hf : s'.fault = s.fault) (ht : ∀ m, rm = .map (some m) → m ≠ x.pm) : Rt W' B b text s' { x with rm := rm } := by
  obtain ⟨h1, h2, h3, h4, h5, h6⟩ := h.beside hk
  refine ⟨h.base, hb, e1, by rw [e2]; exact h2, by rw [e3]; exact h3, by rw [e3]; exact h.many, by rw [e3]; exact h4, ?_, by rw [e5]; exact h6, h.small, by rw [e2]; exact h.inl, by rw [e6]; exact h.inla, by rw [e5]; exact h.inn, by rw [e3]; exact h.inu, by rw [e4]; exact h.few, by rw [e3]; exact h.fewL, by rw [e5]; exact h.fewN, ho, by rw [hf]; exact h.flt, Nat.le_trans h.mxl hsz, ht, h.pmB⟩
  obtain ⟨n, D, q1, q2, q3⟩ := h5
  refine ⟨n, D, q1, by rw [e4]; exact q2, fun k => ?_⟩
  have : placeOf s' k = placeOf s k := by unfold placeOf; rw [e4]
  rw [this]
  exact q3 k

set_option maxHeartbeats 1000000 in
theorem end_any (B b : Nat) (text : List UInt8) (s : Rs) (x : Bx) (w : World) (h : Rt w B b text s x) :
    Calls Tryd.prog 32 #[.pointer (some ⟨b, 0, none⟩)] w fun e w' => (∃ v, e = .returned v) ∧ (∃ x', Rt w' B b text (ended s) x' ∧ x'.pm = x.pm) ∧ Below B w w' := by
  obtain ⟨q0, q1, q2, q3, q4, q5, q6, q7, q8, q9, q10, q11, q12, q13, q14, hbl, hfz⟩ := box_cells h.box
  have f1 := hfz 1
  have FIN : Hid ((∃ x', Rt (w.setCell ⟨b, 1, none⟩ (.map none)) B b text (ended s) x' ∧ x'.pm = x.pm) ∧ Below B w (w.setCell ⟨b, 1, none⟩ (.map none))) := by
    refine ⟨⟨{ x with rm := .map none }, h.turn oth_set (by simp) ?_ (.inl ⟨Nat.le_refl _, rfl⟩) rfl rfl rfl rfl rfl h.fewO rfl (fun m e => by cases e), rfl⟩, (Below.refl _ _).setCell (p := ⟨b, 1, none⟩) h.base _⟩
    rw [row_set h.box]
    rfl
  clear h q0 q2 q3 q4 q5 q6 q7 q8 q9 q10 q11 q12 q13 q14 hfz
  go_enter Tryd.func32, Tryd.ntmps32
  go_wp2
  first | go_end0 | refine bodyPost_end (results_none rfl _ _ _) rfl ?_
  exact ⟨⟨_, rfl⟩, FIN.out⟩

set_option maxHeartbeats 4000000 in
theorem output_any (B b : Nat) (text : List UInt8) (s : Rs) (x : Bx) (w : World) (h : Rt w B b text s x) (hcap : s.outs ≤ 2097152 ∧ s.lines.length ≤ 2097152) :
    Calls Tryd.prog 31 #[.pointer (some ⟨b, 0, none⟩)] w fun e w' => (∃ v, e = .returned v) ∧ (∃ x', Rt w' B b text (PureRd.output nameL s) x' ∧ x'.pm = x.pm ∧ x'.rm = x.rm) ∧ Below B w w' := by
  obtain ⟨q0, q1, q2, q3, q4, q5, q6, q7, q8, q9, q10, q11, q12, q13, q14, hbl, hfz⟩ := box_cells h.box
  obtain ⟨s1, hs1⟩ : ∃ s1, s1 = (if s.outs = 65536 then refuse s 8 s.last.2 else s) := ⟨_, rfl⟩
  have SM1 : Same s s1 := by rw [hs1]; split; exact refuse_same _ _ _; exact Same.refl _
  obtain ⟨s2, hs2⟩ : ∃ s2, s2 = { s1 with outs := s1.outs + 1 } := ⟨_, rfl⟩
  obtain ⟨s3, hs3⟩ : ∃ s3, s3 = (namesOf nameL 1 s2).2 := ⟨_, rfl⟩
  obtain ⟨us, hus⟩ : ∃ us, us = (namesOf nameL 1 s2).1 := ⟨_, rfl⟩
  obtain ⟨s4, hs4⟩ : ∃ s4, s4 = { s3 with lines := s3.lines ++ [(⟨0, [], 0, us⟩ : Ln)] } := ⟨_, rfl⟩
  have FINE : Hid (PureRd.output nameL s = s4) := by show _ = _; rw [hs4, hus, hs3, hs2, hs1]; rfl
  have hl3 : s3.lines = s.lines := by rw [hs3, (namesOf_same _ _ _).lines, hs2]; exact SM1.lines
  have hla := h.inla
  have RF1 : Hid (s.outs = 65536 → Calls Tryd.prog 36 #[.pointer (some ⟨b, 0, none⟩), .int .i64 8, .int .i64 (s.last.2 : Int)] w fun e w' => (∃ y, e = .returned y) ∧ Rt w' B b text s1 x ∧ Below B w w') := fun e => by
    have := refuse_any B b text s x 8 s.last.2 w h (by have : s.last.2 + s.last.1.length ≤ text.length := hla; omega) (by decide)
    rw [hs1, if_pos e]
    exact this.mono fun e w' h => ⟨h.1, h.2.1, h.2.2.1⟩
  have S01 : Hid (s.outs ≠ 65536 → s1 = s) := fun e => by rw [hs1, if_neg e]
  have so : s1.outs = s.outs := SM1.outs
  -- one output more
  have ONE : Hid (∀ w1, Rt w1 B b text s1 x → w1.cell? ⟨b, 6, none⟩ = some (.int .i64 (s.outs : Int)) ∧ w1.frozen? ⟨b, 6, none⟩ = false ∧ b < w1.heap.size ∧ ∀ W, W = w1.setCell ⟨b, 6, none⟩ (.int .i64 ((s.outs : Int) + 1)) → Rt W B b text s2 x ∧ Below B w1 W) := fun w1 hR => by
    refine ⟨by rw [← so]; exact cell_row hR.box 6, unfrozen_row hR.box 6, (Array.getElem?_eq_some_iff.1 hR.box).1, fun W hW => ⟨?_, by rw [hW]; exact (Below.refl _ _).setCell (p := ⟨b, 6, none⟩) hR.base _⟩⟩
    have o : Oth 67 (some b) w1 W := by rw [hW]; exact oth_set
    rw [hs2]
    refine hR.write (lf := x.lf) o ?_ rfl (hR.beside o).2.1 (by rw [hW]; simp) hR.inl rfl rfl rfl hR.inla (by show s1.outs + 1 ≤ _; rw [so]; have := hcap.1; omega) hR.flt
    rw [hW, row_set hR.box, ← so]
    rfl
  have NMC : Hid (∀ w3, Rt w3 B b text s2 x → Calls Tryd.prog 50 #[.pointer (some ⟨b, 0, none⟩), .int .i64 1] w3 fun e w' => ∃ u, e = .returned (.slice (some ⟨u, 0, none⟩) 1 1) ∧ WRow w' w'.heap.size (.slice (some ⟨u, 0, none⟩) 1 1) us ∧ (∀ z ∈ us, InT text.length z) ∧ (∃ lf, Rt w' B b text s3 { x with lf := lf }) ∧ Below B w3 w') := fun w3 hR => by
    rw [hus, hs3]
    refine (namesOf_any 1 (by omega) B b text s2 x w3 hR).mono fun e w' h => ?_
    obtain ⟨u, cur, he, hu1, hu2, hu3, hu4, hu5, hu6⟩ := h
    exact ⟨u, he, wrow_of hu2 hu3 (namesOf_len _ _ _), (namesOf_le nameL text.length s2 hR.inl 1).2, hu4, hu5⟩
  obtain ⟨sl, cl, hlnx⟩ := own_shape h.lines
  have LNP : Hid (∀ w8 lf u, Rt w8 B b text s3 { x with lf := lf } → WRow w8 w8.heap.size (.slice (some ⟨u, 0, none⟩) 1 1) us → (∀ z ∈ us, InT text.length z) →
      w8.cell? ⟨b, 5, none⟩ = some (.slice sl s.lines.length cl) ∧ b < w8.heap.size ∧ (w8.alloc (.cells (lnV ⟨0, [], 0, us⟩ (.slice (some ⟨u, 0, none⟩) 1 1)).toArray 87)).cell? ⟨b, 5, none⟩ = some (.slice sl s.lines.length cl) ∧ (w8.alloc (.cells (lnV ⟨0, [], 0, us⟩ (.slice (some ⟨u, 0, none⟩) 1 1)).toArray 87)).ownsRow B 87 7 (.slice sl s.lines.length cl) s.lines.length (lnsV s.lines x.us) ∧ (w8.alloc (.cells (lnV ⟨0, [], 0, us⟩ (.slice (some ⟨u, 0, none⟩) 1 1)).toArray 87)).heap[w8.heap.size]? = some (.cells (lnV ⟨0, [], 0, us⟩ (.slice (some ⟨u, 0, none⟩) 1 1)).toArray 87 (0, 0)) ∧ B ≤ (w8.alloc (.cells (lnV ⟨0, [], 0, us⟩ (.slice (some ⟨u, 0, none⟩) 1 1)).toArray 87)).heap.size ∧
      ∀ v9 w9, w9.ownsRow B 87 7 v9 (s.lines.length + 1) (lnsV s.lines x.us ++ lnV ⟨0, [], 0, us⟩ (.slice (some ⟨u, 0, none⟩) 1 1)) → (w8.alloc (.cells (lnV ⟨0, [], 0, us⟩ (.slice (some ⟨u, 0, none⟩) 1 1)).toArray 87)).grownBy w9 (Value.slice sl s.lines.length cl).ownBlock → (∃ z, w9.cell? ⟨b, 5, none⟩ = some z) ∧ w9.frozen? ⟨b, 5, none⟩ = false ∧ b < w9.heap.size ∧ ∀ W, W = w9.setCell ⟨b, 5, none⟩ v9 → (∃ x', Rt W B b text s4 x' ∧ x'.pm = x.pm ∧ x'.rm = x.rm) ∧ Below B w8 W) := fun w8 lf u hR hwr hin => by
    have hown := hR.lines
    rw [hl3] at hown
    have hbl := (Array.getElem?_eq_some_iff.1 hR.box).1
    have hln' : x.ln = .slice sl s.lines.length cl := hlnx
    have c5 : w8.cell? ⟨b, 5, none⟩ = some (.slice sl s.lines.length cl) := by rw [← hln']; exact cell_row hR.box 5
    have hBs := hR.base
    have b9 : Below w8.heap.size w8 (w8.alloc (.cells (lnV ⟨0, [], 0, us⟩ (.slice (some ⟨u, 0, none⟩) 1 1)).toArray 87)) := (Below.refl _ _).alloc (Nat.le_refl _) _
    have own2 : (w8.alloc (.cells (lnV ⟨0, [], 0, us⟩ (.slice (some ⟨u, 0, none⟩) 1 1)).toArray 87)).ownsRow B 87 7 (.slice sl s.lines.length cl) s.lines.length (lnsV s.lines x.us) := by rw [← hln']; exact ownsRow_below hown b9
    refine ⟨c5, hbl, (b9.cell (p := ⟨b, 5, none⟩) hbl).trans c5, own2, heap_alloc_new w8 _, by have := b9.size; omega, fun v9 w9 o9 g9 => ?_⟩
    have hb9 : w9.heap[b]? = some (.cells (boxV text s3 { x with lf := lf }) 67 (0, 0)) := (g9.block b (by have := b9.size; omega) (fun e => own_ne own2 ((b9.block b hbl).trans hR.box) (by decide) e.symm)).trans ((b9.block b hbl).trans hR.box)
    refine ⟨⟨_, cell_row hb9 5⟩, unfrozen_row hb9 5, (Array.getElem?_eq_some_iff.1 hb9).1, fun W hW => ?_⟩
    have o79 : Oth 87 (some b) w8 w9 := (Oth.of_below b9).trans ((Lib.OthersKept.refl _ _ _).grown g9 (fun g hg => by
      rcases own2.2 with ⟨hv, _⟩ | ⟨g', cap, cur, hv, _, hr, _⟩
      · rw [hv] at hg; cases hg
      · rw [hv] at hg
        obtain rfl := Option.some.inj hg
        exact ⟨_, _, hr⟩))
    have o7W : Oth 87 (some b) w8 W := by rw [hW]; exact o79.setCell ⟨b, 5, none⟩ rfl _
    have hsz : w8.heap.size ≤ W.heap.size := by
      have h1 := b9.size
      have h2 := g9.size
      rw [hW]
      simp at h1 h2 ⊢
      omega
    have bW : Below B w8 W := by
      rw [hW]
      exact ((b9.mono (by omega)).grown g9 (by have := b9.size; omega) (fun k hk => (own2.lt k hk).1)).setCell (p := ⟨b, 5, none⟩) hBs _
    refine ⟨⟨{ x with lf := lf, ln := v9, us := x.us ++ [.slice (some ⟨u, 0, none⟩) 1 1], mx := w8.heap.size }, ?_, rfl, rfl⟩, bW⟩
    rw [hs4]
    refine hR.pushLine o7W hsz v9 ⟨0, [], 0, us⟩ (.slice (some ⟨u, 0, none⟩) 1 1) w8.heap.size hR.mxl hsz hin (hwr.kept o7W (by decide) ?_) ?_ ?_ (by rw [hl3]; have := hcap.2; omega) rfl
    · intro k c2 fz e h2
      obtain rfl := Option.some.inj e
      rw [hR.box] at h2
      simp only [Option.some.injEq, Obj.cells.injEq] at h2
      exact absurd h2.2.1 (by decide)
    · rw [hl3, hW]
      have hob : v9.ownBlock ≠ some b := by
        rcases o9.2 with ⟨hv, _⟩ | ⟨g', cap, cur, hv, _, hr, _⟩
        · rw [hv]; simp [Value.ownBlock]
        · rw [hv]
          intro e
          have e2 := Option.some.inj e
          subst e2
          rw [hb9] at hr
          simp only [Option.some.injEq, Obj.cells.injEq] at hr
          exact absurd hr.2.1 (by decide)
      exact ShfKit_own_kept o9 (fun g hg => Below.heap_setCell _ _ _ _ (fun e => hob (by rw [hg, e])))
    · rw [hW, row_set hb9]
      rfl
  have R0 := hid h
  have hou : s.outs ≤ 2097152 := hcap.1
  have HCL := hid hcap.2
  have HLX := hid hlnx
  have mixed := Tryd.lays161.mixed
  clear h SM1 hs1 hs2 hs3 hs4 hus hl3 hla so hcap hlnx q0 q1 q2 q3 q5 q7 q8 q9 q10 q11 q12 q13 q14 hfz
  go_enter Tryd.func31, Tryd.ntmps31
  go_upto_if 6 with fail
  go_cut [] (fun wx => Hid (Rt wx B b text s1 x ∧ Below B w wx))
  case first =>
    by_cases hA : s.outs = 65536
    · have e1 : ((s.outs : Int) == 65536) = true := by simp; omega
      have RC := hid (RF1.out hA)
      clear hA
      go_wp2_with (go_at_call 36; refine RC.out.mono ?_; rintro e w1 ⟨⟨yy, rfl⟩, k1, k2⟩; have K := hid (And.intro k1 k2); clear k1 k2)
      go_meet
      exact K.out
    · have e1 : ((s.outs : Int) == 65536) = false := by simp; omega
      have K : Hid (Rt w B b text s1 x ∧ Below B w w) := ⟨by rw [S01.out hA]; exact R0.out, Below.refl _ _⟩
      go_wp2_with fail
      go_meet
      exact K.out
  case rest =>
  obtain ⟨w1, hw1⟩ : ∃ w1, w1 = wc := ⟨_, rfl⟩
  rw [← hw1] at hcut ⊢
  clear hw1
  obtain ⟨p6, pf6, pl, nx1⟩ := ONE.out w1 hcut.out.1
  have B1 : Hid (Below B w w1) := hcut.out.2
  obtain ⟨w2, hw2⟩ : ∃ w2, w2 = w1.setCell ⟨b, 6, none⟩ (.int .i64 ((s.outs : Int) + 1)) := ⟨_, rfl⟩
  obtain ⟨r2, b2⟩ := nx1 w2 hw2
  have HW2 := hid hw2
  have R2 := hid r2
  have B2 : Hid (Below B w w2) := B1.out.trans b2
  have R2d : Hid (Rt w2.drew B b text s2 x) := r2.on (Below.refl w2.heap.size w2).drew
  have NC := hid (NMC.out w2.drew R2d.out)
  have c5 : w2.drew.cell? ⟨b, 5, none⟩ = some (.slice sl s.lines.length cl) := by rw [← HLX.out]; exact cell_row R2d.out.box 5
  have lb2 : b < w2.drew.heap.size := (Array.getElem?_eq_some_iff.1 R2d.out.box).1
  clear hcut nx1 hw2 r2 b2 R0 RF1 S01 q4 q6 NMC ONE
  go_upto_region 3 with (first | (have q := HW2; clear q; rw [← HW2.out]; clear HW2))
  go_region_law (first
        | (have q := OW8; clear q; refine step_line rfl _ _ rfl B s.lines.length (.slice sl s.lines.length cl) (lnsV s.lines x.us) ⟨0, [], 0, us⟩ (.slice (some ⟨u, 0, none⟩) 1 1) rfl _ rfl OW8.out rfl CE8.out (by have := HCL.out; omega) HB8.out ?_; intro v9 w9 o9 g9; obtain ⟨⟨z5, e5⟩, f5, l5, nx9⟩ := NX10.out v9 w9 o9 g9; obtain ⟨g10, c10, hv10, _, _, _⟩ := own_some o9 (by omega); obtain rfl := hv10; have NX9 := hid nx9; clear nx9 o9 g9)
        | (go_simp; go_at_call 50; refine NC.out.mono ?_; rintro e w8 ⟨u, rfl, hw8, hin8, ⟨lf, r8⟩, b8⟩; obtain ⟨k5, k6, k7, k8, k9, k10, k11⟩ := LNP.out w8 lf u r8 hw8 hin8; have OW8 := hid k8; have CE8 := hid k9; have HB8 := hid k10; have NX10 := hid k11; have B8 : Hid (Below B w w8) := B2.out.drew.trans b8; clear k8 k9 k10 k11 b8 r8 hw8 hin8))
  all_goals
    go_wp2
    first | go_end0 | refine bodyPost_end (results_none rfl _ _ _) rfl ?_
    obtain ⟨r9, b9⟩ := NX9.out _ rfl
    rw [FINE.out]
    exact ⟨⟨_, rfl⟩, r9, B8.out.trans b9⟩
end Go.Proofs.YtfmmmhcpdinhgabDoor
/-
  The reader's head.
-/
namespace PureRd
def headed (nm : List UInt8 → Bool) (s : Rs) : Rs := { (name nm s).2 with cname := (name nm s).1.1, mode := 1 }
end PureRd
namespace Go.Proofs.YtfmmmhcpdinhgabDoor
open Go.RowKit Go.Deep PureNet PureRd ShfKit Go.Maps Go.WideShapes
set_option maxRecDepth 100000

/-- a first word more. -/
theorem put_fn {W : World} {m n : Nat} {D : DataW Unit} (h : W.ownsMap Tryd.prog 9 rfn m n D) (hn : n < 1000) (k : List UInt8) (hk : k.length ≤ 1000) (f : Nat) : ∃ W', (Instr.mapUpdate 60 (.map (some m)) (str k) (.func (.func f) #[] #[])).run Tryd.prog W = .ok () W' ∧ W'.ownsMap Tryd.prog 9 rfn m (n + 1) (D.put (.string k) (.lit (.int .i64 (f : Int)))) ∧ W.grownBy W' (some m) :=
  h.update (string_keyed Tryd.underlying9) Tryd.underlying60 (by unfold maxLen; omega) (WideMaps.keyOf_string_mk (P := Tryd.prog) (s := ⟨k.toArray⟩) Tryd.underlying9 (by show k.toArray.size ≤ _; unfold maxLen; simp; omega)) rfl
theorem view_put {D : DataW Unit} {F : List UInt8 → Option Nat} (hD : IsMap D) (h : ∀ k, has D (.string k) = (F k).isSome ∧ ∀ f z, F k = some f → D.atKey (.string k) z = .lit (.int .i64 (f : Int))) (k0 : List UInt8) (f0 : Nat) :
    IsMap (D.put (.string k0) (.lit (.int .i64 (f0 : Int)))) ∧ ∀ k, has (D.put (.string k0) (.lit (.int .i64 (f0 : Int)))) (.string k) = (if k = k0 then some f0 else F k).isSome ∧ ∀ f z, (if k = k0 then some f0 else F k) = some f → (D.put (.string k0) (.lit (.int .i64 (f0 : Int)))).atKey (.string k) z = .lit (.int .i64 (f : Int)) := by
  refine ⟨hD.put _ _, fun k => ?_⟩
  by_cases hq : k = k0
  · subst hq
    rw [if_pos rfl, has_put_same hD (by constructor)]
    exact ⟨rfl, fun p2 z e => by cases e; exact atKey_put_same hD (by constructor) _ _⟩
  · have hne : Lit.string k ≠ Lit.string k0 := fun e => hq (by simpa using e)
    rw [if_neg hq, has_put_other hne]
    exact ⟨(h k).1, fun p2 z e => by rw [atKey_put_other hne]; exact (h k).2 p2 z e⟩
theorem field74 (a b : Value) (W : World) : (Instr.field 64 (.agg #[a, b]) 0).run Tryd.prog W = .ok a W := by
  simp [Instr.field, run_underlying Tryd.underlying64, part, go_sem, asAgg]

set_option maxHeartbeats 1000000 in
/-- the six first words that come behind the head. -/
theorem fill_six (W0 : World) (m : Nat) (h : W0.ownsMap Tryd.prog 9 rfn m 0 (.map [])) : ∃ W1 W2 W3 W4 W5 W6,
    (Instr.mapUpdate 60 (.map (some m)) (.string ⟨#[105, 110, 112, 117, 116]⟩) (.func (.func 27) #[] #[])).run Tryd.prog W0 = .ok () W1 ∧
    (Instr.mapUpdate 60 (.map (some m)) (.string ⟨#[103, 97, 116, 101]⟩) (.func (.func 28) #[] #[])).run Tryd.prog W1 = .ok () W2 ∧
    (Instr.mapUpdate 60 (.map (some m)) (.string ⟨#[109, 117, 120]⟩) (.func (.func 29) #[] #[])).run Tryd.prog W2 = .ok () W3 ∧
    (Instr.mapUpdate 60 (.map (some m)) (.string ⟨#[108, 97, 116, 99, 104]⟩) (.func (.func 30) #[] #[])).run Tryd.prog W3 = .ok () W4 ∧
    (Instr.mapUpdate 60 (.map (some m)) (.string ⟨#[111, 117, 116, 112, 117, 116]⟩) (.func (.func 31) #[] #[])).run Tryd.prog W4 = .ok () W5 ∧
    (Instr.mapUpdate 60 (.map (some m)) (.string ⟨#[101, 110, 100]⟩) (.func (.func 32) #[] #[])).run Tryd.prog W5 = .ok () W6 ∧ RM W6 (.map (some m)) 1 ∧ (∀ k, k ≠ m → k < W0.heap.size → W6.heap[k]? = W0.heap[k]?) ∧ W0.heap.size ≤ W6.heap.size ∧ (∀ B, B ≤ m → B ≤ W0.heap.size → Below B W0 W6) := by
  have v0 : IsMap (.map [] : DataW Unit) ∧ ∀ k, has (.map [] : DataW Unit) (.string k) = ((fun _ => none : List UInt8 → Option Nat) k).isSome ∧ ∀ f z, (fun _ => none : List UInt8 → Option Nat) k = some f → (DataW.map [] : DataW Unit).atKey (.string k) z = .lit (.int .i64 (f : Int)) := ⟨isMap_empty, fun k => ⟨rfl, fun f z e => by cases e⟩⟩
  obtain ⟨W1, r1, o1, g1⟩ := put_fn h (by omega) [105, 110, 112, 117, 116] (by simp) 27
  have v1 := view_put v0.1 v0.2 [105, 110, 112, 117, 116] 27
  obtain ⟨W2, r2, o2, g2⟩ := put_fn o1 (by omega) [103, 97, 116, 101] (by simp) 28
  have v2 := view_put v1.1 v1.2 [103, 97, 116, 101] 28
  obtain ⟨W3, r3, o3, g3⟩ := put_fn o2 (by omega) [109, 117, 120] (by simp) 29
  have v3 := view_put v2.1 v2.2 [109, 117, 120] 29
  obtain ⟨W4, r4, o4, g4⟩ := put_fn o3 (by omega) [108, 97, 116, 99, 104] (by simp) 30
  have v4 := view_put v3.1 v3.2 [108, 97, 116, 99, 104] 30
  obtain ⟨W5, r5, o5, g5⟩ := put_fn o4 (by omega) [111, 117, 116, 112, 117, 116] (by simp) 31
  have v5 := view_put v4.1 v4.2 [111, 117, 116, 112, 117, 116] 31
  obtain ⟨W6, r6, o6, g6⟩ := put_fn o5 (by omega) [101, 110, 100] (by simp) 32
  have v6 := view_put v5.1 v5.2 [101, 110, 100] 32
  refine ⟨W1, W2, W3, W4, W5, W6, r1, r2, r3, r4, r5, r6, .inr ⟨by omega, m, _, _, rfl, o6, fun k => ?_⟩, fun k hk hs => ?_, ?_, fun B hB hB2 => ?_⟩
  · have e : fnOf 1 k = (if k = [101, 110, 100] then some 32 else (if k = [111, 117, 116, 112, 117, 116] then some 31 else (if k = [108, 97, 116, 99, 104] then some 30 else (if k = [109, 117, 120] then some 29 else (if k = [103, 97, 116, 101] then some 28 else (if k = [105, 110, 112, 117, 116] then some 27 else none)))))) := by
      unfold fnOf
      rw [if_neg (by decide), if_pos rfl]
      (repeat' split) <;> simp_all
    rw [e]
    exact v6.2 k
  · have hne : some k ≠ some m := fun e => hk (Option.some.inj e)
    have s1 := g1.size
    have s2 := g2.size
    have s3 := g3.size
    have s4 := g4.size
    have s5 := g5.size
    rw [g6.block k (by omega) hne, g5.block k (by omega) hne, g4.block k (by omega) hne, g3.block k (by omega) hne, g2.block k (by omega) hne, g1.block k hs hne]
  · have s1 := g1.size
    have s2 := g2.size
    have s3 := g3.size
    have s4 := g4.size
    have s5 := g5.size
    have s6 := g6.size
    omega
  · have s1 := g1.size
    have s2 := g2.size
    have s3 := g3.size
    have s4 := g4.size
    have s5 := g5.size
    have hm : ∀ k, some m = some k → B ≤ k := fun k e => by obtain rfl := Option.some.inj e; exact hB
    exact ((((((Below.refl B W0).grown g1 hB2 hm).grown g2 (by omega) hm).grown g3 (by omega) hm).grown g4 (by omega) hm).grown g5 (by omega) hm).grown g6 (by omega) hm

set_option maxHeartbeats 2000000 in
theorem head_any (B b : Nat) (text : List UInt8) (s : Rs) (x : Bx) (w : World) (h : Rt w B b text s x) :
    Calls Tryd.prog 15 #[.pointer (some ⟨b, 0, none⟩)] w fun e w' => (∃ v, e = .returned v) ∧ (∃ x', Rt w' B b text (headed nameL s) x' ∧ x'.pm = x.pm) ∧ Below B w w' := by
  have HIN : InT text.length (take s).1 := take_in h.inl
  have hsm := h.small
  have NM := hid (name_any B b text s x w h)
  obtain ⟨ty, hty⟩ : ∃ ty, ty = (take s).1 := ⟨_, rfl⟩
  obtain ⟨s1, hs1⟩ : ∃ s1, s1 = (name nameL s).2 := ⟨_, rfl⟩
  have HD : Hid (headed nameL s = { s1 with cname := ty.1, mode := 1 }) := by show _ = _; rw [hty, hs1]; rfl
  rw [← hty, ← hs1] at NM
  rw [← hty] at HIN
  have hti : ty.2 + ty.1.length ≤ text.length := HIN
  have fl := field74 (str ty.1) (.int .i64 (ty.2 : Int))
  have CLO : Hid (∀ W, Calls Tryd.prog 25 #[str ty.1] W fun e w' => e = .returned (str ty.1) ∧ Below W.heap.size W w') := fun W => clone_any ⟨ty.1.toArray⟩ W (by show ty.1.toArray.size ≤ _; simp; omega)
  have hmm := @run_makeMap Tryd.prog
  have hB := h.base
  -- the name is stored, the first words are laid
  have MID : Hid (∀ w1 lf, Rt w1 B b text s1 { x with lf := lf } → Below B w w1 → ∀ w2, Below w1.heap.size w1 w2 → ∃ z9 z1, w2.cell? ⟨b, 9, none⟩ = some z9 ∧ w2.frozen? ⟨b, 9, none⟩ = false ∧ b < w2.heap.size ∧ ∀ w3, w3 = w2.setCell ⟨b, 9, none⟩ (str ty.1) → ∃ W1 W2 W3 W4 W5 W6,
    (Instr.mapUpdate 60 (.map (some w3.heap.size)) (.string ⟨#[105, 110, 112, 117, 116]⟩) (.func (.func 27) #[] #[])).run Tryd.prog (w3.alloc (.map #[] 0)) = .ok () W1 ∧
    (Instr.mapUpdate 60 (.map (some w3.heap.size)) (.string ⟨#[103, 97, 116, 101]⟩) (.func (.func 28) #[] #[])).run Tryd.prog W1 = .ok () W2 ∧
    (Instr.mapUpdate 60 (.map (some w3.heap.size)) (.string ⟨#[109, 117, 120]⟩) (.func (.func 29) #[] #[])).run Tryd.prog W2 = .ok () W3 ∧
    (Instr.mapUpdate 60 (.map (some w3.heap.size)) (.string ⟨#[108, 97, 116, 99, 104]⟩) (.func (.func 30) #[] #[])).run Tryd.prog W3 = .ok () W4 ∧
    (Instr.mapUpdate 60 (.map (some w3.heap.size)) (.string ⟨#[111, 117, 116, 112, 117, 116]⟩) (.func (.func 31) #[] #[])).run Tryd.prog W4 = .ok () W5 ∧
    (Instr.mapUpdate 60 (.map (some w3.heap.size)) (.string ⟨#[101, 110, 100]⟩) (.func (.func 32) #[] #[])).run Tryd.prog W5 = .ok () W6 ∧ W6.cell? ⟨b, 1, none⟩ = some z1 ∧ W6.frozen? ⟨b, 1, none⟩ = false ∧ b < W6.heap.size ∧ (∃ x', Rt (W6.setCell ⟨b, 1, none⟩ (.map (some w3.heap.size))) B b text { s1 with cname := ty.1, mode := 1 } x' ∧ x'.pm = x.pm) ∧ Below B w (W6.setCell ⟨b, 1, none⟩ (.map (some w3.heap.size)))) := fun w1 lf hR hb w2 b12 => by
    have r2 := hR.on b12
    refine ⟨_, x.rm, cell_row r2.box 9, unfrozen_row r2.box 9, (Array.getElem?_eq_some_iff.1 r2.box).1, fun w3 h3 => ?_⟩
    have o3 : Oth 67 (some b) w2 w3 := by rw [h3]; exact oth_set
    have hs3 : w2.heap.size = w3.heap.size := by rw [h3]; simp
    have r3 : Rt w3 B b text { s1 with cname := ty.1 } { x with lf := lf } := by
      refine r2.write (lf := lf) o3 ?_ rfl (r2.beside o3).2.1 (by omega) r2.inl rfl rfl rfl r2.inla r2.fewO r2.flt
      rw [h3, row_set r2.box]
      rfl
    obtain ⟨W1, W2, W3, W4, W5, W6, i1, i2, i3, i4, i5, i6, hRM, hk, hsz, hbel⟩ := fill_six (w3.alloc (.map #[] 0)) w3.heap.size (World.ownsMap_made w3 _ _ _)
    have b34 : Below w3.heap.size w3 W6 := ((Below.refl w3.heap.size w3).alloc (Nat.le_refl _) _).trans (hbel w3.heap.size (Nat.le_refl _) (by simp))
    have r6 := r3.on b34
    have hpl : x.pm < w3.heap.size := by
      obtain ⟨n, D, ho, _⟩ := r3.places
      exact ho.lt
    refine ⟨W1, W2, W3, W4, W5, W6, i1, i2, i3, i4, i5, i6, cell_row r6.box 1, unfrozen_row r6.box 1, (Array.getElem?_eq_some_iff.1 r6.box).1, ⟨{ x with lf := lf, rm := .map (some w3.heap.size) }, ?_, rfl⟩, ?_⟩
    · refine r6.turn oth_set (by simp) ?_ ?_ rfl rfl rfl rfl rfl r6.fewO rfl (fun m e => by simp only [Value.map.injEq, Option.some.injEq] at e; show m ≠ x.pm; omega)
      · rw [row_set r6.box]
        rfl
      · exact hRM.kept (t := 67) oth_set ⟨_, _, _, r6.box⟩
    · have hs1 := hb.size
      have hs2 := b12.size
      have hb1 := (Array.getElem?_eq_some_iff.1 hR.box).1
      have hbB := hR.base
      have bB : Below B w w2 := hb.trans (b12.mono (by omega))
      have b3 : Below B w w3 := by rw [h3]; exact bB.setCell (p := ⟨b, 9, none⟩) hbB _
      exact (b3.trans (b34.mono (by omega))).setCell (p := ⟨b, 1, none⟩) hbB _
  clear h hty hs1 HIN hti
  go_enter Tryd.func15, Tryd.ntmps15
  go_wp2_with (first
    | (have q := B1; clear q; go_at_call 25; refine (CLO.out _).mono ?_; rintro e w2 ⟨rfl, b2⟩; obtain ⟨z9, z1, c9, f9, l9, nx⟩ := MID.out w1 lf R1.out B1.out w2 b2; obtain ⟨w3, hw3⟩ : ∃ w3, w3 = w2.setCell ⟨b, 9, none⟩ (str ty.1) := ⟨_, rfl⟩; obtain ⟨W1, W2, W3, W4, W5, W6, i1, i2, i3, i4, i5, i6, c1, f1, l1, fin⟩ := nx w3 hw3; have HW3 := hid hw3; have FN := hid fin; clear nx hw3 fin b2 B1)
    | (have q := HW3; clear q; rw [← HW3.out]; clear HW3)
    | (go_at_call 26; refine NM.out.mono ?_; rintro e w1 ⟨rfl, ⟨lf, r1⟩, b1, o1⟩; have R1 := hid r1; have B1 := hid b1; clear r1 b1 o1))
  first | go_end0 | refine bodyPost_end (results_none rfl _ _ _) rfl ?_
  rw [HD.out]
  exact ⟨⟨_, rfl⟩, FN.out.1, FN.out.2⟩
end Go.Proofs.YtfmmmhcpdinhgabDoor
