import Derived.Test.YtdkboifpdodonaaDoorZ08
set_option linter.unusedSimpArgs false
/-
  The machine's own calls: inner, binds, operator, closes, comma, prefix.
-/
namespace Go.Proofs.YtdkboifpdodonaaDoor.Doc
open Go.RowKit Go.Deep PureCnf PureForm
set_option maxRecDepth 100000

section
variable {w0 : Ref} {W : World} {B b : Nat} {st : List Wt} {out : List Nd} {k : Int} {made : Nat} {sv ov : Value}

def kindOf (st : List Wt) : Int := match st with
  | [] => 0
  | x :: _ => x.kind
theorem top_any (h : MacR w0 W B b st out k made sv ov) (hl : st.length ≤ 1048576) :
    Calls Tryd.prog 45 #[.pointer (some ⟨b, 0, none⟩)] W fun e W' => e = .returned (.int .i64 (kindOf st)) ∧ MacR w0 W' B b st out k made sv ov := by
  cases st with
  | nil =>
    refine (top_nil h).mono ?_
    rintro e W' ⟨rfl, n, rfl⟩
    exact ⟨rfl, h.drewN n⟩
  | cons x t =>
    refine (top_cons h (by simp at hl; omega)).mono ?_
    rintro e W' ⟨rfl, n, rfl⟩
    exact ⟨rfl, h.drewN n⟩

/-- how many wait, by the machine's row. -/
def waitsAt (b : Nat) (W : World) : Nat := match W.cell? ⟨b, 0, none⟩ with
  | some (.slice _ n _) => n
  | _ => 0
theorem MacR.waits (h : MacR w0 W B b st out k made sv ov) : waitsAt b W = st.length := by
  obtain ⟨sa, c, rfl⟩ := own_shape h.ost
  unfold waitsAt
  rw [cell_row h.row]
  rfl

def okSt (st : List Wt) : Prop := ∀ w ∈ st, 1 ≤ w.kind ∧ w.kind ≤ 5

/-- settle, where the machine counts what is open. -/
theorem settle_mac {x : Wt} (h : MacR w0 W B b (x :: st) out (opnOf (x :: st) : Int) made sv ov) (hl : st.length ≤ 1048576) (ho : out.length ≤ 1048576) (hk : opnOf (x :: st) ≤ 64) (hx : x.kind = 1 ∨ x.kind = 2 ∨ x.kind = 4 ∨ x.kind = 5) :
    Calls Tryd.prog 69 #[.pointer (some ⟨b, 0, none⟩)] W fun e W' => e = .returned (.tuple #[]) ∧ ∃ sv' ov', MacR w0 W' B b st (out ++ [nodeOf x]) (opnOf st : Int) made sv' ov' := by
  refine (settle_any h hl ho (by omega) (by omega) hx).mono ?_
  rintro e W' ⟨rfl, sv', ov', m⟩
  refine ⟨rfl, sv', ov', ?_⟩
  have : (if x.kind = 5 then (opnOf (x :: st) : Int) else (opnOf (x :: st) : Int) - 1) = (opnOf st : Int) := by
    split
    · next h5 => simp [opnOf, h5]
    · next h5 => simp [opnOf, h5]
  rwa [this] at m

set_option maxHeartbeats 1000000 in
set_option maxRecDepth 100000 in
theorem inner_any (h : MacR w0 W B b st out (opnOf st : Int) made sv ov) (hs : okSt st) (hl : st.length + out.length ≤ 1048576) (hk : opnOf st ≤ 64) :
    Calls Tryd.prog 44 #[.pointer (some ⟨b, 0, none⟩)] W fun e W' => e = .returned (.tuple #[]) ∧ ∃ sv' ov', MacR w0 W' B b (settleIn st out).1 (settleIn st out).2 (opnOf (settleIn st out).1 : Int) made sv' ov' := by
  have H := hid h
  have HS := hid hs
  clear h hs
  go_enter Tryd.func44, Tryd.ntmps44
  go_wp2
  go_loopw [] (fun W' => ∃ (s : List Wt) (o : List Nd) (sv' ov' : Value), s.length + o.length ≤ 1048576 ∧ opnOf s ≤ 64 ∧ Hid (MacR w0 W' B b s o (opnOf s : Int) made sv' ov' ∧ okSt s ∧ settleIn s o = settleIn st out)) (fun W' => waitsAt b W')
  case atStart => exact ⟨st, out, sv, ov, hl, hk, H.out, HS.out, rfl⟩
  case round =>
    obtain ⟨s, o, sv', ov', h1, h2, HR⟩ := hrel
    obtain ⟨m0, s0, e0⟩ := HR.out
    have HTOP := hid (fun (W : World) (hM : MacR w0 W B b s o (opnOf s : Int) made sv' ov') => top_any hM (by omega))
    have M0 := hid m0
    clear HR m0
    cases s with
    | nil =>
      have HE : Hid (settleIn st out = ([], o)) := by show _ = _; rw [← e0]; rfl
      clear e0 s0
      simp only [kindOf] at HTOP
      go_wp2_with (go_at_call 45; refine (HTOP.out _ M0.out).mono ?_; rintro e w1 ⟨rfl, m1⟩; have M1 := hid m1; clear m1)
      go_end0
      rw [HE.out]
      exact ⟨rfl, _, _, M1.out⟩
    | cons x t =>
      obtain ⟨xk, xo, xn⟩ := x
      have hx : 1 ≤ xk ∧ xk ≤ 5 := s0 _ (List.mem_cons_self ..)
      have st0 : okSt t := fun w hw => s0 w (List.mem_cons_of_mem _ hw)
      have HST := hid st0
      simp only [List.length_cons] at h1
      by_cases h34 : xk = 3 ∨ xk = 4
      · have HE : Hid (settleIn st out = (⟨xk, xo, xn⟩ :: t, o)) := by show _ = _; rw [← e0, settleIn, if_pos h34]
        clear e0 s0 st0 hx
        rcases h34 with rfl | rfl
        all_goals
          simp only [kindOf] at HTOP
          go_wp2_with (first
            | (have q := M2; clear q; go_at_call 45; refine (HTOP.out _ M2.out).mono ?_; rintro e w3 ⟨rfl, m3⟩; have M3 := hid m3; clear m3)
            | (have q := M1; clear q; go_at_call 45; refine (HTOP.out _ M1.out).mono ?_; rintro e w2 ⟨rfl, m2⟩; have M2 := hid m2; clear m2)
            | (go_at_call 45; refine (HTOP.out _ M0.out).mono ?_; rintro e w1 ⟨rfl, m1⟩; have M1 := hid m1; clear m1))
          go_end0
          rw [HE.out]
          first | exact ⟨rfl, _, _, M3.out⟩ | exact ⟨rfl, _, _, M2.out⟩
      · have HE : Hid (settleIn t (o ++ [nodeOf ⟨xk, xo, xn⟩]) = settleIn st out) := by show _ = _; rw [← e0, settleIn, if_neg h34]
        have h125 : xk = 1 ∨ xk = 2 ∨ xk = 5 := by omega
        have HSET := hid (fun (W : World) (hM : MacR w0 W B b (⟨xk, xo, xn⟩ :: t) o (opnOf (⟨xk, xo, xn⟩ :: t) : Int) made sv' ov') => settle_mac hM (by omega) (by omega) h2 (by show xk = 1 ∨ xk = 2 ∨ xk = 4 ∨ xk = 5; omega))
        have hop : opnOf t ≤ 64 := by
          have : opnOf t ≤ opnOf (⟨xk, xo, xn⟩ :: t) := by simp only [opnOf, List.countP_cons]; omega
          omega
        have hw0 := M0.out.waits
        have HW0 := hid hw0
        clear e0 s0 st0 hx h34 hw0
        rcases h125 with rfl | rfl | rfl
        all_goals
          simp only [kindOf] at HTOP
          go_wp2_with (first
            | (have q := M3; clear q; go_at_call 69; refine (HSET.out _ M3.out).mono ?_; rintro e w4 ⟨rfl, sv4, ov4, m4⟩; have M4 := hid m4; clear m4)
            | (have q := M2; clear q; go_at_call 45; refine (HTOP.out _ M2.out).mono ?_; rintro e w3 ⟨rfl, m3⟩; have M3 := hid m3; clear m3)
            | (have q := M1; clear q; go_at_call 45; refine (HTOP.out _ M1.out).mono ?_; rintro e w2 ⟨rfl, m2⟩; have M2 := hid m2; clear m2)
            | (go_at_call 45; refine (HTOP.out _ M0.out).mono ?_; rintro e w1 ⟨rfl, m1⟩; have M1 := hid m1; clear m1))
          refine ⟨⟨t, _, sv4, ov4, ?_, hop, M4.out, HST.out, HE.out⟩, ?_⟩
          · simp; omega
          · rw [M4.out.waits, HW0.out]; simp
end
end Go.Proofs.YtdkboifpdodonaaDoor.Doc
/-
  The machine's own calls: binds, operator.
-/
namespace Go.Proofs.YtdkboifpdodonaaDoor.Doc
open Go.RowKit Go.Deep PureCnf PureForm
set_option maxRecDepth 100000

set_option maxHeartbeats 1000000 in
theorem binds_any (op : Nat) (hop : op ≤ 100) (W : World) : Calls Tryd.prog 68 #[.int .i64 (op : Int)] W fun e w' => e = .returned (.int .i64 (bindsN op : Int)) ∧ w' = W := by
  by_cases h6 : op = 6
  · subst h6
    go_enter Tryd.func68, Tryd.ntmps68
    go_wp2
    go_ret
    exact ⟨rfl, rfl⟩
  · by_cases h8 : op = 8
    · subst h8
      go_enter Tryd.func68, Tryd.ntmps68
      go_wp2
      go_ret
      exact ⟨rfl, rfl⟩
    · by_cases h7 : op = 7
      · subst h7
        go_enter Tryd.func68, Tryd.ntmps68
        go_wp2
        go_ret
        exact ⟨rfl, rfl⟩
      · by_cases h9 : op = 9
        · subst h9
          go_enter Tryd.func68, Tryd.ntmps68
          go_wp2
          go_ret
          exact ⟨rfl, rfl⟩
        · have HB : Hid (bindsN op = 1) := by show _ = _; simp [bindsN, h6, h7, h8, h9]
          have b6 : ((op : Int) == 6) = false := by rw [beq_eq_false_iff_ne]; omega
          have b7 : ((op : Int) == 7) = false := by rw [beq_eq_false_iff_ne]; omega
          have b8 : ((op : Int) == 8) = false := by rw [beq_eq_false_iff_ne]; omega
          have b9 : ((op : Int) == 9) = false := by rw [beq_eq_false_iff_ne]; omega
          clear h6 h7 h8 h9
          go_enter Tryd.func68, Tryd.ntmps68
          go_wp2
          go_ret
          rw [HB.out]
          exact ⟨rfl, rfl⟩

/-- one waits more: the append in a region of the text's order. -/
theorem app_push {ops : Array Oper} {rest : List Oper} {o : Oper} {a : Act} {Q : Exit → Act → World → Prop} {w0 : Ref} {w : World} {B b : Nat} {st : List Wt} {out : List Nd} {k made : Int} {sv ov : Value} {cs : Array Value} (hgd : o.guard = none) (sl x : Operand)
    (ho : o.op = .call { callee := .builtin .append, args := #[sl, x], argTypes := #[70, 70] }) (y : Wt) (hcs : cs = (wt y).toArray) (M : MacR w0 w B b st out k made sv ov) (hs : a.eval sl = sv) (hx : a.eval x = .slice (some ⟨w.heap.size, 0, none⟩) 1 1) (hl : st.length ≤ 1048576)
    (h : ∀ sx cx w', w'.heap[b]? = some (.cells #[sv, ov, .int .i64 k, .int .i64 made] 72 (0, 0)) → MacR w0 (w'.setCell ⟨b, 0, none⟩ (.slice sx (st.length + 1) cx)) B b (y :: st) out k made (.slice sx (st.length + 1) cx) ov → wpList Tryd.prog ops Q rest (a.put o.dst (.slice sx (st.length + 1) cx)) w') : wpList Tryd.prog ops Q (o :: rest) a (w.alloc (.cells cs 80)) := by
  subst hcs
  have R := M.alloc (.cells (wt y).toArray 80)
  refine app_one hgd sl x 70 80 _ 3 24 ho Tryd.underlying70 info68 rfl (by decide) (by decide) B st.length sv (wts st.reverse) (wt y) ⟨w.heap.size, 0, none⟩ hs R.ost hx rfl (fun j u hu => by rw [add_zero_addr, cell_row (heap_alloc_new w _)]; simpa [wt] using hu) (fun u hu => by simp [wt] at hu; rcases hu with rfl | rfl | rfl <;> rfl) (by omega) (by have := R.hB; have := R.size; omega) ?_
  intro v2 w2 o2 g2
  obtain ⟨sx, cx, rfl⟩ := own_shape o2
  obtain ⟨r2, m2⟩ := R.push o2 g2
  exact h sx cx w2 r2 m2

section
variable {w0 : Ref} {W : World} {B b : Nat} {st : List Wt} {out : List Nd} {k : Int} {made : Nat} {sv ov : Value}

theorem operator_no (h : MacR w0 W B b st out k made sv ov) (op : Nat) (hm : 65536 ≤ made) :
    Calls Tryd.prog 41 #[.pointer (some ⟨b, 0, none⟩), .int .i64 (op : Int)] W fun e W' => e = .returned (.int .i64 8) ∧ MacE w0 W' B b := by
  have HM := hid (makes_no h hm)
  clear h
  go_enter Tryd.func41, Tryd.ntmps41
  go_wp2_with (go_at_call 38; refine HM.out.mono ?_; rintro e w1 ⟨rfl, m1⟩; have M1 := hid m1; clear m1)
  go_ret
  exact ⟨rfl, M1.out⟩


set_option maxHeartbeats 1000000 in
set_option maxRecDepth 100000 in
theorem operator_any (h : MacR w0 W B b st out (opnOf st : Int) made sv ov) (op : Nat) (hop : op ≤ 100) (hs : okSt st) (ho : ∀ w ∈ st, w.op ≤ 100) (hl : st.length + out.length ≤ 1048576) (hk : opnOf st ≤ 64) (hm : made < 65536) :
    Calls Tryd.prog 41 #[.pointer (some ⟨b, 0, none⟩), .int .i64 (op : Int)] W fun e W' => e = .returned (.int .i64 0) ∧ ∃ sv' ov', MacR w0 W' B b (⟨5, op, 0⟩ :: (settleOps op st out).1) (settleOps op st out).2 (opnOf (settleOps op st out).1 : Int) ((made + 1 : Nat) : Int) sv' ov' := by
  have HM := hid (makes_any h hm)
  have HS := hid hs
  have HO := hid ho
  have HBO := hid (fun W => binds_any op hop W)
  clear h hs ho
  go_enter Tryd.func41, Tryd.ntmps41
  go_wp2_with (go_at_call 38; refine HM.out.mono ?_; rintro e w1 ⟨rfl, m1⟩; have M1 := hid m1; clear m1)
  clear HM
  go_loopw [] (fun W' => ∃ (s : List Wt) (o : List Nd) (sv' ov' : Value), s.length + o.length ≤ 1048576 ∧ opnOf s ≤ 64 ∧ Hid (MacR w0 W' B b s o (opnOf s : Int) ((made + 1 : Nat) : Int) sv' ov' ∧ okSt s ∧ (∀ w ∈ s, w.op ≤ 100) ∧ settleOps op s o = settleOps op st out)) (fun W' => waitsAt b W')
  case atStart => exact ⟨st, out, sv, ov, hl, hk, M1.out, HS.out, HO.out, rfl⟩
  case round =>
    clear M1
    obtain ⟨s, o, sv', ov', h1, h2, HR⟩ := hrel
    obtain ⟨m0, s0, p0, e0⟩ := HR.out
    have HTOP := hid (fun (W : World) (hM : MacR w0 W B b s o (opnOf s : Int) ((made + 1 : Nat) : Int) sv' ov') => top_any hM (by omega))
    have M0 := hid m0
    clear HR m0
    cases s with
    | nil =>
      have HE : Hid (settleOps op st out = ([], o)) := by show _ = _; rw [← e0]; rfl
      clear e0 s0 p0
      simp only [kindOf] at HTOP
      go_wp2_with (first
        | (have q := M2; clear q; at_builtin; refine app_push rfl _ _ rfl ⟨5, op, 0⟩ rfl M2.out rfl rfl (by simp <;> omega) ?_; intro sx cx w9 r9 m9; have c9 := fun j => cell_row r9 j; have f9 := fun j => unfrozen_row r9 j; have hb9 := (Array.getElem?_eq_some_iff.1 r9).1; have M9 := hid m9; clear r9 m9)
        | (have q := M1; clear q; go_at_call 45; refine (HTOP.out _ M1.out).mono ?_; rintro e w2 ⟨rfl, m2⟩; have M2 := hid m2; have c2 := fun j => cell_row m2.row j; have f2 := fun j => unfrozen_row m2.row j; have hb2 := m2.size; clear m2)
        | (have q := M0; clear q; go_at_call 45; refine (HTOP.out _ M0.out).mono ?_; rintro e w1 ⟨rfl, m1⟩; have M1 := hid m1; have c1 := fun j => cell_row m1.row j; have f1 := fun j => unfrozen_row m1.row j; have hb1 := m1.size; clear m1))
      go_ret
      rw [HE.out]
      exact ⟨rfl, _, _, M9.out⟩
    | cons x t =>
      obtain ⟨xk, xo, xn⟩ := x
      have hx : 1 ≤ xk ∧ xk ≤ 5 := s0 _ (List.mem_cons_self ..)
      have hxo : xo ≤ 100 := p0 _ (List.mem_cons_self ..)
      have st0 : okSt t := fun w hw => s0 w (List.mem_cons_of_mem _ hw)
      have pt0 : ∀ w ∈ t, w.op ≤ 100 := fun w hw => p0 w (List.mem_cons_of_mem _ hw)
      have HST := hid st0
      have HPT := hid pt0
      simp only [List.length_cons] at h1
      have hop' : opnOf t ≤ 64 := by
        have : opnOf t ≤ opnOf (⟨xk, xo, xn⟩ :: t) := by simp only [opnOf, List.countP_cons]; omega
        omega
      have HW0 := hid M0.out.waits
      clear s0 p0 st0 pt0
      cases hgv : gives op ⟨xk, xo, xn⟩ with
      | false =>
        have HE : Hid (settleOps op st out = (⟨xk, xo, xn⟩ :: t, o)) := by show _ = _; rw [← e0, settleOps, hgv]; simp
        clear e0
        by_cases h5 : xk = 5
        · subst h5
          have hgb : bindsN xo < bindsN op ∨ (bindsN xo = bindsN op ∧ op = 9) := by
            rcases Nat.lt_or_ge (bindsN xo) (bindsN op) with h | h
            · exact .inl h
            · exact .inr ((by simpa [gives] using hgv : bindsN op ≤ bindsN xo → bindsN xo = bindsN op ∧ op = 9) h)
          have HBX := hid (fun W => binds_any xo hxo W)
          clear hgv
          simp only [kindOf] at HTOP
          go_wp2_with (first
            | (have q := M2; clear q; go_at_call 45; refine (HTOP.out _ M2.out).mono ?_; rintro e w3 ⟨rfl, m3⟩; have M3 := hid m3; have c3 := fun j => cell_row m3.row j; have f3 := fun j => unfrozen_row m3.row j; have hb3 := m3.size; clear m3)
            | (have q := M1; clear q; go_at_call 45; refine (HTOP.out _ M1.out).mono ?_; rintro e w2 ⟨rfl, m2⟩; have M2 := hid m2; have c2 := fun j => cell_row m2.row j; have f2 := fun j => unfrozen_row m2.row j; have hb2 := m2.size; clear m2)
            | (have q := M0; clear q; go_at_call 45; refine (HTOP.out _ M0.out).mono ?_; rintro e w1 ⟨rfl, m1⟩; have M1 := hid m1; have c1 := fun j => cell_row m1.row j; have f1 := fun j => unfrozen_row m1.row j; have hb1 := m1.size; clear m1))
          obtain ⟨g, cap, rfl, hc, hg, t0, t1, t2, _, _, _⟩ := M3.out.top
          go_quiet (first | (go_at_call 68; exact Calls.quiet_of_same (HBX.out _)))
          have M4 := hid (M3.out.drewN nq)
          clear c1 c2 f1 f2 hb1 hb2 t0 t1 t2 c3 f3
          generalize w3.drewN nq = w4 at *
          have c4 := fun j => cell_row M4.out.row j
          have f4 := fun j => unfrozen_row M4.out.row j
          have hb4 := M4.out.size
          have d1 : (0 : Int) ≤ (bindsN xo : Int) := by omega
          rcases hgb with hgb | ⟨hgb, hop9⟩
          · have d2 : (bindsN xo : Int) < (bindsN op : Int) := by omega
            clear hgb
            go_wp2_with (first
              | (have q := M4; clear q; at_builtin; refine app_push rfl _ _ rfl ⟨5, op, 0⟩ rfl M4.out rfl rfl (by simp <;> omega) ?_; intro sx cx w9 r9 m9; have c9 := fun j => cell_row r9 j; have f9 := fun j => unfrozen_row r9 j; have hb9 := (Array.getElem?_eq_some_iff.1 r9).1; have M9 := hid m9; clear r9 m9)
              | (go_at_call 68; refine (HBO.out _).mono ?_; rintro e w' ⟨rfl, rfl⟩))
            go_ret
            rw [HE.out]
            exact ⟨rfl, _, _, M9.out⟩
          · have d2 : ¬ (bindsN xo : Int) < (bindsN op : Int) := by omega
            have d3 : (bindsN xo : Int) = (bindsN op : Int) := by omega
            have d4 : ((bindsN xo : Int) == (bindsN op : Int)) = true := by rw [beq_iff_eq]; exact d3
            have d5 : ((op : Int) == 9) = true := by rw [beq_iff_eq]; omega
            clear hgb d3 hop9
            go_wp2_with (first
              | (have q := M4; clear q; at_builtin; refine app_push rfl _ _ rfl ⟨5, op, 0⟩ rfl M4.out rfl rfl (by simp <;> omega) ?_; intro sx cx w9 r9 m9; have c9 := fun j => cell_row r9 j; have f9 := fun j => unfrozen_row r9 j; have hb9 := (Array.getElem?_eq_some_iff.1 r9).1; have M9 := hid m9; clear r9 m9)
              | (go_at_call 68; refine (HBO.out _).mono ?_; rintro e w' ⟨rfl, rfl⟩))
            go_ret
            rw [HE.out]
            exact ⟨rfl, _, _, M9.out⟩
        · have hk1 : xk ≠ 1 := fun e => by subst e; simp [gives] at hgv
          clear hgv
          have h234 : xk = 2 ∨ xk = 3 ∨ xk = 4 := by omega
          rcases h234 with rfl | rfl | rfl
          all_goals
            simp only [kindOf] at HTOP
            go_wp2_with (first
              | (have q := M2; clear q; at_builtin; refine app_push rfl _ _ rfl ⟨5, op, 0⟩ rfl M2.out rfl rfl (by simp <;> omega) ?_; intro sx cx w9 r9 m9; have c9 := fun j => cell_row r9 j; have f9 := fun j => unfrozen_row r9 j; have hb9 := (Array.getElem?_eq_some_iff.1 r9).1; have M9 := hid m9; clear r9 m9)
              | (have q := M1; clear q; go_at_call 45; refine (HTOP.out _ M1.out).mono ?_; rintro e w2 ⟨rfl, m2⟩; have M2 := hid m2; have c2 := fun j => cell_row m2.row j; have f2 := fun j => unfrozen_row m2.row j; have hb2 := m2.size; clear m2)
              | (have q := M0; clear q; go_at_call 45; refine (HTOP.out _ M0.out).mono ?_; rintro e w1 ⟨rfl, m1⟩; have M1 := hid m1; have c1 := fun j => cell_row m1.row j; have f1 := fun j => unfrozen_row m1.row j; have hb1 := m1.size; clear m1))
            go_ret
            rw [HE.out]
            exact ⟨rfl, _, _, M9.out⟩
      | true =>
        have HE : Hid (settleOps op t (o ++ [nodeOf ⟨xk, xo, xn⟩]) = settleOps op st out) := by show _ = _; rw [← e0, settleOps, if_pos hgv]
        clear e0
        have hk15 : xk = 1 ∨ xk = 5 := by
          by_cases h1 : xk = 1
          · exact .inl h1
          · simp [gives, h1] at hgv; exact .inr hgv.1
        have HSET := hid (fun (W : World) (hM : MacR w0 W B b (⟨xk, xo, xn⟩ :: t) o (opnOf (⟨xk, xo, xn⟩ :: t) : Int) ((made + 1 : Nat) : Int) sv' ov') => settle_mac hM (by omega) (by omega) h2 (by show xk = 1 ∨ xk = 2 ∨ xk = 4 ∨ xk = 5; omega))
        rcases hk15 with rfl | rfl
        · clear hgv hx
          simp only [kindOf] at HTOP
          go_wp2_with (first
            | (have q := M2; clear q; go_at_call 69; refine (HSET.out _ M2.out).mono ?_; rintro e w8 ⟨rfl, sv8, ov8, m8⟩; have M8 := hid m8; clear m8)
            | (have q := M1; clear q; go_at_call 45; refine (HTOP.out _ M1.out).mono ?_; rintro e w2 ⟨rfl, m2⟩; have M2 := hid m2; have c2 := fun j => cell_row m2.row j; have f2 := fun j => unfrozen_row m2.row j; have hb2 := m2.size; clear m2)
            | (have q := M0; clear q; go_at_call 45; refine (HTOP.out _ M0.out).mono ?_; rintro e w1 ⟨rfl, m1⟩; have M1 := hid m1; have c1 := fun j => cell_row m1.row j; have f1 := fun j => unfrozen_row m1.row j; have hb1 := m1.size; clear m1))
          refine ⟨⟨t, _, sv8, ov8, ?_, hop', M8.out, HST.out, HPT.out, HE.out⟩, ?_⟩
          · simp; omega
          · rw [M8.out.waits, HW0.out]; simp
        · have hgb : ¬ bindsN xo < bindsN op ∧ ¬ (bindsN xo = bindsN op ∧ op = 9) := by
            have := (by simpa [gives] using hgv : bindsN op ≤ bindsN xo ∧ (¬ bindsN xo = bindsN op ∨ ¬ op = 9))
            exact ⟨by omega, fun h => this.2.elim (· h.1) (· h.2)⟩
          have HBX := hid (fun W => binds_any xo hxo W)
          clear hgv hx
          simp only [kindOf] at HTOP
          go_wp2_with (first
            | (have q := M2; clear q; go_at_call 45; refine (HTOP.out _ M2.out).mono ?_; rintro e w3 ⟨rfl, m3⟩; have M3 := hid m3; have c3 := fun j => cell_row m3.row j; have f3 := fun j => unfrozen_row m3.row j; have hb3 := m3.size; clear m3)
            | (have q := M1; clear q; go_at_call 45; refine (HTOP.out _ M1.out).mono ?_; rintro e w2 ⟨rfl, m2⟩; have M2 := hid m2; have c2 := fun j => cell_row m2.row j; have f2 := fun j => unfrozen_row m2.row j; have hb2 := m2.size; clear m2)
            | (have q := M0; clear q; go_at_call 45; refine (HTOP.out _ M0.out).mono ?_; rintro e w1 ⟨rfl, m1⟩; have M1 := hid m1; have c1 := fun j => cell_row m1.row j; have f1 := fun j => unfrozen_row m1.row j; have hb1 := m1.size; clear m1))
          obtain ⟨g, cap, rfl, hc, hg, t0, t1, t2, _, _, _⟩ := M3.out.top
          go_quiet (first | (go_at_call 68; exact Calls.quiet_of_same (HBX.out _)))
          have M4 := hid (M3.out.drewN nq)
          clear c1 c2 f1 f2 hb1 hb2 t0 t1 t2 c3 f3
          generalize w3.drewN nq = w4 at *
          have c4 := fun j => cell_row M4.out.row j
          have f4 := fun j => unfrozen_row M4.out.row j
          have hb4 := M4.out.size
          obtain ⟨g1, g2⟩ := hgb
          have d2 : ¬ (bindsN xo : Int) < (bindsN op : Int) := by omega
          by_cases hpe : bindsN xo = bindsN op
          · have d4 : ((bindsN xo : Int) == (bindsN op : Int)) = true := by rw [beq_iff_eq]; omega
            have h9 : op ≠ 9 := fun h => g2 ⟨hpe, h⟩
            have d5 : ((op : Int) == 9) = false := by rw [beq_eq_false_iff_ne]; omega
            clear hpe h9 g1 g2
            go_wp2_with (first
              | (have q := M4; clear q; go_at_call 69; refine (HSET.out _ M4.out).mono ?_; rintro e w8 ⟨rfl, sv8, ov8, m8⟩; have M8 := hid m8; clear m8)
              | (go_at_call 68; refine (HBO.out _).mono ?_; rintro e w' ⟨rfl, rfl⟩))
            refine ⟨⟨t, _, sv8, ov8, ?_, hop', M8.out, HST.out, HPT.out, HE.out⟩, ?_⟩
            · simp; omega
            · rw [M8.out.waits, HW0.out]; simp
          · have d4 : ((bindsN xo : Int) == (bindsN op : Int)) = false := by rw [beq_eq_false_iff_ne]; omega
            clear hpe g1 g2
            go_wp2_with (first
              | (have q := M4; clear q; go_at_call 69; refine (HSET.out _ M4.out).mono ?_; rintro e w8 ⟨rfl, sv8, ov8, m8⟩; have M8 := hid m8; clear m8)
              | (go_at_call 68; refine (HBO.out _).mono ?_; rintro e w' ⟨rfl, rfl⟩))
            refine ⟨⟨t, _, sv8, ov8, ?_, hop', M8.out, HST.out, HPT.out, HE.out⟩, ?_⟩
            · simp; omega
            · rw [M8.out.waits, HW0.out]; simp
end
end Go.Proofs.YtdkboifpdodonaaDoor.Doc
/-
  The machine's own calls: closes, comma, prefix.
-/
namespace Go.Proofs.YtdkboifpdodonaaDoor.Doc
open Go.RowKit Go.Deep PureCnf PureForm
set_option maxRecDepth 100000

section
variable {w0 : Ref} {W : World} {B b : Nat} {st : List Wt} {out : List Nd} {k : Int} {made : Nat} {sv ov : Value}

theorem settleIn_len (st : List Wt) : ∀ out, (settleIn st out).1.length + (settleIn st out).2.length = st.length + out.length := by
  induction st with
  | nil => intro out; simp [settleIn]
  | cons w t ih =>
    intro out
    rw [settleIn]
    split
    · rfl
    · rw [ih]; simp; omega
theorem settleIn_opn (st : List Wt) : ∀ out, opnOf (settleIn st out).1 ≤ opnOf st := by
  induction st with
  | nil => intro out; simp [settleIn]
  | cons w t ih =>
    intro out
    rw [settleIn]
    split
    · exact Nat.le_refl _
    · have := ih (out ++ [nodeOf w])
      have h2 : opnOf t ≤ opnOf (w :: t) := by simp only [opnOf, List.countP_cons]; omega
      omega
theorem settleIn_sub (st : List Wt) : ∀ out, ∀ w ∈ (settleIn st out).1, w ∈ st := by
  induction st with
  | nil => intro out w hw; simp [settleIn] at hw
  | cons x t ih =>
    intro out w hw
    rw [settleIn] at hw
    split at hw
    · exact hw
    · exact List.mem_cons_of_mem _ (ih _ w hw)
theorem settleIn_top {st : List Wt} : ∀ {out : List Nd} {x : Wt} {t : List Wt} {o : List Nd}, settleIn st out = (x :: t, o) → x.kind = 3 ∨ x.kind = 4 := by
  induction st with
  | nil => intro out x t o h; simp [settleIn] at h
  | cons w s ih =>
    intro out x t o h
    rw [settleIn] at h
    split at h
    · next hk => simp at h; rw [← h.1.1]; exact hk
    · exact ih h

theorem opn_pos {k : Nat} (o n : Nat) (t : List Wt) (h : k ≠ 5) : opnOf (⟨k, o, n⟩ :: t) = opnOf t + 1 := by simp [opnOf, h]
/-- what closes answers. -/
def Closed (w0 : Ref) (B b : Nat) (p : List Wt × List Nd) (made : Nat) (e : Ending) (W' : World) : Prop :=
  match p with
  | (x :: t, o) => if x.kind = 3 then e = .returned (.int .i64 0) ∧ ∃ sv' ov', MacR w0 W' B b t o (opnOf t : Int) made sv' ov'
    else if x.n = 2 then e = .returned (.int .i64 0) ∧ ∃ sv' ov', MacR w0 W' B b t (o ++ [nodeOf x]) (opnOf t : Int) made sv' ov' else e = .returned (.int .i64 131) ∧ MacE w0 W' B b
  | ([], _) => e = .returned (.int .i64 131) ∧ MacE w0 W' B b

set_option maxHeartbeats 1000000 in
set_option maxRecDepth 100000 in
theorem closes_any (h : MacR w0 W B b st out (opnOf st : Int) made sv ov) (hs : okSt st) (hl : st.length + out.length ≤ 1048576) (hk : opnOf st ≤ 64) :
    Calls Tryd.prog 42 #[.pointer (some ⟨b, 0, none⟩)] W fun e W' => Closed w0 B b (settleIn st out) made e W' := by
  have HI := hid (inner_any h hs hl hk)
  have h1 := settleIn_len st out
  have h2 := settleIn_opn st out
  have h3 := fun x t o (e : settleIn st out = (x :: t, o)) => settleIn_top e
  clear h
  generalize settleIn st out = p at *
  obtain ⟨s, o⟩ := p
  dsimp only at h1 h2 HI
  have h4 : s.length + o.length ≤ 1048576 := by omega
  have h5 : opnOf s ≤ 64 := by omega
  clear h1 h2
  cases s with
  | nil =>
    go_enter Tryd.func42, Tryd.ntmps42
    go_wp2_with (first
      | (have q := M1; clear q; go_at_call 45; refine (top_any M1.out (by simp)).mono ?_; rintro e w2 ⟨rfl, m2⟩; simp only [kindOf]; have M2 := hid m2; have c2 := fun j => cell_row m2.row j; have hb2 := m2.size; clear m2)
      | (go_at_call 44; refine HI.out.mono ?_; rintro e w1 ⟨rfl, sv1, ov1, m1⟩; have M1 := hid m1; clear m1))
    go_quiet (first | (go_at_call 45; exact Calls.quiet_of (top_nil (M2.out.drewN _))))
    go_wp2
    go_ret
    exact ⟨rfl, (M2.out.drewN _).asE⟩
  | cons x t =>
    obtain ⟨xk, xo, xn⟩ := x
    have hx : xk = 3 ∨ xk = 4 := h3 _ _ _ rfl
    have hop : (opnOf (⟨xk, xo, xn⟩ :: t) : Int) - 1 = (opnOf t : Int) := by
      have := opn_pos xo xn t (show xk ≠ 5 by omega)
      omega
    have HOP := hid hop
    simp only [List.length_cons] at h4
    clear h3 hop
    have hp0 : (0 : Int) ≤ (opnOf (⟨xk, xo, xn⟩ :: t) : Int) := by omega
    have hp1 : (opnOf (⟨xk, xo, xn⟩ :: t) : Int) ≤ 64 := by omega
    rcases hx with rfl | rfl
    · go_enter Tryd.func42, Tryd.ntmps42
      go_wp2_with (first
        | (have q := M1; clear q; go_at_call 45; refine (top_any M1.out (by simp; omega)).mono ?_; rintro e w2 ⟨rfl, m2⟩; simp only [kindOf]; have M2 := hid m2; obtain ⟨g, cap, rfl, hc, hg, t0, t1, t2, _, mp, _⟩ := m2.top; have c2 := fun j => cell_row m2.row j; have f2 := fun j => unfrozen_row m2.row j; have hb2 := m2.size; have MP := hid mp; clear m2 mp)
        | (go_at_call 44; refine HI.out.mono ?_; rintro e w1 ⟨rfl, sv1, ov1, m1⟩; have M1 := hid m1; clear m1))
      go_region
      have M3 := hid MP.out.drew
      clear c2 f2 hb2 t0 t1 t2 MP M1
      generalize (w2.setCell ⟨b, 0, none⟩ (.slice (some ⟨g, 0, none⟩) t.length cap)).drew = w3 at *
      have c3 := fun j => cell_row M3.out.row j
      have f3 := fun j => unfrozen_row M3.out.row j
      have hb3 := M3.out.size
      go_wp2
      go_ret
      have m4 := M3.out.setK ((opnOf (⟨3, xo, xn⟩ :: t) : Int) - 1)
      rw [HOP.out] at m4 ⊢
      exact ⟨rfl, _, _, m4⟩
    · by_cases hn : xn = 2
      · subst hn
        go_enter Tryd.func42, Tryd.ntmps42
        go_wp2_with (first
          | (have q := M1; clear q; go_at_call 45; refine (top_any M1.out (by simp; omega)).mono ?_; rintro e w2 ⟨rfl, m2⟩; simp only [kindOf]; have M2 := hid m2; obtain ⟨g, cap, rfl, hc, hg, t0, t1, t2, _, _, _⟩ := m2.top; have c2 := fun j => cell_row m2.row j; have hb2 := m2.size; clear m2)
          | (go_at_call 44; refine HI.out.mono ?_; rintro e w1 ⟨rfl, sv1, ov1, m1⟩; have M1 := hid m1; clear m1))
        go_quiet (first | (go_at_call 45; exact Calls.quiet_of (top_cons (M2.out.drewN _) (by omega))))
        have M3 := hid (M2.out.drewN nq)
        clear c2 hb2 t0 t1 t2 M2 M1
        generalize w2.drewN nq = w3 at *
        have HSET := hid (settle_mac M3.out (by omega) (by omega) h5 (.inr (.inr (.inl rfl))))
        go_wp2_with (go_at_call 69; refine HSET.out.mono ?_; rintro e w4 ⟨rfl, sv4, ov4, m4⟩; have M4 := hid m4; clear m4)
        go_ret
        exact ⟨rfl, _, _, M4.out⟩
      · have hnb : ((xn : Int) == 2) = false := by rw [beq_eq_false_iff_ne]; omega
        have HN := hid hn
        clear hn
        go_enter Tryd.func42, Tryd.ntmps42
        go_wp2_with (first
          | (have q := M1; clear q; go_at_call 45; refine (top_any M1.out (by simp; omega)).mono ?_; rintro e w2 ⟨rfl, m2⟩; simp only [kindOf]; have M2 := hid m2; obtain ⟨g, cap, rfl, hc, hg, t0, t1, t2, _, _, _⟩ := m2.top; have c2 := fun j => cell_row m2.row j; have hb2 := m2.size; clear m2)
          | (go_at_call 44; refine HI.out.mono ?_; rintro e w1 ⟨rfl, sv1, ov1, m1⟩; have M1 := hid m1; clear m1))
        go_quiet (first | (go_at_call 45; exact Calls.quiet_of (top_cons (M2.out.drewN _) (by omega))))
        go_wp2
        go_ret
        show Closed _ _ _ _ _ _ _
        unfold Closed
        simp only [HN.out, if_false, show ¬ (4 : Nat) = 3 by decide]
        exact ⟨rfl, (M2.out.drewN _).asE⟩

/-- what comma answers. -/
def Commaed (w0 : Ref) (B b : Nat) (p : List Wt × List Nd) (made : Nat) (e : Ending) (W' : World) : Prop :=
  match p with
  | (x :: t, o) => if x.kind = 4 ∧ x.n < 2 then e = .returned (.int .i64 0) ∧ ∃ sv' ov', MacR w0 W' B b (⟨x.kind, x.op, x.n + 1⟩ :: t) o (opnOf (x :: t) : Int) made sv' ov' else e = .returned (.int .i64 131) ∧ MacE w0 W' B b
  | ([], _) => e = .returned (.int .i64 131) ∧ MacE w0 W' B b

set_option maxHeartbeats 1000000 in
set_option maxRecDepth 100000 in
theorem comma_any (h : MacR w0 W B b st out (opnOf st : Int) made sv ov) (hs : okSt st) (hl : st.length + out.length ≤ 1048576) (hk : opnOf st ≤ 64) :
    Calls Tryd.prog 43 #[.pointer (some ⟨b, 0, none⟩)] W fun e W' => Commaed w0 B b (settleIn st out) made e W' := by
  have HI := hid (inner_any h hs hl hk)
  have h1 := settleIn_len st out
  have h2 := settleIn_opn st out
  have h3 := fun x t o (e : settleIn st out = (x :: t, o)) => settleIn_top e
  clear h
  generalize settleIn st out = p at *
  obtain ⟨s, o⟩ := p
  dsimp only at h1 h2 HI
  have h4 : s.length + o.length ≤ 1048576 := by omega
  have h5 : opnOf s ≤ 64 := by omega
  clear h1 h2
  cases s with
  | nil =>
    go_enter Tryd.func43, Tryd.ntmps43
    go_wp2_with (first
      | (go_at_call 44; refine HI.out.mono ?_; rintro e w1 ⟨rfl, sv1, ov1, m1⟩; have M2 := hid m1; have c2 := fun j => cell_row m1.row j; have hb2 := m1.size; clear m1))
    go_quiet (first | (go_at_call 45; exact Calls.quiet_of (top_nil (M2.out.drewN _))))
    go_wp2
    go_ret
    exact ⟨rfl, (M2.out.drewN _).asE⟩
  | cons x t =>
    obtain ⟨xk, xo, xn⟩ := x
    have hx : xk = 3 ∨ xk = 4 := h3 _ _ _ rfl
    simp only [List.length_cons] at h4
    clear h3
    rcases hx with rfl | rfl
    · go_enter Tryd.func43, Tryd.ntmps43
      go_wp2_with (first
        | (go_at_call 44; refine HI.out.mono ?_; rintro e w1 ⟨rfl, sv1, ov1, m1⟩; have M2 := hid m1; have c2 := fun j => cell_row m1.row j; have hb2 := m1.size; clear m1))
      go_quiet (first | (go_at_call 45; exact Calls.quiet_of (top_cons (M2.out.drewN _) (by omega))))
      go_wp2
      go_ret
      exact ⟨rfl, (M2.out.drewN _).asE⟩
    · by_cases hn : (xn : Int) < 2
      · have hn2 : ¬ 2 ≤ (xn : Int) := by omega
        go_enter Tryd.func43, Tryd.ntmps43
        go_wp2_with (first
          | (go_at_call 44; refine HI.out.mono ?_; rintro e w1 ⟨rfl, sv1, ov1, m1⟩; have M2 := hid m1; obtain ⟨g, cap, rfl, hc, hg, t0, t1, t2, _, _, _⟩ := m1.top; have c2 := fun j => cell_row m1.row j; have hb2 := m1.size; clear m1))
        go_quiet (first | (go_at_call 45; exact Calls.quiet_of (top_cons (M2.out.drewN _) (by omega))))
        have M3 := hid (M2.out.drewN nq)
        clear c2 hb2 t0 t1 t2 M2
        generalize w1.drewN nq = w3 at *
        obtain ⟨g', cap', e, hc', hg', t0, t1, t2, tf, _, mb⟩ := M3.out.top
        simp only [Value.slice.injEq, Option.some.injEq, Addr.mk.injEq, and_true, true_and] at e
        obtain ⟨rfl, rfl⟩ := e
        have MB := hid (mb (xn + 1))
        have c3 := fun j => cell_row M3.out.row j
        have hb3 := M3.out.size
        clear mb
        go_wp2
        go_region
        go_wp2
        go_ret
        have HN := hid (show xn < 2 by omega)
        show Commaed _ _ _ _ _ _ _
        unfold Commaed
        simp only [HN.out, and_self, if_true]
        exact ⟨rfl, _, _, MB.out.drew⟩
      · have hn2 : 2 ≤ (xn : Int) := by omega
        have HN := hid (show ¬ xn < 2 by omega)
        go_enter Tryd.func43, Tryd.ntmps43
        go_wp2_with (first
          | (go_at_call 44; refine HI.out.mono ?_; rintro e w1 ⟨rfl, sv1, ov1, m1⟩; have M2 := hid m1; obtain ⟨g, cap, rfl, hc, hg, t0, t1, t2, _, _, _⟩ := m1.top; have c2 := fun j => cell_row m1.row j; have hb2 := m1.size; clear m1))
        go_quiet (first | (go_at_call 45; exact Calls.quiet_of (top_cons (M2.out.drewN _) (by omega))))
        go_wp2
        go_ret
        show Commaed _ _ _ _ _ _ _
        unfold Commaed
        simp only [HN.out, and_false, if_false]
        exact ⟨rfl, (M2.out.drewN _).asE⟩


set_option maxHeartbeats 1000000 in
set_option maxRecDepth 100000 in
theorem prefix_bad (h : MacR w0 W B b st out k made sv ov) (tk : PureForm.Tok) (hk : ¬ (tk.kind = 8 ∨ tk.kind = 6 ∨ tk.kind = 4)) :
    Calls Tryd.prog 39 #[.pointer (some ⟨b, 0, none⟩), tokV tk] W fun e W' => e = .returned (.int .i64 131) ∧ MacE w0 W' B b := by
  have H := hid h
  clear h
  have b1 : ((tk.kind : Int) == 8) = false := by rw [beq_eq_false_iff_ne]; omega
  have b2 : ((tk.kind : Int) == 6) = false := by rw [beq_eq_false_iff_ne]; omega
  have b3 : ((tk.kind : Int) == 4) = false := by rw [beq_eq_false_iff_ne]; omega
  clear hk
  go_enter Tryd.func39, Tryd.ntmps39
  go_wp2
  go_ret
  exact ⟨rfl, ((H.out.alloc _).alloc _).asE⟩

set_option maxHeartbeats 1000000 in
set_option maxRecDepth 100000 in
theorem prefix_deep (h : MacR w0 W B b st out k made sv ov) (tk : PureForm.Tok) (hk : tk.kind = 8 ∨ tk.kind = 6 ∨ tk.kind = 4) (hd : 64 ≤ k) :
    Calls Tryd.prog 39 #[.pointer (some ⟨b, 0, none⟩), tokV tk] W fun e W' => e = .returned (.int .i64 132) ∧ MacE w0 W' B b := by
  have HO := hid (fun (W' : World) (hb : Below W.heap.size W W') (x : Wt) => opens_no (h.on hb) x hd)
  clear h hd
  obtain ⟨tkk, tkn, tka, tke⟩ := tk
  simp only at hk
  rcases hk with rfl | rfl | rfl
  · go_enter Tryd.func39, Tryd.ntmps39
    go_wp2_with (fail)
    refine (HO.out _ (two_allocs _ _ _) ⟨3, 0, 0⟩).mono ?_
    rintro e w1 ⟨rfl, m1⟩
    have M1 := hid m1
    clear m1
    go_wp2
    go_ret
    exact ⟨rfl, M1.out⟩
  · go_enter Tryd.func39, Tryd.ntmps39
    go_wp2_with (fail)
    refine (HO.out _ (two_allocs _ _ _) ⟨4, 0, 0⟩).mono ?_
    rintro e w1 ⟨rfl, m1⟩
    have M1 := hid m1
    clear m1
    go_wp2
    go_ret
    exact ⟨rfl, M1.out⟩
  · go_enter Tryd.func39, Tryd.ntmps39
    go_wp2_with (fail)
    refine (HO.out _ (two_allocs _ _ _) ⟨1, 0, 0⟩).mono ?_
    rintro e w1 ⟨rfl, m1⟩
    have M1 := hid m1
    clear m1
    go_wp2
    go_ret
    exact ⟨rfl, M1.out⟩

set_option maxHeartbeats 1000000 in
set_option maxRecDepth 100000 in
theorem prefix_many (h : MacR w0 W B b st out k made sv ov) (tk : PureForm.Tok) (hk : tk.kind = 6 ∨ tk.kind = 4) (hl : st.length ≤ 1048576) (hk0 : 0 ≤ k) (hd : ¬ 64 ≤ k) (hm : 65536 ≤ made) :
    Calls Tryd.prog 39 #[.pointer (some ⟨b, 0, none⟩), tokV tk] W fun e W' => e = .returned (.int .i64 8) ∧ MacE w0 W' B b := by
  have HO := hid (fun (W' : World) (hb : Below W.heap.size W W') (x : Wt) => opens_any (h.on hb) x hl hk0 hd)
  clear h hd hk0
  obtain ⟨tkk, tkn, tka, tke⟩ := tk
  simp only at hk
  rcases hk with rfl | rfl
  · go_enter Tryd.func39, Tryd.ntmps39
    go_wp2_with (fail)
    refine (HO.out _ (two_allocs _ _ _) ⟨4, 0, 0⟩).mono ?_
    rintro e w1 ⟨rfl, sv1, m1⟩
    have HM := hid (makes_no m1 hm)
    clear m1
    go_wp2_with (go_at_call 38; refine HM.out.mono ?_; rintro e w2 ⟨rfl, m2⟩; have M2 := hid m2; clear m2)
    go_ret
    exact ⟨rfl, M2.out⟩
  · go_enter Tryd.func39, Tryd.ntmps39
    go_wp2_with (fail)
    refine (HO.out _ (two_allocs _ _ _) ⟨1, 0, 0⟩).mono ?_
    rintro e w1 ⟨rfl, sv1, m1⟩
    have HM := hid (makes_no m1 hm)
    clear m1
    go_wp2_with (go_at_call 38; refine HM.out.mono ?_; rintro e w2 ⟨rfl, m2⟩; have M2 := hid m2; clear m2)
    go_ret
    exact ⟨rfl, M2.out⟩

set_option maxHeartbeats 1000000 in
set_option maxRecDepth 100000 in
theorem prefix_open (h : MacR w0 W B b st out k made sv ov) (tk : PureForm.Tok) (hk : tk.kind = 8) (hl : st.length ≤ 1048576) (hk0 : 0 ≤ k) (hd : ¬ 64 ≤ k) :
    Calls Tryd.prog 39 #[.pointer (some ⟨b, 0, none⟩), tokV tk] W fun e W' => e = .returned (.int .i64 0) ∧ ∃ sv', MacR w0 W' B b (⟨3, 0, 0⟩ :: st) out (k + 1) made sv' ov := by
  have HO := hid (fun (W' : World) (hb : Below W.heap.size W W') (x : Wt) => opens_any (h.on hb) x hl hk0 hd)
  clear h hd hk0
  obtain ⟨tkk, tkn, tka, tke⟩ := tk
  simp only at hk
  subst hk
  go_enter Tryd.func39, Tryd.ntmps39
  go_wp2_with (fail)
  refine (HO.out _ (two_allocs _ _ _) ⟨3, 0, 0⟩).mono ?_
  rintro e w1 ⟨rfl, sv1, m1⟩
  have M1 := hid m1
  clear m1
  go_wp2
  go_ret
  exact ⟨rfl, _, M1.out⟩

set_option maxHeartbeats 1000000 in
set_option maxRecDepth 100000 in
theorem prefix_make (h : MacR w0 W B b st out k made sv ov) (tk : PureForm.Tok) (hk : tk.kind = 6 ∨ tk.kind = 4) (hl : st.length ≤ 1048576) (hk0 : 0 ≤ k) (hd : ¬ 64 ≤ k) (hm : made < 65536) :
    Calls Tryd.prog 39 #[.pointer (some ⟨b, 0, none⟩), tokV tk] W fun e W' => e = .returned (.int .i64 0) ∧ ∃ sv', MacR w0 W' B b (⟨if tk.kind = 6 then 4 else 1, 0, 0⟩ :: st) out (k + 1) ((made + 1 : Nat) : Int) sv' ov := by
  have HO := hid (fun (W' : World) (hb : Below W.heap.size W W') (x : Wt) => opens_any (h.on hb) x hl hk0 hd)
  clear h hd hk0
  obtain ⟨tkk, tkn, tka, tke⟩ := tk
  simp only at hk
  rcases hk with rfl | rfl
  · go_enter Tryd.func39, Tryd.ntmps39
    go_wp2_with (fail)
    refine (HO.out _ (two_allocs _ _ _) ⟨4, 0, 0⟩).mono ?_
    rintro e w1 ⟨rfl, sv1, m1⟩
    have HM := hid (makes_any m1 hm)
    clear m1
    go_wp2_with (go_at_call 38; refine HM.out.mono ?_; rintro e w2 ⟨rfl, m2⟩; have M2 := hid m2; clear m2)
    go_ret
    exact ⟨rfl, _, M2.out⟩
  · go_enter Tryd.func39, Tryd.ntmps39
    go_wp2_with (fail)
    refine (HO.out _ (two_allocs _ _ _) ⟨1, 0, 0⟩).mono ?_
    rintro e w1 ⟨rfl, sv1, m1⟩
    have HM := hid (makes_any m1 hm)
    clear m1
    go_wp2_with (go_at_call 38; refine HM.out.mono ?_; rintro e w2 ⟨rfl, m2⟩; have M2 := hid m2; clear m2)
    go_ret
    exact ⟨rfl, _, M2.out⟩
end
end Go.Proofs.YtdkboifpdodonaaDoor.Doc
/-
  The document's own spot.
-/
namespace Go.Proofs.YtdkboifpdodonaaDoor.Doc
open Go.RowKit Go.Deep PureCnf PureForm
set_option maxRecDepth 100000

/-- the place behind these bytes: line and column. -/
def spotN (l : List UInt8) : Nat × Nat := l.foldl (fun p c => if c.toNat = 10 then (p.1 + 1, 1) else (p.1, p.2 + 1)) (1, 1)
theorem spotN_snoc (l : List UInt8) (c : UInt8) : spotN (l ++ [c]) = if c.toNat = 10 then ((spotN l).1 + 1, 1) else ((spotN l).1, (spotN l).2 + 1) := by simp [spotN, List.foldl_append]
theorem spotN_le (l : List UInt8) : (spotN l).1 ≤ l.length + 1 ∧ (spotN l).2 ≤ l.length + 1 := by
  have e : ∀ m : List UInt8, (spotN m.reverse).1 ≤ m.length + 1 ∧ (spotN m.reverse).2 ≤ m.length + 1 := by
    intro m
    induction m with
    | nil => simp [spotN]
    | cons c t ih =>
      rw [List.reverse_cons, spotN_snoc]
      split <;> simp <;> omega
  have := e l.reverse
  simpa using this

/-- one box of two numbers, and the place of the result. -/
structure PosBox (w W : World) (line col : Nat) : Prop where
  r0 : W.heap[w.heap.size]? = some (.cells #[.int .i64 0, .int .i64 0] 31 (0, 0))
  r1 : W.heap[w.heap.size + 1]? = some (.cells #[.int .i64 line, .int .i64 col] 31 (0, 0))
  below : Below w.heap.size w W

theorem PosBox.store {w W : World} {line col : Nat} (h : PosBox w W line col) (a b : Nat) : PosBox w ((W.setCell ⟨w.heap.size + 1, 0, none⟩ (.int .i64 a)).setCell ⟨w.heap.size + 1, 1, none⟩ (.int .i64 b)) a b := by
  refine ⟨?_, ?_, (h.below.setCell (by simp) _).setCell (by simp) _⟩
  · rw [Below.heap_setCell _ _ _ _ (by simp), Below.heap_setCell _ _ _ _ (by simp)]; exact h.r0
  · have hb := (Array.getElem?_eq_some_iff.1 h.r1).1
    simp [World.setCell, Array.getElem?_modify, h.r1]
theorem PosBox.store1 {w W : World} {line col : Nat} (h : PosBox w W line col) (b : Nat) : PosBox w (W.setCell ⟨w.heap.size + 1, 1, none⟩ (.int .i64 b)) line b := by
  refine ⟨?_, ?_, h.below.setCell (by simp) _⟩
  · rw [Below.heap_setCell _ _ _ _ (by simp)]; exact h.r0
  · have hb := (Array.getElem?_eq_some_iff.1 h.r1).1
    simp [World.setCell, Array.getElem?_modify, h.r1]

set_option maxHeartbeats 1000000 in
theorem spot_any (s : ByteArray) (i : Nat) (w : World) (hs : s.size ≤ 1099511627776) (hi : i ≤ s.size) :
    Calls Tryd.prog 46 #[.string s, .int .i64 (i : Int)] w fun e w' => e = .returned (.agg #[.int .i64 ((spotN (s.data.toList.take i)).1 : Int), .int .i64 ((spotN (s.data.toList.take i)).2 : Int)]) ∧ Below w.heap.size w w' := by
  go_enter Tryd.func46, Tryd.ntmps46
  go_wp2
  go_loopw [6] (fun q W => ∃ k : Nat, k ≤ i ∧ q = .int .i64 k ∧ Hid (PosBox w W (spotN (s.data.toList.take k)).1 (spotN (s.data.toList.take k)).2)) (fun q _ => i - (intOf q).toNat)
  case atStart =>
    refine ⟨0, Nat.zero_le _, rfl, ?_⟩
    show PosBox _ _ _ _
    refine ⟨?_, ?_, ((Below.refl _ _).alloc (Nat.le_refl _) _).alloc (by simp) _⟩
    · exact (Below.heap_alloc _ _ _ (by simp)).trans (heap_alloc_new w _)
    · have := heap_alloc_new (w.alloc (Obj.cells #[.int .i64 0, .int .i64 0] 31 (0, 0))) (Obj.cells #[.int .i64 1, .int .i64 1] 31 (0, 0))
      simpa [spotN] using this
  case round =>
    obtain ⟨k, hk, rfl, HB⟩ := hrel
    have c0 := fun j => cell_row HB.out.r1 j
    have f0 := fun j => unfrozen_row HB.out.r1 j
    have hle := spotN_le (s.data.toList.take k)
    have hl : (s.data.toList.take k).length ≤ k := List.length_take_le _ _
    by_cases hlt : k < i
    · have hks : k < s.size := by omega
      have HSN : Hid (spotN (s.data.toList.take (k + 1)) = if s[k].toNat = 10 then ((spotN (s.data.toList.take k)).1 + 1, 1) else ((spotN (s.data.toList.take k)).1, (spotN (s.data.toList.take k)).2 + 1)) := by
        show _ = _
        rw [take_snoc _ k (by simpa using hks), spotN_snoc, list_at s k hks]
      obtain ⟨line, hline⟩ : ∃ x, x = (spotN (s.data.toList.take k)).1 := ⟨_, rfl⟩
      obtain ⟨col, hcol⟩ : ∃ x, x = (spotN (s.data.toList.take k)).2 := ⟨_, rfl⟩
      rw [← hline, ← hcol] at HB HSN c0 hle
      clear hline hcol
      obtain ⟨l1, l2⟩ := hle
      by_cases h10 : (s[k].toNat : Int) = 10
      · have e : s[k].toNat = 10 := by omega
        have HR : Hid (spotN (s.data.toList.take (k + 1)) = (line + 1, 1)) := by show _ = _; rw [HSN.out, if_pos e]
        clear e HSN
        go_wp2
        refine ⟨⟨k + 1, hlt, by go_num, ?_⟩, by simp [intOf]; omega⟩
        show PosBox _ _ _ _
        rw [HR.out]
        exact HB.out.store (line + 1) 1
      · have h10b : ((s[k].toNat : Int) == 10) = false := by rw [beq_eq_false_iff_ne]; omega
        have HR : Hid (spotN (s.data.toList.take (k + 1)) = (line, col + 1)) := by show _ = _; rw [HSN.out, if_neg (by omega)]
        clear HSN h10
        go_wp2
        refine ⟨⟨k + 1, hlt, by go_num, ?_⟩, by simp [intOf]; omega⟩
        show PosBox _ _ _ _
        rw [HR.out]
        exact HB.out.store1 (col + 1)
    · have hkk : k = i := by omega
      subst hkk
      have c1 := fun j => cell_row HB.out.r0 j
      have f1 := fun j => unfrozen_row HB.out.r0 j
      go_wp2
      exact bodyPost_ret (v := .agg #[.int .i64 ((spotN (s.data.toList.take k)).1 : Int), .int .i64 ((spotN (s.data.toList.take k)).2 : Int)]) (by simp [results, Tryd.results46, go_sem, c1]) rfl ⟨rfl, (HB.out.below.setCell (by simp) _).setCell (by simp) _⟩


end Go.Proofs.YtdkboifpdodonaaDoor.Doc
/-
  One token keeps the state of the loop in its bounds.
-/
namespace Go.Proofs.YtdkboifpdodonaaDoor.Doc
open Go.RowKit Go.Deep PureCnf PureForm
set_option maxRecDepth 100000

/-- the state of the loop. -/
structure PSok (s : PS) : Prop where
  want : s.want ≤ 4
  quant : s.quant ≤ 5
  made : s.made ≤ 65536
  opn : opnOf s.st ≤ 64
  kinds : okSt s.st
  ops : ∀ w ∈ s.st, w.op ≤ 100

theorem settleOps_len (op : Nat) (st : List Wt) : ∀ out, (settleOps op st out).1.length + (settleOps op st out).2.length = st.length + out.length := by
  induction st with
  | nil => intro out; simp [settleOps]
  | cons w t ih =>
    intro out
    rw [settleOps]
    split
    · rw [ih]; simp; omega
    · rfl
theorem settleOps_opn (op : Nat) (st : List Wt) : ∀ out, opnOf (settleOps op st out).1 ≤ opnOf st := by
  induction st with
  | nil => intro out; simp [settleOps]
  | cons w t ih =>
    intro out
    rw [settleOps]
    split
    · have := ih (out ++ [nodeOf w])
      have h2 : opnOf t ≤ opnOf (w :: t) := by simp only [opnOf, List.countP_cons]; omega
      omega
    · exact Nat.le_refl _
theorem settleOps_sub (op : Nat) (st : List Wt) : ∀ out, ∀ w ∈ (settleOps op st out).1, w ∈ st := by
  induction st with
  | nil => intro out w hw; simp [settleOps] at hw
  | cons x t ih =>
    intro out w hw
    rw [settleOps] at hw
    split at hw
    · exact List.mem_cons_of_mem _ (ih _ w hw)
    · exact hw

theorem stepP_end {p p' : PS} {t : PureForm.Tok} (h : t.kind = 0) : stepP p t ≠ .ok (.inl p') := by
  intro e
  unfold stepP at e
  rw [if_neg (by omega)] at e
  split at e
  · rw [if_neg (by omega), if_neg (by omega), if_neg (by omega), if_neg (by omega), if_neg (by omega)] at e
    cases e
  · split at e
    · rw [if_neg (by omega)] at e; cases e
    · split at e
      · rw [if_neg (by omega)] at e; cases e
      · split at e
        · rw [if_neg (by omega), if_neg (by omega)] at e; cases e
        · rw [if_neg (by omega), if_neg (by omega), if_neg (by omega)] at e
          unfold endsP at e
          split at e <;> simp at e

/-- which states may follow. -/
def Next (p : PS) (t : PureForm.Tok) (p' : PS) : Prop := ∀ C : Prop, ((p' = { p with out := p.out ++ [((if t.kind = 3 then 2 else 1 : Int), (t.n : Int))], made := p.made + 1, want := 1 }) → (p.made < 65536) → C) → ((p' = { p with quant := t.n, want := 3 }) → (t.kind = 5) → C) → (∀ (w : Wt), ∀ (d wn : Nat), (p' = { p with st := w :: p.st, made := p.made + d, want := wn }) → (¬ 64 ≤ opnOf p.st) → (d = 0 ∨ (d = 1 ∧ p.made < 65536)) → (1 ≤ w.kind ∧ w.kind ≤ 4) → (wn ≤ 4) → (w.op ≤ 5) → C) → (∀ (wn : Nat), (p' = { p with want := wn }) → (wn ≤ 4) → C) → ((p' = { p with st := ⟨5, t.n, 0⟩ :: (settleOps t.n p.st p.out).1, out := (settleOps t.n p.st p.out).2, made := p.made + 1, want := 0 }) → (p.made < 65536) → (t.kind = 7) → C) → (∀ (x : Wt), ∀ (s : List Wt), ∀ (o : List Nd), (settleIn p.st p.out = (x :: s, o)) → ∀ (o' : List Nd), (p' = { p with st := s, out := o' }) → (o'.length ≤ o.length + 1) → C) → (∀ (x : Wt), ∀ (s : List Wt), ∀ (o : List Nd), (settleIn p.st p.out = (x :: s, o)) → (p' = { p with st := { x with n := x.n + 1 } :: s, out := o, want := 0 }) → C) → C
theorem Next.node {p : PS} {t : PureForm.Tok} {p' : PS} (e : p' = { p with out := p.out ++ [((if t.kind = 3 then 2 else 1 : Int), (t.n : Int))], made := p.made + 1, want := 1 }) (h : p.made < 65536) : Next p t p' := fun _ k _ _ _ _ _ _ => k e h
theorem Next.quant {p : PS} {t : PureForm.Tok} {p' : PS} (e : p' = { p with quant := t.n, want := 3 }) (h : t.kind = 5) : Next p t p' := fun _ _ k _ _ _ _ _ => k e h
theorem Next.opens {p : PS} {t : PureForm.Tok} {p' : PS} (w : Wt) (d wn : Nat) (e : p' = { p with st := w :: p.st, made := p.made + d, want := wn }) (h1 : ¬ 64 ≤ opnOf p.st) (h2 : d = 0 ∨ (d = 1 ∧ p.made < 65536)) (h3 : 1 ≤ w.kind ∧ w.kind ≤ 4) (h4 : wn ≤ 4) (h5 : w.op ≤ 5) : Next p t p' := fun _ _ _ k _ _ _ _ => k w d wn e h1 h2 h3 h4 h5
theorem Next.want {p : PS} {t : PureForm.Tok} {p' : PS} (wn : Nat) (e : p' = { p with want := wn }) (h : wn ≤ 4) : Next p t p' := fun _ _ _ _ k _ _ _ => k wn e h
theorem Next.oper {p : PS} {t : PureForm.Tok} {p' : PS} (e : p' = { p with st := ⟨5, t.n, 0⟩ :: (settleOps t.n p.st p.out).1, out := (settleOps t.n p.st p.out).2, made := p.made + 1, want := 0 }) (h : p.made < 65536) (h7 : t.kind = 7) : Next p t p' := fun _ _ _ _ _ k _ _ => k e h h7
theorem Next.close {p : PS} {t : PureForm.Tok} {p' : PS} (x : Wt) (s : List Wt) (o : List Nd) (h : settleIn p.st p.out = (x :: s, o)) (o' : List Nd) (e : p' = { p with st := s, out := o' }) (h2 : o'.length ≤ o.length + 1) : Next p t p' := fun _ _ _ _ _ _ k _ => k x s o h o' e h2
theorem Next.comma {p : PS} {t : PureForm.Tok} {p' : PS} (x : Wt) (s : List Wt) (o : List Nd) (h : settleIn p.st p.out = (x :: s, o)) (e : p' = { p with st := { x with n := x.n + 1 } :: s, out := o, want := 0 }) : Next p t p' := fun _ _ _ _ _ _ _ k => k x s o h e
theorem Next.cas {p : PS} {t : PureForm.Tok} {p' : PS} {motive : Next p t p' → Prop} (node : ∀ (e : p' = { p with out := p.out ++ [((if t.kind = 3 then 2 else 1 : Int), (t.n : Int))], made := p.made + 1, want := 1 }) (h : p.made < 65536), motive (Next.node e h)) (quant : ∀ (e : p' = { p with quant := t.n, want := 3 }) (h : t.kind = 5), motive (Next.quant e h)) (opens : ∀ (w : Wt) (d wn : Nat) (e : p' = { p with st := w :: p.st, made := p.made + d, want := wn }) (h1 : ¬ 64 ≤ opnOf p.st) (h2 : d = 0 ∨ (d = 1 ∧ p.made < 65536)) (h3 : 1 ≤ w.kind ∧ w.kind ≤ 4) (h4 : wn ≤ 4) (h5 : w.op ≤ 5), motive (Next.opens w d wn e h1 h2 h3 h4 h5)) (want : ∀ (wn : Nat) (e : p' = { p with want := wn }) (h : wn ≤ 4), motive (Next.want wn e h)) (oper : ∀ (e : p' = { p with st := ⟨5, t.n, 0⟩ :: (settleOps t.n p.st p.out).1, out := (settleOps t.n p.st p.out).2, made := p.made + 1, want := 0 }) (h : p.made < 65536) (h7 : t.kind = 7), motive (Next.oper e h h7)) (close : ∀ (x : Wt) (s : List Wt) (o : List Nd) (h : settleIn p.st p.out = (x :: s, o)) (o' : List Nd) (e : p' = { p with st := s, out := o' }) (h2 : o'.length ≤ o.length + 1), motive (Next.close x s o h o' e h2)) (comma : ∀ (x : Wt) (s : List Wt) (o : List Nd) (h : settleIn p.st p.out = (x :: s, o)) (e : p' = { p with st := { x with n := x.n + 1 } :: s, out := o, want := 0 }), motive (Next.comma x s o h e)) (x : Next p t p') : motive x :=
  x (motive x) (fun e h => node e h) (fun e h => quant e h) (fun w d wn e h1 h2 h3 h4 h5 => opens w d wn e h1 h2 h3 h4 h5) (fun wn e h => want wn e h) (fun e h h7 => oper e h h7) (fun x s o h o' e h2 => close x s o h o' e h2) (fun x s o h e => comma x s o h e)

theorem opensP_next {p p' : PS} {t : PureForm.Tok} {w : Wt} {d wn : Nat} (hw : 1 ≤ w.kind ∧ w.kind ≤ 4) (hn : wn ≤ 4) (hop : w.op ≤ 5) (hd : d = 0 ∨ d = 1) (h : opensP p w d wn = .ok (.inl p')) : Next p t p' := by
  unfold opensP at h
  split at h
  · cases h
  · next h1 =>
    split at h
    · cases h
    · next h2 =>
      simp at h
      exact .opens w d wn h.symm h1 (by omega) hw hn hop

theorem stepP_next {p p' : PS} {t : PureForm.Tok} (hq : p.quant ≤ 5) (h : stepP p t = .ok (.inl p')) : Next p t p' := by
  unfold stepP at h
  split at h
  · cases h
  · split at h
    · split at h
      · split at h
        · cases h
        · next h1 => simp at h; exact .node h.symm (by omega)
      · split at h
        · next h5 => simp at h; exact .quant h.symm h5
        · split at h
          · exact opensP_next (by simp) (by omega) (by simp) (.inl rfl) h
          · split at h
            · exact opensP_next (by simp) (by omega) (by simp) (.inr rfl) h
            · split at h
              · exact opensP_next (by simp) (by omega) (by simp) (.inr rfl) h
              · cases h
    · split at h
      · split at h
        · simp at h; exact .want 0 h.symm (by omega)
        · cases h
      · split at h
        · split at h
          · exact opensP_next (by simp) (by omega) (by simpa using hq) (.inr rfl) h
          · cases h
        · split at h
          · split at h
            · simp at h; exact .want 3 h.symm (by omega)
            · split at h
              · simp at h; exact .want 0 h.symm (by omega)
              · cases h
          · split at h
            · next h7 =>
              split at h
              · cases h
              · simp at h; exact .oper h.symm (by omega) h7
            · split at h
              · unfold closesP at h
                split at h
                · next x s o hs =>
                  split at h
                  · simp at h; exact .close x s o hs o h.symm (by omega)
                  · split at h
                    · simp at h; exact .close x s o hs (o ++ [nodeOf x]) h.symm (by simp)
                    · cases h
                · cases h
              · split at h
                · unfold commaP at h
                  split at h
                  · next x s o hs =>
                    split at h
                    · simp at h; exact .comma x s o hs h.symm
                    · cases h
                  · cases h
                · split at h
                  · unfold endsP at h
                    split at h <;> simp at h
                  · cases h

theorem stepP_len {p p' : PS} {t : PureForm.Tok} (hq : p.quant ≤ 5) (h : stepP p t = .ok (.inl p')) : p'.st.length + p'.out.length ≤ p.st.length + p.out.length + 1 := by
  cases stepP_next hq h using Next.cas with
  | node e _ => subst e; simp; omega
  | quant e _ => subst e; simp
  | opens w d wn e _ _ _ _ _ => subst e; simp; omega
  | want wn e _ => subst e; simp
  | oper e _ _ => subst e; have := settleOps_len t.n p.st p.out; simp; omega
  | close x s o hs o' e h2 =>
    subst e
    have := settleIn_len p.st p.out
    rw [hs] at this
    simp at this ⊢; omega
  | comma x s o hs e =>
    subst e
    have := settleIn_len p.st p.out
    rw [hs] at this
    simp at this ⊢; omega

theorem stepP_ok {p p' : PS} {t : PureForm.Tok} {l : List UInt8} {i : Nat} (hp : PSok p) (ht : TokOk l i t) (h : stepP p t = .ok (.inl p')) : PSok p' := by
  cases stepP_next hp.quant h using Next.cas with
  | node e h1 => subst e; exact ⟨by simp, hp.quant, by simp; omega, hp.opn, hp.kinds, hp.ops⟩
  | quant e h1 => subst e; exact ⟨by simp, ht.quant h1, hp.made, hp.opn, hp.kinds, hp.ops⟩
  | opens w d wn e h1 h2 h3 h4 h5 =>
    subst e
    have := hp.made
    refine ⟨h4, hp.quant, by simp; omega, ?_, fun x hx => ?_, fun x hx => ?_⟩
    · have e : opnOf (w :: p.st) = opnOf p.st + 1 := opn_pos w.op w.n p.st (by omega)
      show opnOf (w :: p.st) ≤ 64
      omega
    · rcases List.mem_cons.1 hx with rfl | h
      · exact ⟨h3.1, by omega⟩
      · exact hp.kinds x h
    · rcases List.mem_cons.1 hx with rfl | h
      · omega
      · exact hp.ops x h
  | want wn e h1 => subst e; exact ⟨h1, hp.quant, hp.made, hp.opn, hp.kinds, hp.ops⟩
  | oper e h1 h7 =>
    subst e
    have h10 := ht.op h7
    refine ⟨by simp, hp.quant, by simp; omega, ?_, fun x hx => ?_, fun x hx => ?_⟩
    · have h2 := settleOps_opn t.n p.st p.out
      have h3 := hp.opn
      have e : opnOf (⟨5, t.n, 0⟩ :: (settleOps t.n p.st p.out).1) = opnOf (settleOps t.n p.st p.out).1 := by simp [opnOf]
      show opnOf (⟨5, t.n, 0⟩ :: (settleOps t.n p.st p.out).1) ≤ 64
      omega
    · rcases List.mem_cons.1 hx with rfl | h
      · simp
      · exact hp.kinds x (settleOps_sub _ _ _ x h)
    · rcases List.mem_cons.1 hx with rfl | h
      · show t.n ≤ 100; omega
      · exact hp.ops x (settleOps_sub _ _ _ x h)
  | close x s o hs o' e h2 =>
    subst e
    have h3 := settleIn_opn p.st p.out
    have h4 := settleIn_sub p.st p.out
    rw [hs] at h3 h4
    have h5 : opnOf s ≤ opnOf (x :: s) := by simp only [opnOf, List.countP_cons]; omega
    have h6 := hp.opn
    exact ⟨hp.want, hp.quant, hp.made, by show opnOf s ≤ 64; dsimp only at h3; omega, fun y hy => hp.kinds y (h4 y (List.mem_cons_of_mem _ hy)), fun y hy => hp.ops y (h4 y (List.mem_cons_of_mem _ hy))⟩
  | comma x s o hs e =>
    subst e
    have h3 := settleIn_opn p.st p.out
    have h4 := settleIn_sub p.st p.out
    rw [hs] at h3 h4
    have h5 : opnOf ({ x with n := x.n + 1 } :: s) = opnOf (x :: s) := by simp only [opnOf, List.countP_cons]
    have h6 := hp.opn
    refine ⟨by simp, hp.quant, hp.made, by show opnOf ({ x with n := x.n + 1 } :: s) ≤ 64; dsimp only at h3; omega, fun y hy => ?_, fun y hy => ?_⟩
    · rcases List.mem_cons.1 hy with rfl | h
      · exact hp.kinds x (h4 x (List.mem_cons_self ..))
      · exact hp.kinds y (h4 y (List.mem_cons_of_mem _ h))
    · rcases List.mem_cons.1 hy with rfl | h
      · exact hp.ops x (h4 x (List.mem_cons_self ..))
      · exact hp.ops y (h4 y (List.mem_cons_of_mem _ h))
end Go.Proofs.YtdkboifpdodonaaDoor.Doc
/-
  What is read has no more nodes than its text has bytes.
-/
namespace Go.Proofs.YtdkboifpdodonaaDoor.Doc
open Go.RowKit Go.Deep PureCnf PureForm
set_option maxRecDepth 100000

theorem stepP_quant {p p' : PS} {t : PureForm.Tok} (hq : p.quant ≤ 5) (ht : t.kind = 5 → t.n ≤ 5) (h : stepP p t = .ok (.inl p')) : p'.quant ≤ 5 := by
  cases stepP_next hq h using Next.cas with
  | node e _ => subst e; exact hq
  | quant e h5 => subst e; exact ht h5
  | opens w d wn e _ _ _ _ _ => subst e; exact hq
  | want wn e _ => subst e; exact hq
  | oper e _ _ => subst e; exact hq
  | close x s o hs o' e h2 => subst e; exact hq
  | comma x s o hs e => subst e; exact hq
theorem stepP_done {p : PS} {t : PureForm.Tok} {o : List Nd} (h : stepP p t = .ok (.inr o)) : o.length ≤ p.st.length + p.out.length := by
  have key : ∀ {w : Wt} {d wn : Nat}, opensP p w d wn ≠ .ok (.inr o) := by
    intro w d wn e
    unfold opensP at e
    split at e
    · cases e
    · split at e
      · cases e
      · simp at e
  unfold stepP at h
  split at h
  · cases h
  · split at h
    · split at h
      · split at h
        · cases h
        · simp at h
      · split at h
        · simp at h
        · split at h
          · exact absurd h key
          · split at h
            · exact absurd h key
            · split at h
              · exact absurd h key
              · cases h
    · split at h
      · split at h
        · simp at h
        · cases h
      · split at h
        · split at h
          · exact absurd h key
          · cases h
        · split at h
          · split at h
            · simp at h
            · split at h
              · simp at h
              · cases h
          · split at h
            · split at h
              · cases h
              · simp at h
            · split at h
              · unfold closesP at h
                split at h
                · split at h
                  · simp at h
                  · split at h
                    · simp at h
                    · cases h
                · cases h
              · split at h
                · unfold commaP at h
                  split at h
                  · split at h
                    · simp at h
                    · cases h
                  · cases h
                · split at h
                  · unfold endsP at h
                    split at h
                    · cases h
                    · next o' hs =>
                      simp at h
                      subst h
                      have := settleIn_len p.st p.out
                      rw [hs] at this
                      simp at this
                      omega
                  · cases h
theorem runP_len : ∀ (ts : List PureForm.Tok) (p : PS) (o : List Nd), p.quant ≤ 5 → (∀ t ∈ ts, t.kind = 5 → t.n ≤ 5) → runP p ts = .ok o → o.length ≤ p.st.length + p.out.length + ts.length := by
  intro ts
  induction ts with
  | nil => intro p o _ _ h; simp [runP] at h
  | cons t r ih =>
    intro p o hq ht h
    rw [runP] at h
    split at h
    · cases h
    · next p' h1 =>
      have h2 := stepP_len hq h1
      have h3 := ih p' o (stepP_quant hq (ht t (List.mem_cons_self ..)) h1) (fun t' h' => ht t' (List.mem_cons_of_mem _ h')) h
      simp only [List.length_cons]
      omega
    · next o' h1 =>
      cases h
      have := stepP_done h1
      omega
theorem toks_len (l : List UInt8) : ∀ (d i : Nat), l.length - i = d → (toksFrom l i).length ≤ d + 1 ∧ ∀ t ∈ toksFrom l i, t.kind = 5 → t.n ≤ 5 := by
  intro d
  induction d using Nat.strongRecOn with
  | _ d ih =>
    intro i hd
    have hq := (next_ok l i).quant
    rw [toksFrom_eq]
    split
    · next h =>
      have := ih (l.length - (nextT l i).end_) (by omega) _ rfl
      refine ⟨by simp only [List.length_cons]; omega, fun t ht => ?_⟩
      rcases List.mem_cons.1 ht with rfl | h'
      · exact hq
      · exact this.2 t h'
    · exact ⟨by simp, fun t ht => by simp at ht; subst ht; exact hq⟩
theorem parseF_len {l : List UInt8} {o : List Nd} (h : parseF l = .ok o) : o.length ≤ 1048577 := by
  unfold parseF at h
  split at h
  · cases h
  · next hl =>
    split at h
    · cases h
    · next o' hr =>
      cases h
      obtain ⟨h1, h2⟩ := toks_len l _ 0 rfl
      have := runP_len _ _ _ (by simp) h2 hr
      simp at this
      omega
end Go.Proofs.YtdkboifpdodonaaDoor.Doc
