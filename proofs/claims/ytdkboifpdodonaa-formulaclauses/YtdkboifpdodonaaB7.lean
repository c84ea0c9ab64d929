/-
  The document's own ParseCnf.
-/
import Derived.Test.YtdkboifpdodonaaB6
namespace Go.Proofs.Ytdkboifpdodonaa
open Go.RowKit Go.Deep PureCnf

theorem litNum_eq (l : List UInt8) : litNum l = litN l := rfl
theorem litFine_eq (l : List UInt8) : litFine l = litOk l := rfl

theorem numOf_range (l : List Piece) (i : Nat) : -1 ≤ numOf l i ∧ numOf l i ≤ 2147483647 := by
  unfold numOf
  split
  · exact numB_range _ _
  · omega
theorem litN_range (l : List UInt8) : -2147483647 ≤ litN l ∧ litN l ≤ 2147483647 := by
  have h1 := numB_range l.tail 2147483647
  have h2 := numB_range l 2147483647
  unfold litN
  split <;> split <;> omega

theorem prevEnd_le {n : Nat} {l : List Piece} (h : ∀ p ∈ l, p.at_ + p.w.length ≤ n) (i : Nat) : prevEnd l i ≤ n := by
  unfold prevEnd
  split
  · next p hp => exact h p (List.mem_of_getElem? hp)
  · omega
theorem headStep_place {n : Nat} {l : List Piece} (h : ∀ p ∈ l, p.at_ + p.w.length ≤ n) {i : Nat} {f : Int × Nat} (hf : headStep l i = some f) : f.1 ≠ 0 ∧ f.2 ≤ n := by
  have hp := prevEnd_le h i
  unfold headStep at hf
  split at hf
  · cases hf; exact ⟨by simp, hp⟩
  · next p hpi =>
    have ha := h p (List.mem_of_getElem? hpi)
    repeat' split at hf
    all_goals first
      | (cases hf; exact ⟨by simp, by simp only; omega⟩)
      | cases hf
theorem headFrom_place {n : Nat} {l : List Piece} (h : ∀ p ∈ l, p.at_ + p.w.length ≤ n) : ∀ (d i : Nat) {f : Int × Nat}, headFrom l d i = some f → f.1 ≠ 0 ∧ f.2 ≤ n := by
  intro d
  induction d with
  | zero =>
    intro i f hf
    unfold headFrom at hf
    split at hf
    · next p hpi =>
      have ha := h p (List.mem_of_getElem? hpi)
      split at hf
      · cases hf; exact ⟨by simp, by simp only; omega⟩
      · cases hf
    · cases hf
  | succ d ih =>
    intro i f hf
    unfold headFrom at hf
    split at hf
    · next g hg => cases hf; exact headStep_place h hg
    · exact ih _ hf
theorem headN_place {n : Nat} {l : List Piece} (h : ∀ p ∈ l, p.at_ + p.w.length ≤ n) {f : Int × Nat} (hf : headN n l = some f) : f.1 ≠ 0 ∧ f.2 ≤ n := by
  unfold headN at hf
  split at hf
  · cases hf; exact ⟨by simp, Nat.le_refl _⟩
  · exact headFrom_place h 4 0 hf

theorem head_any (s : ByteArray) (sa : Option Addr) (n c : Nat) (l : List Piece) (w : World) (hp : PAt w sa l) (hln : l.length = n) (hll : n ≤ 1048576) (hat : ∀ p ∈ l, p.at_ + p.w.length ≤ 1048576) :
    Calls Try.prog 9 #[.string s, .slice sa n c] w fun e w' => e = .returned (headV s.size l) ∧ Below w.heap.size w w' := by
  by_cases h0 : n = 0
  · subst h0
    have : l = [] := List.eq_nil_of_length_eq_zero hln
    subst this
    exact head_nil s sa c w
  · exact head_cons s sa n c l w hp hln (by omega) hll (fun k hk => hat _ (List.getElem_mem hk))

theorem parseN_head {l : List UInt8} {f : Int × Nat} (h1 : ¬ 1048576 < l.length) (h : headN l.length (piecesFrom l 0 0) = some f) : parseN l = .error (f.1, some f.2) := by
  unfold parseN; rw [if_neg h1, h]
theorem parseN_err {l : List UInt8} {f : Int × Nat} (h1 : ¬ 1048576 < l.length) (h : headN l.length (piecesFrom l 0 0) = none) (hb : bodyRun l.length (numOf (piecesFrom l 0 0) 2) (numOf (piecesFrom l 0 0) 3) ((piecesFrom l 0 0).drop 4) [] [] false = .error f) : parseN l = .error (f.1, some f.2) := by
  unfold parseN; rw [if_neg h1, h]; simp only; rw [hb]
theorem parseN_ok {l : List UInt8} {x : List Int × List Int} (h1 : ¬ 1048576 < l.length) (h : headN l.length (piecesFrom l 0 0) = none) (hb : bodyRun l.length (numOf (piecesFrom l 0 0) 2) (numOf (piecesFrom l 0 0) 3) ((piecesFrom l 0 0).drop 4) [] [] false = .ok x) : parseN l = .ok (numOf (piecesFrom l 0 0) 2, x.1, x.2) := by
  unfold parseN; rw [if_neg h1, h]; simp only; rw [hb]

def faultOf (l : List UInt8) (f : Int × Option Nat) : Value := match f.2 with
  | some i => faultV f.1 (spotN (l.take i))
  | none => faultV f.1 (0, 0)
/-- numbers that lie from a block on. -/
structure Own (W : World) (base : Nat) (sa : Option Addr) (l : List Int) : Prop where
  ints : IntsAt W sa l
  far : ∀ a, sa = some a → base ≤ a.block
theorem Own.store {W : World} {base b i : Nat} {v : Value} {sa : Option Addr} {l : List Int} (h : Own W base sa l) (hb : b < base) : Own (W.setCell ⟨b, i, none⟩ v) base sa l :=
  ⟨h.ints.store (fun a e => by have := h.far a e; omega) i v, h.far⟩
theorem Own.mono {W : World} {base b2 : Nat} {sa : Option Addr} {l : List Int} (h : Own W base sa l) (hb : b2 ≤ base) : Own W b2 sa l := ⟨h.ints, fun a e => Nat.le_trans hb (h.far a e)⟩

/-- what reading a text answers. -/
def Parsed (l : List UInt8) (base : Nat) (e : Ending) (w' : World) : Prop := match parseN l with
  | .error f => e = .returned (.tuple #[cnfV 0 none 0 0 none 0 0, faultOf l f])
  | .ok x => ∃ se ce sl cl, e = .returned (.tuple #[cnfV x.1 se x.2.1.length ce sl x.2.2.length cl, faultV 0 (0, 0)]) ∧ Own w' base se x.2.1 ∧ Own w' base sl x.2.2 ∧ x.2.1.length ≤ ce ∧ x.2.2.length ≤ cl
theorem Parsed.err {l : List UInt8} {base : Nat} {f : Int × Option Nat} {e : Ending} {w' : World} (h : parseN l = .error f) (he : e = .returned (.tuple #[cnfV 0 none 0 0 none 0 0, faultOf l f])) : Parsed l base e w' := by
  unfold Parsed; rw [h]; exact he

/-- the two places of the results. -/
structure Res (w W : World) : Prop where
  r0 : W.heap[w.heap.size]? = some (.cells #[.int .i64 0, .slice none 0 0, .slice none 0 0] 24 (0, 0))
  r1 : W.heap[w.heap.size + 1]? = some (.cells #[.int .i64 0, .int .i64 0, .int .i64 0] 29 (0, 0))
  below : Below w.heap.size w W
theorem Res.on {w W W' : World} (h : Res w W) (hb : Below W.heap.size W W') : Res w W' :=
  ⟨(hb.block _ (Array.getElem?_eq_some_iff.1 h.r0).1).trans h.r0, (hb.block _ (Array.getElem?_eq_some_iff.1 h.r1).1).trans h.r1, h.below.trans (hb.mono h.below.size)⟩
theorem Res.size {w W : World} (h : Res w W) : w.heap.size + 2 ≤ W.heap.size := (Array.getElem?_eq_some_iff.1 h.r1).1

set_option maxHeartbeats 1000000 in
theorem parse_long (s : ByteArray) (w : World) (h63 : s.size ≤ 9223372036854775807) (hs : 1048576 < s.size) :
    Calls Try.prog 5 #[.string s] w fun e w' => Parsed s.data.toList w.heap.size e w' ∧ Below w.heap.size w w' := by
  have HP : Hid (parseN s.data.toList = .error (5, none)) := by
    show _ = _
    unfold parseN
    rw [if_pos (by simpa using hs)]
  obtain ⟨WA, hWA⟩ : ∃ WA, WA = (w.alloc (Obj.cells #[.int .i64 0, .slice none 0 0, .slice none 0 0] 24 (0, 0))).alloc (Obj.cells #[.int .i64 0, .int .i64 0, .int .i64 0] 29 (0, 0)) := ⟨_, rfl⟩
  have hr : Res w WA := by
    rw [hWA]
    refine ⟨(Below.heap_alloc _ _ _ (by simp)).trans (heap_alloc_new w _), ?_, ((Below.refl _ _).alloc (Nat.le_refl _) _).alloc (by simp) _⟩
    have := heap_alloc_new (w.alloc (Obj.cells #[.int .i64 0, .slice none 0 0, .slice none 0 0] 24 (0, 0))) (Obj.cells #[.int .i64 0, .int .i64 0, .int .i64 0] 29 (0, 0))
    simpa using this
  have c0 := fun j => cell_row hr.r0 j
  have c1 := fun j => cell_row hr.r1 j
  have f0 := fun j => unfrozen_row hr.r0 j
  have f1 := fun j => unfrozen_row hr.r1 j
  have HR := hid hr
  have HWA := hid hWA
  have hgt : (1048576 : Int) < (s.size : Int) := by omega
  clear hWA hr
  go_enter Try.func5, Try.ntmps5
  go_wp2_with (rw [← HWA.out])
  exact bodyPost_ret (v := .tuple #[cnfV 0 none 0 0 none 0 0, .agg #[.int .i64 5, .int .i64 0, .int .i64 0]]) (by simp [results, Try.results5, go_sem, c0, c1]) rfl ⟨Parsed.err HP.out rfl, ((((((HR.out.below.setCell (p := ⟨w.heap.size, 0, none⟩) (by simp) _).setCell (p := ⟨w.heap.size, 1, none⟩) (by simp) _).setCell (p := ⟨w.heap.size, 2, none⟩) (by simp) _).setCell (p := ⟨w.heap.size + 1, 0, none⟩) (by simp) _).setCell (p := ⟨w.heap.size + 1, 1, none⟩) (by simp) _).setCell (p := ⟨w.heap.size + 1, 2, none⟩) (by simp) _)⟩

theorem bodyRun_wf {n : Nat} {V C : Int} (t : List Piece) : ∀ (E L : List Int) (op : Bool), (∀ y ∈ E, -9223372036854775808 ≤ y ∧ y ≤ 9223372036854775807) → (∀ y ∈ L, -9223372036854775808 ≤ y ∧ y ≤ 9223372036854775807) → L.length ≤ 1048576 → ∀ {x : List Int × List Int}, bodyRun n V C t E L op = .ok x → (∀ y ∈ x.1, -9223372036854775808 ≤ y ∧ y ≤ 9223372036854775807) ∧ (∀ y ∈ x.2, -9223372036854775808 ≤ y ∧ y ≤ 9223372036854775807) := by
  induction t with
  | nil =>
    intro E L op hE hL _ x h
    unfold bodyRun at h
    split at h
    · cases h
    · cases h; exact ⟨hE, hL⟩
  | cons p t ih =>
    intro E L op hE hL hn x h
    unfold bodyRun at h
    split at h
    · cases h
    · split at h
      · cases h
      · split at h
        · cases h
        · split at h
          · refine ih _ _ _ (fun y hy => ?_) hL hn h
            rcases List.mem_append.1 hy with hy | hy
            · exact hE y hy
            · simp only [List.mem_cons, List.not_mem_nil, or_false] at hy
              subst hy
              omega
          · split at h
            · cases h
            · refine ih _ _ _ hE (fun y hy => ?_) (by simp; omega) h
              rcases List.mem_append.1 hy with hy | hy
              · exact hL y hy
              · simp only [List.mem_cons, List.not_mem_nil, or_false] at hy
                have := litN_range p.w
                rw [hy, litNum_eq]
                omega

theorem ints_own {W : World} {base n c : Nat} {sa : Option Addr} {l : List Int} (h : W.ownsRow base 3 1 (.slice sa n c) l.length (ci l)) (hw : ∀ y ∈ l, -9223372036854775808 ≤ y ∧ y ≤ 9223372036854775807) : Own W base sa l := by
  refine ⟨⟨fun k hk => ?_, fun k hk => hw _ (List.getElem_mem hk)⟩, fun a ha => ?_⟩
  · rcases h.2 with ⟨hv, h0⟩ | ⟨g, cap, cur, hv, hb, hg, _⟩
    · omega
    · simp only [Value.slice.injEq] at hv
      obtain ⟨rfl, rfl, rfl⟩ := hv
      exact ⟨_, rfl, (Array.getElem?_eq_some_iff.1 hg).1, h.cells (g := g) rfl k _ (by simp [ci, List.getElem?_eq_getElem hk])⟩
  · subst ha
    rcases h.2 with ⟨hv, h0⟩ | ⟨g, cap, cur, hv, hb, hg, _⟩
    · cases hv
    · simp only [Value.slice.injEq, Option.some.injEq] at hv
      rw [hv.1]
      exact hb

/-- the words from k on, as the loop has them. -/
theorem drop_cons {l : List Piece} {k : Nat} (h : k < l.length) : l.drop k = l[k] :: l.drop (k + 1) := List.drop_eq_getElem_cons h

set_option maxHeartbeats 4000000 in
set_option maxRecDepth 100000 in
theorem parse_short (s : ByteArray) (w : World) (hs : s.size ≤ 1048576) :
    Calls Try.prog 5 #[.string s] w fun e w' => Parsed s.data.toList w.heap.size e w' ∧ Below w.heap.size w w' := by
  obtain ⟨WA, hWA⟩ : ∃ WA, WA = (w.alloc (Obj.cells #[.int .i64 0, .slice none 0 0, .slice none 0 0] 24 (0, 0))).alloc (Obj.cells #[.int .i64 0, .int .i64 0, .int .i64 0] 29 (0, 0)) := ⟨_, rfl⟩
  have hr : Res w WA := by
    rw [hWA]
    refine ⟨(Below.heap_alloc _ _ _ (by simp)).trans (heap_alloc_new w _), ?_, ((Below.refl _ _).alloc (Nat.le_refl _) _).alloc (by simp) _⟩
    have := heap_alloc_new (w.alloc (Obj.cells #[.int .i64 0, .slice none 0 0, .slice none 0 0] 24 (0, 0))) (Obj.cells #[.int .i64 0, .int .i64 0, .int .i64 0] 29 (0, 0))
    simpa using this
  have HLEN : Hid (s.data.toList.length = s.size) := by show _ = _; simp
  obtain ⟨l, hl⟩ : ∃ l, l = piecesFrom s.data.toList 0 0 := ⟨_, rfl⟩
  have hin : ∀ p ∈ l, p.at_ + p.w.length ≤ s.size := by
    rw [hl]; intro p hp
    have := pieces_in s.data.toList 0 0 p hp
    rw [HLEN.out] at this
    exact this
  have hcnt : l.length ≤ s.size := by
    rw [hl]
    have := pieces_count s.data.toList 0 0
    rw [HLEN.out] at this
    omega
  have HSH : Hid (¬ 1048576 < s.data.toList.length) := by show ¬ _; rw [HLEN.out]; omega
  have HL := hid hl
  have HPC := hid (pieces_any s WA hs)
  rw [← hl] at HPC
  obtain ⟨n, hn⟩ : ∃ n, n = l.length := ⟨_, rfl⟩
  have HN := hid hn
  have hn1 : n ≤ 1048576 := by omega
  have HIN := hid hin
  have HR := hid hr
  have HWA := hid hWA
  have hle : ¬ (1048576 : Int) < (s.size : Int) := by omega
  clear hWA hr hl hn hin hcnt
  cases hh : headN s.size l with
  | some f =>
    obtain ⟨fc, fp⟩ := f
    have hfp := headN_place HIN.out hh
    have HPE : Hid (parseN s.data.toList = .error (fc, some fp)) := by show _ = _; exact parseN_head HSH.out (by rw [HLEN.out, ← HL.out]; exact hh)
    have HV := hid (headV_fault hh)
    obtain ⟨hf1, hf2⟩ := hfp
    have hfb : (fc != 0) = true := by rw [bne_iff_ne]; exact hf1
    clear hh hf1
    go_enter Try.func5, Try.ntmps5
    go_wp2_with (first
      | (rw [← HWA.out])
      | (go_at_call 8; refine HPC.out.mono ?_; rintro e w1 ⟨v, rfl, hp1⟩; obtain ⟨sa, c, rfl, hpa⟩ := hp1.at; rw [← HN.out]; have HR1 := hid (HR.out.on hp1.below); have HD := hid (head_any s sa n c l w1 hpa HN.out.symm hn1 (fun p hp => Nat.le_trans (HIN.out p hp) hs)); rw [HV.out] at HD; clear hp1 hpa)
      | (go_at_call 9; refine HD.out.mono ?_; rintro e w2 ⟨rfl, b2⟩; have HR2 := hid (HR1.out.on b2); have HWR := hid (wrong_any s fc fp w2 hs hf2); clear b2)
      | (go_at_call 10; refine HWR.out.mono ?_; rintro e w3 ⟨rfl, b3⟩; have hr3 := HR2.out.on b3; have c0 := fun j => cell_row hr3.r0 j; have c1 := fun j => cell_row hr3.r1 j; have f0 := fun j => unfrozen_row hr3.r0 j; have f1 := fun j => unfrozen_row hr3.r1 j; have HR3 := hid hr3; unfold faultV; clear b3 hr3))
    exact bodyPost_ret (v := .tuple #[cnfV 0 none 0 0 none 0 0, .agg #[.int .i64 fc, .int .i64 ((spotN (s.data.toList.take fp)).1 : Int), .int .i64 ((spotN (s.data.toList.take fp)).2 : Int)]]) (by simp [results, Try.results5, go_sem, c0, c1]) rfl ⟨Parsed.err HPE.out rfl, ((((((HR3.out.below.setCell (p := ⟨w.heap.size, 0, none⟩) (by simp) _).setCell (p := ⟨w.heap.size, 1, none⟩) (by simp) _).setCell (p := ⟨w.heap.size, 2, none⟩) (by simp) _).setCell (p := ⟨w.heap.size + 1, 0, none⟩) (by simp) _).setCell (p := ⟨w.heap.size + 1, 1, none⟩) (by simp) _).setCell (p := ⟨w.heap.size + 1, 2, none⟩) (by simp) _)⟩
  | none =>
    obtain ⟨V, hV⟩ : ∃ V, V = numOf l 2 := ⟨_, rfl⟩
    obtain ⟨C, hC⟩ : ∃ C, C = numOf l 3 := ⟨_, rfl⟩
    have hVr := numOf_range l 2
    have hCr := numOf_range l 3
    have HV0 := headV_fine hh
    rw [← hV, ← hC] at HV0
    rw [← hV] at hVr
    rw [← hC] at hCr
    have HV := hid HV0
    have HPE : Hid (∀ f : Int × Nat, bodyRun s.size V C (l.drop 4) [] [] false = .error f → parseN s.data.toList = .error (f.1, some f.2)) := fun f hf => by
      refine parseN_err HSH.out (by rw [HLEN.out, ← HL.out]; exact hh) ?_
      rw [HLEN.out, ← HL.out, ← hV, ← hC]; exact hf
    have HPO : Hid (∀ x : List Int × List Int, bodyRun s.size V C (l.drop 4) [] [] false = .ok x → parseN s.data.toList = .ok (V, x.1, x.2)) := fun x hx => by
      rw [hV]
      have e : s.data.toList.length = s.size := HLEN.out
      have := parseN_ok (x := x) HSH.out (by rw [HLEN.out, ← HL.out]; exact hh) (by rw [HLEN.out, ← HL.out, ← hV, ← hC]; exact hx)
      rw [← HL.out] at this
      exact this
    obtain ⟨v1, v2⟩ := hVr
    obtain ⟨k1, k2⟩ := hCr
    clear hh HV0 hV hC
    go_enter Try.func5, Try.ntmps5
    go_wp2_with (first
      | (rw [← HWA.out])
      | (go_at_call 8; refine HPC.out.mono ?_; rintro e w1 ⟨v, rfl, hp1⟩; obtain ⟨sa, c, rfl, hpa⟩ := hp1.at; rw [← HN.out]; have HR1 := hid (HR.out.on hp1.below); have HPA := hid hpa; have HD := hid (head_any s sa n c l w1 hpa HN.out.symm hn1 (fun p hp => Nat.le_trans (HIN.out p hp) hs)); rw [HV.out] at HD; clear hp1 hpa)
      | (go_at_call 9; refine HD.out.mono ?_; rintro e w2 ⟨rfl, b2⟩; have HR2 := hid (HR1.out.on b2); have HP2 := hid (HPA.out.below b2); clear b2))
    have OUT0 : Hid (Out w2 (w2.alloc (Obj.cells #[.int .i64 V, .slice none 0 0, .slice none 0 0] 24 (0, 0))) w2.heap.size V [] [] (.slice none 0 0) (.slice none 0 0)) := ⟨heap_alloc_new w2 _, World.ownsRow_nil _ _ _ _, World.ownsRow_nil _ _ _ _, .inl rfl, (Below.refl _ _).alloc (Nat.le_refl _) _⟩
    go_loopw [10, 11] (fun ov iv W => ∃ (k : Nat) (E L : List Int) (op : Bool) (ve vl : Value), 4 ≤ k ∧ iv = .int .i64 k ∧ ov = .bool op ∧ E.length ≤ k ∧ L.length ≤ k ∧ k ≤ 1048580 ∧ Hid (bodyRun s.size V C (l.drop k) E L op = bodyRun s.size V C (l.drop 4) [] [] false ∧ Out w2 W w2.heap.size V E L ve vl)) (fun _ iv _ => 1048580 - (intOf iv).toNat)
    case atStart => exact ⟨4, [], [], false, _, _, Nat.le_refl _, rfl, rfl, Nat.zero_le _, Nat.zero_le _, by omega, rfl, OUT0.out⟩
    case round =>
      obtain ⟨k, E, L, op, ve, vl, hk, rfl, rfl, hE, hL, hkm, HB⟩ := hrel
      obtain ⟨hb1, hb2⟩ := HB.out
      have HRW : Hid (Res w wr) := by
        have q := HR2.out
        have qs := q.size
        exact ⟨(hb2.below.block _ (by omega)).trans q.r0, (hb2.below.block _ (by omega)).trans q.r1, q.below.trans (hb2.below.mono (by omega))⟩
      obtain ⟨⟨se, ce, rfl, hce⟩, sl, cl, rfl, hcl⟩ := hb2.ints
      have oc := fun j => cell_row hb2.row j
      have of := fun j => unfrozen_row hb2.row j
      have OUT := hid hb2
      by_cases hlt : k < n
      · have hlt' : k < l.length := by rw [← HN.out]; exact hlt
        have hkb : k ≤ 1048576 := by omega
        obtain ⟨g, eg, hg, p0, p1, p2⟩ := HP2.out.at_ k hlt'
        subst eg
        have q0 := below_cell hb2.below hg p0
        have q1 := below_cell hb2.below hg p1
        have hpm := HIN.out _ (List.getElem_mem hlt')
        have hpl : l[k].at_ ≤ s.size := by omega
        rw [drop_cons hlt'] at hb1
        obtain ⟨at_, hat⟩ : ∃ a, a = l[k].at_ := ⟨_, rfl⟩
        obtain ⟨wd, hwd⟩ : ∃ a, a = l[k].w := ⟨_, rfl⟩
        have hli0 := literal_any ⟨wd.toArray⟩ wr (by rw [hwd]; show l[k].w.length ≤ _; omega)
        have hx := litN_range wd
        obtain ⟨x, hxe⟩ : ∃ x, x = litN wd := ⟨_, rfl⟩
        obtain ⟨ok, hok⟩ : ∃ b, b = litOk wd := ⟨_, rfl⟩
        have HLI : Hid (Calls Try.prog 11 #[str wd] wr fun e w' => e = .returned (.tuple #[.int .i64 x, .bool ok]) ∧ w' = wr) := by
          rw [hxe, hok]
          have e : (⟨wd.toArray⟩ : ByteArray).data.toList = wd := by simp
          rw [e] at hli0
          exact hli0
        have hb3 : (if (E.length : Int) = C then .error (135, at_) else if ok = false then .error (133, at_) else if V < x ∨ x < -V then .error (3, at_) else if x = 0 then bodyRun s.size V C (l.drop (k + 1)) (E ++ [(L.length : Int)]) L false else if L.length = 1048576 then .error (8, at_) else bodyRun s.size V C (l.drop (k + 1)) E (L ++ [x]) true) = bodyRun s.size V C (l.drop 4) [] [] false := by
          rw [← hb1, hat, hxe, hok, hwd]
          rfl
        rw [← hwd] at q0
        rw [← hat] at q1 hpl
        rw [← hxe] at hx
        obtain ⟨x1, x2⟩ := hx
        have HB3 := hid hb3
        clear hb1 hb2 hb3 HB p0 p1 p2 hpm hli0 hxe hok hwd hat
        by_cases hEC : (E.length : Int) = C
        · have hEb : ((E.length : Int) == C) = true := by rw [beq_iff_eq]; exact hEC
          have HERR : Hid (parseN s.data.toList = .error ((135 : Int), some at_)) := HPE.out (135, at_) (by rw [← HB3.out, if_pos hEC])
          clear hEC
          go_wp2_with (first
            | (go_at_call 10; refine (wrong_any s 135 at_ _ hs hpl).mono ?_; rintro e w3 ⟨rfl, b3⟩; have hr3 := HRW.out.on b3; have c0 := fun j => cell_row hr3.r0 j; have c1 := fun j => cell_row hr3.r1 j; have f0 := fun j => unfrozen_row hr3.r0 j; have f1 := fun j => unfrozen_row hr3.r1 j; have HR3 := hid hr3; unfold faultV; clear b3 hr3))
          exact bodyPost_ret (v := .tuple #[cnfV 0 none 0 0 none 0 0, .agg #[.int .i64 135, .int .i64 ((spotN (s.data.toList.take at_)).1 : Int), .int .i64 ((spotN (s.data.toList.take at_)).2 : Int)]]) (by simp [results, Try.results5, go_sem, c0, c1]) rfl ⟨Parsed.err HERR.out rfl, ((((((HR3.out.below.setCell (p := ⟨w.heap.size, 0, none⟩) (by simp) _).setCell (p := ⟨w.heap.size, 1, none⟩) (by simp) _).setCell (p := ⟨w.heap.size, 2, none⟩) (by simp) _).setCell (p := ⟨w.heap.size + 1, 0, none⟩) (by simp) _).setCell (p := ⟨w.heap.size + 1, 1, none⟩) (by simp) _).setCell (p := ⟨w.heap.size + 1, 2, none⟩) (by simp) _)⟩
        · have hEb : ((E.length : Int) == C) = false := by rw [beq_eq_false_iff_ne]; exact hEC
          rw [if_neg hEC] at HB3
          clear hEC
          cases ok with
          | false =>
            have HERR : Hid (parseN s.data.toList = .error ((133 : Int), some at_)) := HPE.out (133, at_) (by rw [← HB3.out, if_pos rfl])
            go_wp2_with (first
              | (go_at_call 11; refine HLI.out.mono ?_; rintro e w' ⟨rfl, rfl⟩)
              | (go_at_call 10; refine (wrong_any s 133 at_ _ hs hpl).mono ?_; rintro e w3 ⟨rfl, b3⟩; have hr3 := HRW.out.on b3; have c0 := fun j => cell_row hr3.r0 j; have c1 := fun j => cell_row hr3.r1 j; have f0 := fun j => unfrozen_row hr3.r0 j; have f1 := fun j => unfrozen_row hr3.r1 j; have HR3 := hid hr3; unfold faultV; clear b3 hr3))
            exact bodyPost_ret (v := .tuple #[cnfV 0 none 0 0 none 0 0, .agg #[.int .i64 133, .int .i64 ((spotN (s.data.toList.take at_)).1 : Int), .int .i64 ((spotN (s.data.toList.take at_)).2 : Int)]]) (by simp [results, Try.results5, go_sem, c0, c1]) rfl ⟨Parsed.err HERR.out rfl, ((((((HR3.out.below.setCell (p := ⟨w.heap.size, 0, none⟩) (by simp) _).setCell (p := ⟨w.heap.size, 1, none⟩) (by simp) _).setCell (p := ⟨w.heap.size, 2, none⟩) (by simp) _).setCell (p := ⟨w.heap.size + 1, 0, none⟩) (by simp) _).setCell (p := ⟨w.heap.size + 1, 1, none⟩) (by simp) _).setCell (p := ⟨w.heap.size + 1, 2, none⟩) (by simp) _)⟩
          | true =>
            rw [if_neg (by decide)] at HB3
            by_cases hV1 : V < x
            · have HERR : Hid (parseN s.data.toList = .error ((3 : Int), some at_)) := HPE.out (3, at_) (by rw [← HB3.out, if_pos (.inl hV1)])
              go_wp2_with (first
                | (go_at_call 11; refine HLI.out.mono ?_; rintro e w' ⟨rfl, rfl⟩)
                | (go_at_call 10; refine (wrong_any s 3 at_ _ hs hpl).mono ?_; rintro e w3 ⟨rfl, b3⟩; have hr3 := HRW.out.on b3; have c0 := fun j => cell_row hr3.r0 j; have c1 := fun j => cell_row hr3.r1 j; have f0 := fun j => unfrozen_row hr3.r0 j; have f1 := fun j => unfrozen_row hr3.r1 j; have HR3 := hid hr3; unfold faultV; clear b3 hr3))
              exact bodyPost_ret (v := .tuple #[cnfV 0 none 0 0 none 0 0, .agg #[.int .i64 3, .int .i64 ((spotN (s.data.toList.take at_)).1 : Int), .int .i64 ((spotN (s.data.toList.take at_)).2 : Int)]]) (by simp [results, Try.results5, go_sem, c0, c1]) rfl ⟨Parsed.err HERR.out rfl, ((((((HR3.out.below.setCell (p := ⟨w.heap.size, 0, none⟩) (by simp) _).setCell (p := ⟨w.heap.size, 1, none⟩) (by simp) _).setCell (p := ⟨w.heap.size, 2, none⟩) (by simp) _).setCell (p := ⟨w.heap.size + 1, 0, none⟩) (by simp) _).setCell (p := ⟨w.heap.size + 1, 1, none⟩) (by simp) _).setCell (p := ⟨w.heap.size + 1, 2, none⟩) (by simp) _)⟩
            · by_cases hV2 : x < -V
              · have HERR : Hid (parseN s.data.toList = .error ((3 : Int), some at_)) := HPE.out (3, at_) (by rw [← HB3.out, if_pos (.inr hV2)])
                go_wp2_with (first
                  | (go_at_call 11; refine HLI.out.mono ?_; rintro e w' ⟨rfl, rfl⟩)
                  | (go_at_call 10; refine (wrong_any s 3 at_ _ hs hpl).mono ?_; rintro e w3 ⟨rfl, b3⟩; have hr3 := HRW.out.on b3; have c0 := fun j => cell_row hr3.r0 j; have c1 := fun j => cell_row hr3.r1 j; have f0 := fun j => unfrozen_row hr3.r0 j; have f1 := fun j => unfrozen_row hr3.r1 j; have HR3 := hid hr3; unfold faultV; clear b3 hr3))
                exact bodyPost_ret (v := .tuple #[cnfV 0 none 0 0 none 0 0, .agg #[.int .i64 3, .int .i64 ((spotN (s.data.toList.take at_)).1 : Int), .int .i64 ((spotN (s.data.toList.take at_)).2 : Int)]]) (by simp [results, Try.results5, go_sem, c0, c1]) rfl ⟨Parsed.err HERR.out rfl, ((((((HR3.out.below.setCell (p := ⟨w.heap.size, 0, none⟩) (by simp) _).setCell (p := ⟨w.heap.size, 1, none⟩) (by simp) _).setCell (p := ⟨w.heap.size, 2, none⟩) (by simp) _).setCell (p := ⟨w.heap.size + 1, 0, none⟩) (by simp) _).setCell (p := ⟨w.heap.size + 1, 1, none⟩) (by simp) _).setCell (p := ⟨w.heap.size + 1, 2, none⟩) (by simp) _)⟩
              · rw [if_neg (by omega)] at HB3
                by_cases hx0 : x = 0
                · subst hx0
                  rw [if_pos rfl] at HB3
                  go_wp2_with (first
                    | (go_at_call 11; refine HLI.out.mono ?_; rintro e w' ⟨rfl, rfl⟩)
                    | (at_builtin; refine app_end rfl _ _ rfl OUT.out (L.length : Int) rfl rfl (by omega) ?_; intro v4 w4 r4 q4; obtain ⟨⟨sx, cx, rfl, _⟩, _⟩ := r4.ints; rw [show (E ++ [(L.length : Int)]).length = E.length + 1 by simp] at r4 ⊢; have u1 := fun j => cell_row q4 j; have u2 := fun j => unfrozen_row q4 j; have R4 := hid r4; clear r4 q4))
                  exact ⟨⟨k + 1, E ++ [(L.length : Int)], L, false, _, _, by omega, by go_num, rfl, by simp; omega, by omega, by omega, HB3.out, R4.out⟩, by simp [intOf]; omega⟩
                · have hx1 : (x != 0) = true := by rw [bne_iff_ne]; exact hx0
                  have hx2 : (x == 0) = false := by rw [beq_eq_false_iff_ne]; exact hx0
                  rw [if_neg hx0] at HB3
                  clear hx0
                  by_cases hLm : L.length = 1048576
                  · have hLb : ((L.length : Int) == 1048576) = true := by rw [beq_iff_eq]; omega
                    have HERR : Hid (parseN s.data.toList = .error ((8 : Int), some at_)) := HPE.out (8, at_) (by rw [← HB3.out, if_pos hLm])
                    clear hLm
                    go_wp2_with (first
                      | (go_at_call 11; refine HLI.out.mono ?_; rintro e w' ⟨rfl, rfl⟩)
                      | (go_at_call 10; refine (wrong_any s 8 at_ _ hs hpl).mono ?_; rintro e w3 ⟨rfl, b3⟩; have hr3 := HRW.out.on b3; have c0 := fun j => cell_row hr3.r0 j; have c1 := fun j => cell_row hr3.r1 j; have f0 := fun j => unfrozen_row hr3.r0 j; have f1 := fun j => unfrozen_row hr3.r1 j; have HR3 := hid hr3; unfold faultV; clear b3 hr3))
                    exact bodyPost_ret (v := .tuple #[cnfV 0 none 0 0 none 0 0, .agg #[.int .i64 8, .int .i64 ((spotN (s.data.toList.take at_)).1 : Int), .int .i64 ((spotN (s.data.toList.take at_)).2 : Int)]]) (by simp [results, Try.results5, go_sem, c0, c1]) rfl ⟨Parsed.err HERR.out rfl, ((((((HR3.out.below.setCell (p := ⟨w.heap.size, 0, none⟩) (by simp) _).setCell (p := ⟨w.heap.size, 1, none⟩) (by simp) _).setCell (p := ⟨w.heap.size, 2, none⟩) (by simp) _).setCell (p := ⟨w.heap.size + 1, 0, none⟩) (by simp) _).setCell (p := ⟨w.heap.size + 1, 1, none⟩) (by simp) _).setCell (p := ⟨w.heap.size + 1, 2, none⟩) (by simp) _)⟩
                  · have hLb : ((L.length : Int) == 1048576) = false := by rw [beq_eq_false_iff_ne]; omega
                    rw [if_neg hLm] at HB3
                    clear hLm
                    go_wp2_with (first
                      | (go_at_call 11; refine HLI.out.mono ?_; rintro e w' ⟨rfl, rfl⟩)
                      | (at_builtin; refine app_lit rfl _ _ rfl OUT.out x rfl rfl (by omega) ?_; intro v4 w4 r4 q4; obtain ⟨_, sx, cx, rfl, _⟩ := r4.ints; rw [show (L ++ [x]).length = L.length + 1 by simp] at r4 ⊢; have u1 := fun j => cell_row q4 j; have u2 := fun j => unfrozen_row q4 j; have R4 := hid r4; clear r4 q4))
                    exact ⟨⟨k + 1, E, L ++ [x], true, _, _, by omega, by go_num, rfl, by omega, by simp; omega, by omega, HB3.out, R4.out⟩, by simp [intOf]; omega⟩
      · have hd : l.drop k = [] := List.drop_eq_nil_of_le (by rw [← HN.out]; omega)
        rw [hd] at hb1
        have hb3 : (if op = true ∨ (E.length : Int) < C then .error (135, s.size) else .ok (E, L)) = bodyRun s.size V C (l.drop 4) [] [] false := by rw [← hb1]; rfl
        have HB3 := hid hb3
        clear hb1 hb2 hb3 HB hd
        have hfull : op = true ∨ (op = false ∧ (E.length : Int) < C) ∨ (op = false ∧ ¬ (E.length : Int) < C) := by
          cases op
          · by_cases h : (E.length : Int) < C
            · exact .inr (.inl ⟨rfl, h⟩)
            · exact .inr (.inr ⟨rfl, h⟩)
          · exact .inl rfl
        rcases hfull with rfl | ⟨rfl, hEC⟩ | ⟨rfl, hEC⟩
        · have HERR : Hid (parseN s.data.toList = .error ((135 : Int), some s.size)) := HPE.out (135, s.size) (by rw [← HB3.out, if_pos (.inl rfl)])
          go_wp2_with (first
            | (go_at_call 10; refine (wrong_any s 135 s.size _ hs (Nat.le_refl _)).mono ?_; rintro e w3 ⟨rfl, b3⟩; have hr3 := HRW.out.on b3; have c0 := fun j => cell_row hr3.r0 j; have c1 := fun j => cell_row hr3.r1 j; have f0 := fun j => unfrozen_row hr3.r0 j; have f1 := fun j => unfrozen_row hr3.r1 j; have HR3 := hid hr3; unfold faultV; clear b3 hr3))
          exact bodyPost_ret (v := .tuple #[cnfV 0 none 0 0 none 0 0, .agg #[.int .i64 135, .int .i64 ((spotN (s.data.toList.take s.size)).1 : Int), .int .i64 ((spotN (s.data.toList.take s.size)).2 : Int)]]) (by simp [results, Try.results5, go_sem, c0, c1]) rfl ⟨Parsed.err HERR.out rfl, ((((((HR3.out.below.setCell (p := ⟨w.heap.size, 0, none⟩) (by simp) _).setCell (p := ⟨w.heap.size, 1, none⟩) (by simp) _).setCell (p := ⟨w.heap.size, 2, none⟩) (by simp) _).setCell (p := ⟨w.heap.size + 1, 0, none⟩) (by simp) _).setCell (p := ⟨w.heap.size + 1, 1, none⟩) (by simp) _).setCell (p := ⟨w.heap.size + 1, 2, none⟩) (by simp) _)⟩
        · have HERR : Hid (parseN s.data.toList = .error ((135 : Int), some s.size)) := HPE.out (135, s.size) (by rw [← HB3.out, if_pos (.inr hEC)])
          go_wp2_with (first
            | (go_at_call 10; refine (wrong_any s 135 s.size _ hs (Nat.le_refl _)).mono ?_; rintro e w3 ⟨rfl, b3⟩; have hr3 := HRW.out.on b3; have c0 := fun j => cell_row hr3.r0 j; have c1 := fun j => cell_row hr3.r1 j; have f0 := fun j => unfrozen_row hr3.r0 j; have f1 := fun j => unfrozen_row hr3.r1 j; have HR3 := hid hr3; unfold faultV; clear b3 hr3))
          exact bodyPost_ret (v := .tuple #[cnfV 0 none 0 0 none 0 0, .agg #[.int .i64 135, .int .i64 ((spotN (s.data.toList.take s.size)).1 : Int), .int .i64 ((spotN (s.data.toList.take s.size)).2 : Int)]]) (by simp [results, Try.results5, go_sem, c0, c1]) rfl ⟨Parsed.err HERR.out rfl, ((((((HR3.out.below.setCell (p := ⟨w.heap.size, 0, none⟩) (by simp) _).setCell (p := ⟨w.heap.size, 1, none⟩) (by simp) _).setCell (p := ⟨w.heap.size, 2, none⟩) (by simp) _).setCell (p := ⟨w.heap.size + 1, 0, none⟩) (by simp) _).setCell (p := ⟨w.heap.size + 1, 1, none⟩) (by simp) _).setCell (p := ⟨w.heap.size + 1, 2, none⟩) (by simp) _)⟩
        · have HOK := hid (HPO.out (E, L) (by rw [← HB3.out, if_neg (by simp; omega)]))
          have c0 := fun j => cell_row HRW.out.r0 j
          have c1 := fun j => cell_row HRW.out.r1 j
          have f0 := fun j => unfrozen_row HRW.out.r0 j
          have f1 := fun j => unfrozen_row HRW.out.r1 j
          have hwf := bodyRun_wf (l.drop 4) [] [] false (by simp) (by simp) (by simp) (x := (E, L)) (by rw [← HB3.out, if_neg (by simp; omega)])
          have IE := hid (ints_own OUT.out.oe hwf.1)
          have IL := hid (ints_own OUT.out.ol hwf.2)
          have hsz2 := HR2.out.size
          clear hwf
          go_wp2
          refine bodyPost_ret (v := .tuple #[cnfV V se E.length ce sl L.length cl, .agg #[.int .i64 0, .int .i64 0, .int .i64 0]]) (by simp [results, Try.results5, go_sem, c0, c1]) rfl ⟨?_, ((((((HRW.out.below.setCell (p := ⟨w.heap.size, 0, none⟩) (by simp) _).setCell (p := ⟨w.heap.size, 1, none⟩) (by simp) _).setCell (p := ⟨w.heap.size, 2, none⟩) (by simp) _).setCell (p := ⟨w.heap.size + 1, 0, none⟩) (by simp) _).setCell (p := ⟨w.heap.size + 1, 1, none⟩) (by simp) _).setCell (p := ⟨w.heap.size + 1, 2, none⟩) (by simp) _)⟩
          unfold Parsed
          rw [HOK.out]
          refine ⟨se, ce, sl, cl, rfl, ?_, ?_, hce, hcl⟩
          · exact ((((((IE.out.store (by omega)).store (by omega)).store (by omega)).store (by omega)).store (by omega)).store (by omega)).mono (by omega)
          · exact ((((((IL.out.store (by omega)).store (by omega)).store (by omega)).store (by omega)).store (by omega)).store (by omega)).mono (by omega)
end Go.Proofs.Ytdkboifpdodonaa
