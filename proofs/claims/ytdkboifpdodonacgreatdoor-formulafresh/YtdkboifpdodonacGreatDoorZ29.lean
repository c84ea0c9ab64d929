import Derived.Test.YtdkboifpdodonacGreatDoorZ28
set_option linter.unusedSimpArgs false
/-
 The document's own ParseCnf.
-/
namespace Go.Proofs.YtdkboifpdodonacGreatDoor.Cn
open Go.RowKit Go.Deep PureCnf
set_option maxRecDepth 100000

theorem litNum_eq (l : List UInt8) : litNum l = litN l := rfl

theorem numOf_range (l : List Piece) (i : Nat) : -1 ≤ numOf l i ∧ numOf l i ≤ 2147483647 := by
 unfold numOf
 split
 ·exact numB_range _ _
 ·omega
theorem litN_range (l : List UInt8) : -2147483647 ≤ litN l ∧ litN l ≤ 2147483647 := by
 have h1 := numB_range l.tail 2147483647
 have h2 := numB_range l 2147483647
 unfold litN
 split <;> split <;> omega

theorem prevEnd_le {n : Nat} {l : List Piece} (h : ∀ p ∈ l, p.at_ + p.w.length ≤ n) (i : Nat) : prevEnd l i ≤ n := by
 unfold prevEnd
 split
 ·next p hp => exact h p (List.mem_of_getElem? hp)
 ·omega
theorem headStep_place {n : Nat} {l : List Piece} (h : ∀ p ∈ l, p.at_ + p.w.length ≤ n) {i : Nat} {f : Int × Nat} (hf : headStep l i = some f) : f.1 ≠ 0 ∧ f.2 ≤ n := by
 have hp := prevEnd_le h i
 unfold headStep at hf
 split at hf
 ·cases hf; exact ⟨by simp, hp⟩
 ·next p hpi =>
  have ha := h p (List.mem_of_getElem? hpi)
  repeat' split at hf
  all_goals first
   |(cases hf; exact ⟨by simp, by simp only; omega⟩)
   | cases hf
theorem headFrom_place {n : Nat} {l : List Piece} (h : ∀ p ∈ l, p.at_ + p.w.length ≤ n) : ∀ (d i : Nat) {f : Int × Nat}, headFrom l d i = some f → f.1 ≠ 0 ∧ f.2 ≤ n := by
 intro d
 induction d with
 | zero =>
  intro i f hf
  unfold headFrom at hf
  split at hf
  ·next p hpi =>
   have ha := h p (List.mem_of_getElem? hpi)
   split at hf
   ·cases hf; exact ⟨by simp, by simp only; omega⟩
   ·cases hf
  ·cases hf
 | succ d ih =>
  intro i f hf
  unfold headFrom at hf
  split at hf
  ·next g hg => cases hf; exact headStep_place h hg
  ·exact ih _ hf
theorem headN_place {n : Nat} {l : List Piece} (h : ∀ p ∈ l, p.at_ + p.w.length ≤ n) {f : Int × Nat} (hf : headN n l = some f) : f.1 ≠ 0 ∧ f.2 ≤ n := by
 unfold headN at hf
 split at hf
 ·cases hf; exact ⟨by simp, Nat.le_refl _⟩
 ·exact headFrom_place h 4 0 hf

theorem head_any (s : ByteArray) (sa : Option Addr) (n c : Nat) (l : List Piece) (w : World) (hp : PAt w sa l) (hln : l.length = n) (hll : n ≤ 1048576) (hat : ∀ p ∈ l, p.at_ + p.w.length ≤ 1048576) :
  Calls Tryz.prog 28 #[.string s, .slice sa n c] w fun e w' => e = .returned (headV s.size l) ∧ Below w.heap.size w w' := by
 by_cases h0 : n = 0
 ·subst h0
  have : l = [] := List.eq_nil_of_length_eq_zero hln
  subst this
  exact head_nil s sa c w
 ·exact head_cons s sa n c l w hp hln (by omega) hll (fun k hk => hat _ (List.getElem_mem hk))

theorem parseN_head {l : List UInt8} {f : Int × Nat} (h1 : ¬ 1048576 < l.length) (h : headN l.length (piecesFrom l 0 0) = some f) : parseN l = .error (f.1, some f.2) := by
 unfold parseN; rw [if_neg h1, h]
theorem parseN_err {l : List UInt8} {f : Int × Nat} (h1 : ¬ 1048576 < l.length) (h : headN l.length (piecesFrom l 0 0) = none) (hb : bodyRun l.length (numOf (piecesFrom l 0 0) 2) (numOf (piecesFrom l 0 0) 3) ((piecesFrom l 0 0).drop 4) [] [] false = .error f) : parseN l = .error (f.1, some f.2) := by
 unfold parseN; rw [if_neg h1, h]; simp only; rw [hb]
theorem parseN_ok {l : List UInt8} {x : List Int × List Int} (h1 : ¬ 1048576 < l.length) (h : headN l.length (piecesFrom l 0 0) = none) (hb : bodyRun l.length (numOf (piecesFrom l 0 0) 2) (numOf (piecesFrom l 0 0) 3) ((piecesFrom l 0 0).drop 4) [] [] false = .ok x) : parseN l = .ok (numOf (piecesFrom l 0 0) 2, x.1, x.2) := by
 unfold parseN; rw [if_neg h1, h]; simp only; rw [hb]

def faultOf (l : List UInt8) (f : Int × Option Nat) : Value := match f.2 with
 | some i => faultV f.1 (spotN (l.take i))
 | none => faultV f.1 (0, 0)
/-- numbers that lie from a block on. -/
structure Own (W : World) (base : Nat) (sa : Option Addr) (l : List Int) : Prop where
 ints : IntsAt W sa l
 far : ∀ a, sa = some a → base ≤ a.block
theorem Own.store {W : World} {base b i : Nat} {v : Value} {sa : Option Addr} {l : List Int} (h : Own W base sa l) (hb : b < base) : Own (W.setCell ⟨b, i, none⟩ v) base sa l :=
 ⟨h.ints.store (fun a e => by have := h.far a e; omega) i v, h.far⟩
theorem Own.mono {W : World} {base b2 : Nat} {sa : Option Addr} {l : List Int} (h : Own W base sa l) (hb : b2 ≤ base) : Own W b2 sa l := ⟨h.ints, fun a e => Nat.le_trans hb (h.far a e)⟩

/-- what reading a text answers. -/
def Parsed (l : List UInt8) (base : Nat) (e : Ending) (w' : World) : Prop := match parseN l with
 | .error f => e = .returned (.tuple #[cnfV 0 none 0 0 none 0 0, faultOf l f])
 | .ok x => ∃ se ce sl cl, e = .returned (.tuple #[cnfV x.1 se x.2.1.length ce sl x.2.2.length cl, faultV 0 (0, 0)]) ∧ Own w' base se x.2.1 ∧ Own w' base sl x.2.2 ∧ x.2.1.length ≤ ce ∧ x.2.2.length ≤ cl
theorem Parsed.err {l : List UInt8} {base : Nat} {f : Int × Option Nat} {e : Ending} {w' : World} (h : parseN l = .error f) (he : e = .returned (.tuple #[cnfV 0 none 0 0 none 0 0, faultOf l f])) : Parsed l base e w' := by
 unfold Parsed; rw [h]; exact he

/-- the two places of the results. -/
structure Res (w W : World) : Prop where
 r0 : W.heap[w.heap.size]? = some (.cells #[.int .i64 0, .slice none 0 0, .slice none 0 0] 33 (0, 0))
 r1 : W.heap[w.heap.size + 1]? = some (.cells #[.int .i64 0, .int .i64 0, .int .i64 0] 28 (0, 0))
 below : Below w.heap.size w W
theorem Res.on {w W W' : World} (h : Res w W) (hb : Below W.heap.size W W') : Res w W' :=
 ⟨(hb.block _ (Array.getElem?_eq_some_iff.1 h.r0).1).trans h.r0, (hb.block _ (Array.getElem?_eq_some_iff.1 h.r1).1).trans h.r1, h.below.trans (hb.mono h.below.size)⟩
theorem Res.size {w W : World} (h : Res w W) : w.heap.size + 2 ≤ W.heap.size := (Array.getElem?_eq_some_iff.1 h.r1).1

set_option maxHeartbeats 1000000 in
theorem parse_long (s : ByteArray) (w : World) (h63 : s.size ≤ 9223372036854775807) (hs : 1048576 < s.size) :
  Calls Tryz.prog 8 #[.string s] w fun e w' => Parsed s.data.toList w.heap.size e w' ∧ Below w.heap.size w w' := by
 have HP : Hid (parseN s.data.toList = .error (5, none)) := by
  show _ = _
  unfold parseN
  rw [if_pos (by simpa using hs)]
 obtain ⟨WA, hWA⟩ : ∃ WA, WA = (w.alloc (Obj.cells #[.int .i64 0, .slice none 0 0, .slice none 0 0] 33 (0, 0))).alloc (Obj.cells #[.int .i64 0, .int .i64 0, .int .i64 0] 28 (0, 0)) := ⟨_, rfl⟩
 have hr : Res w WA := by
  rw [hWA]
  refine ⟨(Below.heap_alloc _ _ _ (by simp)).trans (heap_alloc_new w _), ?_, ((Below.refl _ _).alloc (Nat.le_refl _) _).alloc (by simp) _⟩
  have := heap_alloc_new (w.alloc (Obj.cells #[.int .i64 0, .slice none 0 0, .slice none 0 0] 33 (0, 0))) (Obj.cells #[.int .i64 0, .int .i64 0, .int .i64 0] 28 (0, 0))
  simpa using this
 have c0 := fun j => cell_row hr.r0 j
 have c1 := fun j => cell_row hr.r1 j
 have f0 := fun j => unfrozen_row hr.r0 j
 have f1 := fun j => unfrozen_row hr.r1 j
 have HR := hid hr
 have HWA := hid hWA
 have hgt : (1048576 : Int) < (s.size : Int) := by omega
 clear hWA hr
 go_enter Tryz.func8, Tryz.ntmps8
 go_wp2_with (rw [← HWA.out])
 exact bodyPost_ret (v := .tuple #[cnfV 0 none 0 0 none 0 0, .agg #[.int .i64 5, .int .i64 0, .int .i64 0]]) (by simp [results, Tryz.results8, go_sem, c0, c1]) rfl ⟨Parsed.err HP.out rfl, ((((((HR.out.below.setCell (p := ⟨w.heap.size, 0, none⟩) (by simp) _).setCell (p := ⟨w.heap.size, 1, none⟩) (by simp) _).setCell (p := ⟨w.heap.size, 2, none⟩) (by simp) _).setCell (p := ⟨w.heap.size + 1, 0, none⟩) (by simp) _).setCell (p := ⟨w.heap.size + 1, 1, none⟩) (by simp) _).setCell (p := ⟨w.heap.size + 1, 2, none⟩) (by simp) _)⟩

theorem bodyRun_wf {n : Nat} {V C : Int} (t : List Piece) : ∀ (E L : List Int) (op : Bool), (∀ y ∈ E, -9223372036854775808 ≤ y ∧ y ≤ 9223372036854775807) → (∀ y ∈ L, -9223372036854775808 ≤ y ∧ y ≤ 9223372036854775807) → L.length ≤ 1048576 → ∀ {x : List Int × List Int}, bodyRun n V C t E L op = .ok x → (∀ y ∈ x.1, -9223372036854775808 ≤ y ∧ y ≤ 9223372036854775807) ∧ (∀ y ∈ x.2, -9223372036854775808 ≤ y ∧ y ≤ 9223372036854775807) := by
 induction t with
 | nil =>
  intro E L op hE hL _ x h
  unfold bodyRun at h
  split at h
  ·cases h
  ·cases h; exact ⟨hE, hL⟩
 | cons p t ih =>
  intro E L op hE hL hn x h
  unfold bodyRun at h
  split at h
  ·cases h
  ·split at h
   ·cases h
   ·split at h
    ·cases h
    ·split at h
     ·refine ih _ _ _ (fun y hy => ?_) hL hn h
      rcases List.mem_append.1 hy with hy | hy
      ·exact hE y hy
      ·simp only [List.mem_cons, List.not_mem_nil, or_false] at hy
       subst hy
       omega
     ·split at h
      ·cases h
      ·refine ih _ _ _ hE (fun y hy => ?_) (by simp; omega) h
       rcases List.mem_append.1 hy with hy | hy
       ·exact hL y hy
       ·simp only [List.mem_cons, List.not_mem_nil, or_false] at hy
        have := litN_range p.w
        rw [hy, litNum_eq]
        omega

theorem ints_own {W : World} {base n c : Nat} {sa : Option Addr} {l : List Int} (h : W.ownsRow base 3 1 (.slice sa n c) l.length (ci l)) (hw : ∀ y ∈ l, -9223372036854775808 ≤ y ∧ y ≤ 9223372036854775807) : Own W base sa l := by
 refine ⟨⟨fun k hk => ?_, fun k hk => hw _ (List.getElem_mem hk)⟩, fun a ha => ?_⟩
 ·rcases h.2 with ⟨hv, h0⟩ | ⟨g, cap, cur, hv, hb, hg, _⟩
  ·omega
  ·simp only [Value.slice.injEq] at hv
   obtain ⟨rfl, rfl, rfl⟩ := hv
   exact ⟨_, rfl, (Array.getElem?_eq_some_iff.1 hg).1, h.cells (g := g) rfl k _ (by simp [ci, List.getElem?_eq_getElem hk])⟩
 ·subst ha
  rcases h.2 with ⟨hv, h0⟩ | ⟨g, cap, cur, hv, hb, hg, _⟩
  ·cases hv
  ·simp only [Value.slice.injEq, Option.some.injEq] at hv
   rw [hv.1]
   exact hb

/-- the words from k on, as the loop has them. -/
theorem drop_cons {l : List Piece} {k : Nat} (h : k < l.length) : l.drop k = l[k] :: l.drop (k + 1) := List.drop_eq_getElem_cons h

set_option maxHeartbeats 4000000 in
set_option maxRecDepth 100000 in
theorem parse_short (s : ByteArray) (w : World) (hs : s.size ≤ 1048576) :
  Calls Tryz.prog 8 #[.string s] w fun e w' => Parsed s.data.toList w.heap.size e w' ∧ Below w.heap.size w w' := by
 obtain ⟨WA, hWA⟩ : ∃ WA, WA = (w.alloc (Obj.cells #[.int .i64 0, .slice none 0 0, .slice none 0 0] 33 (0, 0))).alloc (Obj.cells #[.int .i64 0, .int .i64 0, .int .i64 0] 28 (0, 0)) := ⟨_, rfl⟩
 have hr : Res w WA := by
  rw [hWA]
  refine ⟨(Below.heap_alloc _ _ _ (by simp)).trans (heap_alloc_new w _), ?_, ((Below.refl _ _).alloc (Nat.le_refl _) _).alloc (by simp) _⟩
  have := heap_alloc_new (w.alloc (Obj.cells #[.int .i64 0, .slice none 0 0, .slice none 0 0] 33 (0, 0))) (Obj.cells #[.int .i64 0, .int .i64 0, .int .i64 0] 28 (0, 0))
  simpa using this
 have HLEN : Hid (s.data.toList.length = s.size) := by show _ = _; simp
 obtain ⟨l, hl⟩ : ∃ l, l = piecesFrom s.data.toList 0 0 := ⟨_, rfl⟩
 have hin : ∀ p ∈ l, p.at_ + p.w.length ≤ s.size := by
  rw [hl]; intro p hp
  have := pieces_in s.data.toList 0 0 p hp
  rw [HLEN.out] at this
  exact this
 have hcnt : l.length ≤ s.size := by
  rw [hl]
  have := pieces_count s.data.toList 0 0
  rw [HLEN.out] at this
  omega
 have HSH : Hid (¬ 1048576 < s.data.toList.length) := by show ¬ _; rw [HLEN.out]; omega
 have HL := hid hl
 have HPC := hid (pieces_any s WA hs)
 rw [← hl] at HPC
 obtain ⟨n, hn⟩ : ∃ n, n = l.length := ⟨_, rfl⟩
 have HN := hid hn
 have hn1 : n ≤ 1048576 := by omega
 have HIN := hid hin
 have HR := hid hr
 have HWA := hid hWA
 have hle : ¬ (1048576 : Int) < (s.size : Int) := by omega
 clear hWA hr hl hn hin hcnt
 cases hh : headN s.size l with
 | some f =>
  obtain ⟨fc, fp⟩ := f
  have hfp := headN_place HIN.out hh
  have HPE : Hid (parseN s.data.toList = .error (fc, some fp)) := by show _ = _; exact parseN_head HSH.out (by rw [HLEN.out, ← HL.out]; exact hh)
  have HV := hid (headV_fault hh)
  obtain ⟨hf1, hf2⟩ := hfp
  have hfb : (fc != 0) = true := by rw [bne_iff_ne]; exact hf1
  clear hh hf1
  go_enter Tryz.func8, Tryz.ntmps8
  go_wp2_with (first
   |(rw [← HWA.out])
   |(go_at_call 27; refine HPC.out.mono ?_; rintro e w1 ⟨v, rfl, hp1⟩; obtain ⟨sa, c, rfl, hpa⟩ := hp1.at; rw [← HN.out]; have HR1 := hid (HR.out.on hp1.below); have HD := hid (head_any s sa n c l w1 hpa HN.out.symm hn1 (fun p hp => Nat.le_trans (HIN.out p hp) hs)); rw [HV.out] at HD; clear hp1 hpa)
   |(go_at_call 28; refine HD.out.mono ?_; rintro e w2 ⟨rfl, b2⟩; have HR2 := hid (HR1.out.on b2); have HWR := hid (wrong_any s fc fp w2 hs hf2); clear b2)
   |(go_at_call 29; refine HWR.out.mono ?_; rintro e w3 ⟨rfl, b3⟩; have hr3 := HR2.out.on b3; have c0 := fun j => cell_row hr3.r0 j; have c1 := fun j => cell_row hr3.r1 j; have f0 := fun j => unfrozen_row hr3.r0 j; have f1 := fun j => unfrozen_row hr3.r1 j; have HR3 := hid hr3; unfold faultV; clear b3 hr3))
  exact bodyPost_ret (v := .tuple #[cnfV 0 none 0 0 none 0 0, .agg #[.int .i64 fc, .int .i64 ((spotN (s.data.toList.take fp)).1 : Int), .int .i64 ((spotN (s.data.toList.take fp)).2 : Int)]]) (by simp [results, Tryz.results8, go_sem, c0, c1]) rfl ⟨Parsed.err HPE.out rfl, ((((((HR3.out.below.setCell (p := ⟨w.heap.size, 0, none⟩) (by simp) _).setCell (p := ⟨w.heap.size, 1, none⟩) (by simp) _).setCell (p := ⟨w.heap.size, 2, none⟩) (by simp) _).setCell (p := ⟨w.heap.size + 1, 0, none⟩) (by simp) _).setCell (p := ⟨w.heap.size + 1, 1, none⟩) (by simp) _).setCell (p := ⟨w.heap.size + 1, 2, none⟩) (by simp) _)⟩
 | none =>
  obtain ⟨V, hV⟩ : ∃ V, V = numOf l 2 := ⟨_, rfl⟩
  obtain ⟨C, hC⟩ : ∃ C, C = numOf l 3 := ⟨_, rfl⟩
  have hVr := numOf_range l 2
  have hCr := numOf_range l 3
  have HV0 := headV_fine hh
  rw [← hV, ← hC] at HV0
  rw [← hV] at hVr
  rw [← hC] at hCr
  have HV := hid HV0
  have HPE : Hid (∀ f : Int × Nat, bodyRun s.size V C (l.drop 4) [] [] false = .error f → parseN s.data.toList = .error (f.1, some f.2)) := fun f hf => by
   refine parseN_err HSH.out (by rw [HLEN.out, ← HL.out]; exact hh) ?_
   rw [HLEN.out, ← HL.out, ← hV, ← hC]; exact hf
  have HPO : Hid (∀ x : List Int × List Int, bodyRun s.size V C (l.drop 4) [] [] false = .ok x → parseN s.data.toList = .ok (V, x.1, x.2)) := fun x hx => by
   rw [hV]
   have e : s.data.toList.length = s.size := HLEN.out
   have := parseN_ok (x := x) HSH.out (by rw [HLEN.out, ← HL.out]; exact hh) (by rw [HLEN.out, ← HL.out, ← hV, ← hC]; exact hx)
   rw [← HL.out] at this
   exact this
  obtain ⟨v1, v2⟩ := hVr
  obtain ⟨k1, k2⟩ := hCr
  clear hh HV0 hV hC
  go_enter Tryz.func8, Tryz.ntmps8
  go_wp2_with (first
   |(rw [← HWA.out])
   |(go_at_call 27; refine HPC.out.mono ?_; rintro e w1 ⟨v, rfl, hp1⟩; obtain ⟨sa, c, rfl, hpa⟩ := hp1.at; rw [← HN.out]; have HR1 := hid (HR.out.on hp1.below); have HPA := hid hpa; have HD := hid (head_any s sa n c l w1 hpa HN.out.symm hn1 (fun p hp => Nat.le_trans (HIN.out p hp) hs)); rw [HV.out] at HD; clear hp1 hpa)
   |(go_at_call 28; refine HD.out.mono ?_; rintro e w2 ⟨rfl, b2⟩; have HR2 := hid (HR1.out.on b2); have HP2 := hid (HPA.out.below b2); clear b2))
  have OUT0 : Hid (Out w2 (w2.alloc (Obj.cells #[.int .i64 V, .slice none 0 0, .slice none 0 0] 33 (0, 0))) w2.heap.size V [] [] (.slice none 0 0) (.slice none 0 0)) := ⟨heap_alloc_new w2 _, World.ownsRow_nil _ _ _ _, World.ownsRow_nil _ _ _ _, .inl rfl, (Below.refl _ _).alloc (Nat.le_refl _) _⟩
  go_loopw [10, 11] (fun ov iv W => ∃ (k : Nat) (E L : List Int) (op : Bool) (ve vl : Value), 4 ≤ k ∧ iv = .int .i64 k ∧ ov = .bool op ∧ E.length ≤ k ∧ L.length ≤ k ∧ k ≤ 1048580 ∧ Hid (bodyRun s.size V C (l.drop k) E L op = bodyRun s.size V C (l.drop 4) [] [] false ∧ Out w2 W w2.heap.size V E L ve vl)) (fun _ iv _ => 1048580 - (intOf iv).toNat)
  case atStart => exact ⟨4, [], [], false, _, _, Nat.le_refl _, rfl, rfl, Nat.zero_le _, Nat.zero_le _, by omega, rfl, OUT0.out⟩
  case round =>
   obtain ⟨k, E, L, op, ve, vl, hk, rfl, rfl, hE, hL, hkm, HB⟩ := hrel
   obtain ⟨hb1, hb2⟩ := HB.out
   have HRW : Hid (Res w wr) := by
    have q := HR2.out
    have qs := q.size
    exact ⟨(hb2.below.block _ (by omega)).trans q.r0, (hb2.below.block _ (by omega)).trans q.r1, q.below.trans (hb2.below.mono (by omega))⟩
   obtain ⟨⟨se, ce, rfl, hce⟩, sl, cl, rfl, hcl⟩ := hb2.ints
   have oc := fun j => cell_row hb2.row j
   have of := fun j => unfrozen_row hb2.row j
   have OUT := hid hb2
   by_cases hlt : k < n
   ·have hlt' : k < l.length := by rw [← HN.out]; exact hlt
    have hkb : k ≤ 1048576 := by omega
    obtain ⟨g, eg, hg, p0, p1, p2⟩ := HP2.out.at_ k hlt'
    subst eg
    have q0 := below_cell hb2.below hg p0
    have q1 := below_cell hb2.below hg p1
    have hpm := HIN.out _ (List.getElem_mem hlt')
    have hpl : l[k].at_ ≤ s.size := by omega
    rw [drop_cons hlt'] at hb1
    obtain ⟨at_, hat⟩ : ∃ a, a = l[k].at_ := ⟨_, rfl⟩
    obtain ⟨wd, hwd⟩ : ∃ a, a = l[k].w := ⟨_, rfl⟩
    have hli0 := literal_any ⟨wd.toArray⟩ wr (by rw [hwd]; show l[k].w.length ≤ _; omega)
    have hx := litN_range wd
    obtain ⟨x, hxe⟩ : ∃ x, x = litN wd := ⟨_, rfl⟩
    obtain ⟨ok, hok⟩ : ∃ b, b = litOk wd := ⟨_, rfl⟩
    have HLI : Hid (Calls Tryz.prog 30 #[str wd] wr fun e w' => e = .returned (.tuple #[.int .i64 x, .bool ok]) ∧ w' = wr) := by
     rw [hxe, hok]
     have e : (⟨wd.toArray⟩ : ByteArray).data.toList = wd := by simp
     rw [e] at hli0
     exact hli0
    have hb3 : (if (E.length : Int) = C then .error (135, at_) else if ok = false then .error (133, at_) else if V < x ∨ x < -V then .error (3, at_) else if x = 0 then bodyRun s.size V C (l.drop (k + 1)) (E ++ [(L.length : Int)]) L false else if L.length = 1048576 then .error (8, at_) else bodyRun s.size V C (l.drop (k + 1)) E (L ++ [x]) true) = bodyRun s.size V C (l.drop 4) [] [] false := by
     rw [← hb1, hat, hxe, hok, hwd]
     rfl
    rw [← hwd] at q0
    rw [← hat] at q1 hpl
    rw [← hxe] at hx
    obtain ⟨x1, x2⟩ := hx
    have HB3 := hid hb3
    clear hb1 hb2 hb3 HB p0 p1 p2 hpm hli0 hxe hok hwd hat
    by_cases hEC : (E.length : Int) = C
    ·have hEb : ((E.length : Int) == C) = true := by rw [beq_iff_eq]; exact hEC
     have HERR : Hid (parseN s.data.toList = .error ((135 : Int), some at_)) := HPE.out (135, at_) (by rw [← HB3.out, if_pos hEC])
     clear hEC
     go_wp2_with (first
      |(go_at_call 29; refine (wrong_any s 135 at_ _ hs hpl).mono ?_; rintro e w3 ⟨rfl, b3⟩; have hr3 := HRW.out.on b3; have c0 := fun j => cell_row hr3.r0 j; have c1 := fun j => cell_row hr3.r1 j; have f0 := fun j => unfrozen_row hr3.r0 j; have f1 := fun j => unfrozen_row hr3.r1 j; have HR3 := hid hr3; unfold faultV; clear b3 hr3))
     exact bodyPost_ret (v := .tuple #[cnfV 0 none 0 0 none 0 0, .agg #[.int .i64 135, .int .i64 ((spotN (s.data.toList.take at_)).1 : Int), .int .i64 ((spotN (s.data.toList.take at_)).2 : Int)]]) (by simp [results, Tryz.results8, go_sem, c0, c1]) rfl ⟨Parsed.err HERR.out rfl, ((((((HR3.out.below.setCell (p := ⟨w.heap.size, 0, none⟩) (by simp) _).setCell (p := ⟨w.heap.size, 1, none⟩) (by simp) _).setCell (p := ⟨w.heap.size, 2, none⟩) (by simp) _).setCell (p := ⟨w.heap.size + 1, 0, none⟩) (by simp) _).setCell (p := ⟨w.heap.size + 1, 1, none⟩) (by simp) _).setCell (p := ⟨w.heap.size + 1, 2, none⟩) (by simp) _)⟩
    ·have hEb : ((E.length : Int) == C) = false := by rw [beq_eq_false_iff_ne]; exact hEC
     rw [if_neg hEC] at HB3
     clear hEC
     cases ok with
     | false =>
      have HERR : Hid (parseN s.data.toList = .error ((133 : Int), some at_)) := HPE.out (133, at_) (by rw [← HB3.out, if_pos rfl])
      go_wp2_with (first
       |(go_at_call 30; refine HLI.out.mono ?_; rintro e w' ⟨rfl, rfl⟩)
       |(go_at_call 29; refine (wrong_any s 133 at_ _ hs hpl).mono ?_; rintro e w3 ⟨rfl, b3⟩; have hr3 := HRW.out.on b3; have c0 := fun j => cell_row hr3.r0 j; have c1 := fun j => cell_row hr3.r1 j; have f0 := fun j => unfrozen_row hr3.r0 j; have f1 := fun j => unfrozen_row hr3.r1 j; have HR3 := hid hr3; unfold faultV; clear b3 hr3))
      exact bodyPost_ret (v := .tuple #[cnfV 0 none 0 0 none 0 0, .agg #[.int .i64 133, .int .i64 ((spotN (s.data.toList.take at_)).1 : Int), .int .i64 ((spotN (s.data.toList.take at_)).2 : Int)]]) (by simp [results, Tryz.results8, go_sem, c0, c1]) rfl ⟨Parsed.err HERR.out rfl, ((((((HR3.out.below.setCell (p := ⟨w.heap.size, 0, none⟩) (by simp) _).setCell (p := ⟨w.heap.size, 1, none⟩) (by simp) _).setCell (p := ⟨w.heap.size, 2, none⟩) (by simp) _).setCell (p := ⟨w.heap.size + 1, 0, none⟩) (by simp) _).setCell (p := ⟨w.heap.size + 1, 1, none⟩) (by simp) _).setCell (p := ⟨w.heap.size + 1, 2, none⟩) (by simp) _)⟩
     | true =>
      rw [if_neg (by decide)] at HB3
      by_cases hV1 : V < x
      ·have HERR : Hid (parseN s.data.toList = .error ((3 : Int), some at_)) := HPE.out (3, at_) (by rw [← HB3.out, if_pos (.inl hV1)])
       go_wp2_with (first
        |(go_at_call 30; refine HLI.out.mono ?_; rintro e w' ⟨rfl, rfl⟩)
        |(go_at_call 29; refine (wrong_any s 3 at_ _ hs hpl).mono ?_; rintro e w3 ⟨rfl, b3⟩; have hr3 := HRW.out.on b3; have c0 := fun j => cell_row hr3.r0 j; have c1 := fun j => cell_row hr3.r1 j; have f0 := fun j => unfrozen_row hr3.r0 j; have f1 := fun j => unfrozen_row hr3.r1 j; have HR3 := hid hr3; unfold faultV; clear b3 hr3))
       exact bodyPost_ret (v := .tuple #[cnfV 0 none 0 0 none 0 0, .agg #[.int .i64 3, .int .i64 ((spotN (s.data.toList.take at_)).1 : Int), .int .i64 ((spotN (s.data.toList.take at_)).2 : Int)]]) (by simp [results, Tryz.results8, go_sem, c0, c1]) rfl ⟨Parsed.err HERR.out rfl, ((((((HR3.out.below.setCell (p := ⟨w.heap.size, 0, none⟩) (by simp) _).setCell (p := ⟨w.heap.size, 1, none⟩) (by simp) _).setCell (p := ⟨w.heap.size, 2, none⟩) (by simp) _).setCell (p := ⟨w.heap.size + 1, 0, none⟩) (by simp) _).setCell (p := ⟨w.heap.size + 1, 1, none⟩) (by simp) _).setCell (p := ⟨w.heap.size + 1, 2, none⟩) (by simp) _)⟩
      ·by_cases hV2 : x < -V
       ·have HERR : Hid (parseN s.data.toList = .error ((3 : Int), some at_)) := HPE.out (3, at_) (by rw [← HB3.out, if_pos (.inr hV2)])
        go_wp2_with (first
         |(go_at_call 30; refine HLI.out.mono ?_; rintro e w' ⟨rfl, rfl⟩)
         |(go_at_call 29; refine (wrong_any s 3 at_ _ hs hpl).mono ?_; rintro e w3 ⟨rfl, b3⟩; have hr3 := HRW.out.on b3; have c0 := fun j => cell_row hr3.r0 j; have c1 := fun j => cell_row hr3.r1 j; have f0 := fun j => unfrozen_row hr3.r0 j; have f1 := fun j => unfrozen_row hr3.r1 j; have HR3 := hid hr3; unfold faultV; clear b3 hr3))
        exact bodyPost_ret (v := .tuple #[cnfV 0 none 0 0 none 0 0, .agg #[.int .i64 3, .int .i64 ((spotN (s.data.toList.take at_)).1 : Int), .int .i64 ((spotN (s.data.toList.take at_)).2 : Int)]]) (by simp [results, Tryz.results8, go_sem, c0, c1]) rfl ⟨Parsed.err HERR.out rfl, ((((((HR3.out.below.setCell (p := ⟨w.heap.size, 0, none⟩) (by simp) _).setCell (p := ⟨w.heap.size, 1, none⟩) (by simp) _).setCell (p := ⟨w.heap.size, 2, none⟩) (by simp) _).setCell (p := ⟨w.heap.size + 1, 0, none⟩) (by simp) _).setCell (p := ⟨w.heap.size + 1, 1, none⟩) (by simp) _).setCell (p := ⟨w.heap.size + 1, 2, none⟩) (by simp) _)⟩
       ·rw [if_neg (by omega)] at HB3
        by_cases hx0 : x = 0
        ·subst hx0
         rw [if_pos rfl] at HB3
         go_wp2_with (first
          |(go_at_call 30; refine HLI.out.mono ?_; rintro e w' ⟨rfl, rfl⟩)
          |(at_builtin; refine app_end rfl _ _ rfl OUT.out (L.length : Int) rfl rfl (by omega) ?_; intro v4 w4 r4 q4; obtain ⟨⟨sx, cx, rfl, _⟩, _⟩ := r4.ints; rw [show (E ++ [(L.length : Int)]).length = E.length + 1 by simp] at r4 ⊢; have u1 := fun j => cell_row q4 j; have u2 := fun j => unfrozen_row q4 j; have R4 := hid r4; clear r4 q4))
         exact ⟨⟨k + 1, E ++ [(L.length : Int)], L, false, _, _, by omega, by go_num, rfl, by simp; omega, by omega, by omega, HB3.out, R4.out⟩, by simp [intOf]; omega⟩
        ·have hx1 : (x != 0) = true := by rw [bne_iff_ne]; exact hx0
         have hx2 : (x == 0) = false := by rw [beq_eq_false_iff_ne]; exact hx0
         rw [if_neg hx0] at HB3
         clear hx0
         by_cases hLm : L.length = 1048576
         ·have hLb : ((L.length : Int) == 1048576) = true := by rw [beq_iff_eq]; omega
          have HERR : Hid (parseN s.data.toList = .error ((8 : Int), some at_)) := HPE.out (8, at_) (by rw [← HB3.out, if_pos hLm])
          clear hLm
          go_wp2_with (first
           |(go_at_call 30; refine HLI.out.mono ?_; rintro e w' ⟨rfl, rfl⟩)
           |(go_at_call 29; refine (wrong_any s 8 at_ _ hs hpl).mono ?_; rintro e w3 ⟨rfl, b3⟩; have hr3 := HRW.out.on b3; have c0 := fun j => cell_row hr3.r0 j; have c1 := fun j => cell_row hr3.r1 j; have f0 := fun j => unfrozen_row hr3.r0 j; have f1 := fun j => unfrozen_row hr3.r1 j; have HR3 := hid hr3; unfold faultV; clear b3 hr3))
          exact bodyPost_ret (v := .tuple #[cnfV 0 none 0 0 none 0 0, .agg #[.int .i64 8, .int .i64 ((spotN (s.data.toList.take at_)).1 : Int), .int .i64 ((spotN (s.data.toList.take at_)).2 : Int)]]) (by simp [results, Tryz.results8, go_sem, c0, c1]) rfl ⟨Parsed.err HERR.out rfl, ((((((HR3.out.below.setCell (p := ⟨w.heap.size, 0, none⟩) (by simp) _).setCell (p := ⟨w.heap.size, 1, none⟩) (by simp) _).setCell (p := ⟨w.heap.size, 2, none⟩) (by simp) _).setCell (p := ⟨w.heap.size + 1, 0, none⟩) (by simp) _).setCell (p := ⟨w.heap.size + 1, 1, none⟩) (by simp) _).setCell (p := ⟨w.heap.size + 1, 2, none⟩) (by simp) _)⟩
         ·have hLb : ((L.length : Int) == 1048576) = false := by rw [beq_eq_false_iff_ne]; omega
          rw [if_neg hLm] at HB3
          clear hLm
          go_wp2_with (first
           |(go_at_call 30; refine HLI.out.mono ?_; rintro e w' ⟨rfl, rfl⟩)
           |(at_builtin; refine app_lit rfl _ _ rfl OUT.out x rfl rfl (by omega) ?_; intro v4 w4 r4 q4; obtain ⟨_, sx, cx, rfl, _⟩ := r4.ints; rw [show (L ++ [x]).length = L.length + 1 by simp] at r4 ⊢; have u1 := fun j => cell_row q4 j; have u2 := fun j => unfrozen_row q4 j; have R4 := hid r4; clear r4 q4))
          exact ⟨⟨k + 1, E, L ++ [x], true, _, _, by omega, by go_num, rfl, by omega, by simp; omega, by omega, HB3.out, R4.out⟩, by simp [intOf]; omega⟩
   ·have hd : l.drop k = [] := List.drop_eq_nil_of_le (by rw [← HN.out]; omega)
    rw [hd] at hb1
    have hb3 : (if op = true ∨ (E.length : Int) < C then .error (135, s.size) else .ok (E, L)) = bodyRun s.size V C (l.drop 4) [] [] false := by rw [← hb1]; rfl
    have HB3 := hid hb3
    clear hb1 hb2 hb3 HB hd
    have hfull : op = true ∨ (op = false ∧ (E.length : Int) < C) ∨ (op = false ∧ ¬ (E.length : Int) < C) := by
     cases op
     ·by_cases h : (E.length : Int) < C
      ·exact .inr (.inl ⟨rfl, h⟩)
      ·exact .inr (.inr ⟨rfl, h⟩)
     ·exact .inl rfl
    rcases hfull with rfl | ⟨rfl, hEC⟩ | ⟨rfl, hEC⟩
    ·have HERR : Hid (parseN s.data.toList = .error ((135 : Int), some s.size)) := HPE.out (135, s.size) (by rw [← HB3.out, if_pos (.inl rfl)])
     go_wp2_with (first
      |(go_at_call 29; refine (wrong_any s 135 s.size _ hs (Nat.le_refl _)).mono ?_; rintro e w3 ⟨rfl, b3⟩; have hr3 := HRW.out.on b3; have c0 := fun j => cell_row hr3.r0 j; have c1 := fun j => cell_row hr3.r1 j; have f0 := fun j => unfrozen_row hr3.r0 j; have f1 := fun j => unfrozen_row hr3.r1 j; have HR3 := hid hr3; unfold faultV; clear b3 hr3))
     exact bodyPost_ret (v := .tuple #[cnfV 0 none 0 0 none 0 0, .agg #[.int .i64 135, .int .i64 ((spotN (s.data.toList.take s.size)).1 : Int), .int .i64 ((spotN (s.data.toList.take s.size)).2 : Int)]]) (by simp [results, Tryz.results8, go_sem, c0, c1]) rfl ⟨Parsed.err HERR.out rfl, ((((((HR3.out.below.setCell (p := ⟨w.heap.size, 0, none⟩) (by simp) _).setCell (p := ⟨w.heap.size, 1, none⟩) (by simp) _).setCell (p := ⟨w.heap.size, 2, none⟩) (by simp) _).setCell (p := ⟨w.heap.size + 1, 0, none⟩) (by simp) _).setCell (p := ⟨w.heap.size + 1, 1, none⟩) (by simp) _).setCell (p := ⟨w.heap.size + 1, 2, none⟩) (by simp) _)⟩
    ·have HERR : Hid (parseN s.data.toList = .error ((135 : Int), some s.size)) := HPE.out (135, s.size) (by rw [← HB3.out, if_pos (.inr hEC)])
     go_wp2_with (first
      |(go_at_call 29; refine (wrong_any s 135 s.size _ hs (Nat.le_refl _)).mono ?_; rintro e w3 ⟨rfl, b3⟩; have hr3 := HRW.out.on b3; have c0 := fun j => cell_row hr3.r0 j; have c1 := fun j => cell_row hr3.r1 j; have f0 := fun j => unfrozen_row hr3.r0 j; have f1 := fun j => unfrozen_row hr3.r1 j; have HR3 := hid hr3; unfold faultV; clear b3 hr3))
     exact bodyPost_ret (v := .tuple #[cnfV 0 none 0 0 none 0 0, .agg #[.int .i64 135, .int .i64 ((spotN (s.data.toList.take s.size)).1 : Int), .int .i64 ((spotN (s.data.toList.take s.size)).2 : Int)]]) (by simp [results, Tryz.results8, go_sem, c0, c1]) rfl ⟨Parsed.err HERR.out rfl, ((((((HR3.out.below.setCell (p := ⟨w.heap.size, 0, none⟩) (by simp) _).setCell (p := ⟨w.heap.size, 1, none⟩) (by simp) _).setCell (p := ⟨w.heap.size, 2, none⟩) (by simp) _).setCell (p := ⟨w.heap.size + 1, 0, none⟩) (by simp) _).setCell (p := ⟨w.heap.size + 1, 1, none⟩) (by simp) _).setCell (p := ⟨w.heap.size + 1, 2, none⟩) (by simp) _)⟩
    ·have HOK := hid (HPO.out (E, L) (by rw [← HB3.out, if_neg (by simp; omega)]))
     have c0 := fun j => cell_row HRW.out.r0 j
     have c1 := fun j => cell_row HRW.out.r1 j
     have f0 := fun j => unfrozen_row HRW.out.r0 j
     have f1 := fun j => unfrozen_row HRW.out.r1 j
     have hwf := bodyRun_wf (l.drop 4) [] [] false (by simp) (by simp) (by simp) (x := (E, L)) (by rw [← HB3.out, if_neg (by simp; omega)])
     have IE := hid (ints_own OUT.out.oe hwf.1)
     have IL := hid (ints_own OUT.out.ol hwf.2)
     have hsz2 := HR2.out.size
     clear hwf
     go_wp2
     refine bodyPost_ret (v := .tuple #[cnfV V se E.length ce sl L.length cl, .agg #[.int .i64 0, .int .i64 0, .int .i64 0]]) (by simp [results, Tryz.results8, go_sem, c0, c1]) rfl ⟨?_, ((((((HRW.out.below.setCell (p := ⟨w.heap.size, 0, none⟩) (by simp) _).setCell (p := ⟨w.heap.size, 1, none⟩) (by simp) _).setCell (p := ⟨w.heap.size, 2, none⟩) (by simp) _).setCell (p := ⟨w.heap.size + 1, 0, none⟩) (by simp) _).setCell (p := ⟨w.heap.size + 1, 1, none⟩) (by simp) _).setCell (p := ⟨w.heap.size + 1, 2, none⟩) (by simp) _)⟩
     unfold Parsed
     rw [HOK.out]
     refine ⟨se, ce, sl, cl, rfl, ?_, ?_, hce, hcl⟩
     ·exact ((((((IE.out.store (by omega)).store (by omega)).store (by omega)).store (by omega)).store (by omega)).store (by omega)).mono (by omega)
     ·exact ((((((IL.out.store (by omega)).store (by omega)).store (by omega)).store (by omega)).store (by omega)).store (by omega)).mono (by omega)
end Go.Proofs.YtdkboifpdodonacGreatDoor.Cn
/-
 FormulaClauses: the law, over a contract of the program's own ParseCnf.
-/
namespace Go.Proofs.YtdkboifpdodonacGreatDoor.Cn
open Go.RowKit Go.Deep PureCnf
set_option maxRecDepth 100000

/-- what a function that reads clauses answers. -/
def Parses (f : Nat) : Prop := ∀ (s : ByteArray) (w : World), s.size ≤ 9223372036854775807 → Calls Tryz.prog f #[.string s] w fun e w' => Parsed s.data.toList w.heap.size e w' ∧ Below w.heap.size w w'
theorem parses_own : Parses 8 := fun s w h => by
 by_cases hs : s.size ≤ 1048576
 ·exact parse_short s w hs
 ·exact parse_long s w h (by omega)

theorem bodyRun_count {n : Nat} {V C : Int} (t : List Piece) : ∀ (E L : List Int) (op : Bool) {x : List Int × List Int}, bodyRun n V C t E L op = .ok x → x.1.length + x.2.length ≤ E.length + L.length + t.length := by
 induction t with
 | nil =>
  intro E L op x h
  unfold bodyRun at h
  split at h
  ·cases h
  ·cases h; simp
 | cons p t ih =>
  intro E L op x h
  unfold bodyRun at h
  split at h
  ·cases h
  ·split at h
   ·cases h
   ·split at h
    ·cases h
    ·split at h
     ·have := ih _ _ _ h
      simp at this ⊢; omega
     ·split at h
      ·cases h
      ·have := ih _ _ _ h
       simp at this ⊢; omega
theorem parseN_small {l : List UInt8} {x : Int × List Int × List Int} (h : parseN l = .ok x) : x.2.1.length ≤ 1048576 ∧ x.2.2.length ≤ 1048576 := by
 unfold parseN at h
 split at h
 ·cases h
 ·next hs =>
  split at h
  ·cases h
  ·split at h
   ·cases h
   ·next y hy =>
    cases h
    have h1 := bodyRun_count _ _ _ _ hy
    have h2 := pieces_count l 0 0
    simp at h1 ⊢
    omega


end Go.Proofs.YtdkboifpdodonacGreatDoor.Cn
/-
 FormulaFresh: what each text is read to, by itself.
-/
namespace Go.Proofs.YtdkboifpdodonacGreatDoor
open Go.RowKit Go.Deep PureCnf PureForm ShfKit
set_option maxRecDepth 100000

def outF (l : List UInt8) : List Nd := match parseF l with
 | .ok o => o
 | .error _ => []
theorem outF_few (l : List UInt8) : (outF l).length ≤ 4194304 := by
 unfold outF
 cases h : parseF l with
 | error f => exact Nat.zero_le _
 | ok o =>
  have := Go.Proofs.YtdkboifpdodonacGreatDoor.Doc.parseF_len h
  show o.length ≤ _
  omega
/-- a list of nodes in memory of its own, and a fault. -/
def GotN (base : Nat) (W : World) (l : List UInt8) (e : Ending) : Prop := ∃ sa ca a b c, e = .returned (.tuple #[.slice sa (outF l).length ca, .agg #[.int .i64 a, .int .i64 b, .int .i64 c]]) ∧ W.ownsRow base 44 2 (.slice sa (outF l).length ca) (outF l).length (ndL (outF l))
theorem ParsedP.got {l : List UInt8} {base : Nat} {e : Ending} {W : World} (h : ParsedP l base e W) : GotN base W l e := by
 unfold ParsedP at h
 unfold GotN outF
 cases hp : parseF l with
 | error f =>
  rw [hp] at h
  rcases f with ⟨f1, f2⟩
  cases f2 with
  | none => exact ⟨none, 0, _, _, _, h, World.ownsRow_nil _ _ _ _⟩
  | some p => exact ⟨none, 0, _, _, _, h, World.ownsRow_nil _ _ _ _⟩
 | ok o =>
  rw [hp] at h
  obtain ⟨v, he, ho⟩ := h
  obtain ⟨sa, ca, rfl⟩ := own_sh ho
  exact ⟨sa, ca, _, _, _, he, ho⟩
theorem gotF {l : List UInt8} {base : Nat} {e : Ending} {W : World} (h : Ref.ParsedF l base e W) : GotN base W l e := by
 unfold Ref.ParsedF at h
 unfold GotN outF
 cases hp : parseF l with
 | error f =>
  rw [hp] at h
  rcases f with ⟨f1, f2⟩
  cases f2 with
  | none => exact ⟨none, 0, _, _, _, h, World.ownsRow_nil _ _ _ _⟩
  | some p => exact ⟨none, 0, _, _, _, h, World.ownsRow_nil _ _ _ _⟩
 | ok o =>
  rw [hp] at h
  obtain ⟨v, he, ho⟩ := h
  obtain ⟨sa, ca, rfl⟩ := own_sh ho
  exact ⟨sa, ca, _, _, _, he, ho⟩
theorem nodes_of {W : World} {B : Nat} {sa : Option Addr} {ca : Nat} {l : List Nd} (h : W.ownsRow B 44 2 (.slice sa l.length ca) l.length (ndL l)) : NodesAt W sa l := by
 obtain ⟨_, _, e, hn⟩ := Doc.own_nodes (l := l) (show W.ownsRow B 44 2 (.slice sa l.length ca) l.length (Doc.nds l) from h)
 cases e
 exact hn
def outC (l : List UInt8) : Int × List Int × List Int := match parseN l with
 | .ok x => x
 | .error _ => (0, [], [])
theorem outC_few (l : List UInt8) : (outC l).2.1.length ≤ 4194304 ∧ (outC l).2.2.length ≤ 4194304 := by
 unfold outC
 cases h : parseN l with
 | error f => exact ⟨Nat.zero_le _, Nat.zero_le _⟩
 | ok x =>
  have := Cn.parseN_small h
  show x.2.1.length ≤ _ ∧ x.2.2.length ≤ _
  omega
/-- clauses in memory of their own, and a fault. -/
def GotC (base : Nat) (W : World) (l : List UInt8) (e : Ending) : Prop := ∃ se ce sl cl a b c, e = .returned (.tuple #[cnfV (outC l).1 se (outC l).2.1.length ce sl (outC l).2.2.length cl, .agg #[.int .i64 a, .int .i64 b, .int .i64 c]]) ∧ RowsO W base (.slice se (outC l).2.1.length ce) (.slice sl (outC l).2.2.length cl) (outC l).2.1 (outC l).2.2 ∧ IntsAt W se (outC l).2.1 ∧ IntsAt W sl (outC l).2.2
theorem ParsedO.got {l : List UInt8} {base : Nat} {e : Ending} {W : World} (h : ParsedO l base e W) : GotC base W l e := by
 unfold ParsedO at h
 unfold GotC outC
 cases hp : parseN l with
 | error f =>
  rw [hp] at h
  rcases f with ⟨f1, f2⟩
  have h0 : IntsAt W none [] := ⟨fun k hk => absurd hk (Nat.not_lt_zero _), fun k hk => absurd hk (Nat.not_lt_zero _)⟩
  cases f2 with
  | none => exact ⟨none, 0, none, 0, _, _, _, h, ⟨World.ownsRow_nil _ _ _ _, World.ownsRow_nil _ _ _ _, .inl rfl⟩, h0, h0⟩
  | some p => exact ⟨none, 0, none, 0, _, _, _, h, ⟨World.ownsRow_nil _ _ _ _, World.ownsRow_nil _ _ _ _, .inl rfl⟩, h0, h0⟩
 | ok x =>
  rw [hp] at h
  obtain ⟨se, ce, sl, cl, he, h1, h2, _, _, h3⟩ := h
  exact ⟨se, ce, sl, cl, _, _, _, he, h3, h1.ints, h2.ints⟩
/-- clauses that can be read, from a block on. -/
def GotI (base : Nat) (W : World) (l : List UInt8) (e : Ending) : Prop := ∃ se ce sl cl a b c, e = .returned (.tuple #[cnfV (outC l).1 se (outC l).2.1.length ce sl (outC l).2.2.length cl, .agg #[.int .i64 a, .int .i64 b, .int .i64 c]]) ∧ Own W base se (outC l).2.1 ∧ Own W base sl (outC l).2.2
theorem cn_own {W : World} {base : Nat} {sa : Option Addr} {l : List Int} (h : Cn.Own W base sa l) : Own W base sa l := ⟨⟨h.ints.at_, h.ints.wf⟩, h.far⟩
theorem gotI {l : List UInt8} {base : Nat} {e : Ending} {W : World} (h : Cn.Parsed l base e W) : GotI base W l e := by
 unfold Cn.Parsed at h
 unfold GotI outC
 cases hp : parseN l with
 | error f =>
  rw [hp] at h
  rcases f with ⟨f1, f2⟩
  have h0 : Own W base none [] := ⟨⟨fun k hk => absurd hk (Nat.not_lt_zero _), fun k hk => absurd hk (Nat.not_lt_zero _)⟩, fun a h => by cases h⟩
  cases f2 with
  | none => exact ⟨none, 0, none, 0, _, _, _, h, h0, h0⟩
  | some p => exact ⟨none, 0, none, 0, _, _, _, h, h0, h0⟩
 | ok x =>
  rw [hp] at h
  obtain ⟨se, ce, sl, cl, he, h1, h2, _, _⟩ := h
  exact ⟨se, ce, sl, cl, _, _, _, he, cn_own h1, cn_own h2⟩
theorem IntsAt.kept {W W' : World} {base : Nat} {sa : Option Addr} {l : List Int} (h : Own W base sa l) (hs : W.heap.size ≤ W'.heap.size) (hk : ∀ k, base ≤ k → k < W.heap.size → W'.heap[k]? = W.heap[k]?) : Own W' base sa l := by
 refine ⟨⟨fun k hk2 => ?_, h.ints.wf⟩, h.far⟩
 obtain ⟨a, e, hb, hc⟩ := h.ints.at_ k hk2
 refine ⟨a, e, Nat.lt_of_lt_of_le hb hs, ?_⟩
 rw [World.cell?_of_block (w := W) (by rw [add_block]; exact hk a.block (h.far a e) hb)]
 exact hc
/-- the lists of lists, as the law lays them. -/
theorem mkAp {W : World} {B e size et ga : Nat} {D : List Rw} (hown : ∀ d ∈ D, W.ownsRow B e size d.1 d.2.1 d.2.2) (hap : D.Pairwise fun x y => ∀ k, x.1.ownBlock = some k → y.1.ownBlock ≠ some k) (hall : W.heap[ga]? = some (.cells (D.map (·.1)).toArray et (0, 0))) (hne : et ≠ e) : Ap W B e size et ga (.slice none 0 0) (raws D) 0 := by
 have get : ∀ (i : Nat) (x : Pr), (raws D)[i]? = some x → ∃ d, D[i]? = some d ∧ x = prOf d.1 d.2.1 d.2.2 := fun i x hx => by
  unfold raws at hx
  rw [List.getElem?_map] at hx
  cases hd : D[i]? with
  | none => rw [hd] at hx; cases hx
  | some d => rw [hd] at hx; cases hx; exact ⟨d, rfl, rfl⟩
 have ap : ∀ (i j : Nat) (x y : Rw) (k : Nat), D[i]? = some x → D[j]? = some y → i < j → x.1.ownBlock = some k → y.1.ownBlock = some k → False := fun i j x y k hx hy hij h1 h2 => by
  obtain ⟨hi, ex⟩ := List.getElem?_eq_some_iff.1 hx
  obtain ⟨hj, ey⟩ := List.getElem?_eq_some_iff.1 hy
  have := (List.pairwise_iff_getElem.1 hap) i j hi hj hij k
  rw [ex, ey] at this
  exact this h1 h2
 refine ⟨⟨fun i x hx => ?_, fun i x k hx hk => ?_, fun i j x y k hx hy hij h1 h2 => ?_⟩, ?_, World.ownsRow_nil _ _ _ _, by simp [Value.ownBlock], hne⟩
 ·obtain ⟨d, hd, rfl⟩ := get i x hx
  exact Pair.start (hown d (List.mem_of_getElem? hd))
 ·obtain ⟨d, hd, rfl⟩ := get i x hx
  exact Lib.ownsRow_kind (hown d (List.mem_of_getElem? hd)) k (hk.elim id id)
 ·obtain ⟨d, hd, rfl⟩ := get i x hx
  obtain ⟨d2, hd2, rfl⟩ := get j y hy
  rcases Nat.lt_or_gt_of_ne hij with h | h
  ·exact ap i j d d2 k hd hd2 h (h1.elim id id) (h2.elim id id)
  ·exact ap j i d2 d k hd2 hd h (h2.elim id id) (h1.elim id id)
 ·rw [hall]
  simp [raws, prOf]
def fixC : List UInt8 := [112, 32, 99, 110, 102, 32, 51, 32, 50, 10, 49, 32, 45, 50, 32, 48, 32, 50, 32, 51, 32, 48, 10]
theorem fixC_E : (outC fixC).2.1.length = 2 := by kernel_rfl
theorem fixC_L : (outC fixC).2.2.length = 4 := by kernel_rfl
end Go.Proofs.YtdkboifpdodonacGreatDoor
/-
 FormulaFresh: what lies where, in the law.
-/
namespace Go.Proofs.YtdkboifpdodonacGreatDoor
open Go.RowKit Go.Deep PureCnf PureForm ShfKit
set_option maxRecDepth 100000

/-- behind a Parse: its list. -/
structure Nz (W0 W : World) (b : Nat) (gv : Value) (l : List Nd) : Prop where
 own : W.ownsRow W0.heap.size 44 2 gv l.length (ndL l)
 hi : ∀ k, gv.ownBlock = some k → k < b
 below : Below W0.heap.size W0 W
 low : W0.heap.size ≤ b
 size : W.heap.size = b + 1
theorem Nz.of {W0 W1 W : World} {gv : Value} {l : List Nd} {f : Array Value} (ho : W1.ownsRow W0.heap.size 44 2 gv l.length (ndL l)) (hb : Below W0.heap.size W0 W1) (hW : W = W1.alloc (.cells f 28)) : Nz W0 W W1.heap.size gv l := by
 have b1 : Below W1.heap.size W1 W := by rw [hW]; exact (Below.refl _ _).alloc (Nat.le_refl _) _
 exact ⟨ownsRow_below ho b1, fun k hk => (own_block ho hk).2, hb.trans (b1.mono hb.size), hb.size, by rw [hW]; simp⟩
/-- behind a ParseCnf: its lists, its box. -/
structure Cz (W0 W : World) (b : Nat) (V : Int) (E L : List Int) (se : Option Addr) (ne ce : Nat) (sl : Option Addr) (nl cl : Nat) : Prop where
 rows : RowsO W W0.heap.size (.slice se ne ce) (.slice sl nl cl) E L
 hE : ∀ k, (Value.slice se ne ce).ownBlock = some k → k < b
 hL : ∀ k, (Value.slice sl nl cl).ownBlock = some k → k < b
 iE : IntsAt W se E
 iL : IntsAt W sl L
 box : W.heap[b]? = some (.cells #[.int .i64 V, .slice se ne ce, .slice sl nl cl] 33 (0, 0))
 below : Below W0.heap.size W0 W
 low : W0.heap.size ≤ b
 size : W.heap.size = b + 2
theorem Cz.of {W0 W1 W : World} {V : Int} {E L : List Int} {se sl : Option Addr} {ne ce nl cl : Nat} {f : Array Value} (hr : RowsO W1 W0.heap.size (.slice se ne ce) (.slice sl nl cl) E L) (iE : IntsAt W1 se E) (iL : IntsAt W1 sl L) (hb : Below W0.heap.size W0 W1)
  (hW : W = (W1.alloc (.cells #[.int .i64 V, .slice se ne ce, .slice sl nl cl] 33)).alloc (.cells f 28)) : Cz W0 W W1.heap.size V E L se ne ce sl nl cl := by
 have s1 : (W1.alloc (.cells #[.int .i64 V, .slice se ne ce, .slice sl nl cl] 33)).heap.size = W1.heap.size + 1 := by simp
 have b1 : Below W1.heap.size W1 W := by rw [hW]; exact ((Below.refl _ _).alloc (Nat.le_refl _) _).alloc (by omega) _
 refine ⟨hr.on b1, fun k hk => (own_block hr.oe hk).2, fun k hk => (own_block hr.ol hk).2, iE.below b1, iL.below b1, ?_, hb.trans (b1.mono hb.size), hb.size, by rw [hW]; simp⟩
 rw [hW]
 exact (Lib.alloc_old _ _ _ (by omega)).trans (heap_alloc_new W1 _)
/-- behind the document's ParseCnf. -/
structure Dz (W0 W : World) (b : Nat) (V : Int) (E L : List Int) (se : Option Addr) (ne ce : Nat) (sl : Option Addr) (nl cl : Nat) : Prop where
 oE : Own W W0.heap.size se E
 oL : Own W W0.heap.size sl L
 box : W.heap[b]? = some (.cells #[.int .i64 V, .slice se ne ce, .slice sl nl cl] 33 (0, 0))
 below : Below W0.heap.size W0 W
 low : W0.heap.size ≤ b
 size : W.heap.size = b + 2
theorem Dz.of {W0 W1 W : World} {V : Int} {E L : List Int} {se sl : Option Addr} {ne ce nl cl : Nat} {f : Array Value} (hE : Own W1 W0.heap.size se E) (hL : Own W1 W0.heap.size sl L) (hb : Below W0.heap.size W0 W1)
  (hW : W = (W1.alloc (.cells #[.int .i64 V, .slice se ne ce, .slice sl nl cl] 33)).alloc (.cells f 28)) : Dz W0 W W1.heap.size V E L se ne ce sl nl cl := by
 have s1 : (W1.alloc (.cells #[.int .i64 V, .slice se ne ce, .slice sl nl cl] 33)).heap.size = W1.heap.size + 1 := by simp
 have b1 : Below W1.heap.size W1 W := by rw [hW]; exact ((Below.refl _ _).alloc (Nat.le_refl _) _).alloc (by omega) _
 refine ⟨hE.on b1, hL.on b1, ?_, hb.trans (b1.mono hb.size), hb.size, by rw [hW]; simp⟩
 rw [hW]
 exact (Lib.alloc_old _ _ _ (by omega)).trans (heap_alloc_new W1 _)
theorem KeptD.zone {V V' : World} {D : List Rw} {lo H : Nat} (h : KeptD V V' D) (hz : ∀ d ∈ D, ∀ k, d.1.ownBlock = some k → lo ≤ k ∧ k < H) (hlo : lo ≤ V.heap.size) : Below lo V V' ∧ ∀ k, H ≤ k → k < V.heap.size → V'.heap[k]? = V.heap[k]? := by
 refine ⟨⟨h.1.os, h.1.tape, h.1.output, h.1.size, fun k hk => h.2 k (by omega) (fun d hd e => ?_)⟩, fun k h1 h2 => h.2 k h2 (fun d hd e => ?_)⟩
 ·have := hz d hd k e
  omega
 ·have := hz d hd k e
  omega
theorem KeptD.kind {V V' : World} {D : List Rw} {e t k : Nat} {c : Array Value} {fz : Nat × Nat} (h : KeptD V V' D) (hk : ∀ d ∈ D, ∃ B size, V.ownsRow B e size d.1 d.2.1 d.2.2) (hr : V.heap[k]? = some (.cells c t fz)) (ht : t ≠ e) : V'.heap[k]? = V.heap[k]? :=
 h.2 k (Array.getElem?_eq_some_iff.1 hr).1 (fun d hd e2 => by
  obtain ⟨B, size, ho⟩ := hk d hd
  obtain ⟨c2, fz2, h2⟩ := Lib.ownsRow_kind ho k e2
  rw [hr] at h2
  simp at h2
  exact ht h2.2.1)
theorem own_kind_kept {V V' : World} {D : List Rw} {e t B size n : Nat} {v : Value} {xs : List Value} (h : KeptD V V' D) (hk : ∀ d ∈ D, ∃ B size, V.ownsRow B e size d.1 d.2.1 d.2.2) (ho : V.ownsRow B t size v n xs) (ht : t ≠ e) : V'.ownsRow B t size v n xs :=
 ShfKit.own_kept ho fun g hg => by
  obtain ⟨c, fz, h2⟩ := Lib.ownsRow_kind ho g hg
  exact h.kind hk h2 ht
end Go.Proofs.YtdkboifpdodonacGreatDoor
