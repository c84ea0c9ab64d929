/-
  One line of the text: what has been read so far, and the landed program's line over it.
-/
import Derived.Test.YtdkboifpdodonaaDoorLin
import Derived.Test.YtdkboifpdodonaaDoorB0
namespace Go.Proofs.YtdkboifpdodonaaDoor
open Go.RowKit Go.Deep PureCnf
set_option maxRecDepth 100000

theorem cutL_tw {p : UInt8 → Bool} {l : List UInt8} {k e : Nat} (he : e ≤ l.length) : (cutL l k e).takeWhile p = cutL l k (runW p l k e) := by
  have h1 : (cutL l k e).takeWhile p = (cutL l k e).take ((cutL l k e).takeWhile p).length := List.prefix_iff_eq_take.1 (List.takeWhile_prefix _)
  have h2 : ((cutL l k e).takeWhile p).length ≤ e - k := by
    have := (List.takeWhile_prefix p (l := cutL l k e)).length_le
    rwa [cutL_length he] at this
  rw [h1, ← cutL_run]
  generalize ((cutL l k e).takeWhile p).length = n at h2
  unfold cutL
  rw [List.drop_take, List.drop_take, List.take_take, Nat.min_eq_left h2, Nat.add_sub_cancel_left]

theorem hrun_le {n : Nat} {l : List Piece} : (∀ p ∈ l, p.at_ + p.w.length ≤ n) → ∀ {i : Nat} {f : Int × Nat}, hrun i l = some f → f.2 ≤ n := by
  induction l with
  | nil => intro _ i f h; simp [hrun] at h
  | cons p t ih =>
    intro hw i f h
    rw [hrun] at h
    split at h
    · cases h
      have := hw p (by simp)
      simp; omega
    · exact ih (fun q hq => hw q (by simp [hq])) h
theorem hOut_le {n : Nat} {l : List Piece} (hw : ∀ p ∈ l, p.at_ + p.w.length ≤ n) : (hOut l).2 ≤ n := by
  unfold hOut
  split
  · next f hf => exact hrun_le hw hf
  · split
    · show hEnd l ≤ n
      unfold hEnd
      cases h : l[l.length - 1]? with
      | none => exact Nat.zero_le _
      | some p => exact hw p (List.mem_of_getElem? h)
    · exact Nat.zero_le _
theorem bRun_le {n : Nat} {V C : Int} {l : List Piece} : (∀ p ∈ l, p.at_ + p.w.length ≤ n) → ∀ {E L : List Int}, (bRun V C l E L).1.2 ≤ n := by
  induction l with
  | nil => intro _ E L; exact Nat.zero_le _
  | cons p t ih =>
    intro hw E L
    rw [bRun]
    split
    · have := hw p (by simp)
      simp; omega
    · exact ih (fun q hq => hw q (by simp [hq]))

/-- what has been read ahead of place i, where a line begins. -/
structure Sofar (l : List UInt8) (i line : Nat) (V C : Int) (E L : List Int) (bg : Bool) : Prop where
  no : bg = false → V = 0 ∧ C = 0 ∧ E = [] ∧ L = [] ∧ piecesFrom l 0 0 = piecesFrom l i line
  yes : bg = true → headN l.length (piecesFrom l 0 0) = none ∧ V = numOf (piecesFrom l 0 0) 2 ∧ C = numOf (piecesFrom l 0 0) 3 ∧ (0 ≤ V ∧ V ≤ 65536) ∧ (E.length : Int) ≤ C ∧ E.length + L.length ≤ i ∧
    ∃ op, bodyRun l.length V C ((piecesFrom l 0 0).drop 4) [] [] false = bodyRun l.length V C (piecesFrom l i line) E L op ∧ (op = true → (E.length : Int) < C)

theorem line_step {w0 W : World} {b B : Nat} {V C : Int} {E L : List Int} {ve vl v : Value} {bg : Bool} (l : List UInt8) (i line : Nat) (hi : i < l.length) (hl : l.length ≤ 1048576)
    (h : Cl w0 W b V E L ve vl bg C) (hr : WRow W B v (lineWords l i (runW lineB l i l.length) line)) (hB : b < B) (hS : Sofar l i line V C E L bg) :
    Calls Tryd.prog 52 #[.pointer (some ⟨b, 0, none⟩), v] W fun e W' => ∃ (c : Int) (at_ : Nat), e = .returned (.tuple #[.int .i64 c, .int .i64 (at_ : Int)]) ∧
      ∃ V' C' E' L' ve' vl' bg', Cl w0 W' b V' E' L' ve' vl' bg' C' ∧ (c = 0 → Sofar l (runW lineB l i l.length + 1) (line + 1) V' C' E' L' bg') ∧ (c ≠ 0 → parseN l = .error (c, some at_) ∧ at_ ≤ l.length) := by
  have hlen : ¬ 1048576 < l.length := by omega
  have e0 := runW_ge lineB l i l.length
  have e1 := runW_le (p := lineB) (l := l) (i := i) (e := l.length) (by omega)
  have hpc := piecesFrom_on (line := line) hi
  obtain ⟨e, he⟩ : ∃ e, e = runW lineB l i l.length := ⟨_, rfl⟩
  rw [← he] at e0 e1 hpc hr ⊢
  obtain ⟨ws, hws⟩ : ∃ ws, ws = lineWords l i e line := ⟨_, rfl⟩
  have hin : ∀ p ∈ ws, p.at_ + p.w.length ≤ e := by rw [hws]; exact lineWords_in
  have hcn : ws.length ≤ e - i := by rw [hws]; exact lineWords_count
  have hk : ∀ p ∈ ws, p.line = line := by rw [hws]; exact lineWords_line
  have hk2 := pieces_line l (e + 1) (line + 1)
  rw [← hws] at hpc hr
  by_cases h0 : ws.length = 0
  · have hw0 : ws = [] := List.eq_nil_of_length_eq_zero h0
    rw [hw0] at hr hpc
    simp only [List.nil_append] at hpc
    refine (line_none h hr).mono ?_
    rintro x W' ⟨rfl, cl⟩
    refine ⟨0, 0, rfl, V, C, E, L, ve, vl, bg, cl, fun _ => ⟨fun hb => ?_, fun hb => ?_⟩, fun hc => absurd rfl hc⟩
    · have := hS.no hb
      rw [hpc] at this
      exact this
    · obtain ⟨a1, a2, a3, a4, a5, a6, op, a7, a8⟩ := hS.yes hb
      rw [hpc] at a7
      exact ⟨a1, a2, a3, a4, a5, by omega, op, a7, a8⟩
  · cases bg with
    | false =>
      obtain ⟨rfl, rfl, rfl, rfl, hp⟩ := hS.no rfl
      refine (line_head ws h hr hB (by omega) (by omega) (fun p hp => by have := hin p hp; omega)).mono ?_
      rintro x W' ⟨rfl, V', C', cl, hg⟩
      have hh := head_line (n := l.length) hk (fun p hp => by have := hk2 p hp; omega) (by omega)
      rw [← hpc, ← hp] at hh
      refine ⟨(hOut ws).1, (hOut ws).2, rfl, V', C', [], [], ve, vl, true, cl, fun hc => ⟨fun hb => Bool.noConfusion hb, fun _ => ?_⟩, fun hc => ?_⟩
      · rw [if_pos hc] at hh
        obtain ⟨b1, b2, b3, b4, b5⟩ := head_good (rest := piecesFrom l (e + 1) (line + 1)) hc
        rw [← hpc, ← hp] at b2 b3
        obtain ⟨rfl, rfl⟩ := hg hc
        refine ⟨hh, b2.symm, b3.symm, b4, by simpa using b5, by simp, false, ?_, fun hb => by cases hb⟩
        rw [hp, hpc, ← b1, List.drop_left]
      · rw [if_neg hc] at hh
        refine ⟨parseN_head hlen hh, ?_⟩
        have := hOut_le hin
        omega
    | true =>
      obtain ⟨a1, a2, a3, a4, a5, a6, op, a7, a8⟩ := hS.yes rfl
      refine (line_body ws h hr hB (by omega) a4 (by omega) (fun p hp => by have := hin p hp; omega)).mono ?_
      rintro x W' ⟨rfl, ve', vl', cl⟩
      have hb := body_line (n := l.length) (V := V) (C := C) (piecesFrom l (e + 1) (line + 1)) ws E L op a5 a8
      rw [← hpc] at hb
      refine ⟨(bRun V C ws E L).1.1, (bRun V C ws E L).1.2, rfl, V, C, _, _, ve', vl', true, cl, fun hc => ⟨fun hb => Bool.noConfusion hb, fun _ => ?_⟩, fun hc => ?_⟩
      · obtain ⟨op', b1, b2, b3, b4⟩ := hb.2 hc
        exact ⟨a1, a2, a3, a4, b2, by omega, op', by rw [a7, b1], b3⟩
      · refine ⟨parseN_err (f := (bRun V C ws E L).1) hlen a1 (by rw [← a2, ← a3, a7, hb.1 hc]), ?_⟩
        have := bRun_le (V := V) (C := C) hin (E := E) (L := L)
        omega
end Go.Proofs.YtdkboifpdodonaaDoor
