import Derived.Test.YtcpncfngadablaaDoorB4
namespace Go.Proofs.YtcpncfngadablaaDoor
open Go.RowKit Go.Deep

section
variable {w w' : World} {E : Nat → Addr} {lo p mf mt : Nat} {D : DiskC}

theorem FileAt.slice {B : Nat} {L : Lay} {f : FileA} (h : FileAt w B L f) : ∃ a c, L.sv = .slice a f.blocks.length c := by
  rcases h.own.2 with ⟨h1, h2⟩ | ⟨g, cap, cur, h1, _⟩
  · exact ⟨none, 0, by rw [h1, h2]⟩
  · exact ⟨_, cap, h1⟩

/-! ### Length -/
set_option maxHeartbeats 400000 in
theorem Length_err (V : Env w lo E) (s : ByteArray) (i : Nat) (hi : i < 11)
    (hf : Calls Tryd.prog 47 #[ptr p, .string s] w fun e w' => e = .returned (.tuple #[.pointer none, errV E i]) ∧ ∃ n, w' = w.drewN n) :
    Calls Tryd.prog 26 #[ptr p, .string s] w fun e w' => e = .returned (.tuple #[.int .i64 0, .bool false, .int .i64 (code i)]) ∧ Touch [] w w' := by
  have H := hid hf
  clear hf
  go_enter Tryd.func26, Tryd.ntmps26
  go_wp2_with (first | (go_at_call 47; refine H.out.mono ?_; rintro e w1 ⟨rfl, hq⟩; have HT := hid (tell_err (Quiet.env hq V).sents i hi); have HQ := hid (Quiet.touch hq []); clear hq) | (go_at_call 17; refine HT.out.mono ?_; rintro e w2 ⟨rfl, rfl⟩))
  go_ret3
  exact ⟨rfl, HQ.out⟩

set_option maxHeartbeats 400000 in
theorem Length_ok (R : Rep w lo p mf mt D) (s : ByteArray) (ho : D.on = true) (hn : nameB s = true) {e0 : Ent} (hf : findE D.ents (nm s) = some e0) :
    Calls Tryd.prog 26 #[ptr p, .string s] w fun e w' => e = .returned (.tuple #[.int .i64 e0.file.blocks.length, .bool e0.file.shut, .int .i64 0]) ∧ Touch [] w w' := by
  have H := hid (find_some R s ho hn hf)
  have hat := R.each e0 (findE_mem hf).1
  obtain ⟨ga, gc, hsv⟩ := hat.slice
  have c0 := cell_row hat.row 0
  have c1 := cell_row hat.row 1
  rw [hsv] at c0 c1
  simp at c0 c1
  clear hf hat hsv R
  cases hs : e0.file.shut
  all_goals
    rw [hs] at c0
    simp at c0
    go_enter Tryd.func26, Tryd.ntmps26
    go_wp2_with (go_at_call 47; refine H.out.mono ?_; rintro e w1 ⟨rfl, hq⟩; have d0 := (Quiet.cell hq _).trans c0; have d1 := (Quiet.cell hq _).trans c1; have HQ := hid (Quiet.touch hq []); clear hq)
    go_quiet (fail)
    go_wp2
    go_ret3
    exact ⟨rfl, HQ.out.drewN _⟩

def lengthA (s : ByteArray) (A : PubA) : Int × Bool × Int :=
  if nameB s then
    match findA A.files (nm s) with
    | none => (0, false, 12)
    | some f => (f.blocks.length, f.shut, 0)
  else (0, false, 11)

theorem Length_any (V : Env w lo E) (R : Rep w lo p mf mt D) (ho : D.on = true) (s : ByteArray) :
    Calls Tryd.prog 26 #[ptr p, .string s] w fun e w' => e = .returned (.tuple #[.int .i64 (lengthA s D.pub).1, .bool (lengthA s D.pub).2.1, .int .i64 (lengthA s D.pub).2.2]) ∧ Touch [] w w' := by
  unfold lengthA
  have hfp : findA D.pub.files (nm s) = (findE D.ents (nm s)).map Ent.file := find_pub _ _
  by_cases hn : nameB s = true
  · rw [if_pos hn, hfp]
    cases hf : findE D.ents (nm s) with
    | none => exact Length_err V s 4 (by omega) (find_none V.sents R s ho hn hf)
    | some e0 => exact Length_ok R s ho hn hf
  · rw [if_neg hn]
    exact Length_err V s 3 (by omega) (find_bad V.sents R s ho (by simpa using hn))

/-! ### has -/
set_option maxHeartbeats 400000 in
theorem has_any {B : Nat} {L : Lay} {f : FileA} (hat : FileAt w B L f) (i : Int) :
    Calls Tryd.prog 62 #[ptr L.fb, .int .i64 i] w fun e w' => e = .returned (.bool (decide (0 ≤ i ∧ i < f.blocks.length))) ∧ w' = w := by
  obtain ⟨ga, gc, hsv⟩ := hat.slice
  have c1 := cell_row hat.row 1
  rw [hsv] at c1
  simp at c1
  clear hat hsv
  by_cases h0 : 0 ≤ i
  · by_cases h1 : i < (f.blocks.length : Int)
    · have hd : decide (0 ≤ i ∧ i < (f.blocks.length : Int)) = true := by simp [h0, h1]
      rw [hd]
      clear hd
      go_enter Tryd.func62, Tryd.ntmps62
      go_wp2
      go_ret
      exact ⟨rfl, rfl⟩
    · have hd : decide (0 ≤ i ∧ i < (f.blocks.length : Int)) = false := by simp; omega
      rw [hd]
      clear hd
      go_enter Tryd.func62, Tryd.ntmps62
      go_wp2
      go_ret
      exact ⟨rfl, rfl⟩
  · have hd : decide (0 ≤ i ∧ i < (f.blocks.length : Int)) = false := by simp; omega
    rw [hd]
    clear hd
    go_enter Tryd.func62, Tryd.ntmps62
    go_wp2
    go_ret
    exact ⟨rfl, rfl⟩
end
end Go.Proofs.YtcpncfngadablaaDoor
