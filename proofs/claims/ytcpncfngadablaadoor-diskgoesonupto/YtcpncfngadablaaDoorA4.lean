import Derived.Test.YtcpncfngadablaaDoorA3
namespace Go.Proofs.YtcpncfngadablaaDoor
open Go.RowKit Go.Deep

/-- the pointer to a disk. -/
abbrev ptr (p : Nat) : Value := .pointer (some ⟨p, 0, none⟩)

theorem hid {q : Prop} (h : q) : Hid q := h
theorem name_size {s : ByteArray} (h : nameB s = true) : s.size ≤ 32 := by
  unfold nameB at h
  simp at h
  omega

section
variable {w : World} {E : Nat → Addr} {lo p mf mt : Nat} {D : DiskC}

theorem Rep.cell (h : Rep w lo p mf mt D) (i : Nat) : w.cell? ⟨p, i, none⟩ = (dRow D mf mt)[i]? := cell_row h.row i
theorem Rep.unfrozen (h : Rep w lo p mf mt D) (i : Nat) : w.frozen? ⟨p, i, none⟩ = false := unfrozen_row h.row i

set_option maxHeartbeats 400000 in
theorem look_bad (S : Sents w E) (s : ByteArray) (hn : nameB s = false) :
    Calls Tryd.prog 65 #[ptr p, .string s] w fun e w' => e = .returned (.tuple #[.pointer none, errV E 3]) ∧ ∃ n, w' = w.drewN n := by
  have c3 := S.var 3 (by omega)
  go_enter Tryd.func65, Tryd.ntmps65
  go_wp2_with (go_at_call 69; refine (isName_any _ _).mono ?_; rintro e w' ⟨rfl, rfl⟩)
  go_quiet (fail)
  go_wp2
  go_ret2
  exact ⟨rfl, _, rfl⟩

set_option maxHeartbeats 400000 in
theorem look_none (S : Sents w E) (R : Rep w lo p mf mt D) (s : ByteArray) (hn : nameB s = true) (hf : findE D.ents (nm s) = none) :
    Calls Tryd.prog 65 #[ptr p, .string s] w fun e w' => e = .returned (.tuple #[.pointer none, errV E 4]) ∧ ∃ n, w' = w.drewN n := by
  have c4 := S.var 4 (by omega)
  have k3 := R.cell 3
  have hl := R.look s (name_size hn)
  rw [hf] at hl
  simp only [dRow, Option.map_none, Option.isSome_none] at k3 hl
  clear hf
  go_enter Tryd.func65, Tryd.ntmps65
  go_wp2_with (go_at_call 69; refine (isName_any _ _).mono ?_; rintro e w' ⟨rfl, rfl⟩)
  go_quiet (fail)
  go_wp2
  go_ret2
  exact ⟨rfl, _, rfl⟩

set_option maxHeartbeats 400000 in
theorem look_some (R : Rep w lo p mf mt D) (s : ByteArray) (hn : nameB s = true) {e0 : Ent} (hf : findE D.ents (nm s) = some e0) :
    Calls Tryd.prog 65 #[ptr p, .string s] w fun e w' => e = .returned (.tuple #[ptr e0.lay.fb, .nilIface]) ∧ ∃ n, w' = w.drewN n := by
  have k3 := R.cell 3
  have hl := R.look s (name_size hn)
  rw [hf] at hl
  simp only [dRow, Option.map_some, Option.isSome_some] at k3 hl
  clear hf
  go_enter Tryd.func65, Tryd.ntmps65
  go_wp2_with (go_at_call 69; refine (isName_any _ _).mono ?_; rintro e w' ⟨rfl, rfl⟩)
  go_ret2
  exact ⟨rfl, 0, rfl⟩

set_option maxHeartbeats 400000 in
theorem find_off (S : Sents w E) (R : Rep w lo p mf mt D) (s : ByteArray) (ho : D.on = false) :
    Calls Tryd.prog 47 #[ptr p, .string s] w fun e w' => e = .returned (.tuple #[.pointer none, errV E 2]) ∧ ∃ n, w' = w.drewN n := by
  have c2 := S.var 2 (by omega)
  have k2 := R.cell 2
  simp only [dRow, ho] at k2
  go_enter Tryd.func47, Tryd.ntmps47
  go_wp2
  go_quiet (fail)
  go_wp2
  go_ret2
  exact ⟨rfl, _, rfl⟩

set_option maxHeartbeats 400000 in
theorem find_bad (S : Sents w E) (R : Rep w lo p mf mt D) (s : ByteArray) (ho : D.on = true) (hn : nameB s = false) :
    Calls Tryd.prog 47 #[ptr p, .string s] w fun e w' => e = .returned (.tuple #[.pointer none, errV E 3]) ∧ ∃ n, w' = w.drewN n := by
  have k2 := R.cell 2
  simp only [dRow, ho] at k2
  go_enter Tryd.func47, Tryd.ntmps47
  go_wp2_with (go_at_call 65; refine (look_bad S s hn).mono ?_; rintro e w' ⟨rfl, n, rfl⟩)
  go_ret2
  exact ⟨rfl, _, rfl⟩

set_option maxHeartbeats 400000 in
theorem find_none (S : Sents w E) (R : Rep w lo p mf mt D) (s : ByteArray) (ho : D.on = true) (hn : nameB s = true) (hf : findE D.ents (nm s) = none) :
    Calls Tryd.prog 47 #[ptr p, .string s] w fun e w' => e = .returned (.tuple #[.pointer none, errV E 4]) ∧ ∃ n, w' = w.drewN n := by
  have k2 := R.cell 2
  simp only [dRow, ho] at k2
  have H := hid (look_none S R s hn hf)
  clear hf
  go_enter Tryd.func47, Tryd.ntmps47
  go_wp2_with (go_at_call 65; refine H.out.mono ?_; rintro e w' ⟨rfl, n, rfl⟩)
  go_ret2
  exact ⟨rfl, _, rfl⟩

set_option maxHeartbeats 400000 in
theorem find_some (R : Rep w lo p mf mt D) (s : ByteArray) (ho : D.on = true) (hn : nameB s = true) {e0 : Ent} (hf : findE D.ents (nm s) = some e0) :
    Calls Tryd.prog 47 #[ptr p, .string s] w fun e w' => e = .returned (.tuple #[ptr e0.lay.fb, .nilIface]) ∧ ∃ n, w' = w.drewN n := by
  have k2 := R.cell 2
  simp only [dRow, ho] at k2
  have H := hid (look_some R s hn hf)
  clear hf
  go_enter Tryd.func47, Tryd.ntmps47
  go_wp2_with (go_at_call 65; refine H.out.mono ?_; rintro e w' ⟨rfl, n, rfl⟩)
  go_ret2
  exact ⟨rfl, _, rfl⟩
end
end Go.Proofs.YtcpncfngadablaaDoor
