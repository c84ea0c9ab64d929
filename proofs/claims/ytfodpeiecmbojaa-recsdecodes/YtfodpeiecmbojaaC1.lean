/-
  putHead.
-/
import Derived.Test.YtfodpeiecmbojaaA4
import Derived.Test.YtfodpeiecmbojaaB3
import Derived.Lib.BufferWrite
import Derived.Laws.MakeOwn
import Derived.Laws.CopyRow
namespace Go.Proofs.Ytfodpeiecmbojaa
open Go.RowKit Go.Deep PureCrc

theorem Try.info5 : (Try.prog.info? 5).map (fun i => (i.zero, i.size, i.bytes)) = some (some (.int .u8 0), 1, 1) := by kernel_rfl
theorem Try.size5 : (Try.prog.info? 5).map (·.size) = some 1 := by kernel_rfl

theorem lay_pref (p : List Nat) {m : Nat} (bs : List Nat) : lay (p ++ zeros m) p.length bs = (p ++ bs) ++ zeros (m - bs.length) := by
  unfold lay
  rw [List.take_left, ← List.drop_drop, List.drop_left]
  unfold zeros
  rw [List.drop_replicate]
theorem set_pref (p : List Nat) {m : Nat} (x : Nat) (h : 0 < m) : (p ++ zeros m).set p.length x = (p ++ [x]) ++ zeros (m - 1) := by
  obtain ⟨k, rfl⟩ : ∃ k, m = k + 1 := ⟨m - 1, by omega⟩
  rw [List.set_append_right _ _ (Nat.le_refl _), Nat.sub_self]
  simp [zeros, List.replicate_succ]

theorem Row.some {w : World} {b : Nat} {l : List Nat} (h : Row w b l) {i : Nat} (hi : i < l.length) : ∃ x, w.cell? ⟨b, i, none⟩ = some x := by
  have := h.rd i hi
  rw [Nat.zero_add] at this
  exact ⟨_, this⟩

theorem byteCells_bc (l : List UInt8) : Lib.byteCells l = (l.map fun x => x.toNat).map fun x : Nat => Value.int .u8 (x : Int) := by simp [Lib.byteCells]

set_option maxRecDepth 100000 in
set_option maxHeartbeats 1000000 in
theorem putHead_any (b N c : Nat) (kind place n : Nat) (w : World) (hr : Row w b (zeros N)) (hN : 64 ≤ N) (hc : N ≤ c) (hN2 : N ≤ 65536) (hk : kind < 256) (hn : n < 65536) (hp : place < 9223372036854775808) :
    Calls Try.prog 26 #[.slice (some ⟨b, 0, none⟩) N c, .int .i64 (kind : Int), .int .i64 (place : Int), .int .i64 (n : Int)] w fun e w' => e = .returned (.tuple #[]) ∧ Row w' b (head kind place n ++ zeros (N - 28)) ∧ Touch [b] w w' ∧ w'.heap.size = w.heap.size := by
  have hcp := Lib.run_copy_row_string (P := Try.prog) w 22 9 3 5 b 0 N c ⟨#[83, 84, 82, 65]⟩ (bc (zeros N)) 5 Try.underlying22 Try.size5 hr (by show 4 ≤ N; omega) (by rw [bc_size, zeros_length]; show 0 + 4 ≤ N; omega)
  obtain ⟨w1, hw1⟩ : ∃ w1, w1 = w.setRow b ((bc (zeros N)).toList.take 0 ++ Lib.byteCells (⟨#[83, 84, 82, 65]⟩ : ByteArray).data.toList ++ (bc (zeros N)).toList.drop (0 + (⟨#[83, 84, 82, 65]⟩ : ByteArray).size)).toArray := ⟨_, rfl⟩
  rw [← hw1] at hcp
  have r1 : Row w1 b ([83, 84, 82, 65] ++ zeros (N - 4)) := by
    have h := setRow_heap w b (bc (zeros N)) ((bc (zeros N)).toList.take 0 ++ Lib.byteCells (⟨#[83, 84, 82, 65]⟩ : ByteArray).data.toList ++ (bc (zeros N)).toList.drop (0 + (⟨#[83, 84, 82, 65]⟩ : ByteArray).size)).toArray 5 (0, 0) hr
    rw [← hw1] at h
    rw [Row, h]
    congr 2
    unfold bc
    rw [show (⟨#[83, 84, 82, 65]⟩ : ByteArray).size = 4 from rfl]
    simp [zeros, Lib.byteCells]
  have t1 : Touch [b] w w1 := by
    rw [hw1]
    exact ⟨rfl, rfl, rfl, by simp, fun k hk hb => setRow_other _ _ _ _ (by simpa using hb)⟩
  have s1 : w1.heap.size = w.heap.size := by rw [hw1]; simp
  obtain ⟨x4, c4⟩ := r1.some (i := 4) (by simp [zeros_length]; omega)
  have f4 := unfrozen_row r1
  have r2 : Row (w1.setCell ⟨b, 4, none⟩ (.int .u8 1)) b ([83, 84, 82, 65, 1] ++ zeros (N - 4 - 1)) := by
    have h := r1.set 4 1
    have e : ([83, 84, 82, 65] ++ zeros (N - 4)).set 4 1 = [83, 84, 82, 65, 1] ++ zeros (N - 4 - 1) := set_pref [83, 84, 82, 65] (m := N - 4) 1 (by omega)
    rw [e] at h
    exact h
  obtain ⟨w2, hw2⟩ : ∃ w2, w2 = w1.setCell ⟨b, 4, none⟩ (.int .u8 1) := ⟨_, rfl⟩
  rw [← hw2] at r2
  have t2 : Touch [b] w w2 := by rw [hw2]; exact t1.setCell (.inl (by simp)) _
  have s2 : w2.heap.size = w.heap.size := by rw [hw2, ← s1]; simp [World.setCell]
  obtain ⟨x5, c5⟩ := r2.some (i := 5) (by simp [zeros_length]; omega)
  have f5 := unfrozen_row r2
  have r3 : Row (w2.setCell ⟨b, 5, none⟩ (.int .u8 (kind : Int))) b ([83, 84, 82, 65, 1, kind] ++ zeros (N - 4 - 1 - 1)) := by
    have h := r2.set 5 kind
    have e : ([83, 84, 82, 65, 1] ++ zeros (N - 4 - 1)).set 5 kind = [83, 84, 82, 65, 1, kind] ++ zeros (N - 4 - 1 - 1) := set_pref [83, 84, 82, 65, 1] (m := N - 4 - 1) kind (by omega)
    rw [e] at h
    exact h
  obtain ⟨w3, hw3⟩ : ∃ w3, w3 = w2.setCell ⟨b, 5, none⟩ (.int .u8 (kind : Int)) := ⟨_, rfl⟩
  rw [← hw3] at r3
  have t3 : Touch [b] w w3 := by rw [hw3]; exact t2.setCell (.inl (by simp)) _
  have s3 : w3.heap.size = w.heap.size := by rw [hw3, ← s2]; simp [World.setCell]
  have P1 := hid (put_any _ b 6 2 (c - 6) n w3 r3 (by omega) (by simp [zeros_length]; omega))
  have hlay : lay ([83, 84, 82, 65, 1, kind] ++ zeros (N - 4 - 1 - 1)) 6 (le 2 n) = ([83, 84, 82, 65, 1, kind] ++ le 2 n) ++ zeros (N - 4 - 1 - 1 - 2) := by
    have := lay_pref [83, 84, 82, 65, 1, kind] (m := N - 4 - 1 - 1) (le 2 n)
    rw [le_length] at this
    exact this
  rw [hlay] at P1
  have P2 := hid (fun (W : World) (h : Row W b (([83, 84, 82, 65, 1, kind] ++ le 2 n) ++ zeros (N - 4 - 1 - 1 - 2))) => put_any _ b 8 8 (c - 8) place W h (by omega) (by simp [zeros_length, le_length]; omega))
  have hlay2 : lay (([83, 84, 82, 65, 1, kind] ++ le 2 n) ++ zeros (N - 4 - 1 - 1 - 2)) 8 (le 8 place) = head kind place n ++ zeros (N - 28) := by
    have := lay_pref ([83, 84, 82, 65, 1, kind] ++ le 2 n) (m := N - 4 - 1 - 1 - 2) (le 8 place)
    rw [le_length] at this
    have e8 : ([83, 84, 82, 65, 1, kind] ++ le 2 n).length = 8 := by simp [le_length]
    rw [e8] at this
    rw [this]
    unfold head zeros
    simp only [List.append_assoc, List.append_cancel_left_eq, List.replicate_append_replicate]
    congr 1
    omega
  rw [hlay2] at P2
  have HW2 := hid hw2
  have HW3 := hid hw3
  have HT3 := hid t3
  have HS3 := hid s3
  have hk2 : (kind : Int) % 256 = (kind : Int) := by omega
  clear hlay hlay2 hw1 hw2 hw3 r1 r2 r3 t1 t2 t3 s1 s2 s3 hr
  go_enter Try.func26, Try.ntmps26
  go_wp2_with (first
    | (rw [← HW3.out])
    | (rw [← HW2.out])
    | (go_at_call 28; refine (P2.out _ G1.out).mono ?_; rintro e w5 ⟨rfl, g1, g2, g3⟩; have K1 := hid g1; have K2 := hid g2; have K3 := hid g3; clear g1 g2 g3)
    | (go_at_call 28; refine P1.out.mono ?_; rintro e w4 ⟨rfl, g1, g2, g3⟩; have G1 := hid g1; have G2 := hid g2; have G3 := hid g3; clear g1 g2 g3))
  go_end0
  exact ⟨rfl, K1.out, (HT3.out.trans G2.out (fun d hd => .inl hd)).trans K2.out (fun d hd => .inl hd), by rw [K3.out, G3.out, HS3.out]⟩
end Go.Proofs.Ytfodpeiecmbojaa
