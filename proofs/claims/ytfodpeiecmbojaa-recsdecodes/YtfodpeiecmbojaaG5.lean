/-
  still, apart.
-/
import Derived.Test.YtfodpeiecmbojaaG4
namespace Go.Proofs.Ytfodpeiecmbojaa
open Go.RowKit Go.Deep PureCrc

set_option maxRecDepth 100000 in
set_option maxHeartbeats 1000000 in
theorem still_any (base : Nat) (sv : Value) (n v : Nat) (w : World) (h : OwnB w base sv (List.replicate n v ++ List.replicate 64 (v + 1))) (hn : n ≤ 65536) (hv : v < 255) :
    Calls Try.prog 38 #[sv, .int .i64 (n : Int), .int .u8 (v : Int)] w fun e w' => e = .returned (.bool true) ∧ w' = w := by
  obtain ⟨g, cap, rfl, _, _, _, hrd⟩ := h.rd (by simp)
  have hlen : (List.replicate n v ++ List.replicate 64 (v + 1)).length = n + 64 := by simp
  rw [hlen]
  have HR1 : Hid (∀ k, k < n → w.cell? ⟨g, k, none⟩ = some (.int .u8 (v : Int))) := fun k hk => by
    have := hrd k (by omega)
    rw [Nat.zero_add, List.getElem_append_left (by simpa using hk)] at this
    simpa using this
  have HR2 : Hid (∀ k, n ≤ k → k < n + 64 → w.cell? ⟨g, k, none⟩ = some (.int .u8 ((v : Int) + 1))) := fun k h1 h2 => by
    have := hrd k (by omega)
    rw [Nat.zero_add, List.getElem_append_right (by simpa using h1), List.getElem_replicate] at this
    simpa using this
  clear hrd hlen h
  go_enter Try.func38, Try.ntmps38
  go_wp2_with fail
  go_loopw [7] (fun i W => ∃ k : Nat, k ≤ n + 64 ∧ i = .int .i64 k ∧ W = w) (fun i _ => n + 64 - (intOf i).toNat)
  case atStart => exact ⟨0, by omega, rfl, rfl⟩
  case round =>
    obtain ⟨k, hk, rfl, rfl⟩ := hrel
    by_cases hlt : k < n + 64
    · by_cases h1 : k < n
      · have hc := HR1.out k h1
        go_wp2_with fail
        exact ⟨⟨k + 1, hlt, rfl, trivial⟩, by simp [intOf]; omega⟩
      · have hc := HR2.out k (by omega) hlt
        have h2 : (n : Int) ≤ (k : Int) := by omega
        go_wp2_with fail
        exact ⟨⟨k + 1, hlt, rfl, trivial⟩, by simp [intOf]; omega⟩
    · go_wp2_with fail
      go_ret
      exact ⟨rfl, rfl⟩

theorem still_at (base : Nat) (sv : Value) (n v : Nat) (w : World) (vz : Int) (hz : vz = (v : Int)) (h : OwnB w base sv (List.replicate n v ++ List.replicate 64 (v + 1))) (hn : n ≤ 65536) (hv : v < 255) :
    Calls Try.prog 38 #[sv, .int .i64 (n : Int), .int .u8 vz] w fun e w' => e = .returned (.bool true) ∧ w' = w := by
  subst hz
  exact still_any base sv n v w h hn hv
theorem marked_at (base : Nat) (sv : Value) (l : List Nat) (v : Nat) (w : World) (vz : Int) (hz : vz = (v : Int)) (h : OwnB w base sv l) (hb : base ≤ w.heap.size) (hl : l.length ≤ 65536) (hv : v < 255) :
    Calls Try.prog 37 #[sv, .int .u8 vz] w fun e w' => ∃ sv', e = .returned sv' ∧ OwnB w' base sv' (List.replicate l.length v ++ List.replicate 64 (v + 1)) ∧ Touch sv.ownBlock.toList w w' ∧ ∀ b, sv'.ownBlock = some b → b ∈ sv.ownBlock.toList ∨ w.heap.size ≤ b := by
  subst hz
  exact marked_any base sv l v w h hb hl hv

theorem conv_own {w : World} {base : Nat} {v : Value} {l : List Nat} (h : OwnB w base v l) : (convert 22 9 v).run Try.prog w = .ok (.string (strOf l)) w := by
  rcases h.2 with ⟨hv, hn⟩ | ⟨g, cap, cur, hv, hb, hg, hc, _, _, ht⟩
  · have hl : l = [] := List.eq_nil_of_length_eq_zero hn
    subst hl
    rw [hv]
    exact run_convert_bytes_nil (P := Try.prog) w 22 5 Try.underlying22 Try.underlying5 0 0 9 Try.underlying9
  · rw [hv]
    by_cases h0 : 0 < l.length
    · obtain ⟨g', cap', hv', _, _, _, hrd⟩ := h.rd h0
      rw [hv] at hv'
      simp only [Value.slice.injEq, Option.some.injEq, Addr.mk.injEq, and_true, true_and] at hv'
      obtain ⟨rfl, rfl⟩ := hv'
      exact conv_any _ hrd
    · have hl : l = [] := List.eq_nil_of_length_eq_zero (by omega)
      subst hl
      exact conv_any (l := []) (b := g) (o := 0) _ (fun i hi => by simp at hi)

theorem OwnB.touch {w w' : World} {base : Nat} {v : Value} {l : List Nat} {F : List Nat} (h : OwnB w base v l) (ht : Touch F w w') (hF : ∀ k, v.ownBlock = some k → k ∉ F) : OwnB w' base v l := by
  refine ⟨h.1, ?_⟩
  rcases h.2 with hn | ⟨g, cap, cur, hv, hb, hg, rest⟩
  · exact .inl hn
  · exact .inr ⟨g, cap, cur, hv, hb, (ht.block g (lt_of_block hg) (hF g (by rw [hv]; rfl))).trans hg, rest⟩
theorem OwnB.base {w : World} {base base' : Nat} {v : Value} {l : List Nat} (h : OwnB w base v l) (hb : ∀ k, v.ownBlock = some k → base' ≤ k) : OwnB w base' v l := by
  refine ⟨h.1, ?_⟩
  rcases h.2 with hn | ⟨g, cap, cur, hv, _, rest⟩
  · exact .inl hn
  · exact .inr ⟨g, cap, cur, hv, hb g (by rw [hv]; rfl), rest⟩

set_option maxRecDepth 100000 in
set_option maxHeartbeats 2000000 in
theorem apart_any (B : Nat) (x y z : Value) (lx ly lz : List Nat) (w : World) (hx : OwnB w B x lx) (hy : OwnB w B y ly) (hz : OwnB w B z lz) (hB : B ≤ w.heap.size)
    (hxy : ∀ k, x.ownBlock = some k → y.ownBlock ≠ some k) (hxz : ∀ k, x.ownBlock = some k → z.ownBlock ≠ some k) (hyz : ∀ k, y.ownBlock = some k → z.ownBlock ≠ some k)
    (h1 : lx.length ≤ 65536) (h2 : ly.length ≤ 65536) (h3 : lz.length ≤ 65536) :
    Calls Try.prog 18 #[x, y, z] w fun e w' => e = .returned (.bool true) ∧ Touch (x.ownBlock.toList ++ (y.ownBlock.toList ++ z.ownBlock.toList)) w w' := by
  obtain ⟨F, hF⟩ : ∃ F, F = x.ownBlock.toList ++ (y.ownBlock.toList ++ z.ownBlock.toList) := ⟨_, rfl⟩
  have FX : Hid (∀ b ∈ x.ownBlock.toList, b ∈ F) := fun b hb => by rw [hF]; exact List.mem_append_left _ hb
  have FY : Hid (∀ b ∈ y.ownBlock.toList, b ∈ F) := fun b hb => by rw [hF]; exact List.mem_append_right _ (List.mem_append_left _ hb)
  have FZ : Hid (∀ b ∈ z.ownBlock.toList, b ∈ F) := fun b hb => by rw [hF]; exact List.mem_append_right _ (List.mem_append_right _ hb)
  rw [← hF]
  clear hF
  obtain ⟨sx, cx, ex⟩ := hx.shape
  obtain ⟨sy, cy, ey⟩ := hy.shape
  obtain ⟨sz, cz, ez⟩ := hz.shape
  have cy0 := conv_own hy
  have cz0 := conv_own hz
  have MX := hid (marked_at B x lx 201 w 201 rfl hx hB h1 (by omega))
  have YL : Hid (∀ k, y.ownBlock = some k → k < w.heap.size) := fun k hk => (hy.lt k hk).2
  have ZL : Hid (∀ k, z.ownBlock = some k → k < w.heap.size) := fun k hk => (hz.lt k hk).2
  have HY := hid hy
  have HZ := hid hz
  have HXY := hid hxy
  have HXZ := hid hxz
  have HYZ := hid hyz
  obtain ⟨Sy, hSy⟩ : ∃ S, S = strOf ly := ⟨_, rfl⟩
  obtain ⟨Sz, hSz⟩ : ∃ S, S = strOf lz := ⟨_, rfl⟩
  have HSY := hid hSy
  have HSZ := hid hSz
  rw [← hSy] at cy0
  rw [← hSz] at cz0
  have EX := hid ex
  have EY := hid ey
  have EZ := hid ez
  clear hy hz hx hxy hxz hyz hSy hSz ex ey ez
  go_enter Try.func18, Try.ntmps18
  go_wp2_with fail
  with_reducible refine MX.out.mono ?_
  rintro e w1 ⟨gx, rfl, a1, a2, a3⟩
  have y1 : OwnB w1 B y ly := HY.out.touch a2 (fun k hk hm => by simp at hm; exact HXY.out k hm hk)
  have z1 : OwnB w1 B z lz := HZ.out.touch a2 (fun k hk hm => by simp at hm; exact HXZ.out k hm hk)
  have cy1 := conv_own y1
  have cz1 := conv_own z1
  rw [← HSY.out] at cy1
  rw [← HSZ.out] at cz1
  have B1 := hid (show Touch F w w1 from a2.mono FX.out)
  have MY := hid (marked_at B y ly 203 w1 203 rfl y1 (Nat.le_trans hB a2.size) h2 (by omega))
  have A1 := hid a1
  have A3 := hid a3
  have S1 := hid a2.size
  have Z1 := hid z1
  clear a1 a2 a3 y1 z1 MX HY HZ cy0 cz0
  go_wp2_with fail
  with_reducible refine MY.out.mono ?_
  rintro e w2 ⟨gy, rfl, b1, b2, b3⟩
  have gx2 : OwnB w2 B gx (List.replicate lx.length 201 ++ List.replicate 64 202) := A1.out.touch b2 (fun k hk hm => by
    simp at hm
    rcases A3.out k hk with h | h
    · simp at h; exact HXY.out k h hm
    · have := YL.out k hm; omega)
  have z2 : OwnB w2 B z lz := Z1.out.touch b2 (fun k hk hm => by simp at hm; exact HYZ.out k hm hk)
  have cz2 := conv_own z2
  rw [← HSZ.out] at cz2
  have B2 := hid (show Touch F w w2 from B1.out.trans b2 (fun b hb => .inl (FY.out b hb)))
  have MZ := hid (marked_at B z lz 205 w2 205 rfl z2 (Nat.le_trans hB B2.out.size) h3 (by omega))
  have BB1 := hid b1
  have BB3 := hid b3
  have GX2 := hid gx2
  have S2 := hid b2.size
  clear b1 b2 b3 gx2 z2 MY Z1 A1 cy1 cz1
  go_wp2_with fail
  with_reducible refine MZ.out.mono ?_
  rintro e w3 ⟨gz, rfl, c1, c2, c3⟩
  have gx3 : OwnB w3 B gx (List.replicate lx.length 201 ++ List.replicate 64 202) := GX2.out.touch c2 (fun k hk hm => by
    simp at hm
    rcases A3.out k hk with h | h
    · simp at h; exact HXZ.out k h hm
    · have := ZL.out k hm; omega)
  have gy3 : OwnB w3 B gy (List.replicate ly.length 203 ++ List.replicate 64 204) := BB1.out.touch c2 (fun k hk hm => by
    simp at hm
    rcases BB3.out k hk with h | h
    · simp at h; exact HYZ.out k h hm
    · have := ZL.out k hm; have := S1.out; omega)
  have B3 := hid (show Touch F w w3 from B2.out.trans c2 (fun b hb => .inl (FZ.out b hb)))
  have K1 := hid (still_at B gx lx.length 201 w3 201 rfl gx3 h1 (by omega))
  have K2 := hid (still_at B gy ly.length 203 w3 203 rfl gy3 h2 (by omega))
  have K3 := hid (still_at B gz lz.length 205 w3 205 rfl c1 h3 (by omega))
  clear c1 c2 c3 gx3 gy3 MZ GX2 BB1 cz2
  rw [EX.out, EY.out, EZ.out]
  go_wp2_with (first
    | (go_at_call 38; with_reducible refine K1.out.mono ?_; rintro e w4 ⟨rfl, hh⟩; have hh := hh.symm; subst hh)
    | (go_at_call 38; with_reducible refine K2.out.mono ?_; rintro e w4 ⟨rfl, hh⟩; have hh := hh.symm; subst hh)
    | (go_at_call 38; with_reducible refine K3.out.mono ?_; rintro e w4 ⟨rfl, hh⟩; have hh := hh.symm; subst hh))
  go_ret
  exact ⟨rfl, B3.out⟩
end Go.Proofs.Ytfodpeiecmbojaa
