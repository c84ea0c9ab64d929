/-
  Decode of a block that is one.
-/
import Derived.Test.YtfodpeiecmbojaaC3
namespace Go.Proofs.Ytfodpeiecmbojaa
open Go.RowKit Go.Deep PureCrc

/-- words as cells. -/
def wc (l : List Nat) : Array Value := (l.map fun x : Nat => Value.int .u64 (x : Int)).toArray
/-- a row of records, word by word. -/
abbrev WRow (w : World) (b : Nat) (l : List Nat) : Prop := w.heap[b]? = some (.cells (wc l) 28 (0, 0))
theorem wc_set (l : List Nat) (i v : Nat) : (wc l).setIfInBounds i (.int .u64 (v : Int)) = wc (l.set i v) := by
  unfold wc
  rw [List.setIfInBounds_toArray, List.map_set]
theorem wc_get (l : List Nat) (i : Nat) : (wc l)[i]? = l[i]?.map fun x : Nat => Value.int .u64 (x : Int) := by simp [wc]
theorem WRow.wd {w : World} {b : Nat} {l : List Nat} (h : WRow w b l) : Wd w b 0 l := fun i hi => by
  rw [cell_row h, wc_get, Nat.zero_add, List.getElem?_eq_getElem hi]; rfl
theorem WRow.set {w : World} {b : Nat} {l : List Nat} (h : WRow w b l) (i v : Nat) : WRow (w.setCell ⟨b, i, none⟩ (.int .u64 (v : Int))) b (l.set i v) := by
  have := heap_setCell_row h i (.int .u64 (v : Int))
  rw [wc_set] at this
  exact this

theorem Try.info28 : (Try.prog.info? 28).map (fun i => (i.zero, i.size, i.bytes)) = some (some (.agg #[.int .u64 0, .int .u64 0, .int .u64 0, .int .u64 0]), 4, 32) := by kernel_rfl

theorem made_recs (n : Nat) : madeCells (Value.agg #[.int .u64 0, .int .u64 0, .int .u64 0, .int .u64 0]).cells (n * 4) = wc (zeros (4 * n)) := by
  apply Array.ext
  · rw [size_madeCells]; simp [wc, zeros]; omega
  · intro i h1 h2
    rw [size_madeCells] at h1
    have hz : ∀ k, k < 4 → (Value.agg #[.int .u64 0, .int .u64 0, .int .u64 0, .int .u64 0]).cells[k]! = Value.int .u64 0 := by
      intro k hk
      have : k = 0 ∨ k = 1 ∨ k = 2 ∨ k = 3 := by omega
      rcases this with rfl | rfl | rfl | rfl <;> rfl
    have hs : (Value.agg #[.int .u64 0, .int .u64 0, .int .u64 0, .int .u64 0]).cells.size = 4 := rfl
    simp only [madeCells, Array.getElem_map, Array.getElem_range, hs]
    rw [hz _ (Nat.mod_lt _ (by decide))]
    simp [wc, zeros]

theorem run_make_recs (n : Nat) (hn : n ≤ 65536) (w : World) : (Instr.makeSlice 29 (.int .i64 (n : Int)) (.int .i64 (n : Int))).run Try.prog w = .ok (.slice (some ⟨w.heap.size, 0, none⟩) n n) (w.alloc (.cells (wc (zeros (4 * n))) 28)) := by
  have hi := Try.info28
  cases h : Try.prog.info? 28 with
  | none => rw [h] at hi; simp at hi
  | some i =>
    rw [h] at hi
    simp only [Option.map_some, Option.some.injEq, Prod.mk.injEq] at hi
    obtain ⟨hz, hs, hb⟩ := hi
    have := run_make (P := Try.prog) w 29 28 i _ Try.underlying29 h hz .i64 .i64 n n (by omega) (by omega) (by rw [hb]; omega) (by omega)
    rw [hs, Int.toNat_natCast, made_recs] at this
    exact this

/-- how far the records are read. -/
def got (ws : List Nat) (n t : Nat) : List Nat := ws.take t ++ zeros (4 * n - t)
theorem got_succ {ws : List Nat} {n t : Nat} (h : t < ws.length) (hn : ws.length = 4 * n) : (got ws n t).set t ws[t] = got ws n (t + 1) := by
  unfold got
  have hl : (ws.take t).length = t := by rw [List.length_take]; omega
  have := set_pref (ws.take t) (m := 4 * n - t) ws[t] (by omega)
  rw [hl] at this
  rw [this, List.take_succ_eq_append_getElem h]
  rfl
theorem got_length {ws : List Nat} {n t : Nat} (h : t ≤ ws.length) (hn : ws.length = 4 * n) : (got ws n t).length = 4 * n := by
  simp only [got, List.length_append, List.length_take, zeros_length]; omega

set_option maxRecDepth 100000 in
set_option maxHeartbeats 2000000 in
theorem decode_ok (l : List Nat) (b o c : Nat) (w : World) (hr : Rd w b o l) (hbw : b < w.heap.size) (hb : ∀ x ∈ l, x < 256) (hc : l.length ≤ c)
    (h64 : 64 ≤ l.length) (hm : l.length ≤ 65536) (h32 : l.length % 32 = 0) (hp : num (PureCrc.cut l 8 8) < 9223372036854775808) (h1 : sumFits l) (h2 : Formed l) :
    Calls Try.prog 9 #[.int .i64 (l.getD 5 0 : Int), .int .i64 (num (PureCrc.cut l 8 8) : Int), .slice (some ⟨b, o, none⟩) l.length c] w fun e w' =>
      ∃ g, e = .returned (.tuple #[.slice (some ⟨g, 0, none⟩) (count l) (count l), .int .i64 0]) ∧ WRow w' g (words (4 * count l) (l.drop 28)) ∧ Touch [] w w' ∧ w.heap.size ≤ g := by
  have hb5 := hb _ (List.getElem_mem (show 5 < l.length by omega))
  have hk5 := h2.kind
  rw [getD_eq (by omega)] at hk5 ⊢
  have hn1 := h2.some
  have hn2 := h2.many
  have HM := hid (fun W => may_any (l[5] : Int) (num (PureCrc.cut l 8 8) : Int) (l.length : Int) W)
  have hmay : decide (mayN (l[5] : Int) (num (PureCrc.cut l 8 8) : Int) (l.length : Int)) = true := by
    apply decide_eq_true
    unfold mayN fitN
    rw [if_pos (by omega)]
    omega
  rw [hmay] at HM
  have HSO := hid (sumOf_any b o l.length c w (by omega) hc (by omega))
  have HSD := hid (summed_any b o l.length c w (by omega) hc (by omega))
  have HG := get_any (PureCrc.cut l (l.length - 4) 4) (by rw [cut_length (by omega)]; omega) (cut_lt hb) b (o + (l.length - 4)) (c - (l.length - 4)) w (hr.cut (by omega))
  rw [cut_length (by omega)] at HG
  have HG := hid HG
  have rt : Rd w b o (l.take (l.length - 4)) := by
    have := hr.cut (a := 0) (n := l.length - 4) (by omega)
    simpa [PureCrc.cut] using this
  have HS := sum_any (l.take (l.length - 4)) b o c w rt hbw (fun x hx => hb x (List.mem_of_mem_take hx)) (by rw [List.length_take]; omega)
  rw [show (l.take (l.length - 4)).length = l.length - 4 by rw [List.length_take]; omega] at HS
  have HS := hid HS
  have hs : num (PureCrc.cut l (l.length - 4) 4) = crc (l.take (l.length - 4)) := by
    have := h1
    unfold sumFits at this
    rwa [drop_cut4 (by omega)] at this
  have s1l : num (PureCrc.cut l (l.length - 4) 4) < 4294967296 := by
    have := num_lt (l := PureCrc.cut l (l.length - 4) 4) (cut_lt hb)
    rw [cut_length (by omega)] at this
    exact this
  obtain ⟨s1, hs1⟩ : ∃ s1, s1 = num (PureCrc.cut l (l.length - 4) 4) := ⟨_, rfl⟩
  rw [← hs] at HS
  rw [← hs1] at HG HS s1l
  have HF := hid (fun (W : World) (h : Rd W b o l) => formed_any l b o c W h hb h64 hc hm h32)
  have HPL := hid (fun (W : World) (h : Rd W b o l) => placeOf_any l b o c W h hb (by omega) hc)
  have HN := hid (fun (W : World) (h : Rd W b o l) => countOf_any l b o c W h hb (by omega) hc)
  have HRT : Hid (∀ W, Touch [] w W → Rd W b o l) := fun W h => hr.touch h hbw (by simp)
  obtain ⟨x5, hx5⟩ : ∃ x, x = l[5]'(by omega) := ⟨_, rfl⟩
  have HC5 : Hid (∀ W, Rd W b o l → W.cell? ⟨b, o + 5, none⟩ = some (.int .u8 (x5 : Int))) := fun W h => by rw [hx5]; exact h 5 (by omega)
  rw [← hx5] at hb5 HM ⊢
  obtain ⟨p8, hp8⟩ : ∃ x, x = num (PureCrc.cut l 8 8) := ⟨_, rfl⟩
  rw [← hp8] at HPL HM hp ⊢
  obtain ⟨n, hn⟩ : ∃ n, n = count l := ⟨_, rfl⟩
  rw [← hn] at HN hn1 hn2 ⊢
  obtain ⟨ws, hws⟩ : ∃ ws, ws = words (4 * n) (l.drop 28) := ⟨_, rfl⟩
  have hwl : ws.length = 4 * n := by rw [hws]; exact words_length _ _
  have HWD : Hid (∀ (t : Nat), t < 4 * n → ∀ W, Rd W b o l → ws[t]? = some (num (PureCrc.cut l (28 + 8 * t) 8)) ∧ Calls Try.prog 35 #[.slice (some ⟨b, o + (28 + 8 * t), none⟩) 8 (c - (28 + 8 * t))] W fun e w' => e = .returned (.int .u64 (num (PureCrc.cut l (28 + 8 * t) 8) : Int)) ∧ ∃ n, w' = W.drewN n) := fun t ht W h => by
    constructor
    · rw [hws, words_get _ _ _ ht, List.drop_drop]
      rfl
    · have := word_any (PureCrc.cut l (28 + 8 * t) 8) b (o + (28 + 8 * t)) (c - (28 + 8 * t)) W (h.cut (by omega)) (cut_length (by omega)) (cut_lt hb)
      exact this
  rw [← hws]
  have HWL := hid hwl
  have H2 := hid h2
  have HMK := hid (fun (W : World) => run_make_recs n (by omega) W)
  clear hs1 hs rt hb hmay hr h1 h2 hx5 hp8 hn hws hwl hk5
  have hmk := HMK.out
  go_enter Try.func9, Try.ntmps9
  go_wp2_with (first
    | (go_at_call 34; refine (HN.out _ (HRT.out _ GT.out)).mono ?_; rintro e w7 ⟨rfl, hh⟩; have hh := hh.symm; subst hh)
    | (go_at_call 33; refine (HPL.out _ (HRT.out _ GT.out)).mono ?_; rintro e w7 ⟨rfl, hh⟩; have hh := hh.symm; subst hh)
    | (go_at_call 32; refine (HF.out _ (HRT.out _ GT.out)).mono ?_; rintro e w6 ⟨⟨t, rfl, ht⟩, hh⟩; have hh := hh.symm; subst hh; have ht2 : t = true := ht.2 H2.out; subst ht2; clear ht)
    | (go_at_call 21; refine HS.out.mono ?_; rintro e w5 ⟨rfl, gt⟩; have GT := hid gt; have c5 := HC5.out w5 (HRT.out _ gt); clear gt)
    | (go_at_call 30; refine HSD.out.mono ?_; rintro e w3 ⟨rfl, hh⟩; have hh := hh.symm; subst hh)
    | (go_at_call 31; refine HG.out.mono ?_; rintro e w3 ⟨rfl, hh⟩; have hh := hh.symm; subst hh)
    | (go_at_call 29; refine HSO.out.mono ?_; rintro e w3 ⟨rfl, hh⟩; have hh := hh.symm; subst hh)
    | (go_at_call 25; refine (HM.out _).mono ?_; rintro e w3 ⟨rfl, hh⟩; have hh := hh.symm; subst hh))
  have tB : Touch [] w (w5.alloc (.cells (wc (zeros (4 * n))) 28)) := GT.out.alloc _
  have rB : WRow (w5.alloc (.cells (wc (zeros (4 * n))) 28)) w5.heap.size (got ws n 0) := by
    have : got ws n 0 = zeros (4 * n) := by simp [got]
    rw [this]; exact heap_alloc_new w5 _
  have sB : w.heap.size ≤ w5.heap.size := GT.out.size
  generalize w5.alloc (.cells (wc (zeros (4 * n))) 28) = wB at tB rB ⊢
  generalize w5.heap.size = g at rB sB ⊢
  have TB := hid tB
  have RB := hid rB
  have SB := hid sB
  clear tB rB sB hmk HMK HM HSO HSD HG HS HF HPL HN HC5 H2 c5 GT
  go_loopw [9, 51] (fun a i W => ∃ k : Nat, k ≤ n ∧ i = .int .i64 k ∧ a = .int .i64 ((28 + 32 * k : Nat) : Int) ∧ WRow W g (got ws n (4 * k)) ∧ Touch [] w W) (fun _ i _ => n - (intOf i).toNat)
  case atStart => exact ⟨0, Nat.zero_le _, rfl, rfl, RB.out, TB.out⟩
  case round =>
    obtain ⟨k, hk, rfl, rfl, h1, h2⟩ := hrel
    have H1 := hid h1
    have H2 := hid h2
    clear h1 h2
    by_cases hlt : k < n
    · go_wp2_with fail
      go_loopw [9, 54] (fun a i W => ∃ j : Nat, j ≤ 4 ∧ i = .int .i64 j ∧ a = .int .i64 ((28 + 32 * k + 8 * j : Nat) : Int) ∧ WRow W g (got ws n (4 * k + j)) ∧ Touch [] w W) (fun _ i _ => 4 - (intOf i).toNat)
      case atStart => exact ⟨0, Nat.zero_le _, rfl, rfl, H1.out, H2.out⟩
      case round =>
        obtain ⟨j, hj, rfl, rfl, h1, h2⟩ := hrel
        by_cases hlt2 : j < 4
        · obtain ⟨A, hA⟩ : ∃ A, A = 28 + 32 * k + 8 * j := ⟨_, rfl⟩
          have hA2 : 28 + 8 * (4 * k + j) = A := by omega
          have hAN : A + 8 ≤ l.length := by omega
          have htn : 4 * k + j < 4 * n := by omega
          have hwd := HWD.out (4 * k + j) htn
          rw [hA2] at hwd
          obtain ⟨z, hz⟩ : ∃ z, wr.cell? ⟨g, k * 4 + j, none⟩ = some z := by
            have := cell_row h1 (k * 4 + j)
            rw [wc_get, List.getElem?_eq_getElem (by rw [got_length (by rw [HWL.out]; omega) HWL.out]; omega)] at this
            exact ⟨_, this⟩
          have hf := unfrozen_row h1 (k * 4 + j)
          obtain ⟨y, hy⟩ : ∃ y, y = num (PureCrc.cut l A 8) := ⟨_, rfl⟩
          rw [← hy] at hwd
          have hyt := (hwd wr (HRT.out _ h2)).1
          obtain ⟨hyl, hye⟩ := List.getElem?_eq_some_iff.1 hyt
          have HGS := hid (show (got ws n (4 * k + j)).set (k * 4 + j) y = got ws n (4 * k + (j + 1)) by
            have := got_succ (n := n) hyl HWL.out
            rw [hye] at this
            rw [show k * 4 + j = 4 * k + j by omega]
            exact this)
          have HCW : Hid (∀ W, Touch [] w W → Calls Try.prog 35 #[.slice (some ⟨b, o + A, none⟩) 8 (c - A)] W fun e w' => e = .returned (.int .u64 (y : Int)) ∧ ∃ n, w' = W.drewN n) := fun W h => (hwd W (HRT.out _ h)).2
          have G1 := hid h1
          have HT := hid h2
          rw [← hA]
          have HA := hid hA
          have e8 : A + 8 - A = 8 := by omega
          clear hwd hyt hyl hye hy h1 h2 hA hA2 H1 H2 hk
          go_wp2_with fail
          have hz1 : ∀ m, (wr.drew.drewN m).cell? ⟨g, k * 4 + j, none⟩ = some z := fun m => hz
          have hz2 : ∀ m, (wr.drewN m).cell? ⟨g, k * 4 + j, none⟩ = some z := fun m => hz
          have hf1 : ∀ m, (wr.drew.drewN m).frozen? ⟨g, k * 4 + j, none⟩ = false := fun m => hf
          have hf2 : ∀ m, (wr.drewN m).frozen? ⟨g, k * 4 + j, none⟩ = false := fun m => hf
          have hcap : ((A : Int) + 8) ≤ (c : Int) := by omega
          have hne : ¬ c = A := by omega
          have hw8 : IntKind.i64.wrap ((A : Int) + 8) = (A : Int) + 8 := by rw [IntKind.wrap_i64]; omega
          have hwa : IntKind.i64.wrap (A : Int) = (A : Int) := by rw [IntKind.wrap_i64]; omega
          go_region_with (first | (go_at_call 35; refine (HCW.out _ ?_).mono ?_; (first | exact HT.out | exact HT.out.drew | exact HT.out.drewN _); rintro e w' ⟨rfl, m, rfl⟩))
          all_goals
            go_wp2_with fail
            refine ⟨⟨j + 1, hlt2, rfl, congrArg (Value.int .i64) (by have := HA.out; omega), ?_, (HT.out.drewN _).setCell (.inr SB.out) _⟩, by simp [intOf]; omega⟩
            have t := WRow.set (w := wr.drewN (1 + m)) G1.out (k * 4 + j) y
            rw [HGS.out] at t
            exact t
        · have e4 : j = 4 := by omega
          subst e4
          have K1 := hid h1
          have K2 := hid h2
          clear h1 h2
          go_wp2_with fail
          exact ⟨⟨k + 1, hlt, rfl, congrArg (Value.int .i64) (by omega), by rw [Nat.mul_succ]; exact K1.out, K2.out⟩, by simp [intOf]; omega⟩
    · have e4 : k = n := by omega
      subst e4
      go_wp2_with fail
      go_ret2
      refine ⟨g, rfl, ?_, H2.out, SB.out⟩
      have : got ws k (4 * k) = ws := by
        unfold got
        rw [← HWL.out, List.take_length, Nat.sub_self]
        simp [zeros]
      have h := H1.out
      rw [this] at h
      exact h
end Go.Proofs.Ytfodpeiecmbojaa
