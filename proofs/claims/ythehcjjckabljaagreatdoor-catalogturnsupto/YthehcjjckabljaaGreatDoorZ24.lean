import Derived.Deep.RegionHeld3
import Derived.BigQuiet
import Derived.Test.YthehcjjckabljaaGreatDoorZ23
/-
  CatalogTurns: the law.
-/
namespace Go.Proofs.YthehcjjckabljaaGreatDoor
open Go.RowKit Go.Deep
set_option maxRecDepth 100000
set_option linter.unusedSimpArgs false
set_option linter.unusedVariables false

theorem mountE {B : Nat} (h : 64 ≤ B ∧ B ≤ 65536 ∧ B % 32 = 0) : MountV (B : Int) (B : Int) 1099511627776 [] none := .inl ⟨rfl, ⟨by omega, by omega, by omega, by decide, by decide⟩, rfl, fun j e hj => absurd hj (by simp), by decide⟩

theorem file_str (u : Nat) : Nm.str ([100, 100, 45] ++ PureHex.hexW 16 u) = .string (bs (fileN u)) := by
  unfold fileN
  generalize [100, 100, 45] ++ PureHex.hexW 16 u = x
  rfl
theorem cat_str (u : Nat) : Nm.str ([99, 97, 116, 45] ++ PureHex.hexW 16 u) = .string (bs (catN u)) := by
  unfold catN
  generalize [99, 97, 116, 45] ++ PureHex.hexW 16 u = x
  rfl
theorem fileS {u : Nat} (hu : u < 18446744073709551616) {W : World} (h : Tabs W) : Calls Tryz.prog 16 #[.int .u64 (u : Int)] W fun e w' => e = .returned (.string (bs (fileN u))) ∧ Touch [] W w' :=
  (Nm.file_any u hu W h.tz).mono fun e w' ⟨e1, hb⟩ => ⟨by rw [e1]; exact congrArg _ (file_str u), Touch.of_below (F := []) hb (Nat.le_refl _)⟩
theorem catS {u : Nat} (hu : u < 18446744073709551616) {W : World} (h : Tabs W) : Calls Tryz.prog 22 #[.int .u64 (u : Int)] W fun e w' => e = .returned (.string (bs (catN u))) ∧ Touch [] W w' :=
  (Nm.name_any u hu W h.tz).mono fun e w' ⟨e1, hb⟩ => ⟨by rw [e1]; exact congrArg _ (cat_str u), Touch.of_below (F := []) hb (Nat.le_refl _)⟩
theorem take_lb (s : Pu.St) (k : Int) : (s.take k).lb = s.lb := by unfold Pu.St.take; split <;> rfl
theorem give_lb (s : Pu.St) (k : Int) : (s.give k).lb = s.lb := by unfold Pu.St.give; split <;> rfl
theorem bnd_next {n k : Nat} (h : n ≤ 200000 * k) : n ≤ 200000 * (k + 1) := by omega
theorem bnd_zero {n k : Nat} (h : n ≤ 200000 * k) : n ≤ 200000 * k + 2 * 0 := h
theorem bnd_two {n k q : Nat} (h : n ≤ 200000 * k + 2 * q) : n + 1 + 1 ≤ 200000 * k + 2 * (q + 1) := by omega
theorem bnd_half {n k q : Nat} (h : n ≤ 200000 * k + 2 * q) : n + 1 ≤ 200000 * k + 2 * (q + 1) := by omega
theorem bnd_few {n k q : Nat} (h : n ≤ 200000 * k + 2 * q) (hk : k < 1048576) (hq : q ≤ 1024) : n + 2 < 274877906944 := by omega
theorem bnd_all {n2 n3 k q fl : Nat} (h : n2 ≤ 200000 * k + 2 * q) (hq : q ≤ 1024) (h3 : n3 ≤ n2 + 70003 + (fl + 1)) (hfl : fl ≤ 1025 + q) : n3 + 70000 ≤ 200000 * (k + 1) := by omega
theorem bnd_big {n k : Nat} (h : n + 70000 ≤ 200000 * (k + 1)) (hk : k < 1048576) : n < 549755813888 := by omega
/-- q rows' files are there. -/
def CrW (w0 W : World) (b : Bn) (s0 : Pu.St) (F : List Nat) (B g k rb : Nat) (row : Array Value) (rows : List (Int × Nat)) (q : Nat) : Prop :=
  ∃ n A s F', Here w0 W b n A s F F' ∧ TuA A B g k ∧ n ≤ 200000 * k + 2 * q ∧ SameP s0 s ∧ A.files.length ≤ 1025 + q ∧ s.lb = s0.lb ∧ rb ∉ F' ∧ W.heap[rb]? = some (.cells row 26 (0, 0)) ∧ ∀ x ∈ rows.take q, (findA A.files (fileN x.2)).isSome = true
theorem CrW.done {w0 W W' : World} {b : Bn} {s0 s : Pu.St} {F F' : List Nat} {B g k rb n q : Nat} {A A' : PubA} {row : Array Value} {rows : List (Int × Nat)} {u : Nat} (I : Here w0 W b n A s F F') (hrow : W.heap[rb]? = some (.cells row 26 (0, 0))) (hrb : rb ∉ F') {n' : Nat} (g1 : Went W W' b n' A' s F' []) (TA : TuA A' B g k) (hn : n' ≤ 200000 * k + 2 * (q + 1)) (hsp : SameP s0 s) (hlb : s.lb = s0.lb) (hfl : A'.files.length ≤ 1025 + (q + 1)) (hold : ∀ x ∈ rows.take q, (findA A'.files (fileN x.2)).isSome = true) (hq : q < rows.length) (hu : rows[q].2 = u) (hnew : (findA A'.files (fileN u)).isSome = true) : CrW w0 W' b s0 F B g k rb row rows (q + 1) := by
  obtain ⟨F2, I2, t2, n2⟩ := I.went g1
  refine ⟨n', A', s, F2, I2, TA, hn, hsp, hfl, hlb, n2 _ hrb (lt_of_block hrow), (t2.block _ (lt_of_block hrow) hrb).trans hrow, fun x hx => ?_⟩
  rw [List.take_succ_eq_append_getElem hq] at hx
  rcases List.mem_append.1 hx with hx | hx
  · exact hold x hx
  · rw [List.mem_singleton] at hx
    subst hx
    rw [hu]
    exact hnew

section
variable {w : World}
set_option maxHeartbeats 16000000 in
theorem turns_any {E : Nat → Addr} {lo : Nat} (V : Env w lo E) (hT : Tabs w) (h17 : 17 ≤ lo) {n : Int} (hnr : -9223372036854775808 ≤ n ∧ n < 9223372036854775808) {ta : Option Addr} {tc : Nat} {l : List TbI} (hin : TbsAt w lo ta l) (hl : l.length ≤ 1048576) :
    Calls Tryz.prog 4 #[.int .i64 n, .slice ta l.length tc] w fun e w' => e = .returned (.bool true) ∧ Touch [] w w' := by
  have hlo := V.room
  have HBL := hid (fun W => block_any hnr W)
  have HA := hid (fun W (tt : Touch [] w W) => alive_any (V.touch tt (by simp)) (hT.quiet tt) h17)
  have HO := hid (fun W (B : Nat) (hB : 64 ≤ B ∧ B ≤ 65536 ∧ B % 32 = 0 ∧ B ≤ 1312) (tt : Touch [] w W) => open_ok (tc := 0) (n := 0) (V.touch tt (by simp)) (Nat.le_trans hlo tt.size) (stIn_nil W) (trsAt_nil W) (by simp) (by simp) (by simp [usedN]) (by omega) (mountE ⟨hB.1, hB.2.1, hB.2.2.1⟩) ⟨hB.1, hB.2.1, hB.2.2.1⟩ 0 (by omega))
  have HIN := hid hin
  have HTB := hid hT
  clear V hT hin
  simp only [List.length_nil] at HO
  go_enter Tryz.func4, Tryz.ntmps4
  go_upto_region 5 with (first
    | (go_at_call 14; refine (HO.out _ B hB.out HT1.out).mono ?_; rintro e w2 ⟨b, kb, lb, F, rfl, hblo, hbE, hbl, ht2, hS, hkd, hkF, hk1, hk2, hF⟩; have HS := hid (And.intro hS (And.intro hkd (And.intro hkF (And.intro hk1 (And.intro hk2 hF))))); have HT2 := hid (HT1.out.trans ht2 (by simp)); have HB := hid (And.intro hblo hbl); clear hS hkd hkF hk1 hk2 hF hblo hbE hbl ht2)
    | (go_at_call 15; obtain ⟨B, hB', hcl⟩ := HBL.out _; have hB := hid hB'; refine hcl.mono ?_; rintro e w1 ⟨rfl, hh⟩; have hh := hh.symm; subst hh; clear hcl hB')
    | (go_at_call 9; refine (HA.out _ (Touch.refl _ _)).mono ?_; rintro e w1 ⟨rfl, ht1⟩; have HT1 := hid ht1; clear ht1))
  obtain ⟨W0, hW0⟩ : ∃ W0, W0 = w2.alloc (.cells #[.pointer (some ⟨b.p, 0, none⟩), .pointer (some ⟨b.q, 0, none⟩), .pointer (some ⟨kb, 0, none⟩)] 36) := ⟨_, rfl⟩
  have t0 : Touch [] w2 W0 := by rw [hW0]; exact (Touch.refl [] w2).alloc _
  have ho0 : W0.heap[w2.heap.size]? = some (.cells #[ptr b.p, ptr b.q, ptr kb] 36 (0, 0)) := by rw [hW0]; exact heap_alloc_new w2 _
  rw [← hW0]
  clear hW0
  obtain ⟨hS, hkd, hkF, hk1, hk2, hF⟩ := HS.out
  obtain ⟨hblo, hbl⟩ := HB.out
  obtain ⟨K, hK⟩ : ∃ K, K = B / 32 - 1 := ⟨_, rfl⟩
  have hBK : B = 32 + 32 * K ∧ 1 ≤ K ∧ K ≤ 40 := by have := hB.out; omega
  rw [← hK] at hS hkd
  obtain ⟨ob, hob⟩ : ∃ ob, ob = w2.heap.size := ⟨_, rfl⟩
  rw [← hob] at ho0 ⊢
  have hoF : ob ∉ F := fun h => by have := hS.lt _ h; omega
  have hol := lt_of_block ho0
  have htw0 : Touch [] w W0 := HT2.out.trans t0 (by simp)
  have hws : w.heap.size ≤ w1.heap.size := HT1.out.size
  have hFlo : ∀ y ∈ F, lo ≤ y := fun y hy => by have := hF y hy; omega
  obtain ⟨s0, hs0⟩ : ∃ s0, s0 = Pu.St.new ((64 * K + 0 : Nat) : Int) lb := ⟨_, rfl⟩
  rw [← hs0] at hS
  have hfree0 : 64 * (K : Int) ≤ s0.free ∧ s0.closed = false ∧ s0.hand = 0 ∧ s0.lent = 0 := by
    rw [hs0]
    refine ⟨?_, rfl, rfl, rfl⟩
    unfold Pu.St.free
    simp
  have HSF := hid hfree0
  have hS0 := hS.quiet t0
  have HH0 := hid (Here.start hS0)
  have HK : Hid (∀ W, Touch F W0 W → DeskAt W kb b (K : Int) 1 ∧ Tabs W ∧ W.heap[ob]? = some (.cells #[ptr b.p, ptr b.q, ptr kb] 36 (0, 0)) ∧ TbsAt W lo ta l ∧ W0.heap.size ≤ W.heap.size) := hid (fun W tt =>
    ⟨(hkd.touch t0 (by simp)).touch tt hkF, (HTB.out.quiet htw0).touch tt (fun y hy => by have := hFlo y hy; omega), (tt.block _ hol hoF).trans ho0, (HIN.out.touch htw0 (by simp)).touch tt hFlo, tt.size⟩)
  have hkl : kb < W0.heap.size := Nat.lt_of_lt_of_le hk2 t0.size
  have hlo0 : b.lo ≤ W0.heap.size := hS0.room
  have hblk : b.lo ≤ kb := by omega
  have h17b : 17 ≤ b.lo := by omega
  have hTU0 : TuW W0 W0 b s0 F B 0 0 := ⟨0, _, _, _, HH0.out, ⟨rfl, rfl, rfl, by show (0 : Int) ≤ _; omega, List.Pairwise.nil, fun e he => by cases he⟩, by omega, SameP.refl _, by show (0 : Nat) ≤ 1025; omega, rfl⟩
  have HTU0 := hid hTU0
  have HFS := hid (And.intro htw0 (And.intro hF hws))
  have HBL2 := hid hbl
  have HBLO := hid hblo
  have HBK := hid hBK
  have hlw : lo ≤ W0.heap.size := by omega
  clear hS hkd hk1 hk2 hF hblo hbl hK ho0 htw0 hFlo hs0 hfree0 hS0 hTU0 hBK HO HA HBL HIN HTB HS HB HT1 HT2 hB t0 hob hws
  go_wp2_with fail
  go_loopw [7, 8] (fun g i W => ∃ k gen : Nat, k ≤ l.length ∧ gen ≤ k ∧ i = .int .i64 k ∧ g = .int .u64 gen ∧ Hid (TuW W0 W b s0 F B gen k)) (fun _ i _ => l.length - (intOf i).toNat)
  case atStart => exact ⟨0, 0, Nat.zero_le _, Nat.le_refl _, rfl, rfl, HTU0⟩
  case round =>
    obtain ⟨k, gen, hk, hgk, rfl, rfl, HTU⟩ := hrel
    obtain ⟨n1, A, s, F', I, TA, hn1, hsp, hfl, hslb⟩ := HTU.out
    obtain ⟨hdk, htb, hobr, hin, hsz⟩ := HK.out wr I.t
    have co := fun i => cell_row hobr i
    by_cases hlt : k < l.length
    · obtain ⟨a, rfl, hab, hab2, c0, c1, c2, c3, c4, htbl, hso, hsr⟩ := hin.at_ k hlt
      have HTT := hid (fun W (tt : Touch F W0 W) => (by obtain ⟨_, _, _, _, _, _, _, _, _, h, _, _⟩ := (HK.out W tt).2.2.2.1.at_ k hlt; exact h : TblAt W l[k].t l[k].so l[k].sr))
      have hki : (k : Int) < (l.length : Int) := by omega
      have hk0 : (0 : Int) ≤ (k : Int) := by omega
      generalize l[k] = tbi at *
      obtain ⟨t, so, sr, tco, tcr⟩ := tbi
      dsimp only at c0 c1 c2 c3 c4 htbl hso hsr HTT
      have HI := hid (And.intro I (And.intro TA (And.intro hn1 (And.intro hsp (And.intro hfl hslb)))))
      have HTBL := hid (And.intro htbl (And.intro hso hsr))
      clear hdk htb hobr hin hab hab2 htbl hso hsr I TA hn1 hsp hfl hslb
      go_upto_region 12 with fail
      obtain ⟨W1, hW1⟩ : ∃ W1, W1 = wr.alloc (.cells #[.int .i64 t.vars, .slice so t.order.length tco, .slice sr t.rows.length tcr, .int .i64 t.next, .int .u64 (t.nf : Int)] 26) := ⟨_, rfl⟩
      have t1 : Touch [] wr W1 := by rw [hW1]; exact (Touch.refl [] wr).alloc _
      have hr1 : W1.heap[wr.heap.size]? = some (.cells #[.int .i64 t.vars, .slice so t.order.length tco, .slice sr t.rows.length tcr, .int .i64 t.next, .int .u64 (t.nf : Int)] 26 (0, 0)) := by rw [hW1]; exact heap_alloc_new wr _
      rw [← hW1]
      clear hW1
      obtain ⟨I, TA, hn1, hsp, hfl, hslb⟩ := HI.out
      obtain ⟨rb, hrb⟩ : ∃ rb, rb = wr.heap.size := ⟨_, rfl⟩
      rw [← hrb] at hr1 ⊢
      have hrbF : rb ∉ F' := fun h => by have := I.S.lt _ h; omega
      have hrb0 : W0.heap.size ≤ rb := by have := I.t.size; omega
      have I1 := I.quiet t1
      have HRF := hid (rformed_any (co := tco) (cr := tcr) (HTT.out W1 I1.t))
      simp only [tblV] at HRF
      have HI1 := hid (And.intro I1 (And.intro hr1 hrbF))
      have hrbl := lt_of_block hr1
      have c9 := fun i => cell_row hr1 i
      have HC1 := hid (And.intro TA (And.intro hn1 (And.intro hsp (And.intro hfl hslb))))
      clear I TA hn1 hsp hfl hslb hrb t1 hr1 I1 c0 c1 c2 c3 c4
      cases hfm : formedB t with
      | false =>
        rw [hfm] at HRF
        clear hfm
        go_wp2_with (go_at_call 12; refine HRF.out.mono ?_; rintro e w2 ⟨rfl, ht2⟩; have HT2 := hid ht2; clear ht2)
        obtain ⟨TA, hn1, hsp, hfl, hslb⟩ := HC1.out
        exact ⟨⟨k + 1, gen, hlt, by omega, rfl, rfl, hid ⟨n1, A, s, F', HI1.out.1.quiet HT2.out, TA.next, bnd_next hn1, hsp, hfl, hslb⟩⟩, by simp [intOf]; omega⟩
      | true =>
        rw [hfm] at HRF
        have HFM := hid hfm
        clear hfm
        go_upto_region 14 with (go_at_call 12; refine HRF.out.mono ?_; rintro e w2 ⟨rfl, ht2⟩; have HT2 := hid ht2; clear ht2)
        have HFI := hid (formed_is HFM.out)
        have hrl : t.rows.length ≤ 1024 := HFI.out.rows
        have hcr : CrW W0 w2 b s0 F B gen k rb #[.int .i64 t.vars, .slice so t.order.length tco, .slice sr t.rows.length tcr, .int .i64 t.next, .int .u64 (t.nf : Int)] t.rows 0 := by
          obtain ⟨TA, hn1, hsp, hfl, hslb⟩ := HC1.out
          exact ⟨n1, A, s, F', HI1.out.1.quiet HT2.out, TA, bnd_zero hn1, hsp, hfl, hslb, HI1.out.2.2, (HT2.out.block _ hrbl (by simp)).trans HI1.out.2.1, by simp⟩
        have HCR0 := hid hcr
        have HSO := hid HTBL.out.2
        clear hcr HI HI1 HC1 HRF HTBL c9 hrbF
        go_wp2_with fail
        go_loopw [11] (fun j W => ∃ q : Nat, q ≤ t.rows.length ∧ j = .int .i64 q ∧ Hid (CrW W0 W b s0 F B gen k rb #[.int .i64 t.vars, .slice so t.order.length tco, .slice sr t.rows.length tcr, .int .i64 t.next, .int .u64 (t.nf : Int)] t.rows q)) (fun j _ => t.rows.length - (intOf j).toNat)
        case atStart => exact ⟨0, Nat.zero_le _, rfl, HCR0⟩
        case round =>
          clear HCR0
          obtain ⟨q, hq, rfl, HCR⟩ := hrel
          obtain ⟨n2, A2, s2, F2, I2, TA2, hn2, hsp2, hfl2, hslb2, hrb2, hrow2, hold2⟩ := HCR.out
          obtain ⟨hdk, htb, hobr, hin, hsz2⟩ := HK.out wr I2.t
          have co2 := fun i => cell_row hobr i
          have cr2 := fun i => cell_row hrow2 i
          have HX2 := hid (And.intro I2 (And.intro TA2 (And.intro hn2 (And.intro hsp2 (And.intro hfl2 (And.intro hslb2 (And.intro hrb2 (And.intro hrow2 (And.intro hold2 (And.intro hdk htb))))))))))
          by_cases hqt : q < t.rows.length
          · obtain ⟨a2, hsra, hab, d0, d1⟩ := (HTT.out wr I2.t).rows.at_ q hqt
            have hqi : (q : Int) < (t.rows.length : Int) := by omega
            have hq0 : (0 : Int) ≤ (q : Int) := by omega
            have hult : t.rows[q].2 < 18446744073709551616 := ((HTT.out wr I2.t).ri _ (List.getElem_mem hqt)).2
            have hoc : ob < wr.heap.size := lt_of_block hobr
            have HU := hid hult
            obtain ⟨u, hu⟩ : ∃ u, t.rows[q].2 = u := ⟨_, rfl⟩
            rw [hu] at d1 hult
            have HU := hid hult
            have HUE := hid hu
            clear hu
            generalize t.rows[q].1 = hh at d0
            have hbl := HBL2.out
            have HFN := hid (fun W (hT' : Tabs W) => fileS hult hT')
            have HOB2 := hid hobr
            have hfew := bnd_few hn2 (by omega : k < 1048576) (by omega : q ≤ 1024)
            subst hsra
            by_cases hth : (findA A2.files (fileN u)).isSome = true
            · have HCT : Hid (∀ W, Touch [] wr W → Calls Tryz.prog 17 #[ptr b.p, .string (bs (fileN u))] W fun e w' => e = .returned (.int .i64 13) ∧ Went W w' b (n2 + 1) A2 s2 F2 []) := hid (fun W tt => by
                have h := create_s (I2.quiet tt).S (by omega) (bs (fileN u))
                rw [create_has TA2.on (nameFile _) hth] at h
                exact h)
              have HTH := hid hth
              clear I2 TA2 hn2 hsp2 hfl2 hslb2 hrb2 hrow2 hold2 hdk htb hobr hin hsz2 hab hult hbl hth
              go_wp2_with (first
                | (go_at_call 17; refine (HCT.out _ HT3.out).mono ?_; rintro e w4 ⟨rfl, hw4⟩; have HW4 := hid hw4; clear hw4)
                | (go_at_call 16; refine (HFN.out _ HX2.out.2.2.2.2.2.2.2.2.2.2).mono ?_; rintro e w3 ⟨rfl, hb3⟩; have HT3 := hid hb3; have co3 := (fun i => cell_row ((hb3.block _ hoc (by simp)).trans HOB2.out) i); clear hb3))
              obtain ⟨I2, TA2, hn2, hsp2, hfl2, hslb2, hrb2, hrow2, hold2, _⟩ := HX2.out
              exact ⟨⟨q + 1, hqt, rfl, hid (CrW.done (I2.quiet HT3.out) ((HT3.out.block _ (lt_of_block hrow2) (by simp)).trans hrow2) hrb2 HW4.out TA2 (bnd_half hn2) hsp2 hslb2 (by omega) hold2 hqt HUE.out HTH.out)⟩, by simp [intOf]; omega⟩
            · have hnone : findA A2.files (fileN u) = none := by cases h : findA A2.files (fileN u) with | none => rfl | some f => rw [h] at hth; exact absurd rfl hth
              have HCN : Hid (∀ W, Touch [] wr W → Calls Tryz.prog 17 #[ptr b.p, .string (bs (fileN u))] W fun e w' => e = .returned (.int .i64 0) ∧ Went W w' b (n2 + 1) (mkX A2 (bs (fileN u)) false [] 1) s2 F2 []) := hid (fun W tt => by
                have h := create_s (I2.quiet tt).S (by omega) (bs (fileN u))
                rw [tr_nil hbl, create_new TA2.on hnone] at h
                exact h)
              have HSL : Hid (∀ W F3, Here W0 W b (n2 + 1) (mkX A2 (bs (fileN u)) false [] 1) s2 F F3 → Calls Tryz.prog 18 #[ptr b.p, .string (bs (fileN u))] W fun e w' => e = .returned (.int .i64 0) ∧ Went W w' b (n2 + 1 + 1) (putF A2 u) s2 F3 []) := hid (fun W F3 I => by
                have h := seal_s I.S (by omega) (bs (fileN u))
                rw [tr_nil hbl, seal_new TA2.on hnone] at h
                exact h)
              have HNO := hid hnone
              have hobF := I2.old hoF hol
              clear I2 TA2 hn2 hsp2 hfl2 hslb2 hrb2 hrow2 hold2 hdk htb hobr hin hsz2 hab hult hbl hth hnone
              go_wp2_with (first
                | (go_at_call 18; refine (HSL.out _ _ HI4.out.1).mono ?_; rintro e w5 ⟨rfl, hw5⟩; have HW5 := hid hw5; clear hw5)
                | (go_at_call 17; refine (HCN.out _ HT3.out).mono ?_; rintro e w4 ⟨rfl, hw4⟩; obtain ⟨F4, I4, t4, n4⟩ := (HX2.out.1.quiet HT3.out).went hw4; have HI4 := hid (And.intro I4 (And.intro t4 n4)); have co4 := (fun i => cell_row ((t4.block _ (Nat.lt_of_lt_of_le hoc HT3.out.size) hobF).trans ((HT3.out.block _ hoc (by simp)).trans HOB2.out)) i); clear hw4 I4 t4 n4)
                | (go_at_call 16; refine (HFN.out _ HX2.out.2.2.2.2.2.2.2.2.2.2).mono ?_; rintro e w3 ⟨rfl, hb3⟩; have HT3 := hid hb3; have co3 := (fun i => cell_row ((hb3.block _ hoc (by simp)).trans HOB2.out) i); clear hb3))
              obtain ⟨I2, TA2, hn2, hsp2, hfl2, hslb2, hrb2, hrow2, hold2, _⟩ := HX2.out
              obtain ⟨I4, t4, n4⟩ := HI4.out
              have hr3 := (HT3.out.block _ (lt_of_block hrow2) (by simp)).trans hrow2
              exact ⟨⟨q + 1, hqt, rfl, hid (CrW.done I4 ((t4.block _ (lt_of_block hr3) hrb2).trans hr3) (n4 _ hrb2 (lt_of_block hr3)) HW5.out (TA2.put HU.out HNO.out) (bnd_two hn2) hsp2 hslb2 (by have : (putF A2 u).files.length = A2.files.length + 1 := (perm_ins _ _).length_eq; omega) (fun x hx => put_old (hold2 x hx) HNO.out) hqt HUE.out (put_there HNO.out))⟩, by simp [intOf]; omega⟩
          · obtain rfl : q = t.rows.length := by omega
            clear hq
            rw [List.take_length] at hold2
            have hkl2 : kb ∉ F2 := I2.old hkF hkl
            have hfr2 : 64 * (K : Int) ≤ s2.free := by rw [hsp2.free]; exact HSF.out.1
            have hlow : ∀ y ∈ F2, lo ≤ y := fun y hy => by have := I2.S.base y hy; have := HBLO.out; omega
            obtain ⟨A3, n3, hn3, TA3, C3, hnew3, hrd3, hmem3, hcm⟩ := turn_commit (co := tco) (cr := tcr) I2.S TA2 HBL2.out HBK.out.1 HBK.out.2 (by have := bnd_few hn2 (by omega : k < 1048576) hrl; omega) hdk hkl2 htb h17b (HTT.out wr I2.t)
              (fun c hc hne => ⟨fun hx => by have := HSO.out.1 c hc hne; have := hlow _ hx; omega, by have := HSO.out.1 c hc hne; omega⟩)
              (fun c hc hne => ⟨fun hx => by have := HSO.out.2 c hc hne; have := hlow _ hx; omega, by have := HSO.out.2 c hc hne; omega⟩) hfr2 (by omega) (by omega) HFM.out hold2
            simp only [tblV] at hcm
            have HCM := hid hcm
            have hwr : IntKind.u64.wrap ((gen : Int) + 1) = ((gen + 1 : Nat) : Int) := by rw [IntKind.wrap_u64]; omega
            have HC3 := hid (And.intro hn3 (And.intro TA3 (And.intro C3 (And.intro hnew3 (And.intro hrd3 hmem3)))))
            have hbl3 := blsT_few (B := A2.B) (g := gen + 1) HBK.out.2.1 HFI.out
            have HBL3 := hid hbl3
            have hnum := (HTT.out wr I2.t).num
            have HNUM := hid hnum
            have hoc : ob < wr.heap.size := lt_of_block hobr
            have hobF := I2.old hoF hol
            have hrbw := lt_of_block hrow2
            clear hcm hn3 TA3 C3 hnew3 hrd3 hmem3 hbl3 hnum hdk htb hobr hin hsz2 hlow hkl2 hfr2 I2 TA2 hn2 hsp2 hfl2 hslb2 hrow2 hold2
            go_upto_region 25 with (go_at_call 19; refine HCM.out.mono ?_; rintro e w6 ⟨rfl, hw6⟩; obtain ⟨F6, I6, t6, n6⟩ := HX2.out.1.went hw6; have HI6 := hid (And.intro I6 (And.intro t6 n6)); clear hw6 I6 t6 n6)
            obtain ⟨I6, t6, n6⟩ := HI6.out
            obtain ⟨I2, TA2, hn2, hsp2, hfl2, hslb2, hrb2', hrow2, hold2, _⟩ := HX2.out
            obtain ⟨hn3, TA3, C3, hnew3, hrd3, hmem3⟩ := HC3.out
            obtain ⟨hdk6, htb6, hobr6, hin6, hsz6⟩ := HK.out w6 I6.t
            have hsp6 : SameP s0 ((s2.take (K : Int)).give (K : Int)) := hsp2.trans (sameP_free (by rw [hsp2.hand, HSF.out.2.2.1]; omega) (by rw [hsp2.closed]; exact HSF.out.2.1) (by have := HBK.out.2.1; omega) (by rw [hsp2.free]; exact HSF.out.1))
            have hr6 := (t6.block _ hrbw hrb2').trans hrow2
            have hrb6 := n6 _ hrb2' hrbw
            have hball := bnd_all hn2 hrl hn3 hfl2
            have HRD := hid (turn_read I6.S (bnd_big hball (by omega)) C3 HBL3.out hdk6 (I6.old hkF hkl) hblk htb6 h17b (by rw [hsp6.free]; exact HSF.out.1) (by omega) HFM.out HNUM.out hnew3 hrd3)
            have co6 := fun i => cell_row hobr6 i
            have HX6 := hid (And.intro hr6 (And.intro hrb6 (And.intro hsp6 hball)))
            have hob6 := lt_of_block hobr6
            have HOB6 := hid hobr6
            have hobF6 := I6.old hoF hol
            have hrl6 := lt_of_block hr6
            clear I6 t6 n6 I2 TA2 hn2 hsp2 hfl2 hslb2 hrow2 hold2 hn3 TA3 C3 hnew3 hrd3 hmem3 hdk6 htb6 hobr6 hin6 hsz6 hsp6 hr6 HCM hball co2 cr2
            go_upto_region 26 with (go_at_call 20; refine HRD.out.mono ?_; rintro e w7 ⟨so7, sr7, co7, cr7, rfl, htb7, hw7⟩; obtain ⟨F7, I7, t7, n7⟩ := HI6.out.1.went hw7; have HI7 := hid (And.intro I7 (And.intro t7 (And.intro n7 htb7))); clear hw7 I7 t7 n7 htb7)
            obtain ⟨W8, hW8⟩ : ∃ W8, W8 = w7.alloc (.cells #[.int .i64 t.vars, .slice so7 t.order.length co7, .slice sr7 t.rows.length cr7, .int .i64 t.next, .int .u64 (t.nf : Int)] 26) := ⟨_, rfl⟩
            have t8 : Touch [] w7 W8 := by rw [hW8]; exact (Touch.refl [] w7).alloc _
            have hq8 : W8.heap[w7.heap.size]? = some (.cells #[.int .i64 t.vars, .slice so7 t.order.length co7, .slice sr7 t.rows.length cr7, .int .i64 t.next, .int .u64 (t.nf : Int)] 26 (0, 0)) := by rw [hW8]; exact heap_alloc_new w7 _
            rw [← hW8]
            clear hW8
            obtain ⟨I7, t7, n7, htb7⟩ := HI7.out
            obtain ⟨hr6, hrb6, hsp6, hball⟩ := HX6.out
            have I8 := I7.quiet t8
            have hr8 := (t8.block _ (Nat.lt_of_lt_of_le hrl6 t7.size) (by simp)).trans ((t7.block _ hrl6 hrb6).trans hr6)
            have ho8 := (HK.out W8 I8.t).2.2.1
            have hsm := sameRows_true (co := co7) (cr := cr7) (co2 := tco) (cr2 := tcr) (htb7.touch t8 (by simp) (by simp)) (HTT.out W8 I8.t)
            simp only [tblV] at hsm
            have HSM := hid hsm
            have HI8 := hid I8
            have HRB := hid (fun W (tt : Touch [] W8 W) => (tt.block _ (lt_of_block hr8) (by simp)).trans hr8)
            have HOB := hid (fun W (tt : Touch [] W8 W) => (tt.block _ (lt_of_block ho8) (by simp)).trans ho8)
            have HTX := hid (fun W (tt : Touch [] W8 W) => HTT.out W (I8.t.trans tt (by simp)))
            have hfir : ((gen + 1 : Nat) : Int) = ((gen + 1 : Nat) : Int) := rfl
            clear hfir
            have c8 := fun i => cell_row hq8 i
            have d8 := fun i => cell_row hr8 i
            clear I7 t7 n7 htb7 hr6 hrb6 hsp6 hball I8 t8 hq8 hr8 ho8 hsm co6 HRD HOB6
            go_upto_region 28 with (go_at_call 13; refine HSM.out.mono ?_; rintro e w9 ⟨rfl, ht9⟩; have HT9 := hid ht9; clear ht9)
            clear c8 d8
            have HZ := hid (show (((dd ((t.rows.map Prod.snd).take 0)).length : Nat) : Int) = 0 by simp [dd])
            go_wp2_with fail
            go_loopw [18, 19] (fun f i W => ∃ q : Nat, q ≤ t.rows.length ∧ i = .int .i64 q ∧ f = .int .i64 (((dd ((t.rows.map Prod.snd).take q)).length : Nat) : Int) ∧ Hid (Touch [] W8 W)) (fun _ i _ => t.rows.length - (intOf i).toNat)
            case atStart => exact ⟨0, Nat.zero_le _, rfl, by rw [HZ.out], HT9⟩
            case round =>
              obtain ⟨q, hq, rfl, rfl, HTW⟩ := hrel
              have d9 := fun i => cell_row (HRB.out _ HTW.out) i
              by_cases hqt : q < t.rows.length
              · have hqi : (q : Int) < (t.rows.length : Int) := by omega
                have hq0 : (0 : Int) ≤ (q : Int) := by omega
                obtain ⟨a2, hsra, hab, _, e1⟩ := (HTX.out _ HTW.out).rows.at_ q hqt
                obtain ⟨u, hu⟩ : ∃ u, t.rows[q].2 = u := ⟨_, rfl⟩
                have hcell : ∀ j, (hj : j < t.rows.length) → ∀ W, Touch [] W8 W → W.cell? ⟨(a2.add (j * 2)).block, (a2.add (j * 2)).off + 1, none⟩ = some (.int .u64 ((t.rows[j].2 : Nat) : Int)) := fun j hj W tt => by
                  obtain ⟨a', e', _, _, h⟩ := (HTX.out W tt).rows.at_ j hj
                  rw [hsra] at e'
                  cases e'
                  exact h
                have HCE := hid hcell
                have HUQ := hid (show (t.rows.map Prod.snd)[q]'(by simpa using hqt) = u by rw [← hu]; simp)
                have HLT := hid (dd_len_take (t.rows.map Prod.snd) (k := q) (by simpa using hqt))
                have HDF := hid (dd_few (t.rows.map Prod.snd) q (by simp; omega))
                have HUE := hid hu
                rw [hu] at e1
                subst hsra
                clear hu hcell hab e1
                go_wp2_with fail
                go_loopw [20, 21] (fun fb j W => ∃ p : Nat, p ≤ q ∧ j = .int .i64 p ∧ fb = .bool (decide (u ∉ (t.rows.map Prod.snd).take p)) ∧ Hid (Touch [] W8 W)) (fun _ j _ => q - (intOf j).toNat)
                case atStart => exact ⟨0, Nat.zero_le _, rfl, by simp, HTW⟩
                case round =>
                  clear HTW d9
                  obtain ⟨p, hp, rfl, rfl, HTW⟩ := hrel
                  have d9 := fun i => cell_row (HRB.out _ HTW.out) i
                  by_cases hpq : p < q
                  · have hpi : (p : Int) < (t.rows.length : Int) := by omega
                    have hpq' : (p : Int) < (q : Int) := by omega
                    have hp0 : (0 : Int) ≤ (p : Int) := by omega
                    have hpt : p < t.rows.length := by omega
                    have e2 := HCE.out p hpt _ HTW.out
                    have e3 := HCE.out q hqt _ HTW.out
                    rw [HUE.out] at e3
                    obtain ⟨v, hv⟩ : ∃ v, t.rows[p].2 = v := ⟨_, rfl⟩
                    rw [hv] at e2
                    have HTK := hid (show (t.rows.map Prod.snd).take (p + 1) = (t.rows.map Prod.snd).take p ++ [v] by rw [List.take_succ_eq_append_getElem (by simpa using hpt), List.getElem_map, hv])
                    clear hv
                    by_cases huv : v = u
                    · subst huv
                      have hbb : ((v : Int) == (v : Int)) = true := by simp
                      have HR := hid (show decide (v ∉ (t.rows.map Prod.snd).take (p + 1)) = false by rw [HTK.out]; simp)
                      go_wp2_with fail
                      go_quiet (fail)
                      go_wp2_with fail
                      exact ⟨⟨p + 1, hpq, rfl, by rw [HR.out], hid (HTW.out.drewN _)⟩, by simp [intOf]; omega⟩
                    · have hbb : ((v : Int) == (u : Int)) = false := by simp; omega
                      have HR := hid (show decide (u ∉ (t.rows.map Prod.snd).take (p + 1)) = decide (u ∉ (t.rows.map Prod.snd).take p) by rw [HTK.out, decide_eq_decide, List.mem_append, List.mem_singleton]; simp [Ne.symm huv])
                      clear huv
                      go_wp2_with fail
                      go_quiet (fail)
                      go_wp2_with fail
                      exact ⟨⟨p + 1, hpq, rfl, by rw [HR.out], hid (HTW.out.drewN _)⟩, by simp [intOf]; omega⟩
                  · obtain rfl : p = q := by omega
                    have HQW := HTW
                    by_cases hin9 : u ∈ (t.rows.map Prod.snd).take p
                    · have HDL := hid (show (dd ((t.rows.map Prod.snd).take (p + 1))).length = (dd ((t.rows.map Prod.snd).take p)).length by rw [HLT.out, if_pos (by rw [HUQ.out]; exact hin9)]; rfl)
                      rw [show decide (u ∉ (t.rows.map Prod.snd).take p) = false by simp [hin9]]
                      clear hin9
                      go_wp2_with fail
                      exact ⟨⟨p + 1, hqt, rfl, by rw [HDL.out], HQW⟩, by simp [intOf]; omega⟩
                    · have HDL := hid (show (dd ((t.rows.map Prod.snd).take (p + 1))).length = (dd ((t.rows.map Prod.snd).take p)).length + 1 by rw [HLT.out, if_neg (by rw [HUQ.out]; exact hin9)])
                      rw [show decide (u ∉ (t.rows.map Prod.snd).take p) = true by simp [hin9]]
                      clear hin9
                      have hdf := HDF.out
                      obtain ⟨dl, hdl⟩ : ∃ dl, dl = (dd ((t.rows.map Prod.snd).take p)).length := ⟨_, rfl⟩
                      rw [← hdl] at hdf HDL ⊢
                      have hwr2 : IntKind.i64.wrap ((dl : Int) + 1) = ((dl + 1 : Nat) : Int) := by rw [IntKind.wrap_i64]; omega
                      clear hdl
                      go_wp2_with fail
                      exact ⟨⟨p + 1, hqt, rfl, by rw [HDL.out, Int.natCast_add]; rfl, HQW⟩, by simp [intOf]; omega⟩
              · obtain rfl : q = t.rows.length := by omega
                have hdf := dd_few (t.rows.map Prod.snd) t.rows.length (by simp)
                have HFULL := hid (show (t.rows.map Prod.snd).take t.rows.length = t.rows.map Prod.snd by have := List.take_length (l := t.rows.map Prod.snd); rwa [List.length_map] at this)
                rw [HFULL.out] at hdf ⊢
                obtain ⟨dl, hdl⟩ : ∃ dl, dl = (dd (t.rows.map Prod.snd)).length := ⟨_, rfl⟩
                rw [← hdl] at hdf ⊢
                obtain ⟨hn3, TA3, C3, hnew3, hrd3, hmem3⟩ := HC3.out
                obtain ⟨hr6, hrb6, hsp6, hball⟩ := HX6.out
                have I9 := HI8.out.quiet HTW.out
                have TA9 := TA3.rd ((blsT K A2.B t (gen + 1)).length : Int)
                have hmem9 : ∀ x, x ∈ namesF1 (rdX A3 ((blsT K A2.B t (gen + 1)).length : Int)) ↔ x = catN (gen + 1) ∨ x ∈ filesN t.rows := hmem3
                have hcount := names_count TA9.rise hmem9 (fun r hr => (HNUM.out.ri r hr).2)
                rw [← hdl] at hcount
                obtain ⟨rr, hrr⟩ := head_rise TA9.rise hmem9
                have hnl : (namesA (rdX A3 ((blsT K A2.B t (gen + 1)).length : Int))).length = dl + 1 := by
                  rw [names_len_eq TA9.on, ← hcount]
                  exact (List.length_map _).symm
                have hnm : ∃ rest, namesA (rdX A3 ((blsT K A2.B t (gen + 1)).length : Int)) = bs (catN (gen + 1)) :: rest := by
                  refine ⟨rr.map bs, ?_⟩
                  unfold namesA
                  rw [if_pos TA9.on]
                  have e : (rdX A3 ((blsT K A2.B t (gen + 1)).length : Int)).files.map (fun f => bs f.1) = ((rdX A3 ((blsT K A2.B t (gen + 1)).length : Int)).files.map Prod.fst).map bs := by rw [List.map_map]; rfl
                  have e2 : (rdX A3 ((blsT K A2.B t (gen + 1)).length : Int)).files.map Prod.fst = catN (gen + 1) :: rr := hrr
                  rw [e, e2]
                  rfl
                have hN := names_s I9.S (by have := bnd_big hball (by omega); omega)
                obtain ⟨rest, hrest⟩ := hnm
                rw [hnl, hrest] at hN
                have HN := hid hN
                have HI9 := hid (And.intro I9 (And.intro TA9 (And.intro hball (And.intro hsp6 hcount))))
                have o9 := fun i => cell_row (HOB.out _ HTW.out) i
                have hrestl : rest.length = dl := by rw [hrest] at hnl; simpa using hnl
                have hwr3 : IntKind.i64.wrap ((dl : Int) + 1) = ((dl + 1 : Nat) : Int) := by rw [IntKind.wrap_i64]; omega
                have hdl2 : dl + 1 ≤ 1025 := by omega
                have HCT9 := hid (fun W (hT' : Tabs W) => catS (u := gen + 1) (by omega) hT')
                have HTAB := hid (fun W (tt : Touch [] wr W) => (HK.out W (I9.t.trans tt (by simp))).2.1)
                clear hn3 TA3 C3 hnew3 hrd3 hmem3 hr6 hrb6 hsp6 hball I9 TA9 hmem9 hcount hrr hnl hrest hN hdl hdf hrestl
                go_upto_region 41 with (go_at_call 21; refine HN.out.mono ?_; rintro e w11 ⟨sa, sc, rfl, hst, hsb, ht11⟩; have HST := hid (And.intro hst ht11); clear hst hsb ht11)
                obtain ⟨hst, ht11⟩ := HST.out
                obtain ⟨a9, rfl, ha9, hc9⟩ := hst.at_ 0 (by simp)
                rw [add_nil] at hc9
                have hc9' : w11.cell? a9 = some (.string (bs (catN (gen + 1)))) := hc9
                have HC9 := hid hc9'
                have HT11 := hid ht11
                have HNR := hid (show ∃ nx : ByteArray, nx = bs (catN (gen + 1)) from ⟨_, rfl⟩)
                clear hst ht11 hc9 o9 d9 HST HN
                go_region_held3 (fun W => W.cell? a9 = some (.string (bs (catN (gen + 1))))) (go_keep)
                  (first | (go_at_call 22; refine (HCT9.out _ (HTAB.out _ HT11.out.drew)).mono ?_; rintro e w12 ⟨rfl, ht12⟩; have z2 : w12.cell? a9 = some (.string (bs (catN (gen + 1)))) := (ht12.cell ha9 (by simp)).trans HC9.out; have HT12 := hid ht12; clear ht12))
                obtain ⟨I9, TA9, hball, hsp6, hcount⟩ := HI9.out
                have hsp8 : SameP s0 ((((s2.take (K : Int)).give (K : Int)).take (K : Int)).give (K : Int)) := hsp6.trans (sameP_free (by rw [hsp6.hand, HSF.out.2.2.1]; omega) (by rw [hsp6.closed]; exact HSF.out.2.1) (by have := HBK.out.2.1; omega) (by rw [hsp6.free]; exact HSF.out.1))
                have hlb8 : ((((s2.take (K : Int)).give (K : Int)).take (K : Int)).give (K : Int)).lb = s0.lb := by rw [give_lb, take_lb, give_lb, take_lb]; exact HX2.out.2.2.2.2.2.1
                have hfl8 : (rdX A3 ((blsT K A2.B t (gen + 1)).length : Int)).files.length ≤ 1025 := by
                  have e : (namesF1 (rdX A3 ((blsT K A2.B t (gen + 1)).length : Int))).length = (rdX A3 ((blsT K A2.B t (gen + 1)).length : Int)).files.length := List.length_map _
                  rw [← e, hcount]
                  exact hdl2
                have I12 := I9.quiet ((HT11.out.trans (Touch.refl [] _).drew (by simp)).trans HT12.out (by simp))
                have HFIN := hid (show TuW W0 _ b s0 F B (gen + 1) (k + 1) from ⟨_, _, _, _, I12, TA9, hball, hsp8, hfl8, hlb8⟩)
                clear I9 TA9 hball hsp6 hcount hsp8 hlb8 hfl8 I12
                go_wp2_with fail
                exact ⟨⟨k + 1, gen + 1, hlt, by omega, rfl, rfl, HFIN⟩, by simp [intOf]; omega⟩
    · obtain rfl : k = l.length := by omega
      have HU := hid (used_s I.S)
      rw [hsp.hand, hsp.lent, HSF.out.2.2.1, HSF.out.2.2.2] at HU
      have HI := hid I
      clear hdk htb hobr hin hsz I TA hn1 hsp hfl hslb
      go_wp2_with (go_at_call 23; refine HU.out.mono ?_; rintro e w3 ⟨rfl, hw3⟩; have HW3 := hid hw3; clear hw3)
      go_ret
      obtain ⟨htw, hF, hws⟩ := HFS.out
      obtain ⟨F3, S3, t3, f3⟩ := HI.out.last HW3.out (by simp)
      exact ⟨rfl, htw.trans t3 (fun y hy => .inr (by have := hF y (by simpa using hy); omega))⟩
end
end Go.Proofs.YthehcjjckabljaaGreatDoor
/-
  CatalogTurns: tables that came in.
-/
namespace Go.Proofs.YthehcjjckabljaaGreatDoor
open Go.ChangeShapes Go.WideShapes Go.ChangeAt Go.RowKit Go.Deep
set_option maxRecDepth 100000

section
variable {H : Type} {enc : TypeId × Value → H} {W : World} {spare : Nat → Bool} {held : Bool}

theorem tbl_below {t : Tbl} {so sr : Option Addr} (h : TblAt W t so sr) : (∀ c, so = some c → t.order ≠ [] → c.block < W.heap.size) ∧ (∀ c, sr = some c → t.rows ≠ [] → c.block < W.heap.size) := by
  refine ⟨fun c hc hne => ?_, fun c hc hne => ?_⟩
  · obtain ⟨a, e, h1, _⟩ := h.ints.at_ 0 (List.length_pos_iff.2 hne)
    rw [hc] at e
    cases e
    exact h1
  · obtain ⟨a, e, h1, _⟩ := h.rows.at_ 0 (List.length_pos_iff.2 hne)
    rw [hc] at e
    cases e
    exact h1
/-- a table in a list. -/
theorem open_tbc {n : Nat} {a : Addr} {cs : List Value} {x : DataW H × List MemPlace} (h1 : W.cells? 0 a 5 = some cs) (h2 : DataW.trod enc Tryz.prog W 0 spare held n 26 cs = some x) (hk : Rows.uptoBulk x.1 ≤ 1048576) :
    ∃ r : TbI, a.block < W.heap.size ∧ W.cell? a = some (.int .i64 r.t.vars) ∧ W.cell? ⟨a.block, a.off + 1, none⟩ = some (.slice r.so r.t.order.length r.co) ∧ W.cell? ⟨a.block, a.off + 2, none⟩ = some (.slice r.sr r.t.rows.length r.cr) ∧ W.cell? ⟨a.block, a.off + 3, none⟩ = some (.int .i64 r.t.next) ∧ W.cell? ⟨a.block, a.off + 4, none⟩ = some (.int .u64 (r.t.nf : Int)) ∧ TblAt W r.t r.so r.sr := by
  have hm : (List.range 5).mapM (fun i => W.cell? (a.add i)) = some cs := by
    simpa [World.cells?] using h1
  have g : ∀ i, i < 5 → W.cell? (a.add i) = cs[i]? := fun i hi => mapM_some_get hm i i (by simp [hi])
  obtain ⟨xs, m, rfl, e2, hl, hxs, hall⟩ := DataW.trod_struct Tryz.underlying26 h2
  rw [cells26] at hl
  match cs, hl with
  | [v0, v1, v2, v3, v4], _ =>
  have f0 := hall 0 _ rfl
  have f1 := hall 1 _ rfl
  have f2 := hall 2 _ rfl
  have f3 := hall 3 _ rfl
  have f4 := hall 4 _ rfl
  simp [cells3, cells22, cells23, cells24] at f0 f1 f2 f3 f4
  have hx5 : xs.length = 5 := by simpa using hxs
  rw [List.getElem?_eq_getElem (by omega)] at f0 f1 f2 f3 f4
  subst e2
  simp only [Rows.uptoBulk] at hk
  have b1 := bulk_part (H := H) (d := (xs[1]'(by omega)).1) (l := xs.map (·.1)) (List.mem_map.2 ⟨_, List.getElem_mem _, rfl⟩)
  have b2 := bulk_part (H := H) (d := (xs[2]'(by omega)).1) (l := xs.map (·.1)) (List.mem_map.2 ⟨_, List.getElem_mem _, rfl⟩)
  obtain ⟨n0, q0, _, w0⟩ := DataW.trod_int Tryz.underlying3 f0
  obtain ⟨n3, q3, _, w3⟩ := DataW.trod_int Tryz.underlying3 f3
  obtain ⟨n4, q4, _, w4⟩ := DataW.trod_int Tryz.underlying24 f4
  obtain ⟨so, co, o, q1, ho, hol, hoi⟩ := open_nums f1 (by omega)
  obtain ⟨sr, cr, l, q2, hr, hrl, hri⟩ := open_rws f2 (by omega)
  simp at q0 q3 q4
  subst q0 q1 q2 q3 q4
  have w4 := u64_wf w4
  have g0 := g 0 (by omega)
  have g1 := g 1 (by omega)
  have g2 := g 2 (by omega)
  have g3 := g 3 (by omega)
  have g4 := g 4 (by omega)
  have hs1 := World.cell?_spot g0
  obtain ⟨b, off, spot⟩ := a
  have hsn : spot = none := by simpa [Addr.add] using hs1
  subst hsn
  rw [addC] at g0 g1 g2 g3 g4
  have hlt : b < W.heap.size := by simpa using World.block_lt_of_cell? W _ g0
  refine ⟨⟨⟨n0, o, l, n3, n4.toNat⟩, so, sr, co, cr⟩, hlt, by simpa using g0, by simpa using g1, by simpa using g2, by simpa using g3, ?_, ⟨ho, hr, hol, hrl, i64_rng w0, i64_rng w3, by show n4.toNat < _; omega, hoi, hri⟩⟩
  show _ = some (Value.int .u64 ((n4.toNat : Nat) : Int))
  rw [Int.toNat_of_nonneg w4.1]
  simpa using g4

/-- tables. -/
theorem open_tbs {v : Value} {d : DataW H} {ps : List MemPlace} {base : Nat} (hval : Value.okWide Tryz.prog W .any base 31 v) (h : DataW.Trod enc Tryz.prog W 0 spare held 31 v d ps) (hk : Rows.uptoBulk d ≤ 1048576) :
    ∃ (sa : Option Addr) (ca : Nat) (l : List TbI), v = .slice sa l.length ca ∧ TbsAt W W.heap.size sa l ∧ l.length ≤ 1048576 := by
  obtain ⟨a0, len, cap, rfl⟩ := okWide_slice Tryz.underlying31 hval
  obtain ⟨fuel, hf⟩ := h
  rcases open_slice Tryz.underlying31 hf with ⟨hcs, hx⟩ | ⟨a, len', cap', m, n, D, Pl, hcs, _, hl, hm, hmm, hx, hall⟩
  · simp [Value.cells] at hcs
    obtain ⟨rfl, rfl, rfl⟩ := hcs
    exact ⟨none, 0, [], rfl, ⟨fun k hk => by simp at hk⟩, Nat.zero_le _⟩
  · simp [Value.cells] at hcs
    obtain ⟨rfl, rfl, rfl⟩ := hcs
    rw [cells26] at hx hall
    obtain ⟨rfl, -⟩ := Prod.mk.inj hx
    have hlm : len ≤ m := by rw [hmm]; split <;> omega
    have hb1 : Rows.uptoBulkAll ((List.range len).map D) ≤ 1048576 := by
      simp only [Rows.uptoBulk] at hk
      omega
    have hlen2 := bulk_length ((List.range len).map D)
    simp only [List.length_map, List.length_range] at hlen2
    have each : ∀ i, i < len → ∃ r : TbI, (a.add (i * 5)).block < W.heap.size ∧ W.cell? (a.add (i * 5)) = some (.int .i64 r.t.vars) ∧ W.cell? ⟨(a.add (i * 5)).block, (a.add (i * 5)).off + 1, none⟩ = some (.slice r.so r.t.order.length r.co) ∧ W.cell? ⟨(a.add (i * 5)).block, (a.add (i * 5)).off + 2, none⟩ = some (.slice r.sr r.t.rows.length r.cr) ∧ W.cell? ⟨(a.add (i * 5)).block, (a.add (i * 5)).off + 3, none⟩ = some (.int .i64 r.t.next) ∧ W.cell? ⟨(a.add (i * 5)).block, (a.add (i * 5)).off + 4, none⟩ = some (.int .u64 (r.t.nf : Int)) ∧ TblAt W r.t r.so r.sr := fun i hi => by
      obtain ⟨cs', h1, h2⟩ := hall i (by omega)
      have h3 := bulk_part (H := H) (d := D i) (l := (List.range len).map D) (List.mem_map.2 ⟨i, List.mem_range.2 hi, rfl⟩)
      exact open_tbc h1 h2 (by show Rows.uptoBulk (D i) ≤ _; omega)
    haveI : Inhabited TbI := ⟨⟨⟨0, [], [], 0, 0⟩, none, none, 0, 0⟩⟩
    obtain ⟨f, hf⟩ := choose_lt each
    have hlen : ((List.range len).map f).length = len := by simp
    refine ⟨some a, cap, (List.range len).map f, by rw [hlen], ⟨fun k hk => ?_⟩, by rw [hlen]; omega⟩
    rw [hlen] at hk
    obtain ⟨h0, c0, c1, c2, c3, c4, ht⟩ := hf k hk
    rw [add_block] at h0
    have e : ((List.range len).map f)[k]'(by rw [hlen]; exact hk) = f k := by simp
    rw [e]
    exact ⟨a, rfl, h0, h0, c0, c1, c2, c3, c4, ht, (tbl_below ht).1, (tbl_below ht).2⟩
end
end Go.Proofs.YthehcjjckabljaaGreatDoor
