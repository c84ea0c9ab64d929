import Derived.Deep.DeepCutAuto
import Derived.Deep.CutBlock
import Derived.Test.YtcpncfngadablaaGreatDoorZ31
/-
  The law from its own file on.
-/
namespace Go.Proofs.YtcpncfngadablaaGreatDoor
open Go.RowKit Go.Deep ShfKit
set_option maxRecDepth 100000

/-- what region 9 leaves. -/
structure Fin9 (w W : World) (p mf mt B t : Nat) (v : Value) : Prop where
  ex : ∃ (fb : Nat) (c0 c1 c2 c3 : Int) (D : DiskC), v = .pointer (some ⟨fb, 0, none⟩) ∧ W.heap[fb]? = some (.cells #[.int .i64 c0, .int .i64 c1, .int .i64 c2, .int .i64 c3] 44 (0, 0)) ∧ (c0 = 0 → c1 = 0 ∧ c2 = 0 ∧ c3 = 0) ∧ Runs W w.heap.size p mf mt B t D ∧ Below w.heap.size w W
def cdHead : Code → Option Nat
  | .region n _ _ => some n
  | .seq a _ => cdHead a
  | _ => none
/-- the code from a region on. -/
def tailReg (n : Nat) : Code → Option Code
  | .seq a b => match tailReg n b with
    | some c => some c
    | none => if cdHead a = some n then some (.seq a b) else none
  | _ => none

set_option maxHeartbeats 16000000 in
theorem law_tail {w W2 : World} {E : Nat → Addr} {p mf mt B k : Nat} {v9 : Value} (HV : Hid (Env w w.heap.size E)) (h64 : 64 ≤ B) (h65 : B ≤ 65536) (hna : k ≤ 1048576) (hcut : Fin9 w W2 p mf mt B (k + 4) v9) (u0 u1 u2 u3 u4 u6 u7 u8 u10 u11 u12 u13 u14 u15 u16 u17 u18 u19 u20 u21 u22 u23 u24 u25 u26 u27 u28 u29 u30 u31 u32 u33 u34 u35 u36 u37 u38 u39 u40 u41 u42 u43 u44 u45 u46 u47 u48 u49 u50 u51 u52 u53 u54 u55 u56 u57 u58 u59 u60 u61 u62 u63 u64 u65 u66 u67 u68 u69 u70 u71 u72 u73 u74 u75 u76 u77 u78 u79 u80 u81 u82 u83 u84 u85 u86 u87 u88 u89 u90 u91 u92 u93 u94 u95 u96 u97 u98 u99 u100 u101 u102 u103 u104 u105 u106 u107 u108 u109 u110 u111 u112 u113 u114 u115 u116 u117 u118 u119 u120 u121 u122 u123 u124 u125 u126 u127 u128 u129 u130 u131 u132 u133 u134 u135 u136 u137 u138 u139 u140 u141 u142 u143 u144 u145 u146 u147 u148 u149 u150 u151 u152 u153 u154 u155 u156 u157 u158 u159 u160 u161 u162 u163 u164 u165 u166 u167 u168 u169 u170 u171 u172 u173 u174 u175 u176 u177 u178 u179 u180 u181 u182 u183 u184 u185 u186 u187 u188 u189 u190 u191 : Value) :
    Code.wp Tryz.prog ((Tryz.f3.body.bind (tailReg 10)).getD .skip) (bodyPost Tryz.prog Tryz.f3 (fun e w' => e = .returned (.bool true) ∧ Below w.heap.size w w')) { tmps := #[u0, u1, u2, u3, u4, .pointer (some ⟨p, 0, none⟩), u6, u7, u8, v9, u10, u11, u12, u13, u14, u15, u16, u17, u18, u19, u20, u21, u22, u23, u24, u25, u26, u27, u28, u29, u30, u31, u32, u33, u34, u35, u36, u37, u38, u39, u40, u41, u42, u43, u44, u45, u46, u47, u48, u49, u50, u51, u52, u53, u54, u55, u56, u57, u58, u59, u60, u61, u62, u63, u64, u65, u66, u67, u68, u69, u70, u71, u72, u73, u74, u75, u76, u77, u78, u79, u80, u81, u82, u83, u84, u85, u86, u87, u88, u89, u90, u91, u92, u93, u94, u95, u96, u97, u98, u99, u100, u101, u102, u103, u104, u105, u106, u107, u108, u109, u110, u111, u112, u113, u114, u115, u116, u117, u118, u119, u120, u121, u122, u123, u124, u125, u126, u127, u128, u129, u130, u131, u132, u133, u134, u135, u136, u137, u138, u139, u140, u141, u142, u143, u144, u145, u146, u147, u148, u149, u150, u151, u152, u153, u154, u155, u156, u157, u158, u159, u160, u161, u162, u163, u164, u165, u166, u167, u168, u169, u170, u171, u172, u173, u174, u175, u176, u177, u178, u179, u180, u181, u182, u183, u184, u185, u186, u187, u188, u189, u190, u191], defers := [] } W2 := by
  obtain ⟨fb, c0, c1, c2, c3, D2, rfl, hrow, himp, hrun, hlow⟩ := hcut.ex
  clear hcut
  have HRUN := hid hrun
  have HLOW := hid hlow
  have HIMP := hid himp
  have cz0 := cell_row hrow 0
  have cz1 := cell_row hrow 1
  have cz2 := cell_row hrow 2
  have cz3 := cell_row hrow 3
  simp at cz0 cz1 cz2 cz3
  clear hrow himp hrun hlow
  conv in (Option.getD _ _) => whnf
  try dsimp only
  go_upto_region 10 with fail
  go_cut [80] (fun v wx => v = .bool false ∧ wx = W2)
  case first =>
    by_cases hc : c0 = 0
    · obtain ⟨h1, h2, h3⟩ := HIMP.out hc
      subst hc h1 h2 h3
      go_wp2_with fail
      go_meet
      exact ⟨rfl, rfl⟩
    · go_wp2_with fail
      go_meet
      exact ⟨rfl, rfl⟩
  case rest =>
    obtain ⟨rfl, rfl⟩ := hcut
    clear cz0 cz1 cz2 cz3 HIMP
    have hk4 : k + 4 ≤ 1048580 := by omega
    have C14 := hid (HRUN.out.state1 (by omega))
    go_wp2_with fail
    refine Calls.mono C14.out ?_
    rintro e w5 ⟨fv5, l5, rfl, st5, pu5, b5⟩
    have C13 := hid (HRUN.out.copy1 (by omega) st5 pu5)
    have B5 := hid b5
    clear st5 pu5 b5 C14
    go_wp2_with fail
    refine Calls.mono C13.out ?_
    rintro e w6 ⟨fo6, m6, rfl, sf6, pm6, b6⟩
    obtain ⟨so6, co6, hfo6⟩ := sh_slice sf6.own
    obtain ⟨n6, hn6⟩ : ∃ n6, n6 = m6.length := ⟨_, rfl⟩
    rw [← hn6] at hfo6
    subst hfo6
    obtain ⟨sp, hsp⟩ : ∃ sp, sp = w6.heap.size + 1 := ⟨_, rfl⟩
    obtain ⟨hb, hhb⟩ : ∃ hb, hb = w6.heap.size := ⟨_, rfl⟩
    obtain ⟨W7, hW7⟩ : ∃ W7, W7 = w6.alloc (.cells #[.int .i64 (B : Int), .slice so6 n6 co6] 47) := ⟨_, rfl⟩
    obtain ⟨W8, hW8⟩ : ∃ W8, W8 = W7.alloc (.cells #[.slice none 0 0, .slice none 0 0, .slice none 0 0] 55) := ⟨_, rfl⟩
    have z7 : W7.heap.size = sp := by rw [hW7, hsp]; simp
    have b67 : Below w6.heap.size w6 W7 := by rw [hW7]; exact (Below.refl _ _).alloc (Nat.le_refl _) _
    have b78 : Below W7.heap.size W7 W8 := by rw [hW8]; exact (Below.refl _ _).alloc (Nat.le_refl _) _
    have b68 : Below w6.heap.size w6 W8 := b67.trans (b78.mono b67.size)
    have b27 : Below wc.heap.size wc W7 := B5.out.trans ((b6.trans (b67.mono b6.size)).mono B5.out.size)
    have S8 : Hid (Sy W8 E w.heap.size p mf mt B (k + 4) D2 (sg0 sp)) := by
      have ev : Env wc w.heap.size E := ⟨HV.out.sents.below HLOW.out HV.out.vars HV.out.objs, HV.out.vars, HV.out.objs, HLOW.out.size⟩
      have ht : Touch [] wc W7 := Touch.of_below b27 (Nat.le_refl _)
      have hs := Sy.new (ev.touch ht (by simp)) (HRUN.out.touch ht) (o := .cells #[.slice none 0 0, .slice none 0 0, .slice none 0 0] 55 (0, 0)) rfl
      rw [z7] at hs
      rw [hW8]
      exact hs
    have L8 : Hid (Below w.heap.size w W8) := HLOW.out.trans ((b27.trans (b78.mono b27.size)).mono HLOW.out.size)
    have TH8 : Hid (Told W8 w5.heap.size w6.heap.size ((sg0 sp).foot ++ D2.foot p mf mt) (.slice so6 n6 co6) m6) := by
      have k0 : Told w6 w5.heap.size w6.heap.size (D2.foot p mf mt) (.slice so6 n6 co6) m6 := Told.start sf6 rfl (fun b hm => by have := HRUN.out.rep.lt b hm; have := B5.out.size; omega)
      refine k0.step (G := []) (Touch.of_below b68 (Nat.le_refl _)) (by simp) (fun b hm => ?_)
      rcases List.mem_append.1 hm with hm | hm
      · rw [sg0_foot] at hm
        simp at hm
        exact .inr (by omega)
      · exact .inl hm
    have BX8 : Hid (W8.heap[hb]? = some (.cells #[.int .i64 (B : Int), .slice so6 n6 co6] 47 (0, 0)) ∧ hb ∉ (sg0 sp).foot ++ D2.foot p mf mt) := by
      refine ⟨?_, fun hm => ?_⟩
      · rw [b78.block hb (by omega), hhb, hW7]
        exact heap_alloc_new _ _
      · rcases List.mem_append.1 hm with hm | hm
        · rw [sg0_foot] at hm
          simp at hm
          omega
        · have := HRUN.out.rep.lt _ hm
          have := B5.out.size
          have := b6.size
          omega
    have ASK1 := hid (asks_any (x := (B : Int)) S8.out h64 h65 TH8.out pm6 (by omega) (by simp [sg0]) (by simp [sg0]) (by simp [sg0]))
    have HW7 := hid hW7
    have HW8 := hid hW8
    have PM6 := hid pm6
    have SPE : Hid ((sg0 sp).p = sp) := rfl
    have FEW2 : Hid (D2.ents.length ≤ 1049000 ∧ (D2.ents.map Ent.pub).length ≤ 1049000 ∧ total (D2.ents.map Ent.pub) ≤ 1049000) := by
      have h1 := HRUN.out.inv.total
      have h2 := HRUN.out.inv.few
      have h3 : D2.pub.files = D2.ents.map Ent.pub := rfl
      rw [h3] at h1 h2
      exact ⟨by simp at h2; omega, by omega, by omega⟩
    clear sf6 b6 b67 b78 b68 b27 z7 hW7 hW8 pm6 hn6 C13 B5 HRUN HLOW
    go_wp2_with fail
    rw [← hsp, ← hhb, ← HW7.out, ← HW8.out]
    clear hsp hhb HW7 HW8
    refine Calls.mono ASK1.out ?_
    rintro e W9 ⟨rfl, t9, D3, S9, tl1, nl1, ex1, as9, ht9, htl1, hnl1, hex1⟩
    have A9 := hid as9
    have HT9 := hid (And.intro htl1 (And.intro hnl1 hex1))
    have BX9 := hid (as9.stp.box BX8.out.1 BX8.out.2)
    have TH9 := hid (as9.stp.held TH8.out)
    have L9 := hid (as9.stp.low S8.out L8.out)
    have C9 := hid (as9.sy.create (by omega) ⟨#[110, 45, 50]⟩)
    clear as9 htl1 hnl1 hex1 ASK1 S8 TH8 BX8 L8
    go_wp2_with fail
    refine Calls.mono C9.out ?_
    rintro e W10 ⟨c10, rfl, D4, sy10, st10⟩
    have C16 := hid (sy10.delete (by omega) n1S)
    have X10 := hid (And.intro sy10 st10)
    clear sy10 st10 C9
    go_wp2_with fail
    refine Calls.mono C16.out ?_
    rintro e W11 ⟨c11, rfl, D5, sy11, st11⟩
    have S11 := hid sy11
    have ST11 := hid (X10.out.2.trans st11)
    have L11 := hid (ST11.out.low A9.out.sy L9.out)
    have C14 := hid (sy11.run.state1 (by omega))
    clear sy11 st11 X10 C16
    go_wp2_with fail
    refine Calls.mono C14.out ?_
    rintro e w12 ⟨fv12, l12, rfl, st12, pu12, b12⟩
    have C13 := hid (S11.out.run.copy1 (by omega) st12 pu12)
    have B12 := hid b12
    clear st12 pu12 b12 C14
    go_wp2_with fail
    refine Calls.mono C13.out ?_
    rintro e w13 ⟨fo13, m13, rfl, sf13, pm13, b13⟩
    obtain ⟨so13, co13, hfo13⟩ := sh_slice sf13.own
    obtain ⟨n13, hn13⟩ : ∃ n13, n13 = m13.length := ⟨_, rfl⟩
    rw [← hn13] at hfo13
    subst hfo13
    obtain ⟨tb, htb⟩ : ∃ tb, tb = w13.heap.size := ⟨_, rfl⟩
    obtain ⟨W14, hW14⟩ : ∃ W14, W14 = w13.alloc (.cells #[.int .i64 (B : Int), .slice so13 n13 co13] 47) := ⟨_, rfl⟩
    have b1314 : Below w13.heap.size w13 W14 := by rw [hW14]; exact (Below.refl _ _).alloc (Nat.le_refl _) _
    have b1114 : Below W11.heap.size W11 W14 := B12.out.trans ((b13.trans (b1314.mono b13.size)).mono B12.out.size)
    have S14 := hid (S11.out.below b1114)
    have L14 : Hid (Below w.heap.size w W14) := L11.out.trans (b1114.mono L11.out.size)
    have ST14 := hid (ST11.out.below b1114)
    have TT14 : Hid (Told W14 w12.heap.size w13.heap.size (S9.foot ++ D5.foot p mf mt) (.slice so13 n13 co13) m13) := by
      have k0 : Told w13 w12.heap.size w13.heap.size (S9.foot ++ D5.foot p mf mt) (.slice so13 n13 co13) m13 := Told.start sf13 rfl (fun b hm => by
        have := B12.out.size
        rcases List.mem_append.1 hm with hm | hm
        · have := S11.out.sh.lt b hm
          omega
        · have := S11.out.run.rep.lt b hm
          omega)
      exact k0.below b1314
    have BT14 : Hid (W14.heap[tb]? = some (.cells #[.int .i64 (B : Int), .slice so13 n13 co13] 47 (0, 0)) ∧ tb ∉ S9.foot ++ D5.foot p mf mt) := by
      refine ⟨by rw [htb, hW14]; exact heap_alloc_new _ _, fun hm => ?_⟩
      have := B12.out.size
      have := b13.size
      rcases List.mem_append.1 hm with hm | hm
      · have := S11.out.sh.lt _ hm
        omega
      · have := S11.out.run.rep.lt _ hm
        omega
    have BX14 := hid (ST14.out.box BX9.out.1 BX9.out.2)
    have TH14 := hid (ST14.out.held TH9.out)
    have TL14 : Hid (∀ q ∈ tl1, Told W14 q.n q.m (S9.hdr ++ D5.foot p mf mt) q.fv q.l ∧ q.l.map SFile.pub = D2.ents.map Ent.pub) := fun q hq => ⟨ST14.out.told (A9.out.told q hq).1, (A9.out.told q hq).2⟩
    have LN9 : Hid (S9.Ls.length = 2 ∧ S9.Lt.length = 2 ∧ S9.Lb.length ≤ 2098036) := by
      refine ⟨by rw [A9.out.ls]; simp [sg0, HT9.out.1], by rw [A9.out.lt]; simp [sg0, HT9.out.2.1], by rw [A9.out.lb]; simp [sg0]; exact HT9.out.2.2⟩
    have ASK2 := hid (asks_any (x := (B : Int)) S14.out h64 h65 TT14.out pm13 (by omega) (by rw [LN9.out.1]; omega) (by rw [LN9.out.2.1]; omega) (by have := LN9.out.2.2; omega))
    have FEW5 : Hid ((D5.ents.map Ent.pub).length ≤ 1049000 ∧ total (D5.ents.map Ent.pub) ≤ 1049000) := by
      have h1 := S14.out.run.inv.total
      have h2 := S14.out.run.inv.few
      have h3 : D5.pub.files = D5.ents.map Ent.pub := rfl
      rw [h3] at h1 h2
      exact ⟨by omega, by omega⟩
    have SPE9 : Hid (S9.p = sp) := A9.out.sp
    rw [SPE9.out] at ASK2
    have HW14 := hid hW14
    have PM13 := hid pm13
    clear sf13 b13 b1314 b1114 hW14 pm13 hn13 C13 B12 S11 L11 ST11 BX9 TH9 L9
    go_wp2_with fail
    rw [← htb, ← HW14.out]
    clear htb HW14
    refine Calls.mono ASK2.out ?_
    rintro e W15 ⟨rfl, t15, D6, S15, tl2, nl2, ex2, as15, ht15, htl2, hnl2, hex2⟩
    have A15 := hid as15
    have HT15 := hid (And.intro htl2 (And.intro hnl2 hex2))
    have BX15 := hid (as15.stp.box BX14.out.1 BX14.out.2)
    have BT15 := hid (as15.stp.box BT14.out.1 BT14.out.2)
    have TH15 := hid (as15.stp.held TH14.out)
    have TT15 := hid (as15.stp.held TT14.out)
    have TL15 : Hid (∀ q ∈ tl1, Told W15 q.n q.m (S15.hdr ++ D6.foot p mf mt) q.fv q.l ∧ q.l.map SFile.pub = D2.ents.map Ent.pub) := fun q hq => ⟨as15.stp.told (TL14.out q hq).1, (TL14.out q hq).2⟩
    have L15 := hid (as15.stp.low S14.out L14.out)
    clear as15 htl2 hnl2 hex2 ASK2 BX14 BT14 TH14 TT14 TL14 L14 ST14
    obtain ⟨q0, q1, eq1⟩ := two_of HT9.out.1
    obtain ⟨q2, q3, eq2⟩ := two_of HT15.out.1
    obtain ⟨v0, v1, ev1⟩ := two_of HT9.out.2.1
    obtain ⟨v2, v3, ev2⟩ := two_of HT15.out.2.1
    obtain ⟨gs, gt, cs, ct, hf4⟩ := four_of A9.out A15.out eq1 eq2 ev1 ev2
    have F4 := hid hf4
    have PH := hid (ph_of A9.out A15.out FEW2.out.1 (by have := FEW5.out.1; simpa using this))
    have SPE15 : Hid (S15.p = sp) := A15.out.sp.trans SPE9.out
    have PD6 : Hid (D6.ents.map Ent.pub = D5.ents.map Ent.pub) := A15.out.pub
    have LN15 : Hid (S15.Ls.length = 4 ∧ S15.Lt.length = 4 ∧ S15.Lb.length ≤ 4196072) := by
      refine ⟨by rw [A15.out.ls, List.length_append, LN9.out.1, List.length_map, HT15.out.1], by rw [A15.out.lt, List.length_append, LN9.out.2.1, List.length_map, HT15.out.2.1], ?_⟩
      rw [A15.out.lb, List.length_append]
      have h1 := LN9.out.2.2
      have h2 := HT15.out.2.2
      omega
    have SS0 : Hid (∀ W, Below W15.heap.size W15 W → Calls Tryz.prog 17 #[.agg #[.int .i64 (B : Int), q0.fv], .agg #[.int .i64 (B : Int), .slice so6 n6 co6]] W fun e W' => e = .returned (.bool true) ∧ Below W.heap.size W W') := fun W hb => same_states ((TL15.out q0 (by rw [eq1]; simp)).1.below hb).fr (TH15.out.below hb).fr (TL15.out q0 (by rw [eq1]; simp)).2 PM6.out FEW2.out.2.1 FEW2.out.2.2
    have SS1 : Hid (∀ W, Below W15.heap.size W15 W → Calls Tryz.prog 17 #[.agg #[.int .i64 (B : Int), q1.fv], .agg #[.int .i64 (B : Int), .slice so6 n6 co6]] W fun e W' => e = .returned (.bool true) ∧ Below W.heap.size W W') := fun W hb => same_states ((TL15.out q1 (by rw [eq1]; simp)).1.below hb).fr (TH15.out.below hb).fr (TL15.out q1 (by rw [eq1]; simp)).2 PM6.out FEW2.out.2.1 FEW2.out.2.2
    have SS2 : Hid (∀ W, Below W15.heap.size W15 W → Calls Tryz.prog 17 #[.agg #[.int .i64 (B : Int), q2.fv], .agg #[.int .i64 (B : Int), .slice so13 n13 co13]] W fun e W' => e = .returned (.bool true) ∧ Below W.heap.size W W') := fun W hb => same_states ((A15.out.told q2 (by rw [eq2]; simp)).1.below hb).fr (TT15.out.below hb).fr (A15.out.told q2 (by rw [eq2]; simp)).2 PM13.out FEW5.out.1 FEW5.out.2
    have SS3 : Hid (∀ W, Below W15.heap.size W15 W → Calls Tryz.prog 17 #[.agg #[.int .i64 (B : Int), q3.fv], .agg #[.int .i64 (B : Int), .slice so13 n13 co13]] W fun e W' => e = .returned (.bool true) ∧ Below W.heap.size W W') := fun W hb => same_states ((A15.out.told q3 (by rw [eq2]; simp)).1.below hb).fr (TT15.out.below hb).fr (A15.out.told q3 (by rw [eq2]; simp)).2 PM13.out FEW5.out.1 FEW5.out.2
    have LTS : Hid (S15.Lt = [nmRow (D2.ents.map Ent.name) v0, nmRow (D2.ents.map Ent.name) v1, nmRow (D5.ents.map Ent.name) v2, nmRow (D5.ents.map Ent.name) v3]) := by
      show _ = _
      rw [A15.out.lt, A9.out.lt, ev1, ev2]
      rfl
    have NN0 : Hid (∀ W, Below W15.heap.size W15 W → Calls Tryz.prog 18 #[v0, v1] W fun e W' => e = .returned (.bool true) ∧ Below W.heap.size W W') := fun W hb => by
      have hf := ((A15.out.below hb).sy.sh).ft
      exact names_same (hf.own 0 _ (by rw [LTS.out]; rfl)) (hf.own 1 _ (by rw [LTS.out]; rfl)) (by have := FEW2.out.1; simp [nmRow]; omega)
    have NN2 : Hid (∀ W, Below W15.heap.size W15 W → Calls Tryz.prog 18 #[v2, v3] W fun e W' => e = .returned (.bool true) ∧ Below W.heap.size W W') := fun W hb => by
      have hf := ((A15.out.below hb).sy.sh).ft
      exact names_same (hf.own 2 _ (by rw [LTS.out]; rfl)) (hf.own 3 _ (by rw [LTS.out]; rfl)) (by have := FEW5.out.1; simp at this; simp [nmRow]; omega)
    have BZ : Hid (Below W15.heap.size W15 W15) := Below.refl _ _
    clear hf4 HT9 HT15 LN9 TL15 TH15 eq1 eq2 ev1 ev2 A9 S14 LTS SPE9
    go_wp2_with fail
    have K21 : Hid (∀ W, Below W15.heap.size W15 W → W.cell? ⟨sp, 2, none⟩ = some (.slice (some ⟨gs, 0, none⟩) 4 cs) ∧ W.cell? ⟨gs, 0, none⟩ = some (.int .i64 (B : Int)) ∧ W.cell? ⟨gs, 1, none⟩ = some q0.fv ∧ W.cell? ⟨gs, 2, none⟩ = some (.int .i64 (B : Int)) ∧ W.cell? ⟨gs, 3, none⟩ = some q1.fv ∧ W.cell? ⟨hb, 0, none⟩ = some (.int .i64 (B : Int)) ∧ W.cell? ⟨hb, 1, none⟩ = some (.slice so6 n6 co6)) := fun W hb => by
      have f4 := F4.out.below hb
      have hr := (hb.block _ (lt_of_block BX15.out.1)).trans BX15.out.1
      have d0 := cell_row hr 0
      have d1 := cell_row hr 1
      simp at d0 d1
      exact ⟨f4.s2, f4.g0, f4.g1, f4.g2, f4.g3, d0, d1⟩
    refine wp_region_noPanic ?_
    refine wp_region_held_drew (S := fun W => W.cell? ⟨sp, 2, none⟩ = some (.slice (some ⟨gs, 0, none⟩) 4 cs) ∧ W.cell? ⟨gs, 0, none⟩ = some (.int .i64 (B : Int)) ∧ W.cell? ⟨gs, 1, none⟩ = some q0.fv ∧ W.cell? ⟨gs, 2, none⟩ = some (.int .i64 (B : Int)) ∧ W.cell? ⟨gs, 3, none⟩ = some q1.fv ∧ W.cell? ⟨hb, 0, none⟩ = some (.int .i64 (B : Int)) ∧ W.cell? ⟨hb, 1, none⟩ = some (.slice so6 n6 co6)) (by kernel_rfl) (K21.out _ BZ.out.drew) (fun hHeld => ?_)
    refine wpAnyH_take (i := 0) (v := ?_) (by simp only [List.getElem?_toArray, List.getElem?_cons_zero]; rfl) (by kernel_rfl) (by kernel_rfl) (by kernel_rfl) (fun _ _ _ h => h) (Or.inl ⟨by rfl, ?_⟩) (by assumption) ?_
    rotate_left 1
    · intro w hSw; (try dsimp only at hSw); go_simp; (try with_reducible rfl)
    try simp only [Act.put, List.setIfInBounds_toArray, List.set_cons_zero, List.set_cons_succ]
    refine wpAnyH_take (i := 1) (v := ?_) (by simp only [List.getElem?_toArray, List.getElem?_cons_succ, List.getElem?_cons_zero]; rfl) (by kernel_rfl) (by kernel_rfl) (by kernel_rfl) (fun _ _ _ h => h) (Or.inl ⟨by rfl, ?_⟩) (by assumption) ?_
    rotate_left 1
    · intro w hSw; (try dsimp only at hSw); go_simp; (try with_reducible rfl)
    try simp only [Act.put, List.setIfInBounds_toArray, List.set_cons_zero, List.set_cons_succ]
    refine wpAnyH_take (i := 2) (v := ?_) (by simp only [List.getElem?_toArray, List.getElem?_cons_succ, List.getElem?_cons_zero]; rfl) (by kernel_rfl) (by kernel_rfl) (by kernel_rfl) (fun _ _ _ h => h) (Or.inl ⟨by rfl, ?_⟩) (by assumption) ?_
    rotate_left 1
    · intro w hSw; (try dsimp only at hSw); go_simp; (try with_reducible rfl)
    try simp only [Act.put, List.setIfInBounds_toArray, List.set_cons_zero, List.set_cons_succ]
    refine wpAnyH_take (i := 3) (v := ?_) (by simp only [List.getElem?_toArray, List.getElem?_cons_succ, List.getElem?_cons_zero]; rfl) (by kernel_rfl) (by kernel_rfl) (by kernel_rfl) (fun _ _ _ h => h) (Or.inl ⟨by rfl, ?_⟩) (by assumption) ?_
    rotate_left 1
    · intro w hSw; (try dsimp only at hSw); go_simp; (try with_reducible rfl)
    try simp only [Act.put, List.setIfInBounds_toArray, List.set_cons_zero, List.set_cons_succ]
    refine wpAnyH_take (i := 4) (v := ?_) (by simp only [List.getElem?_toArray, List.getElem?_cons_succ, List.getElem?_cons_zero]; rfl) (by kernel_rfl) (by kernel_rfl) (by kernel_rfl) (fun _ _ _ h => h) (Or.inl ⟨by rfl, ?_⟩) (by assumption) ?_
    rotate_left 1
    · intro w hSw; (try dsimp only at hSw); go_simp; (try with_reducible rfl)
    try simp only [Act.put, List.setIfInBounds_toArray, List.set_cons_zero, List.set_cons_succ]
    refine wpAnyH_take (i := 5) (v := ?_) (by simp only [List.getElem?_toArray, List.getElem?_cons_succ, List.getElem?_cons_zero]; rfl) (by kernel_rfl) (by kernel_rfl) (by kernel_rfl) (fun _ _ _ h => h) (Or.inl ⟨by rfl, ?_⟩) (by assumption) ?_
    rotate_left 1
    · intro w hSw; (try dsimp only at hSw); go_simp; (try with_reducible rfl)
    try simp only [Act.put, List.setIfInBounds_toArray, List.set_cons_zero, List.set_cons_succ]
    refine wpAnyH_take (i := 6) (v := ?_) (by simp only [List.getElem?_toArray, List.getElem?_cons_succ, List.getElem?_cons_zero]; rfl) (by kernel_rfl) (by kernel_rfl) (by kernel_rfl) (fun _ _ _ h => h) (Or.inl ⟨by rfl, ?_⟩) (by assumption) ?_
    rotate_left 1
    · intro w hSw; (try dsimp only at hSw); go_simp; (try with_reducible rfl)
    try simp only [Act.put, List.setIfInBounds_toArray, List.set_cons_zero, List.set_cons_succ]
    refine wpAnyH_ready (rs := [7]) (by kernel_rfl) (by simp) ?_
    refine AllReadyH.cons (by simp only [List.getElem?_toArray, List.getElem?_cons_succ, List.getElem?_cons_zero]; rfl) (fun K hK => ?_) AllReadyH.nil
    go_simp
    go_at_call 17
    refine Calls.mono (SS0.out _ BZ.out.drew) ?_
    rintro e V1 ⟨rfl, hb⟩
    have B1 : Hid (Below W15.heap.size W15 V1) := BZ.out.drew.trans (hb.mono BZ.out.drew.size)
    clear hb
    clear hHeld
    refine hK.out _ _ (K21.out _ B1.out) (fun hHeld => ?_)
    clear hK K
    try simp only [Act.put, List.setIfInBounds_toArray, List.set_cons_zero, List.set_cons_succ]
    refine wpAnyH_take (i := 8) (v := ?_) (by simp only [List.getElem?_toArray, List.getElem?_cons_succ, List.getElem?_cons_zero]; rfl) (by kernel_rfl) (by kernel_rfl) (by kernel_rfl) (fun _ _ _ h => h) (Or.inl ⟨by rfl, ?_⟩) (by assumption) ?_
    rotate_left 1
    · intro w hSw; (try dsimp only at hSw); go_simp; (try with_reducible rfl)
    try simp only [Act.put, List.setIfInBounds_toArray, List.set_cons_zero, List.set_cons_succ]
    refine wpAnyH_take (i := 9) (v := ?_) (by simp only [List.getElem?_toArray, List.getElem?_cons_succ, List.getElem?_cons_zero]; rfl) (by kernel_rfl) (by kernel_rfl) (by kernel_rfl) (fun _ _ _ h => h) (Or.inl ⟨by rfl, ?_⟩) (by assumption) ?_
    rotate_left 1
    · intro w hSw; (try dsimp only at hSw); go_simp; (try with_reducible rfl)
    try simp only [Act.put, List.setIfInBounds_toArray, List.set_cons_zero, List.set_cons_succ]
    refine wpAnyH_take (i := 10) (v := ?_) (by simp only [List.getElem?_toArray, List.getElem?_cons_succ, List.getElem?_cons_zero]; rfl) (by kernel_rfl) (by kernel_rfl) (by kernel_rfl) (fun _ _ _ h => h) (Or.inl ⟨by rfl, ?_⟩) (by assumption) ?_
    rotate_left 1
    · intro w hSw; (try dsimp only at hSw); go_simp; (try with_reducible rfl)
    try simp only [Act.put, List.setIfInBounds_toArray, List.set_cons_zero, List.set_cons_succ]
    refine wpAnyH_take (i := 11) (v := ?_) (by simp only [List.getElem?_toArray, List.getElem?_cons_succ, List.getElem?_cons_zero]; rfl) (by kernel_rfl) (by kernel_rfl) (by kernel_rfl) (fun _ _ _ h => h) (Or.inl ⟨by rfl, ?_⟩) (by assumption) ?_
    rotate_left 1
    · intro w hSw; (try dsimp only at hSw); go_simp; (try with_reducible rfl)
    try simp only [Act.put, List.setIfInBounds_toArray, List.set_cons_zero, List.set_cons_succ]
    refine wpAnyH_take (i := 12) (v := ?_) (by simp only [List.getElem?_toArray, List.getElem?_cons_succ, List.getElem?_cons_zero]; rfl) (by kernel_rfl) (by kernel_rfl) (by kernel_rfl) (fun _ _ _ h => h) (Or.inl ⟨by rfl, ?_⟩) (by assumption) ?_
    rotate_left 1
    · intro w hSw; (try dsimp only at hSw); go_simp; (try with_reducible rfl)
    try simp only [Act.put, List.setIfInBounds_toArray, List.set_cons_zero, List.set_cons_succ]
    refine wpAnyH_take (i := 13) (v := ?_) (by simp only [List.getElem?_toArray, List.getElem?_cons_succ, List.getElem?_cons_zero]; rfl) (by kernel_rfl) (by kernel_rfl) (by kernel_rfl) (fun _ _ _ h => h) (Or.inl ⟨by rfl, ?_⟩) (by assumption) ?_
    rotate_left 1
    · intro w hSw; (try dsimp only at hSw); go_simp; (try with_reducible rfl)
    try simp only [Act.put, List.setIfInBounds_toArray, List.set_cons_zero, List.set_cons_succ]
    refine wpAnyH_take (i := 14) (v := ?_) (by simp only [List.getElem?_toArray, List.getElem?_cons_succ, List.getElem?_cons_zero]; rfl) (by kernel_rfl) (by kernel_rfl) (by kernel_rfl) (fun _ _ _ h => h) (Or.inl ⟨by rfl, ?_⟩) (by assumption) ?_
    rotate_left 1
    · intro w hSw; (try dsimp only at hSw); go_simp; (try with_reducible rfl)
    try simp only [Act.put, List.setIfInBounds_toArray, List.set_cons_zero, List.set_cons_succ]
    refine wpAnyH_take (i := 15) (v := ?_) (by simp only [List.getElem?_toArray, List.getElem?_cons_succ, List.getElem?_cons_zero]; rfl) (by kernel_rfl) (by kernel_rfl) (by kernel_rfl) (fun _ _ _ h => h) (Or.inl ⟨by rfl, ?_⟩) (by assumption) ?_
    rotate_left 1
    · intro w hSw; (try dsimp only at hSw); go_simp; (try with_reducible rfl)
    try simp only [Act.put, List.setIfInBounds_toArray, List.set_cons_zero, List.set_cons_succ]
    refine wpAnyH_ready (rs := [16]) (by kernel_rfl) (by simp) ?_
    refine AllReadyH.cons (by simp only [List.getElem?_toArray, List.getElem?_cons_succ, List.getElem?_cons_zero]; rfl) (fun K hK => ?_) AllReadyH.nil
    go_simp
    go_at_call 17
    refine Calls.mono (SS1.out _ B1.out) ?_
    rintro e V2 ⟨rfl, hb⟩
    have B2 : Hid (Below W15.heap.size W15 V2) := B1.out.trans (hb.mono B1.out.size)
    clear hb
    clear hHeld
    refine hK.out _ _ (K21.out _ B2.out) (fun hHeld => ?_)
    clear hK K
    try simp only [Act.put, List.setIfInBounds_toArray, List.set_cons_zero, List.set_cons_succ]
    refine wpAnyH_take (i := 17) (v := ?_) (by simp only [List.getElem?_toArray, List.getElem?_cons_succ, List.getElem?_cons_zero]; rfl) (by kernel_rfl) (by kernel_rfl) (by kernel_rfl) (fun _ _ _ h => h) (Or.inl ⟨by rfl, ?_⟩) (by assumption) ?_
    rotate_left 1
    · intro w hSw; (try dsimp only at hSw); go_simp; (try with_reducible rfl)
    try simp only [Act.put, List.setIfInBounds_toArray, List.set_cons_zero, List.set_cons_succ]
    refine wpAnyH_take (i := 18) (v := ?_) (by simp only [List.getElem?_toArray, List.getElem?_cons_succ, List.getElem?_cons_zero]; rfl) (by kernel_rfl) (by kernel_rfl) (by kernel_rfl) (fun _ _ _ h => h) (Or.inl ⟨by rfl, ?_⟩) (by assumption) ?_
    rotate_left 1
    · intro w hSw; (try dsimp only at hSw); go_simp; (try with_reducible rfl)
    try simp only [Act.put, List.setIfInBounds_toArray, List.set_cons_zero, List.set_cons_succ]
    refine wpAnyH_done (by kernel_rfl) ?_ _
    refine NoPanic.normal ?_
    have BZ := B2
    clear B1 B2 K21
    go_wp2_with fail
    have K22 : Hid (∀ W, Below W15.heap.size W15 W → W.cell? ⟨sp, 2, none⟩ = some (.slice (some ⟨gs, 0, none⟩) 4 cs) ∧ W.cell? ⟨gs, 4, none⟩ = some (.int .i64 (B : Int)) ∧ W.cell? ⟨gs, 5, none⟩ = some q2.fv ∧ W.cell? ⟨gs, 6, none⟩ = some (.int .i64 (B : Int)) ∧ W.cell? ⟨gs, 7, none⟩ = some q3.fv ∧ W.cell? ⟨tb, 0, none⟩ = some (.int .i64 (B : Int)) ∧ W.cell? ⟨tb, 1, none⟩ = some (.slice so13 n13 co13)) := fun W hb => by
      have f4 := F4.out.below hb
      have hr := (hb.block _ (lt_of_block BT15.out.1)).trans BT15.out.1
      have d0 := cell_row hr 0
      have d1 := cell_row hr 1
      simp at d0 d1
      exact ⟨f4.s2, f4.g4, f4.g5, f4.g6, f4.g7, d0, d1⟩
    refine wp_region_noPanic ?_
    refine wp_region_held_drew (S := fun W => W.cell? ⟨sp, 2, none⟩ = some (.slice (some ⟨gs, 0, none⟩) 4 cs) ∧ W.cell? ⟨gs, 4, none⟩ = some (.int .i64 (B : Int)) ∧ W.cell? ⟨gs, 5, none⟩ = some q2.fv ∧ W.cell? ⟨gs, 6, none⟩ = some (.int .i64 (B : Int)) ∧ W.cell? ⟨gs, 7, none⟩ = some q3.fv ∧ W.cell? ⟨tb, 0, none⟩ = some (.int .i64 (B : Int)) ∧ W.cell? ⟨tb, 1, none⟩ = some (.slice so13 n13 co13)) (by kernel_rfl) (K22.out _ BZ.out.drew) (fun hHeld => ?_)
    refine wpAnyH_take (i := 0) (v := ?_) (by simp only [List.getElem?_toArray, List.getElem?_cons_zero]; rfl) (by kernel_rfl) (by kernel_rfl) (by kernel_rfl) (fun _ _ _ h => h) (Or.inl ⟨by rfl, ?_⟩) (by assumption) ?_
    rotate_left 1
    · intro w hSw; (try dsimp only at hSw); go_simp; (try with_reducible rfl)
    try simp only [Act.put, List.setIfInBounds_toArray, List.set_cons_zero, List.set_cons_succ]
    refine wpAnyH_take (i := 1) (v := ?_) (by simp only [List.getElem?_toArray, List.getElem?_cons_succ, List.getElem?_cons_zero]; rfl) (by kernel_rfl) (by kernel_rfl) (by kernel_rfl) (fun _ _ _ h => h) (Or.inl ⟨by rfl, ?_⟩) (by assumption) ?_
    rotate_left 1
    · intro w hSw; (try dsimp only at hSw); go_simp; (try with_reducible rfl)
    try simp only [Act.put, List.setIfInBounds_toArray, List.set_cons_zero, List.set_cons_succ]
    refine wpAnyH_take (i := 2) (v := ?_) (by simp only [List.getElem?_toArray, List.getElem?_cons_succ, List.getElem?_cons_zero]; rfl) (by kernel_rfl) (by kernel_rfl) (by kernel_rfl) (fun _ _ _ h => h) (Or.inl ⟨by rfl, ?_⟩) (by assumption) ?_
    rotate_left 1
    · intro w hSw; (try dsimp only at hSw); go_simp; (try with_reducible rfl)
    try simp only [Act.put, List.setIfInBounds_toArray, List.set_cons_zero, List.set_cons_succ]
    refine wpAnyH_take (i := 3) (v := ?_) (by simp only [List.getElem?_toArray, List.getElem?_cons_succ, List.getElem?_cons_zero]; rfl) (by kernel_rfl) (by kernel_rfl) (by kernel_rfl) (fun _ _ _ h => h) (Or.inl ⟨by rfl, ?_⟩) (by assumption) ?_
    rotate_left 1
    · intro w hSw; (try dsimp only at hSw); go_simp; (try with_reducible rfl)
    try simp only [Act.put, List.setIfInBounds_toArray, List.set_cons_zero, List.set_cons_succ]
    refine wpAnyH_take (i := 4) (v := ?_) (by simp only [List.getElem?_toArray, List.getElem?_cons_succ, List.getElem?_cons_zero]; rfl) (by kernel_rfl) (by kernel_rfl) (by kernel_rfl) (fun _ _ _ h => h) (Or.inl ⟨by rfl, ?_⟩) (by assumption) ?_
    rotate_left 1
    · intro w hSw; (try dsimp only at hSw); go_simp; (try with_reducible rfl)
    try simp only [Act.put, List.setIfInBounds_toArray, List.set_cons_zero, List.set_cons_succ]
    refine wpAnyH_take (i := 5) (v := ?_) (by simp only [List.getElem?_toArray, List.getElem?_cons_succ, List.getElem?_cons_zero]; rfl) (by kernel_rfl) (by kernel_rfl) (by kernel_rfl) (fun _ _ _ h => h) (Or.inl ⟨by rfl, ?_⟩) (by assumption) ?_
    rotate_left 1
    · intro w hSw; (try dsimp only at hSw); go_simp; (try with_reducible rfl)
    try simp only [Act.put, List.setIfInBounds_toArray, List.set_cons_zero, List.set_cons_succ]
    refine wpAnyH_take (i := 6) (v := ?_) (by simp only [List.getElem?_toArray, List.getElem?_cons_succ, List.getElem?_cons_zero]; rfl) (by kernel_rfl) (by kernel_rfl) (by kernel_rfl) (fun _ _ _ h => h) (Or.inl ⟨by rfl, ?_⟩) (by assumption) ?_
    rotate_left 1
    · intro w hSw; (try dsimp only at hSw); go_simp; (try with_reducible rfl)
    try simp only [Act.put, List.setIfInBounds_toArray, List.set_cons_zero, List.set_cons_succ]
    refine wpAnyH_ready (rs := [7]) (by kernel_rfl) (by simp) ?_
    refine AllReadyH.cons (by simp only [List.getElem?_toArray, List.getElem?_cons_succ, List.getElem?_cons_zero]; rfl) (fun K hK => ?_) AllReadyH.nil
    go_simp
    go_at_call 17
    refine Calls.mono (SS2.out _ BZ.out.drew) ?_
    rintro e V1 ⟨rfl, hb⟩
    have B1 : Hid (Below W15.heap.size W15 V1) := BZ.out.drew.trans (hb.mono BZ.out.drew.size)
    clear hb
    clear hHeld
    refine hK.out _ _ (K22.out _ B1.out) (fun hHeld => ?_)
    clear hK K
    try simp only [Act.put, List.setIfInBounds_toArray, List.set_cons_zero, List.set_cons_succ]
    refine wpAnyH_take (i := 8) (v := ?_) (by simp only [List.getElem?_toArray, List.getElem?_cons_succ, List.getElem?_cons_zero]; rfl) (by kernel_rfl) (by kernel_rfl) (by kernel_rfl) (fun _ _ _ h => h) (Or.inl ⟨by rfl, ?_⟩) (by assumption) ?_
    rotate_left 1
    · intro w hSw; (try dsimp only at hSw); go_simp; (try with_reducible rfl)
    try simp only [Act.put, List.setIfInBounds_toArray, List.set_cons_zero, List.set_cons_succ]
    refine wpAnyH_take (i := 9) (v := ?_) (by simp only [List.getElem?_toArray, List.getElem?_cons_succ, List.getElem?_cons_zero]; rfl) (by kernel_rfl) (by kernel_rfl) (by kernel_rfl) (fun _ _ _ h => h) (Or.inl ⟨by rfl, ?_⟩) (by assumption) ?_
    rotate_left 1
    · intro w hSw; (try dsimp only at hSw); go_simp; (try with_reducible rfl)
    try simp only [Act.put, List.setIfInBounds_toArray, List.set_cons_zero, List.set_cons_succ]
    refine wpAnyH_take (i := 10) (v := ?_) (by simp only [List.getElem?_toArray, List.getElem?_cons_succ, List.getElem?_cons_zero]; rfl) (by kernel_rfl) (by kernel_rfl) (by kernel_rfl) (fun _ _ _ h => h) (Or.inl ⟨by rfl, ?_⟩) (by assumption) ?_
    rotate_left 1
    · intro w hSw; (try dsimp only at hSw); go_simp; (try with_reducible rfl)
    try simp only [Act.put, List.setIfInBounds_toArray, List.set_cons_zero, List.set_cons_succ]
    refine wpAnyH_take (i := 11) (v := ?_) (by simp only [List.getElem?_toArray, List.getElem?_cons_succ, List.getElem?_cons_zero]; rfl) (by kernel_rfl) (by kernel_rfl) (by kernel_rfl) (fun _ _ _ h => h) (Or.inl ⟨by rfl, ?_⟩) (by assumption) ?_
    rotate_left 1
    · intro w hSw; (try dsimp only at hSw); go_simp; (try with_reducible rfl)
    try simp only [Act.put, List.setIfInBounds_toArray, List.set_cons_zero, List.set_cons_succ]
    refine wpAnyH_take (i := 12) (v := ?_) (by simp only [List.getElem?_toArray, List.getElem?_cons_succ, List.getElem?_cons_zero]; rfl) (by kernel_rfl) (by kernel_rfl) (by kernel_rfl) (fun _ _ _ h => h) (Or.inl ⟨by rfl, ?_⟩) (by assumption) ?_
    rotate_left 1
    · intro w hSw; (try dsimp only at hSw); go_simp; (try with_reducible rfl)
    try simp only [Act.put, List.setIfInBounds_toArray, List.set_cons_zero, List.set_cons_succ]
    refine wpAnyH_take (i := 13) (v := ?_) (by simp only [List.getElem?_toArray, List.getElem?_cons_succ, List.getElem?_cons_zero]; rfl) (by kernel_rfl) (by kernel_rfl) (by kernel_rfl) (fun _ _ _ h => h) (Or.inl ⟨by rfl, ?_⟩) (by assumption) ?_
    rotate_left 1
    · intro w hSw; (try dsimp only at hSw); go_simp; (try with_reducible rfl)
    try simp only [Act.put, List.setIfInBounds_toArray, List.set_cons_zero, List.set_cons_succ]
    refine wpAnyH_take (i := 14) (v := ?_) (by simp only [List.getElem?_toArray, List.getElem?_cons_succ, List.getElem?_cons_zero]; rfl) (by kernel_rfl) (by kernel_rfl) (by kernel_rfl) (fun _ _ _ h => h) (Or.inl ⟨by rfl, ?_⟩) (by assumption) ?_
    rotate_left 1
    · intro w hSw; (try dsimp only at hSw); go_simp; (try with_reducible rfl)
    try simp only [Act.put, List.setIfInBounds_toArray, List.set_cons_zero, List.set_cons_succ]
    refine wpAnyH_take (i := 15) (v := ?_) (by simp only [List.getElem?_toArray, List.getElem?_cons_succ, List.getElem?_cons_zero]; rfl) (by kernel_rfl) (by kernel_rfl) (by kernel_rfl) (fun _ _ _ h => h) (Or.inl ⟨by rfl, ?_⟩) (by assumption) ?_
    rotate_left 1
    · intro w hSw; (try dsimp only at hSw); go_simp; (try with_reducible rfl)
    try simp only [Act.put, List.setIfInBounds_toArray, List.set_cons_zero, List.set_cons_succ]
    refine wpAnyH_ready (rs := [16]) (by kernel_rfl) (by simp) ?_
    refine AllReadyH.cons (by simp only [List.getElem?_toArray, List.getElem?_cons_succ, List.getElem?_cons_zero]; rfl) (fun K hK => ?_) AllReadyH.nil
    go_simp
    go_at_call 17
    refine Calls.mono (SS3.out _ B1.out) ?_
    rintro e V2 ⟨rfl, hb⟩
    have B2 : Hid (Below W15.heap.size W15 V2) := B1.out.trans (hb.mono B1.out.size)
    clear hb
    clear hHeld
    refine hK.out _ _ (K22.out _ B2.out) (fun hHeld => ?_)
    clear hK K
    try simp only [Act.put, List.setIfInBounds_toArray, List.set_cons_zero, List.set_cons_succ]
    refine wpAnyH_take (i := 17) (v := ?_) (by simp only [List.getElem?_toArray, List.getElem?_cons_succ, List.getElem?_cons_zero]; rfl) (by kernel_rfl) (by kernel_rfl) (by kernel_rfl) (fun _ _ _ h => h) (Or.inl ⟨by rfl, ?_⟩) (by assumption) ?_
    rotate_left 1
    · intro w hSw; (try dsimp only at hSw); go_simp; (try with_reducible rfl)
    try simp only [Act.put, List.setIfInBounds_toArray, List.set_cons_zero, List.set_cons_succ]
    refine wpAnyH_take (i := 18) (v := ?_) (by simp only [List.getElem?_toArray, List.getElem?_cons_succ, List.getElem?_cons_zero]; rfl) (by kernel_rfl) (by kernel_rfl) (by kernel_rfl) (fun _ _ _ h => h) (Or.inl ⟨by rfl, ?_⟩) (by assumption) ?_
    rotate_left 1
    · intro w hSw; (try dsimp only at hSw); go_simp; (try with_reducible rfl)
    try simp only [Act.put, List.setIfInBounds_toArray, List.set_cons_zero, List.set_cons_succ]
    refine wpAnyH_done (by kernel_rfl) ?_ _
    refine NoPanic.normal ?_
    have BZ := B2
    clear B1 B2 K22
    go_wp2_with fail
    have K23 : Hid (∀ W, Below W15.heap.size W15 W → W.cell? ⟨sp, 1, none⟩ = some (.slice (some ⟨gt, 0, none⟩) 4 ct) ∧ W.cell? ⟨gt, 0, none⟩ = some v0 ∧ W.cell? ⟨gt, 1, none⟩ = some v1 ∧ W.cell? ⟨gt, 2, none⟩ = some v2 ∧ W.cell? ⟨gt, 3, none⟩ = some v3) := fun W hb => by
      have f4 := F4.out.below hb
      exact ⟨f4.t2, f4.h0, f4.h1, f4.h2, f4.h3⟩
    refine wp_region_noPanic ?_
    refine wp_region_held_drew (S := fun W => W.cell? ⟨sp, 1, none⟩ = some (.slice (some ⟨gt, 0, none⟩) 4 ct) ∧ W.cell? ⟨gt, 0, none⟩ = some v0 ∧ W.cell? ⟨gt, 1, none⟩ = some v1 ∧ W.cell? ⟨gt, 2, none⟩ = some v2 ∧ W.cell? ⟨gt, 3, none⟩ = some v3) (by kernel_rfl) (K23.out _ BZ.out.drew) (fun hHeld => ?_)
    refine wpAnyH_take (i := 0) (v := ?_) (by simp only [List.getElem?_toArray, List.getElem?_cons_zero]; rfl) (by kernel_rfl) (by kernel_rfl) (by kernel_rfl) (fun _ _ _ h => h) (Or.inl ⟨by rfl, ?_⟩) (by assumption) ?_
    rotate_left 1
    · intro w hSw; (try dsimp only at hSw); go_simp; (try with_reducible rfl)
    try simp only [Act.put, List.setIfInBounds_toArray, List.set_cons_zero, List.set_cons_succ]
    refine wpAnyH_take (i := 1) (v := ?_) (by simp only [List.getElem?_toArray, List.getElem?_cons_succ, List.getElem?_cons_zero]; rfl) (by kernel_rfl) (by kernel_rfl) (by kernel_rfl) (fun _ _ _ h => h) (Or.inl ⟨by rfl, ?_⟩) (by assumption) ?_
    rotate_left 1
    · intro w hSw; (try dsimp only at hSw); go_simp; (try with_reducible rfl)
    try simp only [Act.put, List.setIfInBounds_toArray, List.set_cons_zero, List.set_cons_succ]
    refine wpAnyH_take (i := 2) (v := ?_) (by simp only [List.getElem?_toArray, List.getElem?_cons_succ, List.getElem?_cons_zero]; rfl) (by kernel_rfl) (by kernel_rfl) (by kernel_rfl) (fun _ _ _ h => h) (Or.inl ⟨by rfl, ?_⟩) (by assumption) ?_
    rotate_left 1
    · intro w hSw; (try dsimp only at hSw); go_simp; (try with_reducible rfl)
    try simp only [Act.put, List.setIfInBounds_toArray, List.set_cons_zero, List.set_cons_succ]
    refine wpAnyH_take (i := 3) (v := ?_) (by simp only [List.getElem?_toArray, List.getElem?_cons_succ, List.getElem?_cons_zero]; rfl) (by kernel_rfl) (by kernel_rfl) (by kernel_rfl) (fun _ _ _ h => h) (Or.inl ⟨by rfl, ?_⟩) (by assumption) ?_
    rotate_left 1
    · intro w hSw; (try dsimp only at hSw); go_simp; (try with_reducible rfl)
    try simp only [Act.put, List.setIfInBounds_toArray, List.set_cons_zero, List.set_cons_succ]
    refine wpAnyH_take (i := 4) (v := ?_) (by simp only [List.getElem?_toArray, List.getElem?_cons_succ, List.getElem?_cons_zero]; rfl) (by kernel_rfl) (by kernel_rfl) (by kernel_rfl) (fun _ _ _ h => h) (Or.inl ⟨by rfl, ?_⟩) (by assumption) ?_
    rotate_left 1
    · intro w hSw; (try dsimp only at hSw); go_simp; (try with_reducible rfl)
    try simp only [Act.put, List.setIfInBounds_toArray, List.set_cons_zero, List.set_cons_succ]
    refine wpAnyH_take (i := 5) (v := ?_) (by simp only [List.getElem?_toArray, List.getElem?_cons_succ, List.getElem?_cons_zero]; rfl) (by kernel_rfl) (by kernel_rfl) (by kernel_rfl) (fun _ _ _ h => h) (Or.inl ⟨by rfl, ?_⟩) (by assumption) ?_
    rotate_left 1
    · intro w hSw; (try dsimp only at hSw); go_simp; (try with_reducible rfl)
    try simp only [Act.put, List.setIfInBounds_toArray, List.set_cons_zero, List.set_cons_succ]
    refine wpAnyH_take (i := 6) (v := ?_) (by simp only [List.getElem?_toArray, List.getElem?_cons_succ, List.getElem?_cons_zero]; rfl) (by kernel_rfl) (by kernel_rfl) (by kernel_rfl) (fun _ _ _ h => h) (Or.inl ⟨by rfl, ?_⟩) (by assumption) ?_
    rotate_left 1
    · intro w hSw; (try dsimp only at hSw); go_simp; (try with_reducible rfl)
    try simp only [Act.put, List.setIfInBounds_toArray, List.set_cons_zero, List.set_cons_succ]
    refine wpAnyH_take (i := 7) (v := ?_) (by simp only [List.getElem?_toArray, List.getElem?_cons_succ, List.getElem?_cons_zero]; rfl) (by kernel_rfl) (by kernel_rfl) (by kernel_rfl) (fun _ _ _ h => h) (Or.inl ⟨by rfl, ?_⟩) (by assumption) ?_
    rotate_left 1
    · intro w hSw; (try dsimp only at hSw); go_simp; (try with_reducible rfl)
    try simp only [Act.put, List.setIfInBounds_toArray, List.set_cons_zero, List.set_cons_succ]
    refine wpAnyH_take (i := 8) (v := ?_) (by simp only [List.getElem?_toArray, List.getElem?_cons_succ, List.getElem?_cons_zero]; rfl) (by kernel_rfl) (by kernel_rfl) (by kernel_rfl) (fun _ _ _ h => h) (Or.inl ⟨by rfl, ?_⟩) (by assumption) ?_
    rotate_left 1
    · intro w hSw; (try dsimp only at hSw); go_simp; (try with_reducible rfl)
    try simp only [Act.put, List.setIfInBounds_toArray, List.set_cons_zero, List.set_cons_succ]
    refine wpAnyH_take (i := 9) (v := ?_) (by simp only [List.getElem?_toArray, List.getElem?_cons_succ, List.getElem?_cons_zero]; rfl) (by kernel_rfl) (by kernel_rfl) (by kernel_rfl) (fun _ _ _ h => h) (Or.inl ⟨by rfl, ?_⟩) (by assumption) ?_
    rotate_left 1
    · intro w hSw; (try dsimp only at hSw); go_simp; (try with_reducible rfl)
    try simp only [Act.put, List.setIfInBounds_toArray, List.set_cons_zero, List.set_cons_succ]
    refine wpAnyH_take (i := 10) (v := ?_) (by simp only [List.getElem?_toArray, List.getElem?_cons_succ, List.getElem?_cons_zero]; rfl) (by kernel_rfl) (by kernel_rfl) (by kernel_rfl) (fun _ _ _ h => h) (Or.inl ⟨by rfl, ?_⟩) (by assumption) ?_
    rotate_left 1
    · intro w hSw; (try dsimp only at hSw); go_simp; (try with_reducible rfl)
    try simp only [Act.put, List.setIfInBounds_toArray, List.set_cons_zero, List.set_cons_succ]
    refine wpAnyH_take (i := 11) (v := ?_) (by simp only [List.getElem?_toArray, List.getElem?_cons_succ, List.getElem?_cons_zero]; rfl) (by kernel_rfl) (by kernel_rfl) (by kernel_rfl) (fun _ _ _ h => h) (Or.inl ⟨by rfl, ?_⟩) (by assumption) ?_
    rotate_left 1
    · intro w hSw; (try dsimp only at hSw); go_simp; (try with_reducible rfl)
    try simp only [Act.put, List.setIfInBounds_toArray, List.set_cons_zero, List.set_cons_succ]
    refine wpAnyH_take (i := 12) (v := ?_) (by simp only [List.getElem?_toArray, List.getElem?_cons_succ, List.getElem?_cons_zero]; rfl) (by kernel_rfl) (by kernel_rfl) (by kernel_rfl) (fun _ _ _ h => h) (Or.inl ⟨by rfl, ?_⟩) (by assumption) ?_
    rotate_left 1
    · intro w hSw; (try dsimp only at hSw); go_simp; (try with_reducible rfl)
    try simp only [Act.put, List.setIfInBounds_toArray, List.set_cons_zero, List.set_cons_succ]
    refine wpAnyH_take (i := 13) (v := ?_) (by simp only [List.getElem?_toArray, List.getElem?_cons_succ, List.getElem?_cons_zero]; rfl) (by kernel_rfl) (by kernel_rfl) (by kernel_rfl) (fun _ _ _ h => h) (Or.inl ⟨by rfl, ?_⟩) (by assumption) ?_
    rotate_left 1
    · intro w hSw; (try dsimp only at hSw); go_simp; (try with_reducible rfl)
    try simp only [Act.put, List.setIfInBounds_toArray, List.set_cons_zero, List.set_cons_succ]
    refine wpAnyH_take (i := 14) (v := ?_) (by simp only [List.getElem?_toArray, List.getElem?_cons_succ, List.getElem?_cons_zero]; rfl) (by kernel_rfl) (by kernel_rfl) (by kernel_rfl) (fun _ _ _ h => h) (Or.inl ⟨by rfl, ?_⟩) (by assumption) ?_
    rotate_left 1
    · intro w hSw; (try dsimp only at hSw); go_simp; (try with_reducible rfl)
    try simp only [Act.put, List.setIfInBounds_toArray, List.set_cons_zero, List.set_cons_succ]
    refine wpAnyH_take (i := 15) (v := ?_) (by simp only [List.getElem?_toArray, List.getElem?_cons_succ, List.getElem?_cons_zero]; rfl) (by kernel_rfl) (by kernel_rfl) (by kernel_rfl) (fun _ _ _ h => h) (Or.inl ⟨by rfl, ?_⟩) (by assumption) ?_
    rotate_left 1
    · intro w hSw; (try dsimp only at hSw); go_simp; (try with_reducible rfl)
    try simp only [Act.put, List.setIfInBounds_toArray, List.set_cons_zero, List.set_cons_succ]
    refine wpAnyH_take (i := 16) (v := ?_) (by simp only [List.getElem?_toArray, List.getElem?_cons_succ, List.getElem?_cons_zero]; rfl) (by kernel_rfl) (by kernel_rfl) (by kernel_rfl) (fun _ _ _ h => h) (Or.inl ⟨by rfl, ?_⟩) (by assumption) ?_
    rotate_left 1
    · intro w hSw; (try dsimp only at hSw); go_simp; (try with_reducible rfl)
    try simp only [Act.put, List.setIfInBounds_toArray, List.set_cons_zero, List.set_cons_succ]
    refine wpAnyH_take (i := 17) (v := ?_) (by simp only [List.getElem?_toArray, List.getElem?_cons_succ, List.getElem?_cons_zero]; rfl) (by kernel_rfl) (by kernel_rfl) (by kernel_rfl) (fun _ _ _ h => h) (Or.inl ⟨by rfl, ?_⟩) (by assumption) ?_
    rotate_left 1
    · intro w hSw; (try dsimp only at hSw); go_simp; (try with_reducible rfl)
    try simp only [Act.put, List.setIfInBounds_toArray, List.set_cons_zero, List.set_cons_succ]
    refine wpAnyH_take (i := 18) (v := ?_) (by simp only [List.getElem?_toArray, List.getElem?_cons_succ, List.getElem?_cons_zero]; rfl) (by kernel_rfl) (by kernel_rfl) (by kernel_rfl) (fun _ _ _ h => h) (Or.inl ⟨by rfl, ?_⟩) (by assumption) ?_
    rotate_left 1
    · intro w hSw; (try dsimp only at hSw); go_simp; (try with_reducible rfl)
    try simp only [Act.put, List.setIfInBounds_toArray, List.set_cons_zero, List.set_cons_succ]
    refine wpAnyH_ready (rs := [19]) (by kernel_rfl) (by simp) ?_
    refine AllReadyH.cons (by simp only [List.getElem?_toArray, List.getElem?_cons_succ, List.getElem?_cons_zero]; rfl) (fun K hK => ?_) AllReadyH.nil
    go_simp
    go_at_call 18
    refine Calls.mono (NN0.out _ BZ.out.drew) ?_
    rintro e V1 ⟨rfl, hb⟩
    have B1 : Hid (Below W15.heap.size W15 V1) := BZ.out.drew.trans (hb.mono BZ.out.drew.size)
    clear hb
    clear hHeld
    refine hK.out _ _ (K23.out _ B1.out) (fun hHeld => ?_)
    clear hK K
    try simp only [Act.put, List.setIfInBounds_toArray, List.set_cons_zero, List.set_cons_succ]
    refine wpAnyH_take (i := 20) (v := ?_) (by simp only [List.getElem?_toArray, List.getElem?_cons_succ, List.getElem?_cons_zero]; rfl) (by kernel_rfl) (by kernel_rfl) (by kernel_rfl) (fun _ _ _ h => h) (Or.inl ⟨by rfl, ?_⟩) (by assumption) ?_
    rotate_left 1
    · intro w hSw; (try dsimp only at hSw); go_simp; (try with_reducible rfl)
    try simp only [Act.put, List.setIfInBounds_toArray, List.set_cons_zero, List.set_cons_succ]
    refine wpAnyH_take (i := 21) (v := ?_) (by simp only [List.getElem?_toArray, List.getElem?_cons_succ, List.getElem?_cons_zero]; rfl) (by kernel_rfl) (by kernel_rfl) (by kernel_rfl) (fun _ _ _ h => h) (Or.inl ⟨by rfl, ?_⟩) (by assumption) ?_
    rotate_left 1
    · intro w hSw; (try dsimp only at hSw); go_simp; (try with_reducible rfl)
    try simp only [Act.put, List.setIfInBounds_toArray, List.set_cons_zero, List.set_cons_succ]
    refine wpAnyH_take (i := 22) (v := ?_) (by simp only [List.getElem?_toArray, List.getElem?_cons_succ, List.getElem?_cons_zero]; rfl) (by kernel_rfl) (by kernel_rfl) (by kernel_rfl) (fun _ _ _ h => h) (Or.inl ⟨by rfl, ?_⟩) (by assumption) ?_
    rotate_left 1
    · intro w hSw; (try dsimp only at hSw); go_simp; (try with_reducible rfl)
    try simp only [Act.put, List.setIfInBounds_toArray, List.set_cons_zero, List.set_cons_succ]
    refine wpAnyH_take (i := 23) (v := ?_) (by simp only [List.getElem?_toArray, List.getElem?_cons_succ, List.getElem?_cons_zero]; rfl) (by kernel_rfl) (by kernel_rfl) (by kernel_rfl) (fun _ _ _ h => h) (Or.inl ⟨by rfl, ?_⟩) (by assumption) ?_
    rotate_left 1
    · intro w hSw; (try dsimp only at hSw); go_simp; (try with_reducible rfl)
    try simp only [Act.put, List.setIfInBounds_toArray, List.set_cons_zero, List.set_cons_succ]
    refine wpAnyH_take (i := 24) (v := ?_) (by simp only [List.getElem?_toArray, List.getElem?_cons_succ, List.getElem?_cons_zero]; rfl) (by kernel_rfl) (by kernel_rfl) (by kernel_rfl) (fun _ _ _ h => h) (Or.inl ⟨by rfl, ?_⟩) (by assumption) ?_
    rotate_left 1
    · intro w hSw; (try dsimp only at hSw); go_simp; (try with_reducible rfl)
    try simp only [Act.put, List.setIfInBounds_toArray, List.set_cons_zero, List.set_cons_succ]
    refine wpAnyH_take (i := 25) (v := ?_) (by simp only [List.getElem?_toArray, List.getElem?_cons_succ, List.getElem?_cons_zero]; rfl) (by kernel_rfl) (by kernel_rfl) (by kernel_rfl) (fun _ _ _ h => h) (Or.inl ⟨by rfl, ?_⟩) (by assumption) ?_
    rotate_left 1
    · intro w hSw; (try dsimp only at hSw); go_simp; (try with_reducible rfl)
    try simp only [Act.put, List.setIfInBounds_toArray, List.set_cons_zero, List.set_cons_succ]
    refine wpAnyH_take (i := 26) (v := ?_) (by simp only [List.getElem?_toArray, List.getElem?_cons_succ, List.getElem?_cons_zero]; rfl) (by kernel_rfl) (by kernel_rfl) (by kernel_rfl) (fun _ _ _ h => h) (Or.inl ⟨by rfl, ?_⟩) (by assumption) ?_
    rotate_left 1
    · intro w hSw; (try dsimp only at hSw); go_simp; (try with_reducible rfl)
    try simp only [Act.put, List.setIfInBounds_toArray, List.set_cons_zero, List.set_cons_succ]
    refine wpAnyH_take (i := 27) (v := ?_) (by simp only [List.getElem?_toArray, List.getElem?_cons_succ, List.getElem?_cons_zero]; rfl) (by kernel_rfl) (by kernel_rfl) (by kernel_rfl) (fun _ _ _ h => h) (Or.inl ⟨by rfl, ?_⟩) (by assumption) ?_
    rotate_left 1
    · intro w hSw; (try dsimp only at hSw); go_simp; (try with_reducible rfl)
    try simp only [Act.put, List.setIfInBounds_toArray, List.set_cons_zero, List.set_cons_succ]
    refine wpAnyH_take (i := 28) (v := ?_) (by simp only [List.getElem?_toArray, List.getElem?_cons_succ, List.getElem?_cons_zero]; rfl) (by kernel_rfl) (by kernel_rfl) (by kernel_rfl) (fun _ _ _ h => h) (Or.inl ⟨by rfl, ?_⟩) (by assumption) ?_
    rotate_left 1
    · intro w hSw; (try dsimp only at hSw); go_simp; (try with_reducible rfl)
    try simp only [Act.put, List.setIfInBounds_toArray, List.set_cons_zero, List.set_cons_succ]
    refine wpAnyH_take (i := 29) (v := ?_) (by simp only [List.getElem?_toArray, List.getElem?_cons_succ, List.getElem?_cons_zero]; rfl) (by kernel_rfl) (by kernel_rfl) (by kernel_rfl) (fun _ _ _ h => h) (Or.inl ⟨by rfl, ?_⟩) (by assumption) ?_
    rotate_left 1
    · intro w hSw; (try dsimp only at hSw); go_simp; (try with_reducible rfl)
    try simp only [Act.put, List.setIfInBounds_toArray, List.set_cons_zero, List.set_cons_succ]
    refine wpAnyH_take (i := 30) (v := ?_) (by simp only [List.getElem?_toArray, List.getElem?_cons_succ, List.getElem?_cons_zero]; rfl) (by kernel_rfl) (by kernel_rfl) (by kernel_rfl) (fun _ _ _ h => h) (Or.inl ⟨by rfl, ?_⟩) (by assumption) ?_
    rotate_left 1
    · intro w hSw; (try dsimp only at hSw); go_simp; (try with_reducible rfl)
    try simp only [Act.put, List.setIfInBounds_toArray, List.set_cons_zero, List.set_cons_succ]
    refine wpAnyH_take (i := 31) (v := ?_) (by simp only [List.getElem?_toArray, List.getElem?_cons_succ, List.getElem?_cons_zero]; rfl) (by kernel_rfl) (by kernel_rfl) (by kernel_rfl) (fun _ _ _ h => h) (Or.inl ⟨by rfl, ?_⟩) (by assumption) ?_
    rotate_left 1
    · intro w hSw; (try dsimp only at hSw); go_simp; (try with_reducible rfl)
    try simp only [Act.put, List.setIfInBounds_toArray, List.set_cons_zero, List.set_cons_succ]
    refine wpAnyH_take (i := 32) (v := ?_) (by simp only [List.getElem?_toArray, List.getElem?_cons_succ, List.getElem?_cons_zero]; rfl) (by kernel_rfl) (by kernel_rfl) (by kernel_rfl) (fun _ _ _ h => h) (Or.inl ⟨by rfl, ?_⟩) (by assumption) ?_
    rotate_left 1
    · intro w hSw; (try dsimp only at hSw); go_simp; (try with_reducible rfl)
    try simp only [Act.put, List.setIfInBounds_toArray, List.set_cons_zero, List.set_cons_succ]
    refine wpAnyH_take (i := 33) (v := ?_) (by simp only [List.getElem?_toArray, List.getElem?_cons_succ, List.getElem?_cons_zero]; rfl) (by kernel_rfl) (by kernel_rfl) (by kernel_rfl) (fun _ _ _ h => h) (Or.inl ⟨by rfl, ?_⟩) (by assumption) ?_
    rotate_left 1
    · intro w hSw; (try dsimp only at hSw); go_simp; (try with_reducible rfl)
    try simp only [Act.put, List.setIfInBounds_toArray, List.set_cons_zero, List.set_cons_succ]
    refine wpAnyH_take (i := 34) (v := ?_) (by simp only [List.getElem?_toArray, List.getElem?_cons_succ, List.getElem?_cons_zero]; rfl) (by kernel_rfl) (by kernel_rfl) (by kernel_rfl) (fun _ _ _ h => h) (Or.inl ⟨by rfl, ?_⟩) (by assumption) ?_
    rotate_left 1
    · intro w hSw; (try dsimp only at hSw); go_simp; (try with_reducible rfl)
    try simp only [Act.put, List.setIfInBounds_toArray, List.set_cons_zero, List.set_cons_succ]
    refine wpAnyH_ready (rs := [35]) (by kernel_rfl) (by simp) ?_
    refine AllReadyH.cons (by simp only [List.getElem?_toArray, List.getElem?_cons_succ, List.getElem?_cons_zero]; rfl) (fun K hK => ?_) AllReadyH.nil
    go_simp
    go_at_call 18
    refine Calls.mono (NN2.out _ B1.out) ?_
    rintro e V2 ⟨rfl, hb⟩
    have B2 : Hid (Below W15.heap.size W15 V2) := B1.out.trans (hb.mono B1.out.size)
    clear hb
    clear hHeld
    refine hK.out _ _ (K23.out _ B2.out) (fun hHeld => ?_)
    clear hK K
    try simp only [Act.put, List.setIfInBounds_toArray, List.set_cons_zero, List.set_cons_succ]
    refine wpAnyH_take (i := 36) (v := ?_) (by simp only [List.getElem?_toArray, List.getElem?_cons_succ, List.getElem?_cons_zero]; rfl) (by kernel_rfl) (by kernel_rfl) (by kernel_rfl) (fun _ _ _ h => h) (Or.inl ⟨by rfl, ?_⟩) (by assumption) ?_
    rotate_left 1
    · intro w hSw; (try dsimp only at hSw); go_simp; (try with_reducible rfl)
    try simp only [Act.put, List.setIfInBounds_toArray, List.set_cons_zero, List.set_cons_succ]
    refine wpAnyH_take (i := 37) (v := ?_) (by simp only [List.getElem?_toArray, List.getElem?_cons_succ, List.getElem?_cons_zero]; rfl) (by kernel_rfl) (by kernel_rfl) (by kernel_rfl) (fun _ _ _ h => h) (Or.inl ⟨by rfl, ?_⟩) (by assumption) ?_
    rotate_left 1
    · intro w hSw; (try dsimp only at hSw); go_simp; (try with_reducible rfl)
    try simp only [Act.put, List.setIfInBounds_toArray, List.set_cons_zero, List.set_cons_succ]
    refine wpAnyH_done (by kernel_rfl) ?_ _
    refine NoPanic.normal ?_
    have BZ := B2
    clear B1 B2 K23
    go_wp2_with fail
    have K25 : Hid (∀ W : World, W.heap[tb]? = some (.cells #[.int .i64 (B : Int), .slice so13 n13 co13] 47 (0, 0)) → W.cell? ⟨tb, 0, none⟩ = some (.int .i64 (B : Int)) ∧ W.cell? ⟨tb, 1, none⟩ = some (.slice so13 n13 co13)) := fun W hr => by
      have d0 := cell_row hr 0
      have d1 := cell_row hr 1
      simp at d0 d1
      exact ⟨d0, d1⟩
    obtain ⟨VA, hVA⟩ : ∃ VA, VA = V2.drew := ⟨_, rfl⟩
    have BA : Hid (Below W15.heap.size W15 VA) := by rw [hVA]; exact BZ.out.drew
    have BB25 : Hid (V2.drew.heap[tb]? = some (.cells #[.int .i64 (B : Int), .slice so13 n13 co13] 47 (0, 0))) := (BZ.out.drew.block _ (lt_of_block BT15.out.1)).trans BT15.out.1
    refine wp_region_noPanic ?_
    refine wp_region_held_drew (S := fun W => W.cell? ⟨tb, 0, none⟩ = some (.int .i64 (B : Int)) ∧ W.cell? ⟨tb, 1, none⟩ = some (.slice so13 n13 co13)) (by kernel_rfl) (K25.out _ (BB25.out)) (fun hHeld => ?_)
    rw [← hVA] at hHeld ⊢
    clear hVA
    have AA := hid (A15.out.below BA.out)
    have SPO := hid (spoils_any AA.out.sy.sh PH.out (by omega) (by have := LN15.out.2.2; omega) (by rw [LN15.out.2.1]; omega) (by rw [LN15.out.1]; omega))
    rw [SPE15.out] at SPO
    refine wpAnyH_take (i := 0) (v := ?_) (by simp only [List.getElem?_toArray, List.getElem?_cons_zero]; rfl) (by kernel_rfl) (by kernel_rfl) (by kernel_rfl) (fun _ _ _ h => h) (Or.inl ⟨by rfl, ?_⟩) (by assumption) ?_
    rotate_left 1
    · intro w hSw; (try dsimp only at hSw); go_simp; (try with_reducible rfl)
    try simp only [Act.put, List.setIfInBounds_toArray, List.set_cons_zero, List.set_cons_succ]
    refine wpAnyH_ready (rs := [1]) (by kernel_rfl) (by simp) ?_
    refine AllReadyH.cons (by simp only [List.getElem?_toArray, List.getElem?_cons_succ, List.getElem?_cons_zero]; rfl) (fun K hK => ?_) AllReadyH.nil
    go_simp
    go_at_call 19
    refine Calls.mono SPO.out ?_
    rintro e V6 ⟨rfl, S16, sp16⟩
    have T6 := hid sp16.mv.touch
    clear sp16
    have box6 : V6.heap[tb]? = some (.cells #[.int .i64 (B : Int), .slice so13 n13 co13] 47 (0, 0)) := by
      have h1 := (BA.out.block _ (lt_of_block BT15.out.1)).trans BT15.out.1
      exact (T6.out.block _ (lt_of_block h1) (fun hm => BT15.out.2 (List.mem_append.2 (.inl hm)))).trans h1
    have R6 : Hid (Runs V6 w.heap.size p mf mt B t15 D6 ∧ Env V6 w.heap.size E) := ⟨⟨AA.out.sy.run.rep.touch T6.out (fun b hb hm => AA.out.sy.apart b hb hm), AA.out.sy.run.T, AA.out.sy.run.inv, AA.out.sy.run.B⟩, AA.out.sy.env.touch T6.out AA.out.sy.slo⟩
    have L6 : Hid (Below w.heap.size w V6) := (L15.out.trans (BA.out.mono L15.out.size)).trans (T6.out.below (Nat.le_trans L15.out.size BA.out.size) AA.out.sy.slo)
    have TT6 : Hid (Told V6 w12.heap.size w13.heap.size (D6.foot p mf mt) (.slice so13 n13 co13) m13) := (TT15.out.below BA.out).step T6.out (fun b hb => .inl (List.mem_append.2 (.inl hb))) (fun b hb => .inl (List.mem_append.2 (.inr hb)))
    have BX6 := hid box6
    have C14 := hid (R6.out.1.state1 (by omega))
    clear box6 T6 AA SPO BA
    clear hHeld
    refine hK.out _ _ (K25.out _ BX6.out) (fun hHeld => ?_)
    clear hK K
    try simp only [Act.put, List.setIfInBounds_toArray, List.set_cons_zero, List.set_cons_succ]
    refine wpAnyH_take (i := 2) (v := ?_) (by simp only [List.getElem?_toArray, List.getElem?_cons_succ, List.getElem?_cons_zero]; rfl) (by kernel_rfl) (by kernel_rfl) (by kernel_rfl) (fun _ _ _ h => h) (Or.inl ⟨by rfl, ?_⟩) (by assumption) ?_
    rotate_left 1
    · intro w hSw; (try dsimp only at hSw); go_simp; (try with_reducible rfl)
    try simp only [Act.put, List.setIfInBounds_toArray, List.set_cons_zero, List.set_cons_succ]
    refine wpAnyH_take (i := 3) (v := ?_) (by simp only [List.getElem?_toArray, List.getElem?_cons_succ, List.getElem?_cons_zero]; rfl) (by kernel_rfl) (by kernel_rfl) (by kernel_rfl) (fun _ _ _ h => h) (Or.inl ⟨by rfl, ?_⟩) (by assumption) ?_
    rotate_left 1
    · intro w hSw; (try dsimp only at hSw); go_simp; (try with_reducible rfl)
    try simp only [Act.put, List.setIfInBounds_toArray, List.set_cons_zero, List.set_cons_succ]
    refine wpAnyH_take (i := 5) (v := ?_) (by simp only [List.getElem?_toArray, List.getElem?_cons_succ, List.getElem?_cons_zero]; rfl) (by kernel_rfl) (by kernel_rfl) (by kernel_rfl) (fun _ _ _ h => h) (Or.inl ⟨by rfl, ?_⟩) (by assumption) ?_
    rotate_left 1
    · intro w hSw; (try dsimp only at hSw); go_simp; (try with_reducible rfl)
    try simp only [Act.put, List.setIfInBounds_toArray, List.set_cons_zero, List.set_cons_succ]
    refine wpAnyH_ready (rs := [4]) (by kernel_rfl) (by simp) ?_
    refine AllReadyH.cons (by simp only [List.getElem?_toArray, List.getElem?_cons_succ, List.getElem?_cons_zero]; rfl) (fun K hK => ?_) AllReadyH.nil
    go_simp
    go_at_call 14
    refine Calls.mono C14.out ?_
    rintro e V7 ⟨fv7, l7, rfl, st7, pu7, b7⟩
    have B7 := hid b7
    have BX7 : Hid (V7.heap[tb]? = some (.cells #[.int .i64 (B : Int), .slice so13 n13 co13] 47 (0, 0))) := (b7.block _ (lt_of_block BX6.out)).trans BX6.out
    have C17 := hid (same_states (B := B) (q := ⟨_, 0, fv7, l7⟩) st7.fr (TT6.out.below b7).fr (pu7.trans PD6.out) PM13.out FEW5.out.1 FEW5.out.2)
    clear st7 pu7 b7 C14
    clear hHeld
    refine hK.out _ _ (K25.out _ BX7.out) (fun hHeld => ?_)
    clear hK K
    try simp only [Act.put, List.setIfInBounds_toArray, List.set_cons_zero, List.set_cons_succ]
    refine wpAnyH_ready (rs := [6]) (by kernel_rfl) (by simp) ?_
    refine AllReadyH.cons (by simp only [List.getElem?_toArray, List.getElem?_cons_succ, List.getElem?_cons_zero]; rfl) (fun K hK => ?_) AllReadyH.nil
    go_simp
    go_at_call 17
    refine Calls.mono C17.out ?_
    rintro e V8 ⟨rfl, hb⟩
    have B8 : Hid (Below V6.heap.size V6 V8) := B7.out.trans (hb.mono B7.out.size)
    have BX8 : Hid (V8.heap[tb]? = some (.cells #[.int .i64 (B : Int), .slice so13 n13 co13] 47 (0, 0))) := (B8.out.block _ (lt_of_block BX6.out)).trans BX6.out
    clear hb C17
    clear hHeld
    refine hK.out _ _ (K25.out _ BX8.out) (fun hHeld => ?_)
    clear hK K
    try simp only [Act.put, List.setIfInBounds_toArray, List.set_cons_zero, List.set_cons_succ]
    refine wpAnyH_take (i := 7) (v := ?_) (by simp only [List.getElem?_toArray, List.getElem?_cons_succ, List.getElem?_cons_zero]; rfl) (by kernel_rfl) (by kernel_rfl) (by kernel_rfl) (fun _ _ _ h => h) (Or.inl ⟨by rfl, ?_⟩) (by assumption) ?_
    rotate_left 1
    · intro w hSw; (try dsimp only at hSw); go_simp; (try with_reducible rfl)
    try simp only [Act.put, List.setIfInBounds_toArray, List.set_cons_zero, List.set_cons_succ]
    refine wpAnyH_take (i := 8) (v := ?_) (by simp only [List.getElem?_toArray, List.getElem?_cons_succ, List.getElem?_cons_zero]; rfl) (by kernel_rfl) (by kernel_rfl) (by kernel_rfl) (fun _ _ _ h => h) (Or.inl ⟨by rfl, ?_⟩) (by assumption) ?_
    rotate_left 1
    · intro w hSw; (try dsimp only at hSw); go_simp; (try with_reducible rfl)
    try simp only [Act.put, List.setIfInBounds_toArray, List.set_cons_zero, List.set_cons_succ]
    refine wpAnyH_take (i := 9) (v := ?_) (by simp only [List.getElem?_toArray, List.getElem?_cons_succ, List.getElem?_cons_zero]; rfl) (by kernel_rfl) (by kernel_rfl) (by kernel_rfl) (fun _ _ _ h => h) (Or.inl ⟨by rfl, ?_⟩) (by assumption) ?_
    rotate_left 1
    · intro w hSw; (try dsimp only at hSw); go_simp; (try with_reducible rfl)
    try simp only [Act.put, List.setIfInBounds_toArray, List.set_cons_zero, List.set_cons_succ]
    refine wpAnyH_take (i := 10) (v := ?_) (by simp only [List.getElem?_toArray, List.getElem?_cons_succ, List.getElem?_cons_zero]; rfl) (by kernel_rfl) (by kernel_rfl) (by kernel_rfl) (fun _ _ _ h => h) (Or.inl ⟨by rfl, ?_⟩) (by assumption) ?_
    rotate_left 1
    · intro w hSw; (try dsimp only at hSw); go_simp; (try with_reducible rfl)
    try simp only [Act.put, List.setIfInBounds_toArray, List.set_cons_zero, List.set_cons_succ]
    refine wpAnyH_take (i := 12) (v := ?_) (by simp only [List.getElem?_toArray, List.getElem?_cons_succ, List.getElem?_cons_zero]; rfl) (by kernel_rfl) (by kernel_rfl) (by kernel_rfl) (fun _ _ _ h => h) (Or.inl ⟨by rfl, ?_⟩) (by assumption) ?_
    rotate_left 1
    · intro w hSw; (try dsimp only at hSw); go_simp; (try with_reducible rfl)
    try simp only [Act.put, List.setIfInBounds_toArray, List.set_cons_zero, List.set_cons_succ]
    refine wpAnyH_ready (rs := [11]) (by kernel_rfl) (by simp) ?_
    refine AllReadyH.cons (by simp only [List.getElem?_toArray, List.getElem?_cons_succ, List.getElem?_cons_zero]; rfl) (fun K hK => ?_) AllReadyH.nil
    go_simp
    obtain ⟨VB, hVB⟩ : ∃ VB, VB = V8.alloc (.cells #[.slice none 0 0, .slice none 0 0, .slice none 0 0] 55) := ⟨_, rfl⟩
    rw [← hVB]
    have b8B : Below V8.heap.size V8 VB := by rw [hVB]; exact (Below.refl _ _).alloc (Nat.le_refl _) _
    have b6B : Below V6.heap.size V6 VB := B8.out.trans (b8B.mono B8.out.size)
    have SB : Hid (Sy VB E w.heap.size p mf mt B t15 D6 (sg0 V8.heap.size)) := by
      have ht : Touch [] V6 V8 := Touch.of_below B8.out (Nat.le_refl _)
      rw [hVB]
      exact Sy.new (R6.out.2.touch ht (by simp)) (R6.out.1.touch ht) rfl
    have TB : Hid (Told VB w12.heap.size w13.heap.size ((sg0 V8.heap.size).foot ++ D6.foot p mf mt) (.slice so13 n13 co13) m13) := TT6.out.step (G := []) (Touch.of_below b6B (Nat.le_refl _)) (by simp) (fun b hm => by
      rcases List.mem_append.1 hm with hm | hm
      · rw [sg0_foot] at hm
        simp at hm
        have := B8.out.size
        exact .inr (by omega)
      · exact .inl hm)
    have BXB : Hid (VB.heap[tb]? = some (.cells #[.int .i64 (B : Int), .slice so13 n13 co13] 47 (0, 0)) ∧ tb ∉ (sg0 V8.heap.size).foot ++ D6.foot p mf mt) := by
      refine ⟨(b6B.block _ (lt_of_block BX6.out)).trans BX6.out, fun hm => ?_⟩
      rcases List.mem_append.1 hm with hm | hm
      · rw [sg0_foot] at hm
        simp at hm
        have := lt_of_block BX8.out
        omega
      · exact BT15.out.2 (List.mem_append.2 (.inr hm))
    have LB : Hid (Below w.heap.size w VB) := L6.out.trans (b6B.mono L6.out.size)
    have ASK3 := hid (asks_any (x := (B : Int)) SB.out h64 h65 TB.out (PM13.out.trans PD6.out.symm) (by omega) (by simp [sg0]) (by simp [sg0]) (by simp [sg0]))
    have SPE : (sg0 V8.heap.size).p = V8.heap.size := rfl
    rw [SPE] at ASK3
    clear hVB b8B b6B SPE TB
    clear hHeld
    refine hK.out _ _ (K25.out _ BXB.out.1) (fun hHeld => ?_)
    clear hK K
    try simp only [Act.put, List.setIfInBounds_toArray, List.set_cons_zero, List.set_cons_succ]
    refine wpAnyH_ready (rs := [13]) (by kernel_rfl) (by simp) ?_
    refine AllReadyH.cons (by simp only [List.getElem?_toArray, List.getElem?_cons_succ, List.getElem?_cons_zero]; rfl) (fun K hK => ?_) AllReadyH.nil
    go_simp
    go_at_call 15
    refine Calls.mono ASK3.out ?_
    rintro e VC ⟨rfl, tC, DC, SC, tlC, nlC, exC, asC, _, _, _, _⟩
    have BXC := hid (asC.stp.box BXB.out.1 BXB.out.2)
    have LC := hid (asC.stp.low SB.out LB.out)
    clear asC ASK3
    clear hHeld
    refine hK.out _ _ (K25.out _ BXC.out.1) (fun hHeld => ?_)
    clear hK K
    try simp only [Act.put, List.setIfInBounds_toArray, List.set_cons_zero, List.set_cons_succ]
    refine wpAnyH_take (i := 14) (v := ?_) (by simp only [List.getElem?_toArray, List.getElem?_cons_succ, List.getElem?_cons_zero]; rfl) (by kernel_rfl) (by kernel_rfl) (by kernel_rfl) (fun _ _ _ h => h) (Or.inl ⟨by rfl, ?_⟩) (by assumption) ?_
    rotate_left 1
    · intro w hSw; (try dsimp only at hSw); go_simp; (try with_reducible rfl)
    try simp only [Act.put, List.setIfInBounds_toArray, List.set_cons_zero, List.set_cons_succ]
    refine wpAnyH_take (i := 15) (v := ?_) (by simp only [List.getElem?_toArray, List.getElem?_cons_succ, List.getElem?_cons_zero]; rfl) (by kernel_rfl) (by kernel_rfl) (by kernel_rfl) (fun _ _ _ h => h) (Or.inl ⟨by rfl, ?_⟩) (by assumption) ?_
    rotate_left 1
    · intro w hSw; (try dsimp only at hSw); go_simp; (try with_reducible rfl)
    try simp only [Act.put, List.setIfInBounds_toArray, List.set_cons_zero, List.set_cons_succ]
    refine wpAnyH_done (by kernel_rfl) ?_ _
    refine NoPanic.normal ?_
    go_wp2_with fail
    go_ret
    exact ⟨rfl, LC.out⟩
end Go.Proofs.YtcpncfngadablaaGreatDoor
