import Derived.Test.YtcpncfngadablaaGreatDoorZ18
/-
  plays: a script over both disks.
-/
namespace Go.Proofs.YtcpncfngadablaaGreatDoor
open Go.RowKit Go.Deep ShfKit
set_option maxRecDepth 100000
section
variable {w w' : World} {E : Nat → Addr} {lo p mf mt : Nat} {D : DiskC}
set_option maxHeartbeats 400000 in
theorem Block_any (R : Rep w lo p mf mt D) : Calls Tryz.prog 46 #[ptr p] w fun e w' => e = .returned (.int .i64 (D.B : Int)) ∧ w' = w := by
  have k0 := R.cell 0
  simp only [dRow] at k0
  go_enter Tryz.func46, Tryz.ntmps46
  go_wp2
  go_ret
  exact ⟨rfl, rfl⟩
set_option maxHeartbeats 400000 in
theorem Blocks_any (R : Rep w lo p mf mt D) : Calls Tryz.prog 48 #[ptr p] w fun e w' => e = .returned (.int .i64 D.Bs) ∧ w' = w := by
  have k1 := R.cell 1
  simp only [dRow] at k1
  go_enter Tryz.func48, Tryz.ntmps48
  go_wp2
  go_ret
  exact ⟨rfl, rfl⟩
theorem touch_below {a w w' : World} (h : Touch [] a w) (hb : Below a.heap.size w w') : Touch [] a w' := ⟨hb.os.trans h.os, hb.tape.trans h.tape, hb.output.trans h.output, Nat.le_trans h.size hb.size, fun k hk hF => (hb.block k hk).trans (h.block k hk hF)⟩
theorem total_allB {n B : Nat} {fv : Value} {l : List SFile} (h : StateAt w n B fv l) : (allB l).length = total (l.map SFile.pub) := by
  have hl : ∀ e ∈ l, e.bs.length = e.file.blocks.length := fun e he => (h.each e he).len
  clear h
  induction l with
  | nil => rfl
  | cons e l ih =>
    have h1 := ih fun x hx => hl x (List.mem_cons_of_mem _ hx)
    have h2 := hl e (by simp)
    unfold allB total at h1 ⊢
    rw [List.flatMap_cons, List.length_append, h1, h2]
    simp [SFile.pub]
end
set_option maxHeartbeats 8000000 in
theorem plays_any {wl w : World} {E : Nat → Addr} {lo p mf mt t0 : Nat} {D : DiskC} {R : RefD} (h : Pl w E lo p mf mt t0 D R) (hlo : lo = wl.heap.size) {sa : Option Addr} {ca : Nat} {ops : List OpA} (hops : OpsAt wl sa ops) (hb0 : Below lo wl w) (hnm : ∀ o ∈ ops, o.name.size ≤ 1099511627776) (hlen : t0 + ops.length ≤ 1048576) :
    Calls Tryz.prog 21 #[ptr p, .pointer (some ⟨R.p, 0, none⟩), .slice sa ops.length ca] w fun e w' => e = .returned (.bool true) ∧ Below lo w w' := by
  obtain ⟨B, hB⟩ : ∃ B, B = D.B := ⟨_, rfl⟩
  obtain ⟨rp, hrp⟩ : ∃ rp, rp = R.p := ⟨_, rfl⟩
  obtain ⟨n, hn⟩ : ∃ n, n = ops.length := ⟨_, rfl⟩
  obtain ⟨Bs, hBs⟩ : ∃ Bs, Bs = D.Bs := ⟨_, rfl⟩
  obtain ⟨e1, e2, _, _⟩ := h.nums
  have C46 := hid (Block_any h.rep)
  have C48 := hid (Blocks_any h.rep)
  have C47 := hid (rBlock_any h.ref)
  have C49 := hid (rBlocks_any h.ref)
  rw [← hB] at C46
  rw [← hBs] at C48
  rw [← e1, ← hB, ← hrp] at C47
  rw [← e2, ← hBs, ← hrp] at C49
  have START : Hid (∃ (D' : DiskC) (R' : RefD), Pl w E lo p mf mt (t0 + 0) D' R' ∧ R'.p = rp ∧ D'.B = B) := ⟨D, R, h, hrp.symm, hB.symm⟩
  have HLO := hid hlo
  have HOPS := hid hops
  have HB0 := hid hb0
  have HNM := hid hnm
  have HN := hid hn
  rw [← hn] at hlen
  rw [← hrp, ← hn]
  clear h hB hrp hn hBs e1 e2 hlo hops hb0 hnm
  go_enter Tryz.func21, Tryz.ntmps21
  go_wp2_with (first
    | (go_at_call 46; refine C46.out.mono ?_; rintro e w2 ⟨rfl, hw2⟩; rw [hw2]; clear hw2 w2)
    | (go_at_call 47; refine C47.out.mono ?_; rintro e w2 ⟨rfl, hw2⟩; rw [hw2]; clear hw2 w2)
    | (go_at_call 48; refine C48.out.mono ?_; rintro e w2 ⟨rfl, hw2⟩; rw [hw2]; clear hw2 w2)
    | (go_at_call 49; refine C49.out.mono ?_; rintro e w2 ⟨rfl, hw2⟩; rw [hw2]; clear hw2 w2))
  go_loopw [7, 8, 9, 10] (fun iv _ _ _ W => Hid (∃ (i : Nat) (D' : DiskC) (R' : RefD), iv = .int .i64 (i : Int) ∧ i ≤ n ∧ Pl W E lo p mf mt (t0 + i) D' R' ∧ R'.p = rp ∧ D'.B = B ∧ Below lo w W)) (fun iv _ _ _ _ => match iv with | .int _ i => n + 1 - i.toNat | _ => 0)
  case atStart =>
    obtain ⟨D', R', h1, h2, h3⟩ := START.out
    exact ⟨0, D', R', rfl, Nat.zero_le _, h1, h2, h3, Below.refl _ _⟩
  case round =>
    obtain ⟨W, hW⟩ : ∃ W, W = wr := ⟨_, rfl⟩
    rw [← hW] at hrel ⊢
    clear hW START C46 C47 C48 C49
    obtain ⟨i, D', R', rfl, hi, hpl, hrp, hDB, hbw⟩ := hrel.out
    clear hrel
    obtain ⟨e1, _, e3, e4⟩ := hpl.nums
    have hsm : Small D'.pub := by rw [hpl.same]; exact hpl.inv.small (by omega)
    have hB1 : 64 ≤ B ∧ B ≤ 65536 := by rw [← hDB]; exact hsm.size
    obtain ⟨on, hon⟩ : ∃ on, on = R'.on := ⟨_, rfl⟩
    obtain ⟨cn, hcn⟩ : ∃ cn, cn = R'.c := ⟨_, rfl⟩
    have hpf : D'.ents.map Ent.pub = R'.pub.files := congrArg PubA.files hpl.same
    have C14 : Hid (Calls Tryz.prog 14 #[ptr p] W fun e w1 => ∃ fv l, e = .returned (.agg #[.int .i64 (B : Int), fv]) ∧ StateAt w1 W.heap.size B fv l ∧ l.map SFile.pub = R'.pub.files ∧ ApartS l ∧ Below W.heap.size W w1) := by
      have r := State_apart hpl.rep hsm
      rw [hDB, hpf] at r
      exact r
    have C50 : Hid (∀ V, Touch [] W V → Calls Tryz.prog 50 #[.pointer (some ⟨rp, 0, none⟩)] V fun e w2 => ∃ fv l, e = .returned (.agg #[.int .i64 (B : Int), fv]) ∧ StateFr w2 V.heap.size fv l ∧ l.map SFile.pub = R'.pub.files ∧ Below V.heap.size V w2) := fun V ht => by
      obtain ⟨n1, _, _, _, _, _, _, n8, n9, _⟩ := (hpl.rrdy (by omega)).nums
      have r := rState_any (hpl.ref.touch ht (by simp)) (by omega) n9.1 n9.2 (fun e he => by have := n8 e he; omega)
      rw [hrp, ← e1, hDB] at r
      exact r
    have C51 : Hid (∀ V, Touch [] W V → Calls Tryz.prog 51 #[ptr p] V fun e w2 => e = .returned (.bool on) ∧ w2 = V) := fun V ht => by
      have r := On_any (hpl.rep.touch ht (by simp))
      rw [e3, ← hon] at r
      exact r
    have C52 : Hid (∀ V, Touch [] W V → Calls Tryz.prog 52 #[.pointer (some ⟨rp, 0, none⟩)] V fun e w2 => e = .returned (.bool on) ∧ w2 = V) := fun V ht => by
      have r := rOn_any (hpl.ref.touch ht (by simp))
      rw [hrp, ← hon] at r
      exact r
    have C31 : Hid (∀ V, Touch [] W V → Calls Tryz.prog 31 #[ptr p] V fun e w2 => e = .returned cn.val ∧ Below V.heap.size V w2) := fun V ht => by
      have r := Counts_any (hpl.rep.touch ht (by simp))
      rw [e4, ← hcn] at r
      exact r
    have C54 : Hid (∀ V, Touch [] W V → Calls Tryz.prog 54 #[.pointer (some ⟨rp, 0, none⟩)] V fun e w2 => e = .returned cn.val ∧ Below V.heap.size V w2) := fun V ht => by
      have r := rCounts_any (hpl.ref.touch ht (by simp))
      rw [hrp, ← hcn] at r
      exact r
    unfold Cnt.val at C31 C54
    have FEW : Hid (∀ l : List SFile, l.map SFile.pub = R'.pub.files → l.length ≤ 1048576 ∧ ∀ e ∈ l, e.file.blocks.length ≤ 1048576) := fun l hl => by
      have h1 : l.length = R'.pub.files.length := by simpa using congrArg List.length hl
      have h2 := hpl.inv.few
      refine ⟨by omega, fun e he => ?_⟩
      have h3 := hpl.inv.blocks e.pub (by rw [← hl]; exact List.mem_map_of_mem he)
      simp only [SFile.pub] at h3
      omega
    have HPL := hid hpl
    have HRP := hid hrp
    have HDB := hid hDB
    have HBW := hid hbw
    have hle : (i : Int) ≤ (n : Int) := by omega
    clear hpl hrp hDB hbw e1 e3 e4 hsm hon hcn hpf
    go_wp2_with (first
      | (go_at_call 14; refine C14.out.mono ?_; rintro e w1 ⟨fv, l, rfl, hst, hlp, hap, hb1⟩; obtain ⟨fa, fc, rfl⟩ := sh_slice hst.own; have HST := hid hst; have HLP := hid hlp; have HAP := hid hap; have HB1 := hid hb1; clear hst hlp hap hb1))
    obtain ⟨W1, hW1⟩ : ∃ W1, W1 = w1.alloc (.cells #[.int .i64 (B : Int), .slice fa l.length fc] 47) := ⟨_, rfl⟩
    have bW1 : Below w1.heap.size w1 W1 := by rw [hW1]; exact (Below.refl _ _).alloc (Nat.le_refl _) _
    have rowW1 : W1.heap[w1.heap.size]? = some (.cells #[.int .i64 (B : Int), .slice fa l.length fc] 47 (0, 0)) := by rw [hW1]; exact heap_alloc_new _ _
    have CK : Hid (∀ V, Below W1.heap.size W1 V → (V.cell? ⟨w1.heap.size, 0, none⟩ = some (.int .i64 (B : Int)) ∧ V.cell? ⟨w1.heap.size, 1, none⟩ = some (.slice fa l.length fc)) ∧ Touch [] W V ∧ StateAt V W.heap.size B (.slice fa l.length fc) l ∧ W.heap.size ≤ V.heap.size) := fun V hb => by
      have hV := (hb.block _ (lt_of_block rowW1)).trans rowW1
      have b2 : Below w1.heap.size w1 V := bW1.trans (hb.mono bW1.size)
      have b3 : Below W.heap.size W V := HB1.out.trans (b2.mono HB1.out.size)
      exact ⟨⟨cell_row hV 0, cell_row hV 1⟩, Touch.of_below b3 (Nat.le_refl _), HST.out.kept (fun b _ hbl => b2.block b hbl), b3.size⟩
    have CK1 := (CK.out W1 (Below.refl _ _)).1
    have C17 : Hid (∀ V fv2 l2 n2, Below W1.heap.size W1 V → StateFr V n2 fv2 l2 → l2.map SFile.pub = R'.pub.files → Calls Tryz.prog 17 #[.agg #[.int .i64 (B : Int), .slice fa l.length fc], .agg #[.int .i64 (B : Int), fv2]] V fun e w' => e = .returned (.bool true) ∧ Below V.heap.size V w') := fun V fv2 l2 n2 hb h2 hp2 => by
      obtain ⟨f1, f2⟩ := FEW.out l HLP.out
      exact SameState_sh ((CK.out V hb).2.2.1).sh h2.sh (HLP.out.trans hp2.symm) (by omega) (fun e he => by have := f2 e he; omega)
    have C53 : Hid (∀ V, Below W1.heap.size W1 V → Calls Tryz.prog 53 #[.agg #[.int .i64 (B : Int), .slice fa l.length fc]] V fun e w' => e = .returned (.bool true) ∧ Below W.heap.size V w') := fun V hb => by
      obtain ⟨f1, f2⟩ := FEW.out l HLP.out
      have k := (CK.out V hb).2.2
      refine fresh_any k.1 HAP.out hB1.1 hB1.2 k.2 (by omega) ?_
      rw [total_allB k.1, HLP.out]
      have h2 := HPL.out.inv.total
      omega
    have HW1 := hid hW1
    clear hW1 bW1 rowW1 C14
    rw [← HW1.out]
    refine wp_region_noPanic ?_
    refine wp_region_held_drew (S := fun V => V.cell? ⟨w1.heap.size, 0, none⟩ = some (.int .i64 (B : Int)) ∧ V.cell? ⟨w1.heap.size, 1, none⟩ = some (.slice fa l.length fc)) (by kernel_rfl) CK1 (fun hHeld => ?_)
    refine wpAnyH_take (i := 0) (v := ?_) (by simp only [List.getElem?_toArray, List.getElem?_cons_zero]; rfl) (by kernel_rfl) (by kernel_rfl) (by kernel_rfl) (fun _ _ _ h => h) (Or.inl ⟨by rfl, ?_⟩) (by assumption) ?_
    rotate_left 1
    · intro w hSw; (try dsimp only at hSw); go_simp; (try with_reducible rfl)
    try simp only [Act.put, List.setIfInBounds_toArray, List.set_cons_zero, List.set_cons_succ]
    refine wpAnyH_take (i := 1) (v := ?_) (by simp only [List.getElem?_toArray, List.getElem?_cons_succ, List.getElem?_cons_zero]; rfl) (by kernel_rfl) (by kernel_rfl) (by kernel_rfl) (fun _ _ _ h => h) (Or.inl ⟨by rfl, ?_⟩) (by assumption) ?_
    rotate_left 1
    · intro w hSw; (try dsimp only at hSw); go_simp; (try with_reducible rfl)
    try simp only [Act.put, List.setIfInBounds_toArray, List.set_cons_zero, List.set_cons_succ]
    refine wpAnyH_ready (rs := [2]) (by kernel_rfl) (by simp) ?_
    refine AllReadyH.cons (by simp only [List.getElem?_toArray, List.getElem?_cons_succ, List.getElem?_cons_zero]; rfl) (fun K hK => ?_) AllReadyH.nil
    go_simp
    go_at_call 50
    refine (C50.out _ (CK.out _ (Below.refl _ _).drew).2.1).mono ?_
    rintro e w2 ⟨fv2, l2, rfl, hs2, hp2, hb2⟩
    obtain ⟨f2a, f2c, rfl⟩ := sh_slice hs2.own
    have B2 : Hid (Below W1.heap.size W1 w2) := (Below.refl _ _).drew.trans hb2
    have HS2 := hid hs2
    have HP2 := hid hp2
    clear hs2 hp2 hb2
    clear hHeld
    refine hK.out _ _ (CK.out _ B2.out).1 (fun hHeld => ?_)
    clear hK K
    try simp only [Act.put, List.setIfInBounds_toArray, List.set_cons_zero, List.set_cons_succ]
    refine wpAnyH_ready (rs := [3]) (by kernel_rfl) (by simp) ?_
    refine AllReadyH.cons (by simp only [List.getElem?_toArray, List.getElem?_cons_succ, List.getElem?_cons_zero]; rfl) (fun K hK => ?_) AllReadyH.nil
    go_simp
    go_at_call 17
    refine (C17.out _ _ _ _ B2.out HS2.out HP2.out).mono ?_
    rintro e w3 ⟨rfl, hb3⟩
    have B3 : Hid (Below W1.heap.size W1 w3) := B2.out.trans (hb3.mono B2.out.size)
    clear hb3
    clear hHeld
    refine hK.out _ _ (CK.out _ B3.out).1 (fun hHeld => ?_)
    clear hK K
    try simp only [Act.put, List.setIfInBounds_toArray, List.set_cons_zero, List.set_cons_succ]
    refine wpAnyH_take (i := 4) (v := ?_) (by simp only [List.getElem?_toArray, List.getElem?_cons_succ, List.getElem?_cons_zero]; rfl) (by kernel_rfl) (by kernel_rfl) (by kernel_rfl) (fun _ _ _ h => h) (Or.inl ⟨by rfl, ?_⟩) (by assumption) ?_
    rotate_left 1
    · intro w hSw; (try dsimp only at hSw); go_simp; (try with_reducible rfl)
    try simp only [Act.put, List.setIfInBounds_toArray, List.set_cons_zero, List.set_cons_succ]
    refine wpAnyH_take (i := 5) (v := ?_) (by simp only [List.getElem?_toArray, List.getElem?_cons_succ, List.getElem?_cons_zero]; rfl) (by kernel_rfl) (by kernel_rfl) (by kernel_rfl) (fun _ _ _ h => h) (Or.inl ⟨by rfl, ?_⟩) (by assumption) ?_
    rotate_left 1
    · intro w hSw; (try dsimp only at hSw); go_simp; (try with_reducible rfl)
    try simp only [Act.put, List.setIfInBounds_toArray, List.set_cons_zero, List.set_cons_succ]
    refine wpAnyH_take (i := 6) (v := ?_) (by simp only [List.getElem?_toArray, List.getElem?_cons_succ, List.getElem?_cons_zero]; rfl) (by kernel_rfl) (by kernel_rfl) (by kernel_rfl) (fun _ _ _ h => h) (Or.inl ⟨by rfl, ?_⟩) (by assumption) ?_
    rotate_left 1
    · intro w hSw; (try dsimp only at hSw); go_simp; (try with_reducible rfl)
    try simp only [Act.put, List.setIfInBounds_toArray, List.set_cons_zero, List.set_cons_succ]
    refine wpAnyH_take (i := 8) (v := ?_) (by simp only [List.getElem?_toArray, List.getElem?_cons_succ, List.getElem?_cons_zero]; rfl) (by kernel_rfl) (by kernel_rfl) (by kernel_rfl) (fun _ _ _ h => h) (Or.inl ⟨by rfl, ?_⟩) (by assumption) ?_
    rotate_left 1
    · intro w hSw; (try dsimp only at hSw); go_simp; (try with_reducible rfl)
    try simp only [Act.put, List.setIfInBounds_toArray, List.set_cons_zero, List.set_cons_succ]
    refine wpAnyH_ready (rs := [7]) (by kernel_rfl) (by simp) ?_
    refine AllReadyH.cons (by simp only [List.getElem?_toArray, List.getElem?_cons_succ, List.getElem?_cons_zero]; rfl) (fun K hK => ?_) AllReadyH.nil
    go_simp
    go_at_call 51
    refine (C51.out _ (CK.out _ B3.out).2.1).mono ?_
    rintro e w4 ⟨rfl, hw4⟩
    rw [hw4]
    clear hw4 w4
    clear hHeld
    refine hK.out _ _ (CK.out _ B3.out).1 (fun hHeld => ?_)
    clear hK K
    try simp only [Act.put, List.setIfInBounds_toArray, List.set_cons_zero, List.set_cons_succ]
    refine wpAnyH_ready (rs := [9]) (by kernel_rfl) (by simp) ?_
    refine AllReadyH.cons (by simp only [List.getElem?_toArray, List.getElem?_cons_succ, List.getElem?_cons_zero]; rfl) (fun K hK => ?_) AllReadyH.nil
    go_simp
    go_at_call 52
    refine (C52.out _ (CK.out _ B3.out).2.1).mono ?_
    rintro e w4 ⟨rfl, hw4⟩
    rw [hw4]
    clear hw4 w4
    clear hHeld
    refine hK.out _ _ (CK.out _ B3.out).1 (fun hHeld => ?_)
    clear hK K
    try simp only [Act.put, List.setIfInBounds_toArray, List.set_cons_zero, List.set_cons_succ]
    refine wpAnyH_take (i := 10) (v := .bool false) (by simp only [List.getElem?_toArray, List.getElem?_cons_succ, List.getElem?_cons_zero]; rfl) (by kernel_rfl) (by kernel_rfl) (by kernel_rfl) (fun _ _ _ h => h) (Or.inl ⟨by rfl, ?_⟩) (by assumption) ?_
    · intro w hSw; (try dsimp only at hSw); (try go_simp); (first | done | (with_reducible rfl) | simp)
    try simp only [Act.put, List.setIfInBounds_toArray, List.set_cons_zero, List.set_cons_succ]
    refine wpAnyH_take (i := 11) (v := ?_) (by simp only [List.getElem?_toArray, List.getElem?_cons_succ, List.getElem?_cons_zero]; rfl) (by kernel_rfl) (by kernel_rfl) (by kernel_rfl) (fun _ _ _ h => h) (Or.inl ⟨by rfl, ?_⟩) (by assumption) ?_
    rotate_left 1
    · intro w hSw; (try dsimp only at hSw); go_simp; (try with_reducible rfl)
    try simp only [Act.put, List.setIfInBounds_toArray, List.set_cons_zero, List.set_cons_succ]
    refine wpAnyH_done (by kernel_rfl) ?_ _
    refine NoPanic.normal ?_
    by_cases hlt : i < n
    · have hne : ((i : Int) == (n : Int)) = false := by simp; omega
      go_wp2_with (first
        | (go_at_call 53; refine (C53.out _ B3.out).mono ?_; rintro e w5 ⟨rfl, hb5⟩; have T5 : Hid (Touch [] W w5) := touch_below (CK.out _ B3.out).2.1 hb5; clear hb5))
      obtain ⟨o, hoi⟩ : ∃ o, ops[i]? = some o := ⟨_, List.getElem?_eq_getElem (by have := HN.out; omega)⟩
      have BL5 : Hid (Below lo wl w5) := HB0.out.trans (HBW.out.trans (T5.out.below HPL.out.env.room (by simp)))
      have OPS : Hid (∃ a sb m c, sa = some a ∧ m ≤ 1073741824 ∧ ∀ V, Below lo wl V → (V.cell? (a.add (i * 5)) = some (.int .i64 o.kind) ∧ V.cell? ⟨(a.add (i * 5)).block, (a.add (i * 5)).off + 1, none⟩ = some (.string o.name) ∧ V.cell? ⟨(a.add (i * 5)).block, (a.add (i * 5)).off + 2, none⟩ = some (.int .i64 o.N) ∧ V.cell? ⟨(a.add (i * 5)).block, (a.add (i * 5)).off + 3, none⟩ = some (.int .i64 o.bit) ∧ V.cell? ⟨(a.add (i * 5)).block, (a.add (i * 5)).off + 4, none⟩ = some (.slice sb m c)) ∧ Shows V sb m c o.data) := by
        obtain ⟨hil, hie⟩ := List.getElem?_eq_some_iff.1 hoi
        obtain ⟨a, sb, m, c, h1, hblk, c0, c1, c2, c3, c4, hs, hm⟩ := HOPS.out.at_ i hil
        rw [hie] at c0 c1 c2 c3 hs
        refine ⟨a, sb, m, c, h1, hm, fun V hb => ?_⟩
        have hlo := HLO.out
        have hc : ∀ q : Addr, q.block = (a.add (i * 5)).block → V.cell? q = wl.cell? q := fun q hq => hb.cell (by rw [hq, add_block, hlo]; exact hblk)
        rw [hlo] at hb
        exact ⟨⟨(hc _ rfl).trans c0, (hc ⟨(a.add (i * 5)).block, (a.add (i * 5)).off + 1, none⟩ rfl).trans c1, (hc ⟨(a.add (i * 5)).block, (a.add (i * 5)).off + 2, none⟩ rfl).trans c2, (hc ⟨(a.add (i * 5)).block, (a.add (i * 5)).off + 3, none⟩ rfl).trans c3, (hc ⟨(a.add (i * 5)).block, (a.add (i * 5)).off + 4, none⟩ rfl).trans c4⟩, hs.touch (Touch.of_below (F := []) hb (Nat.le_refl _)) (by simp)⟩
      obtain ⟨a, sb, m, c, hsa, hm30, hoc⟩ := OPS.out
      subst hsa
      have hnmo : o.name.size ≤ 1099511627776 := HNM.out o (List.mem_of_getElem? hoi)
      obtain ⟨T, hT⟩ : ∃ T, T = (stepB o R'.troub R'.pub).1 := ⟨_, rfl⟩
      obtain ⟨A', hA'⟩ : ∃ A', A' = (stepB o R'.troub R'.pub).2 := ⟨_, rfl⟩
      have hIA : IB (t0 + i + 1) A' := by rw [hA']; exact HPL.out.inv.step o R'.troub
      have hTn : T.names.length ≤ 1099511627776 := by
        rw [hT]
        have h1 := stepB_names o R'.troub R'.pub
        have h2 := HPL.out.inv.few
        omega
      have P8 : Hid (∀ V, Touch [] W V → Calls Tryz.prog 8 #[ptr p, .agg #[.int .i64 o.kind, .string o.name, .int .i64 o.N, .int .i64 o.bit, .slice sb m c], .int .i64 (B : Int)] V fun e w7 => ∃ da dn dc na nn nc, e = .returned (.tuple #[.agg #[.int .i64 T.e, .int .i64 T.n, .bool T.shut, .slice da dn dc, .slice na nn nc, .int .i64 T.c.calls, .int .i64 T.c.reads, .int .i64 T.c.appends, .int .i64 T.c.faults, .int .i64 T.c.full, .int .i64 T.c.used, .int .i64 T.c.most], .bool true]) ∧ ToldAt w7 V.heap.size T (toldV T.e T.n T.shut (.slice da dn dc) (.slice na nn nc) T.c) ∧ (∃ D2, Md w7 E lo p mf mt (t0 + i) D2 R' ∧ D2.pub = A' ∧ D2.B = B ∧ ∀ b ∈ D2.foot p mf mt, b < W.heap.size ∨ V.heap.size ≤ b) ∧ Touch (D'.foot p mf mt) V w7 ∧ Below lo V w7) := fun V ht => by
        have hv := HPL.out.touch ht
        have hbV : Below lo wl V := HB0.out.trans (HBW.out.trans (ht.below HPL.out.env.room (by simp)))
        have r := program_all (hv.rdy (by omega)) o (hoc V hbV).2 hm30
        have e9 := HDB.out
        rw [e9, HPL.out.same, ← hT, ← hA'] at r
        refine r.mono fun e w7 ⟨v, e2, e3, e4⟩ => ?_
        obtain ⟨D2, hmd, hp2, ht7, hf7⟩ := hv.mid e4
        have e5 := e3
        obtain ⟨dv, nv, hv7, hd7, hn7⟩ := e3
        obtain ⟨da, dc, rfl⟩ := sh_slice hd7
        obtain ⟨na, nc, rfl⟩ := sh_slice hn7
        rw [hv7] at e2 e5
        refine ⟨da, _, dc, na, _, nc, e2, e5, ⟨D2, hmd, hp2, ?_, fun b hb => (hf7 b hb).imp (fun h9 => HPL.out.rep.lt b h9) id⟩, ht7, ht7.below hv.env.room (fun b hb => hv.rep.base b hb)⟩
        have h1 : D2.pub.B = A'.B := by rw [hp2]
        rw [hA', (stepB_size o R'.troub R'.pub).1, ← HPL.out.same] at h1
        have h2 : D2.B = D'.B := h1
        rw [h2, e9]
      have D55 : Hid (∀ V D2, Md V E lo p mf mt (t0 + i) D2 R' → D2.pub = A' → Below lo wl V → Calls Tryz.prog 55 #[.pointer (some ⟨rp, 0, none⟩), .agg #[.int .i64 o.kind, .string o.name, .int .i64 o.N, .int .i64 o.bit, .slice sb m c]] V fun e w9 => ∃ da dn dc na nn nc, e = .returned (.agg #[.int .i64 T.e, .int .i64 T.n, .bool T.shut, .slice da dn dc, .slice na nn nc, .int .i64 T.c.calls, .int .i64 T.c.reads, .int .i64 T.c.appends, .int .i64 T.c.faults, .int .i64 T.c.full, .int .i64 T.c.used, .int .i64 T.c.most]) ∧ ToldAt w9 V.heap.size T (toldV T.e T.n T.shut (.slice da dn dc) (.slice na nn nc) T.c) ∧ (∃ R2, Pl w9 E lo p mf mt (t0 + (i + 1)) D2 R2 ∧ R2.p = rp) ∧ Touch R'.foot V w9 ∧ Below lo V w9) := fun V D2 hmd hp2 hbV => by
        have r := document_all (hmd.rrdy (by omega)) o hnmo (hoc V hbV).2 hm30
        have e9 := HRP.out
        rw [e9, ← hT, ← hA'] at r
        refine r.mono fun e w9 ⟨v, e2, e3, e4⟩ => ?_
        rw [← hp2] at e4
        obtain ⟨R2, hpl2, hp3, ht9⟩ := hmd.next (by rw [hp2]; exact hIA) e4
        have e5 := e3
        obtain ⟨dv, nv, hv7, hd7, hn7⟩ := e3
        obtain ⟨da, dc, rfl⟩ := sh_slice hd7
        obtain ⟨na, nc, rfl⟩ := sh_slice hn7
        rw [hv7] at e2 e5
        exact ⟨da, _, dc, na, _, nc, e2, e5, ⟨R2, hpl2, by rw [hp3, e9]⟩, ht9, ht9.below hmd.env.room hmd.lor⟩
      have C42 : Hid (∀ V b1 b2 da dn dc na nn nc da' dn' dc' na' nn' nc', ToldAt V b1 T (toldV T.e T.n T.shut (.slice da dn dc) (.slice na nn nc) T.c) → ToldAt V b2 T (toldV T.e T.n T.shut (.slice da' dn' dc') (.slice na' nn' nc') T.c) → Calls Tryz.prog 42 #[.agg #[.int .i64 T.e, .int .i64 T.n, .bool T.shut, .slice da dn dc, .slice na nn nc, .int .i64 T.c.calls, .int .i64 T.c.reads, .int .i64 T.c.appends, .int .i64 T.c.faults, .int .i64 T.c.full, .int .i64 T.c.used, .int .i64 T.c.most], .agg #[.int .i64 T.e, .int .i64 T.n, .bool T.shut, .slice da' dn' dc', .slice na' nn' nc', .int .i64 T.c.calls, .int .i64 T.c.reads, .int .i64 T.c.appends, .int .i64 T.c.faults, .int .i64 T.c.full, .int .i64 T.c.used, .int .i64 T.c.most]] V fun e w' => e = .returned (.bool true) ∧ Touch [] V w') := fun V b1 b2 da dn dc na nn nc da' dn' dc' na' nn' nc' h1 h2 => sameTold_true h1 h2 hTn
      have C47 : Hid (∀ V, Touch [] W V → Calls Tryz.prog 47 #[.pointer (some ⟨rp, 0, none⟩)] V fun e w2 => e = .returned (.int .i64 (B : Int)) ∧ w2 = V) := fun V ht => by
        have r := rBlock_any (HPL.out.ref.touch ht (by simp))
        have e9 := HRP.out
        have e8 := HPL.out.nums.1
        have e7 := HDB.out
        rw [e9, ← e8, e7] at r
        exact r
      have HOC := hid hoc
      have FT : Hid (∀ b ∈ D'.foot p mf mt, b < W.heap.size) := HPL.out.rep.lt
      have FR : Hid (∀ b ∈ R'.foot, b < W.heap.size) := HPL.out.ref.lt
      have RM : Hid (lo ≤ W.heap.size) := HPL.out.env.room
      have OC5 := (hoc w5 BL5.out).1
      have hlt1 : (i : Int) < (n : Int) := by omega
      have i0 : (0 : Int) ≤ (i : Int) := by omega
      have V2 : IntKind.i64.wrap ((i : Int) + 1) = (i : Int) + 1 := by rw [IntKind.wrap_i64]; omega
      clear hoc hnmo hT hA' hIA hTn OPS hoi C17 C53 C50 C51 C52 C31 C54 FEW CK CK1
      refine wp_region_noPanic ?_
      refine wp_region_held_drew (S := fun V => V.cell? (a.add (i * 5)) = some (.int .i64 o.kind) ∧ V.cell? ⟨(a.add (i * 5)).block, (a.add (i * 5)).off + 1, none⟩ = some (.string o.name) ∧ V.cell? ⟨(a.add (i * 5)).block, (a.add (i * 5)).off + 2, none⟩ = some (.int .i64 o.N) ∧ V.cell? ⟨(a.add (i * 5)).block, (a.add (i * 5)).off + 3, none⟩ = some (.int .i64 o.bit) ∧ V.cell? ⟨(a.add (i * 5)).block, (a.add (i * 5)).off + 4, none⟩ = some (.slice sb m c)) (by kernel_rfl) OC5 (fun hHeld => ?_)
      refine wpAnyH_take (i := 0) (v := ?_) (by simp only [List.getElem?_toArray, List.getElem?_cons_zero]; rfl) (by kernel_rfl) (by kernel_rfl) (by kernel_rfl) (fun _ _ _ h => h) (Or.inl ⟨by rfl, ?_⟩) (by assumption) ?_
      rotate_left 1
      · intro w hSw; (try dsimp only at hSw); go_simp; (try with_reducible rfl)
      try simp only [Act.put, List.setIfInBounds_toArray, List.set_cons_zero, List.set_cons_succ]
      refine wpAnyH_take (i := 1) (v := ?_) (by simp only [List.getElem?_toArray, List.getElem?_cons_succ, List.getElem?_cons_zero]; rfl) (by kernel_rfl) (by kernel_rfl) (by kernel_rfl) (fun _ _ _ h => h) (Or.inl ⟨by rfl, ?_⟩) (by assumption) ?_
      rotate_left 1
      · intro w hSw; (try dsimp only at hSw); go_simp; (try with_reducible rfl)
      try simp only [Act.put, List.setIfInBounds_toArray, List.set_cons_zero, List.set_cons_succ]
      refine wpAnyH_take (i := 2) (v := ?_) (by simp only [List.getElem?_toArray, List.getElem?_cons_succ, List.getElem?_cons_zero]; rfl) (by kernel_rfl) (by kernel_rfl) (by kernel_rfl) (fun _ _ _ h => h) (Or.inl ⟨by rfl, ?_⟩) (by assumption) ?_
      rotate_left 1
      · intro w hSw; (try dsimp only at hSw); go_simp; (try with_reducible rfl)
      try simp only [Act.put, List.setIfInBounds_toArray, List.set_cons_zero, List.set_cons_succ]
      refine wpAnyH_take (i := 3) (v := ?_) (by simp only [List.getElem?_toArray, List.getElem?_cons_succ, List.getElem?_cons_zero]; rfl) (by kernel_rfl) (by kernel_rfl) (by kernel_rfl) (fun _ _ _ h => h) (Or.inl ⟨by rfl, ?_⟩) (by assumption) ?_
      rotate_left 1
      · intro w hSw; (try dsimp only at hSw); go_simp; (try with_reducible rfl)
      try simp only [Act.put, List.setIfInBounds_toArray, List.set_cons_zero, List.set_cons_succ]
      refine wpAnyH_take (i := 4) (v := ?_) (by simp only [List.getElem?_toArray, List.getElem?_cons_succ, List.getElem?_cons_zero]; rfl) (by kernel_rfl) (by kernel_rfl) (by kernel_rfl) (fun _ _ _ h => h) (Or.inl ⟨by rfl, ?_⟩) (by assumption) ?_
      rotate_left 1
      · intro w hSw; (try dsimp only at hSw); go_simp; (try with_reducible rfl)
      try simp only [Act.put, List.setIfInBounds_toArray, List.set_cons_zero, List.set_cons_succ]
      refine wpAnyH_take (i := 5) (v := ?_) (by simp only [List.getElem?_toArray, List.getElem?_cons_succ, List.getElem?_cons_zero]; rfl) (by kernel_rfl) (by kernel_rfl) (by kernel_rfl) (fun _ _ _ h => h) (Or.inl ⟨by rfl, ?_⟩) (by assumption) ?_
      rotate_left 1
      · intro w hSw; (try dsimp only at hSw); go_simp; (try with_reducible rfl)
      try simp only [Act.put, List.setIfInBounds_toArray, List.set_cons_zero, List.set_cons_succ]
      refine wpAnyH_ready (rs := [6, 11]) (by kernel_rfl) (by simp) ?_
      refine AllReadyH.cons (by simp only [List.getElem?_toArray, List.getElem?_cons_succ, List.getElem?_cons_zero]; rfl) (fun K hK => ?_) (AllReadyH.cons (by simp only [List.getElem?_toArray, List.getElem?_cons_succ, List.getElem?_cons_zero]; rfl) (fun K hK => ?_) AllReadyH.nil)
      · go_simp
        go_at_call 47
        refine (C47.out _ (T5.out.drew)).mono ?_
        rintro e w6 ⟨rfl, hw6⟩
        rw [hw6]
        clear hw6 w6
        clear hHeld
        refine hK.out _ _ OC5 (fun hHeld => ?_)
        clear hK K
        try simp only [Act.put, List.setIfInBounds_toArray, List.set_cons_zero, List.set_cons_succ]
        refine wpAnyH_ready (rs := [7, 11]) (by kernel_rfl) (by simp) ?_
        refine AllReadyH.cons (by simp only [List.getElem?_toArray, List.getElem?_cons_succ, List.getElem?_cons_zero]; rfl) (fun K hK => ?_) (AllReadyH.cons (by simp only [List.getElem?_toArray, List.getElem?_cons_succ, List.getElem?_cons_zero]; rfl) (fun K hK => ?_) AllReadyH.nil)
        · go_simp
          go_at_call 8
          refine (P8.out _ (T5.out.drew)).mono ?_
          rintro e w7 ⟨da, dn, dc, na, nn, nc, rfl, h71, ⟨D2, h72, h73, h74, h75⟩, h76, h77⟩
          have BL7 : Hid (Below lo wl w7) := (HB0.out.trans (HBW.out.trans ((T5.out.drew).below RM.out (by simp)))).trans h77
          have TD := hid h71
          have M7 := hid h72
          have P7 := hid h73
          have D7 := hid h74
          have F7 := hid h75
          have T7 := hid h76
          clear h71 h72 h73 h74 h75 h76 h77
          clear hHeld
          refine hK.out _ _ (HOC.out _ BL7.out).1 (fun hHeld => ?_)
          clear hK K
          try simp only [Act.put, List.setIfInBounds_toArray, List.set_cons_zero, List.set_cons_succ]
          refine wpAnyH_take (i := 8) (v := ?_) (by simp only [List.getElem?_toArray, List.getElem?_cons_succ, List.getElem?_cons_zero]; rfl) (by kernel_rfl) (by kernel_rfl) (by kernel_rfl) (fun _ _ _ h => h) (Or.inl ⟨by rfl, ?_⟩) (by assumption) ?_
          rotate_left 1
          · intro w hSw; (try dsimp only at hSw); go_simp; (try with_reducible rfl)
          try simp only [Act.put, List.setIfInBounds_toArray, List.set_cons_zero, List.set_cons_succ]
          refine wpAnyH_take (i := 9) (v := ?_) (by simp only [List.getElem?_toArray, List.getElem?_cons_succ, List.getElem?_cons_zero]; rfl) (by kernel_rfl) (by kernel_rfl) (by kernel_rfl) (fun _ _ _ h => h) (Or.inl ⟨by rfl, ?_⟩) (by assumption) ?_
          rotate_left 1
          · intro w hSw; (try dsimp only at hSw); go_simp; (try with_reducible rfl)
          try simp only [Act.put, List.setIfInBounds_toArray, List.set_cons_zero, List.set_cons_succ]
          refine wpAnyH_take (i := 10) (v := ?_) (by simp only [List.getElem?_toArray, List.getElem?_cons_succ, List.getElem?_cons_zero]; rfl) (by kernel_rfl) (by kernel_rfl) (by kernel_rfl) (fun _ _ _ h => h) (Or.inl ⟨by rfl, ?_⟩) (by assumption) ?_
          rotate_left 1
          · intro w hSw; (try dsimp only at hSw); go_simp; (try with_reducible rfl)
          try simp only [Act.put, List.setIfInBounds_toArray, List.set_cons_zero, List.set_cons_succ]
          refine wpAnyH_ready (rs := [11]) (by kernel_rfl) (by simp) ?_
          refine AllReadyH.cons (by simp only [List.getElem?_toArray, List.getElem?_cons_succ, List.getElem?_cons_zero]; rfl) (fun K hK => ?_) AllReadyH.nil
          go_simp
          obtain ⟨Y, hY⟩ : ∃ Y, Y = w7.alloc (.cells #[.int .i64 0, .int .i64 0, .bool false, .slice none 0 0, .slice none 0 0, .int .i64 0, .int .i64 0, .int .i64 0, .int .i64 0, .int .i64 0, .int .i64 0, .int .i64 0] 36) := ⟨_, rfl⟩
          have BY : Hid (Below w7.heap.size w7 Y) := by rw [hY]; exact (Below.refl _ _).alloc (Nat.le_refl _) _
          have RY : Hid (Y.heap[w7.heap.size]? = some (.cells #[.int .i64 0, .int .i64 0, .bool false, .slice none 0 0, .slice none 0 0, .int .i64 0, .int .i64 0, .int .i64 0, .int .i64 0, .int .i64 0, .int .i64 0, .int .i64 0] 36 (0, 0))) := by rw [hY]; exact heap_alloc_new w7 _
          rw [← hY]
          clear hY
          have R7 := hid RY.out
          have BLY : Hid (Below lo wl Y) := BL7.out.trans (BY.out.mono (Nat.le_trans RM.out (Nat.le_trans T5.out.size T7.out.size)))
          clear hHeld
          refine hK.out _ _ (HOC.out Y BLY.out).1 (fun hHeld => ?_)
          clear hK K
          try simp only [Act.put, List.setIfInBounds_toArray, List.set_cons_zero, List.set_cons_succ]
          have zc := fun j => cell_row R7.out j
          have zf := fun j => unfrozen_row R7.out j
          refine wpAnyH_ready (rs := [12]) (by kernel_rfl) (by simp) ?_
          refine AllReadyH.cons (by simp only [List.getElem?_toArray, List.getElem?_cons_succ, List.getElem?_cons_zero]; rfl) (fun K hK => ?_) AllReadyH.nil
          go_simp
          obtain ⟨W8, hW8, q8, t8⟩ := prog_end R7.out T.e T.n T.shut (.slice da dn dc) (.slice na nn nc) T.c
          rw [← hW8]
          clear hW8 zc zf
          have zW : W.heap.size ≤ w5.heap.size := T5.out.size
          have z7 : w5.heap.size ≤ w7.heap.size := T7.out.size
          have hg7 : w7.heap.size ∉ D2.foot p mf mt := fun hm => by have := M7.out.rep.lt _ hm; omega
          have t78 : Touch [w7.heap.size] w7 W8 := (Touch.of_below (F := [w7.heap.size]) BY.out (Nat.le_refl _)).trans t8 (fun b hb => .inl hb)
          have hgR : w7.heap.size ∉ R'.foot := fun hm => by have := FR.out _ hm; omega
          have hglo : lo ≤ w7.heap.size := by have := RM.out; omega
          have M8 : Hid (Md W8 E lo p mf mt (t0 + i) D2 R') := M7.out.touchF t78 (by simp; exact ⟨hg7, hgR, hglo⟩)
          have TD8 := hid (TD.out.touchG t78 (fun b hb => by simp at hb; subst hb; exact .inr (Nat.le_refl _)))
          have BL8 : Hid (Below lo wl W8) := BL7.out.trans (t78.below (by have := RM.out; omega) (by simp; exact hglo))
          have BW8 : Hid (W.heap.size ≤ W8.heap.size) := by have := t78.size; show _ ≤ _; omega
          have HGR := hid hgR
          have G8 : W8.cell? ⟨w7.heap.size, 0, none⟩ = some (.int .i64 T.e) ∧ W8.cell? ⟨w7.heap.size, 1, none⟩ = some (.int .i64 T.n) ∧ W8.cell? ⟨w7.heap.size, 2, none⟩ = some (.bool T.shut) ∧ W8.cell? ⟨w7.heap.size, 3, none⟩ = some (.slice da dn dc) ∧ W8.cell? ⟨w7.heap.size, 4, none⟩ = some (.slice na nn nc) ∧ W8.cell? ⟨w7.heap.size, 5, none⟩ = some (.int .i64 T.c.calls) ∧ W8.cell? ⟨w7.heap.size, 6, none⟩ = some (.int .i64 T.c.reads) ∧ W8.cell? ⟨w7.heap.size, 7, none⟩ = some (.int .i64 T.c.appends) ∧ W8.cell? ⟨w7.heap.size, 8, none⟩ = some (.int .i64 T.c.faults) ∧ W8.cell? ⟨w7.heap.size, 9, none⟩ = some (.int .i64 T.c.full) ∧ W8.cell? ⟨w7.heap.size, 10, none⟩ = some (.int .i64 T.c.used) ∧ W8.cell? ⟨w7.heap.size, 11, none⟩ = some (.int .i64 T.c.most) := ⟨by rw [q8]; rfl, by rw [q8]; rfl, by rw [q8]; rfl, by rw [q8]; rfl, by rw [q8]; rfl, by rw [q8]; rfl, by rw [q8]; rfl, by rw [q8]; rfl, by rw [q8]; rfl, by rw [q8]; rfl, by rw [q8]; rfl, by rw [q8]; rfl⟩
          have L8 : Hid (w7.heap.size < W8.heap.size) := World.block_lt_of_cell? W8 _ G8.1
          clear q8 t8 t78 hg7 hgR hglo z7 zW
          clear hHeld
          refine hK.out _ _ (HOC.out W8 BL8.out).1 (fun hHeld => ?_)
          clear hK K
          try simp only [Act.put, List.setIfInBounds_toArray, List.set_cons_zero, List.set_cons_succ]
          refine wpAnyH_take (i := 13) (v := ?_) (by simp only [List.getElem?_toArray, List.getElem?_cons_succ, List.getElem?_cons_zero]; rfl) (by kernel_rfl) (by kernel_rfl) (by kernel_rfl) (fun _ _ _ h => h) (Or.inl ⟨by rfl, ?_⟩) (by assumption) ?_
          rotate_left 1
          · intro w hSw; (try dsimp only at hSw); go_simp; (try with_reducible rfl)
          try simp only [Act.put, List.setIfInBounds_toArray, List.set_cons_zero, List.set_cons_succ]
          refine wpAnyH_done (by kernel_rfl) ?_ _
          refine NoPanic.normal ?_
          go_wp2_with fail
          refine wp_region_noPanic ?_
          refine wp_region_held_drew (S := fun V => (V.cell? ⟨w7.heap.size, 0, none⟩ = some (.int .i64 T.e) ∧ V.cell? ⟨w7.heap.size, 1, none⟩ = some (.int .i64 T.n) ∧ V.cell? ⟨w7.heap.size, 2, none⟩ = some (.bool T.shut) ∧ V.cell? ⟨w7.heap.size, 3, none⟩ = some (.slice da dn dc) ∧ V.cell? ⟨w7.heap.size, 4, none⟩ = some (.slice na nn nc) ∧ V.cell? ⟨w7.heap.size, 5, none⟩ = some (.int .i64 T.c.calls) ∧ V.cell? ⟨w7.heap.size, 6, none⟩ = some (.int .i64 T.c.reads) ∧ V.cell? ⟨w7.heap.size, 7, none⟩ = some (.int .i64 T.c.appends) ∧ V.cell? ⟨w7.heap.size, 8, none⟩ = some (.int .i64 T.c.faults) ∧ V.cell? ⟨w7.heap.size, 9, none⟩ = some (.int .i64 T.c.full) ∧ V.cell? ⟨w7.heap.size, 10, none⟩ = some (.int .i64 T.c.used) ∧ V.cell? ⟨w7.heap.size, 11, none⟩ = some (.int .i64 T.c.most)) ∧ V.cell? (a.add (i * 5)) = some (.int .i64 o.kind) ∧ V.cell? ⟨(a.add (i * 5)).block, (a.add (i * 5)).off + 1, none⟩ = some (.string o.name) ∧ V.cell? ⟨(a.add (i * 5)).block, (a.add (i * 5)).off + 2, none⟩ = some (.int .i64 o.N) ∧ V.cell? ⟨(a.add (i * 5)).block, (a.add (i * 5)).off + 3, none⟩ = some (.int .i64 o.bit) ∧ V.cell? ⟨(a.add (i * 5)).block, (a.add (i * 5)).off + 4, none⟩ = some (.slice sb m c)) (by kernel_rfl) ⟨G8, (HOC.out W8 BL8.out).1⟩ (fun hHeld => ?_)
          refine wpAnyH_take (i := 0) (v := ?_) (by simp only [List.getElem?_toArray, List.getElem?_cons_zero]; rfl) (by kernel_rfl) (by kernel_rfl) (by kernel_rfl) (fun _ _ _ h => h) (Or.inl ⟨by rfl, ?_⟩) (by assumption) ?_
          rotate_left 1
          · intro w hSw; (try dsimp only at hSw); go_simp; (try with_reducible rfl)
          try simp only [Act.put, List.setIfInBounds_toArray, List.set_cons_zero, List.set_cons_succ]
          refine wpAnyH_take (i := 1) (v := .bool false) (by simp only [List.getElem?_toArray, List.getElem?_cons_succ, List.getElem?_cons_zero]; rfl) (by kernel_rfl) (by kernel_rfl) (by kernel_rfl) (fun _ _ _ h => h) (Or.inl ⟨by rfl, ?_⟩) (by assumption) ?_
          · intro w hSw; (try dsimp only at hSw); (try go_simp); (first | done | (with_reducible rfl) | omega | (simp; omega))
          try simp only [Act.put, List.setIfInBounds_toArray, List.set_cons_zero, List.set_cons_succ]
          refine wpAnyH_take (i := 2) (v := ?_) (by simp only [List.getElem?_toArray, List.getElem?_cons_succ, List.getElem?_cons_zero]; rfl) (by kernel_rfl) (by kernel_rfl) (by kernel_rfl) (fun _ _ _ h => h) (Or.inl ⟨by rfl, ?_⟩) (by assumption) ?_
          rotate_left 1
          · intro w hSw; (try dsimp only at hSw); go_simp; (try with_reducible rfl)
          try simp only [Act.put, List.setIfInBounds_toArray, List.set_cons_zero, List.set_cons_succ]
          refine wpAnyH_take (i := 3) (v := ?_) (by simp only [List.getElem?_toArray, List.getElem?_cons_succ, List.getElem?_cons_zero]; rfl) (by kernel_rfl) (by kernel_rfl) (by kernel_rfl) (fun _ _ _ h => h) (Or.inl ⟨by rfl, ?_⟩) (by assumption) ?_
          rotate_left 1
          · intro w hSw; (try dsimp only at hSw); go_simp; (try with_reducible rfl)
          try simp only [Act.put, List.setIfInBounds_toArray, List.set_cons_zero, List.set_cons_succ]
          refine wpAnyH_take (i := 4) (v := ?_) (by simp only [List.getElem?_toArray, List.getElem?_cons_succ, List.getElem?_cons_zero]; rfl) (by kernel_rfl) (by kernel_rfl) (by kernel_rfl) (fun _ _ _ h => h) (Or.inl ⟨by rfl, ?_⟩) (by assumption) ?_
          rotate_left 1
          · intro w hSw; (try dsimp only at hSw); go_simp; (try with_reducible rfl)
          try simp only [Act.put, List.setIfInBounds_toArray, List.set_cons_zero, List.set_cons_succ]
          refine wpAnyH_take (i := 5) (v := ?_) (by simp only [List.getElem?_toArray, List.getElem?_cons_succ, List.getElem?_cons_zero]; rfl) (by kernel_rfl) (by kernel_rfl) (by kernel_rfl) (fun _ _ _ h => h) (Or.inl ⟨by rfl, ?_⟩) (by assumption) ?_
          rotate_left 1
          · intro w hSw; (try dsimp only at hSw); go_simp; (try with_reducible rfl)
          try simp only [Act.put, List.setIfInBounds_toArray, List.set_cons_zero, List.set_cons_succ]
          refine wpAnyH_take (i := 6) (v := ?_) (by simp only [List.getElem?_toArray, List.getElem?_cons_succ, List.getElem?_cons_zero]; rfl) (by kernel_rfl) (by kernel_rfl) (by kernel_rfl) (fun _ _ _ h => h) (Or.inl ⟨by rfl, ?_⟩) (by assumption) ?_
          rotate_left 1
          · intro w hSw; (try dsimp only at hSw); go_simp; (try with_reducible rfl)
          try simp only [Act.put, List.setIfInBounds_toArray, List.set_cons_zero, List.set_cons_succ]
          refine wpAnyH_take (i := 7) (v := ?_) (by simp only [List.getElem?_toArray, List.getElem?_cons_succ, List.getElem?_cons_zero]; rfl) (by kernel_rfl) (by kernel_rfl) (by kernel_rfl) (fun _ _ _ h => h) (Or.inl ⟨by rfl, ?_⟩) (by assumption) ?_
          rotate_left 1
          · intro w hSw; (try dsimp only at hSw); go_simp; (try with_reducible rfl)
          try simp only [Act.put, List.setIfInBounds_toArray, List.set_cons_zero, List.set_cons_succ]
          refine wpAnyH_take (i := 8) (v := ?_) (by simp only [List.getElem?_toArray, List.getElem?_cons_succ, List.getElem?_cons_zero]; rfl) (by kernel_rfl) (by kernel_rfl) (by kernel_rfl) (fun _ _ _ h => h) (Or.inl ⟨by rfl, ?_⟩) (by assumption) ?_
          rotate_left 1
          · intro w hSw; (try dsimp only at hSw); go_simp; (try with_reducible rfl)
          try simp only [Act.put, List.setIfInBounds_toArray, List.set_cons_zero, List.set_cons_succ]
          refine wpAnyH_ready (rs := [9]) (by kernel_rfl) (by simp) ?_
          refine AllReadyH.cons (by simp only [List.getElem?_toArray, List.getElem?_cons_succ, List.getElem?_cons_zero]; rfl) (fun K hK => ?_) AllReadyH.nil
          go_simp
          go_at_call 55
          refine (D55.out _ D2 (M8.out.touch (Touch.refl [] W8).drew) P7.out BL8.out.drew).mono ?_
          rintro e w9 ⟨da2, dn2, dc2, na2, nn2, nc2, rfl, h91, ⟨R2, h92, h93⟩, h94, h95⟩
          have CC : ∀ (j : Nat) v, W8.cell? ⟨w7.heap.size, j, none⟩ = some v → w9.cell? ⟨w7.heap.size, j, none⟩ = some v := fun j v hv => (h94.cell (p := ⟨w7.heap.size, j, none⟩) L8.out HGR.out).trans hv
          have TD9 := hid (TD8.out.touchG ((Touch.refl R'.foot W8).drew.trans h94 (fun b hb => .inl hb)) (fun b hb => .inl (by have h1 := FR.out b hb; have h2 := T5.out.size; show b < w5.heap.size; omega)))
          have BL9 : Hid (Below lo wl w9) := BL8.out.drew.trans h95
          have Z9 : Hid (W8.heap.size ≤ w9.heap.size) := h94.size
          have TD2 := hid h91
          have PL9 := hid h92
          have HP9 := hid h93
          have G9 : w9.cell? ⟨w7.heap.size, 0, none⟩ = some (.int .i64 T.e) ∧ w9.cell? ⟨w7.heap.size, 1, none⟩ = some (.int .i64 T.n) ∧ w9.cell? ⟨w7.heap.size, 2, none⟩ = some (.bool T.shut) ∧ w9.cell? ⟨w7.heap.size, 3, none⟩ = some (.slice da dn dc) ∧ w9.cell? ⟨w7.heap.size, 4, none⟩ = some (.slice na nn nc) ∧ w9.cell? ⟨w7.heap.size, 5, none⟩ = some (.int .i64 T.c.calls) ∧ w9.cell? ⟨w7.heap.size, 6, none⟩ = some (.int .i64 T.c.reads) ∧ w9.cell? ⟨w7.heap.size, 7, none⟩ = some (.int .i64 T.c.appends) ∧ w9.cell? ⟨w7.heap.size, 8, none⟩ = some (.int .i64 T.c.faults) ∧ w9.cell? ⟨w7.heap.size, 9, none⟩ = some (.int .i64 T.c.full) ∧ w9.cell? ⟨w7.heap.size, 10, none⟩ = some (.int .i64 T.c.used) ∧ w9.cell? ⟨w7.heap.size, 11, none⟩ = some (.int .i64 T.c.most) := ⟨CC _ _ G8.1, CC _ _ G8.2.1, CC _ _ G8.2.2.1, CC _ _ G8.2.2.2.1, CC _ _ G8.2.2.2.2.1, CC _ _ G8.2.2.2.2.2.1, CC _ _ G8.2.2.2.2.2.2.1, CC _ _ G8.2.2.2.2.2.2.2.1, CC _ _ G8.2.2.2.2.2.2.2.2.1, CC _ _ G8.2.2.2.2.2.2.2.2.2.1, CC _ _ G8.2.2.2.2.2.2.2.2.2.2.1, CC _ _ G8.2.2.2.2.2.2.2.2.2.2.2⟩
          clear h91 h92 h93 h94 h95 CC
          clear hHeld
          refine hK.out _ _ ⟨G9, (HOC.out w9 BL9.out).1⟩ (fun hHeld => ?_)
          clear hK K
          try simp only [Act.put, List.setIfInBounds_toArray, List.set_cons_zero, List.set_cons_succ]
          refine wpAnyH_ready (rs := [10]) (by kernel_rfl) (by simp) ?_
          refine AllReadyH.cons (by simp only [List.getElem?_toArray, List.getElem?_cons_succ, List.getElem?_cons_zero]; rfl) (fun K hK => ?_) AllReadyH.nil
          go_simp
          go_at_call 42
          refine (C42.out _ _ _ _ _ _ _ _ _ _ _ _ _ _ _ TD9.out TD2.out).mono ?_
          rintro e w10 ⟨rfl, t10⟩
          have CC2 : ∀ (j : Nat) v, w9.cell? ⟨w7.heap.size, j, none⟩ = some v → w10.cell? ⟨w7.heap.size, j, none⟩ = some v := fun j v hv => (t10.cell (World.block_lt_of_cell? w9 _ hv) (by simp)).trans hv
          have G10 : w10.cell? ⟨w7.heap.size, 0, none⟩ = some (.int .i64 T.e) ∧ w10.cell? ⟨w7.heap.size, 1, none⟩ = some (.int .i64 T.n) ∧ w10.cell? ⟨w7.heap.size, 2, none⟩ = some (.bool T.shut) ∧ w10.cell? ⟨w7.heap.size, 3, none⟩ = some (.slice da dn dc) ∧ w10.cell? ⟨w7.heap.size, 4, none⟩ = some (.slice na nn nc) ∧ w10.cell? ⟨w7.heap.size, 5, none⟩ = some (.int .i64 T.c.calls) ∧ w10.cell? ⟨w7.heap.size, 6, none⟩ = some (.int .i64 T.c.reads) ∧ w10.cell? ⟨w7.heap.size, 7, none⟩ = some (.int .i64 T.c.appends) ∧ w10.cell? ⟨w7.heap.size, 8, none⟩ = some (.int .i64 T.c.faults) ∧ w10.cell? ⟨w7.heap.size, 9, none⟩ = some (.int .i64 T.c.full) ∧ w10.cell? ⟨w7.heap.size, 10, none⟩ = some (.int .i64 T.c.used) ∧ w10.cell? ⟨w7.heap.size, 11, none⟩ = some (.int .i64 T.c.most) := ⟨CC2 _ _ G9.1, CC2 _ _ G9.2.1, CC2 _ _ G9.2.2.1, CC2 _ _ G9.2.2.2.1, CC2 _ _ G9.2.2.2.2.1, CC2 _ _ G9.2.2.2.2.2.1, CC2 _ _ G9.2.2.2.2.2.2.1, CC2 _ _ G9.2.2.2.2.2.2.2.1, CC2 _ _ G9.2.2.2.2.2.2.2.2.1, CC2 _ _ G9.2.2.2.2.2.2.2.2.2.1, CC2 _ _ G9.2.2.2.2.2.2.2.2.2.2.1, CC2 _ _ G9.2.2.2.2.2.2.2.2.2.2.2⟩
          have BL10 : Hid (Below lo wl w10) := BL9.out.trans (t10.below PL9.out.env.room (by simp))
          have T10 := hid t10
          clear t10 CC2
          clear hHeld
          refine hK.out _ _ ⟨G10, (HOC.out w10 BL10.out).1⟩ (fun hHeld => ?_)
          clear hK K
          try simp only [Act.put, List.setIfInBounds_toArray, List.set_cons_zero, List.set_cons_succ]
          refine wpAnyH_take (i := 11) (v := .bool false) (by simp only [List.getElem?_toArray, List.getElem?_cons_succ, List.getElem?_cons_zero]; rfl) (by kernel_rfl) (by kernel_rfl) (by kernel_rfl) (fun _ _ _ h => h) (Or.inl ⟨by rfl, ?_⟩) (by assumption) ?_
          · intro w hSw; (try dsimp only at hSw); (try go_simp); (first | done | (with_reducible rfl) | omega | (simp; omega))
          try simp only [Act.put, List.setIfInBounds_toArray, List.set_cons_zero, List.set_cons_succ]
          refine wpAnyH_take (i := 12) (v := ?_) (by simp only [List.getElem?_toArray, List.getElem?_cons_succ, List.getElem?_cons_zero]; rfl) (by kernel_rfl) (by kernel_rfl) (by kernel_rfl) (fun _ _ _ h => h) (Or.inl ⟨by rfl, ?_⟩) (by assumption) ?_
          rotate_left 1
          · intro w hSw; (try dsimp only at hSw); go_simp; (try with_reducible rfl)
          try simp only [Act.put, List.setIfInBounds_toArray, List.set_cons_zero, List.set_cons_succ]
          refine wpAnyH_done (by kernel_rfl) ?_ _
          refine NoPanic.normal ?_
          go_wp2
          refine ⟨⟨i + 1, D2, R2, by simp, by omega, PL9.out.touch T10.out, HP9.out, D7.out, ?_⟩, by simp; omega⟩
          refine ⟨BL10.out.os.trans HB0.out.os.symm, BL10.out.tape.trans HB0.out.tape.symm, BL10.out.output.trans HB0.out.output.symm, ?_, fun b hb => (BL10.out.block b hb).trans (HB0.out.block b hb).symm⟩
          exact Nat.le_trans HBW.out.size (Nat.le_trans BW8.out (Nat.le_trans Z9.out T10.out.size))
        · go_simp
          obtain ⟨Y, hY⟩ : ∃ Y, Y = (w5.alloc (.cells #[.int .i64 0, .int .i64 0, .bool false, .slice none 0 0, .slice none 0 0, .int .i64 0, .int .i64 0, .int .i64 0, .int .i64 0, .int .i64 0, .int .i64 0, .int .i64 0] 36)).drew := ⟨_, rfl⟩
          have TY : Hid (Touch [] W Y) := by rw [hY]; exact (T5.out.alloc _).drew
          have RY : Hid (Y.heap[w5.heap.size]? = some (.cells #[.int .i64 0, .int .i64 0, .bool false, .slice none 0 0, .slice none 0 0, .int .i64 0, .int .i64 0, .int .i64 0, .int .i64 0, .int .i64 0, .int .i64 0, .int .i64 0] 36 (0, 0))) := by rw [hY]; exact heap_alloc_new w5 _
          have ZY : Hid (Y.heap.size = w5.heap.size + 1) := by rw [hY]; show _ = _; simp
          rw [← hY]
          clear hY
          have BLY : Hid (Below lo wl Y) := HB0.out.trans (HBW.out.trans (TY.out.below RM.out (by simp)))
          clear hHeld
          refine hK.out _ _ (HOC.out Y BLY.out).1 (fun hHeld => ?_)
          clear hK K
          try simp only [Act.put, List.setIfInBounds_toArray, List.set_cons_zero, List.set_cons_succ]
          refine wpAnyH_ready (rs := [7]) (by kernel_rfl) (by simp) ?_
          refine AllReadyH.cons (by simp only [List.getElem?_toArray, List.getElem?_cons_succ, List.getElem?_cons_zero]; rfl) (fun K hK => ?_) AllReadyH.nil
          go_simp
          go_at_call 8
          refine (P8.out _ TY.out).mono ?_
          rintro e w7 ⟨da, dn, dc, na, nn, nc, rfl, h71, ⟨D2, h72, h73, h74, h75⟩, h76, h77⟩
          have BL7 : Hid (Below lo wl w7) := (HB0.out.trans (HBW.out.trans (TY.out.below RM.out (by simp)))).trans h77
          have TD := hid h71
          have M7 := hid h72
          have P7 := hid h73
          have D7 := hid h74
          have F7 := hid h75
          have T7 := hid h76
          clear h71 h72 h73 h74 h75 h76 h77
          clear hHeld
          refine hK.out _ _ (HOC.out _ BL7.out).1 (fun hHeld => ?_)
          clear hK K
          try simp only [Act.put, List.setIfInBounds_toArray, List.set_cons_zero, List.set_cons_succ]
          refine wpAnyH_take (i := 8) (v := ?_) (by simp only [List.getElem?_toArray, List.getElem?_cons_succ, List.getElem?_cons_zero]; rfl) (by kernel_rfl) (by kernel_rfl) (by kernel_rfl) (fun _ _ _ h => h) (Or.inl ⟨by rfl, ?_⟩) (by assumption) ?_
          rotate_left 1
          · intro w hSw; (try dsimp only at hSw); go_simp; (try with_reducible rfl)
          try simp only [Act.put, List.setIfInBounds_toArray, List.set_cons_zero, List.set_cons_succ]
          refine wpAnyH_take (i := 9) (v := ?_) (by simp only [List.getElem?_toArray, List.getElem?_cons_succ, List.getElem?_cons_zero]; rfl) (by kernel_rfl) (by kernel_rfl) (by kernel_rfl) (fun _ _ _ h => h) (Or.inl ⟨by rfl, ?_⟩) (by assumption) ?_
          rotate_left 1
          · intro w hSw; (try dsimp only at hSw); go_simp; (try with_reducible rfl)
          try simp only [Act.put, List.setIfInBounds_toArray, List.set_cons_zero, List.set_cons_succ]
          refine wpAnyH_take (i := 10) (v := ?_) (by simp only [List.getElem?_toArray, List.getElem?_cons_succ, List.getElem?_cons_zero]; rfl) (by kernel_rfl) (by kernel_rfl) (by kernel_rfl) (fun _ _ _ h => h) (Or.inl ⟨by rfl, ?_⟩) (by assumption) ?_
          rotate_left 1
          · intro w hSw; (try dsimp only at hSw); go_simp; (try with_reducible rfl)
          try simp only [Act.put, List.setIfInBounds_toArray, List.set_cons_zero, List.set_cons_succ]
          have R7 := hid (kept_row RY.out T7.out (fun hm => by have h1 := FT.out _ hm; have h2 := T5.out.size; omega))
          have zc := fun j => cell_row R7.out j
          have zf := fun j => unfrozen_row R7.out j
          refine wpAnyH_ready (rs := [12]) (by kernel_rfl) (by simp) ?_
          refine AllReadyH.cons (by simp only [List.getElem?_toArray, List.getElem?_cons_succ, List.getElem?_cons_zero]; rfl) (fun K hK => ?_) AllReadyH.nil
          go_simp
          obtain ⟨W8, hW8, q8, t8⟩ := prog_end R7.out T.e T.n T.shut (.slice da dn dc) (.slice na nn nc) T.c
          rw [← hW8]
          clear hW8 zc zf
          have zW : W.heap.size ≤ w5.heap.size := T5.out.size
          have z7 : Y.heap.size ≤ w7.heap.size := T7.out.size
          have zy := ZY.out
          have hg7 : w5.heap.size ∉ D2.foot p mf mt := fun hm => by have := F7.out _ hm; omega
          have t78 : Touch [w5.heap.size] w7 W8 := t8
          have hgR : w5.heap.size ∉ R'.foot := fun hm => by have := FR.out _ hm; omega
          have hglo : lo ≤ w5.heap.size := by have := RM.out; omega
          have M8 : Hid (Md W8 E lo p mf mt (t0 + i) D2 R') := M7.out.touchF t78 (by simp; exact ⟨hg7, hgR, hglo⟩)
          have TD8 := hid (TD.out.touchG t78 (fun b hb => by simp at hb; subst hb; exact .inl (by omega)))
          have BL8 : Hid (Below lo wl W8) := BL7.out.trans (t78.below (by have := RM.out; omega) (by simp; exact hglo))
          have BW8 : Hid (W.heap.size ≤ W8.heap.size) := by have := t78.size; show _ ≤ _; omega
          have HGR := hid hgR
          have G8 : W8.cell? ⟨w5.heap.size, 0, none⟩ = some (.int .i64 T.e) ∧ W8.cell? ⟨w5.heap.size, 1, none⟩ = some (.int .i64 T.n) ∧ W8.cell? ⟨w5.heap.size, 2, none⟩ = some (.bool T.shut) ∧ W8.cell? ⟨w5.heap.size, 3, none⟩ = some (.slice da dn dc) ∧ W8.cell? ⟨w5.heap.size, 4, none⟩ = some (.slice na nn nc) ∧ W8.cell? ⟨w5.heap.size, 5, none⟩ = some (.int .i64 T.c.calls) ∧ W8.cell? ⟨w5.heap.size, 6, none⟩ = some (.int .i64 T.c.reads) ∧ W8.cell? ⟨w5.heap.size, 7, none⟩ = some (.int .i64 T.c.appends) ∧ W8.cell? ⟨w5.heap.size, 8, none⟩ = some (.int .i64 T.c.faults) ∧ W8.cell? ⟨w5.heap.size, 9, none⟩ = some (.int .i64 T.c.full) ∧ W8.cell? ⟨w5.heap.size, 10, none⟩ = some (.int .i64 T.c.used) ∧ W8.cell? ⟨w5.heap.size, 11, none⟩ = some (.int .i64 T.c.most) := ⟨by rw [q8]; rfl, by rw [q8]; rfl, by rw [q8]; rfl, by rw [q8]; rfl, by rw [q8]; rfl, by rw [q8]; rfl, by rw [q8]; rfl, by rw [q8]; rfl, by rw [q8]; rfl, by rw [q8]; rfl, by rw [q8]; rfl, by rw [q8]; rfl⟩
          have L8 : Hid (w5.heap.size < W8.heap.size) := World.block_lt_of_cell? W8 _ G8.1
          clear q8 t8 t78 hg7 hgR hglo z7 zW zy
          clear hHeld
          refine hK.out _ _ (HOC.out W8 BL8.out).1 (fun hHeld => ?_)
          clear hK K
          try simp only [Act.put, List.setIfInBounds_toArray, List.set_cons_zero, List.set_cons_succ]
          refine wpAnyH_take (i := 13) (v := ?_) (by simp only [List.getElem?_toArray, List.getElem?_cons_succ, List.getElem?_cons_zero]; rfl) (by kernel_rfl) (by kernel_rfl) (by kernel_rfl) (fun _ _ _ h => h) (Or.inl ⟨by rfl, ?_⟩) (by assumption) ?_
          rotate_left 1
          · intro w hSw; (try dsimp only at hSw); go_simp; (try with_reducible rfl)
          try simp only [Act.put, List.setIfInBounds_toArray, List.set_cons_zero, List.set_cons_succ]
          refine wpAnyH_done (by kernel_rfl) ?_ _
          refine NoPanic.normal ?_
          go_wp2_with fail
          refine wp_region_noPanic ?_
          refine wp_region_held_drew (S := fun V => (V.cell? ⟨w5.heap.size, 0, none⟩ = some (.int .i64 T.e) ∧ V.cell? ⟨w5.heap.size, 1, none⟩ = some (.int .i64 T.n) ∧ V.cell? ⟨w5.heap.size, 2, none⟩ = some (.bool T.shut) ∧ V.cell? ⟨w5.heap.size, 3, none⟩ = some (.slice da dn dc) ∧ V.cell? ⟨w5.heap.size, 4, none⟩ = some (.slice na nn nc) ∧ V.cell? ⟨w5.heap.size, 5, none⟩ = some (.int .i64 T.c.calls) ∧ V.cell? ⟨w5.heap.size, 6, none⟩ = some (.int .i64 T.c.reads) ∧ V.cell? ⟨w5.heap.size, 7, none⟩ = some (.int .i64 T.c.appends) ∧ V.cell? ⟨w5.heap.size, 8, none⟩ = some (.int .i64 T.c.faults) ∧ V.cell? ⟨w5.heap.size, 9, none⟩ = some (.int .i64 T.c.full) ∧ V.cell? ⟨w5.heap.size, 10, none⟩ = some (.int .i64 T.c.used) ∧ V.cell? ⟨w5.heap.size, 11, none⟩ = some (.int .i64 T.c.most)) ∧ V.cell? (a.add (i * 5)) = some (.int .i64 o.kind) ∧ V.cell? ⟨(a.add (i * 5)).block, (a.add (i * 5)).off + 1, none⟩ = some (.string o.name) ∧ V.cell? ⟨(a.add (i * 5)).block, (a.add (i * 5)).off + 2, none⟩ = some (.int .i64 o.N) ∧ V.cell? ⟨(a.add (i * 5)).block, (a.add (i * 5)).off + 3, none⟩ = some (.int .i64 o.bit) ∧ V.cell? ⟨(a.add (i * 5)).block, (a.add (i * 5)).off + 4, none⟩ = some (.slice sb m c)) (by kernel_rfl) ⟨G8, (HOC.out W8 BL8.out).1⟩ (fun hHeld => ?_)
          refine wpAnyH_take (i := 0) (v := ?_) (by simp only [List.getElem?_toArray, List.getElem?_cons_zero]; rfl) (by kernel_rfl) (by kernel_rfl) (by kernel_rfl) (fun _ _ _ h => h) (Or.inl ⟨by rfl, ?_⟩) (by assumption) ?_
          rotate_left 1
          · intro w hSw; (try dsimp only at hSw); go_simp; (try with_reducible rfl)
          try simp only [Act.put, List.setIfInBounds_toArray, List.set_cons_zero, List.set_cons_succ]
          refine wpAnyH_take (i := 1) (v := .bool false) (by simp only [List.getElem?_toArray, List.getElem?_cons_succ, List.getElem?_cons_zero]; rfl) (by kernel_rfl) (by kernel_rfl) (by kernel_rfl) (fun _ _ _ h => h) (Or.inl ⟨by rfl, ?_⟩) (by assumption) ?_
          · intro w hSw; (try dsimp only at hSw); (try go_simp); (first | done | (with_reducible rfl) | omega | (simp; omega))
          try simp only [Act.put, List.setIfInBounds_toArray, List.set_cons_zero, List.set_cons_succ]
          refine wpAnyH_take (i := 2) (v := ?_) (by simp only [List.getElem?_toArray, List.getElem?_cons_succ, List.getElem?_cons_zero]; rfl) (by kernel_rfl) (by kernel_rfl) (by kernel_rfl) (fun _ _ _ h => h) (Or.inl ⟨by rfl, ?_⟩) (by assumption) ?_
          rotate_left 1
          · intro w hSw; (try dsimp only at hSw); go_simp; (try with_reducible rfl)
          try simp only [Act.put, List.setIfInBounds_toArray, List.set_cons_zero, List.set_cons_succ]
          refine wpAnyH_take (i := 3) (v := ?_) (by simp only [List.getElem?_toArray, List.getElem?_cons_succ, List.getElem?_cons_zero]; rfl) (by kernel_rfl) (by kernel_rfl) (by kernel_rfl) (fun _ _ _ h => h) (Or.inl ⟨by rfl, ?_⟩) (by assumption) ?_
          rotate_left 1
          · intro w hSw; (try dsimp only at hSw); go_simp; (try with_reducible rfl)
          try simp only [Act.put, List.setIfInBounds_toArray, List.set_cons_zero, List.set_cons_succ]
          refine wpAnyH_take (i := 4) (v := ?_) (by simp only [List.getElem?_toArray, List.getElem?_cons_succ, List.getElem?_cons_zero]; rfl) (by kernel_rfl) (by kernel_rfl) (by kernel_rfl) (fun _ _ _ h => h) (Or.inl ⟨by rfl, ?_⟩) (by assumption) ?_
          rotate_left 1
          · intro w hSw; (try dsimp only at hSw); go_simp; (try with_reducible rfl)
          try simp only [Act.put, List.setIfInBounds_toArray, List.set_cons_zero, List.set_cons_succ]
          refine wpAnyH_take (i := 5) (v := ?_) (by simp only [List.getElem?_toArray, List.getElem?_cons_succ, List.getElem?_cons_zero]; rfl) (by kernel_rfl) (by kernel_rfl) (by kernel_rfl) (fun _ _ _ h => h) (Or.inl ⟨by rfl, ?_⟩) (by assumption) ?_
          rotate_left 1
          · intro w hSw; (try dsimp only at hSw); go_simp; (try with_reducible rfl)
          try simp only [Act.put, List.setIfInBounds_toArray, List.set_cons_zero, List.set_cons_succ]
          refine wpAnyH_take (i := 6) (v := ?_) (by simp only [List.getElem?_toArray, List.getElem?_cons_succ, List.getElem?_cons_zero]; rfl) (by kernel_rfl) (by kernel_rfl) (by kernel_rfl) (fun _ _ _ h => h) (Or.inl ⟨by rfl, ?_⟩) (by assumption) ?_
          rotate_left 1
          · intro w hSw; (try dsimp only at hSw); go_simp; (try with_reducible rfl)
          try simp only [Act.put, List.setIfInBounds_toArray, List.set_cons_zero, List.set_cons_succ]
          refine wpAnyH_take (i := 7) (v := ?_) (by simp only [List.getElem?_toArray, List.getElem?_cons_succ, List.getElem?_cons_zero]; rfl) (by kernel_rfl) (by kernel_rfl) (by kernel_rfl) (fun _ _ _ h => h) (Or.inl ⟨by rfl, ?_⟩) (by assumption) ?_
          rotate_left 1
          · intro w hSw; (try dsimp only at hSw); go_simp; (try with_reducible rfl)
          try simp only [Act.put, List.setIfInBounds_toArray, List.set_cons_zero, List.set_cons_succ]
          refine wpAnyH_take (i := 8) (v := ?_) (by simp only [List.getElem?_toArray, List.getElem?_cons_succ, List.getElem?_cons_zero]; rfl) (by kernel_rfl) (by kernel_rfl) (by kernel_rfl) (fun _ _ _ h => h) (Or.inl ⟨by rfl, ?_⟩) (by assumption) ?_
          rotate_left 1
          · intro w hSw; (try dsimp only at hSw); go_simp; (try with_reducible rfl)
          try simp only [Act.put, List.setIfInBounds_toArray, List.set_cons_zero, List.set_cons_succ]
          refine wpAnyH_ready (rs := [9]) (by kernel_rfl) (by simp) ?_
          refine AllReadyH.cons (by simp only [List.getElem?_toArray, List.getElem?_cons_succ, List.getElem?_cons_zero]; rfl) (fun K hK => ?_) AllReadyH.nil
          go_simp
          go_at_call 55
          refine (D55.out _ D2 (M8.out.touch (Touch.refl [] W8).drew) P7.out BL8.out.drew).mono ?_
          rintro e w9 ⟨da2, dn2, dc2, na2, nn2, nc2, rfl, h91, ⟨R2, h92, h93⟩, h94, h95⟩
          have CC : ∀ (j : Nat) v, W8.cell? ⟨w5.heap.size, j, none⟩ = some v → w9.cell? ⟨w5.heap.size, j, none⟩ = some v := fun j v hv => (h94.cell (p := ⟨w5.heap.size, j, none⟩) L8.out HGR.out).trans hv
          have TD9 := hid (TD8.out.touchG ((Touch.refl R'.foot W8).drew.trans h94 (fun b hb => .inl hb)) (fun b hb => .inl (by have h1 := FR.out b hb; have h2 := T5.out.size; have h3 := ZY.out; omega)))
          have BL9 : Hid (Below lo wl w9) := BL8.out.drew.trans h95
          have Z9 : Hid (W8.heap.size ≤ w9.heap.size) := h94.size
          have TD2 := hid h91
          have PL9 := hid h92
          have HP9 := hid h93
          have G9 : w9.cell? ⟨w5.heap.size, 0, none⟩ = some (.int .i64 T.e) ∧ w9.cell? ⟨w5.heap.size, 1, none⟩ = some (.int .i64 T.n) ∧ w9.cell? ⟨w5.heap.size, 2, none⟩ = some (.bool T.shut) ∧ w9.cell? ⟨w5.heap.size, 3, none⟩ = some (.slice da dn dc) ∧ w9.cell? ⟨w5.heap.size, 4, none⟩ = some (.slice na nn nc) ∧ w9.cell? ⟨w5.heap.size, 5, none⟩ = some (.int .i64 T.c.calls) ∧ w9.cell? ⟨w5.heap.size, 6, none⟩ = some (.int .i64 T.c.reads) ∧ w9.cell? ⟨w5.heap.size, 7, none⟩ = some (.int .i64 T.c.appends) ∧ w9.cell? ⟨w5.heap.size, 8, none⟩ = some (.int .i64 T.c.faults) ∧ w9.cell? ⟨w5.heap.size, 9, none⟩ = some (.int .i64 T.c.full) ∧ w9.cell? ⟨w5.heap.size, 10, none⟩ = some (.int .i64 T.c.used) ∧ w9.cell? ⟨w5.heap.size, 11, none⟩ = some (.int .i64 T.c.most) := ⟨CC _ _ G8.1, CC _ _ G8.2.1, CC _ _ G8.2.2.1, CC _ _ G8.2.2.2.1, CC _ _ G8.2.2.2.2.1, CC _ _ G8.2.2.2.2.2.1, CC _ _ G8.2.2.2.2.2.2.1, CC _ _ G8.2.2.2.2.2.2.2.1, CC _ _ G8.2.2.2.2.2.2.2.2.1, CC _ _ G8.2.2.2.2.2.2.2.2.2.1, CC _ _ G8.2.2.2.2.2.2.2.2.2.2.1, CC _ _ G8.2.2.2.2.2.2.2.2.2.2.2⟩
          clear h91 h92 h93 h94 h95 CC
          clear hHeld
          refine hK.out _ _ ⟨G9, (HOC.out w9 BL9.out).1⟩ (fun hHeld => ?_)
          clear hK K
          try simp only [Act.put, List.setIfInBounds_toArray, List.set_cons_zero, List.set_cons_succ]
          refine wpAnyH_ready (rs := [10]) (by kernel_rfl) (by simp) ?_
          refine AllReadyH.cons (by simp only [List.getElem?_toArray, List.getElem?_cons_succ, List.getElem?_cons_zero]; rfl) (fun K hK => ?_) AllReadyH.nil
          go_simp
          go_at_call 42
          refine (C42.out _ _ _ _ _ _ _ _ _ _ _ _ _ _ _ TD9.out TD2.out).mono ?_
          rintro e w10 ⟨rfl, t10⟩
          have CC2 : ∀ (j : Nat) v, w9.cell? ⟨w5.heap.size, j, none⟩ = some v → w10.cell? ⟨w5.heap.size, j, none⟩ = some v := fun j v hv => (t10.cell (World.block_lt_of_cell? w9 _ hv) (by simp)).trans hv
          have G10 : w10.cell? ⟨w5.heap.size, 0, none⟩ = some (.int .i64 T.e) ∧ w10.cell? ⟨w5.heap.size, 1, none⟩ = some (.int .i64 T.n) ∧ w10.cell? ⟨w5.heap.size, 2, none⟩ = some (.bool T.shut) ∧ w10.cell? ⟨w5.heap.size, 3, none⟩ = some (.slice da dn dc) ∧ w10.cell? ⟨w5.heap.size, 4, none⟩ = some (.slice na nn nc) ∧ w10.cell? ⟨w5.heap.size, 5, none⟩ = some (.int .i64 T.c.calls) ∧ w10.cell? ⟨w5.heap.size, 6, none⟩ = some (.int .i64 T.c.reads) ∧ w10.cell? ⟨w5.heap.size, 7, none⟩ = some (.int .i64 T.c.appends) ∧ w10.cell? ⟨w5.heap.size, 8, none⟩ = some (.int .i64 T.c.faults) ∧ w10.cell? ⟨w5.heap.size, 9, none⟩ = some (.int .i64 T.c.full) ∧ w10.cell? ⟨w5.heap.size, 10, none⟩ = some (.int .i64 T.c.used) ∧ w10.cell? ⟨w5.heap.size, 11, none⟩ = some (.int .i64 T.c.most) := ⟨CC2 _ _ G9.1, CC2 _ _ G9.2.1, CC2 _ _ G9.2.2.1, CC2 _ _ G9.2.2.2.1, CC2 _ _ G9.2.2.2.2.1, CC2 _ _ G9.2.2.2.2.2.1, CC2 _ _ G9.2.2.2.2.2.2.1, CC2 _ _ G9.2.2.2.2.2.2.2.1, CC2 _ _ G9.2.2.2.2.2.2.2.2.1, CC2 _ _ G9.2.2.2.2.2.2.2.2.2.1, CC2 _ _ G9.2.2.2.2.2.2.2.2.2.2.1, CC2 _ _ G9.2.2.2.2.2.2.2.2.2.2.2⟩
          have BL10 : Hid (Below lo wl w10) := BL9.out.trans (t10.below PL9.out.env.room (by simp))
          have T10 := hid t10
          clear t10 CC2
          clear hHeld
          refine hK.out _ _ ⟨G10, (HOC.out w10 BL10.out).1⟩ (fun hHeld => ?_)
          clear hK K
          try simp only [Act.put, List.setIfInBounds_toArray, List.set_cons_zero, List.set_cons_succ]
          refine wpAnyH_take (i := 11) (v := .bool false) (by simp only [List.getElem?_toArray, List.getElem?_cons_succ, List.getElem?_cons_zero]; rfl) (by kernel_rfl) (by kernel_rfl) (by kernel_rfl) (fun _ _ _ h => h) (Or.inl ⟨by rfl, ?_⟩) (by assumption) ?_
          · intro w hSw; (try dsimp only at hSw); (try go_simp); (first | done | (with_reducible rfl) | omega | (simp; omega))
          try simp only [Act.put, List.setIfInBounds_toArray, List.set_cons_zero, List.set_cons_succ]
          refine wpAnyH_take (i := 12) (v := ?_) (by simp only [List.getElem?_toArray, List.getElem?_cons_succ, List.getElem?_cons_zero]; rfl) (by kernel_rfl) (by kernel_rfl) (by kernel_rfl) (fun _ _ _ h => h) (Or.inl ⟨by rfl, ?_⟩) (by assumption) ?_
          rotate_left 1
          · intro w hSw; (try dsimp only at hSw); go_simp; (try with_reducible rfl)
          try simp only [Act.put, List.setIfInBounds_toArray, List.set_cons_zero, List.set_cons_succ]
          refine wpAnyH_done (by kernel_rfl) ?_ _
          refine NoPanic.normal ?_
          go_wp2
          refine ⟨⟨i + 1, D2, R2, by simp, by omega, PL9.out.touch T10.out, HP9.out, D7.out, ?_⟩, by simp; omega⟩
          refine ⟨BL10.out.os.trans HB0.out.os.symm, BL10.out.tape.trans HB0.out.tape.symm, BL10.out.output.trans HB0.out.output.symm, ?_, fun b hb => (BL10.out.block b hb).trans (HB0.out.block b hb).symm⟩
          exact Nat.le_trans HBW.out.size (Nat.le_trans BW8.out (Nat.le_trans Z9.out T10.out.size))
      · go_simp
        obtain ⟨Y, hY⟩ : ∃ Y, Y = (w5.alloc (.cells #[.int .i64 0, .int .i64 0, .bool false, .slice none 0 0, .slice none 0 0, .int .i64 0, .int .i64 0, .int .i64 0, .int .i64 0, .int .i64 0, .int .i64 0, .int .i64 0] 36)).drew := ⟨_, rfl⟩
        have TY : Hid (Touch [] W Y) := by rw [hY]; exact (T5.out.alloc _).drew
        have RY : Hid (Y.heap[w5.heap.size]? = some (.cells #[.int .i64 0, .int .i64 0, .bool false, .slice none 0 0, .slice none 0 0, .int .i64 0, .int .i64 0, .int .i64 0, .int .i64 0, .int .i64 0, .int .i64 0, .int .i64 0] 36 (0, 0))) := by rw [hY]; exact heap_alloc_new w5 _
        have ZY : Hid (Y.heap.size = w5.heap.size + 1) := by rw [hY]; show _ = _; simp
        rw [← hY]
        clear hY
        have BLY : Hid (Below lo wl Y) := HB0.out.trans (HBW.out.trans (TY.out.below RM.out (by simp)))
        clear hHeld
        refine hK.out _ _ (HOC.out Y BLY.out).1 (fun hHeld => ?_)
        clear hK K
        try simp only [Act.put, List.setIfInBounds_toArray, List.set_cons_zero, List.set_cons_succ]
        refine wpAnyH_ready (rs := [6]) (by kernel_rfl) (by simp) ?_
        refine AllReadyH.cons (by simp only [List.getElem?_toArray, List.getElem?_cons_succ, List.getElem?_cons_zero]; rfl) (fun K hK => ?_) AllReadyH.nil
        go_simp
        go_at_call 47
        refine (C47.out _ TY.out).mono ?_
        rintro e w6 ⟨rfl, hw6⟩
        rw [hw6]
        clear hw6 w6
        clear hHeld
        refine hK.out _ _ (HOC.out Y BLY.out).1 (fun hHeld => ?_)
        clear hK K
        try simp only [Act.put, List.setIfInBounds_toArray, List.set_cons_zero, List.set_cons_succ]
        refine wpAnyH_ready (rs := [7]) (by kernel_rfl) (by simp) ?_
        refine AllReadyH.cons (by simp only [List.getElem?_toArray, List.getElem?_cons_succ, List.getElem?_cons_zero]; rfl) (fun K hK => ?_) AllReadyH.nil
        go_simp
        go_at_call 8
        refine (P8.out _ TY.out).mono ?_
        rintro e w7 ⟨da, dn, dc, na, nn, nc, rfl, h71, ⟨D2, h72, h73, h74, h75⟩, h76, h77⟩
        have BL7 : Hid (Below lo wl w7) := (HB0.out.trans (HBW.out.trans (TY.out.below RM.out (by simp)))).trans h77
        have TD := hid h71
        have M7 := hid h72
        have P7 := hid h73
        have D7 := hid h74
        have F7 := hid h75
        have T7 := hid h76
        clear h71 h72 h73 h74 h75 h76 h77
        clear hHeld
        refine hK.out _ _ (HOC.out _ BL7.out).1 (fun hHeld => ?_)
        clear hK K
        try simp only [Act.put, List.setIfInBounds_toArray, List.set_cons_zero, List.set_cons_succ]
        refine wpAnyH_take (i := 8) (v := ?_) (by simp only [List.getElem?_toArray, List.getElem?_cons_succ, List.getElem?_cons_zero]; rfl) (by kernel_rfl) (by kernel_rfl) (by kernel_rfl) (fun _ _ _ h => h) (Or.inl ⟨by rfl, ?_⟩) (by assumption) ?_
        rotate_left 1
        · intro w hSw; (try dsimp only at hSw); go_simp; (try with_reducible rfl)
        try simp only [Act.put, List.setIfInBounds_toArray, List.set_cons_zero, List.set_cons_succ]
        refine wpAnyH_take (i := 9) (v := ?_) (by simp only [List.getElem?_toArray, List.getElem?_cons_succ, List.getElem?_cons_zero]; rfl) (by kernel_rfl) (by kernel_rfl) (by kernel_rfl) (fun _ _ _ h => h) (Or.inl ⟨by rfl, ?_⟩) (by assumption) ?_
        rotate_left 1
        · intro w hSw; (try dsimp only at hSw); go_simp; (try with_reducible rfl)
        try simp only [Act.put, List.setIfInBounds_toArray, List.set_cons_zero, List.set_cons_succ]
        refine wpAnyH_take (i := 10) (v := ?_) (by simp only [List.getElem?_toArray, List.getElem?_cons_succ, List.getElem?_cons_zero]; rfl) (by kernel_rfl) (by kernel_rfl) (by kernel_rfl) (fun _ _ _ h => h) (Or.inl ⟨by rfl, ?_⟩) (by assumption) ?_
        rotate_left 1
        · intro w hSw; (try dsimp only at hSw); go_simp; (try with_reducible rfl)
        try simp only [Act.put, List.setIfInBounds_toArray, List.set_cons_zero, List.set_cons_succ]
        have R7 := hid (kept_row RY.out T7.out (fun hm => by have h1 := FT.out _ hm; have h2 := T5.out.size; omega))
        have zc := fun j => cell_row R7.out j
        have zf := fun j => unfrozen_row R7.out j
        refine wpAnyH_ready (rs := [12]) (by kernel_rfl) (by simp) ?_
        refine AllReadyH.cons (by simp only [List.getElem?_toArray, List.getElem?_cons_succ, List.getElem?_cons_zero]; rfl) (fun K hK => ?_) AllReadyH.nil
        go_simp
        obtain ⟨W8, hW8, q8, t8⟩ := prog_end R7.out T.e T.n T.shut (.slice da dn dc) (.slice na nn nc) T.c
        rw [← hW8]
        clear hW8 zc zf
        have zW : W.heap.size ≤ w5.heap.size := T5.out.size
        have z7 : Y.heap.size ≤ w7.heap.size := T7.out.size
        have zy := ZY.out
        have hg7 : w5.heap.size ∉ D2.foot p mf mt := fun hm => by have := F7.out _ hm; omega
        have t78 : Touch [w5.heap.size] w7 W8 := t8
        have hgR : w5.heap.size ∉ R'.foot := fun hm => by have := FR.out _ hm; omega
        have hglo : lo ≤ w5.heap.size := by have := RM.out; omega
        have M8 : Hid (Md W8 E lo p mf mt (t0 + i) D2 R') := M7.out.touchF t78 (by simp; exact ⟨hg7, hgR, hglo⟩)
        have TD8 := hid (TD.out.touchG t78 (fun b hb => by simp at hb; subst hb; exact .inl (by omega)))
        have BL8 : Hid (Below lo wl W8) := BL7.out.trans (t78.below (by have := RM.out; omega) (by simp; exact hglo))
        have BW8 : Hid (W.heap.size ≤ W8.heap.size) := by have := t78.size; show _ ≤ _; omega
        have HGR := hid hgR
        have G8 : W8.cell? ⟨w5.heap.size, 0, none⟩ = some (.int .i64 T.e) ∧ W8.cell? ⟨w5.heap.size, 1, none⟩ = some (.int .i64 T.n) ∧ W8.cell? ⟨w5.heap.size, 2, none⟩ = some (.bool T.shut) ∧ W8.cell? ⟨w5.heap.size, 3, none⟩ = some (.slice da dn dc) ∧ W8.cell? ⟨w5.heap.size, 4, none⟩ = some (.slice na nn nc) ∧ W8.cell? ⟨w5.heap.size, 5, none⟩ = some (.int .i64 T.c.calls) ∧ W8.cell? ⟨w5.heap.size, 6, none⟩ = some (.int .i64 T.c.reads) ∧ W8.cell? ⟨w5.heap.size, 7, none⟩ = some (.int .i64 T.c.appends) ∧ W8.cell? ⟨w5.heap.size, 8, none⟩ = some (.int .i64 T.c.faults) ∧ W8.cell? ⟨w5.heap.size, 9, none⟩ = some (.int .i64 T.c.full) ∧ W8.cell? ⟨w5.heap.size, 10, none⟩ = some (.int .i64 T.c.used) ∧ W8.cell? ⟨w5.heap.size, 11, none⟩ = some (.int .i64 T.c.most) := ⟨by rw [q8]; rfl, by rw [q8]; rfl, by rw [q8]; rfl, by rw [q8]; rfl, by rw [q8]; rfl, by rw [q8]; rfl, by rw [q8]; rfl, by rw [q8]; rfl, by rw [q8]; rfl, by rw [q8]; rfl, by rw [q8]; rfl, by rw [q8]; rfl⟩
        have L8 : Hid (w5.heap.size < W8.heap.size) := World.block_lt_of_cell? W8 _ G8.1
        clear q8 t8 t78 hg7 hgR hglo z7 zW zy
        clear hHeld
        refine hK.out _ _ (HOC.out W8 BL8.out).1 (fun hHeld => ?_)
        clear hK K
        try simp only [Act.put, List.setIfInBounds_toArray, List.set_cons_zero, List.set_cons_succ]
        refine wpAnyH_take (i := 13) (v := ?_) (by simp only [List.getElem?_toArray, List.getElem?_cons_succ, List.getElem?_cons_zero]; rfl) (by kernel_rfl) (by kernel_rfl) (by kernel_rfl) (fun _ _ _ h => h) (Or.inl ⟨by rfl, ?_⟩) (by assumption) ?_
        rotate_left 1
        · intro w hSw; (try dsimp only at hSw); go_simp; (try with_reducible rfl)
        try simp only [Act.put, List.setIfInBounds_toArray, List.set_cons_zero, List.set_cons_succ]
        refine wpAnyH_done (by kernel_rfl) ?_ _
        refine NoPanic.normal ?_
        go_wp2_with fail
        refine wp_region_noPanic ?_
        refine wp_region_held_drew (S := fun V => (V.cell? ⟨w5.heap.size, 0, none⟩ = some (.int .i64 T.e) ∧ V.cell? ⟨w5.heap.size, 1, none⟩ = some (.int .i64 T.n) ∧ V.cell? ⟨w5.heap.size, 2, none⟩ = some (.bool T.shut) ∧ V.cell? ⟨w5.heap.size, 3, none⟩ = some (.slice da dn dc) ∧ V.cell? ⟨w5.heap.size, 4, none⟩ = some (.slice na nn nc) ∧ V.cell? ⟨w5.heap.size, 5, none⟩ = some (.int .i64 T.c.calls) ∧ V.cell? ⟨w5.heap.size, 6, none⟩ = some (.int .i64 T.c.reads) ∧ V.cell? ⟨w5.heap.size, 7, none⟩ = some (.int .i64 T.c.appends) ∧ V.cell? ⟨w5.heap.size, 8, none⟩ = some (.int .i64 T.c.faults) ∧ V.cell? ⟨w5.heap.size, 9, none⟩ = some (.int .i64 T.c.full) ∧ V.cell? ⟨w5.heap.size, 10, none⟩ = some (.int .i64 T.c.used) ∧ V.cell? ⟨w5.heap.size, 11, none⟩ = some (.int .i64 T.c.most)) ∧ V.cell? (a.add (i * 5)) = some (.int .i64 o.kind) ∧ V.cell? ⟨(a.add (i * 5)).block, (a.add (i * 5)).off + 1, none⟩ = some (.string o.name) ∧ V.cell? ⟨(a.add (i * 5)).block, (a.add (i * 5)).off + 2, none⟩ = some (.int .i64 o.N) ∧ V.cell? ⟨(a.add (i * 5)).block, (a.add (i * 5)).off + 3, none⟩ = some (.int .i64 o.bit) ∧ V.cell? ⟨(a.add (i * 5)).block, (a.add (i * 5)).off + 4, none⟩ = some (.slice sb m c)) (by kernel_rfl) ⟨G8, (HOC.out W8 BL8.out).1⟩ (fun hHeld => ?_)
        refine wpAnyH_take (i := 0) (v := ?_) (by simp only [List.getElem?_toArray, List.getElem?_cons_zero]; rfl) (by kernel_rfl) (by kernel_rfl) (by kernel_rfl) (fun _ _ _ h => h) (Or.inl ⟨by rfl, ?_⟩) (by assumption) ?_
        rotate_left 1
        · intro w hSw; (try dsimp only at hSw); go_simp; (try with_reducible rfl)
        try simp only [Act.put, List.setIfInBounds_toArray, List.set_cons_zero, List.set_cons_succ]
        refine wpAnyH_take (i := 1) (v := .bool false) (by simp only [List.getElem?_toArray, List.getElem?_cons_succ, List.getElem?_cons_zero]; rfl) (by kernel_rfl) (by kernel_rfl) (by kernel_rfl) (fun _ _ _ h => h) (Or.inl ⟨by rfl, ?_⟩) (by assumption) ?_
        · intro w hSw; (try dsimp only at hSw); (try go_simp); (first | done | (with_reducible rfl) | omega | (simp; omega))
        try simp only [Act.put, List.setIfInBounds_toArray, List.set_cons_zero, List.set_cons_succ]
        refine wpAnyH_take (i := 2) (v := ?_) (by simp only [List.getElem?_toArray, List.getElem?_cons_succ, List.getElem?_cons_zero]; rfl) (by kernel_rfl) (by kernel_rfl) (by kernel_rfl) (fun _ _ _ h => h) (Or.inl ⟨by rfl, ?_⟩) (by assumption) ?_
        rotate_left 1
        · intro w hSw; (try dsimp only at hSw); go_simp; (try with_reducible rfl)
        try simp only [Act.put, List.setIfInBounds_toArray, List.set_cons_zero, List.set_cons_succ]
        refine wpAnyH_take (i := 3) (v := ?_) (by simp only [List.getElem?_toArray, List.getElem?_cons_succ, List.getElem?_cons_zero]; rfl) (by kernel_rfl) (by kernel_rfl) (by kernel_rfl) (fun _ _ _ h => h) (Or.inl ⟨by rfl, ?_⟩) (by assumption) ?_
        rotate_left 1
        · intro w hSw; (try dsimp only at hSw); go_simp; (try with_reducible rfl)
        try simp only [Act.put, List.setIfInBounds_toArray, List.set_cons_zero, List.set_cons_succ]
        refine wpAnyH_take (i := 4) (v := ?_) (by simp only [List.getElem?_toArray, List.getElem?_cons_succ, List.getElem?_cons_zero]; rfl) (by kernel_rfl) (by kernel_rfl) (by kernel_rfl) (fun _ _ _ h => h) (Or.inl ⟨by rfl, ?_⟩) (by assumption) ?_
        rotate_left 1
        · intro w hSw; (try dsimp only at hSw); go_simp; (try with_reducible rfl)
        try simp only [Act.put, List.setIfInBounds_toArray, List.set_cons_zero, List.set_cons_succ]
        refine wpAnyH_take (i := 5) (v := ?_) (by simp only [List.getElem?_toArray, List.getElem?_cons_succ, List.getElem?_cons_zero]; rfl) (by kernel_rfl) (by kernel_rfl) (by kernel_rfl) (fun _ _ _ h => h) (Or.inl ⟨by rfl, ?_⟩) (by assumption) ?_
        rotate_left 1
        · intro w hSw; (try dsimp only at hSw); go_simp; (try with_reducible rfl)
        try simp only [Act.put, List.setIfInBounds_toArray, List.set_cons_zero, List.set_cons_succ]
        refine wpAnyH_take (i := 6) (v := ?_) (by simp only [List.getElem?_toArray, List.getElem?_cons_succ, List.getElem?_cons_zero]; rfl) (by kernel_rfl) (by kernel_rfl) (by kernel_rfl) (fun _ _ _ h => h) (Or.inl ⟨by rfl, ?_⟩) (by assumption) ?_
        rotate_left 1
        · intro w hSw; (try dsimp only at hSw); go_simp; (try with_reducible rfl)
        try simp only [Act.put, List.setIfInBounds_toArray, List.set_cons_zero, List.set_cons_succ]
        refine wpAnyH_take (i := 7) (v := ?_) (by simp only [List.getElem?_toArray, List.getElem?_cons_succ, List.getElem?_cons_zero]; rfl) (by kernel_rfl) (by kernel_rfl) (by kernel_rfl) (fun _ _ _ h => h) (Or.inl ⟨by rfl, ?_⟩) (by assumption) ?_
        rotate_left 1
        · intro w hSw; (try dsimp only at hSw); go_simp; (try with_reducible rfl)
        try simp only [Act.put, List.setIfInBounds_toArray, List.set_cons_zero, List.set_cons_succ]
        refine wpAnyH_take (i := 8) (v := ?_) (by simp only [List.getElem?_toArray, List.getElem?_cons_succ, List.getElem?_cons_zero]; rfl) (by kernel_rfl) (by kernel_rfl) (by kernel_rfl) (fun _ _ _ h => h) (Or.inl ⟨by rfl, ?_⟩) (by assumption) ?_
        rotate_left 1
        · intro w hSw; (try dsimp only at hSw); go_simp; (try with_reducible rfl)
        try simp only [Act.put, List.setIfInBounds_toArray, List.set_cons_zero, List.set_cons_succ]
        refine wpAnyH_ready (rs := [9]) (by kernel_rfl) (by simp) ?_
        refine AllReadyH.cons (by simp only [List.getElem?_toArray, List.getElem?_cons_succ, List.getElem?_cons_zero]; rfl) (fun K hK => ?_) AllReadyH.nil
        go_simp
        go_at_call 55
        refine (D55.out _ D2 (M8.out.touch (Touch.refl [] W8).drew) P7.out BL8.out.drew).mono ?_
        rintro e w9 ⟨da2, dn2, dc2, na2, nn2, nc2, rfl, h91, ⟨R2, h92, h93⟩, h94, h95⟩
        have CC : ∀ (j : Nat) v, W8.cell? ⟨w5.heap.size, j, none⟩ = some v → w9.cell? ⟨w5.heap.size, j, none⟩ = some v := fun j v hv => (h94.cell (p := ⟨w5.heap.size, j, none⟩) L8.out HGR.out).trans hv
        have TD9 := hid (TD8.out.touchG ((Touch.refl R'.foot W8).drew.trans h94 (fun b hb => .inl hb)) (fun b hb => .inl (by have h1 := FR.out b hb; have h2 := T5.out.size; have h3 := ZY.out; omega)))
        have BL9 : Hid (Below lo wl w9) := BL8.out.drew.trans h95
        have Z9 : Hid (W8.heap.size ≤ w9.heap.size) := h94.size
        have TD2 := hid h91
        have PL9 := hid h92
        have HP9 := hid h93
        have G9 : w9.cell? ⟨w5.heap.size, 0, none⟩ = some (.int .i64 T.e) ∧ w9.cell? ⟨w5.heap.size, 1, none⟩ = some (.int .i64 T.n) ∧ w9.cell? ⟨w5.heap.size, 2, none⟩ = some (.bool T.shut) ∧ w9.cell? ⟨w5.heap.size, 3, none⟩ = some (.slice da dn dc) ∧ w9.cell? ⟨w5.heap.size, 4, none⟩ = some (.slice na nn nc) ∧ w9.cell? ⟨w5.heap.size, 5, none⟩ = some (.int .i64 T.c.calls) ∧ w9.cell? ⟨w5.heap.size, 6, none⟩ = some (.int .i64 T.c.reads) ∧ w9.cell? ⟨w5.heap.size, 7, none⟩ = some (.int .i64 T.c.appends) ∧ w9.cell? ⟨w5.heap.size, 8, none⟩ = some (.int .i64 T.c.faults) ∧ w9.cell? ⟨w5.heap.size, 9, none⟩ = some (.int .i64 T.c.full) ∧ w9.cell? ⟨w5.heap.size, 10, none⟩ = some (.int .i64 T.c.used) ∧ w9.cell? ⟨w5.heap.size, 11, none⟩ = some (.int .i64 T.c.most) := ⟨CC _ _ G8.1, CC _ _ G8.2.1, CC _ _ G8.2.2.1, CC _ _ G8.2.2.2.1, CC _ _ G8.2.2.2.2.1, CC _ _ G8.2.2.2.2.2.1, CC _ _ G8.2.2.2.2.2.2.1, CC _ _ G8.2.2.2.2.2.2.2.1, CC _ _ G8.2.2.2.2.2.2.2.2.1, CC _ _ G8.2.2.2.2.2.2.2.2.2.1, CC _ _ G8.2.2.2.2.2.2.2.2.2.2.1, CC _ _ G8.2.2.2.2.2.2.2.2.2.2.2⟩
        clear h91 h92 h93 h94 h95 CC
        clear hHeld
        refine hK.out _ _ ⟨G9, (HOC.out w9 BL9.out).1⟩ (fun hHeld => ?_)
        clear hK K
        try simp only [Act.put, List.setIfInBounds_toArray, List.set_cons_zero, List.set_cons_succ]
        refine wpAnyH_ready (rs := [10]) (by kernel_rfl) (by simp) ?_
        refine AllReadyH.cons (by simp only [List.getElem?_toArray, List.getElem?_cons_succ, List.getElem?_cons_zero]; rfl) (fun K hK => ?_) AllReadyH.nil
        go_simp
        go_at_call 42
        refine (C42.out _ _ _ _ _ _ _ _ _ _ _ _ _ _ _ TD9.out TD2.out).mono ?_
        rintro e w10 ⟨rfl, t10⟩
        have CC2 : ∀ (j : Nat) v, w9.cell? ⟨w5.heap.size, j, none⟩ = some v → w10.cell? ⟨w5.heap.size, j, none⟩ = some v := fun j v hv => (t10.cell (World.block_lt_of_cell? w9 _ hv) (by simp)).trans hv
        have G10 : w10.cell? ⟨w5.heap.size, 0, none⟩ = some (.int .i64 T.e) ∧ w10.cell? ⟨w5.heap.size, 1, none⟩ = some (.int .i64 T.n) ∧ w10.cell? ⟨w5.heap.size, 2, none⟩ = some (.bool T.shut) ∧ w10.cell? ⟨w5.heap.size, 3, none⟩ = some (.slice da dn dc) ∧ w10.cell? ⟨w5.heap.size, 4, none⟩ = some (.slice na nn nc) ∧ w10.cell? ⟨w5.heap.size, 5, none⟩ = some (.int .i64 T.c.calls) ∧ w10.cell? ⟨w5.heap.size, 6, none⟩ = some (.int .i64 T.c.reads) ∧ w10.cell? ⟨w5.heap.size, 7, none⟩ = some (.int .i64 T.c.appends) ∧ w10.cell? ⟨w5.heap.size, 8, none⟩ = some (.int .i64 T.c.faults) ∧ w10.cell? ⟨w5.heap.size, 9, none⟩ = some (.int .i64 T.c.full) ∧ w10.cell? ⟨w5.heap.size, 10, none⟩ = some (.int .i64 T.c.used) ∧ w10.cell? ⟨w5.heap.size, 11, none⟩ = some (.int .i64 T.c.most) := ⟨CC2 _ _ G9.1, CC2 _ _ G9.2.1, CC2 _ _ G9.2.2.1, CC2 _ _ G9.2.2.2.1, CC2 _ _ G9.2.2.2.2.1, CC2 _ _ G9.2.2.2.2.2.1, CC2 _ _ G9.2.2.2.2.2.2.1, CC2 _ _ G9.2.2.2.2.2.2.2.1, CC2 _ _ G9.2.2.2.2.2.2.2.2.1, CC2 _ _ G9.2.2.2.2.2.2.2.2.2.1, CC2 _ _ G9.2.2.2.2.2.2.2.2.2.2.1, CC2 _ _ G9.2.2.2.2.2.2.2.2.2.2.2⟩
        have BL10 : Hid (Below lo wl w10) := BL9.out.trans (t10.below PL9.out.env.room (by simp))
        have T10 := hid t10
        clear t10 CC2
        clear hHeld
        refine hK.out _ _ ⟨G10, (HOC.out w10 BL10.out).1⟩ (fun hHeld => ?_)
        clear hK K
        try simp only [Act.put, List.setIfInBounds_toArray, List.set_cons_zero, List.set_cons_succ]
        refine wpAnyH_take (i := 11) (v := .bool false) (by simp only [List.getElem?_toArray, List.getElem?_cons_succ, List.getElem?_cons_zero]; rfl) (by kernel_rfl) (by kernel_rfl) (by kernel_rfl) (fun _ _ _ h => h) (Or.inl ⟨by rfl, ?_⟩) (by assumption) ?_
        · intro w hSw; (try dsimp only at hSw); (try go_simp); (first | done | (with_reducible rfl) | omega | (simp; omega))
        try simp only [Act.put, List.setIfInBounds_toArray, List.set_cons_zero, List.set_cons_succ]
        refine wpAnyH_take (i := 12) (v := ?_) (by simp only [List.getElem?_toArray, List.getElem?_cons_succ, List.getElem?_cons_zero]; rfl) (by kernel_rfl) (by kernel_rfl) (by kernel_rfl) (fun _ _ _ h => h) (Or.inl ⟨by rfl, ?_⟩) (by assumption) ?_
        rotate_left 1
        · intro w hSw; (try dsimp only at hSw); go_simp; (try with_reducible rfl)
        try simp only [Act.put, List.setIfInBounds_toArray, List.set_cons_zero, List.set_cons_succ]
        refine wpAnyH_done (by kernel_rfl) ?_ _
        refine NoPanic.normal ?_
        go_wp2
        refine ⟨⟨i + 1, D2, R2, by simp, by omega, PL9.out.touch T10.out, HP9.out, D7.out, ?_⟩, by simp; omega⟩
        refine ⟨BL10.out.os.trans HB0.out.os.symm, BL10.out.tape.trans HB0.out.tape.symm, BL10.out.output.trans HB0.out.output.symm, ?_, fun b hb => (BL10.out.block b hb).trans (HB0.out.block b hb).symm⟩
        exact Nat.le_trans HBW.out.size (Nat.le_trans BW8.out (Nat.le_trans Z9.out T10.out.size))
    · have hin : i = n := by omega
      subst hin
      go_wp2_with (first
        | (have q := T7; clear q; go_at_call 54; refine (C54.out _ T7.out).mono ?_; rintro e w8 ⟨rfl, hb8⟩; have T8 : Hid (Touch [] W w8) := T7.out.trans (Touch.of_below (F := []) hb8 (Nat.le_refl _)) (by simp); clear hb8)
        | (have q := T5; clear q; go_at_call 31; refine (C31.out _ T5.out).mono ?_; rintro e w7 ⟨rfl, hb7⟩; have T7 : Hid (Touch [] W w7) := T5.out.trans (Touch.of_below (F := []) hb7 (Nat.le_refl _)) (by simp); clear hb7)
        | (go_at_call 53; refine (C53.out _ B3.out).mono ?_; rintro e w5 ⟨rfl, hb5⟩; have T5 : Hid (Touch [] W w5) := touch_below (CK.out _ B3.out).2.1 hb5; clear hb5))
      go_ret
      exact ⟨rfl, HBW.out.trans (T8.out.below (Nat.le_trans HPL.out.env.room (Nat.le_refl _)) (by simp))⟩
end Go.Proofs.YtcpncfngadablaaGreatDoor
