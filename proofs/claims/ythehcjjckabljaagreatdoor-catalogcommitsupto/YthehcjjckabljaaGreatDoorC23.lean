import Derived.Laws.StructEq
import Derived.BigQuiet
import Derived.ProofKit
import Derived.Deep.Slices
import Derived.LaidLaws
import Derived.MakeChecks
import Derived.Laws.IdiomArrays
import Derived.ChangeArms
import Derived.DataElems
import Derived.Lib.LaidTab
import Derived.Deep.RegionHeld3
import Derived.Test.YthehcjjckabljaaGreatDoorC22
namespace Go.Proofs.YthehcjjckabljaaGreatDoor
open Go.RowKit Go.Deep
set_option maxRecDepth 100000
set_option linter.unusedSimpArgs false
set_option linter.unusedVariables false
section
variable {w w':World} {t:Tbl} {so sr so2 sr2:Option Addr} {co cr co2 cr2:Nat}
theorem row_same (h:Int) (f:Nat) (W:World):(binOp .neq 45 (.agg #[.int .i64 h,.int .u64 (f:Int)]) (.agg #[.int .i64 h,.int .u64 (f:Int)])).run Tryz.prog W = .ok (.bool false) W:=by
 go_simp
 done
set_option maxHeartbeats 4000000 in
theorem sameRows_true (h1:TblAt w t so sr) (h2:TblAt w t so2 sr2) :
  Calls Tryz.prog 13 #[tblV t so sr co cr,tblV t so2 sr2 co2 cr2] w fun e w'=>e = .returned (.bool true) ∧ Tc [] w w':=by
 have hol:=h1.ol
 have hrl:=h1.rl
 have HA:=hid (fun W (tt:Tc [] w W)=>h1.touch tt (by simp) (by simp))
 have HB:=hid (fun W (tt:Tc [] w W)=>h2.touch tt (by simp) (by simp))
 have HRS:=hid row_same
 obtain ⟨Wb,hWb⟩:∃ Wb,Wb = (w.alloc (.cells (tblC t so sr co cr) 26)).alloc (.cells (tblC t so2 sr2 co2 cr2) 26):=⟨_,rfl⟩
 have htb:Tc [] w Wb:=by rw [hWb]; exact ((Tc.refl [] w).alloc _).alloc _
 have hx:Wb.heap[w.heap.size]? = some (.cells (tblC t so sr co cr) 26 (0,0)):=by rw [hWb]; exact (Below.heap_alloc _ _ _ (by simp)).trans (heap_alloc_new w _)
 have hy:Wb.heap[w.heap.size + 1]? = some (.cells (tblC t so2 sr2 co2 cr2) 26 (0,0)):=by rw [hWb]; have:=heap_alloc_new (w.alloc (.cells (tblC t so sr co cr) 26)) (.cells (tblC t so2 sr2 co2 cr2) 26); simpa using this
 have HT:=hid htb
 have HX:=hid (fun W (tt:Tc [] Wb W)=>fun i=>cRw ((tt.block _ (ltB hx) (by simp)).trans hx) i)
 have HY:=hid (fun W (tt:Tc [] Wb W)=>fun i=>cRw ((tt.block _ (ltB hy) (by simp)).trans hy) i)
 have HWB:=hid hWb
 clear h1 h2 htb hx hy hWb
 simp only [tblV,tblC] at *
 go_enter Tryz.func13,Tryz.ntmps13
 go_wp2_with fail
 rw [← HWB.out]
 have cx:=HX.out Wb (Tc.refl _ _)
 have cy:=HY.out Wb (Tc.refl _ _)
 generalize w.heap.size = bx at *
 go_wp2_with fail
 clear cx cy
 have hb:bx < 99999999 ∨ True:=.inr trivial
 clear hb
 go_loopw [5] (fun i W=>∃ k:Nat,k ≤ t.order.length ∧ i = .int .i64 k ∧ Hid (Tc [] Wb W)) (fun i _=>t.order.length - (intOf i).toNat)
 case atStart=>exact ⟨0,Nat.zero_le _,rfl,hid (Tc.refl _ _)⟩
 case round =>
  obtain ⟨k,hk,rfl,hW⟩:=hrel
  have hwt:=HT.out.trans hW.out (by simp)
  have cx:=HX.out wr hW.out
  have cy:=HY.out wr hW.out
  by_cases hlt:k < t.order.length
  ·obtain ⟨a,rfl,hab,c1⟩:=(HA.out wr hwt).ints.at_ k hlt
   obtain ⟨a2,rfl,hab2,c2⟩:=(HB.out wr hwt).ints.at_ k hlt
   have hki:(k:Int) < (t.order.length:Int):=by omega
   have hk0:(0:Int) ≤ (k:Int):=by omega
   clear hwt hab hab2
   generalize t.order[k] = v at *
   go_wp2_with fail
   go_quiet (fail)
   go_wp2_with fail
   exact ⟨⟨k + 1,hlt,rfl,hid (hW.out.drewN _)⟩,by simp [intOf]; omega⟩
  ·obtain rfl:k = t.order.length:=by omega
   clear hwt
   go_wp2_with fail
   go_loopw [6] (fun i W=>∃ k:Nat,k ≤ t.rows.length ∧ i = .int .i64 k ∧ Hid (Tc [] Wb W)) (fun i _=>t.rows.length - (intOf i).toNat)
   case atStart=>exact ⟨0,Nat.zero_le _,rfl,hW⟩
   case round =>
    clear hW cx cy
    obtain ⟨k,hk,rfl,hW⟩:=hrel
    have hwt:=HT.out.trans hW.out (by simp)
    have cx:=HX.out wr hW.out
    have cy:=HY.out wr hW.out
    by_cases hlt:k < t.rows.length
    ·obtain ⟨a,rfl,hab,c1,d1⟩:=(HA.out wr hwt).rows.at_ k hlt
     obtain ⟨a2,rfl,hab2,c2,d2⟩:=(HB.out wr hwt).rows.at_ k hlt
     have hki:(k:Int) < (t.rows.length:Int):=by omega
     have hk0:(0:Int) ≤ (k:Int):=by omega
     clear hwt hab hab2
     generalize t.rows[k] = v at *
     obtain ⟨v0,v1⟩:=v
     dsimp only at c1 c2 d1 d2
     have hsame:=HRS.out v0 v1
     go_wp2_with fail
     go_quiet (fail)
     go_wp2_with fail
     exact ⟨⟨k + 1,hlt,rfl,hid (hW.out.drewN _)⟩,by simp [intOf]; omega⟩
    ·obtain rfl:k = t.rows.length:=by omega
     clear hwt
     go_wp2_with fail
     go_ret
     exact ⟨rfl,HT.out.trans hW.out (by simp)⟩
end
theorem stIn_nil (w:World):StIn w (.slice none 0 0) []:=⟨⟨none,0,rfl⟩,fun k e h=>by cases h⟩
theorem trsAt_nil (w:World):TrsAt w none []:=⟨fun k hk=>absurd hk (by simp),fun k hk=>absurd hk (by simp)⟩
theorem mountF:MountV ((64:Nat):Int) ((64:Nat):Int) 1099511627776 [] none:=.inl ⟨rfl,⟨by decide,by decide,by decide,by decide,by decide⟩,rfl,fun j e h=>absurd h (by simp),by decide⟩
section
variable {w:World} {b:Bn} {s:Pu.St} {F:List Nat} {kb:Nat} {T:Int} {so:Option Addr} {co:Nat}
theorem readyF {A:PubA} (h:A.on = true):readyE A (sortU (filesN tblF.rows)) [] = 0:=by
 have e:sortU (filesN tblF.rows) = []:=by simp [sortU,uniq,filesN]
 rw [e]
 exact readyE_nil h
abbrev dskG:PubA:=putA dskF 1 tblF 1
abbrev blsF:List (List UInt8):=bkO 5 1 64 (recsN tblF 1) (nBk 1 (recsN tblF 1).length)
theorem commitF (S:Std w b 0 dskF s F) (hb:b.l = []) (hk:DkA w kb b ((1:Nat):Int) T) (hkF:kb ∉ F) (hT:Tabs w) (h17:17 ≤ b.lo) (hi:IntsAt w so [1,0]) (ho:∀ a,so = some a → a.block ∉ F ∧ a.block < w.heap.size) (hfree:64 * ((1:Nat):Int) ≤ s.free) :
  Calls Tryz.prog 19 #[ptr kb,.agg #[.int .i64 2,.slice so 2 co,.slice none 0 0,.int .i64 5,.int .u64 9],.int .u64 0] w fun e w'=>e = .returned (.int .i64 0) ∧ Went w w' b 7 dskG ((s.take ((1:Nat):Int)).give ((1:Nat):Int)) F []:=by
 have ht:TblAt w tblF so none:=⟨hi,RowsAt.nil _ _,by decide,by decide,by decide,by decide,by decide,by decide,by decide⟩
 have h:=commit_ok (gen:=0) (t:=tblF) (co:=co) (cr:=0) (sr:=none) S (layF b hb) (by omega) hk hkF hT h17 ht (fun a ha _=>ho a ha) (by simp) hfree (by omega) formedF rfl (readyF rfl)
 refine h.mono fun e w' ⟨e1,g⟩=>?_
 rw [show (0:Nat) + 1 = 1 from rfl,tidyF] at g e1
 exact ⟨e1,g.mono_n (by rw [namesPF]; decide)⟩
theorem readF (S:Std w b 7 dskG s F) (hb:b.l = []) (hk:DkA w kb b ((1:Nat):Int) T) (hkF:kb ∉ F) (hlk:b.lo ≤ kb) (hT:Tabs w) (h17:17 ≤ b.lo) (hfree:64 * ((1:Nat):Int) ≤ s.free) :
  Calls Tryz.prog 20 #[ptr kb] w fun e w'=>∃ so sr co cr,e = .returned (.tuple #[.agg #[.int .i64 2,.slice so 2 co,.slice sr 0 cr,.int .i64 5,.int .u64 9],.int .u64 1,.int .i64 0]) ∧ TblAt w' tblF so sr ∧
   Went w w' b 10 (rdX dskG 3) ((s.take ((1:Nat):Int)).give ((1:Nat):Int)) F []:=by
 have C:TapX b dskG (bs (catN 1)) 1 5 blsF (recsN tblF 1):=(layF b hb).tap _
 have h:=readC_ok (gen:=1) (t:=tblF) (K:=1) S C (by omega) hk hkF hlk h17 hT formedF numF hfree (by omega) (by omega) newestF (readyF rfl)
 refine h.mono fun e w' ⟨v,e1,⟨so,sr,co,cr,e2,h1,_⟩,g⟩=>⟨so,sr,co,cr,by rw [e1,e2]; rfl,h1,?_⟩
 exact g
end
section
variable {w:World}
theorem sameP_free {s:Pu.St} {K:Int} (h0:0 ≤ s.hand) (hc:s.closed = false) (hK:1 ≤ K) (hf:64 * K ≤ s.free):SameP s ((s.take K).give K):=sameP_take h0 (by omega) hc (free_leave hK hf)
theorem sameP_two {s:Pu.St} {K:Int} (h0:0 ≤ s.hand) (hc:s.closed = false) (hK:1 ≤ K) (hf:64 * K ≤ s.free):SameP s ((((s.take K).give K).take K).give K):=by
 have h1:=sameP_free h0 hc hK hf
 exact h1.trans (sameP_free (by rw [h1.hand]; exact h0) (by rw [h1.closed]; exact hc) hK (by rw [h1.free]; exact hf))
theorem add_nil (a:Addr):a.add 0 = a:=by cases a; unfold Addr.add; simp only [Nat.add_zero]; split <;> simp_all
theorem catOne:bs (catN 1) = ⟨#[99,97,116,45,48,48,48,48,48,48,48,48,48,48,48,48,48,48,48,49]⟩:=by rfl
set_option maxHeartbeats 8000000 in
theorem alive_any {E:Nat → Addr} {lo:Nat} (V:Env w lo E) (hT:Tabs w) (h17:17 ≤ lo) :
  Calls Tryz.prog 9 #[] w fun e w'=>e = .returned (.bool true) ∧ Tc [] w w':=by
 have hlo:=V.room
 have HO:=hid (fun W (tt:Tc [] w W)=>open_ok (tc:=0) (n:=0) (V.touch tt (by simp)) (Nat.le_trans hlo tt.size) (stIn_nil W) (trsAt_nil W) (by simp) (by simp) (by simp [usedN]) (by omega) mountF (by decide) 0 (by omega))
 have HTB:=hid hT
 clear V hT
 simp only [List.length_nil] at HO
 go_enter Tryz.func9,Tryz.ntmps9
 go_upto_region 6 with (go_at_call 14; refine (HO.out _ ((Tc.refl [] w).alloc _)).mono ?_; rintro e w2 ⟨b,kb,lb,F,rfl,hblo,hbE,hbl,ht2,hS,hkd,hkF,hk1,hk2,hF⟩; have HS:=hid (And.intro hS (And.intro hkd (And.intro hkF (And.intro hk1 (And.intro hk2 hF))))); have HT2:=hid (((Tc.refl [] w).alloc _).trans ht2 (by simp)); have HB:=hid (And.intro hblo hbl); clear hS hkd hkF hk1 hk2 hF hblo hbE hbl ht2)
 obtain ⟨W6,hW6⟩:∃ W6,W6 = (((w2.alloc (.cells #[.pointer (some ⟨b.p,0,none⟩),.pointer (some ⟨b.q,0,none⟩),.pointer (some ⟨kb,0,none⟩)] 36)).alloc (.cells #[.int .i64 1,.int .i64 0] 3)).alloc (.cells #[.int .i64 2,.slice (some ⟨w2.heap.size + 1,0,none⟩) 2 2,.slice none 0 0,.int .i64 5,.int .u64 9] 26)):=⟨_,rfl⟩
 have t6:Tc [] w2 W6:=by rw [hW6]; exact (((Tc.refl [] w2).alloc _).alloc _).alloc _
 have hs6:W6.heap.size = w2.heap.size + 3:=by rw [hW6]; simp
 have ho6:W6.heap[w2.heap.size]? = some (.cells #[ptr b.p,ptr b.q,ptr kb] 36 (0,0)):=by rw [hW6,Below.heap_alloc _ _ _ (by simp; omega)]; exact (heap_two w2 _ _).1
 have hi6:W6.heap[w2.heap.size + 1]? = some (.cells #[.int .i64 1,.int .i64 0] 3 (0,0)):=by rw [hW6,Below.heap_alloc _ _ _ (by simp)]; exact (heap_two w2 _ _).2
 have hr6:W6.heap[w2.heap.size + 1 + 1]? = some (.cells #[.int .i64 2,.slice (some ⟨w2.heap.size + 1,0,none⟩) 2 2,.slice none 0 0,.int .i64 5,.int .u64 9] 26 (0,0)):=by
  rw [hW6]
  have:=heap_alloc_new ((w2.alloc (.cells #[.pointer (some ⟨b.p,0,none⟩),.pointer (some ⟨b.q,0,none⟩),.pointer (some ⟨kb,0,none⟩)] 36)).alloc (.cells #[.int .i64 1,.int .i64 0] 3)) (.cells #[.int .i64 2,.slice (some ⟨w2.heap.size + 1,0,none⟩) 2 2,.slice none 0 0,.int .i64 5,.int .u64 9] 26)
  simpa using this
 rw [← hW6]
 clear hW6
 obtain ⟨hS,hkd,hkF,hk1,hk2,hF⟩:=HS.out
 obtain ⟨hblo,hbl⟩:=HB.out
 have hFlt:=hS.lt
 obtain ⟨ob,hob⟩:∃ ob,ob = w2.heap.size:=⟨_,rfl⟩
 obtain ⟨ib,hib⟩:∃ ib,ib = w2.heap.size + 1:=⟨_,rfl⟩
 obtain ⟨rb,hrb⟩:∃ rb,rb = w2.heap.size + 1 + 1:=⟨_,rfl⟩
 rw [← hrb] at hr6 ⊢
 rw [← hib] at hr6 hi6 ⊢
 rw [← hob] at ho6 ⊢
 have hoF:ob ∉ F:=fun h=>by have:=hFlt _ h; omega
 have hiF:ib ∉ F:=fun h=>by have:=hFlt _ h; omega
 have hrF:rb ∉ F:=fun h=>by have:=hFlt _ h; omega
 have hT6:Tabs W6:=HTB.out.quiet (HT2.out.trans t6 (by simp))
 have hints:IntsAt W6 (some ⟨ib,0,none⟩) [1,0]:=⟨fun k hk=>by
  refine ⟨_,rfl,ltB hi6,?_⟩
  rw [addC]
  have:=cRw hi6 k
  simp only [Nat.zero_add]
  rw [this]
  match k,hk with
  | 0,_=>rfl
  | 1,_=>rfl⟩
 have hfree:64 * ((1:Nat):Int) ≤ (Pu.St.new ((64 * (64 / 32 - 1) + 0:Nat):Int) lb).free:=by unfold Pu.St.free; simp
 have hS6:=hS.quiet t6
 have H6:=hid (Here.start hS6)
 have HC:=hid (commitF (co:=2) hS6 hbl (hkd.touch t6 (by simp)) hkF hT6 (by omega) hints (fun a ha=>by cases ha; exact ⟨hiF,ltB hi6⟩) hfree)
 have HR0:=hid (And.intro ho6 (And.intro hr6 hints))
 have HX:=hid (And.intro hbl (And.intro (hkd.touch t6 (by simp)) (And.intro hkF (And.intro hk2 (And.intro hT6 (And.intro t6 hF))))))
 have hlo6:b.lo ≤ W6.heap.size:=hS6.room
 have hne:ob ≠ ib ∧ ob ≠ rb ∧ ib ≠ rb:=by omega
 have hol:=ltB ho6
 have hrl:=ltB hr6
 have hil:=ltB hi6
 have hkl:kb < W6.heap.size:=Nat.lt_of_lt_of_le hk2 t6.size
 have hblk:b.lo ≤ kb:=by have:=(HT2.out).size; simp at hk1; omega
 have HSB:=hid hS6.base
 have c6:=fun i=>cRw ho6 i
 have d6:=fun i=>cRw hr6 i
 have HE:=hid (And.intro hob (And.intro hib hrb))
 have hw2:w2.heap.size ≤ ob ∧ w2.heap.size ≤ ib ∧ w2.heap.size ≤ rb:=by omega
 clear HO HTB HS hob hib hrb hS hkd hk1 hk2 hF hS6 hT6 hints hi6 ho6 hr6 t6 hs6 hfree hbl
 go_upto_region 7 with (go_at_call 19; refine HC.out.mono ?_; rintro e w7 ⟨rfl,hw7⟩; obtain ⟨F7,hI7,tt7,n7⟩:=H6.out.went hw7; have HI7:=hid (And.intro hI7 (And.intro tt7 n7)); clear hI7 tt7 n7 hw7)
 obtain ⟨hI7,tt7,n7⟩:=HI7.out
 obtain ⟨hbl,hkd,hkF,hk2,hT6,t6,hF⟩:=HX.out
 obtain ⟨ho6,hr6,hints⟩:=HR0.out
 have ho7:=(tt7.block _ hol hoF).trans ho6
 have hr7:=(tt7.block _ hrl hrF).trans hr6
 have hT7:Tabs w7:=hT6.touch tt7 (fun y hy=>by have:=HSB.out y hy; omega)
 have hp7:SameP (Pu.St.new ((64 * (64 / 32 - 1) + 0:Nat):Int) lb) (((Pu.St.new ((64 * (64 / 32 - 1) + 0:Nat):Int) lb).take ((1:Nat):Int)).give ((1:Nat):Int)):=sameP_take (by simp) (by decide) rfl (free_leave (by decide) (by unfold Pu.St.free; simp))
 have hk7:kb ∉ F7:=n7 _ hkF hkl
 have HRD:=hid (readF hI7.S hbl (hkd.touch tt7 hkF) hk7 hblk hT7 (by omega) (by rw [hp7.free]; unfold Pu.St.free; simp))
 have HO7:=hid (And.intro ho7 (And.intro hr7 (hints.touch tt7 (fun a ha=>by cases ha; exact hiF))))
 have HF7:=hid (And.intro (n7 _ hoF hol) (And.intro (n7 _ hrF hrl) (n7 _ hiF hil)))
 have hol7:=ltB ho7
 have hrl7:=ltB hr7
 have hil7:ib < w7.heap.size:=Nat.lt_of_lt_of_le hil tt7.size
 have c7:=fun i=>cRw ho7 i
 have d7:=fun i=>cRw hr7 i
 clear hI7 tt7 n7 hbl hkd hk2 hT6 t6 hF ho6 hr6 hints ho7 hr7 hT7 c6 d6 HC
 go_upto_region 8 with (go_at_call 20; refine HRD.out.mono ?_; rintro e w8 ⟨so,sr,co,cr,rfl,htb,hw8⟩; obtain ⟨F8,hI8,tt8,n8⟩:=HI7.out.1.went hw8; have HI8:=hid (And.intro hI8 (And.intro tt8 n8)); have HTB8:=hid htb; clear hI8 tt8 n8 hw8 htb)
 obtain ⟨W9,hW9⟩:∃ W9,W9 = w8.alloc (.cells #[.int .i64 2,.slice so 2 co,.slice sr 0 cr,.int .i64 5,.int .u64 9] 26):=⟨_,rfl⟩
 obtain ⟨hI8,tt8,n8⟩:=HI8.out
 obtain ⟨ho7,hr7,hi7⟩:=HO7.out
 obtain ⟨m1,m2,m3⟩:=HF7.out
 have t9:Tc [] w8 W9:=by rw [hW9]; exact (Tc.refl [] w8).alloc _
 have hq9:W9.heap[w8.heap.size]? = some (.cells #[.int .i64 2,.slice so 2 co,.slice sr 0 cr,.int .i64 5,.int .u64 9] 26 (0,0)):=by rw [hW9]; exact heap_alloc_new w8 _
 rw [← hW9]
 clear hW9
 have ho9:=(t9.block _ (Nat.lt_of_lt_of_le hol7 tt8.size) (by simp)).trans ((tt8.block _ hol7 m1).trans ho7)
 have hr9:=(t9.block _ (Nat.lt_of_lt_of_le hrl7 tt8.size) (by simp)).trans ((tt8.block _ hrl7 m2).trans hr7)
 have hi9:=(hi7.touch tt8 (fun a ha=>by cases ha; exact m3)).touch t9 (by simp)
 have hb9:=HTB8.out.touch t9 (by simp) (by simp)
 have hI9:=hI8.quiet t9
 have HI9:=hid hI9
 have hN:=names_s hI9.S (by omega)
 have e1:namesA (rdX dskG 3) = [bs (catN 1)]:=namesPF
 rw [e1] at hN
 have HN:=hid hN
 have HH9:=hid (And.intro ho9 (And.intro hr9 (And.intro hq9 (And.intro hi9 hb9))))
 obtain ⟨qb,hqb⟩:∃ qb,qb = w8.heap.size:=⟨_,rfl⟩
 rw [← hqb] at hq9 HH9 ⊢
 have hqb2:qb < W9.heap.size:=ltB hq9
 have hol9:=ltB ho9
 have hrl9:=ltB hr9
 have c9:=fun i=>cRw ho9 i
 clear hqb hI8 tt8 n8 ho7 hr7 hi7 m1 m2 m3 t9 hI9 hN e1 ho9 hr9 hq9 hi9 hb9 c7 d7 HRD HI8 HTB8
 go_upto_region 9 with (go_at_call 21; refine HN.out.mono ?_; rintro e w10 ⟨sa,sc,rfl,hst,hsb,ht10⟩; have HST:=hid (And.intro hst ht10); clear hst hsb ht10)
 obtain ⟨hst,ht10⟩:=HST.out
 obtain ⟨ho9,hr9,hq9,hi9,hb9⟩:=HH9.out
 have ho10:=(ht10.block _ hol9 (by simp)).trans ho9
 have hr10:=(ht10.block _ hrl9 (by simp)).trans hr9
 have hq10:=(ht10.block _ hqb2 (by simp)).trans hq9
 have hb10:=hb9.touch ht10 (by simp) (by simp)
 have hF10:TblAt w10 tblF (some ⟨ib,0,none⟩) none:=⟨hi9.touch ht10 (by simp),RowsAt.nil _ _,by decide,by decide,by decide,by decide,by decide,by decide,by decide⟩
 have hsr:=sameRows_true (co:=co) (cr:=cr) (co2:=2) (cr2:=0) hb10 hF10
 rw [show tblV tblF so sr co cr = .agg #[.int .i64 2,.slice so 2 co,.slice sr 0 cr,.int .i64 5,.int .u64 9] from rfl,show tblV tblF (some ⟨ib,0,none⟩) none 2 0 = .agg #[.int .i64 2,.slice (some ⟨ib,0,none⟩) 2 2,.slice none 0 0,.int .i64 5,.int .u64 9] from rfl] at hsr
 have HSR:=hid hsr
 clear hsr
 obtain ⟨a,rfl,hal,hac⟩:=hst.at_ 0 (by simp)
 have hac':w10.cell? (a.add 0) = some (.string ⟨#[99,97,116,45,48,48,48,48,48,48,48,48,48,48,48,48,48,48,48,49]⟩):=by rw [← catOne]; exact hac
 have HI10:=hid (HI9.out.quiet ht10)
 have HU:=hid (fun W (tt:Tc [] w10 W)=>used_s (HI10.out.quiet tt).S)
 have hsp:SameP (Pu.St.new ((64 * (64 / 32 - 1) + 0:Nat):Int) lb) (((((Pu.St.new ((64 * (64 / 32 - 1) + 0:Nat):Int) lb).take ((1:Nat):Int)).give ((1:Nat):Int)).take ((1:Nat):Int)).give ((1:Nat):Int)):=sameP_two (by simp) rfl (by decide) (by unfold Pu.St.free; simp)
 have HU2:Hid (∀ W,Tc [] w10 W → Calls Tryz.prog 23 #[ptr b.q] W fun e w'=>e = .returned (.int .i64 0) ∧ Tc F8 W w'):=hid (fun W tt=>by
  have h:=HU.out W tt
  rw [hsp.hand,hsp.lent] at h
  exact h.mono fun e w' ⟨e1,g⟩=>⟨e1,by obtain ⟨F2,_,t2,_⟩:=g; exact t2.mono (by simp)⟩)
 clear hsp HU
 have HAC:=hid hac'
 have HO10:=hid (And.intro ho10 (And.intro hr10 hq10))
 have c10:=fun i=>cRw ho10 i
 have d10:=fun i=>cRw hr10 i
 have e10:=fun i=>cRw hq10 i
 clear hst ht10 ho9 hr9 hq9 hi9 hb9 ho10 hr10 hq10 hb10 hF10 hac c9 HN HST HH9
 go_wp2_with (first
  |(go_at_call 23; refine (HU2.out _ HT11.out).mono ?_; rintro e w12 ⟨rfl,hw12⟩; have HW12:=hid hw12; clear hw12)
  |(go_at_call 13; refine HSR.out.mono ?_; rintro e w11 ⟨rfl,ht11⟩; have HT11:=hid ht11; have hac11:=(ht11.cell (p:=a.add 0) (by rw [add_block]; exact hal) (by simp)).trans HAC.out; have hac12:=hac11; rw [add_nil] at hac12; have c11:=(fun i=>cRw ((ht11.block _ (ltB HO10.out.1) (by simp)).trans HO10.out.1) i); clear ht11))
 go_ret
 obtain ⟨hbl,hkd,hkF,hk2,hT6,t6,hF⟩:=HX.out
 have h:=HI10.out
 have tw:Tc F W6 w12:=(h.t.trans HT11.out (by simp)).trans HW12.out h.f
 exact ⟨rfl,(HT2.out.trans t6 (by simp)).trans tw (fun y hy=>.inr (by have:=hF y hy; simp at this; omega))⟩
end
section
variable {w:World} {t:Tbl} {so sr:Option Addr} {co cr:Nat}
theorem rformed_any (h:TblAt w t so sr):Calls Tryz.prog 12 #[tblV t so sr co cr] w fun e w'=>e = .returned (.bool (fmB t)) ∧ Tc [] w w':=by
 by_cases hb:t.vars < 0 ∨ 65536 < t.vars ∨ ¬ (t.order.length:Int) = t.vars ∨ 1024 < t.rows.length ∨ t.next < 1 ∨ 2147483648 < t.next
 ·rw [formed_bad hb]
  exact rformed_bad hb
 ·have hg:0 ≤ t.vars ∧ t.vars ≤ 65536 ∧ (t.order.length:Int) = t.vars ∧ t.rows.length ≤ 1024 ∧ 1 ≤ t.next ∧ t.next ≤ 2147483648:=by
   simp only [not_or] at hb
   omega
  rw [formed_good hg]
  exact rformed_good h hg
end
open Go.ChangeShapes Go.WideShapes Go.ChangeAt Go.RowKit Go.Deep
theorem own:ownKnob Tryz.prog.godebug = none:=by kernel_rfl
theorem laidOut:laidOutB Tryz.prog = true:=by kernel_rfl
theorem cells3:Tryz.prog.cellsOf 3 = 1:=by kernel_rfl
theorem cells9:Tryz.prog.cellsOf 9 = 1:=by kernel_rfl
theorem cells22:Tryz.prog.cellsOf 22 = 1:=by kernel_rfl
theorem cells23:Tryz.prog.cellsOf 23 = 1:=by kernel_rfl
theorem cells24:Tryz.prog.cellsOf 24 = 1:=by kernel_rfl
theorem cells26:Tryz.prog.cellsOf 26 = 5:=by kernel_rfl
theorem cells45:Tryz.prog.cellsOf 45 = 2:=by kernel_rfl
theorem bulk_one {H:Type} (d:DataW H):1 ≤ Rows.uptoBulk d:=by
 cases d with
 | lit l=>cases l <;> simp [Rows.uptoBulk]
 | nil=>simp [Rows.uptoBulk]
 | ptr d=>simp [Rows.uptoBulk]
 | slice elems spare=>simp [Rows.uptoBulk]
 | agg parts=>simp [Rows.uptoBulk]
 | iface t d=>simp [Rows.uptoBulk]
 | map entries=>simp [Rows.uptoBulk]
 | held h=>simp [Rows.uptoBulk]
theorem bulk_part {H:Type} {d:DataW H} {l:List (DataW H)} (h:d ∈ l):Rows.uptoBulk d ≤ Rows.uptoBulkAll l:=by
 induction l with
 | nil=>cases h
 | cons x r ih =>
  simp only [Rows.uptoBulkAll]
  cases List.mem_cons.1 h with
  | inl e=>subst e; omega
  | inr e=>have:=ih e; omega
theorem bulk_length {H:Type} (l:List (DataW H)):l.length ≤ Rows.uptoBulkAll l:=by
 induction l with
 | nil=>simp [Rows.uptoBulkAll]
 | cons x r ih=>have:=bulk_one x; simp only [Rows.uptoBulkAll,List.length_cons]; omega
theorem cells182:Tryz.prog.cellsOf 343 = 1:=by kernel_rfl
theorem star : "*" ++ "errors.errorString" = "*errors.errorString" := by decide
theorem row158 (u : TypeId) (h : Tryz.prog.typeName? 3 u = some "*errors.errorString") : u = 341 :=
 typeName_ptr_named (nm := "errors.errorString") (by rw [star]; kernel_rfl) (by kernel_rfl) (by decide) u (by rw [star]; exact h)
set_option maxRecDepth 100000 in
theorem laid_step {W:World} {n:String} {i:Nat} {text:List UInt8} {r:List (String × DataW Unit)} {ps all:List MemPlace} (hg:Tryz.prog.globalNamed n = some i) (ht:(Tryz.prog.globals[i]?).map (·.type) = some 86)
  (h : DataW.LaidVars Tryz.prog W ((n, .iface "*errors.errorString" (.ptr (.agg [.lit (.string text)]))) :: r) ps) (hsub : ∀ x ∈ ps, x ∈ all)
  (hrows:∀ b off,MemPlace.cell b off ∈ all → (∃ c t,W.heap[b]? = some (.cells c t (0,0))) ∧ ∀ u v,W.cell? ⟨b,off,none⟩ = some (.iface u v) → Value.okWide Tryz.prog W .any 0 u v) :
  ∃ (a:Addr) (q:List MemPlace),W.cell? ⟨i,0,none⟩ = some (.iface 341 (.pointer (some a))) ∧ (∃ c t,W.heap[a.block]? = some (.cells c t (0,0))) ∧ a.spot = none ∧ DataW.LaidVars Tryz.prog W r q ∧ ps = .cell i 0 :: .cell a.block a.off :: q:=by
 obtain ⟨g,t,cs,f,p,q,hg0,ht0,hv0,hd0,hr,e⟩:=h
 obtain rfl:=Option.some.inj (hg.symm.trans hg0)
 obtain rfl:=Option.some.inj (ht.symm.trans ht0)
 obtain ⟨l0⟩:=cs
 have ok0:∀ u v,l0 = [.iface u v] → Value.okWide Tryz.prog W .any 0 u v:=fun u v el=>by
  subst el
  exact (hrows i 0 (hsub _ (by rw [e]; simp [MemPlace.row]))).2 u v (by simpa using World.var?_cell hg0 hv0 0)
 obtain ⟨a,s,rfl,hc,_,_,rfl⟩:=errorString_of_trod Tryz.underlying86 row158 Tryz.underlying341 Tryz.underlying343 rfl rfl Tryz.underlying9 cells182 cells9 hd0 ok0
 have hsp:=World.cell?_spot hc
 have hps:ps = .cell i 0 :: .cell a.block a.off :: q:=by rw [e]; simp [MemPlace.row]
 exact ⟨a,q,by simpa using World.var?_cell hg0 hv0 0,(hrows a.block a.off (hsub _ (by rw [hps]; simp))).1,hsp,hr,hps⟩
theorem tab64_is:(Rows.laid_math_bits_deBruijn64tab:DataW Unit) = Lib.tabData .u8 [0,1,56,2,57,49,28,3,61,58,42,50,38,29,17,4,62,47,59,36,45,43,51,22,53,39,33,30,24,18,12,5,63,55,48,27,60,41,37,16,46,35,44,21,52,32,23,11,54,26,40,15,34,20,31,10,25,14,19,9,13,8,7,6]:=by kernel_rfl
theorem laid_skip {W:World} {n:String} {d:DataW Unit} {r:List (String × DataW Unit)} {ps:List MemPlace} (h:DataW.LaidVars Tryz.prog W ((n,d) :: r) ps):∃ pre q,DataW.LaidVars Tryz.prog W r q ∧ ps = pre ++ q:=by
 obtain ⟨g,t,cs,f,p,q,hg0,ht0,hv0,hd0,hr,e⟩:=h
 exact ⟨_,q,hr,e⟩
theorem tab_of_laid {W : World} {r : List (String × DataW Unit)} {ps : List MemPlace} (h : DataW.LaidVars Tryz.prog W (("math/bits.deBruijn64tab", Rows.laid_math_bits_deBruijn64tab) :: r) ps) : Nm.Tz W := by
 obtain ⟨g',t',cs,fuel,p,q,hg',ht',hvar,hd,_,_⟩:=h
 obtain rfl : 16 = g' := Option.some.inj ((show Tryz.prog.globalNamed "math/bits.deBruijn64tab" = some 16 by kernel_rfl).symm.trans hg')
 obtain rfl:335 = t':=Option.some.inj ((show (Tryz.prog.globals[16]?).map (·.type) = some 335 by kernel_rfl).symm.trans ht')
 rw [tab64_is] at hd
 have hc:=Lib.cells_of_tab Tryz.underlying335 Tryz.underlying5 (by kernel_rfl) (by kernel_rfl) hd
 have hcell:W.cell? ⟨16,15,none⟩ = cs.toList[15]?:=by simpa using World.var?_cell hg' hvar 15
 rw [hc] at hcell
 refine ⟨hcell,?_⟩
 have:W.heap[16]? ≠ none:=by
  intro e
  simp [World.cell?,e] at hcell
 exact Nat.lt_of_not_le fun e=>this (Array.getElem?_eq_none e)
set_option maxHeartbeats 4000000 in
theorem sents_of_laid {W:World} (h0:laidMetH Tryz.prog Rows.catalogFormsUptoRow.laid W):∃ E,Env W W.heap.size E ∧ Tabs W ∧ 17 ≤ W.heap.size:=by
 have h:laidMet Tryz.prog Rows.catalogFormsUptoRow.laid W:=h0
 obtain ⟨ps,hl0,hnd,hrows⟩:=h
 obtain ⟨pre0,z0,hz0,f0⟩:=laid_skip hl0
 have htz:=tab_of_laid hz0
 obtain ⟨pre1,z1,hz1,f1⟩:=laid_skip hz0
 obtain ⟨pre2,z2,hz2,f2⟩:=laid_skip hz1
 have hsub3:∀ x ∈ z2,x ∈ ps:=fun x hx=>by rw [f0,f1,f2]; simp [hx]
 have hnd3:z2.Nodup:=by
  rw [f0,f1,f2] at hnd
  exact List.Nodup.sublist ((List.sublist_append_right _ _).trans ((List.sublist_append_right _ _).trans (List.sublist_append_right _ _))) hnd
 obtain ⟨b0,q0,v0,o0,s0,hl1,e0⟩:=laid_step (W:=W) (i:=14) (by kernel_rfl) (by kernel_rfl) hz2 (fun x hx=>hsub3 x hx) hrows
 obtain ⟨b1,q1,v1,o1,s1,hl2,e1⟩:=laid_step (W:=W) (i:=13) (by kernel_rfl) (by kernel_rfl) hl1 (fun x hx=>hsub3 x (by rw [e0]; simp [hx])) hrows
 obtain ⟨a0,q2,v2,o2,s2,hl3,e2⟩:=laid_step (W:=W) (i:=10) (by kernel_rfl) (by kernel_rfl) hl2 (fun x hx=>hsub3 x (by rw [e0,e1]; simp [hx])) hrows
 obtain ⟨a1,q3,v3,o3,s3,hl4,e3⟩:=laid_step (W:=W) (i:=0) (by kernel_rfl) (by kernel_rfl) hl3 (fun x hx=>hsub3 x (by rw [e0,e1,e2]; simp [hx])) hrows
 obtain ⟨a2,q4,v4,o4,s4,hl5,e4⟩:=laid_step (W:=W) (i:=6) (by kernel_rfl) (by kernel_rfl) hl4 (fun x hx=>hsub3 x (by rw [e0,e1,e2,e3]; simp [hx])) hrows
 obtain ⟨a3,q5,v5,o5,s5,hl6,e5⟩:=laid_step (W:=W) (i:=7) (by kernel_rfl) (by kernel_rfl) hl5 (fun x hx=>hsub3 x (by rw [e0,e1,e2,e3,e4]; simp [hx])) hrows
 obtain ⟨a4,q6,v6,o6,s6,hl7,e6⟩:=laid_step (W:=W) (i:=3) (by kernel_rfl) (by kernel_rfl) hl6 (fun x hx=>hsub3 x (by rw [e0,e1,e2,e3,e4,e5]; simp [hx])) hrows
 obtain ⟨a5,q7,v7,o7,s7,hl8,e7⟩:=laid_step (W:=W) (i:=2) (by kernel_rfl) (by kernel_rfl) hl7 (fun x hx=>hsub3 x (by rw [e0,e1,e2,e3,e4,e5,e6]; simp [hx])) hrows
 obtain ⟨a6,q8,v8,o8,s8,hl9,e8⟩:=laid_step (W:=W) (i:=4) (by kernel_rfl) (by kernel_rfl) hl8 (fun x hx=>hsub3 x (by rw [e0,e1,e2,e3,e4,e5,e6,e7]; simp [hx])) hrows
 obtain ⟨a7,q9,v9,o9,s9,hl10,e9⟩:=laid_step (W:=W) (i:=8) (by kernel_rfl) (by kernel_rfl) hl9 (fun x hx=>hsub3 x (by rw [e0,e1,e2,e3,e4,e5,e6,e7,e8]; simp [hx])) hrows
 obtain ⟨a8,q10,v10,o10,s10,hl11,e10⟩:=laid_step (W:=W) (i:=9) (by kernel_rfl) (by kernel_rfl) hl10 (fun x hx=>hsub3 x (by rw [e0,e1,e2,e3,e4,e5,e6,e7,e8,e9]; simp [hx])) hrows
 obtain ⟨a9,q11,v11,o11,s11,hl12,e11⟩:=laid_step (W:=W) (i:=1) (by kernel_rfl) (by kernel_rfl) hl11 (fun x hx=>hsub3 x (by rw [e0,e1,e2,e3,e4,e5,e6,e7,e8,e9,e10]; simp [hx])) hrows
 obtain ⟨a10,q12,v12,o12,s12,hl13,e12⟩:=laid_step (W:=W) (i:=5) (by kernel_rfl) (by kernel_rfl) hl12 (fun x hx=>hsub3 x (by rw [e0,e1,e2,e3,e4,e5,e6,e7,e8,e9,e10,e11]; simp [hx])) hrows
 rw [e0,e1,e2,e3,e4,e5,e6,e7,e8,e9,e10,e11,e12] at hnd3
 have hsub:([a0,a1,a2,a3,a4,a5,a6,a7,a8,a9,a10].map fun a=>MemPlace.cell a.block a.off).Nodup:=List.Nodup.sublist (.cons _ (.cons _ (.cons _ (.cons _ (.cons _ (.cons_cons _ (.cons _ (.cons_cons _ (.cons _ (.cons_cons _ (.cons _ (.cons_cons _ (.cons _ (.cons_cons _ (.cons _ (.cons_cons _ (.cons _ (.cons_cons _ (.cons _ (.cons_cons _ (.cons _ (.cons_cons _ (.cons _ (.cons_cons _ (.cons _ (.cons_cons _ (List.nil_sublist _))))))))))))))))))))))))))) hnd3
 have hL:[a0,a1,a2,a3,a4,a5,a6,a7,a8,a9,a10].Nodup:=(List.pairwise_map.1 hsub).imp (fun {a b} hab e=>hab (by rw [e]))
 have hne:∀ i j:Nat,i < 11 → j < 11 → (fun k=>#[a0,a1,a2,a3,a4,a5,a6,a7,a8,a9,a10].getD k a0) i = (fun k=>#[a0,a1,a2,a3,a4,a5,a6,a7,a8,a9,a10].getD k a0) j → i = j:=fun i j hi hj e=>by
  have e1:∀ k (hk:k < 11),#[a0,a1,a2,a3,a4,a5,a6,a7,a8,a9,a10].getD k a0 = [a0,a1,a2,a3,a4,a5,a6,a7,a8,a9,a10][k]'(by simpa using hk):=fun k hk=>by simp [Array.getD,hk]
  simp only [e1 i hi,e1 j hj] at e
  have hp:=List.pairwise_iff_getElem.1 hL
  rcases Nat.lt_trichotomy i j with h | h | h
  ·exact absurd e (hp i j _ _ h)
  ·exact h
  ·exact absurd e.symm (hp j i _ _ h)
 have hz16:=htz.2
 refine ⟨fun k=>#[a0,a1,a2,a3,a4,a5,a6,a7,a8,a9,a10].getD k a0,⟨⟨fun i hi=>?_,fun i hi=>?_,hne⟩,?_,fun i hi=>?_,Nat.le_refl _⟩,⟨htz,⟨_,_,v1⟩,⟨_,_,v0⟩⟩,by omega⟩
 ·match i,hi with
  | 0,_=>exact v2
  | 1,_=>exact v3
  | 2,_=>exact v4
  | 3,_=>exact v5
  | 4,_=>exact v6
  | 5,_=>exact v7
  | 6,_=>exact v8
  | 7,_=>exact v9
  | 8,_=>exact v10
  | 9,_=>exact v11
  | 10,_=>exact v12
 ·match i,hi with
  | 0,_=>exact o2
  | 1,_=>exact o3
  | 2,_=>exact o4
  | 3,_=>exact o5
  | 4,_=>exact o6
  | 5,_=>exact o7
  | 6,_=>exact o8
  | 7,_=>exact o9
  | 8,_=>exact o10
  | 9,_=>exact o11
  | 10,_=>exact o12
 ·have:=World.block_lt_of_cell? W _ v2
  exact this
 ·match i,hi with
  | 0,_=>exact (by obtain ⟨c,t,ho⟩:=o2; exact ltB ho)
  | 1,_=>exact (by obtain ⟨c,t,ho⟩:=o3; exact ltB ho)
  | 2,_=>exact (by obtain ⟨c,t,ho⟩:=o4; exact ltB ho)
  | 3,_=>exact (by obtain ⟨c,t,ho⟩:=o5; exact ltB ho)
  | 4,_=>exact (by obtain ⟨c,t,ho⟩:=o6; exact ltB ho)
  | 5,_=>exact (by obtain ⟨c,t,ho⟩:=o7; exact ltB ho)
  | 6,_=>exact (by obtain ⟨c,t,ho⟩:=o8; exact ltB ho)
  | 7,_=>exact (by obtain ⟨c,t,ho⟩:=o9; exact ltB ho)
  | 8,_=>exact (by obtain ⟨c,t,ho⟩:=o10; exact ltB ho)
  | 9,_=>exact (by obtain ⟨c,t,ho⟩:=o11; exact ltB ho)
  | 10,_=>exact (by obtain ⟨c,t,ho⟩:=o12; exact ltB ho)
theorem u64_wf {n:Int} (h:(Lit.int .u64 n).wf = true):0 ≤ n ∧ n ≤ 18446744073709551615:=by
 have e1:IntKind.u64.min = 0:=rfl
 have e2:IntKind.u64.max = 18446744073709551615:=rfl
 simpa [Lit.wf,e1,e2] using h
theorem i64_rng {n:Int} (h:(Lit.int .i64 n).wf = true):-9223372036854775808 ≤ n ∧ n < 9223372036854775808:=by
 have e1:IntKind.i64.min = -9223372036854775808:=rfl
 have e2:IntKind.i64.max = 9223372036854775807:=rfl
 simp [Lit.wf,e1,e2] at h
 omega
section
variable {H:Type} {enc:TypeId × Value → H} {W:World} {spare:Nat → Bool} {held:Bool}
theorem addC0 (a:Addr):a.add 0 = a:=add_nil a
theorem open_row {n:Nat} {a:Addr} {cs:List Value} {x:DataW H × List MemPlace} (h1:W.cells? 0 a 2 = some cs) (h2:DataW.trod enc Tryz.prog W 0 spare held n 45 cs = some x) :
  ∃ r:Int × Nat,(-9223372036854775808 ≤ r.1 ∧ r.1 < 9223372036854775808) ∧ r.2 < 18446744073709551616 ∧ a.block < W.heap.size ∧ W.cell? a = some (.int .i64 r.1) ∧ W.cell? ⟨a.block,a.off + 1,none⟩ = some (.int .u64 (r.2:Int)):=by
 have hm:(List.range 2).mapM (fun i=>W.cell? (a.add i)) = some cs:=by
  simpa [World.cells?] using h1
 have g:∀ i,i < 2 → W.cell? (a.add i) = cs[i]?:=fun i hi=>mapM_some_get hm i i (by simp [hi])
 obtain ⟨xs,m,rfl,e2,hl,hxs,hall⟩:=DataW.trod_struct Tryz.underlying45 h2
 rw [cells45] at hl
 match cs,hl with
 | [v0,v1],_ =>
 have f0:=hall 0 _ rfl
 have f1:=hall 1 _ rfl
 simp [cells3,cells24] at f0 f1
 have hx2:xs.length = 2:=by simpa using hxs
 rw [List.getElem?_eq_getElem (by omega)] at f0 f1
 obtain ⟨n0,q0,_,w0⟩:=DataW.trod_int Tryz.underlying3 f0
 obtain ⟨n1,q1,_,w1⟩:=DataW.trod_int Tryz.underlying24 f1
 simp at q0 q1
 subst q0
 subst q1
 have w0:=i64_rng w0
 have w1:=u64_wf w1
 have g0:=g 0 (by omega)
 have g1:=g 1 (by omega)
 have hs1:=World.cell?_spot g0
 obtain ⟨b,off,spot⟩:=a
 have hsn:spot = none:=by simpa [Addr.add] using hs1
 subst hsn
 rw [addC] at g0 g1
 have hlt:b < W.heap.size:=by simpa using World.block_lt_of_cell? W _ g0
 refine ⟨(n0,n1.toNat),w0,by show n1.toNat < _; omega,hlt,by simpa using g0,?_⟩
 show _ = some (Value.int .u64 ((n1.toNat:Nat):Int))
 rw [Int.toNat_of_nonneg w1.1]
 simpa using g1
theorem open_rws {fuel:Nat} {v:Value} {x:DataW H × List MemPlace} (hf:DataW.trod enc Tryz.prog W 0 spare held fuel 23 [v] = some x) (hk:Rows.uptoBulk x.1 ≤ 1048576) :
  ∃ (sa:Option Addr) (ca:Nat) (l:List (Int × Nat)),v = .slice sa l.length ca ∧ RowsAt W sa l ∧ l.length ≤ 1048576 ∧ ∀ x ∈ l,(-9223372036854775808 ≤ x.1 ∧ x.1 < 9223372036854775808) ∧ x.2 < 18446744073709551616:=by
 rcases open_slice Tryz.underlying23 hf with ⟨hcs,hx⟩ | ⟨a,len,cap,m,n,D,Pl,hcs,_,hl,hm,hmm,hx,hall⟩
 ·simp at hcs
  subst hcs
  exact ⟨none,0,[],rfl,RowsAt.nil _ _,Nat.zero_le _,fun x hx=>by cases hx⟩
 ·simp at hcs
  subst hcs
  rw [cells45] at hx hall
  subst hx
  have hlm:len ≤ m:=by rw [hmm]; split <;> omega
  have hb1:Rows.uptoBulkAll ((List.range len).map D) ≤ 1048576:=by
   simp only [Rows.uptoBulk] at hk
   omega
  have hlen2:=bulk_length ((List.range len).map D)
  simp only [List.length_map,List.length_range] at hlen2
  have each:∀ i,i < len → ∃ r:Int × Nat,(-9223372036854775808 ≤ r.1 ∧ r.1 < 9223372036854775808) ∧ r.2 < 18446744073709551616 ∧ (a.add (i * 2)).block < W.heap.size ∧ W.cell? (a.add (i * 2)) = some (.int .i64 r.1) ∧ W.cell? ⟨(a.add (i * 2)).block,(a.add (i * 2)).off + 1,none⟩ = some (.int .u64 (r.2:Int)):=fun i hi=>by
   obtain ⟨cs',h1,h2⟩:=hall i (by omega)
   exact open_row h1 h2
  obtain ⟨f,hf⟩:=choose_lt each
  have hlen:((List.range len).map f).length = len:=by simp
  refine ⟨some a,cap,(List.range len).map f,by rw [hlen],⟨fun k hk=>?_⟩,by rw [hlen]; omega,fun y hy=>?_⟩
  ·rw [hlen] at hk
   obtain ⟨_,_,h0,c0,c1⟩:=hf k hk
   rw [add_block] at h0
   exact ⟨a,rfl,h0,by simpa using c0,by simpa using c1⟩
  ·obtain ⟨k,hk,rfl⟩:=List.mem_map.1 hy
   have:=hf k (List.mem_range.1 hk)
   exact ⟨this.1,this.2.1⟩
theorem open_nums {fuel:Nat} {v:Value} {x:DataW H × List MemPlace} (hf:DataW.trod enc Tryz.prog W 0 spare held fuel 22 [v] = some x) (hk:Rows.uptoBulk x.1 ≤ 1048576) :
  ∃ (sa:Option Addr) (ca:Nat) (l:List Int),v = .slice sa l.length ca ∧ IntsAt W sa l ∧ l.length ≤ 1048576 ∧ ∀ x ∈ l,-9223372036854775808 ≤ x ∧ x < 9223372036854775808:=by
 rcases open_slice Tryz.underlying22 hf with ⟨hcs,hx⟩ | ⟨a,len,cap,m,n,D,Pl,hcs,_,hl,hm,hmm,hx,hall⟩
 ·simp at hcs
  subst hcs
  exact ⟨none,0,[],rfl,IntsAt.nil _ _,Nat.zero_le _,fun x hx=>by cases hx⟩
 ·simp at hcs
  subst hcs
  rw [cells3] at hx hall
  subst hx
  have hlm:len ≤ m:=by rw [hmm]; split <;> omega
  have hb1:Rows.uptoBulkAll ((List.range len).map D) ≤ 1048576:=by
   simp only [Rows.uptoBulk] at hk
   omega
  have hlen2:=bulk_length ((List.range len).map D)
  simp only [List.length_map,List.length_range] at hlen2
  have each:∀ i,i < len → ∃ r:Int,(-9223372036854775808 ≤ r ∧ r < 9223372036854775808) ∧ (a.add i).block < W.heap.size ∧ W.cell? (a.add i) = some (.int .i64 r):=fun i hi=>by
   obtain ⟨cs',h1,h2⟩:=hall i (by omega)
   obtain ⟨z,e0,_,w0⟩:=DataW.trod_int Tryz.underlying3 h2
   subst e0
   have h3:W.cell? (a.add i) = some (.int .i64 z):=by
    simp [World.cells?,Nat.mul_one,addC0] at h1
    cases hq:W.cell? (a.add i) with
    | none=>rw [hq] at h1; cases h1
    | some u =>
     rw [hq] at h1
     simp at h1
     rw [h1]
   exact ⟨z,i64_rng w0,World.block_lt_of_cell? W _ h3,h3⟩
  obtain ⟨f,hf⟩:=choose_lt each
  have hlen:((List.range len).map f).length = len:=by simp
  refine ⟨some a,cap,(List.range len).map f,by rw [hlen],⟨fun k hk=>?_⟩,by rw [hlen]; omega,fun y hy=>?_⟩
  ·rw [hlen] at hk
   obtain ⟨_,h0,c0⟩:=hf k hk
   rw [add_block] at h0
   exact ⟨a,rfl,h0,by simpa using c0⟩
  ·obtain ⟨k,hk,rfl⟩:=List.mem_map.1 hy
   exact (hf k (List.mem_range.1 hk)).1
theorem open_tbl {v:Value} {d:DataW H} {ps:List MemPlace} {base:Nat} (hval:Value.okWide Tryz.prog W .any base 26 v) (h:DataW.Trod enc Tryz.prog W 0 spare held 26 v d ps) (hk:Rows.uptoBulk d ≤ 1048576) :
  ∃ (t:Tbl) (so sr:Option Addr) (co cr:Nat),v = tblV t so sr co cr ∧ TblAt W t so sr:=by
 obtain ⟨cs,rfl,hcs⟩:=okWide_struct Tryz.underlying26 hval
 obtain ⟨fuel,hf⟩:=h
 obtain ⟨xs,k,rfl,hx,hl,hxs,hall⟩:=DataW.trod_struct Tryz.underlying26 hf
 rw [cells26] at hcs
 obtain ⟨v0,v1,v2,v3,v4,rfl⟩:∃ v0 v1 v2 v3 v4,cs = #[v0,v1,v2,v3,v4]:=by
  obtain ⟨l⟩:=cs
  match l,hcs with
  | [v0,v1,v2,v3,v4],_=>exact ⟨v0,v1,v2,v3,v4,rfl⟩
 have f0:=hall 0 _ rfl
 have f1:=hall 1 _ rfl
 have f2:=hall 2 _ rfl
 have f3:=hall 3 _ rfl
 have f4:=hall 4 _ rfl
 simp [Value.cells,cells3,cells22,cells23,cells24] at f0 f1 f2 f3 f4
 have hx5:xs.length = 5:=by simpa using hxs
 rw [List.getElem?_eq_getElem (by omega)] at f0 f1 f2 f3 f4
 obtain ⟨rfl,-⟩:=Prod.mk.inj hx
 simp only [Rows.uptoBulk] at hk
 have b1:=bulk_part (H:=H) (d:=(xs[1]'(by omega)).1) (l:=xs.map (·.1)) (List.mem_map.2 ⟨_,List.getElem_mem _,rfl⟩)
 have b2:=bulk_part (H:=H) (d:=(xs[2]'(by omega)).1) (l:=xs.map (·.1)) (List.mem_map.2 ⟨_,List.getElem_mem _,rfl⟩)
 obtain ⟨n0,e0,_,w0⟩:=DataW.trod_int Tryz.underlying3 f0
 obtain ⟨n3,e3,_,w3⟩:=DataW.trod_int Tryz.underlying3 f3
 obtain ⟨n4,e4,_,w4⟩:=DataW.trod_int Tryz.underlying24 f4
 obtain ⟨so,co,o,e1,ho,hol,hoi⟩:=open_nums f1 (by omega)
 obtain ⟨sr,cr,l,e2,hr,hrl,hri⟩:=open_rws f2 (by omega)
 simp at e0 e3 e4
 subst e0 e1 e2 e3 e4
 have w4:=u64_wf w4
 refine ⟨⟨n0,o,l,n3,n4.toNat⟩,so,sr,co,cr,?_,⟨ho,hr,hol,hrl,i64_rng w0,i64_rng w3,by show n4.toNat < _; omega,hoi,hri⟩⟩
 show _ = Value.agg #[.int .i64 n0,.slice so o.length co,.slice sr l.length cr,.int .i64 n3,.int .u64 ((n4.toNat:Nat):Int)]
 rw [Int.toNat_of_nonneg w4.1]
end
theorem genN_file (u:Nat):genN (fileN u) = 0:=by
 have h1:trimC (fileN u) = fileN u:=by
  unfold trimC fileN
  rw [if_neg]
  simp
 have h2:(parU (fileN u)).2 = 2:=by
  have d1:digH (100:UInt8).toNat = 13:=by decide
  have d2:digH (45:UInt8).toNat = 36:=by decide
  have e:fileN u = 100 :: 100 :: 45 :: PureHex.hexW 16 u:=by unfold fileN; simp only [List.cons_append,List.nil_append]
  rw [e]
  generalize PureHex.hexW 16 u = r
  unfold parU
  rw [if_neg (List.cons_ne_nil _ _),parH_on (n:=0) (c:=100) (by rw [d1]; omega) (by omega),d1,parH_on (n:=0 * 16 + 13) (c:=100) (by rw [d1]; omega) (by omega),d1,parH_dig (c:=45) (by rw [d2]; omega)]
 unfold genN
 rw [h1,h2]
 rw [if_neg (by simp)]
theorem nameFile (u:Nat):nameB (bs (fileN u)) = true:=by
 have h1:(bs (fileN u)).size = 19:=by
  show (fileN u).toArray.size = 19
  rw [List.size_toArray,fileN_len]
 have h2:(bs (fileN u)).data.toList.all (fun c=>nbB c.toNat) = true:=by
  show (fileN u).all _ = true
  rw [List.all_eq_true]
  intro c hc
  unfold fileN at hc
  rcases List.mem_append.1 hc with h | h
  ·simp only [List.mem_cons,List.not_mem_nil,or_false] at h
   rcases h with rfl | rfl | rfl <;> rfl
  ·exact hexW_name _ _ c h
 unfold nameB
 rw [h1,h2]
 rfl
theorem find_mem {k:List UInt8} {f:FlA}:∀ {l:List (List UInt8 × FlA)},(l.Pairwise fun a b=>a.1 ≠ b.1) → (k,f) ∈ l → findA l k = some f
 | [],_,h=>by cases h
 | a :: l,hp,h=>by
  rw [List.pairwise_cons] at hp
  rcases List.mem_cons.1 h with rfl | h
  ·simp [findA]
  ·have hne:a.1 ≠ k:=hp.1 _ h
   have:=find_mem hp.2 h
   simpa [findA,hne] using this
theorem mem_find {k:List UInt8} {f:FlA}:∀ {l:List (List UInt8 × FlA)},findA l k = some f → (k,f) ∈ l
 | [],h=>by simp [findA] at h
 | a :: l,h=>by
  by_cases ha:a.1 = k
  ·have hf:f = a.2:=by simp [findA,ha] at h; exact h.symm
   subst hf
   subst ha
   exact List.mem_cons_self
  ·have h':findA l k = some f:=by simpa [findA,ha] using h
   exact List.mem_cons_of_mem _ (mem_find h')
theorem mem_ins {e x:List UInt8 × FlA} {l:List (List UInt8 × FlA)}:x ∈ insA e l ↔ x = e ∨ x ∈ l:=by
 rw [(perm_ins e l).mem_iff,List.mem_cons]
theorem find_drop {k k':List UInt8} (h:k' ≠ k):∀ {l:List (List UInt8 × FlA)},findA (dropA k l) k' = findA l k'
 | []=>rfl
 | a :: l=>by
  have ih:=find_drop h (l:=l)
  unfold dropA at ih ⊢
  rw [List.filter_cons]
  by_cases ha:a.1 = k
  ·rw [if_neg (by simp [ha]),ih]
   simp [findA,ha,Ne.symm h]
  ·rw [if_pos (by simp [ha])]
   by_cases hb:a.1 = k'
   ·simp [findA,hb]
   ·simpa [findA,hb] using ih
theorem delete_x {A:PubA} {x:ByteArray} (ho:A.on = true) (hn:nameB x = true) {f:FlA} (hf:findA A.files (nm x) = some f):deleteB x noTr A = (0,{ A with files:=dropA (nm x) A.files,c:={ A.c with calls:=A.c.calls + 1,used:=A.c.used - f.blocks.length,most:=max A.c.most (A.c.used - f.blocks.length) } }):=by
 have e:deleteA x A = (0,{ A with files:=dropA (nm x) A.files,c:={ A.c with calls:=A.c.calls + 1,used:=A.c.used - f.blocks.length,most:=max A.c.most (A.c.used - f.blocks.length) } }):=by
  unfold deleteA
  rw [if_pos hn,hf]
 unfold deleteB befX
 rw [if_pos ho,e]
 simp
theorem tidyL_all {b:Bn} (hb:b.l = []) {kept:List (List UInt8)}:∀ (l:List ByteArray) (A:PubA),A.on = true → (∀ x ∈ l,nameB x = true) → (l.map nm).Nodup → (∀ x ∈ l,(findA A.files (nm x)).isSome = true) →
  ∃ A2,tidyL b kept l A = (0,A2) ∧ A2.on = true ∧ A2.B = A.B ∧ A2.Bs = A.Bs ∧ A2.c.used ≤ A.c.used ∧ A2.files = A.files.filter fun e=>decide (e.1 ∈ kept) || !decide (e.1 ∈ l.map nm)
 | [],A,ho,_,_,_=>⟨A,rfl,ho,rfl,rfl,Int.le_refl _,(List.filter_eq_self.2 (by simp)).symm⟩
 | x :: r,A,ho,hn,hd,hf=>by
  rw [List.map_cons,List.nodup_cons] at hd
  by_cases hk:nm x ∈ kept
  ·obtain ⟨A2,h1,h2,h3,h4,h5,h6⟩:=tidyL_all hb r A ho (fun y hy=>hn y (by simp [hy])) hd.2 (fun y hy=>hf y (by simp [hy]))
   refine ⟨A2,by rw [tidyL_kept hk]; exact h1,h2,h3,h4,h5,?_⟩
   rw [h6]
   apply List.filter_congr
   intro e he
   by_cases hx:e.1 = nm x
   ·rw [hx]; simp [hk]
   ·simp [hx]
  ·obtain ⟨f,hff⟩:=Option.isSome_iff_exists.1 (hf x (by simp))
   have hdel:=delete_x ho (hn x (by simp)) hff
   have htr:b.tr A = noTr:=tr_nil hb A
   obtain ⟨A2,h1,h2,h3,h4,h5,h6⟩:=tidyL_all hb r { A with files:=dropA (nm x) A.files,c:={ A.c with calls:=A.c.calls + 1,used:=A.c.used - f.blocks.length,most:=max A.c.most (A.c.used - f.blocks.length) } } ho (fun y hy=>hn y (by simp [hy])) hd.2 (fun y hy=>by
    have hne:nm y ≠ nm x:=fun e=>hd.1 (by rw [← e]; exact List.mem_map.2 ⟨y,hy,rfl⟩)
    show (findA (dropA (nm x) A.files) (nm y)).isSome = true
    rw [find_drop hne]
    exact hf y (by simp [hy]))
   refine ⟨A2,?_,h2,h3,h4,?_,?_⟩
   ·rw [tidyL_on hk (by rw [htr,hdel]),htr,hdel]
    exact h1
   ·have:A2.c.used ≤ A.c.used - (f.blocks.length:Int):=h5
    omega
   ·rw [h6]
    show (dropA (nm x) A.files).filter _ = _
    unfold dropA
    rw [List.filter_filter]
    apply List.filter_congr
    intro e he
    by_cases hx:e.1 = nm x
    ·simp [hx,hk]
    ·simp [hx]
theorem map_names {A:PubA} (ho:A.on = true):(namesA A).map nm = A.files.map Prod.fst:=by
 unfold namesA
 rw [if_pos ho,List.map_map]
 rfl
theorem tidyB_all {b:Bn} (hb:b.l = []) {kept:List (List UInt8)} {A:PubA} (ho:A.on = true) (hr:Rise A.files) (hn:∀ e ∈ A.files,nameB (bs e.1) = true) :
  ∃ A2,tidyB b kept A = (0,A2) ∧ A2.on = true ∧ A2.B = A.B ∧ A2.Bs = A.Bs ∧ A2.c.used ≤ A.c.used ∧ A2.files = A.files.filter fun e=>decide (e.1 ∈ kept):=by
 have hne:=hr.ne
 obtain ⟨A2,h1,h2,h3,h4,h5,h6⟩:=tidyL_all hb (kept:=kept) (namesA A) A ho (fun x hx=>by
  unfold namesA at hx
  rw [if_pos ho] at hx
  obtain ⟨e,he,rfl⟩:=List.mem_map.1 hx
  exact hn e he) (by rw [map_names ho]; exact List.pairwise_map.2 hne) (fun x hx=>by
  unfold namesA at hx
  rw [if_pos ho] at hx
  obtain ⟨e,he,rfl⟩:=List.mem_map.1 hx
  rw [nm_bs,find_mem hne (f:=e.2) he]
  rfl)
 refine ⟨A2,h1,h2,h3,h4,h5,?_⟩
 rw [h6]
 apply List.filter_congr
 intro e he
 have:e.1 ∈ (namesA A).map nm:=by rw [map_names ho]; exact List.mem_map.2 ⟨e,he,rfl⟩
 simp [this]
theorem fold_newest {A:PubA} {G:Nat}:∀ (l:List ByteArray) (m:Nat),m ≤ G → (∀ x ∈ l,genN (nm x) ≤ G) → (m = G ∨ ∃ x ∈ l,genN (nm x) = G ∧ (lnB x A).2.2 = 0 ∧ (lnB x A).2.1 = true) → l.foldl (stepN A) m = G
 | [],m,_,_,h=>by
  rcases h with h | ⟨x,hx,_⟩
  ·exact h
  ·cases hx
 | x :: r,m,hm,hl,h=>by
  have hx:=hl x (by simp)
  show r.foldl (stepN A) (stepN A m x) = G
  refine fold_newest r _ ?_ (fun y hy=>hl y (by simp [hy])) ?_
  ·unfold stepN
   split
   ·exact hx
   ·exact hm
  ·rcases h with h | ⟨y,hy,h1,h2,h3⟩
   ·subst h
    left
    unfold stepN
    rw [if_neg (by omega)]
   ·rcases List.mem_cons.1 hy with rfl | hy
    ·left
     unfold stepN
     split
     ·exact h1
     ·next hc =>
      have:¬ m < genN (nm y):=fun hlt=>hc ⟨hlt,h2,h3⟩
      omega
    ·exact .inr ⟨y,hy,h1,h2,h3⟩
section
variable {A:PubA} {B g i u:Nat} {b:Bn}
theorem mem_namesA {x:ByteArray} (ho:A.on = true) (hx:x ∈ namesA A):∃ e ∈ A.files,x = bs e.1:=by
 unfold namesA at hx
 rw [if_pos ho] at hx
 obtain ⟨e,he,rfl⟩:=List.mem_map.1 hx
 exact ⟨e,he,rfl⟩
end
section
variable {A:PubA} {B g i u K:Nat} {b:Bn} {t:Tbl}
abbrev blsT (K B:Nat) (t:Tbl) (g:Nat):List (List UInt8):=bkO 5 K B (recsN t g) (nBk K (recsN t g).length)
theorem blsT_few (hK:1 ≤ K) (hf:FormedIs t):(blsT K B t g).length ≤ 70000:=by
 have hl:(recsN t g).length ≤ 70000:=by
  rw [recsN_len]
  have:=hf.vars.2
  have:=hf.rows
  omega
 rw [blocksOf_length]
 unfold nBk
 calc ((recsN t g).length + K - 1) / K ≤ ((recsN t g).length * K) / K:=by
         apply Nat.div_le_div_right
         have h1:1 ≤ (recsN t g).length:=by rw [recsN_len]; omega
         obtain ⟨a,ha⟩:∃ a,(recsN t g).length = a + 1:=⟨_,(Nat.sub_add_cancel h1).symm⟩
         obtain ⟨c,hc⟩:∃ c,K = c + 1:=⟨_,(Nat.sub_add_cancel hK).symm⟩
         rw [ha,hc,Nat.add_mul,Nat.mul_add]
         omega
  _ = (recsN t g).length:=Nat.mul_div_cancel _ (by omega)
  _ ≤ 70000:=hl
end
theorem block_pos {n:Int} (h0:0 ≤ n) (h1:n < 9223372036854775808) (w:World):Calls Tryz.prog 15 #[.int .i64 n] w fun e w'=>e = .returned (.int .i64 (64 + 32 * (n % 40))) ∧ w' = w:=by
 have a1:¬ n < 0:=by omega
 have hm:n.tmod 40 = n % 40:=Int.tmod_eq_emod_of_nonneg h0
 have h2:=Int.emod_nonneg n (show (40:Int) ≠ 0 by omega)
 have h3:=Int.emod_lt_of_pos n (show (0:Int) < 40 by omega)
 have hw1:IntKind.i64.wrap (32 * (n % 40)) = 32 * (n % 40):=by rw [IntKind.wrap_i64]; omega
 have hw2:IntKind.i64.wrap (64 + 32 * (n % 40)) = 64 + 32 * (n % 40):=by rw [IntKind.wrap_i64]; omega
 go_enter Tryz.func15,Tryz.ntmps15
 go_wp2
 go_ret
 exact ⟨rfl,rfl⟩
theorem block_neg {n:Int} (h0:n < 0) (h1:-9223372036854775808 ≤ n) (w:World):Calls Tryz.prog 15 #[.int .i64 n] w fun e w'=>e = .returned (.int .i64 (64 + 32 * ((-(n + 1)) % 40))) ∧ w' = w:=by
 have hw0:IntKind.i64.wrap (n + 1) = n + 1:=by rw [IntKind.wrap_i64]; omega
 have hw3:IntKind.i64.wrap (-(n + 1)) = -(n + 1):=by rw [IntKind.wrap_i64]; omega
 have h2:=Int.emod_nonneg (-(n + 1)) (show (40:Int) ≠ 0 by omega)
 have h3:=Int.emod_lt_of_pos (-(n + 1)) (show (0:Int) < 40 by omega)
 have hm:(-(n + 1)).tmod 40 = (-(n + 1)) % 40:=Int.tmod_eq_emod_of_nonneg (by omega)
 have hw1:wrap64 (32 * ((-(n + 1)) % 40)) = 32 * ((-(n + 1)) % 40):=by have:=IntKind.wrap_i64 (32 * ((-(n + 1)) % 40)); unfold wrap64; omega
 have hw2:wrap64 (64 + 32 * ((-(n + 1)) % 40)) = 64 + 32 * ((-(n + 1)) % 40):=by unfold wrap64; omega
 go_enter Tryz.func15,Tryz.ntmps15
 go_wp2
 go_ret
 exact ⟨rfl,rfl⟩
theorem block_any {n:Int} (h:-9223372036854775808 ≤ n ∧ n < 9223372036854775808) (w:World):∃ B:Nat,(64 ≤ B ∧ B ≤ 65536 ∧ B % 32 = 0 ∧ B ≤ 1312) ∧ Calls Tryz.prog 15 #[.int .i64 n] w fun e w'=>e = .returned (.int .i64 (B:Int)) ∧ w' = w:=by
 by_cases h0:n < 0
 ·have h2:=Int.emod_nonneg (-(n + 1)) (show (40:Int) ≠ 0 by omega)
  have h3:=Int.emod_lt_of_pos (-(n + 1)) (show (0:Int) < 40 by omega)
  refine ⟨(64 + 32 * ((-(n + 1)) % 40)).toNat,by omega,?_⟩
  rw [Int.toNat_of_nonneg (by omega)]
  exact block_neg h0 h.1 w
 ·have h2:=Int.emod_nonneg n (show (40:Int) ≠ 0 by omega)
  have h3:=Int.emod_lt_of_pos n (show (0:Int) < 40 by omega)
  refine ⟨(64 + 32 * (n % 40)).toNat,by omega,?_⟩
  rw [Int.toNat_of_nonneg (by omega)]
  exact block_pos (by omega) h.2 w
structure TbI where
 t:Tbl
 so:Option Addr
 sr:Option Addr
 co:Nat
 cr:Nat
theorem file_str (u:Nat):Nm.str ([100,100,45] ++ PureHex.hexW 16 u) = .string (bs (fileN u)):=by
 unfold fileN
 generalize [100,100,45] ++ PureHex.hexW 16 u = x
 rfl
theorem cat_str (u:Nat):Nm.str ([99,97,116,45] ++ PureHex.hexW 16 u) = .string (bs (catN u)):=by
 unfold catN
 generalize [99,97,116,45] ++ PureHex.hexW 16 u = x
 rfl
section
variable {w:World}
end
section
variable {H:Type} {enc:TypeId × Value → H} {W:World} {spare:Nat → Bool} {held:Bool}
theorem tbl_below {t:Tbl} {so sr:Option Addr} (h:TblAt W t so sr):(∀ c,so = some c → t.order ≠ [] → c.block < W.heap.size) ∧ (∀ c,sr = some c → t.rows ≠ [] → c.block < W.heap.size):=by
 refine ⟨fun c hc hne=>?_,fun c hc hne=>?_⟩
 ·obtain ⟨a,e,h1,_⟩:=h.ints.at_ 0 (List.length_pos_iff.2 hne)
  rw [hc] at e
  cases e
  exact h1
 ·obtain ⟨a,e,h1,_⟩:=h.rows.at_ 0 (List.length_pos_iff.2 hne)
  rw [hc] at e
  cases e
  exact h1
end
end Go.Proofs.YthehcjjckabljaaGreatDoor
