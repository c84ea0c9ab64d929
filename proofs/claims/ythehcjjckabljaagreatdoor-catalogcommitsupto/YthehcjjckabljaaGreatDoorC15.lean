import Derived.BigQuiet
import Derived.Deep.AppendLies
import Derived.Deep.RegionLaw
import Derived.Deep.RegionWith
import Derived.Deep.RegionHeld3
import Derived.Test.YthehcjjckabljaaGreatDoorC14
namespace Go.Proofs.YthehcjjckabljaaGreatDoor
open Go.RowKit Go.Deep
set_option maxRecDepth 100000
set_option linter.unusedSimpArgs false
set_option linter.unusedVariables false
structure Told where
 list:List (Nat × Nat)
 levels:Nat
 fin:Rc
 none:Bool
def Told.bad:Told:=⟨[],0,(0,0,0,0),true⟩
def Told.new:Told:=⟨[],0,(0,0,0,0),false⟩
def isLevelB (t:Told) (r:Rc):Bool:=decide (r.2.2.1 = 0) && decide (r.2.2.2 = 1) && decide (r.1 = t.levels) && decide (t.levels = t.list.length) && decide (t.levels < 65536)
def isRowB (t:Told) (r:Rc):Bool:=decide (r.2.2.1 = 0) && decide (r.2.2.2 = 2) && decide (t.list.length < t.levels + 1024)
def Told.take (t:Told) (r:Rc):Told:=
 if t.none then t
 else if t.fin.1 = 18446744073709551615 then .bad
 else if r.1 = 18446744073709551615 then { t with fin:=r }
 else if isLevelB t r then { t with levels:=t.levels + 1,list:=t.list ++ [(r.1,r.2.1)] }
 else if isRowB t r then { t with list:=t.list ++ [(r.1,r.2.1)] }
 else .bad
def Rc.Ok (r:Rc):Prop:=r.1 < 18446744073709551616 ∧ r.2.1 < 18446744073709551616 ∧ r.2.2.1 < 18446744073709551616 ∧ r.2.2.2 < 18446744073709551616
structure Told.Ok (t:Told):Prop where
 lv:t.levels ≤ 65536
 le:t.levels ≤ t.list.length
 len:t.list.length ≤ t.levels + 1024
 fin:Rc.Ok t.fin
 prs:∀ p ∈ t.list,p.1 < 18446744073709551616 ∧ p.2 < 18446744073709551616
def pairC (l:List (Nat × Nat)):List Value:=l.flatMap fun p=>[.int .u64 (p.1:Int),.int .u64 (p.2:Int)]
theorem pairC_snoc (l:List (Nat × Nat)) (p:Nat × Nat):pairC (l ++ [p]) = pairC l ++ [.int .u64 (p.1:Int),.int .u64 (p.2:Int)]:=by simp [pairC]
def ToldAt (w:World) (tb:Nat) (gl:List Nat) (t:Told):Prop:=
 ∃ v,w.heap[tb]? = some (.cells #[v,.int .i64 (t.levels:Int),.int .u64 (t.fin.1:Int),.int .u64 (t.fin.2.1:Int),.int .u64 (t.fin.2.2.1:Int),.int .u64 (t.fin.2.2.2:Int),.bool t.none] 186 (0,0)) ∧
  w.ownsRow 0 240 2 v t.list.length (pairC t.list) ∧ gl = v.ownBlock.toList ∧ tb ∉ gl
section
variable {w w':World} {tb:Nat} {gl:List Nat} {t:Told}
set_option maxHeartbeats 400000 in
theorem isLevel_any (h:ToldAt w tb gl t) (ho:t.Ok) (r:Rc) :
  Calls Tryz.prog 158 #[ptr tb,r.val] w fun e w'=>e = .returned (.bool (isLevelB t r)) ∧ Tc [] w w':=by
 obtain ⟨v,hb,hown,-,-⟩:=h
 have hlt:=ltB hb
 have c:=fun i=>cRw hb i
 have hv:∃ sa ca,v = .slice sa t.list.length ca:=by
  rcases hown.2 with ⟨h1,h0⟩ | ⟨g,cap,cur,hv,_⟩
  ·exact ⟨none,0,by rw [h0]; exact h1⟩
  ·exact ⟨_,_,hv⟩
 obtain ⟨sa,ca,rfl⟩:=hv
 have hR:isLevelB t r = (decide (r.2.2.1 = 0) && decide (r.2.2.2 = 1) && decide (r.1 = t.levels) && decide (t.levels = t.list.length) && decide (t.levels < 65536)):=rfl
 generalize isLevelB t r = B at *
 have HR:=hid hR
 clear hR
 have hlv:=ho.lv
 have hln:=ho.len
 obtain ⟨list,levels,fin,no⟩:=t
 obtain ⟨f0,f1,f2,f3⟩:=fin
 obtain ⟨r0,r1,r2,r3⟩:=r
 simp only [Rc.val,recV] at *
 clear hb hown ho
 have e2:((r2:Int) == 0) = decide (r2 = 0):=by rw [Bool.eq_iff_iff]; simp
 have e3:((r3:Int) == 1) = decide (r3 = 1):=by rw [Bool.eq_iff_iff]; simp; omega
 have e0:((r0:Int) == (levels:Int)) = decide (r0 = levels):=by rw [Bool.eq_iff_iff]; simp; omega
 have e4:((levels:Int) == (list.length:Int)) = decide (levels = list.length):=by rw [Bool.eq_iff_iff]; simp; omega
 have e5:decide ((levels:Int) < 65536) = decide (levels < 65536):=by rw [Bool.eq_iff_iff]; simp; omega
 generalize decide (r2 = 0) = b2 at *
 generalize decide (r3 = 1) = b3 at *
 generalize decide (r0 = levels) = b0 at *
 generalize decide (levels = list.length) = b4 at *
 generalize decide (levels < 65536) = b5 at *
 cases b2 with
 | false =>
  go_enter Tryz.func158,Tryz.ntmps158
  go_wp2_with fail
  have ht1:Tc [] w (w.alloc (.cells #[.int .u64 (r0:Int),.int .u64 (r1:Int),.int .u64 (r2:Int),.int .u64 (r3:Int)] 176)):=(Tc.refl [] w).alloc _
  have cb:=fun i=>cRw (heap_alloc_new w (.cells #[.int .u64 (r0:Int),.int .u64 (r1:Int),.int .u64 (r2:Int),.int .u64 (r3:Int)] 176)) i
  have cc:=fun i=>(ht1.cell (p:=⟨tb,i,none⟩) hlt (by simp)).trans (c i)
  generalize w.alloc (.cells #[.int .u64 (r0:Int),.int .u64 (r1:Int),.int .u64 (r2:Int),.int .u64 (r3:Int)] 176) = W1 at *
  generalize w.heap.size = bx at *
  have HT1:=hid ht1
  clear ht1 c hlt
  go_quiet (fail)
  go_wp2_with fail
  go_ret
  exact ⟨by rw [HR.out]; rfl,HT1.out.drewN _⟩
 | true =>
  cases b3 with
  | false =>
   go_enter Tryz.func158,Tryz.ntmps158
   go_wp2_with fail
   have ht1:Tc [] w (w.alloc (.cells #[.int .u64 (r0:Int),.int .u64 (r1:Int),.int .u64 (r2:Int),.int .u64 (r3:Int)] 176)):=(Tc.refl [] w).alloc _
   have cb:=fun i=>cRw (heap_alloc_new w (.cells #[.int .u64 (r0:Int),.int .u64 (r1:Int),.int .u64 (r2:Int),.int .u64 (r3:Int)] 176)) i
   have cc:=fun i=>(ht1.cell (p:=⟨tb,i,none⟩) hlt (by simp)).trans (c i)
   generalize w.alloc (.cells #[.int .u64 (r0:Int),.int .u64 (r1:Int),.int .u64 (r2:Int),.int .u64 (r3:Int)] 176) = W1 at *
   generalize w.heap.size = bx at *
   have HT1:=hid ht1
   clear ht1 c hlt
   go_quiet (fail)
   go_wp2_with fail
   go_ret
   exact ⟨by rw [HR.out]; rfl,HT1.out.drewN _⟩
  | true =>
   cases b0 with
   | false =>
    go_enter Tryz.func158,Tryz.ntmps158
    go_wp2_with fail
    have ht1:Tc [] w (w.alloc (.cells #[.int .u64 (r0:Int),.int .u64 (r1:Int),.int .u64 (r2:Int),.int .u64 (r3:Int)] 176)):=(Tc.refl [] w).alloc _
    have cb:=fun i=>cRw (heap_alloc_new w (.cells #[.int .u64 (r0:Int),.int .u64 (r1:Int),.int .u64 (r2:Int),.int .u64 (r3:Int)] 176)) i
    have cc:=fun i=>(ht1.cell (p:=⟨tb,i,none⟩) hlt (by simp)).trans (c i)
    generalize w.alloc (.cells #[.int .u64 (r0:Int),.int .u64 (r1:Int),.int .u64 (r2:Int),.int .u64 (r3:Int)] 176) = W1 at *
    generalize w.heap.size = bx at *
    have HT1:=hid ht1
    clear ht1 c hlt
    go_quiet (fail)
    go_wp2_with fail
    go_ret
    exact ⟨by rw [HR.out]; rfl,HT1.out.drewN _⟩
   | true =>
    cases b4 with
    | false =>
     go_enter Tryz.func158,Tryz.ntmps158
     go_wp2_with fail
     have ht1:Tc [] w (w.alloc (.cells #[.int .u64 (r0:Int),.int .u64 (r1:Int),.int .u64 (r2:Int),.int .u64 (r3:Int)] 176)):=(Tc.refl [] w).alloc _
     have cb:=fun i=>cRw (heap_alloc_new w (.cells #[.int .u64 (r0:Int),.int .u64 (r1:Int),.int .u64 (r2:Int),.int .u64 (r3:Int)] 176)) i
     have cc:=fun i=>(ht1.cell (p:=⟨tb,i,none⟩) hlt (by simp)).trans (c i)
     generalize w.alloc (.cells #[.int .u64 (r0:Int),.int .u64 (r1:Int),.int .u64 (r2:Int),.int .u64 (r3:Int)] 176) = W1 at *
     generalize w.heap.size = bx at *
     have HT1:=hid ht1
     clear ht1 c hlt
     go_quiet (fail)
     go_wp2_with fail
     go_ret
     exact ⟨by rw [HR.out]; rfl,HT1.out.drewN _⟩
    | true =>
     cases b5 with
     | false =>
      go_enter Tryz.func158,Tryz.ntmps158
      go_wp2_with fail
      have ht1:Tc [] w (w.alloc (.cells #[.int .u64 (r0:Int),.int .u64 (r1:Int),.int .u64 (r2:Int),.int .u64 (r3:Int)] 176)):=(Tc.refl [] w).alloc _
      have cb:=fun i=>cRw (heap_alloc_new w (.cells #[.int .u64 (r0:Int),.int .u64 (r1:Int),.int .u64 (r2:Int),.int .u64 (r3:Int)] 176)) i
      have cc:=fun i=>(ht1.cell (p:=⟨tb,i,none⟩) hlt (by simp)).trans (c i)
      generalize w.alloc (.cells #[.int .u64 (r0:Int),.int .u64 (r1:Int),.int .u64 (r2:Int),.int .u64 (r3:Int)] 176) = W1 at *
      generalize w.heap.size = bx at *
      have HT1:=hid ht1
      clear ht1 c hlt
      go_quiet (fail)
      go_wp2_with fail
      go_ret
      exact ⟨by rw [HR.out]; rfl,HT1.out.drewN _⟩
     | true =>
      go_enter Tryz.func158,Tryz.ntmps158
      go_wp2_with fail
      have ht1:Tc [] w (w.alloc (.cells #[.int .u64 (r0:Int),.int .u64 (r1:Int),.int .u64 (r2:Int),.int .u64 (r3:Int)] 176)):=(Tc.refl [] w).alloc _
      have cb:=fun i=>cRw (heap_alloc_new w (.cells #[.int .u64 (r0:Int),.int .u64 (r1:Int),.int .u64 (r2:Int),.int .u64 (r3:Int)] 176)) i
      have cc:=fun i=>(ht1.cell (p:=⟨tb,i,none⟩) hlt (by simp)).trans (c i)
      generalize w.alloc (.cells #[.int .u64 (r0:Int),.int .u64 (r1:Int),.int .u64 (r2:Int),.int .u64 (r3:Int)] 176) = W1 at *
      generalize w.heap.size = bx at *
      have HT1:=hid ht1
      clear ht1 c hlt
      go_quiet (fail)
      go_wp2_with fail
      go_ret
      exact ⟨by rw [HR.out]; rfl,HT1.out.drewN _⟩
set_option maxHeartbeats 400000 in
theorem isRow_any (h:ToldAt w tb gl t) (ho:t.Ok) (r:Rc) :
  Calls Tryz.prog 159 #[ptr tb,r.val] w fun e w'=>e = .returned (.bool (isRowB t r)) ∧ Tc [] w w':=by
 obtain ⟨v,hb,hown,-,-⟩:=h
 have hlt:=ltB hb
 have c:=fun i=>cRw hb i
 have hv:∃ sa ca,v = .slice sa t.list.length ca:=by
  rcases hown.2 with ⟨h1,h0⟩ | ⟨g,cap,cur,hv,_⟩
  ·exact ⟨none,0,by rw [h0]; exact h1⟩
  ·exact ⟨_,_,hv⟩
 obtain ⟨sa,ca,rfl⟩:=hv
 have hR:isRowB t r = (decide (r.2.2.1 = 0) && decide (r.2.2.2 = 2) && decide (t.list.length < t.levels + 1024)):=rfl
 generalize isRowB t r = B at *
 have HR:=hid hR
 clear hR
 have hlv:=ho.lv
 have hln:=ho.len
 have hle:=ho.le
 obtain ⟨list,levels,fin,no⟩:=t
 obtain ⟨f0,f1,f2,f3⟩:=fin
 obtain ⟨r0,r1,r2,r3⟩:=r
 simp only [Rc.val,recV] at *
 clear hb hown ho
 have e2:((r2:Int) == 0) = decide (r2 = 0):=by rw [Bool.eq_iff_iff]; simp
 have e3:((r3:Int) == 2) = decide (r3 = 2):=by rw [Bool.eq_iff_iff]; simp; omega
 have e5:decide ((list.length:Int) - (levels:Int) < 1024) = decide (list.length < levels + 1024):=by rw [Bool.eq_iff_iff]; simp; omega
 generalize decide (r2 = 0) = b2 at *
 generalize decide (r3 = 2) = b3 at *
 generalize decide (list.length < levels + 1024) = b5 at *
 cases b2 with
 | false =>
  go_enter Tryz.func159,Tryz.ntmps159
  go_wp2_with fail
  have ht1:Tc [] w (w.alloc (.cells #[.int .u64 (r0:Int),.int .u64 (r1:Int),.int .u64 (r2:Int),.int .u64 (r3:Int)] 176)):=(Tc.refl [] w).alloc _
  have cb:=fun i=>cRw (heap_alloc_new w (.cells #[.int .u64 (r0:Int),.int .u64 (r1:Int),.int .u64 (r2:Int),.int .u64 (r3:Int)] 176)) i
  have cc:=fun i=>(ht1.cell (p:=⟨tb,i,none⟩) hlt (by simp)).trans (c i)
  generalize w.alloc (.cells #[.int .u64 (r0:Int),.int .u64 (r1:Int),.int .u64 (r2:Int),.int .u64 (r3:Int)] 176) = W1 at *
  generalize w.heap.size = bx at *
  have HT1:=hid ht1
  clear ht1 c hlt
  go_quiet (fail)
  go_wp2_with fail
  go_ret
  exact ⟨by rw [HR.out]; rfl,HT1.out.drewN _⟩
 | true =>
  cases b3 with
  | false =>
   go_enter Tryz.func159,Tryz.ntmps159
   go_wp2_with fail
   have ht1:Tc [] w (w.alloc (.cells #[.int .u64 (r0:Int),.int .u64 (r1:Int),.int .u64 (r2:Int),.int .u64 (r3:Int)] 176)):=(Tc.refl [] w).alloc _
   have cb:=fun i=>cRw (heap_alloc_new w (.cells #[.int .u64 (r0:Int),.int .u64 (r1:Int),.int .u64 (r2:Int),.int .u64 (r3:Int)] 176)) i
   have cc:=fun i=>(ht1.cell (p:=⟨tb,i,none⟩) hlt (by simp)).trans (c i)
   generalize w.alloc (.cells #[.int .u64 (r0:Int),.int .u64 (r1:Int),.int .u64 (r2:Int),.int .u64 (r3:Int)] 176) = W1 at *
   generalize w.heap.size = bx at *
   have HT1:=hid ht1
   clear ht1 c hlt
   go_quiet (fail)
   go_wp2_with fail
   go_ret
   exact ⟨by rw [HR.out]; rfl,HT1.out.drewN _⟩
  | true =>
   cases b5 with
   | false =>
    go_enter Tryz.func159,Tryz.ntmps159
    go_wp2_with fail
    have ht1:Tc [] w (w.alloc (.cells #[.int .u64 (r0:Int),.int .u64 (r1:Int),.int .u64 (r2:Int),.int .u64 (r3:Int)] 176)):=(Tc.refl [] w).alloc _
    have cb:=fun i=>cRw (heap_alloc_new w (.cells #[.int .u64 (r0:Int),.int .u64 (r1:Int),.int .u64 (r2:Int),.int .u64 (r3:Int)] 176)) i
    have cc:=fun i=>(ht1.cell (p:=⟨tb,i,none⟩) hlt (by simp)).trans (c i)
    generalize w.alloc (.cells #[.int .u64 (r0:Int),.int .u64 (r1:Int),.int .u64 (r2:Int),.int .u64 (r3:Int)] 176) = W1 at *
    generalize w.heap.size = bx at *
    have HT1:=hid ht1
    clear ht1 c hlt
    go_quiet (fail)
    go_wp2_with fail
    go_ret
    exact ⟨by rw [HR.out]; rfl,HT1.out.drewN _⟩
   | true =>
    go_enter Tryz.func159,Tryz.ntmps159
    go_wp2_with fail
    have ht1:Tc [] w (w.alloc (.cells #[.int .u64 (r0:Int),.int .u64 (r1:Int),.int .u64 (r2:Int),.int .u64 (r3:Int)] 176)):=(Tc.refl [] w).alloc _
    have cb:=fun i=>cRw (heap_alloc_new w (.cells #[.int .u64 (r0:Int),.int .u64 (r1:Int),.int .u64 (r2:Int),.int .u64 (r3:Int)] 176)) i
    have cc:=fun i=>(ht1.cell (p:=⟨tb,i,none⟩) hlt (by simp)).trans (c i)
    generalize w.alloc (.cells #[.int .u64 (r0:Int),.int .u64 (r1:Int),.int .u64 (r2:Int),.int .u64 (r3:Int)] 176) = W1 at *
    generalize w.heap.size = bx at *
    have HT1:=hid ht1
    clear ht1 c hlt
    go_quiet (fail)
    go_wp2_with fail
    go_ret
    exact ⟨by rw [HR.out]; rfl,HT1.out.drewN _⟩
end
theorem infoPair:(Tryz.prog.info? 240).map (fun i=>(i.zero,i.size,i.bytes)) = some (some (.agg #[.int .u64 0,.int .u64 0]),2,16):=by kernel_rfl
theorem step_pair {ops:Array Oper} {o:Oper} {a:Act} {w:World} {K:Act → World → Prop} {Q:Exit → Act → World → Prop} {X:Prop}
  (hg:o.guard = none) (s x:Operand) (hop:o.op = Op.call { callee:=Callee.builtin Builtin.append,args:=#[s,x],argTypes:=#[184,184] })
  (v:Value) (n:Nat) (xs:List Value) (b:Nat) (c0 c1:Value) (hs:a.eval s = v) (hx:a.eval x = .slice (some ⟨b,0,none⟩) 1 1) (hown:w.ownsRow 0 240 2 v n xs) (hb:w.heap[b]? = some (.cells #[c0,c1] 240 (0,0))) (h0:c0.oneCell' = true) (h1:c1.oneCell' = true) (hn:n ≤ 1099511627776)
  (hK:∀ g cap w',w'.ownsRow 0 240 2 (.slice (some ⟨g,0,none⟩) (n + 1) cap) (n + 1) (xs ++ [c0,c1]) → w.grownBy w' v.ownBlock → (v.ownBlock = some g ∨ g = w.heap.size) → g < w'.heap.size → K (a.put o.dst (.slice (some ⟨g,0,none⟩) (n + 1) cap)) w') :
  if Region.wanted o (yielded ops a.tmps) = true then Oper.wp Tryz.prog o a w K Q else X:=by
 obtain ⟨i,hi,hz0,hz1,hz2⟩:=info_parts infoPair
 have hnews:∀ j u,[c0,c1][j]? = some u → w.cell? ((⟨b,0,none⟩:Addr).add j) = some u:=by
  intro j u hu
  have hadd:(⟨b,0,none⟩:Addr).add j = ⟨b,j,none⟩:=by unfold Addr.add; split <;> simp_all
  rw [hadd,cRw hb j]
  simpa using hu
 exact step_append_lies (P:=Tryz.prog) w hg s x 184 hop 0 240 i _ 2 16 Tryz.underlying184 hi hz0 hz1 hz2 rfl (by decide) v n xs hs hown ⟨b,0,none⟩ 1 1 [c0,c1] hx rfl hnews (by simp [h0,h1]) (by decide) (by unfold maxLen; omega) (by omega) (Nat.zero_le _) _ rfl hK
section
variable {w w':World} {tb:Nat} {gl:List Nat} {t:Told}
theorem Told.take_none {t:Told} {r:Rc} (h:t.none = true):t.take r = t:=by unfold Told.take; rw [if_pos h]
theorem Told.take_end {t:Told} {r:Rc} (h:t.none = false) (h1:t.fin.1 = 18446744073709551615):t.take r = .bad:=by unfold Told.take; rw [if_neg (by simp [h]),if_pos h1]
theorem Told.take_mark {t:Told} {r:Rc} (h:t.none = false) (h1:t.fin.1 ≠ 18446744073709551615) (h2:r.1 = 18446744073709551615):t.take r = { t with fin:=r }:=by unfold Told.take; rw [if_neg (by simp [h]),if_neg h1,if_pos h2]
theorem Told.take_level {t:Told} {r:Rc} (h:t.none = false) (h1:t.fin.1 ≠ 18446744073709551615) (h2:r.1 ≠ 18446744073709551615) (h3:isLevelB t r = true):t.take r = { t with levels:=t.levels + 1,list:=t.list ++ [(r.1,r.2.1)] }:=by unfold Told.take; rw [if_neg (by simp [h]),if_neg h1,if_neg h2,if_pos h3]
theorem Told.take_row {t:Told} {r:Rc} (h:t.none = false) (h1:t.fin.1 ≠ 18446744073709551615) (h2:r.1 ≠ 18446744073709551615) (h3:isLevelB t r = false) (h4:isRowB t r = true):t.take r = { t with list:=t.list ++ [(r.1,r.2.1)] }:=by unfold Told.take; rw [if_neg (by simp [h]),if_neg h1,if_neg h2,if_neg (by simp [h3]),if_pos h4]
theorem Told.take_bad {t:Told} {r:Rc} (h:t.none = false) (h1:t.fin.1 ≠ 18446744073709551615) (h2:r.1 ≠ 18446744073709551615) (h3:isLevelB t r = false) (h4:isRowB t r = false):t.take r = .bad:=by unfold Told.take; rw [if_neg (by simp [h]),if_neg h1,if_neg h2,if_neg (by simp [h3]),if_neg (by simp [h4])]
theorem ToldAt.touch {G:List Nat} (h:ToldAt w tb gl t) (ht:Tc G w w') (h1:tb ∉ G) (h2:∀ x ∈ gl,x ∉ G):ToldAt w' tb gl t:=by
 obtain ⟨v,hb,hown,rfl,h4⟩:=h
 refine ⟨v,(ht.block tb (ltB hb) h1).trans hb,⟨hown.1,?_⟩,rfl,h4⟩
 rcases hown.2 with hn | ⟨g,cap,cur,rfl,hb',hg,rest⟩
 ·exact .inl hn
 ·exact .inr ⟨g,cap,cur,rfl,hb',(ht.block g (ltB hg) (h2 g (by simp [Value.ownBlock]))).trans hg,rest⟩
theorem own_touch {F:List Nat} {v:Value} {n:Nat} {xs:List Value} (h:w.ownsRow 0 240 2 v n xs) (ht:Tc F w w') (hF:∀ x,v.ownBlock = some x → x ∉ F):w'.ownsRow 0 240 2 v n xs:=by
 refine ⟨h.1,?_⟩
 rcases h.2 with hn | ⟨g,cap,cur,rfl,hb,hg,rest⟩
 ·exact .inl hn
 ·exact .inr ⟨g,cap,cur,rfl,hb,(ht.block g (ltB hg) (hF g rfl)).trans hg,rest⟩
def Took (w w':World) (tb:Nat) (gl:List Nat) (t:Told):Prop:=∃ gl',ToldAt w' tb gl' t ∧ Tc (tb :: gl) w w' ∧ ∀ y ∈ gl',y ∈ gl ∨ w.heap.size ≤ y
theorem told_set7 {a0 a1 a2 a3 a4 a5 a6:Value} (hb:w.heap[tb]? = some (.cells #[a0,a1,a2,a3,a4,a5,a6] 186 (0,0))) (v0 v1 v2 v3 v4 v5 v6:Value) :
  (((((((w.setCell ⟨tb,0,none⟩ v0).setCell ⟨tb,1,none⟩ v1).setCell ⟨tb,2,none⟩ v2).setCell ⟨tb,3,none⟩ v3).setCell ⟨tb,4,none⟩ v4).setCell ⟨tb,5,none⟩ v5).setCell ⟨tb,6,none⟩ v6).heap[tb]? = some (.cells #[v0,v1,v2,v3,v4,v5,v6] 186 (0,0)):=by
 rw [sRw (sRw (sRw (sRw (sRw (sRw (sRw hb 0 v0) 1 v1) 2 v2) 3 v3) 4 v4) 5 v5) 6 v6]
 simp
theorem told_set4 {a0 a1 a2 a3 a4 a5 a6:Value} (hb:w.heap[tb]? = some (.cells #[a0,a1,a2,a3,a4,a5,a6] 186 (0,0))) (v2 v3 v4 v5:Value) :
  ((((w.setCell ⟨tb,2,none⟩ v2).setCell ⟨tb,3,none⟩ v3).setCell ⟨tb,4,none⟩ v4).setCell ⟨tb,5,none⟩ v5).heap[tb]? = some (.cells #[a0,a1,v2,v3,v4,v5,a6] 186 (0,0)):=by
 rw [sRw (sRw (sRw (sRw hb 2 v2) 3 v3) 4 v4) 5 v5]
 simp
theorem told_set1 {a0 a1 a2 a3 a4 a5 a6:Value} (hb:w.heap[tb]? = some (.cells #[a0,a1,a2,a3,a4,a5,a6] 186 (0,0))) (v1:Value) :
  (w.setCell ⟨tb,1,none⟩ v1).heap[tb]? = some (.cells #[a0,v1,a2,a3,a4,a5,a6] 186 (0,0)):=by
 rw [sRw hb 1 v1]
 simp
theorem told_set0 {a0 a1 a2 a3 a4 a5 a6:Value} (hb:w.heap[tb]? = some (.cells #[a0,a1,a2,a3,a4,a5,a6] 186 (0,0))) (v0:Value) :
  (w.setCell ⟨tb,0,none⟩ v0).heap[tb]? = some (.cells #[v0,a1,a2,a3,a4,a5,a6] 186 (0,0)):=by
 rw [sRw hb 0 v0]
 simp
theorem told_badW (hw:w'.heap[tb]? = some (.cells #[.slice none 0 0,.int .i64 0,.int .u64 0,.int .u64 0,.int .u64 0,.int .u64 0,.bool true] 186 (0,0))) (ht:Tc [tb] w w'):Took w w' tb gl .bad:=
 ⟨[],⟨.slice none 0 0,hw,World.ownsRow_nil _ _ _ _,rfl,by simp⟩,ht.mono (by simp),by simp⟩
set_option maxHeartbeats 2000000 in
theorem take_none_any (h:ToldAt w tb gl t) (ho:t.Ok) (r:Rc) (hn:t.none = true) :
  Calls Tryz.prog 109 #[ptr tb,r.val] w fun e w'=>e = .returned (.tuple #[]) ∧ Took w w' tb gl (t.take r):=by
 rw [Told.take_none hn]
 have HH:=hid h
 obtain ⟨v,hb,hown,-,-⟩:=h
 have hlt:=ltB hb
 have c:=fun i=>cRw hb i
 obtain ⟨r0,r1,r2,r3⟩:=r
 simp only [Rc.val,recV,hn] at *
 clear hown hb ho
 go_enter Tryz.func109,Tryz.ntmps109
 go_wp2_with fail
 go_end0
 exact ⟨rfl,gl,HH.out.touch ((Tc.refl [] _).alloc _) (by simp) (by simp),(Tc.refl _ _).alloc _,fun y hy=>.inl hy⟩
set_option maxHeartbeats 2000000 in
theorem take_end_any (h:ToldAt w tb gl t) (ho:t.Ok) (r:Rc) (hn:t.none = false) (h1:t.fin.1 = 18446744073709551615) :
  Calls Tryz.prog 109 #[ptr tb,r.val] w fun e w'=>e = .returned (.tuple #[]) ∧ Took w w' tb gl (t.take r):=by
 rw [Told.take_end hn h1]
 obtain ⟨v,hb,hown,-,-⟩:=h
 have hlt:=ltB hb
 have c:=fun i=>cRw hb i
 have u:=fun i=>uRw hb i
 have HB:=hid hb
 obtain ⟨r0,r1,r2,r3⟩:=r
 have h1i:((t.fin.1:Nat):Int) = 18446744073709551615:=by omega
 simp only [Rc.val,recV,hn,h1i] at *
 clear hown hb ho h1 h1i
 go_enter Tryz.func109,Tryz.ntmps109
 go_wp2_with fail
 go_end0
 refine ⟨rfl,?_⟩
 have t7:Tc [tb] w (((((((w.setCell ⟨tb,0,none⟩ (.slice none 0 0)).setCell ⟨tb,1,none⟩ (.int .i64 0)).setCell ⟨tb,2,none⟩ (.int .u64 0)).setCell ⟨tb,3,none⟩ (.int .u64 0)).setCell ⟨tb,4,none⟩ (.int .u64 0)).setCell ⟨tb,5,none⟩ (.int .u64 0)).setCell ⟨tb,6,none⟩ (.bool true)):=
  (((((((Tc.refl [tb] w).setCell (by simp) _).setCell (by simp) _).setCell (by simp) _).setCell (by simp) _).setCell (by simp) _).setCell (by simp) _).setCell (by simp) _
 have h7:=told_set7 HB.out (.slice none 0 0) (.int .i64 0) (.int .u64 0) (.int .u64 0) (.int .u64 0) (.int .u64 0) (.bool true)
 exact told_badW ((Below.heap_alloc _ _ tb (ltB h7)).trans h7) (t7.alloc _)
set_option maxHeartbeats 2000000 in
theorem take_mark_any (h:ToldAt w tb gl t) (ho:t.Ok) (r:Rc) (hn:t.none = false) (h1:t.fin.1 ≠ 18446744073709551615) (h2:r.1 = 18446744073709551615) :
  Calls Tryz.prog 109 #[ptr tb,r.val] w fun e w'=>e = .returned (.tuple #[]) ∧ Took w w' tb gl (t.take r):=by
 rw [Told.take_mark hn h1 h2]
 have HH:=hid h
 obtain ⟨v,hb,hown,hgl,htg⟩:=h
 have hlt:=ltB hb
 have c:=fun i=>cRw hb i
 have u:=fun i=>uRw hb i
 obtain ⟨r0,r1,r2,r3⟩:=r
 have h1i:(((t.fin.1:Nat):Int) == 18446744073709551615) = false:=by simp; omega
 have h2i:((r0:Nat):Int) = 18446744073709551615:=by simp only at h2; omega
 obtain ⟨list,levels,fin,no⟩:=t
 obtain ⟨f0,f1,f2,f3⟩:=fin
 simp only at hn h1 h2 h1i
 subst hn
 simp only [Rc.val,recV] at *
 have HB:=hid hb
 have HO:=hid hown
 have HG:=hid (And.intro hgl htg)
 have HR:=hid h2i
 rw [h2i]
 clear hown hb ho h1 h2 hgl htg
 go_enter Tryz.func109,Tryz.ntmps109
 go_wp2_with fail
 go_end0
 refine ⟨rfl,?_⟩
 have t4:Tc [tb] w ((((w.setCell ⟨tb,2,none⟩ (.int .u64 18446744073709551615)).setCell ⟨tb,3,none⟩ (.int .u64 (r1:Int))).setCell ⟨tb,4,none⟩ (.int .u64 (r2:Int))).setCell ⟨tb,5,none⟩ (.int .u64 (r3:Int))):=
  ((((Tc.refl [tb] w).setCell (by simp) _).setCell (by simp) _).setCell (by simp) _).setCell (by simp) _
 have h4:=told_set4 HB.out (.int .u64 18446744073709551615) (.int .u64 (r1:Int)) (.int .u64 (r2:Int)) (.int .u64 (r3:Int))
 have t5:=t4.alloc (.cells #[.int .u64 18446744073709551615,.int .u64 (r1:Int),.int .u64 (r2:Int),.int .u64 (r3:Int)] 176)
 have h5:=(Below.heap_alloc _ (.cells #[.int .u64 18446744073709551615,.int .u64 (r1:Int),.int .u64 (r2:Int),.int .u64 (r3:Int)] 176) tb (ltB h4)).trans h4
 refine ⟨gl,⟨v,by simp only [HR.out]; exact h5,own_touch HO.out t5 (fun x hx=>?_),HG.out.1,HG.out.2⟩,t5.mono (by simp),fun y hy=>.inl hy⟩
 have h6:=HG.out.2
 rw [HG.out.1,hx] at h6
 simp at h6 ⊢
 exact fun e=>h6 e.symm
end
section
variable {w w':World} {tb:Nat} {gl:List Nat} {t:Told}
set_option maxHeartbeats 2000000 in
theorem take_bad_any (h:ToldAt w tb gl t) (ho:t.Ok) (r:Rc) (hn:t.none = false) (h1:t.fin.1 ≠ 18446744073709551615) (h2:r.1 ≠ 18446744073709551615) (h3:isLevelB t r = false) (h4:isRowB t r = false) :
  Calls Tryz.prog 109 #[ptr tb,r.val] w fun e w'=>e = .returned (.tuple #[]) ∧ Took w w' tb gl (t.take r):=by
 rw [Told.take_bad hn h1 h2 h3 h4]
 have HH:=hid h
 have HL:=hid (fun W (ht:Tc [] w W)=>isLevel_any (h.touch ht (by simp) (by simp)) ho r)
 have HRW:=hid (fun W (ht:Tc [] w W)=>isRow_any (h.touch ht (by simp) (by simp)) ho r)
 obtain ⟨v,hb,hown,hgl,htg⟩:=h
 have hlt:=ltB hb
 have c:=fun i=>cRw hb i
 have hlv:=ho.lv
 have hlen:=ho.len
 obtain ⟨r0,r1,r2,r3⟩:=r
 obtain ⟨list,levels,fin,no⟩:=t
 obtain ⟨f0,f1,f2,f3⟩:=fin
 simp only at hn h1 h2
 have h1i:(((f0:Nat):Int) == 18446744073709551615) = false:=by simp; omega
 have h2i:(((r0:Nat):Int) == 18446744073709551615) = false:=by simp; omega
 subst hn
 have hL:=h3
 have hR:=h4
 clear h3 h4
 rw [hL] at HL; rw [hR] at HRW
 simp only [Rc.val,recV] at *
 have HB:=hid hb
 have HO:=hid hown
 have HG:=hid (And.intro hgl htg)
 have HT1:=hid ((Tc.refl [] w).alloc (.cells #[.int .u64 (r0:Int),.int .u64 (r1:Int),.int .u64 (r2:Int),.int .u64 (r3:Int)] 176))
 have HBX:=hid (heap_alloc_new w (.cells #[.int .u64 (r0:Int),.int .u64 (r1:Int),.int .u64 (r2:Int),.int .u64 (r3:Int)] 176))
 have HWS:=hid (fun W (ht:Tc [] (w.alloc (.cells #[.int .u64 (r0:Int),.int .u64 (r1:Int),.int .u64 (r2:Int),.int .u64 (r3:Int)] 176)) W)=>And.intro ((ht.block w.heap.size (ltB HBX.out) (by simp)).trans HBX.out) (((HT1.out.trans ht (by simp)).block tb (ltB HB.out) (by simp)).trans HB.out))
 clear hown hb ho h1 h2 hgl htg hL hR
 go_enter Tryz.func109,Tryz.ntmps109
 go_wp2_with (first
  |(go_at_call 159; refine (HRW.out _ HT2.out).mono ?_; rintro e w3 ⟨rfl,ht3⟩; have HT3:=hid (HT2.out.trans ht3 (by simp)); have HA3:=hid (HA2.out.trans ht3 (by simp)); obtain ⟨hx3,hb3⟩:=HWS.out _ HA3.out; have c3:=(fun i=>cRw hb3 i); have u3:=(fun i=>uRw hb3 i); have x3:=(fun i=>cRw hx3 i); have HB3:=hid hb3; have HX3:=hid hx3; clear hb3 hx3 ht3)
  |(go_at_call 158; refine (HL.out _ HT1.out).mono ?_; rintro e w2 ⟨rfl,ht2⟩; have HT2:=hid (HT1.out.trans ht2 (by simp)); have HA2:=hid ht2; obtain ⟨hx2,hb2⟩:=HWS.out _ ht2; have c2:=(fun i=>cRw hb2 i); have u2:=(fun i=>uRw hb2 i); have x2:=(fun i=>cRw hx2 i); have HB2:=hid hb2; have HX2:=hid hx2; clear hb2 hx2 ht2))
 go_end0
 refine ⟨rfl,?_⟩
 have h7:=told_set7 HB3.out (.slice none 0 0) (.int .i64 0) (.int .u64 0) (.int .u64 0) (.int .u64 0) (.int .u64 0) (.bool true)
 exact told_badW h7 ((((((((HT3.out.mono (by simp)).setCell (by simp) _).setCell (by simp) _).setCell (by simp) _).setCell (by simp) _).setCell (by simp) _).setCell (by simp) _).setCell (by simp) _)
end
theorem Took.of_row {w w3 w4:World} {tb:Nat} {gl:List Nat} {t:Told} {v:Value} {g cap:Nat} (hn:t.list.length = 0 ∨ True) (x:Nat × Nat) (lv:Nat)
  (hgl:gl = v.ownBlock.toList) (htg:tb ∉ gl) (htl:tb < w.heap.size)
  (ht3:Tc (tb :: gl) w w3) (hs:w.heap.size ≤ w3.heap.size) (H:Nat) (hH:w3.heap.size ≤ H)
  (ho:w4.ownsRow 0 240 2 (.slice (some ⟨g,0,none⟩) (t.list.length + 1) cap) (t.list.length + 1) (pairC t.list ++ [.int .u64 (x.1:Int),.int .u64 (x.2:Int)]))
  (hb:w4.heap[tb]? = some (.cells #[v,.int .i64 (lv:Int),.int .u64 (t.fin.1:Int),.int .u64 (t.fin.2.1:Int),.int .u64 (t.fin.2.2.1:Int),.int .u64 (t.fin.2.2.2:Int),.bool t.none] 186 (0,0)))
  (hd:v.ownBlock = some g ∨ g = H) (ht:Tc gl w3 w4) :
  Took w (w4.setCell ⟨tb,0,none⟩ (.slice (some ⟨g,0,none⟩) (t.list.length + 1) cap)) tb gl { t with levels:=lv,list:=t.list ++ [x] }:=by
 have hgt:g ≠ tb:=by
  rcases hd with h | h
  ·intro e
   subst e
   rw [hgl,h] at htg
   simp at htg
  ·omega
 have t5:Tc (tb :: gl) w (w4.setCell ⟨tb,0,none⟩ (.slice (some ⟨g,0,none⟩) (t.list.length + 1) cap)):=(ht3.trans ht (fun y hy=>.inl (List.mem_cons_of_mem _ hy))).setCell (by simp) _
 refine ⟨[g],⟨_,told_set0 hb _,?_,rfl,by simpa using Ne.symm hgt⟩,t5,fun y hy=>?_⟩
 ·have h6:(w4.setCell ⟨tb,0,none⟩ (.slice (some ⟨g,0,none⟩) (t.list.length + 1) cap)).ownsRow 0 240 2 (.slice (some ⟨g,0,none⟩) (t.list.length + 1) cap) (t.list.length + 1) (pairC t.list ++ [.int .u64 (x.1:Int),.int .u64 (x.2:Int)]):=
   own_touch (F:=[tb]) ho ((Tc.refl [tb] _).setCell (by simp) _) (fun y hy=>by simp [Value.ownBlock] at hy; subst hy; simpa using hgt)
  simp only [List.length_append,List.length_cons,List.length_nil,pairC_snoc]
  exact h6
 ·simp at hy
  subst hy
  rcases hd with h | h
  ·left; rw [hgl,h]; simp
  ·right; omega
section
variable {w w':World} {tb:Nat} {gl:List Nat} {t:Told}
set_option maxHeartbeats 2000000 in
theorem take_row_any (h:ToldAt w tb gl t) (ho:t.Ok) (r:Rc) (hn:t.none = false) (h1:t.fin.1 ≠ 18446744073709551615) (h2:r.1 ≠ 18446744073709551615) (h3:isLevelB t r = false) (h4:isRowB t r = true) :
  Calls Tryz.prog 109 #[ptr tb,r.val] w fun e w'=>e = .returned (.tuple #[]) ∧ Took w w' tb gl (t.take r):=by
 rw [Told.take_row hn h1 h2 h3 h4]
 have HH:=hid h
 have HL:=hid (fun W (ht:Tc [] w W)=>isLevel_any (h.touch ht (by simp) (by simp)) ho r)
 have HRW:=hid (fun W (ht:Tc [] w W)=>isRow_any (h.touch ht (by simp) (by simp)) ho r)
 obtain ⟨v,hb,hown,hgl,htg⟩:=h
 have hlt:=ltB hb
 have c:=fun i=>cRw hb i
 have hlv:=ho.lv
 have hlen:=ho.len
 obtain ⟨r0,r1,r2,r3⟩:=r
 obtain ⟨list,levels,fin,no⟩:=t
 obtain ⟨f0,f1,f2,f3⟩:=fin
 simp only at hn h1 h2
 have h1i:(((f0:Nat):Int) == 18446744073709551615) = false:=by simp; omega
 have h2i:(((r0:Nat):Int) == 18446744073709551615) = false:=by simp; omega
 subst hn
 have hL:=h3
 have hR:=h4
 clear h3 h4
 rw [hL] at HL; rw [hR] at HRW
 simp only [Rc.val,recV] at *
 have HB:=hid hb
 have HO:=hid hown
 have HG:=hid (And.intro hgl htg)
 have HT1:=hid ((Tc.refl [] w).alloc (.cells #[.int .u64 (r0:Int),.int .u64 (r1:Int),.int .u64 (r2:Int),.int .u64 (r3:Int)] 176))
 have HBX:=hid (heap_alloc_new w (.cells #[.int .u64 (r0:Int),.int .u64 (r1:Int),.int .u64 (r2:Int),.int .u64 (r3:Int)] 176))
 have HWS:=hid (fun W (ht:Tc [] (w.alloc (.cells #[.int .u64 (r0:Int),.int .u64 (r1:Int),.int .u64 (r2:Int),.int .u64 (r3:Int)] 176)) W)=>And.intro ((ht.block w.heap.size (ltB HBX.out) (by simp)).trans HBX.out) (((HT1.out.trans ht (by simp)).block tb (ltB HB.out) (by simp)).trans HB.out))
 clear hown hb ho h1 h2 hgl htg hL hR
 go_enter Tryz.func109,Tryz.ntmps109
 go_wp2_with (first
  |(go_at_call 159; refine (HRW.out _ HT2.out).mono ?_; rintro e w3 ⟨rfl,ht3⟩; have HT3:=hid (HT2.out.trans ht3 (by simp)); have HA3:=hid (HA2.out.trans ht3 (by simp)); obtain ⟨hx3,hb3⟩:=HWS.out _ HA3.out; have c3:=(fun i=>cRw hb3 i); have u3:=(fun i=>uRw hb3 i); have x3:=(fun i=>cRw hx3 i); have HB3:=hid hb3; have HX3:=hid hx3; clear hb3 hx3 ht3)
  |(go_at_call 158; refine (HL.out _ HT1.out).mono ?_; rintro e w2 ⟨rfl,ht2⟩; have HT2:=hid (HT1.out.trans ht2 (by simp)); have HA2:=hid ht2; obtain ⟨hx2,hb2⟩:=HWS.out _ ht2; have c2:=(fun i=>cRw hb2 i); have u2:=(fun i=>uRw hb2 i); have x2:=(fun i=>cRw hx2 i); have HB2:=hid hb2; have HX2:=hid hx2; clear hb2 hx2 ht2))
 have HAP:=hid (fun (w4:World) (g4:(w3.alloc (.cells #[.int .u64 (r0:Int),.int .u64 (r1:Int)] 240)).drew.grownBy w4 v.ownBlock)=>And.intro ((g4.block tb (by show tb < (w3.alloc _).heap.size; simp; exact Nat.lt_succ_of_lt (Nat.lt_of_lt_of_le hlt HT3.out.size)) (fun e=>by have h6:=HG.out.2; rw [HG.out.1,← e] at h6; simp at h6)).trans ((Below.heap_alloc w3 _ tb (Nat.lt_of_lt_of_le hlt HT3.out.size)).trans HB3.out)) (Tc.grown (F:=gl) (((Tc.refl gl w3).alloc (.cells #[.int .u64 (r0:Int),.int .u64 (r1:Int)] 240)).drew) g4 (fun k hk=>.inl (by rw [HG.out.1,hk]; simp))))
 have HOW:=hid (fun W (ht:Tc [] w3 W)=>own_touch (own_touch HO.out (HT3.out) (fun x hx=>by simp)) ht (by simp))
 have hlt3:tb < w3.heap.size:=Nat.lt_of_lt_of_le hlt HT3.out.size
 have hbx3:w.heap.size < w3.heap.size:=ltB HX3.out
 have hlen2:list.length ≤ 1099511627776:=by omega
 go_region_law (first
  |(refine step_pair rfl _ _ rfl v list.length (pairC list) w3.heap.size (.int .u64 (r0:Int)) (.int .u64 (r1:Int)) rfl rfl (HOW.out _ (by first | exact ((Tc.refl [] _).alloc _) | exact (((Tc.refl [] _).drew).alloc _) | exact (((Tc.refl [] _).alloc _).drew))) (by first | exact heap_alloc_new _ _ | (simp; done)) rfl rfl hlen2 ?_; intro g cap w4 o4 g4 d4 l4; have HO4:=hid o4; have HG4:=hid g4; have HD4:=hid d4; have hl4:=l4; obtain ⟨hb4,ht4⟩:=HAP.out w4 g4; have c4:=(fun i=>cRw hb4 i); have u4:=(fun i=>uRw hb4 i); have HB4:=hid hb4; have HT4:=hid ht4; clear o4 g4 d4 hb4 ht4))
 all_goals
  go_wp2_with fail
  go_end0
  exact ⟨rfl,Took.of_row (t:=⟨list,levels,(f0,f1,f2,f3),false⟩) (.inr trivial) (r0,r1) levels HG.out.1 HG.out.2 hlt (HT3.out.mono (by simp)) HT3.out.size _ (by show w3.heap.size ≤ (w3.alloc _).heap.size; simp) HO4.out HB4.out HD4.out HT4.out⟩
end
section
variable {w w':World} {tb:Nat} {gl:List Nat} {t:Told}
set_option maxHeartbeats 2000000 in
theorem take_level_any (h:ToldAt w tb gl t) (ho:t.Ok) (r:Rc) (hn:t.none = false) (h1:t.fin.1 ≠ 18446744073709551615) (h2:r.1 ≠ 18446744073709551615) (h3:isLevelB t r = true) :
  Calls Tryz.prog 109 #[ptr tb,r.val] w fun e w'=>e = .returned (.tuple #[]) ∧ Took w w' tb gl (t.take r):=by
 rw [Told.take_level hn h1 h2 h3]
 have HH:=hid h
 have HL:=hid (fun W (ht:Tc [] w W)=>isLevel_any (h.touch ht (by simp) (by simp)) ho r)
 have HRW:=hid (fun W (ht:Tc [] w W)=>isRow_any (h.touch ht (by simp) (by simp)) ho r)
 obtain ⟨v,hb,hown,hgl,htg⟩:=h
 have hlt:=ltB hb
 have c:=fun i=>cRw hb i
 have hlv:=ho.lv
 have hlen:=ho.len
 obtain ⟨r0,r1,r2,r3⟩:=r
 obtain ⟨list,levels,fin,no⟩:=t
 obtain ⟨f0,f1,f2,f3⟩:=fin
 simp only at hn h1 h2
 have h1i:(((f0:Nat):Int) == 18446744073709551615) = false:=by simp; omega
 have h2i:(((r0:Nat):Int) == 18446744073709551615) = false:=by simp; omega
 subst hn
 have hL:=h3
 clear h3
 rw [hL] at HL
 simp only [Rc.val,recV] at *
 have HB:=hid hb
 have HO:=hid hown
 have HG:=hid (And.intro hgl htg)
 have HT1:=hid ((Tc.refl [] w).alloc (.cells #[.int .u64 (r0:Int),.int .u64 (r1:Int),.int .u64 (r2:Int),.int .u64 (r3:Int)] 176))
 have HBX:=hid (heap_alloc_new w (.cells #[.int .u64 (r0:Int),.int .u64 (r1:Int),.int .u64 (r2:Int),.int .u64 (r3:Int)] 176))
 have HWS:=hid (fun W (ht:Tc [] (w.alloc (.cells #[.int .u64 (r0:Int),.int .u64 (r1:Int),.int .u64 (r2:Int),.int .u64 (r3:Int)] 176)) W)=>And.intro ((ht.block w.heap.size (ltB HBX.out) (by simp)).trans HBX.out) (((HT1.out.trans ht (by simp)).block tb (ltB HB.out) (by simp)).trans HB.out))
 clear hown hb ho h1 h2 hgl htg hL
 go_enter Tryz.func109,Tryz.ntmps109
 go_wp2_with (first
  |(go_at_call 158; refine (HL.out _ HT1.out).mono ?_; rintro e w2 ⟨rfl,ht2⟩; have HT2:=hid (HT1.out.trans ht2 (by simp)); have HA2:=hid ht2; obtain ⟨hx2,hb2⟩:=HWS.out _ ht2; have c2:=(fun i=>cRw hb2 i); have u2:=(fun i=>uRw hb2 i); have x2:=(fun i=>cRw hx2 i); have HB2:=hid hb2; have HX2:=hid hx2; clear hb2 hx2 ht2))
 have htx:w.heap.size ≠ tb:=fun e=>by omega
 have hb2:=told_set1 HB2.out (.int .i64 ((levels:Int) + 1))
 have ht23:Tc [tb] w2 (w2.setCell ⟨tb,1,none⟩ (.int .i64 ((levels:Int) + 1))):=(Tc.refl [tb] w2).setCell (by simp) _
 have hx2:=(ht23.block w.heap.size (ltB HX2.out) (by simpa using htx)).trans HX2.out
 have ht3:Tc [tb] w (w2.setCell ⟨tb,1,none⟩ (.int .i64 ((levels:Int) + 1))):=(HT2.out.mono (by simp)).setCell (by simp) _
 clear ht23
 generalize w2.setCell ⟨tb,1,none⟩ (.int .i64 ((levels:Int) + 1)) = w3 at *
 have c3:=(fun i=>cRw hb2 i)
 have u3:=(fun i=>uRw hb2 i)
 have x3:=(fun i=>cRw hx2 i)
 have HB3:=hid hb2
 have HX3:=hid hx2
 have HT3:=hid ht3
 clear hb2 hx2 ht3 c2 u2 x2
 have HAP:=hid (fun (w4:World) (g4:(w3.alloc (.cells #[.int .u64 (r0:Int),.int .u64 (r1:Int)] 240)).drew.grownBy w4 v.ownBlock)=>And.intro ((g4.block tb (by show tb < (w3.alloc _).heap.size; simp; exact Nat.lt_succ_of_lt (Nat.lt_of_lt_of_le hlt HT3.out.size)) (fun e=>by have h6:=HG.out.2; rw [HG.out.1,← e] at h6; simp at h6)).trans ((Below.heap_alloc w3 _ tb (Nat.lt_of_lt_of_le hlt HT3.out.size)).trans HB3.out)) (Tc.grown (F:=gl) (((Tc.refl gl w3).alloc (.cells #[.int .u64 (r0:Int),.int .u64 (r1:Int)] 240)).drew) g4 (fun k hk=>.inl (by rw [HG.out.1,hk]; simp))))
 have HOW:=hid (fun W (ht:Tc [] w3 W)=>own_touch (own_touch HO.out (HT3.out) (fun x hx=>by have h6:=HG.out.2; rw [HG.out.1,hx] at h6; simp at h6 ⊢; exact fun e=>h6 e.symm)) ht (by simp))
 have hlt3:tb < w3.heap.size:=Nat.lt_of_lt_of_le hlt HT3.out.size
 have hbx3:w.heap.size < w3.heap.size:=ltB HX3.out
 have hlen2:list.length ≤ 1099511627776:=by omega
 go_region_law (first
  |(refine step_pair rfl _ _ rfl v list.length (pairC list) w3.heap.size (.int .u64 (r0:Int)) (.int .u64 (r1:Int)) rfl rfl (HOW.out _ (by first | exact ((Tc.refl [] _).alloc _) | exact (((Tc.refl [] _).drew).alloc _) | exact (((Tc.refl [] _).alloc _).drew))) (by first | exact heap_alloc_new _ _ | (simp; done)) rfl rfl hlen2 ?_; intro g cap w4 o4 g4 d4 l4; have HO4:=hid o4; have HG4:=hid g4; have HD4:=hid d4; have hl4:=l4; obtain ⟨hb4,ht4⟩:=HAP.out w4 g4; have c4:=(fun i=>cRw hb4 i); have u4:=(fun i=>uRw hb4 i); have HB4:=hid hb4; have HT4:=hid ht4; clear o4 g4 d4 hb4 ht4))
 all_goals
  go_wp2_with fail
  go_end0
  exact ⟨rfl,Took.of_row (t:=⟨list,levels,(f0,f1,f2,f3),false⟩) (.inr trivial) (r0,r1) (levels + 1) HG.out.1 HG.out.2 hlt (HT3.out.mono (by simp)) HT3.out.size _ (by show w3.heap.size ≤ (w3.alloc _).heap.size; simp) HO4.out HB4.out HD4.out HT4.out⟩
theorem take_any (h:ToldAt w tb gl t) (ho:t.Ok) (r:Rc) :
  Calls Tryz.prog 109 #[ptr tb,r.val] w fun e w'=>e = .returned (.tuple #[]) ∧ Took w w' tb gl (t.take r):=by
 cases hn:t.none
 ·by_cases h1:t.fin.1 = 18446744073709551615
  ·exact take_end_any h ho r hn h1
  ·by_cases h2:r.1 = 18446744073709551615
   ·exact take_mark_any h ho r hn h1 h2
   ·cases h3:isLevelB t r
    ·cases h4:isRowB t r
     ·exact take_bad_any h ho r hn h1 h2 h3 h4
     ·exact take_row_any h ho r hn h1 h2 h3 h4
    ·exact take_level_any h ho r hn h1 h2 h3
 ·exact take_none_any h ho r hn
theorem Told.Ok.take (ho:t.Ok) {r:Rc} (hr:r.Ok):(t.take r).Ok:=by
 have hbad:Told.bad.Ok:=⟨by decide,by decide,by decide,by unfold Rc.Ok; decide,by intro p hp; cases hp⟩
 unfold Told.take
 split
 ·exact ho
 ·split
  ·exact hbad
  ·split
   ·exact ⟨ho.lv,ho.le,ho.len,hr,ho.prs⟩
   ·split
    ·next h =>
     unfold isLevelB at h
     simp at h
     have h1:=ho.len
     refine ⟨by show t.levels + 1 ≤ 65536; omega,by show t.levels + 1 ≤ (t.list ++ [_]).length; simp; have:=ho.le; omega,by show (t.list ++ [_]).length ≤ t.levels + 1 + 1024; simp; omega,ho.fin,fun p hp=>?_⟩
     rcases List.mem_append.1 hp with hp | hp
     ·exact ho.prs p hp
     ·simp at hp
      subst hp
      exact ⟨hr.1,hr.2.1⟩
    ·split
     ·next h =>
      unfold isRowB at h
      simp at h
      refine ⟨ho.lv,by show t.levels ≤ (t.list ++ [_]).length; simp; have:=ho.le; omega,by show (t.list ++ [_]).length ≤ t.levels + 1024; simp; omega,ho.fin,fun p hp=>?_⟩
      rcases List.mem_append.1 hp with hp | hp
      ·exact ho.prs p hp
      ·simp at hp
       subst hp
       exact ⟨hr.1,hr.2.1⟩
     ·exact hbad
end
theorem infoInt:(Tryz.prog.info? 3).map (fun i=>(i.zero,i.size,i.bytes)) = some (some (.int .i64 0),1,8):=by kernel_rfl
theorem infoRow:(Tryz.prog.info? 45).map (fun i=>(i.zero,i.size,i.bytes)) = some (some (.agg #[.int .i64 0,.int .u64 0]),2,16):=by kernel_rfl
theorem make_ints (k:Nat) (hk:k ≤ 1048576) (w:World):∃ cur:Array Value,cur.size = k * 1 ∧ (Instr.makeSlice 22 (.int .i64 0) (.int .i64 (k:Int))).run Tryz.prog w = .ok (.slice (some ⟨w.heap.size,0,none⟩) 0 k) (w.alloc (.cells cur 3)):=by
 obtain ⟨i,hi,hz,hs,hb⟩:=info_parts infoInt
 have:=run_make (P:=Tryz.prog) w 22 3 i _ Tryz.underlying22 hi hz .i64 .i64 0 k (by omega) (by omega) (by rw [hb]; omega) (by omega)
 rw [hs,Int.toNat_natCast] at this
 exact ⟨_,by simp [size_madeCells],this⟩
theorem make_rows (k:Nat) (hk:k ≤ 1048576) (w:World):∃ cur:Array Value,cur.size = k * 2 ∧ (Instr.makeSlice 23 (.int .i64 0) (.int .i64 (k:Int))).run Tryz.prog w = .ok (.slice (some ⟨w.heap.size,0,none⟩) 0 k) (w.alloc (.cells cur 45)):=by
 obtain ⟨i,hi,hz,hs,hb⟩:=info_parts infoRow
 have:=run_make (P:=Tryz.prog) w 23 45 i _ Tryz.underlying23 hi hz .i64 .i64 0 k (by omega) (by omega) (by rw [hb]; omega) (by omega)
 rw [hs,Int.toNat_natCast] at this
 exact ⟨_,by simp [size_madeCells],this⟩
theorem Tc.underB {F:List Nat} {w W1 W2:World} (h:Tc F w W1) (b:Below w.heap.size W1 W2) (hs:W1.heap.size ≤ W2.heap.size):Tc F w W2:=
 ⟨b.os.trans h.os,b.tape.trans h.tape,b.output.trans h.output,Nat.le_trans h.size hs,fun k hk hF=>(b.block k hk).trans (h.block k hk hF)⟩
theorem oSC {w:World} {base size n:Nat} {e:TypeId} {v:Value} {xs:List Value} (h:w.ownsRow base e size v n xs):∃ sa c,v = .slice sa n c:=by
 rcases h.2 with ⟨h1,h0⟩ | ⟨g,cap,cur,hv,_⟩
 ·exact ⟨none,0,by rw [h0]; exact h1⟩
 ·exact ⟨_,_,hv⟩
section
theorem wpList_int (w:World) {ops:Array Oper} {rest:List Oper} {o:Oper} {a:Act} {Q:Exit → Act → World → Prop} (hgd:o.guard = none) (s x:Operand)
  (hop:o.op = Op.call { callee:=Callee.builtin Builtin.append,args:=#[s,x],argTypes:=#[22,22] })
  (base:Nat) (v:Value) (n:Nat) (xs:List Value) (b:Nat) (c0:Value) (hs:a.eval s = v) (hx:a.eval x = .slice (some ⟨b,0,none⟩) 1 1) (hown:w.ownsRow base 3 1 v n xs) (hb:w.heap[b]? = some (.cells #[c0] 3 (0,0))) (h0:c0.oneCell' = true) (hn:n ≤ 1099511627776) (hbase:base ≤ w.heap.size)
  (hK:∀ v' w',w'.ownsRow base 3 1 v' (n + 1) (xs ++ [c0]) → Below base w w' → wpList Tryz.prog ops Q rest (a.put o.dst v') w'):wpList Tryz.prog ops Q (o :: rest) a w:=by
 refine wpList_plain hgd fun K' hK'=>?_
 obtain ⟨i,hi,hz0,hz1,hz2⟩:=info_parts infoInt
 have hnews:∀ j u,[c0][j]? = some u → w.cell? ((⟨b,0,none⟩:Addr).add j) = some u:=by
  intro j u hu
  have hadd:(⟨b,0,none⟩:Addr).add j = ⟨b,j,none⟩:=by unfold Addr.add; split <;> simp_all
  rw [hadd,cRw hb j]
  simpa using hu
 obtain ⟨v',w',hrun,ho,hg,_⟩:=run_append_own (P:=Tryz.prog) w base 22 o.type 3 i _ 1 8 Tryz.underlying22 hi hz0 hz1 hz2 rfl (by decide) v n xs hown ⟨b,0,none⟩ 1 1 [c0] rfl hnews (by simp [h0]) (by unfold maxLen; omega) (by omega) hbase
 have hbw:Below base w w':=(Below.refl _ w).grown hg hbase (fun k hk=>(hown.lt k hk).1)
 unfold Oper.wp
 simp [execOp,hop,resolve,invoke,builtin,hs,hx,hrun,Result.andThen]
 exact hK' _ _ (hK v' w' ho hbw)
theorem wpList_row (w:World) {ops:Array Oper} {rest:List Oper} {o:Oper} {a:Act} {Q:Exit → Act → World → Prop} (hgd:o.guard = none) (s x:Operand)
  (hop:o.op = Op.call { callee:=Callee.builtin Builtin.append,args:=#[s,x],argTypes:=#[23,23] })
  (base:Nat) (v:Value) (n:Nat) (xs:List Value) (b:Nat) (c0 c1:Value) (hs:a.eval s = v) (hx:a.eval x = .slice (some ⟨b,0,none⟩) 1 1) (hown:w.ownsRow base 45 2 v n xs) (hb:w.heap[b]? = some (.cells #[c0,c1] 45 (0,0))) (h0:c0.oneCell' = true) (h1:c1.oneCell' = true) (hn:n ≤ 1099511627776) (hbase:base ≤ w.heap.size)
  (hK:∀ v' w',w'.ownsRow base 45 2 v' (n + 1) (xs ++ [c0,c1]) → Below base w w' → wpList Tryz.prog ops Q rest (a.put o.dst v') w'):wpList Tryz.prog ops Q (o :: rest) a w:=by
 refine wpList_plain hgd fun K' hK'=>?_
 obtain ⟨i,hi,hz0,hz1,hz2⟩:=info_parts infoRow
 have hnews:∀ j u,[c0,c1][j]? = some u → w.cell? ((⟨b,0,none⟩:Addr).add j) = some u:=by
  intro j u hu
  have hadd:(⟨b,0,none⟩:Addr).add j = ⟨b,j,none⟩:=by unfold Addr.add; split <;> simp_all
  rw [hadd,cRw hb j]
  simpa using hu
 obtain ⟨v',w',hrun,ho,hg,_⟩:=run_append_own (P:=Tryz.prog) w base 23 o.type 45 i _ 2 16 Tryz.underlying23 hi hz0 hz1 hz2 rfl (by decide) v n xs hown ⟨b,0,none⟩ 1 1 [c0,c1] rfl hnews (by simp [h0,h1]) (by unfold maxLen; omega) (by omega) hbase
 have hbw:Below base w w':=(Below.refl _ w).grown hg hbase (fun k hk=>(hown.lt k hk).1)
 unfold Oper.wp
 simp [execOp,hop,resolve,invoke,builtin,hs,hx,hrun,Result.andThen]
 exact hK' _ _ (hK v' w' ho hbw)
end
structure PairsAt (w:World) (sa:Option Addr) (l:List (Nat × Nat)):Prop where
 at_:∀ k (hk:k < l.length),∃ a,sa = some a ∧ a.block < w.heap.size ∧ w.cell? (a.add (k * 2)) = some (.int .u64 (l[k].1:Int)) ∧ w.cell? ⟨(a.add (k * 2)).block,(a.add (k * 2)).off + 1,none⟩ = some (.int .u64 (l[k].2:Int))
section
variable {w w':World}
theorem PairsAt.touch {sa:Option Addr} {l:List (Nat × Nat)} {G:List Nat} (h:PairsAt w sa l) (t:Tc G w w') (hG:∀ a,sa = some a → a.block ∉ G):PairsAt w' sa l:=⟨fun k hk=>by
 obtain ⟨a,e,h2,c0,c1⟩:=h.at_ k hk
 have hb:(a.add (k * 2)).block = a.block:=add_block a _
 have hn:a.block ∉ G:=hG a e
 exact ⟨a,e,Nat.lt_of_lt_of_le h2 t.size,(t.cell (p:=a.add (k * 2)) (by rw [hb]; exact h2) (by rw [hb]; exact hn)).trans c0,(t.cell (p:=⟨(a.add (k * 2)).block,_,none⟩) (by show (a.add (k * 2)).block < _; rw [hb]; exact h2) (by show (a.add (k * 2)).block ∉ G; rw [hb]; exact hn)).trans c1⟩⟩
def sgn (n:Nat):Int:=wrap64 (n:Int)
def intC (l:List Int):List Value:=l.map (Value.int .i64)
def rowC (l:List (Int × Nat)):List Value:=l.flatMap fun r=>[.int .i64 r.1,.int .u64 (r.2:Int)]
set_option maxHeartbeats 2000000 in
theorem orderOf_any {sa:Option Addr} {c:Nat} {l:List (Nat × Nat)} (h:PairsAt w sa l) (hl:l.length ≤ 1048576) :
  Calls Tryz.prog 160 #[.slice sa l.length c] w fun e w'=>∃ v,e = .returned v ∧ w'.ownsRow w.heap.size 3 1 v l.length (intC (l.map fun p=>sgn p.2)) ∧ Tc [] w w':=by
 have HP:=hid (fun W (t:Tc [] w W)=>h.touch t (by simp))
 obtain ⟨cur,hcs,hmk⟩:=make_ints l.length hl w
 have ho0:=World.ownsRow_made (base:=w.heap.size) (e:=3) (size:=1) w cur l.length (Nat.le_refl _) (by unfold maxLen; omega) hcs
 have HO0:=hid ho0
 have HT0:=hid ((Tc.refl [] w).alloc (.cells cur 3))
 generalize w.alloc (.cells cur 3) = W0 at *
 clear h ho0
 go_enter Tryz.func160,Tryz.ntmps160
 go_wp2_with fail
 go_loopw [3,11] (fun v i W=>∃ k:Nat,k ≤ l.length ∧ i = .int .i64 k ∧ W.ownsRow w.heap.size 3 1 v k (intC ((l.take k).map fun p=>sgn p.2)) ∧ Tc [] w W) (fun _ i _=>l.length - (intOf i).toNat)
 case atStart=>exact ⟨0,Nat.zero_le _,rfl,HO0.out,HT0.out⟩
 case round =>
  obtain ⟨k,hk,rfl,hv,ht⟩:=hrel
  have HV:=hid hv
  have HT:=hid ht
  clear hv
  by_cases hlt:k < l.length
  ·obtain ⟨a,rfl,hab,c0,c1⟩:=(HP.out wr ht).at_ k hlt
   clear ht
   have htk:(l.take (k + 1)).map (fun p=>sgn p.2) = (l.take k).map (fun p=>sgn p.2) ++ [sgn l[k].2]:=by rw [List.take_succ_eq_append_getElem hlt,List.map_append]; rfl
   have HTK:=hid htk
   clear htk
   generalize l[k] = x at *
   obtain ⟨x0,x1⟩:=x
   dsimp only at c0 c1
   obtain ⟨vs,vc,rfl⟩:=oSC HV.out
   go_wp2_with (at_builtin; refine wpList_int _ rfl _ _ rfl w.heap.size (.slice vs k vc) k (intC ((l.take k).map fun p=>sgn p.2)) (wr.heap.size + 1) (.int .i64 (wrap64 (x1:Int))) rfl rfl ((HV.out.alloc _).alloc _) (by have h9:=heap_alloc_new (wr.alloc (.cells #[.int .u64 (x0:Int),.int .u64 (x1:Int)] 240)) (.cells #[.int .i64 (wrap64 (x1:Int))] 3); simpa using h9) rfl (by omega) (by have:=HT.out.size; simp; omega) ?_; intro v5 w5 o5 b5; have HO5:=hid o5; have HB5:=hid b5; clear o5 b5)
   refine ⟨⟨k + 1,hlt,rfl,?_,?_⟩,by simp [intOf]; omega⟩
   ·rw [HTK.out]
    simpa [intC,sgn] using HO5.out
   ·exact Tc.underB ((HT.out.alloc _).alloc _) HB5.out HB5.out.size
  ·obtain rfl:k = l.length:=by omega
   rw [List.take_length] at HV
   clear ht
   go_wp2_with fail
   go_ret
   exact ⟨_,rfl,HV.out,HT.out⟩
set_option maxHeartbeats 2000000 in
theorem rowsOf_any {sa:Option Addr} {c:Nat} {l:List (Nat × Nat)} (h:PairsAt w sa l) (hl:l.length ≤ 1048576) :
  Calls Tryz.prog 161 #[.slice sa l.length c] w fun e w'=>∃ v,e = .returned v ∧ w'.ownsRow w.heap.size 45 2 v l.length (rowC (l.map fun p=>(sgn p.1,p.2))) ∧ Tc [] w w':=by
 have HP:=hid (fun W (t:Tc [] w W)=>h.touch t (by simp))
 obtain ⟨cur,hcs,hmk⟩:=make_rows l.length hl w
 have ho0:=World.ownsRow_made (base:=w.heap.size) (e:=45) (size:=2) w cur l.length (Nat.le_refl _) (by unfold maxLen; omega) hcs
 have HO0:=hid ho0
 have HT0:=hid ((Tc.refl [] w).alloc (.cells cur 45))
 generalize w.alloc (.cells cur 45) = W0 at *
 clear h ho0
 go_enter Tryz.func161,Tryz.ntmps161
 go_wp2_with fail
 go_loopw [3,11] (fun v i W=>∃ k:Nat,k ≤ l.length ∧ i = .int .i64 k ∧ W.ownsRow w.heap.size 45 2 v k (rowC ((l.take k).map fun p=>(sgn p.1,p.2))) ∧ Tc [] w W) (fun _ i _=>l.length - (intOf i).toNat)
 case atStart=>exact ⟨0,Nat.zero_le _,rfl,HO0.out,HT0.out⟩
 case round =>
  obtain ⟨k,hk,rfl,hv,ht⟩:=hrel
  have HV:=hid hv
  have HT:=hid ht
  clear hv
  by_cases hlt:k < l.length
  ·obtain ⟨a,rfl,hab,c0,c1⟩:=(HP.out wr ht).at_ k hlt
   clear ht
   have htk:(l.take (k + 1)).map (fun p=>(sgn p.1,p.2)) = (l.take k).map (fun p=>(sgn p.1,p.2)) ++ [(sgn l[k].1,l[k].2)]:=by rw [List.take_succ_eq_append_getElem hlt,List.map_append]; rfl
   have HTK:=hid htk
   clear htk
   generalize l[k] = x at *
   obtain ⟨x0,x1⟩:=x
   dsimp only at c0 c1
   obtain ⟨vs,vc,rfl⟩:=oSC HV.out
   go_wp2_with (at_builtin; refine wpList_row _ rfl _ _ rfl w.heap.size (.slice vs k vc) k (rowC ((l.take k).map fun p=>(sgn p.1,p.2))) (wr.heap.size + 1) (.int .i64 (wrap64 (x0:Int))) (.int .u64 (x1:Int)) rfl rfl ((HV.out.alloc _).alloc _) (by have h9:=heap_alloc_new (wr.alloc (.cells #[.int .u64 (x0:Int),.int .u64 (x1:Int)] 240)) (.cells #[.int .i64 (wrap64 (x0:Int)),.int .u64 (x1:Int)] 45); simpa using h9) rfl rfl (by omega) (by have:=HT.out.size; simp; omega) ?_; intro v5 w5 o5 b5; have HO5:=hid o5; have HB5:=hid b5; clear o5 b5)
   refine ⟨⟨k + 1,hlt,rfl,?_,?_⟩,by simp [intOf]; omega⟩
   ·rw [HTK.out]
    simpa [rowC,sgn] using HO5.out
   ·exact Tc.underB ((HT.out.alloc _).alloc _) HB5.out HB5.out.size
  ·obtain rfl:k = l.length:=by omega
   rw [List.take_length] at HV
   clear ht
   go_wp2_with fail
   go_ret
   exact ⟨_,rfl,HV.out,HT.out⟩
end
def Told.tbl (t:Told):Tbl:=⟨t.levels,(t.list.take t.levels).map fun p=>sgn p.2,(t.list.drop t.levels).map fun p=>(sgn p.1,p.2),sgn t.fin.2.2.1,t.fin.2.2.2⟩
def Tbl.none:Tbl:=⟨0,[],[],0,0⟩
def Told.tableB (t:Told) (gen:Nat):Tbl × Bool:=if t.fin.2.1 = gen then (t.tbl,fmB t.tbl) else (.none,false)
def NewTbl (w':World) (B:Nat) (t:Tbl) (v:Value):Prop:=∃ so sr co cr,v = tblV t so sr co cr ∧ TblAt w' t so sr ∧ (∀ a,so = some a → B ≤ a.block) ∧ (∀ a,sr = some a → B ≤ a.block)
theorem pair_at {l:List (Nat × Nat)} {k:Nat} (hk:k < l.length):(pairC l)[k * 2]? = some (.int .u64 (l[k].1:Int)) ∧ (pairC l)[k * 2 + 1]? = some (.int .u64 (l[k].2:Int)):=by
 induction l generalizing k with
 | nil=>simp at hk
 | cons x r ih =>
  cases k with
  | zero=>exact ⟨rfl,rfl⟩
  | succ k =>
   have:=ih (k:=k) (by simpa using hk)
   have e:(k + 1) * 2 = k * 2 + 1 + 1:=by omega
   constructor
   ·rw [e]; exact this.1
   ·rw [e]; exact this.2
theorem own_pairs {w:World} {g cap n:Nat} {l:List (Nat × Nat)} (h:w.ownsRow 0 240 2 (.slice (some ⟨g,0,none⟩) l.length cap) l.length (pairC l)) (hn:n ≤ l.length) :
  PairsAt w (some ⟨g,0,none⟩) (l.take n) ∧ PairsAt w (some ⟨g,n * 2,none⟩) (l.drop n):=by
 have hlt:=(h.lt g rfl).2
 have hadd:∀ i j,(⟨g,i,none⟩:Addr).add j = ⟨g,i + j,none⟩:=fun i j=>by unfold Addr.add; split <;> simp_all
 refine ⟨⟨fun k hk=>?_⟩,⟨fun k hk=>?_⟩⟩
 ·have hk':k < l.length:=by rw [List.length_take] at hk; omega
  obtain ⟨p1,p2⟩:=pair_at hk'
  have c0:=h.cells (g:=g) rfl _ _ p1
  have c1:=h.cells (g:=g) rfl _ _ p2
  rw [hadd,Nat.zero_add] at c0 c1
  exact ⟨_,rfl,hlt,by rw [hadd,Nat.zero_add,List.getElem_take]; exact c0,by rw [hadd,Nat.zero_add,List.getElem_take]; exact c1⟩
 ·have hk':n + k < l.length:=by rw [List.length_drop] at hk; omega
  obtain ⟨p1,p2⟩:=pair_at hk'
  have c0:=h.cells (g:=g) rfl _ _ p1
  have c1:=h.cells (g:=g) rfl _ _ p2
  rw [hadd,Nat.zero_add] at c0 c1
  have e:n * 2 + k * 2 = (n + k) * 2:=by omega
  exact ⟨_,rfl,hlt,by rw [hadd,e,List.getElem_drop]; exact c0,by rw [hadd,e,List.getElem_drop]; exact c1⟩
section
variable {w w':World} {tb:Nat} {gl:List Nat} {t:Told}
set_option maxHeartbeats 2000000 in
theorem table_other (h:ToldAt w tb gl t) (gen:Nat) (hg:gen < 18446744073709551616) (hne:t.fin.2.1 ≠ gen) :
  Calls Tryz.prog 110 #[ptr tb,.int .u64 (gen:Int)] w fun e w'=>∃ v,e = .returned (.tuple #[v,.bool (t.tableB gen).2]) ∧ NewTbl w' w.heap.size (t.tableB gen).1 v ∧ Tc [] w w':=by
 have HR:=hid (show t.tableB gen = (Tbl.none,false) by unfold Told.tableB; rw [if_neg hne])
 obtain ⟨v,hb,hown,hgl,htg⟩:=h
 have hlt:=ltB hb
 have c:=fun i=>cRw hb i
 have hnei:(((t.fin.2.1:Nat):Int) != (gen:Int)) = true:=by simp; omega
 have hnei2:¬ (((t.fin.2.1:Nat):Int) = (gen:Int)):=by omega
 generalize t.fin.2.1 = f1 at *
 clear hb hown hgl htg
 go_enter Tryz.func110,Tryz.ntmps110
 go_wp2_with fail
 refine bodyPost_ret (v:=.tuple #[.agg #[.int .i64 0,.slice none 0 0,.slice none 0 0,.int .i64 0,.int .u64 0],.bool false]) (by simp [results,Tryz.results110,go_sem]) rfl ?_
 rw [HR.out]
 refine ⟨_,rfl,⟨none,none,0,0,rfl,⟨IntsAt.nil _ _,RowsAt.nil _ _,by decide,by decide,by decide,by decide,by decide,(by intro x hx; cases hx),(by intro x hx; cases hx)⟩,by simp,by simp⟩,?_⟩
 have t0:Tc [] w (w.alloc (.cells #[.int .i64 0,.slice none 0 0,.slice none 0 0,.int .i64 0,.int .u64 0] 26)):=(Tc.refl [] w).alloc _
 exact t0
end
end Go.Proofs.YthehcjjckabljaaGreatDoor
