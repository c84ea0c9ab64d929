import Derived.BigQuiet
import Derived.Deep.RegionLaw
import Derived.Deep.AppendLies
import Derived.OwnWalk
import Derived.Laws.OwnMore
import Derived.Deep.RegionHeld3
import Derived.Test.YthehcjjckabljaaGreatDoorC23
namespace Go.Proofs.YthehcjjckabljaaGreatDoor
open Go.RowKit Go.Deep
set_option maxRecDepth 100000
set_option linter.unusedSimpArgs false
set_option linter.unusedVariables false
theorem info176:(Tryz.prog.info? 176).map (fun i=>(i.zero,i.size,i.bytes)) = some (some (.agg #[.int .u64 0,.int .u64 0,.int .u64 0,.int .u64 0]),4,32):=by kernel_rfl
def recC (l:List Rc):List Value:=(flatR l).map fun x:Nat=>Value.int .u64 (x:Int)
theorem recC_snoc (l:List Rc) (r:Rc):recC (l ++ [r]) = recC l ++ [.int .u64 (r.1:Int),.int .u64 (r.2.1:Int),.int .u64 (r.2.2.1:Int),.int .u64 (r.2.2.2:Int)]:=by
 unfold recC flatR
 simp [Rc.words]
section
theorem run_rec (w:World) (ty:TypeId) (base:Nat) (v:Value) (n:Nat) (xs:List Value) (b:Nat) (c0 c1 c2 c3:Value) (hown:w.ownsRow base 176 4 v n xs) (hb:w.heap[b]? = some (.cells #[c0,c1,c2,c3] 176 (0,0))) (h0:c0.oneCell' = true) (h1:c1.oneCell' = true) (h2:c2.oneCell' = true) (h3:c3.oneCell' = true) (hn:n ≤ 1099511627776) (hbase:base ≤ w.heap.size) :
  ∃ v' w',(Builtin.append_ #[130,130] ty #[v,.slice (some ⟨b,0,none⟩) 1 1]).run Tryz.prog w = .ok v' w' ∧ w'.ownsRow base 176 4 v' (n + 1) (xs ++ [c0,c1,c2,c3]) ∧ Below base w w':=by
 obtain ⟨i,hi,hz0,hz1,hz2⟩:=info_parts info176
 have hnews:∀ j u,[c0,c1,c2,c3][j]? = some u → w.cell? ((⟨b,0,none⟩:Addr).add j) = some u:=by
  intro j u hu
  have hadd:(⟨b,0,none⟩:Addr).add j = ⟨b,j,none⟩:=by unfold Addr.add; split <;> simp_all
  rw [hadd,cRw hb j]
  simpa using hu
 obtain ⟨v',w',hrun,ho,hg,_⟩:=run_append_own (P:=Tryz.prog) w base 130 ty 176 i _ 4 32 Tryz.underlying130 hi hz0 hz1 hz2 rfl (by decide) v n xs hown ⟨b,0,none⟩ 1 1 [c0,c1,c2,c3] rfl hnews (by simp [h0,h1,h2,h3]) (by unfold maxLen; omega) (by omega) hbase
 exact ⟨v',w',hrun,ho,(Below.refl _ w).grown hg hbase (fun k hk=>(hown.lt k hk).1)⟩
theorem wpList_rec (w:World) {ops:Array Oper} {rest:List Oper} {o:Oper} {a:Act} {Q:Exit → Act → World → Prop} (hgd:o.guard = none) (s x:Operand)
  (hop:o.op = Op.call { callee:=Callee.builtin Builtin.append,args:=#[s,x],argTypes:=#[130,130] })
  (base:Nat) (v:Value) (n:Nat) (xs:List Value) (b:Nat) (c0 c1 c2 c3:Value) (hs:a.eval s = v) (hx:a.eval x = .slice (some ⟨b,0,none⟩) 1 1) (hown:w.ownsRow base 176 4 v n xs) (hb:w.heap[b]? = some (.cells #[c0,c1,c2,c3] 176 (0,0))) (h0:c0.oneCell' = true) (h1:c1.oneCell' = true) (h2:c2.oneCell' = true) (h3:c3.oneCell' = true) (hn:n ≤ 1099511627776) (hbase:base ≤ w.heap.size)
  (hK:∀ v' w',w'.ownsRow base 176 4 v' (n + 1) (xs ++ [c0,c1,c2,c3]) → Below base w w' → wpList Tryz.prog ops Q rest (a.put o.dst v') w'):wpList Tryz.prog ops Q (o :: rest) a w:=by
 refine wpList_plain hgd fun K' hK'=>?_
 obtain ⟨v',w',hrun,ho,hbw⟩:=run_rec w o.type base v n xs b c0 c1 c2 c3 hown hb h0 h1 h2 h3 hn hbase
 unfold Oper.wp
 simp [execOp,hop,resolve,invoke,builtin,hs,hx,hrun,Result.andThen]
 exact hK' _ _ (hK v' w' ho hbw)
theorem step_rec {ops:Array Oper} {o:Oper} {a:Act} {w:World} {K:Act → World → Prop} {Q:Exit → Act → World → Prop} {X:Prop}
  (hg:o.guard = none) (s x:Operand) (hop:o.op = Op.call { callee:=Callee.builtin Builtin.append,args:=#[s,x],argTypes:=#[130,130] })
  (base:Nat) (v:Value) (n:Nat) (xs:List Value) (b:Nat) (c0 c1 c2 c3:Value) (hs:a.eval s = v) (hx:a.eval x = .slice (some ⟨b,0,none⟩) 1 1) (hown:w.ownsRow base 176 4 v n xs) (hb:w.heap[b]? = some (.cells #[c0,c1,c2,c3] 176 (0,0))) (h0:c0.oneCell' = true) (h1:c1.oneCell' = true) (h2:c2.oneCell' = true) (h3:c3.oneCell' = true) (hn:n ≤ 1099511627776) (hbase:base ≤ w.heap.size)
  (hK:∀ v' w',w'.ownsRow base 176 4 v' (n + 1) (xs ++ [c0,c1,c2,c3]) → Below base w w' → K (a.put o.dst v') w') :
  if Region.wanted o (yielded ops a.tmps) = true then Oper.wp Tryz.prog o a w K Q else X:=by
 have hw:Region.wanted o (yielded ops a.tmps) = true:=by simp [Region.wanted,hg]
 rw [if_pos hw]
 obtain ⟨v',w',hrun,ho,hbw⟩:=run_rec w o.type base v n xs b c0 c1 c2 c3 hown hb h0 h1 h2 h3 hn hbase
 unfold Oper.wp
 simp [execOp,hop,resolve,invoke,builtin,hs,hx,hrun,Result.andThen]
 exact hK v' w' ho hbw
end
section
variable {w:World} {t:Tbl} {so sr:Option Addr} {co cr gen:Nat}
def ordR (o:List Int) (k:Nat):List Rc:=(o.take k).zipIdx.map fun x=>(x.2,u64N x.1,0,1)
theorem ordR_next {o:List Int} {k:Nat} (hk:k < o.length):ordR o (k + 1) = ordR o k ++ [(k,u64N o[k],0,1)]:=by
 unfold ordR
 rw [List.take_succ_eq_append_getElem hk,List.zipIdx_append,List.map_append]
 simp [List.length_take,Nat.min_eq_left (Nat.le_of_lt hk)]
def rowR (l:List (Int × Nat)) (k:Nat):List Rc:=(l.take k).map fun r=>(u64N r.1,r.2,0,2)
theorem rowR_next {l:List (Int × Nat)} {k:Nat} (hk:k < l.length):rowR l (k + 1) = rowR l k ++ [(u64N l[k].1,l[k].2,0,2)]:=by
 unfold rowR
 rw [List.take_succ_eq_append_getElem hk,List.map_append]
 rfl
theorem own_lower {w:World} {b1 b2:Nat} {e:TypeId} {size n:Nat} {v:Value} {xs:List Value} (h:w.ownsRow b1 e size v n xs) (hb:b2 ≤ b1):w.ownsRow b2 e size v n xs:=by
 refine ⟨h.1,?_⟩
 rcases h.2 with h | ⟨g,cap,cur,h1,h2,h3⟩
 ·exact .inl h
 ·exact .inr ⟨g,cap,cur,h1,Nat.le_trans hb h2,h3⟩
theorem wrap_u64N (x:Int):IntKind.u64.wrap x = (u64N x:Int):=by rw [IntKind.wrap_u64]; unfold u64N; omega
set_option maxHeartbeats 8000000 in
theorem rrecs_any (h:TblAt w t so sr) (hg:gen < 18446744073709551616) :
  Calls Tryz.prog 68 #[tblV t so sr co cr,.int .u64 (gen:Int)] w fun e w'=>∃ v,e = .returned v ∧ w'.ownsRow w.heap.size 176 4 v (recsN t gen).length (recC (recsN t gen)) ∧ Tc [] w w':=by
 have HH:=hid (fun W (tt:Tc [] w W)=>h.touch tt (by simp) (by simp))
 have hol:=h.ol
 have hrl:=h.rl
 have hnx:=h.next
 obtain ⟨Wb,hWb⟩:∃ Wb,Wb = w.alloc (.cells #[.int .i64 t.vars,.slice so t.order.length co,.slice sr t.rows.length cr,.int .i64 t.next,.int .u64 (t.nf:Int)] 26):=⟨_,rfl⟩
 have tb:Tc [] w Wb:=by rw [hWb]; exact (Tc.refl [] w).alloc _
 have hrb:Wb.heap[w.heap.size]? = some (.cells #[.int .i64 t.vars,.slice so t.order.length co,.slice sr t.rows.length cr,.int .i64 t.next,.int .u64 (t.nf:Int)] 26 (0,0)):=by rw [hWb]; exact heap_alloc_new w _
 have hbs:Wb.heap.size = w.heap.size + 1:=by rw [hWb]; simp
 have HBX:=hid (fun W (bb:Below Wb.heap.size Wb W)=>fun i=>cRw ((bb.block _ (ltB hrb)).trans hrb) i)
 have HTB:=hid tb
 have HWB:=hid hWb
 clear h tb hrb hWb
 simp only [tblV] at *
 go_enter Tryz.func68,Tryz.ntmps68
 go_upto_region 2 with fail
 rw [← HWB.out]
 generalize hbx:w.heap.size = bx at *
 have HBN:=hid hbx
 clear hbx
 go_wp2_with fail
 go_loopw [5,6] (fun v i W=>∃ k:Nat,k ≤ t.order.length ∧ i = .int .i64 k ∧ Hid (W.ownsRow Wb.heap.size 176 4 v k (recC (ordR t.order k))) ∧ Hid (Below Wb.heap.size Wb W)) (fun _ i _=>t.order.length - (intOf i).toNat)
 case atStart=>exact ⟨0,Nat.zero_le _,rfl,hid (World.ownsRow_nil _ _ _ _),hid (Below.refl _ _)⟩
 case round =>
  obtain ⟨k,hk,rfl,HV,HT⟩:=hrel
  have cb:=HBX.out wr HT.out
  have HTW:=hid (HTB.out.trans (Tc.of_below (F:=[]) HT.out (Nat.le_refl _)) (by simp))
  have hsz:=HT.out.size
  by_cases hlt:k < t.order.length
  ·obtain ⟨a,rfl,hab,hc⟩:=(HH.out _ HTW.out).ints.at_ k hlt
   have HNX:=hid (ordR_next hlt)
   have hoi:=(HH.out _ HTW.out).oi _ (List.getElem_mem hlt)
   clear hab
   generalize t.order[k] = x at *
   obtain ⟨vs,vc,rfl⟩:=oSC HV.out
   go_wp2_with (at_builtin; refine wpList_rec _ rfl _ _ rfl Wb.heap.size (.slice vs k vc) k (recC (ordR t.order k)) wr.heap.size (.int .u64 (k:Int)) (.int .u64 (IntKind.u64.wrap x)) (.int .u64 0) (.int .u64 1) rfl rfl (HV.out.alloc _) (heap_alloc_new wr _) rfl rfl rfl rfl (by omega) (by simp; omega) ?_; intro v5 w5 o5 b5; have HO5:=hid o5; have HB5:=hid b5; clear o5 b5)
   refine ⟨⟨k + 1,hlt,rfl,hid ?_,hid ((HT.out.alloc HT.out.size _).trans HB5.out)⟩,by simp [intOf]; omega⟩
   rw [HNX.out,recC_snoc,← wrap_u64N]
   exact HO5.out
  ·obtain rfl:k = t.order.length:=by omega
   have HE:=hid (show ordR t.order t.order.length = (t.order.zipIdx 0).map fun x=>((x.2,u64N x.1,0,1):Rc) by unfold ordR; rw [List.take_length])
   have HV0:=hid HV.out
   go_wp2_with fail
   go_loopw [5,7] (fun v i W=>∃ k:Nat,k ≤ t.rows.length ∧ i = .int .i64 k ∧ Hid (W.ownsRow Wb.heap.size 176 4 v (t.order.length + k) (recC (ordR t.order t.order.length ++ rowR t.rows k))) ∧ Hid (Below Wb.heap.size Wb W)) (fun _ i _=>t.rows.length - (intOf i).toNat)
   case atStart=>exact ⟨0,Nat.zero_le _,rfl,hid (by simpa [rowR] using HV0.out),HT⟩
   case round =>
    clear HV HV0 HT HTW cb hsz
    obtain ⟨k,hk,rfl,HV,HT⟩:=hrel
    have cb:=HBX.out wr HT.out
    have HTW:=hid (HTB.out.trans (Tc.of_below (F:=[]) HT.out (Nat.le_refl _)) (by simp))
    have hsz:=HT.out.size
    by_cases hlt:k < t.rows.length
    ·obtain ⟨a,rfl,hab,c0,c1⟩:=(HH.out _ HTW.out).rows.at_ k hlt
     have HNX:=hid (rowR_next hlt)
     have hki:(k:Int) < (t.rows.length:Int):=by omega
     have hk0:(0:Int) ≤ (k:Int):=by omega
     clear hab
     generalize t.rows[k] = x at *
     obtain ⟨x0,x1⟩:=x
     dsimp only at c0 c1
     obtain ⟨vs,vc,rfl⟩:=oSC HV.out
     have HVd:=hid (show (wr.drew).ownsRow Wb.heap.size 176 4 (.slice vs (t.order.length + k) vc) (t.order.length + k) (recC (ordR t.order t.order.length ++ rowR t.rows k)) from HV.out)
     go_wp2_with fail
     go_region_law (first
      |(refine step_rec rfl _ _ rfl Wb.heap.size (.slice vs (t.order.length + k) vc) (t.order.length + k) (recC (ordR t.order t.order.length ++ rowR t.rows k)) wr.heap.size (.int .u64 (IntKind.u64.wrap x0)) (.int .u64 (x1:Int)) (.int .u64 0) (.int .u64 2) rfl rfl (HVd.out.alloc _) (heap_alloc_new wr.drew _) rfl rfl rfl rfl (by omega) (by simp; omega) (fun v5 w5 o5 b5=>?_); have HO5:=hid o5; have HB5:=hid b5; clear o5 b5)
      | go_simp)
     all_goals
      go_wp2_with fail
      refine ⟨⟨k + 1,hlt,rfl,hid ?_,hid ((show Below Wb.heap.size Wb (wr.drew.alloc _) from (Below.alloc (⟨HT.out.os,HT.out.tape,HT.out.output,HT.out.size,HT.out.block⟩:Below Wb.heap.size Wb wr.drew) HT.out.size _)).trans HB5.out)⟩,by simp [intOf]; omega⟩
      rw [HNX.out,← List.append_assoc,recC_snoc,← wrap_u64N]
      exact HO5.out
    ·obtain rfl:k = t.rows.length:=by omega
     have HF:=hid (show rowR t.rows t.rows.length = t.rows.map fun r=>((u64N r.1,r.2,0,2):Rc) by unfold rowR; rw [List.take_length])
     obtain ⟨vs,vc,hvs⟩:=oSC HV.out
     subst hvs
     go_wp2_with (at_builtin; refine wpList_rec _ rfl _ _ rfl Wb.heap.size (.slice vs (t.order.length + t.rows.length) vc) (t.order.length + t.rows.length) (recC (ordR t.order t.order.length ++ rowR t.rows t.rows.length)) wr.heap.size (.int .u64 18446744073709551615) (.int .u64 (gen:Int)) (.int .u64 (IntKind.u64.wrap t.next)) (.int .u64 (t.nf:Int)) rfl rfl (HV.out.alloc _) (heap_alloc_new wr _) rfl rfl rfl rfl (by omega) (by simp; omega) ?_; intro v5 w5 o5 b5; have HO5:=hid o5; have HB5:=hid b5; clear o5 b5)
     go_ret
     refine ⟨_,rfl,?_,(HTB.out.trans (Tc.of_below (F:=[]) ((HT.out.alloc HT.out.size _).trans HB5.out) (Nat.le_refl _)) (by simp))⟩
     have h:=HO5.out
     rw [HE.out,HF.out] at h
     have e:recC (recsN t gen) = recC ((t.order.zipIdx 0).map (fun x=>((x.2,u64N x.1,0,1):Rc)) ++ t.rows.map (fun r=>((u64N r.1,r.2,0,2):Rc))) ++ [.int .u64 18446744073709551615,.int .u64 (gen:Int),.int .u64 (IntKind.u64.wrap t.next),.int .u64 (t.nf:Int)]:=by
      rw [recsN_eq,recC_snoc,wrap_u64N]
      rfl
     rw [e,recsN_len]
     exact own_lower h (by rw [HBN.out]; omega)
end
end Go.Proofs.YthehcjjckabljaaGreatDoor
namespace Go.Proofs.YthehcjjckabljaaGreatDoor.Rx
set_option maxRecDepth 100000
open Go.RowKit Go.Deep PureCrc
set_option maxHeartbeats 400000 in
theorem rfit_any (b:Int) (w:World):Calls Tryz.prog 38 #[.int .i64 b] w fun e w'=>e = .returned (.int .i64 (fitN b)) ∧ w' = w:=by
 by_cases h1:b < 64
 ·have HB:=hid (show fitN b = 0 by unfold fitN; rw [if_neg (by omega)])
  go_enter Tryz.func38,Tryz.ntmps38
  go_wp2
  go_ret
  rw [HB.out]
  exact ⟨rfl,rfl⟩
 ·by_cases h2:b > 65536
  ·have HB:=hid (show fitN b = 0 by unfold fitN; rw [if_neg (by omega)])
   go_enter Tryz.func38,Tryz.ntmps38
   go_wp2
   go_ret
   rw [HB.out]
   exact ⟨rfl,rfl⟩
  ·have hm:b.tmod 32 = b % 32:=Int.tmod_eq_emod_of_nonneg (by omega)
   have hq:b.tdiv 32 = b / 32:=Int.tdiv_eq_ediv_of_nonneg (by omega)
   by_cases h3:b % 32 = 0
   ·have HB:=hid (show fitN b = b / 32 - 1 by unfold fitN; rw [if_pos (by omega)])
    go_enter Tryz.func38,Tryz.ntmps38
    go_wp2
    go_ret
    rw [HB.out]
    exact ⟨rfl,rfl⟩
   ·have HB:=hid (show fitN b = 0 by unfold fitN; rw [if_neg (by omega)])
    have hne:¬ b % 32 = 0:=h3
    go_enter Tryz.func38,Tryz.ntmps38
    go_wp2
    go_ret
    rw [HB.out]
    exact ⟨rfl,rfl⟩
theorem iter_end (n r:Nat):iter (n + 1) r = T (iter n r):=iter_succ n r
set_option maxRecDepth 100000 in
set_option maxHeartbeats 1000000 in
theorem rsum_any (l:List Nat) (b o c:Nat) (w:World) (hr:Rd w b o l) (hl:∀ x ∈ l,x < 256) (hn:l.length ≤ 1099511627776) :
  Calls Tryz.prog 123 #[.slice (some ⟨b,o,none⟩) l.length c] w fun e w'=>e = .returned (.int .u32 (crc l:Int)) ∧ w' = w:=by
 have HR:=hid hr
 have HL:=hid hl
 clear hr hl
 go_enter Tryz.func123,Tryz.ntmps123
 go_wp2
 go_loopw [3,4] (fun s i W=>∃ k:Nat,k ≤ l.length ∧ i = .int .i64 k ∧ s = .int .u32 (reg 4294967295 (l.take k):Int) ∧ W = w) (fun _ i _=>l.length - (intOf i).toNat)
 case atStart=>exact ⟨0,Nat.zero_le _,rfl,rfl,rfl⟩
 case round =>
  obtain ⟨k,hk,rfl,rfl,rfl⟩:=hrel
  by_cases hlt:k < l.length
  ·have hx:=HL.out _ (List.getElem_mem hlt)
   have hs:=reg_lt (l:=l.take k) (fun x hx=>HL.out x (List.mem_of_mem_take hx)) (r:=4294967295) (by decide)
   have hs':reg 4294967295 (l.take k) < 4294967296:=hs
   have hreg:reg 4294967295 (l.take (k + 1)) = iter 8 (reg 4294967295 (l.take k) ^^^ l[k]):=by
    rw [List.take_succ_eq_append_getElem hlt,reg_append]; rfl
   obtain ⟨s,hsd⟩:∃ s,s = reg 4294967295 (l.take k):=⟨_,rfl⟩
   rw [← hsd] at hs' hreg ⊢
   have HREG:=hid hreg
   obtain ⟨x,hxd⟩:∃ x,x = l[k]:=⟨_,rfl⟩
   have hc:=HR.out k hlt
   rw [← hxd] at hx hc HREG
   have hxx:=u32_xor_nat s x hs' (by omega)
   have hy:s ^^^ x < 2 ^ 32:=Nat.xor_lt_two_pow hs' (by omega)
   obtain ⟨y,hyd⟩:∃ y,y = s ^^^ x:=⟨_,rfl⟩
   rw [← hyd] at hxx hy HREG
   clear hs hsd hreg hxd hyd hs'
   go_wp2
   go_loopw [3,5] (fun s i W=>∃ j:Nat,j ≤ 8 ∧ i = .int .i64 j ∧ s = .int .u32 (iter j y:Int) ∧ W = wr) (fun _ i _=>8 - (intOf i).toNat)
   case atStart=>exact ⟨0,by omega,rfl,rfl,rfl⟩
   case round =>
    obtain ⟨j,hj,rfl,rfl,hW⟩:=hrel
    subst hW
    by_cases hlt2:j < 8
    ·have hi:=iter_lt j (r:=y) hy
     have hi':iter j y < 4294967296:=hi
     have HIS:=hid (iter_end j y)
     obtain ⟨z,hz⟩:∃ z,z = iter j y:=⟨_,rfl⟩
     rw [← hz] at hi' HIS ⊢
     have hpl:poly < 4294967296:=by decide
     have HX:=hid (u32_xor_nat (z / 2) poly (by omega) hpl)
     clear hz hi hpl
     by_cases ho:z % 2 = 1
     ·have HT:Hid (T z = z / 2 ^^^ poly):=by show _ = _; unfold T; rw [if_pos ho]
      have ho1:(z:Int) % 2 = 1:=by omega
      go_wp2
      refine ⟨⟨j + 1,hlt2,rfl,?_,trivial⟩,by simp [intOf]; omega⟩
      rw [HIS.out,HT.out]
      exact congrArg (Value.int .u32) HX.out
     ·have HT:Hid (T z = z / 2):=by show _ = _; unfold T; rw [if_neg ho,Nat.xor_zero]
      have ho1:(z:Int) % 2 = 0:=by omega
      go_wp2
      refine ⟨⟨j + 1,hlt2,rfl,?_,trivial⟩,by simp [intOf]; omega⟩
      rw [HIS.out,HT.out]
      simp
    ·have e8:j = 8:=by omega
     subst e8
     go_wp2
     exact ⟨⟨k + 1,hlt,rfl,by rw [HREG.out],trivial⟩,by simp [intOf]; omega⟩
  ·go_wp2
   go_ret
   have e:k = l.length:=by omega
   have hs:=reg_lt (l:=l) HL.out (r:=4294967295) (by decide)
   have ec:(4294967295 - (reg 4294967295 (l.take k):Int)) % 4294967296 = (crc l:Int):=by
    rw [e,List.take_length]
    unfold crc
    rw [not_sum hs]
    omega
   exact ⟨congrArg (fun x=>Ending.returned (Value.int .u32 x)) ec,rfl⟩
def bcl (l:List Nat):List Value:=l.map fun x:Nat=>Value.int .u8 (x:Int)
abbrev OwnB (w:World) (base:Nat) (v:Value) (l:List Nat):Prop:=w.ownsRow base 5 1 v l.length (bcl l)
theorem info_parts {e:TypeId} {z:Value} {n b:Nat} (h:(Tryz.prog.info? e).map (fun i=>(i.zero,i.size,i.bytes)) = some (some z,n,b)):∃ i,Tryz.prog.info? e = some i ∧ i.zero = some z ∧ i.size = n ∧ i.bytes = b:=by
 obtain ⟨i,hi,h2⟩:=Option.map_eq_some_iff.1 h
 simp only [Prod.mk.injEq] at h2
 exact ⟨i,hi,h2.1,h2.2.1,h2.2.2⟩
theorem Tryz.info5b:(Tryz.prog.info? 5).map (fun i=>(i.zero,i.size,i.bytes)) = some (some (.int .u8 0),1,1):=by kernel_rfl
theorem below_grown {w w':World} {base:Nat} {row:Option Nat} (hg:w.grownBy w' row) (hr:∀ k,row = some k → base ≤ k) (hb:base ≤ w.heap.size):Below base w w':=
 ⟨hg.os,hg.tape,hg.output,hg.size,fun k hk=>hg.block k (by omega) (fun e=>by have:=hr k e.symm; omega)⟩
theorem wpList_app (w:World) {ops:Array Oper} {rest:List Oper} {o:Oper} {a:Act} {Q:Exit → Act → World → Prop} (hgd:o.guard = none) (s x:Operand)
  (hop:o.op = Op.call { callee:=Callee.builtin Builtin.append,args:=#[s,x],argTypes:=#[118,118] })
  (base:Nat) (v:Value) (l:List Nat) (ad:Addr) (news:List Nat) (m c:Nat) (hs:a.eval s = v) (hx:a.eval x = .slice (some ad) m c) (hml:news.length = m) (hown:OwnB w base v l) (hc:∀ j (h:j < news.length),w.cell? (ad.add j) = some (.int .u8 (news[j]:Int)))
  (hm:0 < m) (hn:l.length + m ≤ 70368744177664) (hb:base ≤ w.heap.size)
  (hK:∀ v' w',OwnB w' base v' (l ++ news) → Below base w w' → wpList Tryz.prog ops Q rest (a.put o.dst v') w'):wpList Tryz.prog ops Q (o :: rest) a w:=by
 obtain ⟨i,h0,hz0,hz1,hz2⟩:=info_parts Tryz.info5b
 refine wpList_append_lies w hgd s x 118 hop base 5 i (.int .u8 0) 1 1 Tryz.underlying118 h0 hz0 hz1 hz2 rfl (by decide) v l.length (bcl l) hs hown ad m c (bcl news) hx (by simp [bcl,hml])
  (fun j u hu=>?_) (fun u hu=>?_) hm (by unfold maxLen; omega) (by omega) hb _ rfl (fun g cap w' r1 r2 r3 _=>hK _ w' ?_ (below_grown r2 (fun k hk=>(hown.lt k hk).1) hb))
 ·simp only [bcl,List.getElem?_map] at hu
  obtain ⟨y,hy,rfl⟩:=Option.map_eq_some_iff.1 hu
  obtain ⟨hj,rfl⟩:=List.getElem?_eq_some_iff.1 hy
  exact hc j hj
 ·obtain ⟨y,_,rfl⟩:=List.mem_map.1 hu
  rfl
 ·have e:bcl (l ++ news) = bcl l ++ bcl news:=by simp [bcl]
  unfold OwnB
  rw [e,List.length_append,hml]
  exact r1
theorem one_byte (W:World) (y:Nat):∀ j (h:j < [y % 256].length),(W.alloc (.cells #[.int .u8 ((y:Int) % 256)] 5)).cell? ((⟨W.heap.size,0,none⟩:Addr).add j) = some (.int .u8 (([y % 256][j]:Nat):Int)):=fun j h=>by
 have hj:j = 0:=by simp at h; exact h
 subst hj
 simp [Addr.add]
set_option maxRecDepth 100000 in
set_option maxHeartbeats 1000000 in
theorem number_any (base:Nat) (sv:Value) (l:List Nat) (v n:Nat) (w:World) (h:OwnB w base sv l) (hb:base ≤ w.heap.size) (hn:n ≤ 65536) (hl:l.length ≤ 1099511627776) (hv:v < 18446744073709551616) :
  Calls Tryz.prog 122 #[sv,.int .u64 (v:Int),.int .i64 (n:Int)] w fun e w'=>∃ sv',e = .returned sv' ∧ OwnB w' base sv' (l ++ le n v) ∧ Below base w w':=by
 have HH:=hid h
 clear h
 go_enter Tryz.func122,Tryz.ntmps122
 go_wp2
 go_loopw [0,1,7] (fun bv vv i W=>∃ k:Nat,k ≤ n ∧ i = .int .i64 k ∧ vv = .int .u64 ((v / 256 ^ k:Nat):Int) ∧ OwnB W base bv (l ++ le k v) ∧ Below base w W) (fun _ _ i _=>n - (intOf i).toNat)
 case atStart=>exact ⟨0,Nat.zero_le _,rfl,by simp,by simpa [le] using HH.out,Below.refl _ _⟩
 case round =>
  obtain ⟨k,hk,rfl,rfl,h1,h2⟩:=hrel
  have hbW:base ≤ wr.heap.size:=Nat.le_trans hb h2.size
  by_cases hlt:k < n
  ·have H1:=hid (h1.alloc (.cells #[.int .u8 (((v / 256 ^ k:Nat):Int) % 256)] 5))
   have HC:=hid (one_byte wr (v / 256 ^ k))
   have H2:=hid h2
   have hll:(l ++ le k v).length = l.length + k:=by rw [List.length_append,le_length]
   have hdv:v / 256 ^ k / 256 = v / 256 ^ (k + 1):=by rw [Nat.div_div_eq_div_mul,Nat.pow_succ]
   have HDV:=hid hdv
   have HLE:Hid (l ++ le (k + 1) v = (l ++ le k v) ++ [v / 256 ^ k % 256]):=by show _ = _; rw [le_succ,List.append_assoc]
   have hyv:v / 256 ^ k < 18446744073709551616:=Nat.lt_of_le_of_lt (Nat.div_le_self ..) hv
   obtain ⟨y,hy⟩:∃ y,y = v / 256 ^ k:=⟨_,rfl⟩
   rw [← hy] at HDV HLE H1 HC hyv ⊢
   have hsz:(wr.alloc (.cells #[.int .u8 ((y:Int) % 256)] 5)).heap.size = wr.heap.size + 1:=by simp
   have HLL:=hid hll
   clear h1 h2 hdv hy hll
   go_wp2_with (first
    |(at_builtin; refine wpList_app _ rfl _ _ rfl base _ (l ++ le k v) ⟨wr.heap.size,0,none⟩ [y % 256] 1 1 rfl rfl rfl H1.out HC.out (by omega) (by have:=HLL.out; omega) (by omega) ?_; intro v3 w3 r1 r2; have K1:=hid r1; have K2:=hid r2; clear r1 r2))
   have hbe:Below base w w3:=(H2.out.alloc (by omega) _).trans K2.out
   refine ⟨⟨k + 1,hlt,rfl,?_,by rw [HLE.out]; exact K1.out,hbe⟩,by simp [intOf]; omega⟩
   rw [← HDV.out]
   simp
  ·have HF:=hid (And.intro h1 h2)
   have e:k = n:=by omega
   subst e
   clear h1 h2
   go_wp2
   go_ret
   exact ⟨_,rfl,HF.out⟩
theorem OwnB.rd {w:World} {base:Nat} {v:Value} {l:List Nat} (h:OwnB w base v l) (h0:0 < l.length):∃ g cap,v = .slice (some ⟨g,0,none⟩) l.length cap ∧ base ≤ g ∧ g < w.heap.size ∧ l.length ≤ cap ∧ Rd w g 0 l:=by
 rcases h.2 with ⟨_,hn⟩ | ⟨g,cap,cur,hv,hb,hg,hc,_,_,ht⟩
 ·omega
 ·refine ⟨g,cap,hv,hb,ltB hg,hc,fun i hi=>?_⟩
  have h1:=h.cells (g:=g) (by rw [hv]; rfl) i (.int .u8 (l[i]:Int)) (by simp [bcl,List.getElem?_eq_getElem hi])
  have ha:(⟨g,0,none⟩:Addr).add i = ⟨g,0 + i,none⟩:=by unfold Addr.add; split <;> simp_all
  rw [ha] at h1
  exact h1
theorem number_at (base:Nat) (sv:Value) (l:List Nat) (v n:Nat) (w:World) (h:OwnB w base sv l) (hb:base ≤ w.heap.size) (hn:n ≤ 65536) (hl:l.length ≤ 1099511627776) (hv:v < 18446744073709551616) (vz nz:Int) (e1:vz = (v:Int)) (e2:nz = (n:Int)) :
  Calls Tryz.prog 122 #[sv,.int .u64 vz,.int .i64 nz] w fun e w'=>∃ sv',e = .returned sv' ∧ OwnB w' base sv' (l ++ le n v) ∧ Below base w w':=by
 subst e1 e2
 exact number_any base sv l v n w h hb hn hl hv
set_option maxRecDepth 100000 in
set_option maxHeartbeats 2000000 in
theorem rencode_ok (kind place n N:Nat) (ws:List Nat) (rb ro rc:Nat) (w:World) (hw:Wd w rb ro ws) (hl:ws.length = 4 * n) (hrb:rb < w.heap.size) (hlt:∀ x ∈ ws,x < 18446744073709551616)
  (hk1:1 ≤ kind) (hk2:kind ≤ 255) (hp:place < 9223372036854775808) (hN1:64 ≤ N) (hN2:N ≤ 65536) (hN3:N % 32 = 0) (hn1:1 ≤ n) (hn2:n ≤ N / 32 - 1) :
  Calls Tryz.prog 70 #[.int .i64 (kind:Int),.int .i64 (place:Int),.slice (some ⟨rb,ro,none⟩) n rc,.int .i64 (N:Int)] w fun e w' =>
   ∃ sv,e = .returned (.tuple #[sv,.int .i64 0]) ∧ OwnB w' w.heap.size sv (enc kind place n ws N) ∧ Tc [] w w':=by
 have HF:=hid (fun W=>rfit_any (N:Int) W)
 have hfit:fitN (N:Int) = ((N / 32 - 1:Nat):Int):=by unfold fitN; rw [if_pos (by omega)]; omega
 rw [hfit] at HF
 obtain ⟨f,hf⟩:∃ f,f = N / 32 - 1:=⟨_,rfl⟩
 rw [← hf] at HF hn2
 have hf0:¬ (f:Int) = 0:=by omega
 have hf1:((f:Int) == 0) = false:=by simpa using hf0
 have hn0':¬ (n:Int) = 0:=by omega
 have hn0:((n:Int) == 0) = false:=by simpa using hn0'
 have hkm:(kind:Int) % 256 = (kind:Int):=by omega
 have hlit:OwnB (w.alloc (.cells #[.int .u8 83,.int .u8 84,.int .u8 82,.int .u8 65,.int .u8 1,.int .u8 (kind:Int)] 5)) w.heap.size (.slice (some ⟨w.heap.size,0,none⟩) 6 6) [83,84,82,65,1,kind]:=by
  have:=World.ownsRow_lit (base:=w.heap.size) (e:=5) (size:=1) w #[.int .u8 83,.int .u8 84,.int .u8 82,.int .u8 65,.int .u8 1,.int .u8 (kind:Int)] 6 (Nat.le_refl _) (by decide) rfl
  exact this
 have HLIT:=hid hlit
 have T0:=hid (show Below w.heap.size w (w.alloc (.cells #[.int .u8 83,.int .u8 84,.int .u8 82,.int .u8 65,.int .u8 1,.int .u8 (kind:Int)] 5)) from (Below.refl _ w).alloc (Nat.le_refl _) _)
 have S0:(w.alloc (.cells #[.int .u8 83,.int .u8 84,.int .u8 82,.int .u8 65,.int .u8 1,.int .u8 (kind:Int)] 5)).heap.size = w.heap.size + 1:=by simp
 have HS0:=hid S0
 have NUM:=hid (fun sv l v n W vz nz h hb hn hl hv e1 e2=>number_at w.heap.size sv l v n W h hb hn hl hv vz nz e1 e2)
 have hn3:n ≤ 2047:=by omega
 have HW:=hid hw
 have HL:=hid hl
 have HLT:=hid hlt
 have HFF:=hid hf
 clear hw hl hlt hfit hf hlit S0
 go_enter Tryz.func70,Tryz.ntmps70
 go_wp2_with (first
  |(go_at_call 38; refine (HF.out _).mono ?_; rintro e w3 ⟨rfl,hh⟩; have hh:=hh.symm; subst hh))
 with_reducible refine (NUM.out _ _ n 2 _ _ _ HLIT.out ?_ ?_ ?_ ?_ ?_ ?_).mono ?_
 ·rw [HS0.out]; omega
 ·omega
 ·simp
 ·omega
 ·rfl
 ·rfl
 rintro e w1 ⟨v1,rfl,r1,t1⟩
 have O1:=hid r1
 have T1:=hid (T0.out.trans t1)
 clear r1 t1
 go_wp2_with fail
 with_reducible refine (NUM.out _ _ place 8 _ _ _ O1.out ?_ ?_ ?_ ?_ ?_ ?_).mono ?_
 ·exact T1.out.size
 ·omega
 ·simp [le_length]
 ·omega
 ·rfl
 ·rfl
 rintro e w2 ⟨v2,rfl,r2,t2⟩
 have O2:=hid r2
 have T2:=hid (T1.out.trans t2)
 clear r2 t2
 go_wp2_with fail
 with_reducible refine (NUM.out _ _ 0 12 _ _ _ O2.out ?_ ?_ ?_ ?_ ?_ ?_).mono ?_
 ·exact T2.out.size
 ·omega
 ·simp [le_length]
 ·omega
 ·rfl
 ·rfl
 rintro e w3 ⟨v3,rfl,r3,t3⟩
 have hhd:([83,84,82,65,1,kind] ++ le 2 n ++ le 8 place ++ le 12 0) = head kind place n:=by
  rw [le_zero]
  simp [head,zeros]
 rw [hhd] at r3
 have O3:=hid r3
 have T3:=hid (T2.out.trans t3)
 clear r3 t3 hhd T2 T1 O1 O2 HLIT T0 HS0
 go_wp2_with fail
 go_loopw [10,11] (fun bv i W=>∃ k:Nat,k ≤ n ∧ i = .int .i64 k ∧ OwnB W w.heap.size bv (head kind place n ++ (ws.take (4 * k)).flatMap (le 8)) ∧ Below w.heap.size w W) (fun _ i _=>n - (intOf i).toNat)
 case atStart=>exact ⟨0,Nat.zero_le _,rfl,by simpa using O3.out,T3.out⟩
 case round =>
  obtain ⟨k,hk,rfl,h1,h2⟩:=hrel
  have H1:=hid h1
  have H2:=hid h2
  clear h1 h2
  by_cases hlt:k < n
  ·go_wp2_with fail
   go_loopw [10,12] (fun bv i W=>∃ j:Nat,j ≤ 4 ∧ i = .int .i64 j ∧ OwnB W w.heap.size bv (head kind place n ++ (ws.take (4 * k + j)).flatMap (le 8)) ∧ Below w.heap.size w W) (fun _ i _=>4 - (intOf i).toNat)
   case atStart=>exact ⟨0,Nat.zero_le _,rfl,H1.out,H2.out⟩
   case round =>
    obtain ⟨j,hj,rfl,h1,h2⟩:=hrel
    by_cases hlt2:j < 4
    ·have htl:4 * k + j < ws.length:=by rw [HL.out]; omega
     have hwd:Wd wr rb ro ws:=fun i hi=>(h2.cell (p:=⟨rb,ro + i,none⟩) hrb).trans (HW.out i hi)
     have hc:=hwd (4 * k + j) htl
     rw [show ro + (4 * k + j) = ro + k * 4 + j by omega] at hc
     have hxs:=HLT.out _ (List.getElem_mem htl)
     have hfl:(head kind place n ++ (ws.take (4 * k + j)).flatMap (le 8)) ++ le 8 ws[4 * k + j] = head kind place n ++ (ws.take (4 * k + (j + 1))).flatMap (le 8):=by
      rw [show 4 * k + (j + 1) = (4 * k + j) + 1 by omega,List.take_succ_eq_append_getElem htl,List.flatMap_append]
      simp
     have hll:(head kind place n ++ (ws.take (4 * k + j)).flatMap (le 8)).length ≤ 1099511627776:=by
      rw [List.length_append,head_length,flat_length,List.length_take]; omega
     obtain ⟨x,hxd⟩:∃ x,x = ws[4 * k + j]:=⟨_,rfl⟩
     rw [← hxd] at hc hxs hfl
     have HFL:=hid hfl
     have HLL:=hid hll
     have K1:=hid h1
     have K2:=hid h2
     clear h1 h2 hwd hxd hfl hll
     go_wp2_with fail
     with_reducible refine (NUM.out _ _ x 8 _ _ _ K1.out ?_ ?_ ?_ ?_ ?_ ?_).mono ?_
     ·exact K2.out.size
     ·omega
     ·exact HLL.out
     ·exact hxs
     ·rfl
     ·rfl
     rintro e w5 ⟨v5,rfl,r5,t5⟩
     rw [HFL.out] at r5
     have R5:=hid r5
     have T5:=hid (K2.out.trans t5)
     clear r5 t5
     go_wp2_with fail
     exact ⟨⟨j + 1,hlt2,rfl,R5.out,T5.out⟩,by simp [intOf]; omega⟩
    ·have e4:j = 4:=by omega
     subst e4
     have K1:=hid h1
     have K2:=hid h2
     clear h1 h2
     go_wp2_with fail
     exact ⟨⟨k + 1,hlt,rfl,by rw [Nat.mul_succ]; exact K1.out,K2.out⟩,by simp [intOf]; omega⟩
  ·have e4:k = n:=by omega
   subst e4
   have hwl:=HL.out
   have hff:=HFF.out
   have h32:32 + 8 * ws.length ≤ N:=by omega
   have o1:OwnB wr w.heap.size u10 (head kind place k ++ ws.flatMap (le 8)):=by
    have:=H1.out
    rwa [← hwl,List.take_length] at this
   have hpl:(head kind place k ++ ws.flatMap (le 8)).length = 28 + 8 * ws.length:=by rw [List.length_append,head_length,flat_length]
   obtain ⟨g1,c1,rfl,_,_,_,_⟩:=o1.rd (by rw [hpl]; omega)
   have hbl:=body_length (kind:=kind) (place:=place) (n:=k) h32
   obtain ⟨P,hP⟩:∃ P,P = (head kind place k ++ ws.flatMap (le 8)).length:=⟨_,rfl⟩
   rw [← hP] at hpl
   have hbody:(head kind place k ++ ws.flatMap (le 8)) ++ le (N - 4 - P) 0 = body kind place k ws N:=by
    rw [le_zero,body,List.append_assoc,show N - 4 - P = N - 32 - 8 * ws.length by omega]
    rfl
   have hPN:P + 4 ≤ N:=by omega
   have HB:=hid hbody
   have HBL:=hid hbl
   have O1:=hid o1
   rw [← hP]
   have HP:=hid hP
   clear H1 o1 hbody hbl hwl hff hpl hP
   go_wp2_with fail
   have O1':OwnB wr w.heap.size (.slice (some ⟨g1,0,none⟩) P c1) (head kind place k ++ ws.flatMap (le 8)):=by rw [HP.out]; exact O1.out
   with_reducible refine (NUM.out _ _ 0 (N - 4 - P) _ _ _ O1' ?_ ?_ ?_ ?_ ?_ ?_).mono ?_
   ·exact H2.out.size
   ·omega
   ·rw [← HP.out]; omega
   ·omega
   ·rfl
   ·omega
   rintro e w5 ⟨v5,rfl,r5,t5⟩
   rw [HB.out] at r5
   obtain ⟨g5,c5,rfl,hg5,hs5,hc5,hrd5⟩:=r5.rd (by rw [HBL.out]; omega)
   have hblt:=body_lt (kind:=kind) (place:=place) (n:=k) (ws:=ws) (block:=N) (by omega)
   have HSM:=rsum_any (body kind place k ws N) g5 0 c5 w5 hrd5 hblt (by rw [HBL.out]; omega)
   have hcl:crc (body kind place k ws N) < 4294967296:=crc_lt hblt
   have O5:=hid r5
   have T5:=hid (H2.out.trans t5)
   rw [HBL.out] at HSM ⊢
   have HSM:=hid HSM
   have HEN:Hid (body kind place k ws N ++ le 4 (crc (body kind place k ws N)) = enc kind place k ws N):=rfl
   obtain ⟨v,hv⟩:∃ v,v = crc (body kind place k ws N):=⟨_,rfl⟩
   rw [← hv] at HSM HEN hcl
   clear r5 t5 hrd5 hblt hv
   go_wp2_with (first
    |(go_at_call 123; refine HSM.out.mono ?_; rintro e w3 ⟨rfl,hh⟩; have hh:=hh.symm; subst hh))
   have O5':OwnB w5 w.heap.size (.slice (some ⟨g5,0,none⟩) (N - 4) c5) (body kind place k ws N):=by rw [← HBL.out]; exact O5.out
   with_reducible refine (NUM.out _ _ v 4 _ _ _ O5' ?_ ?_ ?_ ?_ ?_ ?_).mono ?_
   ·exact T5.out.size
   ·omega
   ·rw [HBL.out]; omega
   ·omega
   ·rfl
   ·rfl
   rintro e w6 ⟨v6,rfl,r6,t6⟩
   rw [HEN.out] at r6
   have R6:=hid r6
   have T6:=hid (T5.out.trans t6)
   clear r6 t6
   go_wp2_with fail
   go_ret2
   exact ⟨_,rfl,R6.out,Tc.of_below T6.out (Nat.le_refl _)⟩
end Go.Proofs.YthehcjjckabljaaGreatDoor.Rx
namespace Go.Proofs.YthehcjjckabljaaGreatDoor
open Go.RowKit Go.Deep
set_option maxRecDepth 100000
set_option linter.unusedSimpArgs false
set_option linter.unusedVariables false
def RwD (w:World) (D:List Nat):Prop:=∀ y ∈ D,∃ c ty fr,w.heap[y]? = some (.cells c ty fr) ∧ (ty = 118 ∨ ty = 5)
theorem RwD.lt {w:World} {D:List Nat} (h:RwD w D):∀ y ∈ D,y < w.heap.size:=fun y hy=>by
 obtain ⟨c,ty,fr,e,_⟩:=h y hy
 exact ltB e
theorem RwD.touch {w w':World} {D G:List Nat} (h:RwD w D) (t:Tc G w w') (hG:∀ y ∈ G,y ∉ D):RwD w' D:=fun y hy=>by
 obtain ⟨c,ty,fr,e,e2⟩:=h y hy
 exact ⟨c,ty,fr,(t.block y (ltB e) (fun hx=>hG _ hx hy)).trans e,e2⟩
theorem RwD.app {w:World} {D D':List Nat} (h:RwD w D) (h':RwD w D'):RwD w (D ++ D'):=fun y hy=>by
 rcases List.mem_append.1 hy with hy | hy
 ·exact h y hy
 ·exact h' y hy
def ByD (w:World) (D:List Nat) (sv:Value) (d:List UInt8):Prop:=∃ xa xn xc,sv = .slice xa xn xc ∧ Shows w xa xn xc d ∧ (∀ a,xa = some a → 0 < xn → a.block ∈ D)
theorem ByD.touch {w w':World} {D G:List Nat} {sv:Value} {d:List UInt8} (h:ByD w D sv d) (t:Tc G w w') (hG:∀ y ∈ G,y ∉ D):ByD w' D sv d:=by
 obtain ⟨xa,xn,xc,rfl,hs,hd⟩:=h
 refine ⟨xa,xn,xc,rfl,⟨hs.len,hs.cap,fun h0=>?_,hs.nil⟩,hd⟩
 obtain ⟨a,e,hl,hc⟩:=hs.at_ h0
 have hn:a.block ∉ G:=fun hx=>hG _ hx (hd a e h0)
 exact ⟨a,e,Nat.lt_of_lt_of_le hl t.size,fun j v hv=>(t.cell (by rw [add_block]; exact hl) (by rw [add_block]; exact hn)).trans (hc j v hv)⟩
theorem ByD.mono {w:World} {D D':List Nat} {sv:Value} {d:List UInt8} (h:ByD w D sv d) (hD:∀ y ∈ D,y ∈ D'):ByD w D' sv d:=by
 obtain ⟨xa,xn,xc,e,hs,hd⟩:=h
 exact ⟨xa,xn,xc,e,hs,fun a ha h0=>hD _ (hd a ha h0)⟩
theorem bcl_bytes (d:List UInt8):Rx.bcl (numsU d) = Lib.byteCells d:=by
 unfold Rx.bcl numsU Lib.byteCells
 rw [List.map_map]
 rfl
theorem ByD.of_own {w:World} {base:Nat} {sv:Value} {d:List UInt8} (h:Rx.OwnB w base sv (numsU d)):∃ D,ByD w D sv d ∧ RwD w D ∧ ∀ y ∈ D,base ≤ y:=by
 have h':w.ownsRow base 5 1 sv d.length (Lib.byteCells d):=by
  have:=h
  unfold Rx.OwnB at this
  rwa [bcl_bytes,numsU_length] at this
 obtain ⟨sa,c,rfl,hs,hb⟩:=shows_own h'
 rcases h'.2 with ⟨e,h0⟩ | ⟨g,cap,cur,e,hg1,hg2,_⟩
 ·have e1:sa = none:=by injection e
  subst e1
  exact ⟨[],⟨none,_,_,rfl,hs,fun a ha=>(by cases ha)⟩,fun y hy=>(by cases hy),fun y hy=>(by cases hy)⟩
 ·have e1:sa = some ⟨g,0,none⟩:=by injection e
  subst e1
  exact ⟨[g],⟨_,_,_,rfl,hs,fun a ha _=>by cases ha; simp⟩,fun y hy=>by simp at hy; subst hy; exact ⟨_,_,_,hg2,.inr rfl⟩,fun y hy=>by simp at hy; subst hy; exact hg1⟩
def BlD (w:World) (D:List Nat) (v:Value) (bls:List (List UInt8)):Prop:=∃ xa xc,v = .slice xa bls.length xc ∧ ∀ i (hi:i < bls.length),∃ a sv,xa = some a ∧ a.block ∈ D ∧ a.block < w.heap.size ∧ w.cell? (a.add i) = some sv ∧ ByD w D sv bls[i]
theorem BlD.touch {w w':World} {D G:List Nat} {v:Value} {bls:List (List UInt8)} (h:BlD w D v bls) (t:Tc G w w') (hG:∀ y ∈ G,y ∉ D):BlD w' D v bls:=by
 obtain ⟨xa,xc,e,hb⟩:=h
 refine ⟨xa,xc,e,fun i hi=>?_⟩
 obtain ⟨a,sv,e1,hD,hl,hc,hs⟩:=hb i hi
 exact ⟨a,sv,e1,hD,Nat.lt_of_lt_of_le hl t.size,(t.cell (by rw [add_block]; exact hl) (by rw [add_block]; exact fun hx=>hG _ hx hD)).trans hc,hs.touch t hG⟩
theorem BlD.mono {w:World} {D D':List Nat} {v:Value} {bls:List (List UInt8)} (h:BlD w D v bls) (hD:∀ y ∈ D,y ∈ D'):BlD w D' v bls:=by
 obtain ⟨xa,xc,e,hb⟩:=h
 refine ⟨xa,xc,e,fun i hi=>?_⟩
 obtain ⟨a,sv,e1,hm,hl,hc,hs⟩:=hb i hi
 exact ⟨a,sv,e1,hD _ hm,hl,hc,hs.mono hD⟩
theorem BlD.in_ {w:World} {D:List Nat} {v:Value} {bls:List (List UInt8)} (h:BlD w D v bls):BlIn w v bls:=by
 obtain ⟨xa,xc,e,hb⟩:=h
 refine ⟨⟨xa,xc,e⟩,fun i hi=>?_⟩
 obtain ⟨a,sv,rfl,hD,hl,hc,⟨ya,yn,yc,rfl,hs,_⟩⟩:=hb i hi
 exact ⟨a,xc,ya,yn,yc,e,hl,hc,hs⟩
structure BlO (w:World) (D:List Nat) (v:Value) (bls:List (List UInt8)) (svs:List Value):Prop where
 own:w.ownsRow 0 118 1 v bls.length svs
 each:∀ i (hi:i < bls.length),∃ sv,svs[i]? = some sv ∧ ByD w D sv bls[i]
 rows:RwD w D
 apart:∀ k,v.ownBlock = some k → k ∉ D
theorem BlO.nil (w:World):BlO w [] (.slice none 0 0) [] []:=⟨World.ownsRow_nil _ _ _ _,fun i hi=>(by simp at hi),fun y hy=>(by cases hy),fun k hk=>(by simp [Value.ownBlock] at hk)⟩
theorem BlO.touch {w w':World} {D G:List Nat} {v:Value} {bls:List (List UInt8)} {svs:List Value} (h:BlO w D v bls svs) (t:Tc G w w') (hG:∀ y ∈ G,y ∉ D ∧ v.ownBlock ≠ some y):BlO w' D v bls svs:=
 ⟨ownsRow_touch h.own t (fun x hx hg=>(hG x hg).2 hx),fun i hi=>by
  obtain ⟨sv,e,hs⟩:=h.each i hi
  exact ⟨sv,e,hs.touch t (fun y hy=>(hG y hy).1)⟩,h.rows.touch t (fun y hy=>(hG y hy).1),h.apart⟩
theorem BlO.snoc {w w':World} {D D':List Nat} {v v':Value} {bls:List (List UInt8)} {svs:List Value} {sv:Value} {d:List UInt8} (h:BlO w D v bls svs) (hs:ByD w D' sv d) (hr:RwD w D') (hD:∀ k,v.ownBlock = some k → k ∉ D')
  (ho:w'.ownsRow 0 118 1 v' (bls.length + 1) (svs ++ [sv])) (hg:w.grownBy w' v.ownBlock) (hn:v'.ownBlock = v.ownBlock ∨ v'.ownBlock = some w.heap.size):BlO w' (D ++ D') v' (bls ++ [d]) (svs ++ [sv]):=by
 have hap:∀ k,v.ownBlock = some k → k ∉ D ++ D':=fun k hk hx=>by
  rcases List.mem_append.1 hx with hx | hx
  ·exact h.apart k hk hx
  ·exact hD k hk hx
 have hrw:RwD w (D ++ D'):=h.rows.app hr
 have tt:Tc (v.ownBlock.toList) w w':=(Tc.refl _ w).grown hg (fun k hk=>.inl (by rw [hk]; simp))
 have hG:∀ y ∈ v.ownBlock.toList,y ∉ D ++ D':=fun y hy=>hap y (by simpa using hy)
 have hlen:svs.length = bls.length:=by have:=h.own.1; omega
 refine ⟨by rw [List.length_append]; exact ho,fun i hi=>?_,hrw.touch tt hG,fun k hk hx=>?_⟩
 ·by_cases hlt:i < bls.length
  ·obtain ⟨s1,e1,hs1⟩:=h.each i hlt
   refine ⟨s1,by rw [List.getElem?_append_left (by omega)]; exact e1,?_⟩
   rw [List.getElem_append_left hlt]
   exact (hs1.mono (fun y hy=>List.mem_append_left _ hy)).touch tt hG
  ·have hii:i = bls.length:=by rw [List.length_append] at hi; simp at hi; omega
   subst hii
   refine ⟨sv,by rw [List.getElem?_append_right (by omega)]; simp [hlen],?_⟩
   have e:(bls ++ [d])[bls.length]'hi = d:=by rw [List.getElem_append_right (by omega)]; simp
   rw [e]
   exact (hs.mono (fun y hy=>List.mem_append_right _ hy)).touch tt hG
 ·rcases hn with e | e
  ·rw [e] at hk; exact hap k hk hx
  ·rw [e] at hk
   have:=Option.some.inj hk
   have:=hrw.lt k hx
   omega
theorem BlO.done {w:World} {D:List Nat} {v:Value} {bls:List (List UInt8)} {svs:List Value} (h:BlO w D v bls svs):∃ D',BlD w D' v bls ∧ RwD w D' ∧ ∀ y ∈ D',y ∈ D ∨ v.ownBlock = some y:=by
 rcases h.own.2 with ⟨e,h0⟩ | ⟨g,cap,cur,e,hg1,hg2,_⟩
 ·refine ⟨D,⟨none,0,by rw [e,h0],fun i hi=>by omega⟩,h.rows,fun y hy=>.inl hy⟩
 ·refine ⟨g :: D,⟨some ⟨g,0,none⟩,cap,e,fun i hi=>?_⟩,fun y hy=>?_,fun y hy=>?_⟩
  ·obtain ⟨sv,e1,hs⟩:=h.each i hi
   exact ⟨_,sv,rfl,by simp,ltB hg2,h.own.cells (g:=g) (by rw [e]; rfl) i sv e1,hs.mono (fun y hy=>List.mem_cons_of_mem _ hy)⟩
  ·rcases List.mem_cons.1 hy with rfl | hy
   ·exact ⟨_,_,_,hg2,.inl rfl⟩
   ·exact h.rows y hy
  ·rcases List.mem_cons.1 hy with rfl | hy
   ·right; rw [e]; rfl
   ·exact .inl hy
theorem rec_words {w:World} {l:List Rc} {g cap:Nat} (h:w.ownsRow 0 176 4 (.slice (some ⟨g,0,none⟩) l.length cap) l.length (recC l)) (p m:Nat):Rx.Wd w g (p * 4) (flatR ((l.drop p).take m)):=fun i hi=>by
 have hl:=flatR_length ((l.drop p).take m)
 have h1:(flatR l)[p * 4 + i]? = some (flatR ((l.drop p).take m))[i]:=by
  have e:flatR l = flatR (l.take p) ++ flatR (l.drop p):=by
   conv=>lhs; rw [← List.take_append_drop p l]
   unfold flatR
   rw [List.flatMap_append]
  have hp:p ≤ l.length:=by
   rw [List.length_take,List.length_drop] at hl
   omega
  have hl2:(flatR (l.take p)).length = p * 4:=by rw [flatR_length,List.length_take]; omega
  have e2:flatR (l.drop p) = flatR ((l.drop p).take m) ++ flatR ((l.drop p).drop m):=by
   conv=>lhs; rw [← List.take_append_drop m (l.drop p)]
   unfold flatR
   rw [List.flatMap_append]
  rw [e,List.getElem?_append_right (by omega),hl2,Nat.add_sub_cancel_left,e2,List.getElem?_append_left hi,List.getElem?_eq_getElem hi]
 have h2:=h.cells (g:=g) rfl (p * 4 + i) (.int .u64 ((flatR ((l.drop p).take m))[i]:Int)) (by unfold recC; rw [List.getElem?_map,h1]; rfl)
 rw [addC,Nat.zero_add] at h2
 exact h2
section
variable {w:World} {l:List Rc} {kind B K:Nat} {v:Value}
def BkW (w W:World) (kind B K:Nat) (l:List Rc) (ov:Value) (j:Nat):Prop:=∃ D svs,BlO W D ov (bkO kind K B l j) svs ∧ (∀ y ∈ D,w.heap.size ≤ y) ∧ (∀ k,ov.ownBlock = some k → w.heap.size ≤ k) ∧ Tc [] w W
set_option maxHeartbeats 8000000 in
theorem rblocks_any (h:w.ownsRow 0 176 4 v l.length (recC l)) (hne:l ≠ []) (hs:smallR l) (hl:l.length ≤ 4194304) (hB:64 ≤ B ∧ B ≤ 65536 ∧ B % 32 = 0) (hK:K = B / 32 - 1) (hk1:1 ≤ kind) (hk2:kind ≤ 5) :
  Calls Tryz.prog 114 #[.int .i64 (kind:Int),v,.int .i64 (B:Int)] w fun e w'=>∃ sv D,e = .returned sv ∧ BlD w' D sv (bkO kind K B l (nBk K l.length)) ∧ RwD w' D ∧ (∀ y ∈ D,w.heap.size ≤ y) ∧ Tc [] w w':=by
 have hK2:1 ≤ K ∧ K ≤ 2047:=by omega
 obtain ⟨g,cap,hv⟩:∃ g cap,v = .slice (some ⟨g,0,none⟩) l.length cap:=by
  rcases h.2 with ⟨_,h0⟩ | ⟨g,cap,cur,e,_⟩
  ·exact absurd (List.eq_nil_of_length_eq_zero h0) hne
  ·exact ⟨g,cap,e⟩
 subst hv
 have hcap:l.length ≤ cap ∧ g < w.heap.size:=by
  rcases h.2 with ⟨e,_⟩ | ⟨g',cap',cur,e,_,hg,h1,_⟩
  ·cases e
  ·injection e with e1 e2 e3
   injection e1 with e4
   injection e4 with e5
   subst e5
   subst e3
   exact ⟨h1,ltB hg⟩
 have HF:=hid (fun W=>rfit_any hB.1 hB.2.1 hB.2.2 W)
 rw [← hK] at HF
 have HW:=hid (fun W (tt:Tc [] w W) (p m:Nat)=>(rec_words h p m).touch tt hcap.2 (by simp))
 have HB:=hid hB
 have HK:=hid hK
 have HS:=hid hs
 have hKi:(0:Int) < (K:Int):=by omega
 have hpos:0 < l.length:=List.length_pos_iff.2 hne
 clear h hB hK hs hne
 go_enter Tryz.func114,Tryz.ntmps114
 go_wp2_with (go_at_call 38; refine (HF.out _).mono ?_; rintro e w1 ⟨rfl,hh⟩; have hh:=hh.symm; subst hh)
 go_loopw [8,9] (fun ov i W=>∃ j p:Nat,p ≤ l.length + K ∧ i = .int .i64 p ∧ Hid (p = j * K) ∧ Hid (j ≤ nBk K l.length) ∧ Hid (BkW w W kind B K l ov j)) (fun _ i _=>l.length - (intOf i).toNat)
 case atStart=>exact ⟨0,0,Nat.zero_le _,rfl,hid (by simp),hid (Nat.zero_le _),hid ⟨[],[],BlO.nil _,by simp,by simp [Value.ownBlock],Tc.refl _ _⟩⟩
 case round =>
  obtain ⟨j,p,hp,rfl,HP,HJ,HBK⟩:=hrel
  obtain ⟨D,svs,hO,hD,hoD,ht⟩:=HBK.out
  obtain ⟨oa,oc,hov⟩:=oSC hO.own
  rw [blocksOf_length] at hov
  have HO:=hid (And.intro hO (And.intro hD (And.intro hoD ht)))
  clear hO hD hoD ht
  by_cases hlt:p < l.length
  ·subst hov
   have hpi:(p:Int) < (l.length:Int):=by omega
   have hp0:(0:Int) ≤ (p:Int):=by omega
   have hw1:IntKind.i64.wrap ((p:Int) + (K:Int)) = ((p + K:Nat):Int):=by rw [IntKind.wrap_i64]; omega
   have hjl:j ≤ 4194304:=by have:=HP.out; have:j * 1 ≤ j * K:=Nat.mul_le_mul_left _ hK2.1; omega
   have hcap1:=hcap.1
   have hgs:=hcap.2
   have hch:(chunk K j l).length = (min ((p:Int) + (K:Int)) (l.length:Int)).toNat - p:=by
    unfold chunk
    rw [List.length_take,List.length_drop,← HP.out]
    omega
   have hc1:1 ≤ (chunk K j l).length ∧ (chunk K j l).length ≤ K:=by rw [hch]; omega
   have hch2:chunk K j l = (l.drop p).take K:=by unfold chunk; rw [HP.out]
   have hsm:∀ x ∈ flatR (chunk K j l),x < 18446744073709551616:=flatR_mem (fun y hy=>List.mem_of_mem_drop (List.mem_of_mem_take hy)) HS.out
   have HEN:Hid (∀ W,Tc [] w W → Calls Tryz.prog 70 #[.int .i64 (kind:Int),.int .i64 (j:Int),.slice (some ⟨g,p * 4,none⟩) ((min ((p:Int) + (K:Int)) (l.length:Int)).toNat - p) (cap - p),.int .i64 (B:Int)] W fun e w'=>∃ sa sc,e = .returned (.tuple #[.slice sa B sc,.int .i64 0]) ∧ Rx.OwnB w' W.heap.size (.slice sa B sc) (numsU (encU kind j (flatR (chunk K j l)) B)) ∧ Tc [] W w'):=hid (fun W tt=>by
    have hB:=HB.out
    have hKo:=HK.out
    have hfl:=flatR_length (chunk K j l)
    have hlen:32 + 8 * (flatR (chunk K j l)).length ≤ B:=by omega
    have h:=Rx.rencode_ok kind j ((chunk K j l).length) B (flatR (chunk K j l)) g (p * 4) (cap - p) W (by rw [hch2]; exact HW.out W tt p K) hfl (Nat.lt_of_lt_of_le hgs tt.size) hsm hk1 (by omega) (by omega) hB.1 hB.2.1 hB.2.2 hc1.1 (by omega)
    have e:numsU (encU kind j (flatR (chunk K j l)) B) = PureCrc.enc kind j (chunk K j l).length (flatR (chunk K j l)) B:=by
     unfold encU
     rw [show (flatR (chunk K j l)).length / 4 = (chunk K j l).length by omega,nums_bytes (PureCrc.enc_lt (by omega))]
    have hel:(encU kind j (flatR (chunk K j l)) B).length = B:=encU_length hlen
    rw [hch,← hch,← e] at h
    rw [hch] at h
    refine h.mono fun e w' ⟨sv,e1,ho,ht⟩=>?_
    obtain ⟨sa,sc,rfl⟩:=oSC ho
    rw [numsU_length,hel] at e1
    rw [numsU_length,hel] at ho
    exact ⟨sa,sc,e1,ho,ht⟩)
   have HCH:=hid (And.intro hch hch2)
   clear hch hch2 hsm hc1
   go_upto_region 7 with (go_at_call 70; refine (HEN.out _ HO.out.2.2.2).mono ?_; rintro e w5 ⟨sa,sc,rfl,hob,ht5⟩; have HOB:=hid (And.intro hob ht5); clear hob ht5)
   obtain ⟨hob,ht5⟩:=HOB.out
   obtain ⟨hO,hD,hoD,ht⟩:=HO.out
   obtain ⟨D5,hby,hrw,hD5⟩:=ByD.of_own hob
   have hO5:=hO.touch ht5 (by simp)
   have hown:=hO5.own
   rw [blocksOf_length] at hown
   have hcell:=cRw (heap_alloc_new w5 (.cells #[.slice sa B sc] 118)) 0
   simp only [List.getElem?_toArray,List.getElem?_cons_zero] at hcell
   obtain ⟨v',w6,hrun,r1,r2,r3,r4⟩:=run_append_fresh (w5.alloc (.cells #[.slice sa B sc] 118)) 111 (.slice oa j oc) j svs (hown.alloc _) ⟨w5.heap.size,0,none⟩ (.slice sa B sc) hcell rfl (by omega)
   have HR:=hid (And.intro r1 (And.intro r2 r3))
   have HY:=hid (And.intro hby (And.intro hrw hD5))
   clear hob ht5 hO hD hoD ht hby hrw hD5 hO5 hown hcell r1 r2 r3 r4
   go_wp2_with (at_builtin; refine wpList_app 111 _ rfl _ _ rfl rfl rfl hrun ?_)
   obtain ⟨r1,r2,r3⟩:=HR.out
   obtain ⟨hby,hrw,hD5⟩:=HY.out
   obtain ⟨hob,ht5⟩:=HOB.out
   obtain ⟨hO,hD,hoD,ht⟩:=HO.out
   have ta:Tc [] w5 (w5.alloc (.cells #[.slice sa B sc] 118)):=(Tc.refl [] w5).alloc _
   have hO6:=(hO.touch ht5 (by simp)).touch ta (by simp)
   have hlt:∀ k,(Value.slice oa j oc).ownBlock = some k → k < wr.heap.size:=fun k hk=>(hO.own.lt k hk).2
   have hbl:bkO kind K B l (j + 1) = bkO kind K B l j ++ [encU kind j (flatR (chunk K j l)) B]:=blocksOf_succ _ _ _ _ _
   have hO7:=hO6.snoc (hby.touch ta (by simp)) (hrw.touch ta (by simp)) (fun k hk hx=>by have:=hlt k hk; have:=hD5 k hx; omega) (by rw [blocksOf_length]; exact r1) r2 r3
   rw [← hbl] at hO7
   have hp9:=HP.out
   refine ⟨⟨j + 1,p + K,by omega,rfl,hid (by rw [Nat.succ_mul,hp9]),hid ?_,hid ⟨_,_,hO7,fun y hy=>?_,fun k hk=>?_,?_⟩⟩,by simp [intOf]; omega⟩
   ·have h1:=nBlocks_le (len:=l.length) hK2.1
    rcases Nat.lt_or_ge j (nBk K l.length) with h2 | h2
    ·exact h2
    ·have:=Nat.mul_le_mul_right K h2
     omega
   ·rcases List.mem_append.1 hy with h | h
    ·exact hD y h
    ·exact Nat.le_trans ht.size (hD5 y h)
   ·rcases r3 with h | h
    ·rw [h] at hk; exact hoD k hk
    ·rw [h] at hk
     have:=Option.some.inj hk
     have:=ht.size
     have:=ht5.size
     have:=ta.size
     omega
   ·have t6:Tc ((Value.slice oa j oc).ownBlock.toList) (w5.alloc (.cells #[.slice sa B sc] 118)) w6:=(Tc.refl _ _).grown r2 (fun k hk=>.inl (by rw [hk]; simp))
    exact ((ht.trans ht5 (by simp)).trans ta (by simp)).trans t6 (fun y hy=>.inr (hoD y (by simpa using hy)))
  ·subst hov
   go_wp2_with fail
   go_ret
   obtain ⟨hO,hD,hoD,ht⟩:=HO.out
   have hj:j = nBk K l.length:=by
    have h1:=HJ.out
    have h2:=HP.out
    rcases Nat.lt_or_ge j (nBk K l.length) with h3 | h3
    ·have:=nBlocks_lt hK2.1 h3
     omega
    ·omega
   subst hj
   obtain ⟨D',h1,h2,h3⟩:=hO.done
   exact ⟨_,D',rfl,h1,h2,fun y hy=>by
    rcases h3 y hy with h | h
    ·exact hD y h
    ·exact hoD y h,ht⟩
end
def strayA:Array Value:=#[.string ⟨#[97]⟩,.string ⟨#[116,109,112,45,49]⟩,.string ⟨#[116,109,112,45,49,55]⟩,.string ⟨#[99,97,116,45]⟩,.string ⟨#[99,97,116,45,48,48,48,48,48,48,48,48,48,48,48,48,48,48,48,48]⟩,.string ⟨#[100,100,45,49]⟩,.string ⟨#[99,97,116,45,48,48,48,48,48,48,48,48,48,48,48,48,48,48,48,48,49]⟩,.string ⟨#[122,46,57]⟩,.string ⟨#[100,100,45,48,48,48,48,48,48,48,48,48,48,48,48,48,48,48,103]⟩,.string ⟨#[99,97,116,45,48,48,48,48,48,48,48,48,48,48,48,48,48,48,48,120]⟩]
def strayL (r:Nat):List UInt8:=match r with
 | 0=>[97] | 1=>[116,109,112,45,49] | 2=>[116,109,112,45,49,55] | 3=>[99,97,116,45] | 4=>[99,97,116,45,48,48,48,48,48,48,48,48,48,48,48,48,48,48,48,48] | 5=>[100,100,45,49] | 6=>[99,97,116,45,48,48,48,48,48,48,48,48,48,48,48,48,48,48,48,48,49] | 7=>[122,46,57] | 8=>[100,100,45,48,48,48,48,48,48,48,48,48,48,48,48,48,48,48,103] | _=>[99,97,116,45,48,48,48,48,48,48,48,48,48,48,48,48,48,48,48,120]
theorem stray_get {r:Nat} (hr:r < 10):strayA[r]? = some (.string (bs (strayL r))):=by
 match r,hr with
 | 0,_=>rfl
 | 1,_=>rfl
 | 2,_=>rfl
 | 3,_=>rfl
 | 4,_=>rfl
 | 5,_=>rfl
 | 6,_=>rfl
 | 7,_=>rfl
 | 8,_=>rfl
 | 9,_=>rfl
theorem stray_any {n:Nat} (hn:n < 18446744073709551616) (w:World):Calls Tryz.prog 115 #[.int .u64 (n:Int)] w fun e w'=>e = .returned (.string (bs (strayL (n % 10)))) ∧ Tc [] w w':=by
 have hr:n % 10 < 10:=Nat.mod_lt _ (by decide)
 have hm:(n:Int).tmod 10 = ((n % 10:Nat):Int):=by rw [Int.tmod_eq_emod_of_nonneg (by omega)]; omega
 obtain ⟨W,hW⟩:∃ W,W = w.alloc (.cells strayA 9):=⟨_,rfl⟩
 have hb:W.heap[w.heap.size]? = some (.cells strayA 9 (0,0)):=by rw [hW]; exact heap_alloc_new w _
 have ht:Tc [] w W:=by rw [hW]; exact (Tc.refl [] w).alloc _
 have hc:=cRw hb (n % 10)
 rw [stray_get hr] at hc
 have HW:=hid hW
 have hri:((n % 10:Nat):Int) < 10:=by omega
 generalize n % 10 = r at *
 generalize strayL r = x at *
 have HT:=hid ht
 clear hb hW ht
 unfold strayA at HW
 go_enter Tryz.func115,Tryz.ntmps115
 go_upto_region 2 with fail
 rw [← HW.out]
 go_wp2_with fail
 go_ret
 exact ⟨rfl,HT.out⟩
end Go.Proofs.YthehcjjckabljaaGreatDoor
