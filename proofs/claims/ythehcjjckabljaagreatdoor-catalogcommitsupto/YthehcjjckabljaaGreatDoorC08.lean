import Derived.Deep.RegionHeld3
import Derived.Test.YthehcjjckabljaaGreatDoorC07
namespace Go.Proofs.YthehcjjckabljaaGreatDoor.Rx
set_option maxRecDepth 100000
open Go.RowKit Go.Deep PureCrc
def wc (l:List Nat):Array Value:=(l.map fun x:Nat=>Value.int .u64 (x:Int)).toArray
abbrev WRow (w:World) (b:Nat) (l:List Nat):Prop:=w.heap[b]? = some (.cells (wc l) 176 (0,0))
theorem wc_set (l:List Nat) (i v:Nat):(wc l).setIfInBounds i (.int .u64 (v:Int)) = wc (l.set i v):=by
 unfold wc
 rw [List.setIfInBounds_toArray,List.map_set]
theorem wc_get (l:List Nat) (i:Nat):(wc l)[i]? = l[i]?.map fun x:Nat=>Value.int .u64 (x:Int):=by simp [wc]
theorem WRow.wd {w:World} {b:Nat} {l:List Nat} (h:WRow w b l):Wd w b 0 l:=fun i hi=>by
 rw [cRw h,wc_get,Nat.zero_add,List.getElem?_eq_getElem hi]; rfl
theorem WRow.set {w:World} {b:Nat} {l:List Nat} (h:WRow w b l) (i v:Nat):WRow (w.setCell ⟨b,i,none⟩ (.int .u64 (v:Int))) b (l.set i v):=by
 have:=sRw h i (.int .u64 (v:Int))
 rw [wc_set] at this
 exact this
theorem Tryz.info176:(Tryz.prog.info? 176).map (fun i=>(i.zero,i.size,i.bytes)) = some (some (.agg #[.int .u64 0,.int .u64 0,.int .u64 0,.int .u64 0]),4,32):=by kernel_rfl
theorem made_recs (n:Nat):madeCells (Value.agg #[.int .u64 0,.int .u64 0,.int .u64 0,.int .u64 0]).cells (n * 4) = wc (zeros (4 * n)):=by
 apply Array.ext
 ·rw [size_madeCells]; simp [wc,zeros]; omega
 ·intro i h1 h2
  rw [size_madeCells] at h1
  have hz:∀ k,k < 4 → (Value.agg #[.int .u64 0,.int .u64 0,.int .u64 0,.int .u64 0]).cells[k]! = Value.int .u64 0:=by
   intro k hk
   have:k = 0 ∨ k = 1 ∨ k = 2 ∨ k = 3:=by omega
   rcases this with rfl | rfl | rfl | rfl <;> rfl
  have hs:(Value.agg #[.int .u64 0,.int .u64 0,.int .u64 0,.int .u64 0]).cells.size = 4:=rfl
  simp only [madeCells,Array.getElem_map,Array.getElem_range,hs]
  rw [hz _ (Nat.mod_lt _ (by decide))]
  simp [wc,zeros]
theorem run_make_recs (n:Nat) (hn:n ≤ 65536) (w:World):(Instr.makeSlice 130 (.int .i64 (n:Int)) (.int .i64 (n:Int))).run Tryz.prog w = .ok (.slice (some ⟨w.heap.size,0,none⟩) n n) (w.alloc (.cells (wc (zeros (4 * n))) 176)):=by
 have hi:=Tryz.info176
 cases h:Tryz.prog.info? 176 with
 | none=>rw [h] at hi; simp at hi
 | some i =>
  rw [h] at hi
  simp only [Option.map_some,Option.some.injEq,Prod.mk.injEq] at hi
  obtain ⟨hz,hs,hb⟩:=hi
  have:=run_make (P:=Tryz.prog) w 130 176 i _ Tryz.underlying130 h hz .i64 .i64 n n (by omega) (by omega) (by rw [hb]; omega) (by omega)
  rw [hs,Int.toNat_natCast,made_recs] at this
  exact this
def got (ws:List Nat) (n t:Nat):List Nat:=ws.take t ++ zeros (4 * n - t)
theorem got_succ {ws:List Nat} {n t:Nat} (h:t < ws.length) (hn:ws.length = 4 * n):(got ws n t).set t ws[t] = got ws n (t + 1):=by
 unfold got
 have hl:(ws.take t).length = t:=by rw [List.length_take]; omega
 have:=set_pref (ws.take t) (m:=4 * n - t) ws[t] (by omega)
 rw [hl] at this
 rw [this,List.take_succ_eq_append_getElem h]
 rfl
theorem got_length {ws:List Nat} {n t:Nat} (h:t ≤ ws.length) (hn:ws.length = 4 * n):(got ws n t).length = 4 * n:=by
 simp only [got,List.length_append,List.length_take,zeros_length]; omega
set_option maxRecDepth 100000 in
set_option maxHeartbeats 2000000 in
theorem decode_ok (l:List Nat) (b o c:Nat) (w:World) (hr:Rd w b o l) (hbw:b < w.heap.size) (hb:∀ x ∈ l,x < 256) (hc:l.length ≤ c)
  (h64:64 ≤ l.length) (hm:l.length ≤ 65536) (h32:l.length % 32 = 0) (hp:num (PureCrc.cut l 8 8) < 9223372036854775808) (h1:sumFits l) (h2:Formed l) :
  Calls Tryz.prog 254 #[.int .i64 (l.getD 5 0:Int),.int .i64 (num (PureCrc.cut l 8 8):Int),.slice (some ⟨b,o,none⟩) l.length c] w fun e w' =>
   ∃ g,e = .returned (.tuple #[.slice (some ⟨g,0,none⟩) (count l) (count l),.int .i64 0]) ∧ WRow w' g (words (4 * count l) (l.drop 28)) ∧ Tc [] w w' ∧ w.heap.size ≤ g:=by
 have hb5:=hb _ (List.getElem_mem (show 5 < l.length by omega))
 have hk5:=h2.kind
 rw [getD_eq (by omega)] at hk5 ⊢
 have hn1:=h2.some
 have hn2:=h2.many
 have HM:=hid (fun W=>may_any (l[5]:Int) (num (PureCrc.cut l 8 8):Int) (l.length:Int) W)
 have hmay:decide (mayN (l[5]:Int) (num (PureCrc.cut l 8 8):Int) (l.length:Int)) = true:=by
  apply decide_eq_true
  unfold mayN fitN
  rw [if_pos (by omega)]
  omega
 rw [hmay] at HM
 have HSO:=hid (sumOf_any b o l.length c w (by omega) hc (by omega))
 have HSD:=hid (summed_any b o l.length c w (by omega) hc (by omega))
 have HG:=get_any (PureCrc.cut l (l.length - 4) 4) (by rw [cut_length (by omega)]; omega) (cut_lt hb) b (o + (l.length - 4)) (c - (l.length - 4)) w (hr.cut (by omega))
 rw [cut_length (by omega)] at HG
 have HG:=hid HG
 have rt:Rd w b o (l.take (l.length - 4)):=by
  have:=hr.cut (a:=0) (n:=l.length - 4) (by omega)
  simpa [PureCrc.cut] using this
 have HS:=sum_any (l.take (l.length - 4)) b o c w rt hbw (fun x hx=>hb x (List.mem_of_mem_take hx)) (by rw [List.length_take]; omega)
 rw [show (l.take (l.length - 4)).length = l.length - 4 by rw [List.length_take]; omega] at HS
 have HS:=hid HS
 have hs:num (PureCrc.cut l (l.length - 4) 4) = crc (l.take (l.length - 4)):=by
  have:=h1
  unfold sumFits at this
  rwa [drop_cut4 (by omega)] at this
 have s1l:num (PureCrc.cut l (l.length - 4) 4) < 4294967296:=by
  have:=num_lt (l:=PureCrc.cut l (l.length - 4) 4) (cut_lt hb)
  rw [cut_length (by omega)] at this
  exact this
 obtain ⟨s1,hs1⟩:∃ s1,s1 = num (PureCrc.cut l (l.length - 4) 4):=⟨_,rfl⟩
 rw [← hs] at HS
 rw [← hs1] at HG HS s1l
 have HF:=hid (fun (W:World) (h:Rd W b o l)=>formed_any l b o c W h hb h64 hc hm h32)
 have HPL:=hid (fun (W:World) (h:Rd W b o l)=>placeOf_any l b o c W h hb (by omega) hc)
 have HN:=hid (fun (W:World) (h:Rd W b o l)=>countOf_any l b o c W h hb (by omega) hc)
 have HRT:Hid (∀ W,Tc [] w W → Rd W b o l):=fun W h=>hr.touch h hbw (by simp)
 obtain ⟨x5,hx5⟩:∃ x,x = l[5]'(by omega):=⟨_,rfl⟩
 have HC5:Hid (∀ W,Rd W b o l → W.cell? ⟨b,o + 5,none⟩ = some (.int .u8 (x5:Int))):=fun W h=>by rw [hx5]; exact h 5 (by omega)
 rw [← hx5] at hb5 HM ⊢
 obtain ⟨p8,hp8⟩:∃ x,x = num (PureCrc.cut l 8 8):=⟨_,rfl⟩
 rw [← hp8] at HPL HM hp ⊢
 obtain ⟨n,hn⟩:∃ n,n = count l:=⟨_,rfl⟩
 rw [← hn] at HN hn1 hn2 ⊢
 obtain ⟨ws,hws⟩:∃ ws,ws = words (4 * n) (l.drop 28):=⟨_,rfl⟩
 have hwl:ws.length = 4 * n:=by rw [hws]; exact words_length _ _
 have HWD:Hid (∀ (t:Nat),t < 4 * n → ∀ W,Rd W b o l → ws[t]? = some (num (PureCrc.cut l (28 + 8 * t) 8)) ∧ Calls Tryz.prog 265 #[.slice (some ⟨b,o + (28 + 8 * t),none⟩) 8 (c - (28 + 8 * t))] W fun e w'=>e = .returned (.int .u64 (num (PureCrc.cut l (28 + 8 * t) 8):Int)) ∧ ∃ n,w' = W.drewN n):=fun t ht W h=>by
  constructor
  ·rw [hws,words_get _ _ _ ht,List.drop_drop]
   rfl
  ·have:=word_any (PureCrc.cut l (28 + 8 * t) 8) b (o + (28 + 8 * t)) (c - (28 + 8 * t)) W (h.cut (by omega)) (cut_length (by omega)) (cut_lt hb)
   exact this
 rw [← hws]
 have HWL:=hid hwl
 have H2:=hid h2
 have HMK:=hid (fun (W:World)=>run_make_recs n (by omega) W)
 clear hs1 hs rt hb hmay hr h1 h2 hx5 hp8 hn hws hwl hk5
 have hmk:=HMK.out
 go_enter Tryz.func254,Tryz.ntmps254
 go_wp2_with (first
  |(go_at_call 264; refine (HN.out _ (HRT.out _ GT.out)).mono ?_; rintro e w7 ⟨rfl,hh⟩; have hh:=hh.symm; subst hh)
  |(go_at_call 263; refine (HPL.out _ (HRT.out _ GT.out)).mono ?_; rintro e w7 ⟨rfl,hh⟩; have hh:=hh.symm; subst hh)
  |(go_at_call 262; refine (HF.out _ (HRT.out _ GT.out)).mono ?_; rintro e w6 ⟨⟨t,rfl,ht⟩,hh⟩; have hh:=hh.symm; subst hh; have ht2:t = true:=ht.2 H2.out; subst ht2; clear ht)
  |(go_at_call 229; refine HS.out.mono ?_; rintro e w5 ⟨rfl,gt⟩; have GT:=hid gt; have c5:=HC5.out w5 (HRT.out _ gt); clear gt)
  |(go_at_call 230; refine HSD.out.mono ?_; rintro e w3 ⟨rfl,hh⟩; have hh:=hh.symm; subst hh)
  |(go_at_call 261; refine HG.out.mono ?_; rintro e w3 ⟨rfl,hh⟩; have hh:=hh.symm; subst hh)
  |(go_at_call 228; refine HSO.out.mono ?_; rintro e w3 ⟨rfl,hh⟩; have hh:=hh.symm; subst hh)
  |(go_at_call 224; refine (HM.out _).mono ?_; rintro e w3 ⟨rfl,hh⟩; have hh:=hh.symm; subst hh))
 have tB:Tc [] w (w5.alloc (.cells (wc (zeros (4 * n))) 176)):=GT.out.alloc _
 have rB:WRow (w5.alloc (.cells (wc (zeros (4 * n))) 176)) w5.heap.size (got ws n 0):=by
  have:got ws n 0 = zeros (4 * n):=by simp [got]
  rw [this]; exact heap_alloc_new w5 _
 have sB:w.heap.size ≤ w5.heap.size:=GT.out.size
 generalize w5.alloc (.cells (wc (zeros (4 * n))) 176) = wB at tB rB ⊢
 generalize w5.heap.size = g at rB sB ⊢
 have TB:=hid tB
 have RB:=hid rB
 have SB:=hid sB
 clear tB rB sB hmk HMK HM HSO HSD HG HS HF HPL HN HC5 H2 c5 GT
 go_loopw [9,51] (fun a i W=>∃ k:Nat,k ≤ n ∧ i = .int .i64 k ∧ a = .int .i64 ((28 + 32 * k:Nat):Int) ∧ WRow W g (got ws n (4 * k)) ∧ Tc [] w W) (fun _ i _=>n - (intOf i).toNat)
 case atStart=>exact ⟨0,Nat.zero_le _,rfl,rfl,RB.out,TB.out⟩
 case round =>
  obtain ⟨k,hk,rfl,rfl,h1,h2⟩:=hrel
  have H1:=hid h1
  have H2:=hid h2
  clear h1 h2
  by_cases hlt:k < n
  ·go_wp2_with fail
   go_loopw [9,54] (fun a i W=>∃ j:Nat,j ≤ 4 ∧ i = .int .i64 j ∧ a = .int .i64 ((28 + 32 * k + 8 * j:Nat):Int) ∧ WRow W g (got ws n (4 * k + j)) ∧ Tc [] w W) (fun _ i _=>4 - (intOf i).toNat)
   case atStart=>exact ⟨0,Nat.zero_le _,rfl,rfl,H1.out,H2.out⟩
   case round =>
    obtain ⟨j,hj,rfl,rfl,h1,h2⟩:=hrel
    by_cases hlt2:j < 4
    ·obtain ⟨A,hA⟩:∃ A,A = 28 + 32 * k + 8 * j:=⟨_,rfl⟩
     have hA2:28 + 8 * (4 * k + j) = A:=by omega
     have hAN:A + 8 ≤ l.length:=by omega
     have htn:4 * k + j < 4 * n:=by omega
     have hwd:=HWD.out (4 * k + j) htn
     rw [hA2] at hwd
     obtain ⟨z,hz⟩:∃ z,wr.cell? ⟨g,k * 4 + j,none⟩ = some z:=by
      have:=cRw h1 (k * 4 + j)
      rw [wc_get,List.getElem?_eq_getElem (by rw [got_length (by rw [HWL.out]; omega) HWL.out]; omega)] at this
      exact ⟨_,this⟩
     have hf:=uRw h1 (k * 4 + j)
     obtain ⟨y,hy⟩:∃ y,y = num (PureCrc.cut l A 8):=⟨_,rfl⟩
     rw [← hy] at hwd
     have hyt:=(hwd wr (HRT.out _ h2)).1
     obtain ⟨hyl,hye⟩:=List.getElem?_eq_some_iff.1 hyt
     have HGS:=hid (show (got ws n (4 * k + j)).set (k * 4 + j) y = got ws n (4 * k + (j + 1)) by
      have:=got_succ (n:=n) hyl HWL.out
      rw [hye] at this
      rw [show k * 4 + j = 4 * k + j by omega]
      exact this)
     have HCW:Hid (∀ W,Tc [] w W → Calls Tryz.prog 265 #[.slice (some ⟨b,o + A,none⟩) 8 (c - A)] W fun e w'=>e = .returned (.int .u64 (y:Int)) ∧ ∃ n,w' = W.drewN n):=fun W h=>(hwd W (HRT.out _ h)).2
     have G1:=hid h1
     have HT:=hid h2
     rw [← hA]
     have HA:=hid hA
     have e8:A + 8 - A = 8:=by omega
     clear hwd hyt hyl hye hy h1 h2 hA hA2 H1 H2 hk
     go_wp2_with fail
     have hz1:∀ m,(wr.drew.drewN m).cell? ⟨g,k * 4 + j,none⟩ = some z:=fun m=>hz
     have hz2:∀ m,(wr.drewN m).cell? ⟨g,k * 4 + j,none⟩ = some z:=fun m=>hz
     have hf1:∀ m,(wr.drew.drewN m).frozen? ⟨g,k * 4 + j,none⟩ = false:=fun m=>hf
     have hf2:∀ m,(wr.drewN m).frozen? ⟨g,k * 4 + j,none⟩ = false:=fun m=>hf
     have hcap:((A:Int) + 8) ≤ (c:Int):=by omega
     have hne:¬ c = A:=by omega
     have hw8:IntKind.i64.wrap ((A:Int) + 8) = (A:Int) + 8:=by rw [IntKind.wrap_i64]; omega
     have hwa:IntKind.i64.wrap (A:Int) = (A:Int):=by rw [IntKind.wrap_i64]; omega
     go_region_with (first | (go_at_call 265; refine (HCW.out _ ?_).mono ?_; (first | exact HT.out | exact HT.out.drew | exact HT.out.drewN _); rintro e w' ⟨rfl,m,rfl⟩))
     all_goals
      go_wp2_with fail
      refine ⟨⟨j + 1,hlt2,rfl,congrArg (Value.int .i64) (by have:=HA.out; omega),?_,(HT.out.drewN _).setCell (.inr SB.out) _⟩,by simp [intOf]; omega⟩
      have t:=WRow.set (w:=wr.drewN (1 + m)) G1.out (k * 4 + j) y
      rw [HGS.out] at t
      exact t
    ·have e4:j = 4:=by omega
     subst e4
     have K1:=hid h1
     have K2:=hid h2
     clear h1 h2
     go_wp2_with fail
     exact ⟨⟨k + 1,hlt,rfl,congrArg (Value.int .i64) (by omega),by rw [Nat.mul_succ]; exact K1.out,K2.out⟩,by simp [intOf]; omega⟩
  ·have e4:k = n:=by omega
   subst e4
   go_wp2_with fail
   go_ret2
   refine ⟨g,rfl,?_,H2.out,SB.out⟩
   have:got ws k (4 * k) = ws:=by
    unfold got
    rw [← HWL.out,List.take_length,Nat.sub_self]
    simp [zeros]
   have h:=H1.out
   rw [this] at h
   exact h
end Go.Proofs.YthehcjjckabljaaGreatDoor.Rx
namespace Go.Proofs.YthehcjjckabljaaGreatDoor
open Go.RowKit Go.Deep
set_option linter.unusedSimpArgs false
set_option linter.unusedVariables false
structure Bn where
 E:Nat → Addr
 lo:Nat
 p:Nat
 mf:Nat
 mt:Nat
 q:Nat
 l:List TrA
def Bn.tr (b:Bn) (A:PubA):TrA:=trFirst b.l A.c.calls
def DAt (w:World) (b:Bn) (A:PubA) (Fd:List Nat):Prop:=
 ∃ D,Rep w b.lo b.p b.mf b.mt D ∧ D.pub = A ∧ TFrom D.T b.l D.c.calls ∧ Fd = D.foot b.p b.mf b.mt
structure Std (w:World) (b:Bn) (n:Nat) (A:PubA) (s:Pu.St) (F:List Nat):Prop where
 disk:∃ Fd,DAt w b A Fd ∧ F = b.q :: s.lb :: Fd ∧ b.q ∉ Fd ∧ s.lb ∉ Fd
 env:Env w b.lo b.E
 inv:IB n A
 pur:Pu.PurseAt w b.q s
 lock:Pu.LockAt w s.lb 0
 good:s.Good
 ne:b.q ≠ s.lb
 low:b.lo ≤ b.q ∧ b.lo ≤ s.lb
def Went (w w':World) (b:Bn) (n:Nat) (A:PubA) (s:Pu.St) (F G:List Nat):Prop:=
 ∃ F',Std w' b n A s F' ∧ Tc (G ++ F) w w' ∧ ∀ x ∈ F',x ∈ F ∨ w.heap.size ≤ x
section
variable {w w' w1 w2 W:World} {b:Bn} {n m:Nat} {A A':PubA} {s s':Pu.St} {F F1 G G':List Nat}
theorem DAt.touch (h:DAt w b A F) (t:Tc G w w') (hG:∀ x ∈ G,x ∉ F):DAt w' b A F:=by
 obtain ⟨D,R,h1,h2,rfl⟩:=h
 exact ⟨D,R.touch t (fun x hx hg=>hG x hg hx),h1,h2,rfl⟩
theorem DAt.lt (h:DAt w b A F):∀ x ∈ F,x < w.heap.size:=by
 obtain ⟨D,R,_,_,rfl⟩:=h
 exact R.lt
theorem DAt.base (h:DAt w b A F):∀ x ∈ F,b.lo ≤ x:=by
 obtain ⟨D,R,_,_,rfl⟩:=h
 exact R.base
theorem Std.lt (h:Std w b n A s F):∀ x ∈ F,x < w.heap.size:=by
 obtain ⟨Fd,hd,rfl,_,_⟩:=h.disk
 intro x hx
 simp only [List.mem_cons] at hx
 rcases hx with rfl | rfl | hx
 ·exact ltB h.pur
 ·exact ltB h.lock
 ·exact hd.lt x hx
theorem Std.base (h:Std w b n A s F):∀ x ∈ F,b.lo ≤ x:=by
 obtain ⟨Fd,hd,rfl,_,_⟩:=h.disk
 intro x hx
 simp only [List.mem_cons] at hx
 rcases hx with rfl | rfl | hx
 ·exact h.low.1
 ·exact h.low.2
 ·exact hd.base x hx
theorem Std.touch (h:Std w b n A s F) (t:Tc G w w') (hG:∀ x ∈ G,x ∉ F ∧ b.lo ≤ x):Std w' b n A s F:=by
 obtain ⟨Fd,hd,rfl,h1,h2⟩:=h.disk
 have hq:b.q ∉ G:=fun hx=>(hG _ hx).1 (by simp)
 have hl:s.lb ∉ G:=fun hx=>(hG _ hx).1 (by simp)
 exact ⟨⟨Fd,hd.touch t (fun x hx hf=>(hG x hx).1 (by simp [hf])),rfl,h1,h2⟩,h.env.touch t (fun x hx=>(hG x hx).2),h.inv,h.pur.touch t hq,h.lock.touch t hl,h.good,h.ne,h.low⟩
theorem Std.quiet (h:Std w b n A s F) (t:Tc [] w w'):Std w' b n A s F:=h.touch t (by simp)
theorem IB.mono {t t':Nat} (h:IB t A) (ht:t ≤ t'):IB t' A:=by
 induction ht with
 | refl=>exact h
 | step _ ih=>exact ih.more
theorem Std.mono (h:Std w b n A s F) (hn:n ≤ m):Std w b m A s F:=⟨h.disk,h.env,h.inv.mono hn,h.pur,h.lock,h.good,h.ne,h.low⟩
theorem Std.room (h:Std w b n A s F):b.lo ≤ w.heap.size:=h.env.room
theorem Went.same (h:Std w b n A s F):Went w w b n A s F []:=⟨F,h,Tc.refl _ _,fun x hx=>.inl hx⟩
theorem Went.quiet (h:Std w b n A s F) (t:Tc [] w w'):Went w w' b n A s F []:=⟨F,h.quiet t,t.mono (by simp),fun x hx=>.inl hx⟩
theorem Went.mono (h:Went w w' b n A s F G) (hG:∀ x ∈ G,x ∈ G'):Went w w' b n A s F G':=by
 obtain ⟨F',S,t,f⟩:=h
 refine ⟨F',S,t.mono fun x hx=>?_,f⟩
 rcases List.mem_append.1 hx with h | h
 ·exact List.mem_append.2 (.inl (hG x h))
 ·exact List.mem_append.2 (.inr h)
theorem Went.then (t1:Tc (G ++ F) w w1) (f1:∀ x ∈ F1,x ∈ F ∨ w.heap.size ≤ x) (h:Went w1 w2 b n A s F1 G') (hG:∀ x ∈ G',x ∈ G ∨ w.heap.size ≤ x):Went w w2 b n A s F G:=by
 obtain ⟨F',S,t,f⟩:=h
 refine ⟨F',S,t1.trans t fun x hx=>?_,fun x hx=>?_⟩
 ·rcases List.mem_append.1 hx with h | h
  ·rcases hG x h with h | h
   ·exact .inl (List.mem_append.2 (.inl h))
   ·exact .inr h
  ·rcases f1 x h with h | h
   ·exact .inl (List.mem_append.2 (.inr h))
   ·exact .inr h
 ·rcases f x hx with h | h
  ·exact f1 x h
  ·exact .inr (Nat.le_trans t1.size h)
theorem Went.pre (t1:Tc [] w W) (h:Went W w' b n A s F G) (hG:∀ x ∈ G,x ∈ G' ∨ w.heap.size ≤ x):Went w w' b n A s F G':=
 Went.then (F1:=F) (t1.mono (by simp)) (fun x hx=>.inl hx) h hG
theorem Std.rdy (h:Std w b n A s F) (hn:n < 1099511627776):∃ D Fd,Rdy w b.E b.lo b.p b.mf b.mt D (b.tr A) ∧ D.pub = A ∧ TFrom D.T b.l D.c.calls ∧ F = b.q :: s.lb :: Fd ∧ Fd = D.foot b.p b.mf b.mt ∧ b.q ∉ Fd ∧ s.lb ∉ Fd:=by
 obtain ⟨Fd,⟨D,R,rfl,hT,rfl⟩,rfl,h1,h2⟩:=h.disk
 have hc:=h.inv.calls
 have hf:=h.inv.faults
 have e1:D.pub.c = D.c:=rfl
 rw [e1] at hc hf
 exact ⟨D,_,⟨h.env,R,h.inv.small (by omega),by omega,by omega,hT _ (Int.le_refl _)⟩,rfl,hT,rfl,rfl,h1,h2⟩
theorem Std.did (h:Std w b n A s F) {D:DkC} {Fd:List Nat} (hF:F = b.q :: s.lb :: Fd) (hFd:Fd = D.foot b.p b.mf b.mt) (h1:b.q ∉ Fd) (h2:s.lb ∉ Fd) (hT:TFrom D.T b.l D.c.calls) (hd:Did3 w w' b.lo b.p b.mf b.mt D A') (hi:IB m A'):Went w w' b m A' s F []:=by
 obtain ⟨D',R',e1,e2,t,f⟩:=hd
 rw [← hFd] at t f
 have lq:=ltB h.pur
 have ll:=ltB h.lock
 have q1:b.q ∉ D'.foot b.p b.mf b.mt:=fun hx=>by rcases f _ hx with h | h; exact h1 h; omega
 have q2:s.lb ∉ D'.foot b.p b.mf b.mt:=fun hx=>by rcases f _ hx with h | h; exact h2 h; omega
 have hT':TFrom D'.T b.l D'.c.calls:=by
  rcases e2 with ⟨e3,e4⟩ | ⟨e3,e4⟩
  ·rw [e3,e4]; exact hT
  ·rw [e3,e4]; exact hT.del
 have hb:∀ x ∈ Fd,b.lo ≤ x:=by
  intro x hx
  have:=h.base x (by rw [hF]; simp [hx])
  exact this
 refine ⟨b.q :: s.lb :: D'.foot b.p b.mf b.mt,⟨⟨_,⟨D',R',e1,hT',rfl⟩,rfl,q1,q2⟩,h.env.touch t hb,hi,h.pur.touch t h1,h.lock.touch t h2,h.good,h.ne,h.low⟩,t.mono (by rw [hF]; simp; intro x hx; simp [hx]),fun x hx=>?_⟩
 rw [hF]
 simp only [List.mem_cons] at hx ⊢
 rcases hx with hx | hx | hx
 ·exact .inl (.inl hx)
 ·exact .inl (.inr (.inl hx))
 ·rcases f x hx with h | h
  ·exact .inl (.inr (.inr h))
  ·exact .inr h
theorem IB.createB (h:IB n A) (x:ByteArray) (t:TrA):IB (n + 1) (createB x t A).2:=by
 unfold YthehcjjckabljaaGreatDoor.createB
 split
 ·exact h.bef (h.create x) ((h.create x).flag false)
 ·exact h.more
theorem IB.sealB (h:IB n A) (x:ByteArray) (t:TrA):IB (n + 1) (sealB x t A).2:=by
 unfold YthehcjjckabljaaGreatDoor.sealB
 split
 ·exact h.bef (h.seal x) ((h.seal x).flag false)
 ·exact h.more
theorem IB.deleteB (h:IB n A) (x:ByteArray) (t:TrA):IB (n + 1) (deleteB x t A).2:=by
 unfold YthehcjjckabljaaGreatDoor.deleteB
 split
 ·exact h.bef (h.delete x) ((h.delete x).flag false)
 ·exact h.more
theorem IB.appendB (h:IB n A) (x:ByteArray) (bl:List UInt8) (t:TrA):IB (n + 1) (appendB x bl t A).2:=by
 unfold YthehcjjckabljaaGreatDoor.appendB
 split
 ·exact h.bef (h.append x bl) (h.cutX x bl _)
 ·exact h.more
theorem IB.readB (h:IB n A) (x:ByteArray) (i:Int) (t:TrA):IB (n + 1) (readB x i t A).2.2:=by
 unfold YthehcjjckabljaaGreatDoor.readB
 split
 ·exact h.read x i _
 ·exact h.more
theorem create_s (h:Std w b n A s F) (hn:n < 1099511627776) (x:ByteArray):Calls Tryz.prog 17 #[ptr b.p,.string x] w fun e w'=>e = .returned (.int .i64 (createB x (b.tr A) A).1) ∧ Went w w' b (n + 1) (createB x (b.tr A) A).2 s F []:=by
 obtain ⟨D,Fd,hr,rfl,hT,hF,hFd,h1,h2⟩:=h.rdy hn
 exact (Create_b hr x).mono fun e w' ⟨e1,hd⟩=>⟨e1,h.did hF hFd h1 h2 hT hd (h.inv.createB x _)⟩
theorem seal_s (h:Std w b n A s F) (hn:n < 1099511627776) (x:ByteArray):Calls Tryz.prog 18 #[ptr b.p,.string x] w fun e w'=>e = .returned (.int .i64 (sealB x (b.tr A) A).1) ∧ Went w w' b (n + 1) (sealB x (b.tr A) A).2 s F []:=by
 obtain ⟨D,Fd,hr,rfl,hT,hF,hFd,h1,h2⟩:=h.rdy hn
 exact (Seal_b hr x).mono fun e w' ⟨e1,hd⟩=>⟨e1,h.did hF hFd h1 h2 hT hd (h.inv.sealB x _)⟩
theorem delete_s (h:Std w b n A s F) (hn:n < 1099511627776) (x:ByteArray):Calls Tryz.prog 105 #[ptr b.p,.string x] w fun e w'=>e = .returned (.int .i64 (deleteB x (b.tr A) A).1) ∧ Went w w' b (n + 1) (deleteB x (b.tr A) A).2 s F []:=by
 obtain ⟨D,Fd,hr,rfl,hT,hF,hFd,h1,h2⟩:=h.rdy hn
 exact (Delete_b hr x).mono fun e w' ⟨e1,hd⟩=>⟨e1,h.did hF hFd h1 h2 hT hd (h.inv.deleteB x _)⟩
theorem append_s (h:Std w b n A s F) (hn:n < 1099511627776) (x:ByteArray) {g:Nat} {bl:List UInt8} (hg:BytesAt w g bl) (hgF:g ∉ F):Calls Tryz.prog 192 #[ptr b.p,.string x,sliceV g bl.length] w fun e w'=>e = .returned (.int .i64 (appendB x bl (b.tr A) A).1) ∧ Went w w' b (n + 1) (appendB x bl (b.tr A) A).2 s F []:=by
 obtain ⟨D,Fd,hr,rfl,hT,hF,hFd,h1,h2⟩:=h.rdy hn
 have hh:Hand w b.p b.mf b.mt D (some ⟨g,0,none⟩) bl.length bl.length bl:=⟨rfl,Nat.le_refl _,fun _=>⟨_,rfl,ltB hg,fun hx=>hgF (by rw [hF,hFd]; simp [hx]),bytes_src hg⟩⟩
 exact (Append_b hr x hh).mono fun e w' ⟨e1,hd⟩=>⟨e1,h.did hF hFd h1 h2 hT hd (h.inv.appendB x bl _)⟩
theorem read_s (h:Std w b n A s F) (hn:n < 1099511627776) (x:ByteArray) (i:Int):Calls Tryz.prog 253 #[ptr b.p,.string x,.int .i64 i] w fun e w'=>∃ v,e = .returned (.tuple #[v,.int .i64 (readB x i (b.tr A) A).2.1]) ∧ Told1 w' w.heap.size A.B (readB x i (b.tr A) A).1 v ∧ Went w w' b (n + 1) (readB x i (b.tr A) A).2.2 s F []:=by
 obtain ⟨D,Fd,hr,rfl,hT,hF,hFd,h1,h2⟩:=h.rdy hn
 refine (Read_b hr x i).mono fun e w' ⟨v,e1,hv,D',R',e2,e3,t,f⟩=>⟨v,e1,hv,h.did hF hFd h1 h2 hT ⟨D',R',e2,e3,t,fun y hy=>.inl (by rw [f] at hy; exact hy)⟩ (h.inv.readB x i _)⟩
theorem length_s (h:Std w b n A s F) (hn:n < 1099511627776) (x:ByteArray):Calls Tryz.prog 107 #[ptr b.p,.string x] w fun e w'=>e = .returned (.tuple #[.int .i64 (lnB x A).1,.bool (lnB x A).2.1,.int .i64 (lnB x A).2.2]) ∧ Tc [] w w':=by
 obtain ⟨D,Fd,hr,rfl,_⟩:=h.rdy hn
 exact Length_b hr x
theorem on_s (h:Std w b n A s F):Calls Tryz.prog 93 #[ptr b.p] w fun e w'=>e = .returned (.bool A.on) ∧ w' = w:=by
 obtain ⟨Fd,⟨D,R,rfl,_⟩,_⟩:=h.disk
 exact On_any R
theorem block_s (h:Std w b n A s F):Calls Tryz.prog 82 #[ptr b.p] w fun e w'=>e = .returned (.int .i64 (A.B:Int)) ∧ w' = w:=by
 obtain ⟨Fd,⟨D,R,rfl,_⟩,_⟩:=h.disk
 exact Block_any R
theorem Pu.St.Good.take {s:Pu.St} (h:s.Good) (k:Int):(s.take k).Good:=by
 unfold Pu.St.take
 split
 ·next he =>
  unfold Pu.leaveE at he
  have h1:=h.hand
  have h2:=h.lent
  have h3:=h.out
  have h4:=h.limit
  split at he
  ·omega
  ·split at he
   ·omega
   ·split at he
    ·omega
    ·have h5:=h.peakLe
     exact ⟨by show 0 ≤ s.hand + k; omega,h2,by show s.hand + k + s.lent ≤ s.limit; omega,h4,h.parts,h.partsLe,by show s.hand + k + s.lent ≤ max s.peak (s.hand + k + s.lent); omega,by show max s.peak (s.hand + k + s.lent) ≤ s.limit; omega⟩
 ·exact h
theorem Pu.St.Good.give {s:Pu.St} (h:s.Good) (k:Int):(s.give k).Good:=by
 unfold Pu.St.give
 split
 ·next he =>
  unfold Pu.giveE at he
  have h1:=h.hand
  have h2:=h.lent
  have h3:=h.out
  have h4:=h.limit
  split at he
  ·omega
  ·split at he
   ·omega
   ·split at he
    ·omega
    ·have h5:=h.peakLe
     have h6:=h.peak
     exact ⟨by show 0 ≤ s.hand - k; omega,h2,by show s.hand - k + s.lent ≤ s.limit; omega,h4,h.parts,h.partsLe,by show s.hand - k + s.lent ≤ s.peak; omega,h5⟩
 ·exact h
theorem Pu.take_lb (s:Pu.St) (k:Int):(s.take k).lb = s.lb:=by unfold Pu.St.take; split <;> rfl
theorem Pu.give_lb (s:Pu.St) (k:Int):(s.give k).lb = s.lb:=by unfold Pu.St.give; split <;> rfl
theorem Std.pursed (h:Std w b n A s F) (hp:Pu.PurseAt w' b.q s') (hl:Pu.LockAt w' s'.lb 0) (hg:s'.Good) (e:s'.lb = s.lb) (t:Tc [b.q,s.lb] w w'):Went w w' b n A s' F []:=by
 obtain ⟨Fd,hd,rfl,h1,h2⟩:=h.disk
 refine ⟨b.q :: s'.lb :: Fd,⟨⟨Fd,hd.touch t (by intro x hx; simp at hx; rcases hx with rfl | rfl <;> assumption),rfl,h1,by rw [e]; exact h2⟩,h.env.touch t (by intro x hx; simp at hx; rcases hx with rfl | rfl; exact h.low.1; exact h.low.2),h.inv,hp,hl,hg,by rw [e]; exact h.ne,by rw [e]; exact h.low⟩,t.mono (by simp),fun x hx=>.inl (by rw [e] at hx; exact hx)⟩
theorem take_s (h:Std w b n A s F) (k:Int):Calls Tryz.prog 30 #[ptr b.q,.int .i64 k] w fun e w'=>e = .returned (.int .i64 (Pu.leaveE s k)) ∧ Went w w' b n A (s.take k) F []:=
 (Pu.take_any h.pur h.lock h.ne h.good k).mono fun e w' ⟨e1,hp,hl,t⟩=>⟨e1,h.pursed hp (by rw [Pu.take_lb]; exact hl) (h.good.take k) (Pu.take_lb s k) t⟩
theorem give_s (h:Std w b n A s F) (k:Int):Calls Tryz.prog 190 #[ptr b.q,.int .i64 k] w fun e w'=>e = .returned (.int .i64 (Pu.giveE s k)) ∧ Went w w' b n A (s.give k) F []:=
 (Pu.give_any h.pur h.lock h.ne h.good k).mono fun e w' ⟨e1,hp,hl,t⟩=>⟨e1,h.pursed hp (by rw [Pu.give_lb]; exact hl) (h.good.give k) (Pu.give_lb s k) t⟩
theorem used_s (h:Std w b n A s F):Calls Tryz.prog 23 #[ptr b.q] w fun e w'=>e = .returned (.int .i64 (s.hand + s.lent)) ∧ Went w w' b n A s F []:=
 (Pu.used_any h.pur h.lock h.ne h.good).mono fun e w' ⟨e1,hp,hl,t⟩=>⟨e1,h.pursed hp hl h.good rfl t⟩
end
structure StrsAt (w:World) (sa:Option Addr) (l:List ByteArray):Prop where
 at_:∀ k (hk:k < l.length),∃ a,sa = some a ∧ a.block < w.heap.size ∧ w.cell? (a.add k) = some (.string l[k])
theorem add_block (a:Addr) (k:Nat):(a.add k).block = a.block:=by unfold Addr.add; split <;> rfl
theorem StrsAt.touch {w w':World} {sa:Option Addr} {l:List ByteArray} {G:List Nat} (h:StrsAt w sa l) (t:Tc G w w') (hG:∀ a,sa = some a → a.block ∉ G):StrsAt w' sa l:=
 ⟨fun k hk=>by
  obtain ⟨a,e,hb,hc⟩:=h.at_ k hk
  exact ⟨a,e,Nat.lt_of_lt_of_le hb t.size,(t.cell (p:=a.add k) (by rw [add_block]; exact hb) (by rw [add_block]; exact hG a e)).trans hc⟩⟩
theorem StrsAt.nil (w:World) (sa:Option Addr):StrsAt w sa []:=⟨fun k hk=>absurd hk (by simp)⟩
def DkA (w:World) (kb:Nat) (b:Bn) (K T:Int):Prop:=w.heap[kb]? = some (.cells #[ptr b.p,ptr b.q,.int .i64 K,.int .i64 T] 126 (0,0))
theorem DkA.touch {w w':World} {kb:Nat} {b:Bn} {K T:Int} {G:List Nat} (h:DkA w kb b K T) (t:Tc G w w') (hG:kb ∉ G):DkA w' kb b K T:=(t.block kb (ltB h) hG).trans h
def makeOf (e:Int):Int:=if e = 0 then 13 else if e = 12 then 0 else e
def makeE (A:PubA) (x:ByteArray):Int:=makeOf (lnB x A).2.2
def readOf (s:Bool) (e:Int):Int:=if e = 0 ∧ s = false then 15 else e
def readE (A:PubA) (x:ByteArray):Int:=readOf (lnB x A).2.1 (lnB x A).2.2
def readyOut (A:PubA):List (List UInt8) → List ByteArray → Int
 | _,[]=>0
 | seen,x :: r=>if makeE A x ≠ 0 then makeE A x else if nm x ∈ seen then 13 else readyOut A (seen ++ [nm x]) r
def readyIn (A:PubA):List ByteArray → Int
 | []=>0
 | x :: r=>if readE A x ≠ 0 then readE A x else readyIn A r
def readyE (A:PubA) (i o:List ByteArray):Int:=if A.on = false then 10 else if readyOut A [] o ≠ 0 then readyOut A [] o else readyIn A i
section
variable {w w':World} {b:Bn} {n:Nat} {A:PubA} {s:Pu.St} {F:List Nat} {kb:Nat} {K T:Int}
set_option maxHeartbeats 400000 in
theorem mayMake_any (S:Std w b n A s F) (hn:n < 1099511627776) (hk:DkA w kb b K T) (x:ByteArray) :
  Calls Tryz.prog 140 #[ptr kb,.string x] w fun e w'=>e = .returned (.int .i64 (makeE A x)) ∧ Tc [] w w':=by
 unfold makeE
 have H:=hid (length_s S hn x)
 have c0:=cRw hk 0
 simp at c0
 generalize (lnB x A).1 = e1 at H
 generalize (lnB x A).2.1 = e2 at H
 generalize (lnB x A).2.2 = e3 at H ⊢
 clear S hk
 by_cases h0:e3 = 0
 ·subst h0
  have HR:=hid (show makeOf 0 = 13 by rfl)
  go_enter Tryz.func140,Tryz.ntmps140
  go_wp2_with (go_at_call 107; refine H.out.mono ?_; rintro e w1 ⟨rfl,ht⟩)
  go_ret
  exact ⟨by rw [HR.out]; rfl,ht⟩
 ·by_cases h12:e3 = 12
  ·subst h12
   have HR:=hid (show makeOf 12 = 0 by rfl)
   go_enter Tryz.func140,Tryz.ntmps140
   go_wp2_with (go_at_call 107; refine H.out.mono ?_; rintro e w1 ⟨rfl,ht⟩)
   go_ret
   exact ⟨by rw [HR.out]; rfl,ht⟩
  ·have HR:=hid (show makeOf e3 = e3 by unfold makeOf; rw [if_neg h0,if_neg h12])
   go_enter Tryz.func140,Tryz.ntmps140
   go_wp2_with (go_at_call 107; refine H.out.mono ?_; rintro e w1 ⟨rfl,ht⟩)
   go_ret
   exact ⟨by rw [HR.out]; rfl,ht⟩
set_option maxHeartbeats 400000 in
theorem mayRead_any (S:Std w b n A s F) (hn:n < 1099511627776) (hk:DkA w kb b K T) (x:ByteArray) :
  Calls Tryz.prog 141 #[ptr kb,.string x] w fun e w'=>e = .returned (.int .i64 (readE A x)) ∧ Tc [] w w':=by
 unfold readE
 have H:=hid (length_s S hn x)
 have c0:=cRw hk 0
 simp at c0
 generalize (lnB x A).1 = e1 at H
 generalize (lnB x A).2.1 = e2 at H ⊢
 generalize (lnB x A).2.2 = e3 at H ⊢
 clear S hk
 by_cases h0:e3 = 0
 ·subst h0
  cases e2 with
  | true =>
   have HR:=hid (show readOf true 0 = 0 by rfl)
   go_enter Tryz.func141,Tryz.ntmps141
   go_wp2_with (go_at_call 107; refine H.out.mono ?_; rintro e w1 ⟨rfl,ht⟩)
   go_ret
   exact ⟨by rw [HR.out]; rfl,ht⟩
  | false =>
   have HR:=hid (show readOf false 0 = 15 by rfl)
   go_enter Tryz.func141,Tryz.ntmps141
   go_wp2_with (go_at_call 107; refine H.out.mono ?_; rintro e w1 ⟨rfl,ht⟩)
   go_ret
   exact ⟨by rw [HR.out]; rfl,ht⟩
 ·have HR:=hid (show readOf e2 e3 = e3 by unfold readOf; rw [if_neg (fun h=>h0 h.1)])
  go_enter Tryz.func141,Tryz.ntmps141
  go_wp2_with (go_at_call 107; refine H.out.mono ?_; rintro e w1 ⟨rfl,ht⟩)
  go_ret
  exact ⟨by rw [HR.out]; rfl,ht⟩
theorem readyOut_cons {seen:List (List UInt8)} {x:ByteArray} {r:List ByteArray} (h1:makeE A x = 0) (h2:nm x ∉ seen):readyOut A seen (x :: r) = readyOut A (seen ++ [nm x]) r:=by
 show (if makeE A x ≠ 0 then makeE A x else if nm x ∈ seen then 13 else readyOut A (seen ++ [nm x]) r) = _
 rw [if_neg (by simp [h1]),if_neg h2]
theorem readyOut_twice {seen:List (List UInt8)} {x:ByteArray} {r:List ByteArray} (h1:makeE A x = 0) (h2:nm x ∈ seen):readyOut A seen (x :: r) = 13:=by
 show (if makeE A x ≠ 0 then makeE A x else if nm x ∈ seen then 13 else readyOut A (seen ++ [nm x]) r) = _
 rw [if_neg (by simp [h1]),if_pos h2]
theorem readyOut_bad {seen:List (List UInt8)} {x:ByteArray} {r:List ByteArray} (h1:makeE A x ≠ 0):readyOut A seen (x :: r) = makeE A x:=by
 show (if makeE A x ≠ 0 then makeE A x else if nm x ∈ seen then 13 else readyOut A (seen ++ [nm x]) r) = _
 rw [if_pos h1]
theorem readyIn_cons {x:ByteArray} {r:List ByteArray} (h1:readE A x = 0):readyIn A (x :: r) = readyIn A r:=by
 show (if readE A x ≠ 0 then readE A x else readyIn A r) = _
 rw [if_neg (by simp [h1])]
theorem readyIn_bad {x:ByteArray} {r:List ByteArray} (h1:readE A x ≠ 0):readyIn A (x :: r) = readE A x:=by
 show (if readE A x ≠ 0 then readE A x else readyIn A r) = _
 rw [if_pos h1]
theorem makeE_name {x:ByteArray} (h:makeE A x = 0) (ho:A.on = true):x.size ≤ 32:=by
 unfold makeE makeOf lnB lengthA at h
 rw [if_pos ho] at h
 by_cases hn:nameB x = true
 ·exact name_size hn
 ·rw [if_neg hn] at h
  simp at h
def SeenAt (w:World) (mb:Nat) (l:List (List UInt8)):Prop:=∃ D:DataW Unit,w.ownsMap Tryz.prog 9 unitElem mb l.length D ∧ ∀ k:List UInt8,Maps.has D (.string k) = decide (k ∈ l)
theorem SeenAt.touch {mb:Nat} {l:List (List UInt8)} {G:List Nat} (h:SeenAt w mb l) (t:Tc G w w') (hG:mb ∉ G):SeenAt w' mb l:=by
 obtain ⟨D,h1,h2⟩:=h
 exact ⟨D,ownsMap_kept h1 (t.block mb h1.lt hG),h2⟩
theorem SeenAt.look {mb:Nat} {l:List (List UInt8)} (h:SeenAt w mb l) {x:ByteArray} (hx:x.size ≤ 32) :
  (Instr.lookup 88 (.map (some mb)) (.string x) true).run Tryz.prog w = .ok (.tuple #[.agg #[],.bool (decide (nm x ∈ l))]) w:=by
 obtain ⟨D,h1,h2⟩:=h
 obtain ⟨v,ps,hrun,hv⟩:=h1.look_ok (t:=88) (e:=104) (z:=.agg #[]) (zd:=.agg []) (zp:=[]) (Maps.string_keyed Tryz.underlying9) Tryz.underlying88 (by kernel_rfl) (unitElem_mk) (WideMaps.keyOf_string_mk Tryz.underlying9 (s:=x) (by unfold maxLen; omega))
 obtain ⟨rfl,_⟩:=unitElem_inv hv
 rw [hrun,h2]
theorem SeenAt.put {mb:Nat} {l:List (List UInt8)} (h:SeenAt w mb l) (hl:l.length ≤ 1099511627776) {x:ByteArray} (hx:x.size ≤ 32) :
  ∃ w2,(Instr.mapUpdate 88 (.map (some mb)) (.string x) (.agg #[])).run Tryz.prog w = .ok () w2 ∧ SeenAt w2 mb (l ++ [nm x]) ∧ Tc [mb] w w2:=by
 obtain ⟨D,h1,h2⟩:=h
 obtain ⟨w2,r1,r2,r3⟩:=h1.store (t:=88) (e:=104) (Maps.string_keyed Tryz.underlying9) Tryz.underlying88 (by unfold maxLen; omega) (WideMaps.keyOf_string_mk Tryz.underlying9 (s:=x) (by unfold maxLen; omega)) (val:=.agg #[]) (d:=.agg []) (ps:=[]) unitElem_mk
 refine ⟨w2,r1,⟨_,by rw [List.length_append]; exact r2,fun k=>?_⟩,(Tc.refl [mb] w).grown r3.grown (by simp)⟩
 by_cases hk:k = nm x
 ·subst hk
  rw [Maps.has_put_same h1.isMap (by simp [WideAt.IsKeyLit])]
  simp
 ·rw [Maps.has_put_other (by intro e; cases e; exact hk rfl),h2]
  simp [hk]
end
section
variable {w w':World} {b:Bn} {n:Nat} {A:PubA} {s:Pu.St} {F:List Nat} {kb:Nat} {K T:Int}
theorem readyOut_at {seen:List (List UInt8)} {l:List ByteArray} {k:Nat} (hk:k < l.length):l.drop k = l[k] :: l.drop (k + 1):=List.drop_eq_getElem_cons hk
theorem take_nm {l:List ByteArray} {k:Nat} (hk:k < l.length):(l.take k).map nm ++ [nm l[k]] = (l.take (k + 1)).map nm:=by
 rw [List.take_succ_eq_append_getElem hk,List.map_append]
 rfl
theorem run_makeMap_room (n:Nat) (w:World):(Instr.makeMap 88 (some (.int .i64 (n:Int)))).run Tryz.prog w = .ok (.map (some w.heap.size)) (w.alloc (.map #[] 0)):=by
 simp [Instr.makeMap,run_underlying Tryz.underlying88,asInt,asIntOf]
set_option maxRecDepth 100000 in
set_option maxHeartbeats 1000000 in
theorem Ready_any (S:Std w b n A s F) (hn:n < 1099511627776) (hk:DkA w kb b K T) {si so:Option Addr} {ci co:Nat} {li lo:List ByteArray} (hi:StrsAt w si li) (ho:StrsAt w so lo) (h1:li.length ≤ 1099511627776) (h2:lo.length ≤ 1099511627776) :
  Calls Tryz.prog 94 #[ptr kb,.slice si li.length ci,.slice so lo.length co] w fun e w'=>e = .returned (.int .i64 (readyE A li lo)) ∧ Tc [] w w':=by
 have HO:=hid (on_s S)
 have c0:=cRw hk 0
 simp at c0
 have HM:Hid (∀ W,Tc [] w W → ∀ x:ByteArray,Calls Tryz.prog 140 #[ptr kb,.string x] W fun e w'=>e = .returned (.int .i64 (makeE A x)) ∧ Tc [] W w'):=fun W t x=>mayMake_any (S.quiet t) hn (hk.touch t (by simp)) x
 have HR:Hid (∀ W,Tc [] w W → ∀ x:ByteArray,Calls Tryz.prog 141 #[ptr kb,.string x] W fun e w'=>e = .returned (.int .i64 (readE A x)) ∧ Tc [] W w'):=fun W t x=>mayRead_any (S.quiet t) hn (hk.touch t (by simp)) x
 have HI:=hid (fun W (t:Tc [] w W)=>hi.touch t (by simp))
 have HU:=hid (fun W (t:Tc [] w W)=>ho.touch t (by simp))
 clear hi ho hk S
 cases hon:A.on with
 | false =>
  have HE:=hid (show readyE A li lo = 10 by unfold readyE; rw [if_pos hon])
  rw [hon] at HO
  clear hon
  go_enter Tryz.func94,Tryz.ntmps94
  go_wp2_with (go_at_call 93; refine HO.out.mono ?_; rintro e w1 ⟨rfl,rfl⟩)
  go_ret
  exact ⟨by rw [HE.out]; rfl,Tc.refl _ _⟩
 | true =>
  have HE:=hid (show readyE A li lo = if readyOut A [] lo ≠ 0 then readyOut A [] lo else readyIn A li by unfold readyE; rw [if_neg (by simp [hon])])
  have HON:=hid hon
  rw [hon] at HO
  clear hon
  go_enter Tryz.func94,Tryz.ntmps94
  go_wp2_with (go_at_call 93; refine HO.out.mono ?_; rintro e w1 ⟨rfl,hw⟩; have hw:=hw.symm; subst hw)
  rw [run_makeMap_room lo.length w]
  obtain ⟨mb,hmb⟩:∃ mb,mb = w.heap.size:=⟨_,rfl⟩
  have hm0:SeenAt (w.alloc (.map #[] 0)) mb []:=⟨.map [],by rw [hmb]; exact empty_map _ _ _ _ (heap_alloc_new w _),fun k=>by simp [Maps.has]⟩
  have t0:Tc [] w (w.alloc (.map #[] 0)):=(Tc.refl [] w).alloc _
  generalize w.alloc (.map #[] 0) = W0 at hm0 t0 ⊢
  rw [← hmb]
  have HB:=hid hmb
  clear hmb
  have HM0:=hid hm0
  have HT0:=hid t0
  clear hm0 t0
  go_wp2_with fail
  go_loopw [27] (fun i W=>∃ k:Nat,k ≤ lo.length ∧ i = .int .i64 k ∧ readyOut A [] lo = readyOut A ((lo.take k).map nm) (lo.drop k) ∧ SeenAt W mb ((lo.take k).map nm) ∧ Tc [] w W) (fun i _=>lo.length - (intOf i).toNat)
  case atStart=>exact ⟨0,Nat.zero_le _,rfl,rfl,HM0.out,HT0.out⟩
  case round =>
   obtain ⟨k,hk,rfl,heq,hs,ht⟩:=hrel
   by_cases hlt:k < lo.length
   ·obtain ⟨a,rfl,hab,hc⟩:=(HU.out wr ht).at_ k hlt
    have hd:=readyOut_at (l:=lo) hlt (seen:=[])
    by_cases hm:makeE A lo[k] = 0
    ·have hsz:=makeE_name hm HON.out
     have HL:=hid (fun W (h:SeenAt W mb ((lo.take k).map nm))=>h.look hsz)
     have HP:=hid (fun W (h:SeenAt W mb ((lo.take k).map nm))=>h.put (by simp; omega) hsz)
     have HMM:=hid (HM.out wr ht lo[k])
     rw [hm] at HMM
     by_cases hin:nm lo[k] ∈ (lo.take k).map nm
     ·have HQ:=hid (show readyE A li lo = 13 by rw [HE.out,heq,hd,readyOut_twice hm hin,if_pos (by decide)])
      have HS:=hid hs
      have HT:=hid ht
      have HI:=hid hin
      clear heq hs ht hd hab hm hin hsz
      go_wp2_with (go_at_call 140; refine HMM.out.mono ?_; rintro e w1 ⟨rfl,ht1⟩; have hl:=HL.out w1 (HS.out.touch ht1 (by simp)); rw [decide_eq_true HI.out] at hl; have HT1:=hid ht1; clear ht1)
      go_ret
      exact ⟨by rw [HQ.out]; rfl,(HT.out.trans HT1.out (by simp)).alloc _⟩
     ·have HQ:=hid (show readyOut A [] lo = readyOut A ((lo.take (k + 1)).map nm) (lo.drop (k + 1)) by rw [heq,hd,readyOut_cons hm hin,take_nm hlt])
      have HS:=hid hs
      have HT:=hid ht
      have HI:=hid hin
      have HK:=hid (take_nm hlt)
      have HBB:=hid (show mb < W0.heap.size by obtain ⟨D,hD,_⟩:=HM0.out; exact hD.lt)
      clear heq hs ht hd hab hm hin hsz
      go_wp2_with (go_at_call 140; refine HMM.out.mono ?_; rintro e w1 ⟨rfl,ht1⟩; have hs1:=HS.out.touch ht1 (by simp); have hl:=HL.out w1 hs1; rw [decide_eq_false HI.out] at hl; obtain ⟨w2,hp,hs2,ht2⟩:=HP.out (w1.alloc (.cells #[] 104)) (hs1.touch ((Tc.refl [] w1).alloc _) (by simp)); have HT1:=hid ht1; have HS2:=hid hs2; have HT2:=hid ht2; clear ht1 hs1 hs2 ht2)
      refine ⟨⟨k + 1,hlt,rfl,HQ.out,by rw [← HK.out]; exact HS2.out,?_⟩,by simp [intOf]; omega⟩
      have t1:Tc [] w (w1.alloc (.cells #[] 104)):=(HT.out.trans HT1.out (by simp)).alloc _
      exact (t1.trans HT2.out (by intro y hy; right; simp at hy; rw [hy,HB.out]; exact Nat.le_refl _))
    ·have HQ:=hid (show readyE A li lo = makeE A lo[k] by rw [HE.out,heq,hd,readyOut_bad hm,if_pos hm])
     have HMM:=hid (HM.out wr ht lo[k])
     generalize makeE A lo[k] = er at HMM HQ hm
     have HT:=hid ht
     clear heq hs ht hd hab
     go_wp2_with (go_at_call 140; refine HMM.out.mono ?_; rintro e w1 ⟨rfl,ht1⟩)
     go_ret
     exact ⟨by rw [HQ.out]; rfl,HT.out.trans ht1 (by simp)⟩
   ·obtain rfl:k = lo.length:=by omega
    have HQ:=hid (show readyE A li lo = readyIn A li by rw [HE.out,heq]; simp [readyOut])
    have HT:=hid ht
    clear heq hs ht
    go_wp2_with fail
    go_loopw [50] (fun i W=>∃ k:Nat,k ≤ li.length ∧ i = .int .i64 k ∧ readyIn A li = readyIn A (li.drop k) ∧ Tc [] w W) (fun i _=>li.length - (intOf i).toNat)
    case atStart=>exact ⟨0,Nat.zero_le _,rfl,rfl,HT.out⟩
    case round =>
     obtain ⟨k,hk,rfl,heq,ht⟩:=hrel
     by_cases hlt:k < li.length
     ·obtain ⟨a,rfl,hab,hc⟩:=(HI.out _ ht).at_ k hlt
      have hd:=readyOut_at (l:=li) hlt (seen:=[])
      have HMM:=hid (HR.out _ ht li[k])
      by_cases hm:readE A li[k] = 0
      ·have HQ2:=hid (show readyIn A li = readyIn A (li.drop (k + 1)) by rw [heq,hd,readyIn_cons hm])
       rw [hm] at HMM
       have HT2:=hid ht
       clear heq ht hd hab hm
       go_wp2_with (go_at_call 141; refine HMM.out.mono ?_; rintro e w1 ⟨rfl,ht1⟩)
       exact ⟨⟨k + 1,hlt,rfl,HQ2.out,HT2.out.trans ht1 (by simp)⟩,by simp [intOf]; omega⟩
      ·have HQ2:=hid (show readyE A li lo = readE A li[k] by rw [HQ.out,heq,hd,readyIn_bad hm])
       generalize readE A li[k] = er at HMM HQ2 hm
       have HT2:=hid ht
       clear heq ht hd hab
       go_wp2_with (go_at_call 141; refine HMM.out.mono ?_; rintro e w1 ⟨rfl,ht1⟩)
       go_ret
       exact ⟨by rw [HQ2.out]; rfl,HT2.out.trans ht1 (by simp)⟩
     ·obtain rfl:k = li.length:=by omega
      have HQ2:=hid (show readyE A li lo = 0 by rw [HQ.out,heq]; simp [readyIn])
      have HT2:=hid ht
      clear heq ht
      go_wp2_with fail
      go_ret
      exact ⟨by rw [HQ2.out]; rfl,HT2.out⟩
end
def heldV (kb:Nat) (x:ByteArray) (kind:Int):Value:=.agg #[ptr kb,.string x,.int .i64 kind,.slice none 0 0,.int .i64 0,.bool false]
def held0:Value:=.agg #[.pointer none,.string { data:=#[] },.int .i64 0,.slice none 0 0,.int .i64 0,.bool false]
def holdE (A:PubA) (s:Pu.St) (K kind:Int) (li lo:List ByteArray):Int:=if kind < 1 ∨ kind > 5 then 1 else if readyE A li lo ≠ 0 then readyE A li lo else if Pu.leaveE s K ≠ 0 then 2 else 0
section
variable {w w':World} {b:Bn} {n:Nat} {A:PubA} {s:Pu.St} {F:List Nat} {kb:Nat} {K T:Int}
theorem Pu.take_no {s:Pu.St} {k:Int} (h:Pu.leaveE s k ≠ 0):s.take k = s:=by unfold Pu.St.take; rw [if_neg h]
theorem box6 {w2:World} {b:Nat} {t:TypeId} {u0 u1 u2 u3 u4 u5:Value} (hr:w2.heap[b]? = some (.cells #[u0,u1,u2,u3,u4,u5] t (0,0))) (v0 v1 v2 v3 v4 v5:Value) :
  ∃ W2,W2 = (((((w2.setCell ⟨b,0,none⟩ v0).setCell ⟨b,1,none⟩ v1).setCell ⟨b,2,none⟩ v2).setCell ⟨b,3,none⟩ v3).setCell ⟨b,4,none⟩ v4).setCell ⟨b,5,none⟩ v5 ∧
   W2.heap[b]? = some (.cells #[v0,v1,v2,v3,v4,v5] t (0,0)) ∧ Tc [b] w2 W2:=by
 refine ⟨_,rfl,?_,?_⟩
 ·refine (sRw (sRw (sRw (sRw (sRw (sRw hr 0 _) 1 _) 2 _) 3 _) 4 _) 5 _).trans ?_
  simp
 ·repeat' refine Tc.setCell ?_ (by simp) _
  exact Tc.refl _ _
theorem Went.box {W w2 W2:World} {n0 m:Nat} {A0 A':PubA} {s0 s':Pu.St} {G B:List Nat} (S:Std w b n0 A0 s0 F) (t1:Tc [] w W) (h:Went W w2 b m A' s' F G) (t2:Tc B w2 W2) (hB:∀ y ∈ B,w.heap.size ≤ y ∧ y < W.heap.size):Went w W2 b m A' s' F G:=by
 obtain ⟨F',S',t',f'⟩:=h
 refine ⟨F',S'.touch t2 (fun y hy=>⟨fun hx=>?_,Nat.le_trans S.room (hB y hy).1⟩),((t1.mono (by simp)).trans t' (fun y hy=>.inl hy)).trans t2 (fun y hy=>.inr (hB y hy).1),fun y hy=>?_⟩
 ·have h1:=hB y hy
  rcases f' y hx with h | h
  ·have:=S.lt y h; omega
  ·omega
 ·rcases f' y hy with h | h
  ·exact .inl h
  ·exact .inr (Nat.le_trans t1.size h)
theorem Went.own {w1 w2:World} {m:Nat} {A':PubA} {s':Pu.St} {G G' B:List Nat} (h:Went w w1 b m A' s' F G) (t:Tc B w1 w2) (hB:∀ y ∈ B,y ∈ G' ∧ y ∉ F ∧ y < w.heap.size ∧ b.lo ≤ y) (hG:∀ y ∈ G,y ∈ G'):Went w w2 b m A' s' F G':=by
 obtain ⟨F',S',t',f'⟩:=h
 refine ⟨F',S'.touch t (fun y hy=>⟨fun hx=>?_,(hB y hy).2.2.2⟩),(t'.mono fun y hy=>?_).trans t (fun y hy=>.inl (List.mem_append.2 (.inl (hB y hy).1))),f'⟩
 ·rcases f' y hx with h | h
  ·exact (hB y hy).2.1 h
  ·have:=(hB y hy).2.2.1; omega
 ·rcases List.mem_append.1 hy with h | h
  ·exact List.mem_append.2 (.inl (hG y h))
  ·exact List.mem_append.2 (.inr h)
set_option maxRecDepth 100000 in
set_option maxHeartbeats 1000000 in
theorem hold_any (S:Std w b n A s F) (hn:n < 1099511627776) (hk:DkA w kb b K T) (hkF:kb ∉ F) {si so:Option Addr} {ci co:Nat} {li lo:List ByteArray} (hi:StrsAt w si li) (ho:StrsAt w so lo) (h1:li.length ≤ 1099511627776) (h2:lo.length ≤ 1099511627776) (x:ByteArray) (kind:Int) :
  Calls Tryz.prog 145 #[ptr kb,.string x,.int .i64 kind,.slice si li.length ci,.slice so lo.length co] w fun e w' =>
   (holdE A s K kind li lo ≠ 0 ∧ e = .returned (.tuple #[held0,.int .i64 (holdE A s K kind li lo)]) ∧ Went w w' b n A s F []) ∨
   (holdE A s K kind li lo = 0 ∧ Pu.leaveE s K = 0 ∧ e = .returned (.tuple #[heldV kb x kind,.int .i64 0]) ∧ Went w w' b n A (s.take K) F []):=by
 have HY:Hid (∀ W,Tc [] w W → Calls Tryz.prog 94 #[ptr kb,.slice si li.length ci,.slice so lo.length co] W fun e w'=>e = .returned (.int .i64 (readyE A li lo)) ∧ Tc [] W w'):=fun W t=>Ready_any (S.quiet t) hn (hk.touch t (by simp)) (hi.touch t (by simp)) (ho.touch t (by simp)) h1 h2
 have HT:Hid (∀ W,Tc [] w W → Calls Tryz.prog 30 #[ptr b.q,.int .i64 K] W fun e w'=>e = .returned (.int .i64 (Pu.leaveE s K)) ∧ Went W w' b n A (s.take K) F []):=fun W t=>take_s (S.quiet t) K
 have HK:Hid (∀ W,Tc [] w W → W.cell? ⟨kb,1,none⟩ = some (ptr b.q) ∧ W.cell? ⟨kb,2,none⟩ = some (.int .i64 K)):=fun W t=>⟨by rw [cRw (hk.touch t (by simp)) 1]; rfl,by rw [cRw (hk.touch t (by simp)) 2]; rfl⟩
 have HS:=hid S
 have HKF:=hid hkF
 have hkl:=ltB hk
 clear hi ho S hk hkF
 unfold holdE heldV
 by_cases hkind:kind < 1 ∨ kind > 5
 ·rw [if_pos hkind]
  rcases hkind with hkind | hkind
  ·go_enter Tryz.func145,Tryz.ntmps145
   go_wp2
   have hb:=heap_alloc_new w (.cells #[.pointer none,.string { data:=#[] },.int .i64 0,.slice none 0 0,.int .i64 0,.bool false] 222)
   have q:=fun i=>cRw hb i
   refine bodyPost_ret (v:=.tuple #[held0,.int .i64 1]) (by simp [results,Tryz.results145,go_sem,q,held0]) rfl ?_
   exact .inl ⟨by decide,rfl,Went.quiet HS.out ((Tc.refl [] w).alloc _)⟩
  ·have hk1:¬ kind < 1:=by omega
   go_enter Tryz.func145,Tryz.ntmps145
   go_wp2
   have hb:=heap_alloc_new w (.cells #[.pointer none,.string { data:=#[] },.int .i64 0,.slice none 0 0,.int .i64 0,.bool false] 222)
   have q:=fun i=>cRw hb i
   refine bodyPost_ret (v:=.tuple #[held0,.int .i64 1]) (by simp [results,Tryz.results145,go_sem,q,held0]) rfl ?_
   exact ⟨rfl,Went.quiet HS.out ((Tc.refl [] w).alloc _)⟩
 ·rw [if_neg hkind]
  have hk1:¬ kind < 1:=by omega
  have hk2:¬ kind > 5:=by omega
  by_cases hr:readyE A li lo = 0
  ·rw [if_neg (by simp [hr])]
   rw [hr] at HY
   clear hr hkind
   go_enter Tryz.func145,Tryz.ntmps145
   go_wp2_with (go_at_call 94; refine (HY.out _ ((Tc.refl [] w).alloc _)).mono ?_; rintro e w1 ⟨rfl,ht⟩; have hb:=(ht.block w.heap.size (by simp) (by simp)).trans (heap_alloc_new w (.cells #[.pointer none,.string { data:=#[] },.int .i64 0,.slice none 0 0,.int .i64 0,.bool false] 222)); have HTT:=hid ((Tc.refl [] w).alloc (.cells #[.pointer none,.string { data:=#[] },.int .i64 0,.slice none 0 0,.int .i64 0,.bool false] 222) |>.trans ht (by simp)); have HB:=hid hb; have hck:=HK.out w1 HTT.out; clear ht hb)
   go_region_held3 (fun W=>W.cell? ⟨kb,1,none⟩ = some (ptr b.q) ∧ W.cell? ⟨kb,2,none⟩ = some (.int .i64 K)) (go_keep)
    (first | (go_at_call 30; refine (HT.out _ HTT.out.drew).mono ?_; rintro e w2 ⟨rfl,hg⟩; have z2:w2.cell? ⟨kb,1,none⟩ = some (ptr b.q) ∧ w2.cell? ⟨kb,2,none⟩ = some (.int .i64 K):=(by obtain ⟨_,_,t,_⟩:=hg; exact ⟨(t.cell (p:=⟨kb,1,none⟩) (by have:=HTT.out.size; show kb < w1.heap.size; omega) (by simp; exact HKF.out)).trans hck.1,(t.cell (p:=⟨kb,2,none⟩) (by have:=HTT.out.size; show kb < w1.heap.size; omega) (by simp; exact HKF.out)).trans hck.2⟩); have HG:=hid hg; clear hg))
   have hb2:w2.heap[w.heap.size]? = some (.cells #[.pointer none,.string { data:=#[] },.int .i64 0,.slice none 0 0,.int .i64 0,.bool false] 222 (0,0)):=by
    obtain ⟨_,_,t,_⟩:=HG.out
    refine (t.block _ (ltB HB.out) ?_).trans HB.out
    intro hx
    have:=HS.out.lt _ (by simpa using hx)
    omega
   have HB2:=hid hb2
   have hl1:=ltB HB.out
   have HN:Hid (∀ W2,Tc [w.heap.size] w2 W2 → Went w W2 b n A (s.take K) F []):=fun W2 t=>Went.box HS.out HTT.out.drew HG.out t (by intro y hy; simp at hy; subst hy; exact ⟨Nat.le_refl _,hl1⟩)
   clear hb2
   by_cases hl:Pu.leaveE s K = 0
   ·have c:=fun i=>cRw HB2.out i
    have f:=fun i=>uRw HB2.out i
    rw [hl]
    go_wp2
    obtain ⟨W2,hW2,q2,t2⟩:=box6 HB2.out (ptr kb) (.string x) (.int .i64 kind) (.slice none 0 0) (.int .i64 0) (.bool false)
    rw [← hW2]
    clear c f hW2
    have q:=fun i=>cRw q2 i
    refine bodyPost_ret (v:=.tuple #[heldV kb x kind,.int .i64 0]) (by simp [results,Tryz.results145,go_sem,q,heldV]) rfl ⟨rfl,HN.out _ t2⟩
   ·have c:=fun i=>cRw HB2.out i
    have f:=fun i=>uRw HB2.out i
    go_wp2
    obtain ⟨W2,hW2,q2,t2⟩:=box6 HB2.out (.pointer none) (.string { data:=#[] }) (.int .i64 0) (.slice none 0 0) (.int .i64 0) (.bool false)
    rw [← hW2]
    clear c f hW2
    have q:=fun i=>cRw q2 i
    have hw:=HN.out _ t2
    rw [Pu.take_no hl] at hw
    refine bodyPost_ret (v:=.tuple #[held0,.int .i64 2]) (by simp [results,Tryz.results145,go_sem,q,held0]) rfl ⟨rfl,hw⟩
  ·rw [if_pos hr]
   generalize readyE A li lo = er at HY hr
   clear hkind
   go_enter Tryz.func145,Tryz.ntmps145
   go_wp2_with (go_at_call 94; refine (HY.out _ ((Tc.refl [] w).alloc _)).mono ?_; rintro e w1 ⟨rfl,ht⟩; have hb:=(ht.block w.heap.size (by simp) (by simp)).trans (heap_alloc_new w (.cells #[.pointer none,.string { data:=#[] },.int .i64 0,.slice none 0 0,.int .i64 0,.bool false] 222)); have HTT:=hid ((Tc.refl [] w).alloc (.cells #[.pointer none,.string { data:=#[] },.int .i64 0,.slice none 0 0,.int .i64 0,.bool false] 222) |>.trans ht (by simp)); have c:=fun i=>cRw hb i; have f:=fun i=>uRw hb i; have HB:=hid hb; clear ht hb)
   obtain ⟨W2,hW2,q2,t2⟩:=box6 HB.out (.pointer none) (.string { data:=#[] }) (.int .i64 0) (.slice none 0 0) (.int .i64 0) (.bool false)
   rw [← hW2]
   clear c f hW2
   have q:=fun i=>cRw q2 i
   refine bodyPost_ret (v:=.tuple #[held0,.int .i64 er]) (by simp [results,Tryz.results145,go_sem,q,held0]) rfl (.inl ⟨hr,rfl,Went.quiet HS.out ?_⟩)
   exact HTT.out.trans t2 (by simp)
structure HeldAt (w:World) (hb kb:Nat) (x:ByteArray) (kind:Int) (lv:Value) (dead:Int) (cl:Bool):Prop where
 row:∃ c t,w.heap[hb]? = some (.cells c t (0,0)) ∧ c[0]? = some (ptr kb) ∧ c[1]? = some (.string x) ∧ c[2]? = some (.int .i64 kind) ∧ c[3]? = some lv ∧ c[4]? = some (.int .i64 dead) ∧ c[5]? = some (.bool cl)
variable {hb:Nat} {x:ByteArray} {kind dead:Int} {lv:Value} {cl:Bool}
theorem HeldAt.cells (h:HeldAt w hb kb x kind lv dead cl):w.cell? ⟨hb,0,none⟩ = some (ptr kb) ∧ w.cell? ⟨hb,1,none⟩ = some (.string x) ∧ w.cell? ⟨hb,2,none⟩ = some (.int .i64 kind) ∧ w.cell? ⟨hb,3,none⟩ = some lv ∧ w.cell? ⟨hb,4,none⟩ = some (.int .i64 dead) ∧ w.cell? ⟨hb,5,none⟩ = some (.bool cl):=by
 obtain ⟨c,t,h0,h1,h2,h3,h4,h5,h6⟩:=h.row
 exact ⟨(cRw h0 0).trans h1,(cRw h0 1).trans h2,(cRw h0 2).trans h3,(cRw h0 3).trans h4,(cRw h0 4).trans h5,(cRw h0 5).trans h6⟩
theorem HeldAt.unfrozen (h:HeldAt w hb kb x kind lv dead cl) (i:Nat):w.frozen? ⟨hb,i,none⟩ = false:=by
 obtain ⟨c,t,h0,_⟩:=h.row
 exact uRw h0 i
theorem HeldAt.lt (h:HeldAt w hb kb x kind lv dead cl):hb < w.heap.size:=by
 obtain ⟨c,t,h0,_⟩:=h.row
 exact ltB h0
set_option maxRecDepth 100000 in
theorem refusal_any (h:HeldAt w hb kb x kind lv dead cl):Calls Tryz.prog 148 #[ptr hb] w fun e w'=>e = .returned (.int .i64 (if cl = true then 6 else dead)) ∧ w' = w:=by
 obtain ⟨_,_,_,_,c4,c5⟩:=h.cells
 clear h
 cases cl with
 | true =>
  go_enter Tryz.func148,Tryz.ntmps148
  go_wp2
  go_ret
  exact ⟨rfl,rfl⟩
 | false =>
  go_enter Tryz.func148,Tryz.ntmps148
  go_wp2
  go_ret
  exact ⟨rfl,rfl⟩
end
end Go.Proofs.YthehcjjckabljaaGreatDoor
