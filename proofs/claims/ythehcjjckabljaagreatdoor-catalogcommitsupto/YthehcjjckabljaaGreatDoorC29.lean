import Derived.Deep.RegionHeld3
import Derived.BigQuiet
import Derived.Deep.RegionLaw
import Derived.Test.YthehcjjckabljaaGreatDoorC28
namespace Go.Proofs.YthehcjjckabljaaGreatDoor
open Go.RowKit Go.Deep
set_option maxRecDepth 100000
set_option linter.unusedSimpArgs false
set_option linter.unusedVariables false
structure Came (w:World) (E:Nat → Addr) (lo:Nat) (ta:Option Addr) (l:List ThI):Prop where
 env:Env w lo E
 tabs:Tabs w
 low:17 ≤ lo
 ths:ThsAt w ta l
 few:l.length ≤ 1000
theorem Came.touch {w w':World} {E:Nat → Addr} {lo:Nat} {ta:Option Addr} {l:List ThI} (h:Came w E lo ta l) (t:Tc [] w w'):Came w' E lo ta l:=⟨h.env.touch t (by simp),h.tabs.quiet t,h.low,h.ths.touch t,h.few⟩
theorem Came.thg {w:World} {E:Nat → Addr} {lo:Nat} {ta:Option Addr} {l:List ThI} (h:Came w E lo ta l):∀ x ∈ l.map ThI.x,Few x:=fun x hx=>by
 obtain ⟨y,hy,rfl⟩:=List.mem_map.1 hx
 obtain ⟨k,hk,rfl⟩:=List.getElem_of_mem hy
 obtain ⟨a,_,_,_,_,_,_,_,_,_,_,_,ht,_⟩:=h.ths.at_ k hk
 exact ⟨ht.ol,ht.rl⟩
structure Sta (w:World) (B:Nat) (fv:Value) (D:List Nat) (l:List SFl) (L:List Thg):Prop where
 st:StD w D fv l
 good:GoodP B (l.map SFl.pub)
 blk:64 ≤ B ∧ B ≤ 65536 ∧ B % 32 = 0 ∧ B ≤ 1312
 of_:∀ p ∈ l.map SFl.pub,∃ x ∈ L,p = thFile B x
theorem Sta.touch {w w':World} {B:Nat} {fv:Value} {D:List Nat} {l:List SFl} {L:List Thg} (h:Sta w B fv D l L) (t:Tc [] w w'):Sta w' B fv D l L:=⟨h.st.touch t (fun y hy=>by cases hy),h.good,h.blk,h.of_⟩
theorem Sta.names {w:World} {B:Nat} {fv:Value} {D:List Nat} {l:List SFl} {L:List Thg} (h:Sta w B fv D l L):∀ e ∈ l,e.name.length ≤ 32:=fun e he=>by
 have h1:=h.good.name _ (List.mem_map.2 ⟨e,he,rfl⟩)
 unfold nameB at h1
 simp only [Bool.and_eq_true,decide_eq_true_eq] at h1
 have h2:=h1.1.2
 have h3:(bs e.name).size = e.name.length:=by show e.name.toArray.size = _; simp
 rw [show (bs (e.pub).1).size = e.name.length from h3] at h2
 exact h2
theorem Sta.blks {w:World} {B:Nat} {fv:Value} {D:List Nat} {l:List SFl} {L:List Thg} (h:Sta w B fv D l L):l.length ≤ 1000 ∧ ∀ e ∈ l,e.file.blocks.length ≤ 2097153 ∧ ∀ d ∈ e.file.blocks,d.length = B:=
 ⟨by simpa using h.good.few,fun e he=>h.good.size _ (List.mem_map.2 ⟨e,he,rfl⟩)⟩
section
variable {w:World} {E:Nat → Addr} {lo:Nat} {ta:Option Addr} {tc m:Nat} {l:List ThI} {n:Int}
theorem stateC (C:Came w E lo ta l) (hn:-9223372036854775808 ≤ n ∧ n < 9223372036854775808) (hm:l.length = min m 1000) (hmc:m ≤ tc) (hta:ta = none → m = 0 ∧ tc = 0) :
  Calls Tryz.prog 24 #[.agg #[.int .i64 n,.slice ta m tc]] w fun e w'=>∃ (B:Nat) (fa:Option Addr) (fc:Nat) (D:List Nat) (sl:List SFl),e = .returned (.agg #[.int .i64 (B:Int),.slice fa sl.length fc]) ∧ Sta w' B (.slice fa sl.length fc) D sl (l.map ThI.x) ∧ Tc [] w w':=
 (stateW_any C.ths C.few hn hm hmc hta).mono fun e w' ⟨B,sl,D,fv,e1,hB,hst,hp,_,ht⟩=>by
  obtain ⟨fa,fc,e2⟩:=hst.sl
  have hlen:=sortF_len sl
  subst e2
  refine ⟨B,fa,fc,D,sortF sl,e1,⟨hst,GoodP.state ⟨hB.1,hB.2.2.1⟩ hp (by rw [List.length_map]; exact C.few) C.thg,hB,fun p hp2=>?_⟩,ht⟩
  obtain ⟨e,he,rfl⟩:=List.mem_map.1 hp2
  apply (stP_of (B:=B) (l:=l.map ThI.x)).1
  rw [← hp]
  exact List.mem_map.2 ⟨e,sortF_mem.1 he,rfl⟩
end
section
variable {w:World} {E:Nat → Addr} {lo B:Nat} {fv:Value} {fa:Option Addr} {fc:Nat} {D:List Nat} {l:List SFl} {L:List Thg}
theorem copyC (h:Sta w B (.slice fa l.length fc) D l L):Calls Tryz.prog 25 #[.agg #[.int .i64 (B:Int),.slice fa l.length fc]] w fun e w'=>∃ (ga:Option Addr) (gc:Nat) (D':List Nat) (l':List SFl),e = .returned (.agg #[.int .i64 (B:Int),.slice ga l'.length gc]) ∧ Sta w' B (.slice ga l'.length gc) D' l' L ∧ l'.map SFl.pub = l.map SFl.pub ∧ Tc [] w w':=
 (copy_any h.st (by have:=h.blks.1; omega) (fun e he=>by have h9:=h.blks.2 e he; have hb:=h.blk; exact ⟨by omega,fun d hd=>by rw [h9.2 d hd]; omega⟩)).mono fun e w' ⟨l',D',fv',e1,hst,hp,_,ht⟩=>by
  obtain ⟨ga,gc,e2⟩:=hst.sl
  subst e2
  exact ⟨ga,gc,D',l',e1,⟨hst,by rw [hp]; exact h.good,h.blk,by rw [hp]; exact h.of_⟩,hp,ht⟩
structure Bed (W0 w1:World) (b:Bn) (kb K:Nat) (F:List Nat) (lb:Nat) (B x:Nat) (P:List (List UInt8 × FlA)) (A:PubA):Prop where
 S:Std w1 b 2097153000 A (.new ((64 * K + x:Nat):Int) lb) F
 dk:DkA w1 kb b (K:Int) 1
 kF:kb ∉ F
 new:∀ y ∈ F,W0.heap.size ≤ y
 kn:W0.heap.size ≤ kb
 touch:Tc [] W0 w1
 files:A.files = P
 on:A.on = true
 calls:A.c = ⟨0,0,0,0,0,(total P:Int),(total P:Int)⟩
 blk:A.B = B
 fits:Fits A K
 hK:1 ≤ K ∧ K ≤ 40
end
open Go.ChangeShapes Go.WideShapes Go.ChangeAt Go.RowKit Go.Deep
theorem cells54:Tryz.prog.cellsOf 116 = 9:=by kernel_rfl
theorem cells4:Tryz.prog.cellsOf 4 = 1:=by kernel_rfl
theorem cells55:Tryz.prog.cellsOf 55 = 1:=by kernel_rfl
theorem cells57:Tryz.prog.cellsOf 57 = 2:=by kernel_rfl
section
variable {H:Type} {enc:TypeId × Value → H} {W:World} {spare:Nat → Bool} {held:Bool}
theorem open_tbv {n:Nat} {cs:List Value} {x:DataW H × List MemPlace} (h2:DataW.trod enc Tryz.prog W 0 spare held n 26 cs = some x) (hk:Rows.uptoBulk x.1 ≤ 1048576) :
  ∃ r:TbI,cs = [.int .i64 r.t.vars,.slice r.so r.t.order.length r.co,.slice r.sr r.t.rows.length r.cr,.int .i64 r.t.next,.int .u64 (r.t.nf:Int)] ∧ TblAt W r.t r.so r.sr:=by
 obtain ⟨xs,m,rfl,e2,hl,hxs,hall⟩:=DataW.trod_struct Tryz.underlying26 h2
 rw [cells26] at hl
 match cs,hl with
 | [v0,v1,v2,v3,v4],_ =>
 have f0:=hall 0 _ rfl
 have f1:=hall 1 _ rfl
 have f2:=hall 2 _ rfl
 have f3:=hall 3 _ rfl
 have f4:=hall 4 _ rfl
 simp [cells3,cells22,cells23,cells24] at f0 f1 f2 f3 f4
 have hx5:xs.length = 5:=by simpa using hxs
 rw [List.getElem?_eq_getElem (by omega)] at f0 f1 f2 f3 f4
 subst e2
 simp only [Rows.uptoBulk] at hk
 have b1:=bulk_part (H:=H) (d:=(xs[1]'(by omega)).1) (l:=xs.map (·.1)) (List.mem_map.2 ⟨_,List.getElem_mem _,rfl⟩)
 have b2:=bulk_part (H:=H) (d:=(xs[2]'(by omega)).1) (l:=xs.map (·.1)) (List.mem_map.2 ⟨_,List.getElem_mem _,rfl⟩)
 obtain ⟨n0,q0,_,w0⟩:=DataW.trod_int Tryz.underlying3 f0
 obtain ⟨n3,q3,_,w3⟩:=DataW.trod_int Tryz.underlying3 f3
 obtain ⟨n4,q4,_,w4⟩:=DataW.trod_int Tryz.underlying24 f4
 obtain ⟨so,co,o,q1,ho,hol,hoi⟩:=open_nums f1 (by omega)
 obtain ⟨sr,cr,l,q2,hr,hrl,hri⟩:=open_rws f2 (by omega)
 simp at q0 q3 q4
 subst q0 q1 q2 q3 q4
 have w4:=u64_wf w4
 refine ⟨⟨⟨n0,o,l,n3,n4.toNat⟩,so,sr,co,cr⟩,?_,⟨ho,hr,hol,hrl,i64_rng w0,i64_rng w3,by show n4.toNat < _; omega,hoi,hri⟩⟩
 show _ = [Value.int .i64 n0,_,_,Value.int .i64 n3,Value.int .u64 ((n4.toNat:Nat):Int)]
 rw [Int.toNat_of_nonneg w4.1]
theorem open_thc {n:Nat} {a:Addr} {cs:List Value} {x:DataW H × List MemPlace} (h1:W.cells? 0 a 9 = some cs) (h2:DataW.trod enc Tryz.prog W 0 spare held n 116 cs = some x) (hk:Rows.uptoBulk x.1 ≤ 1048576) :
  ∃ r:ThI,a.block < W.heap.size ∧ W.cell? a = some (.int .i64 r.x.kind) ∧ W.cell? ⟨a.block,a.off + 1,none⟩ = some (.int .u64 (r.x.n:Int)) ∧ W.cell? ⟨a.block,a.off + 2,none⟩ = some (.bool r.x.shut) ∧ W.cell? ⟨a.block,a.off + 3,none⟩ = some (.int .i64 r.x.t.vars) ∧ W.cell? ⟨a.block,a.off + 4,none⟩ = some (.slice r.so r.x.t.order.length r.co) ∧ W.cell? ⟨a.block,a.off + 5,none⟩ = some (.slice r.sr r.x.t.rows.length r.cr) ∧ W.cell? ⟨a.block,a.off + 6,none⟩ = some (.int .i64 r.x.t.next) ∧ W.cell? ⟨a.block,a.off + 7,none⟩ = some (.int .u64 (r.x.t.nf:Int)) ∧ W.cell? ⟨a.block,a.off + 8,none⟩ = some (.int .u64 (r.x.gen:Int)) ∧
   TblAt W r.x.t r.so r.sr ∧ r.x.n < 18446744073709551616 ∧ r.x.gen < 18446744073709551616 ∧ (-9223372036854775808 ≤ r.x.kind ∧ r.x.kind < 9223372036854775808):=by
 have hm:(List.range 9).mapM (fun i=>W.cell? (a.add i)) = some cs:=by
  simpa [World.cells?] using h1
 have g:∀ i,i < 9 → W.cell? (a.add i) = cs[i]?:=fun i hi=>mapM_some_get hm i i (by simp [hi])
 obtain ⟨xs,m,rfl,e2,hl,hxs,hall⟩:=DataW.trod_struct Tryz.underlying116 h2
 rw [cells54] at hl
 match cs,hl with
 | [v0,v1,v2,v3,v4,v5,v6,v7,v8],_ =>
 have f0:=hall 0 _ rfl
 have f1:=hall 1 _ rfl
 have f2:=hall 2 _ rfl
 have f3:=hall 3 _ rfl
 have f4:=hall 4 _ rfl
 simp [cells3,cells4,cells26,cells24] at f0 f1 f2 f3 f4
 have hx5:xs.length = 5:=by simpa using hxs
 rw [List.getElem?_eq_getElem (by omega)] at f0 f1 f2 f3 f4
 subst e2
 simp only [Rows.uptoBulk] at hk
 have b3:=bulk_part (H:=H) (d:=(xs[3]'(by omega)).1) (l:=xs.map (·.1)) (List.mem_map.2 ⟨_,List.getElem_mem _,rfl⟩)
 obtain ⟨n0,q0,_,w0⟩:=DataW.trod_int Tryz.underlying3 f0
 obtain ⟨n1,q1,_,w1⟩:=DataW.trod_int Tryz.underlying24 f1
 obtain ⟨n2,q2,_⟩:=DataW.trod_bool Tryz.underlying4 f2
 obtain ⟨r,q3,ht⟩:=open_tbv f3 (by omega)
 obtain ⟨n4,q4,_,w4⟩:=DataW.trod_int Tryz.underlying24 f4
 simp at q0 q1 q2 q3 q4
 obtain ⟨p3,p4,p5,p6,p7⟩:=q3
 subst q0 q1 q2 p3 p4 p5 p6 p7 q4
 have w1:=u64_wf w1
 have w4:=u64_wf w4
 have g0:=g 0 (by omega)
 have g1:=g 1 (by omega)
 have g2:=g 2 (by omega)
 have g3:=g 3 (by omega)
 have g4:=g 4 (by omega)
 have g5:=g 5 (by omega)
 have g6:=g 6 (by omega)
 have g7:=g 7 (by omega)
 have g8:=g 8 (by omega)
 have hs1:=World.cell?_spot g0
 obtain ⟨b,off,spot⟩:=a
 have hsn:spot = none:=by simpa [Addr.add] using hs1
 subst hsn
 rw [addC] at g0 g1 g2 g3 g4 g5 g6 g7 g8
 have hlt:b < W.heap.size:=by simpa using World.block_lt_of_cell? W _ g0
 refine ⟨⟨⟨n0,n1.toNat,n2,r.t,n4.toNat⟩,r.so,r.sr,r.co,r.cr⟩,hlt,by simpa using g0,?_,by simpa using g2,by simpa using g3,by simpa using g4,by simpa using g5,by simpa using g6,by simpa using g7,?_,ht,by show n1.toNat < _; omega,by show n4.toNat < _; omega,i64_rng w0⟩
 ·show _ = some (Value.int .u64 ((n1.toNat:Nat):Int))
  rw [Int.toNat_of_nonneg w1.1]
  simpa using g1
 ·show _ = some (Value.int .u64 ((n4.toNat:Nat):Int))
  rw [Int.toNat_of_nonneg w4.1]
  simpa using g8
theorem open_ths {fuel:Nat} {v:Value} {x:DataW H × List MemPlace} (hf:DataW.trod enc Tryz.prog W 0 spare held fuel 55 [v] = some x) (hk:Rows.uptoBulk x.1 ≤ 1048576) :
  ∃ (sa:Option Addr) (ca:Nat) (l:List ThI),v = .slice sa l.length ca ∧ ThsAt W sa l ∧ l.length ≤ 1048576 ∧ l.length ≤ ca ∧ (sa = none → l.length = 0 ∧ ca = 0):=by
 rcases open_slice Tryz.underlying55 hf with ⟨hcs,hx⟩ | ⟨a,len,cap,m,n,D,Pl,hcs,_,hl,hm,hmm,hx,hall⟩
 ·simp at hcs
  subst hcs
  exact ⟨none,0,[],rfl,⟨fun k hk=>by simp at hk⟩,Nat.zero_le _,Nat.le_refl _,fun _=>⟨rfl,rfl⟩⟩
 ·simp at hcs
  subst hcs
  rw [cells54] at hx hall
  subst hx
  have hlm:len ≤ m:=by rw [hmm]; split <;> omega
  have hb1:Rows.uptoBulkAll ((List.range len).map D) ≤ 1048576:=by
   simp only [Rows.uptoBulk] at hk
   omega
  have hlen2:=bulk_length ((List.range len).map D)
  simp only [List.length_map,List.length_range] at hlen2
  have each:∀ i,i < len → ∃ r:ThI,(a.add (i * 9)).block < W.heap.size ∧ W.cell? (a.add (i * 9)) = some (.int .i64 r.x.kind) ∧ W.cell? ⟨(a.add (i * 9)).block,(a.add (i * 9)).off + 1,none⟩ = some (.int .u64 (r.x.n:Int)) ∧ W.cell? ⟨(a.add (i * 9)).block,(a.add (i * 9)).off + 2,none⟩ = some (.bool r.x.shut) ∧ W.cell? ⟨(a.add (i * 9)).block,(a.add (i * 9)).off + 3,none⟩ = some (.int .i64 r.x.t.vars) ∧ W.cell? ⟨(a.add (i * 9)).block,(a.add (i * 9)).off + 4,none⟩ = some (.slice r.so r.x.t.order.length r.co) ∧ W.cell? ⟨(a.add (i * 9)).block,(a.add (i * 9)).off + 5,none⟩ = some (.slice r.sr r.x.t.rows.length r.cr) ∧ W.cell? ⟨(a.add (i * 9)).block,(a.add (i * 9)).off + 6,none⟩ = some (.int .i64 r.x.t.next) ∧ W.cell? ⟨(a.add (i * 9)).block,(a.add (i * 9)).off + 7,none⟩ = some (.int .u64 (r.x.t.nf:Int)) ∧ W.cell? ⟨(a.add (i * 9)).block,(a.add (i * 9)).off + 8,none⟩ = some (.int .u64 (r.x.gen:Int)) ∧
   TblAt W r.x.t r.so r.sr ∧ r.x.n < 18446744073709551616 ∧ r.x.gen < 18446744073709551616 ∧ (-9223372036854775808 ≤ r.x.kind ∧ r.x.kind < 9223372036854775808):=fun i hi=>by
   obtain ⟨cs',h1,h2⟩:=hall i (by omega)
   have h3:=bulk_part (H:=H) (d:=D i) (l:=(List.range len).map D) (List.mem_map.2 ⟨i,List.mem_range.2 hi,rfl⟩)
   exact open_thc h1 h2 (by show Rows.uptoBulk (D i) ≤ _; omega)
  haveI:Inhabited ThI:=⟨⟨⟨0,0,false,⟨0,[],[],0,0⟩,0⟩,none,none,0,0⟩⟩
  obtain ⟨f,hf⟩:=choose_lt each
  have hlen:((List.range len).map f).length = len:=by simp
  refine ⟨some a,cap,(List.range len).map f,by rw [hlen],⟨fun k hk=>?_⟩,by rw [hlen]; omega,by rw [hlen]; exact hl,fun h=>by cases h⟩
  rw [hlen] at hk
  have h9:=hf k hk
  have e:((List.range len).map f)[k]'(by rw [hlen]; exact hk) = f k:=by simp
  rw [e]
  obtain ⟨h0,hr⟩:=h9
  rw [add_block] at h0
  exact ⟨a,rfl,h0,hr⟩
theorem ThsAt.first {sa:Option Addr} {l:List ThI} (h:ThsAt W sa l) (q:Nat):ThsAt W sa (l.take q):=⟨fun k hk=>by
 have hk2:k < l.length:=by rw [List.length_take] at hk; omega
 have e:(l.take q)[k] = l[k]:=List.getElem_take
 rw [e]
 exact h.at_ k hk2⟩
theorem open_wld {v:Value} {d:DataW H} {ps:List MemPlace} {base:Nat} (hval:Value.okWide Tryz.prog W .any base 57 v) (h:DataW.Trod enc Tryz.prog W 0 spare held 57 v d ps) (hk:Rows.uptoBulk d ≤ 1048576) :
  ∃ (n:Int) (sa:Option Addr) (m ca:Nat) (l:List ThI),v = .agg #[.int .i64 n,.slice sa m ca] ∧ ThsAt W sa l ∧ l.length = min m 1000 ∧ m ≤ ca ∧ (sa = none → m = 0 ∧ ca = 0) ∧ (-9223372036854775808 ≤ n ∧ n < 9223372036854775808):=by
 obtain ⟨cs,rfl,hcs⟩:=okWide_struct Tryz.underlying57 hval
 obtain ⟨fuel,hf⟩:=h
 obtain ⟨xs,k,rfl,hx,hl,hxs,hall⟩:=DataW.trod_struct Tryz.underlying57 hf
 rw [cells57] at hcs
 obtain ⟨v0,v1,rfl⟩:∃ v0 v1,cs = #[v0,v1]:=by
  obtain ⟨l⟩:=cs
  match l,hcs with
  | [v0,v1],_=>exact ⟨v0,v1,rfl⟩
 have f0:=hall 0 _ rfl
 have f1:=hall 1 _ rfl
 simp [Value.cells,cells3,cells55] at f0 f1
 have hx2:xs.length = 2:=by simpa using hxs
 rw [List.getElem?_eq_getElem (by omega)] at f0 f1
 obtain ⟨rfl,-⟩:=Prod.mk.inj hx
 simp only [Rows.uptoBulk] at hk
 have b1:=bulk_part (H:=H) (d:=(xs[1]'(by omega)).1) (l:=xs.map (·.1)) (List.mem_map.2 ⟨_,List.getElem_mem _,rfl⟩)
 obtain ⟨n0,e0,_,w0⟩:=DataW.trod_int Tryz.underlying3 f0
 obtain ⟨sa,ca,l,e1,hin,_,hlc,hnil⟩:=open_ths f1 (by omega)
 simp at e0
 subst e0 e1
 refine ⟨n0,sa,l.length,ca,l.take 1000,rfl,hin.first 1000,by rw [List.length_take]; omega,hlc,hnil,i64_rng w0⟩
end
theorem beq_bs (a b:List UInt8):((bs a).toList == (bs b).toList) = (a == b):=by
 have h:∀ l:List UInt8,(bs l).toList = l:=fun l=>ByteArray.toList_mk l
 rw [h,h]
section
variable {w:World} {t:Tbl} {so sr:Option Addr} {co cr:Nat}
set_option maxHeartbeats 4000000 in
theorem rnames_any (h:TblAt w t so sr) (nm:List UInt8):Calls Tryz.prog 124 #[tblV t so sr co cr,.string (bs nm)] w fun e w'=>e = .returned (.bool (decide (nm ∈ filesN t.rows))) ∧ Tc [] w w':=by
 have HH:=hid (fun W (tt:Tc [] w W)=>h.touch tt (by simp) (by simp))
 have hrl:=h.rl
 have HRI:=hid (fun x hx=>(h.ri x hx).2)
 obtain ⟨Wb,hWb⟩:∃ Wb,Wb = w.alloc (.cells #[.int .i64 t.vars,.slice so t.order.length co,.slice sr t.rows.length cr,.int .i64 t.next,.int .u64 (t.nf:Int)] 26):=⟨_,rfl⟩
 have tb:Tc [] w Wb:=by rw [hWb]; exact (Tc.refl [] w).alloc _
 have hrb:Wb.heap[w.heap.size]? = some (.cells #[.int .i64 t.vars,.slice so t.order.length co,.slice sr t.rows.length cr,.int .i64 t.next,.int .u64 (t.nf:Int)] 26 (0,0)):=by rw [hWb]; exact heap_alloc_new w _
 have HBX:=hid (fun W (tt:Tc [] Wb W)=>fun i=>cRw ((tt.block _ (ltB hrb) (by simp)).trans hrb) i)
 have HTB:=hid tb
 have HWB:=hid hWb
 have HFN:=hid (show ∀ u ∈ t.rows.map Prod.snd,fileN u ∈ filesN t.rows from fun u hu=>by
  obtain ⟨x,hx,rfl⟩:=List.mem_map.1 hu
  exact List.mem_map.2 ⟨x,hx,rfl⟩)
 clear h tb hrb hWb
 simp only [tblV] at *
 go_enter Tryz.func124,Tryz.ntmps124
 go_upto_region 1 with fail
 rw [← HWB.out]
 generalize hbx:w.heap.size = bx at *
 clear hbx
 go_wp2_with fail
 go_loopw [5] (fun i W=>∃ k:Nat,k ≤ t.rows.length ∧ i = .int .i64 k ∧ Hid (∀ j (x:Int × Nat),j < k → t.rows[j]? = some x → fileN x.2 ≠ nm) ∧ Hid (Tc [] Wb W)) (fun i _=>t.rows.length - (intOf i).toNat)
 case atStart=>exact ⟨0,Nat.zero_le _,rfl,hid (fun j x hj=>absurd hj (by omega)),hid (Tc.refl _ _)⟩
 case round =>
  obtain ⟨k,hk,rfl,HA,HT⟩:=hrel
  have cb:=HBX.out wr HT.out
  have HTW:=hid (HTB.out.trans HT.out (by simp))
  by_cases hlt:k < t.rows.length
  ·obtain ⟨a,rfl,hab,c0,c1⟩:=(HH.out _ HTW.out).rows.at_ k hlt
   have hf0:=HRI.out _ (List.getElem_mem hlt)
   have HGE:=hid (List.getElem?_eq_getElem hlt)
   clear hab
   generalize t.rows[k] = x at *
   obtain ⟨x0,u⟩:=x
   dsimp only at c0 c1 hf0
   have hki:(k:Int) < (t.rows.length:Int):=by omega
   have HFU:=hid (rfileS hf0)
   go_upto_region 5 with (go_at_call 62; refine (HFU.out wr).mono ?_; rintro e6 w6 ⟨rfl,ht6⟩; have HT6:=hid ht6; clear ht6)
   have hbe:=beq_bs (fileN u) nm
   cases hc:(fileN u == nm) with
   | true =>
    rw [hc] at hbe
    have HR:=hid (show decide (nm ∈ filesN t.rows) = true by
     have h1:fileN u = nm:=by simpa using hc
     rw [← h1]
     exact decide_eq_true (HFN.out u (List.mem_map.2 ⟨(x0,u),List.mem_of_getElem? HGE.out,rfl⟩)))
    clear hc
    go_wp2_with fail
    go_ret
    exact ⟨by rw [HR.out]; rfl,HTW.out.trans HT6.out (by simp)⟩
   | false =>
    rw [hc] at hbe
    have HN:=hid (show fileN u ≠ nm by simpa using hc)
    clear hc
    go_wp2_with fail
    refine ⟨⟨k + 1,hlt,rfl,hid (fun j y hj hy=>?_),hid (HT.out.trans HT6.out (by simp))⟩,by simp [intOf]; omega⟩
    by_cases hjk:j = k
    ·subst hjk
     rw [HGE.out] at hy
     cases hy
     exact HN.out
    ·exact HA.out j y (by omega) hy
  ·obtain rfl:k = t.rows.length:=by omega
   have HR:=hid (show decide (nm ∈ filesN t.rows) = false by
    refine decide_eq_false (fun hm=>?_)
    obtain ⟨x,hx,e⟩:=List.mem_map.1 hm
    obtain ⟨j,hj,rfl⟩:=List.getElem_of_mem hx
    exact HA.out j _ hj (List.getElem?_eq_getElem hj) e)
   go_wp2_with fail
   go_ret
   exact ⟨by rw [HR.out]; rfl,HTW.out⟩
end
def keepsB (t:Tbl) (g:Nat) (nm:List UInt8):Bool:=decide (nm ∈ filesN t.rows) || (decide (0 < g) && (nm == catN g))
def keptF (t:Tbl) (g:Nat) (l:List SFl):List SFl:=l.filter fun e=>keepsB t g e.name
theorem keptF_next {t:Tbl} {g:Nat} {l:List SFl} {k:Nat} {e:SFl} (h:l[k]? = some e):keptF t g (l.take (k + 1)) = keptF t g (l.take k) ++ if keepsB t g e.name = true then [e] else []:=by
 obtain ⟨hk,rfl⟩:=List.getElem?_eq_some_iff.1 h
 unfold keptF
 rw [List.take_succ_eq_append_getElem hk,List.filter_append]
 cases hc:keepsB t g l[k].name <;> simp [hc]
theorem step_file {ops:Array Oper} {o:Oper} {a:Act} {w:World} {K:Act → World → Prop} {Q:Exit → Act → World → Prop} {X:Prop}
  (hg:o.guard = none) (s x:Operand) (hop:o.op = Op.call { callee:=Callee.builtin Builtin.append,args:=#[s,x],argTypes:=#[40,40] })
  (base:Nat) (v:Value) (n:Nat) (xs:List Value) (b:Nat) (c0 c1 c2:Value) (hs:a.eval s = v) (hx:a.eval x = .slice (some ⟨b,0,none⟩) 1 1) (hown:w.ownsRow base 113 3 v n xs) (hb:w.heap[b]? = some (.cells #[c0,c1,c2] 113 (0,0))) (h0:c0.oneCell' = true) (h1:c1.oneCell' = true) (h2:c2.oneCell' = true) (hn:n ≤ 1099511627776) (hbase:base ≤ w.heap.size)
  (hK:∀ v' w',w'.ownsRow base 113 3 v' (n + 1) (xs ++ [c0,c1,c2]) → w.grownBy w' v.ownBlock → Below base w w' → K (a.put o.dst v') w') :
  if Region.wanted o (yielded ops a.tmps) = true then Oper.wp Tryz.prog o a w K Q else X:=by
 have hw:Region.wanted o (yielded ops a.tmps) = true:=by simp [Region.wanted,hg]
 rw [if_pos hw]
 obtain ⟨v',w',hrun,ho,hg2,hbw⟩:=run_file w o.type base v n xs b c0 c1 c2 hown hb h0 h1 h2 hn hbase
 unfold Oper.wp
 simp [execOp,hop,resolve,invoke,builtin,hs,hx,hrun,Result.andThen]
 exact hK v' w' ho hg2 hbw
section
variable {w:World} {fv:Value} {l:List SFl} {b:Int} {t:Tbl} {so sr:Option Addr} {co cr g:Nat}
structure KpW (w W1 W:World) (b:Int) (fv ov:Value) (ob:Nat) (n:Nat) (xs:List Value):Prop where
 row:W.heap[ob]? = some (.cells #[.int .i64 b,ov] 42 (0,0))
 own:W.ownsRow W1.heap.size 113 3 ov n xs
 touch:Tc [ob] W1 W
set_option maxHeartbeats 16000000 in
theorem rkept_any (h:StIn w fv l) (hl:l.length ≤ 1048576) (ht:TblAt w t so sr) (hg:g < 18446744073709551616) :
  Calls Tryz.prog 71 #[.agg #[.int .i64 b,fv],tblV t so sr co cr,.int .u64 (g:Int)] w fun e w'=>∃ sv,e = .returned (.agg #[.int .i64 b,sv]) ∧ w'.ownsRow w.heap.size 113 3 sv (keptF t g l).length ((keptF t g l).flatMap SFl.cells) ∧ Tc [] w w':=by
 obtain ⟨fa,fc,rfl⟩:=h.sl
 have HH:=hid (fun W (tt:Tc [] w W)=>h.below (tt.below (Nat.le_refl _) (by simp)))
 have HN:=hid (fun W (tt:Tc [] w W) nm=>rnames_any (co:=co) (cr:=cr) (ht.touch tt (by simp) (by simp)) nm)
 have HC:=hid (fun W=>rcatS hg W)
 obtain ⟨W1,hW1⟩:∃ W1,W1 = ((((w.alloc (.cells #[.int .i64 b,.slice fa l.length fc] 42)).alloc (.cells #[.int .i64 t.vars,.slice so t.order.length co,.slice sr t.rows.length cr,.int .i64 t.next,.int .u64 (t.nf:Int)] 26)).alloc (.cells #[.int .i64 0,.slice none 0 0] 42)).alloc (.cells #[.int .i64 b,.slice none 0 0] 42)):=⟨_,rfl⟩
 have HW1:=hid hW1
 have H1:Hid (Tc [] w W1 ∧ W1.heap[w.heap.size]? = some (.cells #[.int .i64 b,.slice fa l.length fc] 42 (0,0)) ∧ W1.heap[w.heap.size + 1]? = some (.cells #[.int .i64 t.vars,.slice so t.order.length co,.slice sr t.rows.length cr,.int .i64 t.next,.int .u64 (t.nf:Int)] 26 (0,0)) ∧ W1.heap[w.heap.size + 2]? = some (.cells #[.int .i64 0,.slice none 0 0] 42 (0,0)) ∧ W1.heap[w.heap.size + 3]? = some (.cells #[.int .i64 b,.slice none 0 0] 42 (0,0)) ∧ W1.heap.size = w.heap.size + 4):=hid (by
  obtain ⟨A2,hA2⟩:∃ A2,A2 = (w.alloc (.cells #[.int .i64 b,.slice fa l.length fc] 42)).alloc (.cells #[.int .i64 t.vars,.slice so t.order.length co,.slice sr t.rows.length cr,.int .i64 t.next,.int .u64 (t.nf:Int)] 26):=⟨_,rfl⟩
  have x:=heap_two w (.cells #[.int .i64 b,.slice fa l.length fc] 42) (.cells #[.int .i64 t.vars,.slice so t.order.length co,.slice sr t.rows.length cr,.int .i64 t.next,.int .u64 (t.nf:Int)] 26)
  have y:=heap_two A2 (.cells #[.int .i64 0,.slice none 0 0] 42) (.cells #[.int .i64 b,.slice none 0 0] 42)
  have z:A2.heap.size = w.heap.size + 2:=by rw [hA2]; simp
  have t2:Tc [] A2 ((A2.alloc (.cells #[.int .i64 0,.slice none 0 0] 42)).alloc (.cells #[.int .i64 b,.slice none 0 0] 42)):=((Tc.refl [] A2).alloc _).alloc _
  have t0:Tc [] w A2:=by rw [hA2]; exact ((Tc.refl [] w).alloc _).alloc _
  rw [← hA2] at x
  rw [hW1,← hA2]
  rw [z] at y
  exact ⟨t0.trans t2 (by simp),(t2.block _ (by omega) (by simp)).trans x.1,(t2.block _ (by omega) (by simp)).trans x.2,y.1,y.2,by simp [z]⟩)
 clear hW1 h ht
 simp only [tblV] at *
 go_enter Tryz.func71,Tryz.ntmps71
 go_upto_region 2 with fail
 rw [← HW1.out]
 have HX:=hid (fun W (tt:Tc [] W1 W)=>And.intro (fun i=>cRw ((tt.block _ (ltB H1.out.2.1) (by simp)).trans H1.out.2.1) i) (And.intro (fun i=>cRw ((tt.block _ (ltB H1.out.2.2.1) (by simp)).trans H1.out.2.2.1) i) (And.intro ((tt.block _ (ltB H1.out.2.2.2.1) (by simp)).trans H1.out.2.2.2.1) ((tt.block _ (ltB H1.out.2.2.2.2.1) (by simp)).trans H1.out.2.2.2.2.1))))
 rw [show w.heap.size + 1 + 1 + 1 = w.heap.size + 3 from rfl,show w.heap.size + 1 + 1 = w.heap.size + 2 from rfl]
 have hsz1:=H1.out.2.2.2.2.2
 generalize hbx:w.heap.size = bx at *
 have HBN:=hid hbx
 clear hbx HW1
 go_upto_region 3 with (go_at_call 69; refine (HC.out W1).mono ?_; rintro e w2 ⟨rfl,ht2⟩; have HT2:=hid ht2; clear ht2)
 obtain ⟨x0,x1,x2,x3⟩:=HX.out w2 HT2.out
 have HT0:=hid (H1.out.1.trans HT2.out (by simp))
 have hsz2:bx + 4 ≤ w2.heap.size:=by have:=HT2.out.size; omega
 have HK0:=hid (show KpW w w2 w2 b (.slice fa l.length fc) (.slice none 0 0) (bx + 3) 0 [] from ⟨x3,World.ownsRow_nil _ _ _ _,Tc.refl _ _⟩)
 have HY:=hid (fun W (tt:Tc [bx + 3] w2 W)=>(⟨fun i=>cRw ((tt.block bx (by omega) (by simp)).trans ((HT2.out.block _ (ltB H1.out.2.1) (by simp)).trans H1.out.2.1)) i,fun i=>cRw ((tt.block (bx + 1) (by omega) (by simp)).trans ((HT2.out.block _ (ltB H1.out.2.2.1) (by simp)).trans H1.out.2.2.1)) i,(tt.block (bx + 2) (by omega) (by simp)).trans ((HT2.out.block _ (ltB H1.out.2.2.2.1) (by simp)).trans H1.out.2.2.2.1),HT0.out.trans tt (fun y hy=>by
  rw [List.mem_singleton] at hy
  exact .inr (by have:=HBN.out; omega))⟩:(∀ i,W.cell? ⟨bx,i,none⟩ = _) ∧ (∀ i,W.cell? ⟨bx + 1,i,none⟩ = _) ∧ W.heap[bx + 2]? = _ ∧ Tc [] w W))
 clear x0 x1 x2 x3 hsz1
 go_wp2_with fail
 go_loopw [9] (fun i W=>∃ (k:Nat) (ov:Value),k ≤ l.length ∧ i = .int .i64 k ∧ Hid (KpW w w2 W b (.slice fa l.length fc) ov (bx + 3) (keptF t g (l.take k)).length ((keptF t g (l.take k)).flatMap SFl.cells))) (fun i _=>l.length - (intOf i).toNat)
 case atStart=>exact ⟨0,_,Nat.zero_le _,rfl,HK0⟩
 case round =>
  obtain ⟨k,ov,hk,rfl,HK⟩:=hrel
  obtain ⟨va,vc,rfl⟩:=oSC HK.out.own
  obtain ⟨x0,x1,x2,htw⟩:=HY.out wr HK.out.touch
  have HTW:=hid htw
  clear htw
  have x3:=cRw HK.out.row
  by_cases hlt:k < l.length
  ·obtain ⟨e,he⟩:∃ e,e = l[k]:=⟨_,rfl⟩
   have hge:l[k]? = some e:=by rw [he]; exact List.getElem?_eq_getElem hlt
   obtain ⟨a,c',hfa,hal,c0',c1,c2,hbl⟩:=(HH.out wr HTW.out).at_ k e hge
   injection hfa with e1 e2 e3
   subst e1
   subst e3
   obtain ⟨ya,yc,hsv⟩:=hbl.sl
   have HCE:Hid (∀ W,Tc [] w W → W.cell? (a.add (k * 3)) = some (.string (bs e.name)) ∧ W.cell? ⟨(a.add (k * 3)).block,(a.add (k * 3)).off + 1,none⟩ = some (.bool e.file.shut) ∧ W.cell? ⟨(a.add (k * 3)).block,(a.add (k * 3)).off + 2,none⟩ = some (.slice ya e.file.blocks.length yc)):=hid (fun W tt=>by
    obtain ⟨a',c',hfa,_,c0,c1,c2,_⟩:=(HH.out W tt).at_ k e hge
    injection hfa with e1 e2 e3
    injection e1 with e1
    subst e1
    rw [hsv] at c2
    exact ⟨c0,c1,c2⟩)
   have HNX:=hid (keptF_next (t:=t) (g:=g) hge)
   have HSV:=hid hsv
   have hki:(k:Int) < (l.length:Int):=by omega
   clear c0' c1 c2 hbl hal he hge hsv
   obtain ⟨c0,c1,c2⟩:=HCE.out wr HTW.out
   have HS6:=hid (fun W (tt:Tc [] wr W)=>(by
    obtain ⟨y0,y1,y2,y3⟩:=HY.out W (HK.out.touch.trans tt (by simp))
    exact ⟨⟨y1 0,y1 1,y1 2,y1 3,y1 4⟩,y0 1,(HCE.out W (HTW.out.trans tt (by simp))).1⟩:(W.cell? ⟨bx + 1,0,none⟩ = some (.int .i64 t.vars) ∧ W.cell? ⟨bx + 1,1,none⟩ = some (.slice so t.order.length co) ∧ W.cell? ⟨bx + 1,2,none⟩ = some (.slice sr t.rows.length cr) ∧ W.cell? ⟨bx + 1,3,none⟩ = some (.int .i64 t.next) ∧ W.cell? ⟨bx + 1,4,none⟩ = some (.int .u64 (t.nf:Int))) ∧ W.cell? ⟨bx,1,none⟩ = some (.slice (some a) l.length fc) ∧ W.cell? (a.add (k * 3)) = some (.string (bs e.name))))
   go_wp2_with fail
   go_region_held3 (fun W=>(W.cell? ⟨bx + 1,0,none⟩ = some (.int .i64 t.vars) ∧ W.cell? ⟨bx + 1,1,none⟩ = some (.slice so t.order.length co) ∧ W.cell? ⟨bx + 1,2,none⟩ = some (.slice sr t.rows.length cr) ∧ W.cell? ⟨bx + 1,3,none⟩ = some (.int .i64 t.next) ∧ W.cell? ⟨bx + 1,4,none⟩ = some (.int .u64 (t.nf:Int))) ∧ W.cell? ⟨bx,1,none⟩ = some (.slice (some a) l.length fc) ∧ W.cell? (a.add (k * 3)) = some (.string (bs e.name))) (go_keep)
    (first | (go_at_call 124; refine (HN.out _ HTW.out.drew e.name).mono ?_; rintro e4 w4 ⟨rfl,ht4⟩; have HT4:=hid ((Tc.refl [] wr).drew.trans ht4 (by simp)); have zz:=HS6.out w4 HT4.out; clear ht4))
   obtain ⟨XS,hXS⟩:∃ XS,XS = (keptF t g (l.take k)).flatMap SFl.cells:=⟨_,rfl⟩
   obtain ⟨N,hN⟩:∃ N,N = (keptF t g (l.take k)).length:=⟨_,rfl⟩
   have hNl:N ≤ 1048576:=by
    have h1:N ≤ (l.take k).length:=by rw [hN]; exact List.length_filter_le _ _
    rw [List.length_take] at h1
    omega
   rw [← hXS,← hN] at HK
   have HT4w:=hid (HTW.out.trans HT4.out (by simp))
   have HTK4:=hid (HK.out.touch.trans HT4.out (by simp))
   have r4:=(HT4.out.block _ (ltB HK.out.row) (by simp)).trans HK.out.row
   have HR4:=hid r4
   have HOW:=hid (fun W (tt:Tc [] w4 W)=>oTG (oTG HK.out.own HT4.out (fun y _ hy=>by cases hy)) tt (fun y _ hy=>by cases hy))
   have HXN:=hid (And.intro hXS hN)
   have HAP:=hid (fun W (tt:Tc [] w4 W) w5 (b5:Below w2.heap.size W w5)=>(b5.block (bx + 3) (by omega)).trans ((tt.block _ (ltB HR4.out) (by simp)).trans HR4.out))
   clear hXS hN x0 x1 x2 x3 c0 c1 c2 zz
   obtain ⟨y0,y1,_,_⟩:=HY.out w4 HTK4.out
   obtain ⟨c0,c1,c2⟩:=HCE.out w4 HT4w.out
   have y3:=cRw r4
   have u3:=uRw r4
   have hob:bx + 3 < w4.heap.size:=ltB r4
   have n0:=World.new_ne w4 _ c0
   have n1:=World.new_ne w4 _ c1
   have n2:=World.new_ne w4 _ c2
   have n3:=World.new_ne w4 _ (y3 1)
   have n4:=World.new_ne w4 _ (y0 1)
   have hbe:=beq_bs e.name (catN g)
   have HKB:=hid (show keepsB t g e.name = (decide (e.name ∈ filesN t.rows) || (decide (0 < g) && (e.name == catN g))) from rfl)
   have hw24:w2.heap.size ≤ w4.heap.size:=HTK4.out.size
   clear r4
   generalize decide (e.name ∈ filesN t.rows) = d at *
   have HFIN:=hid (fun W' v5 w5 (tt:Tc [] w4 W') (o5:w5.ownsRow w2.heap.size 113 3 v5 (N + 1) (XS ++ [Value.string (bs e.name),.bool e.file.shut,.slice ya e.file.blocks.length yc])) (b5:Below w2.heap.size W' w5) (hkb:keepsB t g e.name = true)=>(by
    have r5:=HAP.out W' tt w5 b5
    have hs:Tc [bx + 3] w5 (w5.setCell ⟨bx + 3,1,none⟩ v5):=(Tc.refl _ w5).setCell (.inl (by simp)) _
    refine ⟨Lib.heap_setCell_same r5 _,?_,((HTK4.out.trans tt (by simp)).underB b5 b5.size).trans hs (fun y hy=>.inl hy)⟩
    have e1:keptF t g (l.take (k + 1)) = keptF t g (l.take k) ++ [e]:=by rw [HNX.out,if_pos hkb]
    rw [e1,List.length_append,List.flatMap_append,← HXN.out.1,← HXN.out.2]
    refine oTG ?_ hs (fun y hy hx=>?_)
    ·have h9:=HSV.out
     simpa [SFl.cells,encStr,bs,h9] using o5
    ·rw [List.mem_singleton] at hx
     have:=(o5.lt y hy).1
     omega:KpW w w2 (w5.setCell ⟨bx + 3,1,none⟩ v5) b (.slice (some a) l.length fc) v5 (bx + 3) (keptF t g (l.take (k + 1))).length ((keptF t g (l.take (k + 1))).flatMap SFl.cells)))
   have HPASS:=hid (fun (hkb:keepsB t g e.name = false)=>(by
    have e1:keptF t g (l.take (k + 1)) = keptF t g (l.take k):=by rw [HNX.out,if_neg (by rw [hkb]; decide),List.append_nil]
    rw [e1,← HXN.out.1,← HXN.out.2]
    exact ⟨HR4.out,HOW.out w4 (Tc.refl _ _),HTK4.out⟩:KpW w w2 w4 b (.slice (some a) l.length fc) (.slice va N vc) (bx + 3) (keptF t g (l.take (k + 1))).length ((keptF t g (l.take (k + 1))).flatMap SFl.cells)))
   cases d with
   | true =>
    have HKT:=hid (show keepsB t g e.name = true by rw [HKB.out]; rfl)
    clear hbe
    go_upto_region 8 with fail
    go_region_law (first
     |(refine step_file rfl _ _ rfl w2.heap.size (.slice va N vc) N XS w4.heap.size (.string (bs e.name)) (.bool e.file.shut) (.slice ya e.file.blocks.length yc) rfl rfl (HOW.out _ (((Tc.refl [] w4).alloc _).drew)) (by first | exact heap_alloc_new _ _ | (simp; done)) rfl rfl rfl (by omega) (by first | (simp; omega) | (show w2.heap.size ≤ (w4.alloc _).heap.size; simp; omega)) ?_; intro v5 w5 o5 g5 b5; have hT5:=hid (show Tc [] w4 ((w4.alloc (.cells #[.string (bs e.name),.bool e.file.shut,.slice ya e.file.blocks.length yc] 113)).drew) from ((Tc.refl [] w4).alloc _).drew); have r5:=HAP.out _ hT5.out w5 b5; have c5:=(fun i=>cRw r5 i); have u5:=(fun i=>uRw r5 i); have HF5:=hid (HFIN.out _ v5 w5 hT5.out o5 b5 HKT.out); obtain ⟨a5,s5,e5⟩:=oSC o5; subst e5; clear o5 g5 b5 r5))
    all_goals
     go_wp2_with fail
     exact ⟨⟨k + 1,_,hlt,rfl,HF5⟩,by simp [intOf]; omega⟩
   | false =>
    by_cases hg0:0 < g
    ·have hgi:(0:Int) < (g:Int):=by omega
     cases hc:(e.name == catN g) with
     | true =>
      rw [hc] at hbe
      have HKT:=hid (show keepsB t g e.name = true by rw [HKB.out,hc]; simpa using hg0)
      clear hc
      go_upto_region 8 with fail
      go_region_law (first
       |(refine step_file rfl _ _ rfl w2.heap.size (.slice va N vc) N XS w4.heap.size (.string (bs e.name)) (.bool e.file.shut) (.slice ya e.file.blocks.length yc) rfl rfl (HOW.out _ (((Tc.refl [] w4).alloc _).drew)) (by first | exact heap_alloc_new _ _ | (simp; done)) rfl rfl rfl (by omega) (by first | (simp; omega) | (show w2.heap.size ≤ (w4.alloc _).heap.size; simp; omega)) ?_; intro v5 w5 o5 g5 b5; have hT5:=hid (show Tc [] w4 ((w4.alloc (.cells #[.string (bs e.name),.bool e.file.shut,.slice ya e.file.blocks.length yc] 113)).drew) from ((Tc.refl [] w4).alloc _).drew); have r5:=HAP.out _ hT5.out w5 b5; have c5:=(fun i=>cRw r5 i); have u5:=(fun i=>uRw r5 i); have HF5:=hid (HFIN.out _ v5 w5 hT5.out o5 b5 HKT.out); obtain ⟨a5,s5,e5⟩:=oSC o5; subst e5; clear o5 g5 b5 r5))
      all_goals
       go_wp2_with fail
       exact ⟨⟨k + 1,_,hlt,rfl,HF5⟩,by simp [intOf]; omega⟩
     | false =>
      rw [hc] at hbe
      have HKF:=hid (show keepsB t g e.name = false by rw [HKB.out,hc]; simp)
      clear hc
      go_wp2_with fail
      exact ⟨⟨k + 1,_,hlt,rfl,hid (HPASS.out HKF.out)⟩,by simp [intOf]; omega⟩
    ·have hgi:¬ (0:Int) < (g:Int):=by omega
     have HKF:=hid (show keepsB t g e.name = false by rw [HKB.out]; simp; omega)
     clear hbe
     go_wp2_with fail
     exact ⟨⟨k + 1,_,hlt,rfl,hid (HPASS.out HKF.out)⟩,by simp [intOf]; omega⟩
  ·obtain rfl:k = l.length:=by omega
   have htk:l.take l.length = l:=List.take_length
   rw [htk] at HK
   have y3:=cRw HK.out.row
   have y2:=cRw x2
   have z2:=uRw x2
   have HX2:=hid x2
   clear htk x1 x2
   go_wp2_with fail
   have f1:=Lib.heap_setCell_same (i:=1) (Lib.heap_setCell_same (i:=0) HX2.out (.int .i64 b)) (.slice va (keptF t g l).length vc)
   have g0:=cRw f1 0
   have g1:=cRw f1 1
   have hbn:=HBN.out
   have t9:Tc [bx + 2] wr ((wr.setCell ⟨bx + 2,0,none⟩ (.int .i64 b)).setCell ⟨bx + 2,1,none⟩ (.slice va (keptF t g l).length vc)):=((Tc.refl _ wr).setCell (.inl (by simp)) _).setCell (.inl (by simp)) _
   refine bodyPost_ret (v:=.agg #[.int .i64 b,.slice va (keptF t g l).length vc]) (by simp [results,Tryz.results71,go_sem,g0,g1]) rfl ⟨_,rfl,?_,HTW.out.trans t9 (fun y hy=>.inr (by rw [List.mem_singleton] at hy; omega))⟩
   refine oTG (own_lower HK.out.own (by omega)) t9 (fun y hy hx=>?_)
   rw [List.mem_singleton] at hx
   have:=(HK.out.own.lt y hy).1
   omega
end
end Go.Proofs.YthehcjjckabljaaGreatDoor
