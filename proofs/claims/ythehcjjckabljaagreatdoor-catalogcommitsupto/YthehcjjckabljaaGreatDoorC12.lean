import Derived.Deep.OwnRows
import Derived.Laws.MakeOwn
import Derived.BigQuiet
import Derived.Deep.RegionLaw
import Derived.Deep.DeepCutAuto
import Derived.Test.YthehcjjckabljaaGreatDoorC11
namespace Go.Proofs.YthehcjjckabljaaGreatDoor
open Go.RowKit Go.Deep
set_option maxRecDepth 100000
set_option linter.unusedSimpArgs false
set_option linter.unusedVariables false
structure IntsAt (w:World) (sa:Option Addr) (l:List Int):Prop where
 at_:∀ k (hk:k < l.length),∃ a,sa = some a ∧ a.block < w.heap.size ∧ w.cell? (a.add k) = some (.int .i64 l[k])
theorem IntsAt.touch {w w':World} {sa:Option Addr} {l:List Int} {G:List Nat} (h:IntsAt w sa l) (t:Tc G w w') (hG:∀ a,sa = some a → a.block ∉ G):IntsAt w' sa l:=
 ⟨fun k hk=>by
  obtain ⟨a,e,hb,hc⟩:=h.at_ k hk
  exact ⟨a,e,Nat.lt_of_lt_of_le hb t.size,(t.cell (p:=a.add k) (by rw [add_block]; exact hb) (by rw [add_block]; exact hG a e)).trans hc⟩⟩
theorem IntsAt.nil (w:World) (sa:Option Addr):IntsAt w sa []:=⟨fun k hk=>absurd hk (by simp)⟩
def ordL (vars:Int):List Int → List Int → Bool
 | _,[]=>true
 | seen,v :: r=>if v < 0 ∨ vars ≤ v ∨ v ∈ seen then false else ordL vars (seen ++ [v]) r
def isOrderB (o:List Int) (vars:Int):Bool:=if 65536 < vars ∨ (o.length:Int) ≠ vars then false else ordL vars [] o
def riseL (next:Int) (nf:Nat):Int → List (Int × Nat) → Bool
 | _,[]=>true
 | last,r :: l=>if r.1 ≤ last ∨ next ≤ r.1 ∨ nf ≤ r.2 then false else riseL next nf r.1 l
def riseB (next:Int) (nf:Nat) (l:List (Int × Nat)):Bool:=if 1024 < l.length then false else riseL next nf 0 l
structure Tbl where
 vars:Int
 order:List Int
 rows:List (Int × Nat)
 next:Int
 nf:Nat
def fmB (t:Tbl):Bool:=decide (1 ≤ t.next) && decide (t.next ≤ 2147483648) && isOrderB t.order t.vars && riseB t.next t.nf t.rows
theorem infoB:(Tryz.prog.info? 4).map (fun i=>(i.zero,i.size,i.bytes)) = some (some (.bool false),1,1):=by kernel_rfl
theorem make_seen (n:Nat) (hn:n ≤ 65536) (W:World):(Instr.makeSlice 75 (.int .i64 (n:Int)) (.int .i64 (n:Int))).run Tryz.prog W = .ok (.slice (some ⟨W.heap.size,0,none⟩) n n) (W.alloc (.cells (madeCells #[.bool false] n) 4)):=
 run_make_row' (P:=Tryz.prog) 75 4 (.bool false) 1 Tryz.underlying75 infoB rfl .i64 .i64 n (by omega) (by omega) W
def BitsAt (w:World) (g n:Nat) (seen:List Int):Prop:=∃ cur,w.heap[g]? = some (.cells cur 4 (0,0)) ∧ cur.size = n ∧ ∀ i,i < n → cur[i]? = some (.bool (decide ((i:Int) ∈ seen)))
section
variable {w w':World} {g n:Nat} {seen:List Int}
theorem BitsAt.made (n:Nat) (w:World):BitsAt (w.alloc (.cells (madeCells #[.bool false] n) 4)) w.heap.size n []:=
 ⟨_,heap_alloc_new w _,by simp [size_madeCells],fun i hi=>by rw [← Array.getElem?_toList,toList_madeCells_one]; simp [hi]⟩
theorem BitsAt.cell (h:BitsAt w g n seen) {i:Nat} (hi:i < n):w.cell? ⟨g,i,none⟩ = some (.bool (decide ((i:Int) ∈ seen))):=by
 obtain ⟨cur,h1,_,h3⟩:=h
 rw [cRw h1,h3 i hi]
theorem BitsAt.free (h:BitsAt w g n seen) (i:Nat):w.frozen? ⟨g,i,none⟩ = false:=by
 obtain ⟨cur,h1,_⟩:=h
 exact uRw h1 i
theorem BitsAt.set (h:BitsAt w g n seen) {i:Nat} (hi:i < n):BitsAt (w.setCell ⟨g,i,none⟩ (.bool true)) g n (seen ++ [(i:Int)]):=by
 obtain ⟨cur,h1,h2,h3⟩:=h
 refine ⟨_,sRw h1 i _,by simpa using h2,fun j hj=>?_⟩
 rw [Array.getElem?_setIfInBounds]
 by_cases e:i = j
 ·subst e
  simp [h2,hi]
 ·rw [if_neg e,h3 j hj]
  have:((j:Int) ∈ seen ++ [(i:Int)]) ↔ ((j:Int) ∈ seen):=by
   rw [List.mem_append,List.mem_singleton]
   exact ⟨fun h=>h.elim id (fun h=>by omega),.inl⟩
  rw [decide_eq_decide.2 this]
set_option maxHeartbeats 2000000 in
theorem isOrder_any {sa:Option Addr} {c:Nat} {o:List Int} (h:IntsAt w sa o) (hl:o.length ≤ 1099511627776) (vars:Int) (hv:-9223372036854775808 ≤ vars ∧ vars < 9223372036854775808) :
  Calls Tryz.prog 35 #[.slice sa o.length c,.int .i64 vars] w fun e w'=>e = .returned (.bool (isOrderB o vars)) ∧ Tc [] w w':=by
 have HI:=hid (fun W (t:Tc [] w W)=>h.touch t (by simp))
 clear h
 by_cases h1:65536 < vars
 ·have HR:=hid (show isOrderB o vars = false by unfold isOrderB; rw [if_pos (.inl h1)])
  go_enter Tryz.func35,Tryz.ntmps35
  go_wp2_with fail
  go_ret
  exact ⟨by rw [HR.out]; rfl,Tc.refl _ _⟩
 ·by_cases h2:(o.length:Int) = vars
  ·subst h2
   have hlt:o.length ≤ 65536:=by omega
   have HR:=hid (show isOrderB o o.length = ordL o.length [] o by unfold isOrderB; rw [if_neg (by simp; omega)])
   have hmk:=make_seen o.length hlt
   have HB:=hid (BitsAt.made o.length w)
   have HT0:=hid (((Tc.refl [] w).alloc (.cells (madeCells #[.bool false] o.length) 4)))
   generalize madeCells #[Value.bool false] o.length = cells0 at *
   obtain ⟨W0,hW0⟩:∃ W0,W0 = w.alloc (.cells cells0 4):=⟨_,rfl⟩
   have hmk0:=hmk w
   rw [← hW0] at hmk0 HB HT0
   obtain ⟨g,hg⟩:∃ g,g = w.heap.size:=⟨_,rfl⟩
   rw [← hg] at hmk0 HB
   have HG:=hid hg
   clear hmk hW0 hg
   go_enter Tryz.func35,Tryz.ntmps35
   go_wp2_with fail
   go_loopw [20] (fun i W=>∃ k:Nat,k ≤ o.length ∧ i = .int .i64 k ∧ ordL o.length [] o = ordL o.length (o.take k) (o.drop k) ∧ BitsAt W g o.length (o.take k) ∧ Tc [] w W) (fun i _=>o.length - (intOf i).toNat)
   case atStart=>exact ⟨0,Nat.zero_le _,rfl,rfl,HB.out,HT0.out⟩
   case round =>
    obtain ⟨k,hk,rfl,heq,hb,ht⟩:=hrel
    have HBk:=hid hb
    have HT:=hid ht
    have HEQ:=hid heq
    by_cases hltk:k < o.length
    ·obtain ⟨a,rfl,hab,hc⟩:=(HI.out _ ht).at_ k hltk
     have hd:o.drop k = o[k] :: o.drop (k + 1):=List.drop_eq_getElem_cons hltk
     have htk:o.take (k + 1) = o.take k ++ [o[k]]:=List.take_succ_eq_append_getElem hltk
     have HD:=hid hd
     have HTK:=hid htk
     clear heq hb ht hd htk hab
     generalize o[k] = v at *
     by_cases hneg:v < 0
     ·have HF:=hid (show isOrderB o o.length = false by rw [HR.out,HEQ.out,HD.out]; show (if _ then _ else _) = _; rw [if_pos (.inl hneg)])
      go_wp2_with fail
      go_ret
      exact ⟨by rw [HF.out]; rfl,HT.out⟩
     ·by_cases hbig:(o.length:Int) ≤ v
      ·have HF:=hid (show isOrderB o o.length = false by rw [HR.out,HEQ.out,HD.out]; show (if _ then _ else _) = _; rw [if_pos (.inr (.inl hbig))])
       go_wp2_with fail
       go_ret
       exact ⟨by rw [HF.out]; rfl,HT.out⟩
      ·obtain ⟨q,rfl⟩:∃ q:Nat,v = (q:Int):=⟨v.toNat,by omega⟩
       have hq:q < o.length:=by omega
       have cq:=HBk.out.cell hq
       have uq:=HBk.out.free q
       by_cases hin:(q:Int) ∈ o.take k
       ·have HF:=hid (show isOrderB o o.length = false by rw [HR.out,HEQ.out,HD.out]; show (if _ then _ else _) = _; rw [if_pos (.inr (.inr hin))])
        rw [decide_eq_true hin] at cq
        clear hin
        go_wp2_with fail
        go_ret
        exact ⟨by rw [HF.out]; rfl,HT.out⟩
       ·have HF:=hid (show ordL o.length [] o = ordL o.length (o.take (k + 1)) (o.drop (k + 1)) by
         rw [HEQ.out,HD.out,HTK.out]
         show (if _ then _ else _) = _
         rw [if_neg (by simp only [not_or]; exact ⟨hneg,hbig,hin⟩)])
        rw [decide_eq_false hin] at cq
        clear hin
        go_wp2_with fail
        refine ⟨⟨k + 1,hltk,rfl,HF.out,by rw [HTK.out]; exact HBk.out.set hq,HT.out.setCell (.inr (by rw [HG.out]; exact Nat.le_refl _)) _⟩,by simp [intOf]; omega⟩
    ·obtain rfl:k = o.length:=by omega
     have HF:=hid (show isOrderB o o.length = true by rw [HR.out,HEQ.out,List.drop_length]; rfl)
     clear heq hb ht
     go_wp2_with fail
     go_ret
     exact ⟨by rw [HF.out]; rfl,HT.out⟩
  ·have HR:=hid (show isOrderB o vars = false by unfold isOrderB; rw [if_pos (.inr h2)])
   have h2':¬ vars = (o.length:Int):=fun h=>h2 h.symm
   go_enter Tryz.func35,Tryz.ntmps35
   go_wp2_with fail
   go_ret
   exact ⟨by rw [HR.out]; rfl,Tc.refl _ _⟩
def tblV (t:Tbl) (so sr:Option Addr) (co cr:Nat):Value:=.agg #[.int .i64 t.vars,.slice so t.order.length co,.slice sr t.rows.length cr,.int .i64 t.next,.int .u64 (t.nf:Int)]
def tblC (t:Tbl) (so sr:Option Addr) (co cr:Nat):Array Value:=#[.int .i64 t.vars,.slice so t.order.length co,.slice sr t.rows.length cr,.int .i64 t.next,.int .u64 (t.nf:Int)]
structure TblAt (w:World) (t:Tbl) (so sr:Option Addr):Prop where
 ints:IntsAt w so t.order
 rows:RowsAt w sr t.rows
 ol:t.order.length ≤ 1048576
 rl:t.rows.length ≤ 1048576
 vars:-9223372036854775808 ≤ t.vars ∧ t.vars < 9223372036854775808
 next:-9223372036854775808 ≤ t.next ∧ t.next < 9223372036854775808
 nf:t.nf < 18446744073709551616
 oi:∀ x ∈ t.order,-9223372036854775808 ≤ x ∧ x < 9223372036854775808
 ri:∀ x ∈ t.rows,(-9223372036854775808 ≤ x.1 ∧ x.1 < 9223372036854775808) ∧ x.2 < 18446744073709551616
theorem TblAt.touch {t:Tbl} {so sr:Option Addr} {G:List Nat} (h:TblAt w t so sr) (ht:Tc G w w') (h1:∀ a,so = some a → a.block ∉ G) (h2:∀ a,sr = some a → a.block ∉ G):TblAt w' t so sr:=
 ⟨h.ints.touch ht h1,h.rows.touch ht h2,h.ol,h.rl,h.vars,h.next,h.nf,h.oi,h.ri⟩
set_option maxHeartbeats 2000000 in
theorem rise_any {t:Tbl} {so sr:Option Addr} {co cr:Nat} (h:TblAt w t so sr) :
  Calls Tryz.prog 36 #[tblV t so sr co cr] w fun e w'=>e = .returned (.bool (riseB t.next t.nf t.rows)) ∧ Tc [] w w':=by
 have HI:=hid (fun W (ht:Tc [] w W)=>h.rows.touch ht (by simp))
 have hl:=h.rl
 clear h
 obtain ⟨vars,order,rows,next,nf⟩:=t
 simp only [tblV] at *
 by_cases h1:1024 < rows.length
 ·have HR:=hid (show riseB next nf rows = false by unfold riseB; rw [if_pos h1])
  have h1i:(1024:Int) < (rows.length:Int):=by omega
  go_enter Tryz.func36,Tryz.ntmps36
  go_wp2_with fail
  go_ret
  exact ⟨by rw [HR.out]; rfl,(Tc.refl _ _).alloc _⟩
 ·have HR:=hid (show riseB next nf rows = riseL next nf 0 rows by unfold riseB; rw [if_neg h1])
  have h1i:¬ (1024:Int) < (rows.length:Int):=by omega
  have HBX:=hid (heap_alloc_new w (.cells #[.int .i64 vars,.slice so order.length co,.slice sr rows.length cr,.int .i64 next,.int .u64 (nf:Int)] 26))
  have HT0:=hid ((Tc.refl [] w).alloc (.cells #[.int .i64 vars,.slice so order.length co,.slice sr rows.length cr,.int .i64 next,.int .u64 (nf:Int)] 26))
  have HBXT:=hid (fun W (ht:Tc [] (w.alloc (.cells #[.int .i64 vars,.slice so order.length co,.slice sr rows.length cr,.int .i64 next,.int .u64 (nf:Int)] 26)) W)=>fun i=>cRw ((ht.block w.heap.size (ltB HBX.out) (by simp)).trans HBX.out) i)
  go_enter Tryz.func36,Tryz.ntmps36
  go_wp2_with fail
  go_loopw [3,13] (fun m i W=>∃ (k:Nat) (last:Int),k ≤ rows.length ∧ i = .int .i64 k ∧ m = .int .i64 last ∧ riseL next nf 0 rows = riseL next nf last (rows.drop k) ∧ Tc [] (w.alloc (.cells #[.int .i64 vars,.slice so order.length co,.slice sr rows.length cr,.int .i64 next,.int .u64 (nf:Int)] 26)) W) (fun _ i _=>rows.length - (intOf i).toNat)
  case atStart=>exact ⟨0,0,Nat.zero_le _,rfl,rfl,rfl,Tc.refl _ _⟩
  case round =>
   obtain ⟨k,last,hk,rfl,rfl,heq,ht⟩:=hrel
   have HT:=hid ht
   have HT2:=hid (HT0.out.trans ht (by simp))
   have HEQ:=hid heq
   have cb:=HBXT.out _ ht
   have hlw:w.heap.size < wr.heap.size:=Nat.lt_of_lt_of_le (ltB HBX.out) ht.size
   clear heq ht
   by_cases hlt:k < rows.length
   ·obtain ⟨a,rfl,hab,c0,c1⟩:=(HI.out wr HT2.out).at_ k hlt
    have hd:rows.drop k = rows[k] :: rows.drop (k + 1):=List.drop_eq_getElem_cons hlt
    have HD:=hid hd
    clear hd hab
    generalize rows[k] = x at *
    obtain ⟨hh,u⟩:=x
    dsimp only at c0 c1
    have HU:∀ b:Bool,(if hh ≤ last ∨ next ≤ hh ∨ nf ≤ u then false else riseL next nf hh (rows.drop (k + 1))) = b → Hid (riseL next nf last (rows.drop k) = b):=fun b hb=>hid (by rw [HD.out]; exact hb)
    have HU:=hid HU
    by_cases hle:hh ≤ last
    ·have HF:=hid (show riseB next nf rows = false by rw [HR.out,HEQ.out,(HU.out false (by rw [if_pos (.inl hle)])).out])
     go_wp2_with fail
     go_ret
     exact ⟨by rw [HF.out]; rfl,HT2.out.alloc _⟩
    ·by_cases hnx:next ≤ hh
     ·have HF:=hid (show riseB next nf rows = false by rw [HR.out,HEQ.out,(HU.out false (by rw [if_pos (.inr (.inl hnx))])).out])
      go_wp2_with fail
      go_ret
      exact ⟨by rw [HF.out]; rfl,HT2.out.alloc _⟩
     ·by_cases hfn:nf ≤ u
      ·have HF:=hid (show riseB next nf rows = false by rw [HR.out,HEQ.out,(HU.out false (by rw [if_pos (.inr (.inr hfn))])).out])
       have hfi:(nf:Int) ≤ (u:Int):=by omega
       go_wp2_with fail
       go_ret
       exact ⟨by rw [HF.out]; rfl,HT2.out.alloc _⟩
      ·have HF:=hid (show riseL next nf 0 rows = riseL next nf hh (rows.drop (k + 1)) by rw [HEQ.out,(HU.out _ (if_neg (by simp only [not_or]; exact ⟨hle,hnx,hfn⟩))).out])
       have hfi:¬ (nf:Int) ≤ (u:Int):=by omega
       go_wp2_with fail
       exact ⟨⟨k + 1,hh,hlt,rfl,rfl,HF.out,HT.out.alloc _⟩,by simp [intOf]; omega⟩
   ·obtain rfl:k = rows.length:=by omega
    have HF:=hid (show riseB next nf rows = true by rw [HR.out,HEQ.out,List.drop_length]; rfl)
    go_wp2_with fail
    go_ret
    exact ⟨by rw [HF.out]; rfl,HT2.out⟩
end
section
variable {w w':World}
set_option maxHeartbeats 2000000 in
theorem formed_any {t:Tbl} {so sr:Option Addr} {co cr:Nat} (h:TblAt w t so sr) :
  Calls Tryz.prog 11 #[tblV t so sr co cr] w fun e w'=>e = .returned (.bool (fmB t)) ∧ Tc [] w w':=by
 have HI:=hid (fun W (ht:Tc [] w W)=>isOrder_any (c:=co) (h.ints.touch ht (by simp)) (by have:=h.ol; omega) t.vars h.vars)
 have HR:=hid (fun W (ht:Tc [] w W)=>rise_any (co:=co) (cr:=cr) (h.touch ht (by simp) (by simp)))
 have hn:=h.next
 have HF:=hid (show fmB t = (decide (1 ≤ t.next) && decide (t.next ≤ 2147483648) && isOrderB t.order t.vars && riseB t.next t.nf t.rows) from rfl)
 clear h
 have HT0:=hid ((Tc.refl [] w).alloc (.cells #[.int .i64 t.vars,.slice so t.order.length co,.slice sr t.rows.length cr,.int .i64 t.next,.int .u64 (t.nf:Int)] 26))
 have HB:=hid (heap_alloc_new w (.cells #[.int .i64 t.vars,.slice so t.order.length co,.slice sr t.rows.length cr,.int .i64 t.next,.int .u64 (t.nf:Int)] 26))
 obtain ⟨vars,order,rows,next,nf⟩:=t
 simp only [tblV] at *
 generalize isOrderB order vars = bo at *
 generalize riseB next nf rows = br at *
 by_cases h1:1 ≤ next
 ·by_cases h2:next ≤ 2147483648
  ·cases bo with
   | true =>
    have HX:=hid (show fmB ⟨vars,order,rows,next,nf⟩ = br by rw [HF.out]; simp [h1,h2])
    go_enter Tryz.func11,Tryz.ntmps11
    go_wp2_with (first
     |(go_at_call 36; refine (HR.out _ HT1.out).mono ?_; rintro e w2 ⟨rfl,ht2⟩; have HT2:=hid (HT1.out.trans ht2 (by simp)); clear ht2)
     |(go_at_call 35; refine (HI.out _ HT0.out).mono ?_; rintro e w1 ⟨rfl,ht1⟩; have cb:=(fun i=>cRw ((ht1.block w.heap.size (ltB HB.out) (by simp)).trans HB.out) i); have HT1:=hid (HT0.out.trans ht1 (by simp)); clear ht1))
    go_ret
    exact ⟨by rw [HX.out]; cases br <;> rfl,HT2.out⟩
   | false =>
    have HX:=hid (show fmB ⟨vars,order,rows,next,nf⟩ = false by rw [HF.out]; simp)
    go_enter Tryz.func11,Tryz.ntmps11
    go_wp2_with (first
     |(go_at_call 35; refine (HI.out _ HT0.out).mono ?_; rintro e w1 ⟨rfl,ht1⟩; have cb:=(fun i=>cRw ((ht1.block w.heap.size (ltB HB.out) (by simp)).trans HB.out) i); have HT1:=hid (HT0.out.trans ht1 (by simp)); clear ht1))
    go_ret
    exact ⟨by rw [HX.out]; rfl,HT1.out⟩
  ·have HX:=hid (show fmB ⟨vars,order,rows,next,nf⟩ = false by rw [HF.out]; simp [h2])
   go_enter Tryz.func11,Tryz.ntmps11
   go_wp2_with fail
   go_ret
   exact ⟨by rw [HX.out]; rfl,HT0.out⟩
 ·have HX:=hid (show fmB ⟨vars,order,rows,next,nf⟩ = false by rw [HF.out]; simp [h1])
  go_enter Tryz.func11,Tryz.ntmps11
  go_wp2_with fail
  go_ret
  exact ⟨by rw [HX.out]; rfl,HT0.out⟩
end
def lastR (rows:List (Int × Nat)) (k:Nat):Int:=match k with | 0=>0 | j + 1=>(rows[j]?.map Prod.fst).getD 0
theorem formed_bad {t:Tbl} (h:t.vars < 0 ∨ 65536 < t.vars ∨ ¬ (t.order.length:Int) = t.vars ∨ 1024 < t.rows.length ∨ t.next < 1 ∨ 2147483648 < t.next):fmB t = false:=by
 unfold fmB
 by_cases h1:1 ≤ t.next
 ·by_cases h2:t.next ≤ 2147483648
  ·by_cases h3:65536 < t.vars ∨ (t.order.length:Int) ≠ t.vars
   ·have:isOrderB t.order t.vars = false:=by unfold isOrderB; rw [if_pos h3]
    rw [this]
    simp
   ·have h4:1024 < t.rows.length:=by omega
    have:riseB t.next t.nf t.rows = false:=by unfold riseB; rw [if_pos h4]
    rw [this]
    simp
  ·simp [h2]
 ·simp [h1]
theorem formed_good {t:Tbl} (h:0 ≤ t.vars ∧ t.vars ≤ 65536 ∧ (t.order.length:Int) = t.vars ∧ t.rows.length ≤ 1024 ∧ 1 ≤ t.next ∧ t.next ≤ 2147483648):fmB t = (ordL t.vars [] t.order && riseL t.next t.nf 0 t.rows):=by
 unfold fmB isOrderB riseB
 rw [if_neg (by omega),if_neg (by omega)]
 simp [h.2.2.2.2.1,h.2.2.2.2.2]
section
variable {w w':World} {t:Tbl} {so sr:Option Addr} {co cr:Nat}
set_option maxHeartbeats 4000000 in
theorem rformed_bad (h:t.vars < 0 ∨ 65536 < t.vars ∨ ¬ (t.order.length:Int) = t.vars ∨ 1024 < t.rows.length ∨ t.next < 1 ∨ 2147483648 < t.next) :
  Calls Tryz.prog 12 #[tblV t so sr co cr] w fun e w'=>e = .returned (.bool false) ∧ Tc [] w w':=by
 obtain ⟨vars,order,rows,next,nf⟩:=t
 simp only [tblV] at *
 by_cases h1:vars < 0
 ·clear h
  go_enter Tryz.func12,Tryz.ntmps12
  go_wp2_with fail
  go_ret
  exact ⟨rfl,(Tc.refl _ _).alloc _⟩
 ·by_cases h2:vars > 65536
  ·clear h
   go_enter Tryz.func12,Tryz.ntmps12
   go_wp2_with fail
   go_ret
   exact ⟨rfl,(Tc.refl _ _).alloc _⟩
  ·by_cases h3:(order.length:Int) = vars
   ·have hv:vars = (order.length:Int):=h3.symm
    subst hv
    by_cases h4:(rows.length:Int) > 1024
    ·clear h h3
     go_enter Tryz.func12,Tryz.ntmps12
     go_wp2_with fail
     go_ret
     exact ⟨rfl,(Tc.refl _ _).alloc _⟩
    ·by_cases h5:next < 1
     ·clear h h3
      go_enter Tryz.func12,Tryz.ntmps12
      go_wp2_with fail
      go_ret
      exact ⟨rfl,(Tc.refl _ _).alloc _⟩
     ·have h6:next > 2147483648:=by omega
      clear h h3
      go_enter Tryz.func12,Tryz.ntmps12
      go_wp2_with fail
      go_ret
      exact ⟨rfl,(Tc.refl _ _).alloc _⟩
   ·clear h
    go_enter Tryz.func12,Tryz.ntmps12
    go_wp2_with fail
    go_ret
    exact ⟨rfl,(Tc.refl _ _).alloc _⟩
end
theorem addZ (a:Addr):a.add (0 * 2) = a:=by cases a; unfold Addr.add; simp
theorem lastR_succ {rows:List (Int × Nat)} {k:Nat} (hk:k < rows.length):lastR rows (k + 1) = rows[k].1:=by
 show (Option.map Prod.fst rows[k]?).getD 0 = _
 rw [List.getElem?_eq_getElem hk]
 rfl
section
variable {w w':World} {t:Tbl} {so sr:Option Addr} {co cr:Nat}
set_option maxHeartbeats 16000000 in
theorem rformed_good (h:TblAt w t so sr) (hok:0 ≤ t.vars ∧ t.vars ≤ 65536 ∧ (t.order.length:Int) = t.vars ∧ t.rows.length ≤ 1024 ∧ 1 ≤ t.next ∧ t.next ≤ 2147483648) :
  Calls Tryz.prog 12 #[tblV t so sr co cr] w fun e w'=>e = .returned (.bool (ordL t.vars [] t.order && riseL t.next t.nf 0 t.rows)) ∧ Tc [] w w':=by
 have HI:=hid (fun W (tt:Tc [] w W)=>h.touch tt (by simp) (by simp))
 clear h
 obtain ⟨vars,order,rows,next,nf⟩:=t
 simp only [tblV] at *
 obtain ⟨h1,h2,h3,h4,h5,h6⟩:=hok
 subst h3
 have hol:order.length ≤ 65536:=by omega
 have a1:¬ (order.length:Int) > 65536:=by omega
 have a2:¬ (rows.length:Int) > 1024:=by omega
 have a3:¬ next < 1:=by omega
 have a4:¬ next > 2147483648:=by omega
 have hmk:=make_seen order.length hol
 obtain ⟨Wb,hWb⟩:∃ Wb,Wb = w.alloc (.cells #[.int .i64 order.length,.slice so order.length co,.slice sr rows.length cr,.int .i64 next,.int .u64 (nf:Int)] 26):=⟨_,rfl⟩
 have tb:Tc [] w Wb:=by rw [hWb]; exact (Tc.refl [] w).alloc _
 have hrb:Wb.heap[w.heap.size]? = some (.cells #[.int .i64 order.length,.slice so order.length co,.slice sr rows.length cr,.int .i64 next,.int .u64 (nf:Int)] 26 (0,0)):=by rw [hWb]; exact heap_alloc_new w _
 have HB:=hid (BitsAt.made order.length Wb)
 have HT0:=hid ((Tc.refl [] Wb).alloc (.cells (madeCells #[.bool false] order.length) 4))
 have hmk0:=hmk Wb
 obtain ⟨W0,hW0⟩:∃ W0,W0 = Wb.alloc (.cells (madeCells #[.bool false] order.length) 4):=⟨_,rfl⟩
 rw [← hW0] at hmk0 HB HT0
 obtain ⟨g,hg⟩:∃ g,g = Wb.heap.size:=⟨_,rfl⟩
 rw [← hg] at hmk0 HB
 have HBX:=hid (fun W (tt:Tc [] Wb W)=>fun i=>cRw ((tt.block _ (ltB hrb) (by simp)).trans hrb) i)
 have HTB:=hid tb
 have HG:=hid hg
 have hlw:=ltB hrb
 have HWB:=hid hWb
 clear hmk hW0 hg tb hrb hWb
 go_enter Tryz.func12,Tryz.ntmps12
 go_upto_region 3 with fail
 rw [← HWB.out]
 have cb:=HBX.out Wb (Tc.refl _ _)
 generalize w.heap.size = bx at *
 go_wp2_with fail
 clear cb
 go_loopw [4] (fun i W=>∃ k:Nat,k ≤ order.length ∧ i = .int .i64 k ∧ Hid (ordL order.length [] order = ordL order.length (order.take k) (order.drop k)) ∧ Hid (BitsAt W g order.length (order.take k)) ∧ Hid (Tc [] Wb W)) (fun i _=>order.length - (intOf i).toNat)
 case atStart=>exact ⟨0,Nat.zero_le _,rfl,hid rfl,HB,HT0⟩
 case round =>
  obtain ⟨k,hk,rfl,HEQ,HBk,HT⟩:=hrel
  have cb:=HBX.out wr HT.out
  have HTW:=hid (HTB.out.trans HT.out (by simp))
  by_cases hltk:k < order.length
  ·obtain ⟨a,rfl,hab,hc⟩:=(HI.out _ HTW.out).ints.at_ k hltk
   have HD:=hid (show order.drop k = order[k] :: order.drop (k + 1) from List.drop_eq_getElem_cons hltk)
   have HTK:=hid (show order.take (k + 1) = order.take k ++ [order[k]] from List.take_succ_eq_append_getElem hltk)
   clear hab
   generalize order[k] = v at *
   by_cases hneg:v < 0
   ·have HF:=hid (show ordL order.length [] order = false by rw [HEQ.out,HD.out]; show (if _ then _ else _) = _; rw [if_pos (.inl hneg)])
    go_wp2_with fail
    go_ret
    exact ⟨by rw [HF.out]; rfl,HTW.out⟩
   ·by_cases hbig:v ≥ (order.length:Int)
    ·have HF:=hid (show ordL order.length [] order = false by rw [HEQ.out,HD.out]; show (if _ then _ else _) = _; rw [if_pos (.inr (.inl hbig))])
     go_wp2_with fail
     go_ret
     exact ⟨by rw [HF.out]; rfl,HTW.out⟩
    ·obtain ⟨q,rfl⟩:∃ q:Nat,v = (q:Int):=⟨v.toNat,by omega⟩
     have hq:q < order.length:=by omega
     have cq:=HBk.out.cell hq
     have uq:=HBk.out.free q
     by_cases hin:(q:Int) ∈ order.take k
     ·have HF:=hid (show ordL order.length [] order = false by rw [HEQ.out,HD.out]; show (if _ then _ else _) = _; rw [if_pos (.inr (.inr hin))])
      rw [decide_eq_true hin] at cq
      clear hin
      go_wp2_with fail
      go_ret
      exact ⟨by rw [HF.out]; rfl,HTW.out⟩
     ·have HF:=hid (show ordL order.length [] order = ordL order.length (order.take (k + 1)) (order.drop (k + 1)) by
       rw [HEQ.out,HD.out,HTK.out]
       show (if _ then _ else _) = _
       rw [if_neg (by simp only [not_or]; exact ⟨hneg,by omega,hin⟩)])
      rw [decide_eq_false hin] at cq
      clear hin
      go_wp2_with fail
      refine ⟨⟨k + 1,hltk,rfl,HF,hid (by rw [HTK.out]; exact HBk.out.set hq),hid (HT.out.setCell (.inr (by rw [HG.out]; exact Nat.le_refl _)) _)⟩,by simp [intOf]; omega⟩
  ·obtain rfl:k = order.length:=by omega
   have HF:=hid (show ordL order.length [] order = true by rw [HEQ.out,List.drop_length]; rfl)
   clear HEQ HBk
   have HRT:=hid (show (ordL order.length [] order && riseL next nf 0 rows) = riseL next nf 0 rows by rw [HF.out]; rfl)
   go_wp2_with fail
   go_loopw [6] (fun i W=>∃ k:Nat,k ≤ rows.length ∧ i = .int .i64 k ∧ Hid (riseL next nf 0 rows = riseL next nf (lastR rows k) (rows.drop k)) ∧ Hid (0 < k → 1 ≤ lastR rows k) ∧ Hid (Tc [] Wb W)) (fun i _=>rows.length - (intOf i).toNat)
   case atStart=>exact ⟨0,Nat.zero_le _,rfl,hid rfl,hid (by simp),HT⟩
   case round =>
    clear HTW HT cb
    obtain ⟨k,hk,rfl,HEQ,HLA,HT⟩:=hrel
    have cb:=HBX.out wr HT.out
    have HTW:=hid (HTB.out.trans HT.out (by simp))
    by_cases hltk:k < rows.length
    ·obtain ⟨a,rfl,hab,c0,c1⟩:=(HI.out wr HTW.out).rows.at_ k hltk
     have HD:=hid (show rows.drop k = rows[k] :: rows.drop (k + 1) from List.drop_eq_getElem_cons hltk)
     have HLN:=hid (lastR_succ hltk)
     have hki:(k:Int) < (rows.length:Int):=by omega
     have hk0:(0:Int) ≤ (k:Int):=by omega
     have hprev:∀ j,k = j + 1 → ∃ ph,lastR rows k = ph ∧ wr.cell? (a.add (j * 2)) = some (.int .i64 ph):=fun j hj=>by
      subst hj
      obtain ⟨a',e1,_,d0,_⟩:=(HI.out wr HTW.out).rows.at_ j (by show j < rows.length; omega)
      cases e1
      exact ⟨_,lastR_succ (by omega),d0⟩
     have HPV:=hid hprev
     clear hab hprev
     generalize rows[k] = x at *
     obtain ⟨hh,u⟩:=x
     dsimp only at c0 c1 HLN
     have HFL:=hid (fun (b:Bool) (hb:(if hh ≤ lastR rows k ∨ next ≤ hh ∨ nf ≤ u then false else riseL next nf hh (rows.drop (k + 1))) = b)=>(show riseL next nf 0 rows = b by rw [HEQ.out,HD.out]; exact hb))
     by_cases c1h:hh < 1
     ·have HF:=hid (HFL.out false (by
       rw [if_pos]
       left
       rcases Nat.eq_zero_or_pos k with h0 | h0
       ·subst h0; show hh ≤ 0; omega
       ·have:=HLA.out h0; omega))
      have d1:decide (hh < 1) = true:=decide_eq_true c1h
      go_wp2_with fail
      go_quiet (fail)
      go_wp2_with fail
      go_ret
      exact ⟨by rw [HRT.out,HF.out]; rfl,HTW.out.drewN _⟩
     ·have d1:decide (hh < 1) = false:=decide_eq_false c1h
      have hgo:∀ b:Bool,(b = false → hh ≤ lastR rows k ∨ next ≤ hh ∨ nf ≤ u) → (b = true → ¬ (hh ≤ lastR rows k ∨ next ≤ hh ∨ nf ≤ u)) → True:=fun _ _ _=>trivial
      clear hgo
      have HNX:=hid (fun (q:¬ (hh ≤ lastR rows k ∨ next ≤ hh ∨ nf ≤ u))=>(⟨HFL.out _ (if_neg q),fun _=>by rw [HLN.out]; omega⟩:riseL next nf 0 rows = riseL next nf hh (rows.drop (k + 1)) ∧ (0 < k + 1 → 1 ≤ lastR rows (k + 1))))
      rcases Nat.eq_zero_or_pos k with h0 | h0
      ·subst h0
       have hl0:lastR rows 0 = 0:=rfl
       rw [addZ] at c0 c1
       have hki0:(0:Int) < (rows.length:Int):=by omega
       by_cases c3:hh ≥ next
       ·have HF:=hid (HFL.out false (by rw [if_pos (.inr (.inl c3))]))
        have d3:decide (hh ≥ next) = true:=decide_eq_true c3
        clear hl0
        go_wp2_with fail
        go_quiet (fail)
        go_wp2_with fail
        go_ret
        exact ⟨by rw [HRT.out,HF.out]; rfl,HTW.out.drewN _⟩
       ·have d3:decide (hh ≥ next) = false:=decide_eq_false c3
        by_cases c4:(u:Int) ≥ (nf:Int)
        ·have HF:=hid (HFL.out false (by rw [if_pos (.inr (.inr (by omega)))]))
         have d4:decide ((u:Int) ≥ (nf:Int)) = true:=decide_eq_true c4
         clear hl0
         go_wp2_with fail
         go_quiet (fail)
         go_wp2_with fail
         go_ret
         exact ⟨by rw [HRT.out,HF.out]; rfl,HTW.out.drewN _⟩
        ·have d4:decide ((u:Int) ≥ (nf:Int)) = false:=decide_eq_false c4
         have HN:=hid (HNX.out (by rw [hl0]; omega))
         clear hl0
         go_wp2_with fail
         go_quiet (fail)
         go_wp2_with fail
         exact ⟨⟨1,by omega,rfl,hid (by rw [HN.out.1,HLN.out]),hid HN.out.2,hid (HT.out.drewN _)⟩,by simp [intOf]; omega⟩
      ·obtain ⟨j,rfl⟩:∃ j,k = j + 1:=⟨k - 1,by omega⟩
       obtain ⟨ph,hph,cp⟩:=HPV.out j rfl
       have HPH:=hid hph
       clear hph h0
       have dk:decide (((j + 1:Nat):Int) > 0) = true:=decide_eq_true (by omega)
       have hw:IntKind.i64.wrap (((j + 1:Nat):Int) - 1) = (j:Int):=by rw [IntKind.wrap_i64]; omega
       have hji:(j:Int) < (rows.length:Int):=by omega
       have hj0:(0:Int) ≤ (j:Int):=by omega
       by_cases c2:hh ≤ ph
       ·have HF:=hid (HFL.out false (by rw [if_pos (.inl (by rw [HPH.out]; exact c2))]))
        have d2:decide (hh ≤ ph) = true:=decide_eq_true c2
        go_wp2_with fail
        go_quiet (fail)
        go_wp2_with fail
        go_ret
        exact ⟨by rw [HRT.out,HF.out]; rfl,HTW.out.drewN _⟩
       ·have d2:decide (hh ≤ ph) = false:=decide_eq_false c2
        by_cases c3:hh ≥ next
        ·have HF:=hid (HFL.out false (by rw [if_pos (.inr (.inl c3))]))
         have d3:decide (hh ≥ next) = true:=decide_eq_true c3
         go_wp2_with fail
         go_quiet (fail)
         go_wp2_with fail
         go_ret
         exact ⟨by rw [HRT.out,HF.out]; rfl,HTW.out.drewN _⟩
        ·have d3:decide (hh ≥ next) = false:=decide_eq_false c3
         by_cases c4:(u:Int) ≥ (nf:Int)
         ·have HF:=hid (HFL.out false (by rw [if_pos (.inr (.inr (by omega)))]))
          have d4:decide ((u:Int) ≥ (nf:Int)) = true:=decide_eq_true c4
          go_wp2_with fail
          go_quiet (fail)
          go_wp2_with fail
          go_ret
          exact ⟨by rw [HRT.out,HF.out]; rfl,HTW.out.drewN _⟩
         ·have d4:decide ((u:Int) ≥ (nf:Int)) = false:=decide_eq_false c4
          have HN:=hid (HNX.out (by rw [HPH.out]; omega))
          go_wp2_with fail
          go_quiet (fail)
          go_wp2_with fail
          exact ⟨⟨j + 2,by omega,rfl,hid (by rw [HN.out.1,HLN.out]),hid HN.out.2,hid (HT.out.drewN _)⟩,by simp [intOf]; omega⟩
    ·obtain rfl:k = rows.length:=by omega
     have HE:=hid (show riseL next nf 0 rows = true by rw [HEQ.out,List.drop_length]; rfl)
     go_wp2_with fail
     go_ret
     exact ⟨by rw [HRT.out,HE.out]; rfl,HTW.out⟩
end
def bytesU (l:List Nat):List UInt8:=l.map UInt8.ofNat
theorem bytesU_length (l:List Nat):(bytesU l).length = l.length:=by simp [bytesU]
theorem bytesU_cells {l:List Nat} (h:∀ y ∈ l,y < 256):Rx.bc l = (Lib.byteCells (bytesU l)).toArray:=by
 unfold Rx.bc Lib.byteCells bytesU
 rw [List.map_map]
 congr 1
 refine List.map_congr_left fun y hy=>?_
 have:=h y hy
 simp
 omega
def encU (kind place:Nat) (ws:List Nat) (B:Nat):List UInt8:=bytesU (PureCrc.enc kind place (ws.length / 4) ws B)
structure Fits (A:PubA) (K:Nat):Prop where
 h64:64 ≤ A.B
 hmax:A.B ≤ 65536
 h32:A.B % 32 = 0
 k:K = A.B / 32 - 1
section
variable {w w':World} {b:Bn} {n:Nat} {A:PubA} {s:Pu.St} {F:List Nat} {kb wb g:Nat} {K:Nat} {T:Int} {x:ByteArray}
abbrev WrC (W:World) (wb kb:Nat) (b:Bn) (x:ByteArray) (kind:Nat) (g m K blocks:Nat):Prop:=W.cell? ⟨wb,0,none⟩ = some (ptr kb) ∧ W.cell? ⟨wb,1,none⟩ = some (.string x) ∧ W.cell? ⟨wb,2,none⟩ = some (.int .i64 (kind:Int)) ∧ W.cell? ⟨wb,3,none⟩ = some (.slice (some ⟨g,0,none⟩) m K) ∧ W.cell? ⟨wb,6,none⟩ = some (.int .i64 (blocks:Int)) ∧ W.cell? ⟨kb,0,none⟩ = some (ptr b.p)
theorem WrC.touch {kind m blocks:Nat} {G:List Nat} (h:WrC w wb kb b x kind g m K blocks) (t:Tc G w w') (h1:wb < w.heap.size) (h2:kb < w.heap.size) (h3:wb ∉ G) (h4:kb ∉ G):WrC w' wb kb b x kind g m K blocks:=
 ⟨(t.cell (p:=⟨wb,0,none⟩) h1 h3).trans h.1,(t.cell (p:=⟨wb,1,none⟩) h1 h3).trans h.2.1,(t.cell (p:=⟨wb,2,none⟩) h1 h3).trans h.2.2.1,(t.cell (p:=⟨wb,3,none⟩) h1 h3).trans h.2.2.2.1,(t.cell (p:=⟨wb,6,none⟩) h1 h3).trans h.2.2.2.2.1,(t.cell (p:=⟨kb,0,none⟩) h2 h4).trans h.2.2.2.2.2⟩
abbrev wrow (kb:Nat) (x:ByteArray) (kind:Nat) (g m K:Nat) (dead:Int) (blocks:Nat) (count:Int):Array Value:=#[ptr kb,.string x,.int .i64 (kind:Int),.slice (some ⟨g,0,none⟩) m K,.int .i64 dead,.bool false,.int .i64 (blocks:Int),.int .i64 count]
set_option maxRecDepth 100000 in
set_option maxHeartbeats 1000000 in
theorem flush_any (S:Std w b n A s F) (hn:n < 1099511627776) (hA:Fits A K) (hk:DkA w kb b K T) (hkF:kb ∉ F) {kind blocks m:Nat} {dead count:Int} (hrow:w.heap[wb]? = some (.cells (wrow kb x kind g m K dead blocks count) 226 (0,0))) (hwF:wb ∉ F) (hlo:b.lo ≤ wb) (hne:wb ≠ kb)
  {ws:List Nat} (hws:Rx.Wd w g 0 ws) (hg:g < w.heap.size) (hgF:g ∉ F) (hgw:g ≠ wb) (hl:ws.length = 4 * m) (hm1:1 ≤ m) (hm2:m ≤ K) (hsm:∀ y ∈ ws,y < 18446744073709551616) (hk1:1 ≤ kind) (hk2:kind ≤ 5) (hb:blocks < 1099511627776) :
  Calls Tryz.prog 149 #[ptr wb] w fun e w'=>e = .returned (.int .i64 (appendB x (encU kind blocks ws A.B) (b.tr A) A).1) ∧
   Went w w' b (n + 1) (appendB x (encU kind blocks ws A.B) (b.tr A) A).2 s F [wb] ∧
   w'.heap[wb]? = some (.cells (if (appendB x (encU kind blocks ws A.B) (b.tr A) A).1 = 0 then wrow kb x kind g 0 K dead (blocks + 1) count else wrow kb x kind g m K dead blocks count) 226 (0,0)):=by
 have HB:Hid (∀ W,Tc [] w W → Calls Tryz.prog 82 #[ptr b.p] W fun e w'=>e = .returned (.int .i64 (A.B:Int)) ∧ w' = W):=fun W t=>block_s (S.quiet t)
 have hB:=hA.k
 have h64:=hA.h64
 have hmax:=hA.hmax
 have h32:=hA.h32
 have HEn:Hid (∀ W,Tc [] w W → Calls Tryz.prog 191 #[.int .i64 (kind:Int),.int .i64 (blocks:Int),.slice (some ⟨g,0,none⟩) m K,.int .i64 (A.B:Int)] W fun e w'=>∃ g',e = .returned (.tuple #[.slice (some ⟨g',0,none⟩) A.B A.B,.int .i64 0]) ∧ BytesAt w' g' (encU kind blocks ws A.B) ∧ Tc [] W w' ∧ W.heap.size ≤ g'):=fun W t=>by
  refine (Rx.encode_ok kind blocks m A.B ws g 0 K W (hws.touch t hg (by simp)) hl (Nat.lt_of_lt_of_le hg t.size) hsm hk1 (by omega) (by omega) h64 hmax h32 hm1 (by omega)).mono fun e w' ⟨g',e1,e2,e3,e4⟩=>⟨g',e1,?_,e3,e4⟩
  have hd:ws.length / 4 = m:=by omega
  unfold BytesAt encU
  rw [hd,← bytesU_cells (PureCrc.enc_lt (by omega))]
  exact e2
 have hlen:(encU kind blocks ws A.B).length = A.B:=by
  unfold encU
  rw [bytesU_length,PureCrc.enc_length (by omega)]
 generalize encU kind blocks ws A.B = bl at HEn hlen ⊢
 have HAp:Hid (∀ W g',Tc [] w W → BytesAt W g' bl → w.heap.size ≤ g' → Calls Tryz.prog 192 #[ptr b.p,.string x,.slice (some ⟨g',0,none⟩) A.B A.B] W fun e w'=>e = .returned (.int .i64 (appendB x bl (b.tr A) A).1) ∧ Went W w' b (n + 1) (appendB x bl (b.tr A) A).2 s F []):=fun W g' t hby hg'=>by
  have:=append_s (S.quiet t) hn x hby (fun hx=>by have:=S.lt g' hx; omega)
  rw [hlen] at this
  exact this
 generalize (appendB x bl (b.tr A) A).1 = r1 at HAp ⊢
 generalize (appendB x bl (b.tr A) A).2 = A1 at HAp ⊢
 have c:=fun i=>cRw hrow i
 have u:=fun i=>uRw hrow i
 have k0:=cRw hk 0
 simp at k0
 have HS:=hid S
 have HR:=hid hrow
 have HK:=hid hk
 have HF:=hid (And.intro hwF (And.intro hkF (And.intro hlo hne)))
 have lw:=ltB hrow
 have lk:=ltB hk
 have c0:=c 0
 have c1:=c 1
 have c2:=c 2
 have c3:=c 3
 have c6:=c 6
 simp only [List.getElem?_toArray,List.getElem?_cons_zero,List.getElem?_cons_succ] at c0 c1 c2 c3 c6
 have HC:=hid (show WrC w wb kb b x kind g m K blocks from ⟨c0,c1,c2,c3,c6,k0⟩)
 clear S hrow hk hwF hkF hlo hne hws hA hB h64 hmax h32 hl hm1 hm2 hsm hk1 hk2 hlen hgw hgF c
 go_enter Tryz.func149,Tryz.ntmps149
 go_wp2
 go_region_held3 (fun W=>W.cell? ⟨wb,0,none⟩ = some (ptr kb) ∧ W.cell? ⟨wb,1,none⟩ = some (.string x) ∧ W.cell? ⟨wb,2,none⟩ = some (.int .i64 (kind:Int)) ∧ W.cell? ⟨wb,3,none⟩ = some (.slice (some ⟨g,0,none⟩) m K) ∧ W.cell? ⟨wb,6,none⟩ = some (.int .i64 (blocks:Int)) ∧ W.cell? ⟨kb,0,none⟩ = some (ptr b.p)) (go_keep)
  (first
   |(go_at_call 82; refine (HB.out _ ((Tc.refl [] w).drew)).mono ?_; rintro e w1 ⟨rfl,rfl⟩)
   |(go_at_call 191; refine (HEn.out _ ((Tc.refl [] w).drew)).mono ?_; rintro e w2 ⟨g',rfl,hby,ht2,hg'⟩; have z2:w2.cell? ⟨wb,0,none⟩ = some (ptr kb) ∧ w2.cell? ⟨wb,1,none⟩ = some (.string x) ∧ w2.cell? ⟨wb,2,none⟩ = some (.int .i64 (kind:Int)) ∧ w2.cell? ⟨wb,3,none⟩ = some (.slice (some ⟨g,0,none⟩) m K) ∧ w2.cell? ⟨wb,6,none⟩ = some (.int .i64 (blocks:Int)) ∧ w2.cell? ⟨kb,0,none⟩ = some (ptr b.p):=HC.out.touch (((Tc.refl [] w).drew).trans ht2 (by simp)) lw lk (by simp) (by simp); have HZ2:=hid z2; have HT2:=hid (((Tc.refl [] w).drew).trans ht2 (by simp)); have HBY:=hid hby; have HG':=hid hg'; clear hby ht2 hg'))
 clear c0 c1 c2 c3 c6 k0 u
 obtain ⟨d0,d1,d2,d3,d6,dk⟩:=HZ2.out
 have lw2:wb < w2.heap.size:=Nat.lt_of_lt_of_le lw HT2.out.size
 have lk2:kb < w2.heap.size:=Nat.lt_of_lt_of_le lk HT2.out.size
 have hgs:w.heap.size ≤ g':=Nat.le_trans (Nat.le_refl _) HG'.out
 go_wp2
 go_region_held3 (fun W=>W.cell? ⟨wb,0,none⟩ = some (ptr kb) ∧ W.cell? ⟨wb,1,none⟩ = some (.string x) ∧ W.cell? ⟨kb,0,none⟩ = some (ptr b.p)) (go_keep)
  (first
   |(go_at_call 192; refine (HAp.out _ g' HT2.out.drew HBY.out hgs).mono ?_; rintro e w3 ⟨rfl,hg3⟩; obtain ⟨F3,S3,g3,f3⟩:=hg3; have z3:w3.cell? ⟨wb,0,none⟩ = some (ptr kb) ∧ w3.cell? ⟨wb,1,none⟩ = some (.string x) ∧ w3.cell? ⟨kb,0,none⟩ = some (ptr b.p):=⟨(g3.cell (p:=⟨wb,0,none⟩) lw2 (by simpa using HF.out.1)).trans d0,(g3.cell (p:=⟨wb,1,none⟩) lw2 (by simpa using HF.out.1)).trans d1,(g3.cell (p:=⟨kb,0,none⟩) lk2 (by simpa using HF.out.2.1)).trans dk⟩; have HS3:=hid S3; have HG3:=hid g3; have HF3:=hid f3; clear S3 g3 f3))
 have h3:w3.heap[wb]? = some (.cells (wrow kb x kind g m K dead blocks count) 226 (0,0)):=(HG3.out.block wb lw2 (by simpa using HF.out.1)).trans ((HT2.out.block wb lw (by simp)).trans HR.out)
 have t3:Tc F w w3:=(HT2.out.drew.mono (by simp)).trans HG3.out (fun y hy=>.inl (by simpa using hy))
 have H3:=hid h3
 have HT3:=hid t3
 have hw:IntKind.i64.wrap ((blocks:Int) + 1) = ((blocks + 1:Nat):Int):=by rw [IntKind.wrap_i64]; omega
 have HW3:Hid (Went w w3 b (n + 1) A1 s F []):=⟨F3,HS3.out,t3.mono (by simp),fun y hy=>by
  rcases HF3.out y hy with h | h
  ·exact .inl h
  ·exact .inr (Nat.le_trans HT2.out.size h)⟩
 clear t3
 by_cases hr:r1 = 0
 ·subst hr
  have c:=fun i=>cRw h3 i
  have u:=fun i=>uRw h3 i
  clear h3 d0 d1 d2 d3 d6 dk
  go_wp2
  go_ret
  refine ⟨rfl,HW3.out.own (B:=[wb]) (((Tc.refl [wb] w3).setCell (by simp) _).setCell (by simp) _) (fun y hy=>by simp at hy; subst hy; exact ⟨by simp,HF.out.1,lw,HF.out.2.2.1⟩) (by simp),?_⟩
  exact (sRw (sRw H3.out 6 _) 3 _).trans (by simp)
 ·clear h3 d0 d1 d2 d3 d6 dk
  go_wp2
  go_ret
  exact ⟨rfl,HW3.out.mono (by simp),H3.out⟩
end
abbrev recV (r0 r1 r2 r3:Nat):Value:=.agg #[.int .u64 (r0:Int),.int .u64 (r1:Int),.int .u64 (r2:Int),.int .u64 (r3:Int)]
abbrev recL (r0 r1 r2 r3:Nat):List Value:=[.int .u64 (r0:Int),.int .u64 (r1:Int),.int .u64 (r2:Int),.int .u64 (r3:Int)]
theorem put4 {w:World} {g o:Nat} {l:List Nat} (h:Rx.WRow w g l) (r0 r1 r2 r3:Nat):Rx.WRow (w.setCells g o (recL r0 r1 r2 r3)) g ((((l.set o r0).set (o + 1) r1).set (o + 1 + 1) r2).set (o + 1 + 1 + 1) r3):=
 (((h.set o r0).set (o + 1) r1).set (o + 1 + 1) r2).set (o + 1 + 1 + 1) r3
theorem set4 {ws rest:List Nat} {m:Nat} (h:ws.length = 4 * m) (hr:4 ≤ rest.length) (r0 r1 r2 r3:Nat):((((ws ++ rest).set (m * 4) r0).set (m * 4 + 1) r1).set (m * 4 + 1 + 1) r2).set (m * 4 + 1 + 1 + 1) r3 = (ws ++ [r0,r1,r2,r3]) ++ rest.drop 4:=by
 match rest,hr with
 | a :: b :: c :: d :: t,_ =>
  rw [List.set_append_right _ _ (by omega),List.set_append_right _ _ (by omega),List.set_append_right _ _ (by omega),List.set_append_right _ _ (by omega)]
  have e0:m * 4 - ws.length = 0:=by omega
  have e1:m * 4 + 1 - ws.length = 1:=by omega
  have e2:m * 4 + 1 + 1 - ws.length = 2:=by omega
  have e3:m * 4 + 1 + 1 + 1 - ws.length = 3:=by omega
  rw [e0,e1,e2,e3]
  simp
theorem touch_cells {F:List Nat} {w:World} {g o:Nat} (hg:g ∈ F) (r0 r1 r2 r3:Nat):Tc F w (w.setCells g o (recL r0 r1 r2 r3)):=
 ((((Tc.refl F w).setCell (p:=⟨g,o,none⟩) (.inl hg) _).setCell (p:=⟨g,o + 1,none⟩) (.inl hg) _).setCell (p:=⟨g,o + 1 + 1,none⟩) (.inl hg) _).setCell (p:=⟨g,o + 1 + 1 + 1,none⟩) (.inl hg) _
section
variable {w w':World} {b:Bn} {n:Nat} {A:PubA} {s:Pu.St} {F:List Nat} {kb wb g:Nat} {K:Nat} {T:Int} {x:ByteArray}
set_option maxRecDepth 100000 in
set_option maxHeartbeats 8000000 in
theorem Put_room (hk:DkA w kb b K T) {kind blocks m count:Nat} (hrow:w.heap[wb]? = some (.cells (wrow kb x kind g m K 0 blocks count) 226 (0,0))) (hne:wb ≠ kb)
  {ws rest:List Nat} (hws:Rx.WRow w g (ws ++ rest)) (hgw:g ≠ wb) (hkg:kb ≠ g) (hl:ws.length = 4 * m) (hr:rest.length + 4 * m = 4 * K) (hm:m + 1 < K) (hc:count < 1099511627776) (r0 r1 r2 r3:Nat) :
  Calls Tryz.prog 101 #[ptr wb,recV r0 r1 r2 r3] w fun e w'=>e = .returned (.int .i64 0) ∧ Tc [wb,g] w w' ∧ w'.heap[wb]? = some (.cells (wrow kb x kind g (m + 1) K 0 blocks ((count + 1:Nat):Int)) 226 (0,0)) ∧ Rx.WRow w' g ((ws ++ [r0,r1,r2,r3]) ++ rest.drop 4):=by
 obtain ⟨W,hW⟩:∃ W,W = w.alloc (.cells #[.int .u64 (r0:Int),.int .u64 (r1:Int),.int .u64 (r2:Int),.int .u64 (r3:Int)] 176):=⟨_,rfl⟩
 have t0:Tc [] w W:=by rw [hW]; exact (Tc.refl [] w).alloc _
 have hb:W.heap[w.heap.size]? = some (.cells #[.int .u64 (r0:Int),.int .u64 (r1:Int),.int .u64 (r2:Int),.int .u64 (r3:Int)] 176):=by rw [hW]; exact heap_alloc_new w _
 have hrowW:=(t0.block wb (ltB hrow) (by simp)).trans hrow
 have hwsW:Rx.WRow W g (ws ++ rest):=(t0.block g (ltB hws) (by simp)).trans hws
 have hkW:=hk.touch t0 (by simp)
 have HH:HeldAt W wb kb x (kind:Int) (.slice (some ⟨g,0,none⟩) m K) 0 false:=⟨_,_,hrowW,rfl,rfl,rfl,rfl,rfl,rfl⟩
 have HRf:=hid (refusal_any HH)
 simp only [Bool.false_eq_true,if_false] at HRf
 have c:=fun i=>cRw hrowW i
 have c3:=c 3
 have c7:=c 7
 have c0:=c 0
 simp only [List.getElem?_toArray,List.getElem?_cons_zero,List.getElem?_cons_succ] at c0 c3 c7
 have u:=fun i=>uRw hrowW i
 have q:=fun i=>cRw hb i
 have k2:=cRw hkW 2
 simp at k2
 have HT0:=hid t0
 have HK2:=hid k2
 have HKG:Hid (kb ≠ g):=hkg
 have HE:=hid hW
 have HRW:=hid hrowW
 have HWS:=hid hwsW
 have hlw:=ltB hrowW
 have hlg:=ltB hwsW
 have hlk:=ltB hkW
 have hlb:=ltB hb
 have HL:=hid hl
 have HR:=hid hr
 have hwr:IntKind.i64.wrap ((count:Int) + 1) = ((count + 1:Nat):Int):=by rw [IntKind.wrap_i64]; omega
 clear hk hrow hws t0 hb hrowW hwsW hkW HH c hl hr hW
 go_enter Tryz.func101,Tryz.ntmps101
 go_wp2_with fail
 rw [← HE.out]
 go_wp2_with (go_at_call 148; refine HRf.out.mono ?_; rintro e w1 ⟨rfl,hh⟩; have hh:=hh.symm; subst hh)
 obtain ⟨i0,hi0,hz0⟩:=Option.map_eq_some_iff.1 Rx.Tryz.info176
 have hz1:i0.size = 4:=(congrArg (fun t=>t.2.1) hz0:_)
 obtain ⟨WA,hWA⟩:∃ WA,WA = (W.alloc (.cells #[.int .u64 (r0:Int),.int .u64 (r1:Int),.int .u64 (r2:Int),.int .u64 (r3:Int)] 176)).drew:=⟨_,rfl⟩
 have tA:Tc [] W WA:=by rw [hWA]; exact ((Tc.refl [] W).alloc _).drew
 have hbA:WA.heap[W.heap.size]? = some (.cells #[.int .u64 (r0:Int),.int .u64 (r1:Int),.int .u64 (r2:Int),.int .u64 (r3:Int)] 176):=by rw [hWA]; exact heap_alloc_new W _
 have hwsA:Rx.WRow WA g (ws ++ rest):=(tA.block g hlg (by simp)).trans HWS.out
 have s1:Hid (∀ (j:Nat) (u:Value),(recL r0 r1 r2 r3)[j]? = some u → WA.cell? ((⟨W.heap.size,0,none⟩:Addr).add j) = some u):=fun j u hj=>by
  have e:(⟨W.heap.size,0,none⟩:Addr).add j = ⟨W.heap.size,j,none⟩:=by unfold Addr.add; split <;> simp_all
  rw [e,cRw hbA j]
  simpa using hj
 have s3:Hid (∀ j:Nat,j < (recL r0 r1 r2 r3).length → (WA.cell? ⟨g,0 + m * 4 + j,none⟩).isSome = true ∧ WA.frozen? ⟨g,0 + m * 4 + j,none⟩ = false):=fun j hj=>by
  refine ⟨?_,uRw hwsA _⟩
  rw [cRw hwsA,Rx.wc_get]
  have h4:0 + m * 4 + j < (ws ++ rest).length:=by rw [List.length_append,HL.out]; have:=HR.out; simp at hj; omega
  rw [List.getElem?_eq_getElem h4]
  rfl
 have s2:Hid (∀ u ∈ recL r0 r1 r2 r3,u.oneCell' = true):=fun u hu=>by
  simp only [recL,List.mem_cons,List.not_mem_nil,or_false] at hu
  rcases hu with rfl | rfl | rfl | rfl <;> rfl
 have tC:Tc [g] W (WA.setCells g (m * 4) (recL r0 r1 r2 r3)):=Tc.trans (F:=[g]) (G:=[g]) (tA.mono (by simp)) (touch_cells (by simp) r0 r1 r2 r3) (fun y hy=>.inl hy)
 have hrowC:(WA.setCells g (m * 4) (recL r0 r1 r2 r3)).heap[wb]? = some (.cells (wrow kb x kind g m K 0 blocks count) 226 (0,0)):=(tC.block wb hlw (by simpa using fun e=>hgw e.symm)).trans HRW.out
 have e3:(WA.setCells g (m * 4) (recL r0 r1 r2 r3)).cell? ⟨wb,3,none⟩ = some (.slice (some ⟨g,0,none⟩) m K):=by rw [cRw hrowC 3]; rfl
 have v3:(WA.setCells g (m * 4) (recL r0 r1 r2 r3)).frozen? ⟨wb,3,none⟩ = false:=uRw hrowC 3
 have HWA:=hid hWA
 have HRC:=hid hrowC
 have HTC:=hid tC
 have HSA:=hid hwsA
 rw [hWA] at e3 v3
 clear hWA tA hbA hrowC tC hwsA
 obtain ⟨WD,hWD⟩:∃ WD,WD = (WA.setCells g (m * 4) (recL r0 r1 r2 r3)).setCell ⟨wb,3,none⟩ (.slice (some ⟨g,0,none⟩) (m + 1) K):=⟨_,rfl⟩
 have hrowD:WD.heap[wb]? = some (.cells (wrow kb x kind g (m + 1) K 0 blocks count) 226 (0,0)):=by rw [hWD]; exact (sRw HRC.out 3 _).trans (by simp)
 have tD:Tc [wb,g] W WD:=by rw [hWD]; exact (HTC.out.mono (by simp)).setCell (by simp) _
 have k2D:WD.cell? ⟨kb,2,none⟩ = some (.int .i64 (K:Int)):=(tD.cell (p:=⟨kb,2,none⟩) hlk (by simp; exact ⟨fun e=>hne e.symm,HKG.out⟩)).trans HK2.out
 have hlsD:Rx.WRow WD g ((ws ++ [r0,r1,r2,r3]) ++ rest.drop 4):=by
  have h1:=put4 (o:=m * 4) HSA.out r0 r1 r2 r3
  rw [set4 HL.out (by have:=HR.out; omega)] at h1
  rw [hWD]
  exact (Below.heap_setCell _ _ _ g hgw).trans h1
 have HRD:=hid hrowD
 have HTD:=hid tD
 have HKD:=hid k2D
 have HLD:=hid hlsD
 have HWD:=hid hWD
 clear hrowD tD k2D hlsD hWD
 go_cut [] (fun wx=>wx = WD)
 case first =>
  go_region_law (first
   |(refine step_append_room rfl (.tmp 26) (.tmp 28) 130 rfl 176 i0 4 Tryz.underlying130 hi0 hz1 g 0 m K rfl ⟨W.heap.size,0,none⟩ 1 1 (recL r0 r1 r2 r3) rfl rfl (by first | (rw [← HWA.out]; exact s1.out) | (intro j u hj; have:=s1.out j u hj; rw [HWA.out] at this; exact this)) s2.out (by omega) (by first | (rw [← HWA.out]; exact s3.out) | (intro j hj; have:=s3.out j hj; rw [HWA.out] at this; exact this)) ?_)
   | go_simp)
  all_goals
   go_wp2_with fail
   go_meet
   rw [HWD.out,HWA.out]
 case rest =>
  have hcut:=hcut.symm
  subst hcut
  clear e3 v3 c0 c3 c7 u k2 q s1 s2 s3
  have d:=fun i=>cRw HRD.out i
  have d0:=d 0
  have d3:=d 3
  have d7:=d 7
  simp only [List.getElem?_toArray,List.getElem?_cons_zero,List.getElem?_cons_succ] at d0 d3 d7
  have u:=fun i=>uRw HRD.out i
  have k2:=HKD.out
  have hdec:¬ ((m:Int) + 1 = (K:Int)):=by omega
  clear d
  go_wp2
  go_quiet (fail)
  go_wp2
  go_ret
  refine ⟨rfl,?_,?_,?_⟩
  ·exact (((HT0.out.mono (by simp)).trans HTD.out (fun y hy=>.inl hy)).drewN _).setCell (by simp) _
  ·exact (sRw (w:=WD.drewN nq) HRD.out 7 _).trans (by simp)
  ·exact (Below.heap_setCell _ _ _ g hgw).trans HLD.out
end
end Go.Proofs.YthehcjjckabljaaGreatDoor
