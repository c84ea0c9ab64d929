import Derived.WalkKit
import Derived.WalkSpells
import Derived.WalkLawsBesides
import Derived.LaidEql
import Derived.Stop.Asserts
import Derived.RowKitTokens
import Derived.Maps.Own
import Derived.Maps.OwnSet
import Derived.Lib.UnsafeStr
import Derived.Lib.BufferWrite
import Derived.Lib.Strings
import Derived.Lib.Walk
import Derived.Laws.MakeOwn
import Derived.Laws.CopyRow
import Derived.Deep.OwnRows
import Derived.BigQuiet
import Derived.Laws.OwnMore
import Derived.Deep.QuietTactic
import Derived.Deep.RegionWith
import Derived.Deep.RegionHeld3
import Derived.Test.YthehcjjckabljaaGreatDoorRows
namespace Go.Proofs.YthehcjjckabljaaGreatDoor
open Go.RowKit Go.Extern.Stop Go.Stop Go.Extern
def nbB (c:Int):Bool:=decide ((97 ≤ c ∧ c ≤ 122) ∨ (48 ≤ c ∧ c ≤ 57) ∨ c = 45 ∨ c = 46)
def nameB (s:ByteArray):Bool:=decide (1 ≤ s.size ∧ s.size ≤ 32) && s.data.toList.all fun c=>nbB c.toNat
theorem ret_bool {a b:Bool} (h:a = b):Ending.returned (.bool a) = .returned (.bool b):=by rw [h]
set_option maxHeartbeats 400000 in
theorem isNameByte_any (c:Int) (w:World) :
  Calls Tryz.prog 206 #[.int .u8 c] w fun e w'=>e = .returned (.bool (nbB c)) ∧ w' = w:=by
 go_enter Tryz.func206,Tryz.ntmps206
 go_wp2
 all_goals
  go_ret
  refine ⟨ret_bool ?_,rfl⟩
  unfold nbB
  rw [Bool.eq_iff_iff]
  simp
  try omega
theorem name_long {s:ByteArray} (h:s.size < 1 ∨ 32 < s.size):nameB s = false:=by
 unfold nameB
 rw [decide_eq_false (by omega)]
 rfl
theorem name_bad {s:ByteArray} {k:Nat} (hk:k < s.size) (h:nbB (s[k].toNat:Int) = false):nameB s = false:=by
 unfold nameB
 rw [Bool.and_eq_false_iff]
 right
 rw [List.all_eq_false]
 exact ⟨s[k],by rw [Array.mem_toList_iff]; exact Array.getElem_mem (xs:=s.data) hk,by simpa using h⟩
theorem name_ok {s:ByteArray} (h1:1 ≤ s.size) (h2:s.size ≤ 32) (h:∀ k (hk:k < s.size),nbB (s[k].toNat:Int) = true):nameB s = true:=by
 unfold nameB
 rw [Bool.and_eq_true]
 refine ⟨by simp; omega,?_⟩
 rw [List.all_eq_true]
 intro c hc
 obtain ⟨k,hk,rfl⟩:=List.getElem_of_mem hc
 exact h k (by simpa using hk)
set_option maxHeartbeats 400000 in
theorem isName_any (s:ByteArray) (w:World) :
  Calls Tryz.prog 176 #[.string s] w fun e w'=>e = .returned (.bool (nameB s)) ∧ w' = w:=by
 by_cases hl:s.size < 1 ∨ 32 < s.size
 ·have hN:Hid (nameB s = false):=name_long hl
  rcases hl with hl | hl
  ·go_enter Tryz.func176,Tryz.ntmps176
   go_wp2
   go_ret
   exact ⟨ret_bool hN.out.symm,rfl⟩
  ·have h1:¬ s.size < 1:=by omega
   go_enter Tryz.func176,Tryz.ntmps176
   go_wp2
   go_ret
   exact ⟨ret_bool hN.out.symm,rfl⟩
 ·have h1:1 ≤ s.size:=by omega
  have h2:s.size ≤ 32:=by omega
  clear hl
  go_enter Tryz.func176,Tryz.ntmps176
  go_wp2
  go_loop [14] (fun i=>∃ k:Nat,k ≤ s.size ∧ i = .int .i64 k ∧ ∀ j (hj:j < s.size),j < k → nbB (s[j].toNat:Int) = true) (fun i=>s.size - (intOf i).toNat)
  case atStart=>exact ⟨0,Nat.zero_le _,rfl,fun j _ hj=>absurd hj (by omega)⟩
  case round =>
   obtain ⟨k,hk,rfl,hall⟩:=hrel
   have HA:Hid (∀ j (hj:j < s.size),j < k → nbB (s[j].toNat:Int) = true):=hall
   clear hall
   by_cases hlt:k < s.size
   ·go_wp2_with (go_at_call 206; refine (isNameByte_any _ _).mono ?_; rintro e w' ⟨rfl,rfl⟩)
    ·go_ret
     refine ⟨ret_bool (name_bad hlt ?_).symm,rfl⟩
     have hb:(!nbB (s[k].toNat:Int)) = true:=by assumption
     simpa using hb
    ·have hb:(!nbB (s[k].toNat:Int)) = false:=by assumption
     refine ⟨⟨k + 1,by omega,by go_num,fun j hj hjk=>?_⟩,by simp [intOf]; omega⟩
     by_cases hjk':j < k
     ·exact HA.out j hj hjk'
     ·obtain rfl:j = k:=by omega
      simpa using hb
   ·go_wp2
    go_ret
    exact ⟨ret_bool (name_ok h1 h2 fun j hj=>HA.out j hj (by omega)).symm,rfl⟩
theorem Tryz.isTypeOf (v:Value) (w:World):(Extern.ReflectliteType.typeOf #[.iface 341 v]).run Tryz.prog w = .ok (.iface 270 (.agg #[.pointer (some ⟨17,341,none⟩)])) w:=by kernel_rfl
theorem Tryz.callComparable (w:World):(callFunc 293 #[.agg #[.pointer (some ⟨17,341,none⟩)]]).run Tryz.prog w = .ok (Next.value (.bool true)) w:=by kernel_rfl
theorem Tryz.isMethodComparable (v : Value) (w : World) : (Go.method 482 270 v "Comparable").run Tryz.prog w = .ok (293, v) w := by kernel_rfl
theorem Tryz.isComp:(Tryz.prog.info? 341).map (·.comparable) = some true:=by kernel_rfl
theorem Tryz.isSize:(Tryz.prog.info? 343).map (·.size) = some 1:=by kernel_rfl
theorem Tryz.noIsE (v:Value) (xT:TypeId) (w:World):(Instr.typeAssert (.iface 341 v) xT 272 true).run Tryz.prog w = .ok (.tuple #[.nilIface,.bool false]) w:=run_typeAssert_lacksB Tryz.underlying272 (by kernel_rfl) (by kernel_rfl) v xT w
theorem Tryz.noUnwrapE (v:Value) (xT:TypeId) (w:World):(Instr.typeAssert (.iface 341 v) xT 275 true).run Tryz.prog w = .ok (.tuple #[.nilIface,.bool false]) w:=run_typeAssert_lacksB Tryz.underlying275 (by kernel_rfl) (by kernel_rfl) v xT w
theorem Tryz.noUnwrapsE (v:Value) (xT:TypeId) (w:World):(Instr.typeAssert (.iface 341 v) xT 277 true).run Tryz.prog w = .ok (.tuple #[.nilIface,.bool false]) w:=run_typeAssert_lacksB Tryz.underlying277 (by kernel_rfl) (by kernel_rfl) v xT w
set_option maxRecDepth 100000 in
set_option maxHeartbeats 400000 in
theorem is_same (a:Addr) (w:World) :
  Calls Tryz.prog 85 #[.iface 341 (.pointer (some a)),.iface 341 (.pointer (some a))] w fun e w'=>e = .returned (.bool true) ∧ w' = w:=by
 obtain ⟨i,hi,hcmp⟩:=Option.map_eq_some_iff.1 Tryz.isComp
 obtain ⟨j,hj,hjs⟩:=Option.map_eq_some_iff.1 Tryz.isSize
 have h8:=@run_callFunc_extern Tryz.prog 137 _ Extern.ReflectliteType.typeOf Tryz.func137 (by kernel_rfl) (by kernel_rfl) (by kernel_rfl) (by kernel_rfl)
 have tT:=Tryz.isTypeOf
 have h32:=Tryz.callComparable
 have mR:=Tryz.isMethodComparable
 have heq:=run_eql_iface_ptr_same (P:=Tryz.prog) w a Tryz.underlying86 Tryz.underlying341 hi hcmp hj
 go_enter Tryz.func85,Tryz.ntmps85
 go_wp2
 refine wp_loop_rounds 1 ?_
 rw [rounds_succ]
 go_wp2
 go_ret
 exact ⟨rfl,rfl⟩
set_option maxRecDepth 100000 in
set_option maxHeartbeats 400000 in
theorem is_other (a b:Addr) (ca cb:Array Value) (ta tb:TypeId) (w:World) (hne:a ≠ b) (ha:w.heap[a.block]? = some (.cells ca ta (0,0))) (hb:w.heap[b.block]? = some (.cells cb tb (0,0))) :
  Calls Tryz.prog 85 #[.iface 341 (.pointer (some a)),.iface 341 (.pointer (some b))] w fun e w'=>e = .returned (.bool false) ∧ w' = w:=by
 obtain ⟨i,hi,hcmp⟩:=Option.map_eq_some_iff.1 Tryz.isComp
 obtain ⟨j,hj,hjs⟩:=Option.map_eq_some_iff.1 Tryz.isSize
 have h8:=@run_callFunc_extern Tryz.prog 137 _ Extern.ReflectliteType.typeOf Tryz.func137 (by kernel_rfl) (by kernel_rfl) (by kernel_rfl) (by kernel_rfl)
 have tT:=Tryz.isTypeOf
 have h32:=Tryz.callComparable
 have mR:=Tryz.isMethodComparable
 have nE:=Tryz.noIsE
 have uE:=Tryz.noUnwrapE
 have vE:=Tryz.noUnwrapsE
 have heq:=run_eql_iface_ptr_other (P:=Tryz.prog) w Tryz.underlying86 Tryz.underlying341 hi hcmp hj (by rw [hjs]; decide) hne ha hb
 clear ha hb
 go_enter Tryz.func85,Tryz.ntmps85
 go_wp2
 refine wp_loop_rounds 1 ?_
 rw [rounds_succ]
 go_wp2
 go_ret
 exact ⟨rfl,rfl⟩
def gb:Nat → Nat
 | 0=>10 | 1=>0 | 2=>6 | 3=>7 | 4=>3 | 5=>2 | 6=>4 | 7=>8 | 8=>9 | 9=>1 | _=>5
theorem gb_lt (i:Nat):gb i < 11:=by unfold gb; split <;> omega
structure Sents (w:World) (E:Nat → Addr):Prop where
 var:∀ i,i < 11 → w.cell? ⟨gb i,0,none⟩ = some (.iface 341 (.pointer (some (E i))))
 obj:∀ i,i < 11 → ∃ c t,w.heap[(E i).block]? = some (.cells c t (0,0))
 inj:∀ i j,i < 11 → j < 11 → E i = E j → i = j
abbrev errV (E:Nat → Addr) (i:Nat):Value:=.iface 341 (.pointer (some (E i)))
theorem Sents.var0 {w:World} {E:Nat → Addr} (S:Sents w E):w.cell? ⟨10,0,none⟩ = some (errV E 0):=S.var 0 (by omega)
theorem Sents.var1 {w:World} {E:Nat → Addr} (S:Sents w E):w.cell? ⟨0,0,none⟩ = some (errV E 1):=S.var 1 (by omega)
theorem Sents.var2 {w:World} {E:Nat → Addr} (S:Sents w E):w.cell? ⟨6,0,none⟩ = some (errV E 2):=S.var 2 (by omega)
theorem Sents.var3 {w:World} {E:Nat → Addr} (S:Sents w E):w.cell? ⟨7,0,none⟩ = some (errV E 3):=S.var 3 (by omega)
theorem Sents.var4 {w:World} {E:Nat → Addr} (S:Sents w E):w.cell? ⟨3,0,none⟩ = some (errV E 4):=S.var 4 (by omega)
theorem Sents.var5 {w:World} {E:Nat → Addr} (S:Sents w E):w.cell? ⟨2,0,none⟩ = some (errV E 5):=S.var 5 (by omega)
theorem Sents.var6 {w:World} {E:Nat → Addr} (S:Sents w E):w.cell? ⟨4,0,none⟩ = some (errV E 6):=S.var 6 (by omega)
theorem Sents.var7 {w:World} {E:Nat → Addr} (S:Sents w E):w.cell? ⟨8,0,none⟩ = some (errV E 7):=S.var 7 (by omega)
theorem Sents.var8 {w:World} {E:Nat → Addr} (S:Sents w E):w.cell? ⟨9,0,none⟩ = some (errV E 8):=S.var 8 (by omega)
theorem Sents.var9 {w:World} {E:Nat → Addr} (S:Sents w E):w.cell? ⟨1,0,none⟩ = some (errV E 9):=S.var 9 (by omega)
theorem Sents.var10 {w:World} {E:Nat → Addr} (S:Sents w E):w.cell? ⟨5,0,none⟩ = some (errV E 10):=S.var 10 (by omega)
theorem is_at {w:World} {E:Nat → Addr} (S:Sents w E) (i j:Nat) (hi:i < 11) (hj:j < 11) :
  Calls Tryz.prog 85 #[errV E i,errV E j] w fun e w'=>e = .returned (.bool (decide (i = j))) ∧ w' = w:=by
 by_cases h:i = j
 ·subst h
  simpa using is_same (E i) w
 ·obtain ⟨c,t,hc⟩:=S.obj i hi
  obtain ⟨c',t',hc'⟩:=S.obj j hj
  simpa [h] using is_other (E i) (E j) c c' t t' w (fun e=>h (S.inj i j hi hj e)) hc hc'
def code:Nat → Int
 | 0=>1 | 1=>9 | 2=>10 | 3=>11 | 4=>12 | 5=>13 | 6=>14 | 7=>15 | 8=>16 | 9=>17 | _=>18
theorem code_at {i k:Nat} {n:Int} (h:i = k) (hc:code k = n):Ending.returned (.int .i64 n) = .returned (.int .i64 (code i)):=by rw [h,hc]
set_option maxHeartbeats 400000 in
theorem tell_nil (w:World):Calls Tryz.prog 76 #[.nilIface] w fun e w'=>e = .returned (.int .i64 0) ∧ w' = w:=by
 go_enter Tryz.func76,Tryz.ntmps76
 go_wp2
 go_ret
 exact ⟨rfl,rfl⟩
set_option maxRecDepth 100000 in
set_option maxHeartbeats 1000000 in
theorem tell_err {w:World} {E:Nat → Addr} (S:Sents w E) (i:Nat) (hi:i < 11) :
  Calls Tryz.prog 76 #[errV E i] w fun e w'=>e = .returned (.int .i64 (code i)) ∧ w' = w:=by
 have c1:=S.var1
 have c2:=S.var2
 have c3:=S.var3
 have c4:=S.var4
 have c5:=S.var5
 have c6:=S.var6
 have c7:=S.var7
 have c8:=S.var8
 have c9:=S.var9
 have c10:=S.var10
 go_enter Tryz.func76,Tryz.ntmps76
 have HI:Hid (i < 11):=hi
 clear hi
 go_wp2_with (go_at_call 85; refine (is_at S i _ HI.out (by omega)).mono ?_; rintro e w' ⟨rfl,rfl⟩)
 all_goals
  go_ret
  have HI':=HI.out
  first | (refine ⟨code_at (k:=0) (by omega) rfl,rfl⟩) | (refine ⟨code_at (k:=1) (by omega) rfl,rfl⟩) | (refine ⟨code_at (k:=2) (by omega) rfl,rfl⟩) | (refine ⟨code_at (k:=3) (by omega) rfl,rfl⟩) | (refine ⟨code_at (k:=4) (by omega) rfl,rfl⟩) | (refine ⟨code_at (k:=5) (by omega) rfl,rfl⟩) | (refine ⟨code_at (k:=6) (by omega) rfl,rfl⟩) | (refine ⟨code_at (k:=7) (by omega) rfl,rfl⟩) | (refine ⟨code_at (k:=8) (by omega) rfl,rfl⟩) | (refine ⟨code_at (k:=9) (by omega) rfl,rfl⟩) | (refine ⟨code_at (k:=10) (by omega) rfl,rfl⟩)
open Go.RowKit
structure Tc (F:List Nat) (a w:World):Prop where
 os:w.os = a.os
 tape:w.tape = a.tape
 output:w.output = a.output
 size:a.heap.size ≤ w.heap.size
 block:∀ k,k < a.heap.size → k ∉ F → w.heap[k]? = a.heap[k]?
section
variable {F G:List Nat} {a w w':World}
theorem Tc.refl (F:List Nat) (w:World):Tc F w w:=⟨rfl,rfl,rfl,Nat.le_refl _,fun _ _ _=>rfl⟩
theorem Tc.trans (h:Tc F a w) (k:Tc G w w') (hG:∀ b ∈ G,b ∈ F ∨ a.heap.size ≤ b):Tc F a w':=
 ⟨k.os.trans h.os,k.tape.trans h.tape,k.output.trans h.output,Nat.le_trans h.size k.size,fun b hb hF =>
  (k.block b (Nat.lt_of_lt_of_le hb h.size) (fun hg=>by rcases hG b hg with h1 | h1; exact hF h1; omega)).trans (h.block b hb hF)⟩
theorem Tc.mono (h:Tc F a w) (hG:∀ b ∈ F,b ∈ G):Tc G a w:=⟨h.os,h.tape,h.output,h.size,fun b hb hg=>h.block b hb (fun hf=>hg (hG b hf))⟩
theorem Tc.drew (h:Tc F a w):Tc F a w.drew:=⟨h.os,h.tape,h.output,h.size,h.block⟩
theorem Tc.alloc (h:Tc F a w) (o:Obj):Tc F a (w.alloc o):=
 ⟨h.os,h.tape,h.output,Nat.le_trans h.size (by simp),fun b hb hF=>(Below.heap_alloc w o b (Nat.lt_of_lt_of_le hb h.size)).trans (h.block b hb hF)⟩
theorem Tc.setCell (h:Tc F a w) {p:Addr} (hp:p.block ∈ F ∨ a.heap.size ≤ p.block) (u:Value):Tc F a (w.setCell p u):=
 ⟨h.os,h.tape,h.output,Nat.le_trans h.size (by simp [World.setCell]),fun b hb hF=>(Below.heap_setCell w p u b (fun e=>by subst e; rcases hp with h1 | h1; exact hF h1; omega)).trans (h.block b hb hF)⟩
theorem Tc.grown {row:Option Nat} (h:Tc F a w) (hg:w.grownBy w' row) (hr:∀ k,row = some k → k ∈ F ∨ a.heap.size ≤ k):Tc F a w':=
 ⟨hg.os.trans h.os,hg.tape.trans h.tape,hg.output.trans h.output,Nat.le_trans h.size hg.size,fun b hb hF =>
  (hg.block b (Nat.lt_of_lt_of_le hb h.size) (fun e=>by rcases hr b e.symm with h1 | h1; exact hF h1; omega)).trans (h.block b hb hF)⟩
theorem Tc.of_below {B:Nat} (h:Below B w w') (hB:w.heap.size ≤ B):Tc F w w':=⟨h.os,h.tape,h.output,h.size,fun b hb _=>h.block b (by omega)⟩
theorem Tc.below (h:Tc F a w) {B:Nat} (hB:B ≤ a.heap.size) (hF:∀ b ∈ F,B ≤ b):Below B a w:=⟨h.os,h.tape,h.output,h.size,fun b hb=>h.block b (by omega) (fun hf=>by have:=hF b hf; omega)⟩
theorem Tc.cell (h:Tc F a w) {p:Addr} (hp:p.block < a.heap.size) (hF:p.block ∉ F):w.cell? p = a.cell? p:=World.cell?_of_block (h.block _ hp hF)
end
theorem Sents.below {w w':World} {E:Nat → Addr} {B:Nat} (S:Sents w E) (h:Below B w w') (h0:11 ≤ B) (hE:∀ i,i < 11 → (E i).block < B):Sents w' E:=
 ⟨fun i hi=>(h.cell (p:=⟨gb i,0,none⟩) (by show gb i < B; have:=gb_lt i; omega)).trans (S.var i hi),fun i hi=>by obtain ⟨c,t,hc⟩:=S.obj i hi; exact ⟨c,t,(h.block _ (hE i hi)).trans hc⟩,S.inj⟩
theorem cRw {w:World} {b:Nat} {c:Array Value} {t:TypeId} {fz:Nat × Nat} (h:w.heap[b]? = some (.cells c t fz)) (i:Nat):w.cell? ⟨b,i,none⟩ = c[i]?:=by simp [World.cell?,h]
theorem uRw {w:World} {b:Nat} {c:Array Value} {t:TypeId} (h:w.heap[b]? = some (.cells c t (0,0))) (i:Nat):w.frozen? ⟨b,i,none⟩ = false:=by simp [World.frozen?,h]
theorem sRw {w:World} {b:Nat} {c:Array Value} {t:TypeId} {fz:Nat × Nat} (h:w.heap[b]? = some (.cells c t fz)) (i:Nat) (v:Value) :
  (w.setCell ⟨b,i,none⟩ v).heap[b]? = some (.cells (c.setIfInBounds i v) t fz):=by
 have hb:=(Array.getElem?_eq_some_iff.1 h).1
 simp [World.setCell,Array.getElem?_modify,h]
theorem ltB {w:World} {b:Nat} {o:Obj} (h:w.heap[b]? = some o):b < w.heap.size:=(Array.getElem?_eq_some_iff.1 h).1
abbrev sliceV (b n:Nat):Value:=.slice (some ⟨b,0,none⟩) n n
structure FlA where
 shut:Bool
 blocks:List (List UInt8)
structure Lay where
 fb:Nat
 sv:Value
 bs:List Nat
def Lay.foot (L:Lay):List Nat:=L.fb :: (L.sv.ownBlock.toList ++ L.bs)
def BytesAt (w:World) (b:Nat) (bl:List UInt8):Prop:=w.heap[b]? = some (.cells (Lib.byteCells bl).toArray 5 (0,0))
structure FileAt (w:World) (B:Nat) (L:Lay) (f:FlA):Prop where
 row:w.heap[L.fb]? = some (.cells #[.int .i64 (if f.shut then 1 else 0),L.sv] 160 (0,0))
 own:w.ownsRow 0 118 1 L.sv f.blocks.length (L.bs.map fun b=>sliceV b B)
 bytes:∀ (i b:Nat) (bl:List UInt8),L.bs[i]? = some b → f.blocks[i]? = some bl → bl.length = B ∧ BytesAt w b bl
theorem FileAt.len {w:World} {B:Nat} {L:Lay} {f:FlA} (h:FileAt w B L f):L.bs.length = f.blocks.length:=by simpa using h.own.1
theorem FileAt.kept {w w':World} {B:Nat} {L:Lay} {f:FlA} (h:FileAt w B L f) (hk:∀ b ∈ L.foot,w'.heap[b]? = w.heap[b]?):FileAt w' B L f:=by
 refine ⟨(hk _ (by simp [Lay.foot])).trans h.row,⟨h.own.1,?_⟩,fun i b bl hb hbl=>?_⟩
 ·rcases h.own.2 with hn | ⟨g,cap,cur,hv,hb,hg,rest⟩
  ·exact .inl hn
  ·exact .inr ⟨g,cap,cur,hv,hb,(hk g (by simp [Lay.foot,hv,Value.ownBlock])).trans hg,rest⟩
 ·have:=h.bytes i b bl hb hbl
  refine ⟨this.1,?_⟩
  have hm:b ∈ L.foot:=by simp [Lay.foot,List.mem_of_getElem? hb]
  exact (hk b hm).trans this.2
theorem FileAt.lt {w:World} {B:Nat} {L:Lay} {f:FlA} (h:FileAt w B L f):∀ b ∈ L.foot,b < w.heap.size:=by
 intro b hb
 simp only [Lay.foot,List.mem_cons,List.mem_append,Option.mem_toList] at hb
 rcases hb with rfl | hb | hb
 ·exact ltB h.row
 ·exact (h.own.lt b hb).2
 ·obtain ⟨i,hi,rfl⟩:=List.getElem_of_mem hb
  have:=h.bytes i _ (f.blocks[i]'(by rw [← h.len]; exact hi)) (List.getElem?_eq_getElem hi) (List.getElem?_eq_getElem _)
  exact ltB this.2
structure Ent where
 name:List UInt8
 file:FlA
 lay:Lay
structure Cnt where
 calls:Int
 reads:Int
 appends:Int
 faults:Int
 full:Int
 used:Int
 most:Int
structure DkC where
 B:Nat
 Bs:Int
 on:Bool
 ents:List Ent
 T:DataW Unit
 c:Cnt
def dRow (D:DkC) (mf mt:Nat):Array Value:=
 #[.int .i64 D.B,.int .i64 D.Bs,.bool D.on,.map (some mf),.map (some mt),.int .i64 D.c.calls,.int .i64 D.c.reads,.int .i64 D.c.appends,.int .i64 D.c.faults,.int .i64 D.c.full,.int .i64 D.c.used,.int .i64 D.c.most]
def ptrElem (v:Value):Option (DataW Unit × List MemPlace):=
 match v with
 | .pointer (some ⟨b,0,none⟩)=>some (.lit (.int .i64 b),[])
 | .pointer none=>some (.nil,[])
 | _=>none
def trElem (v:Value):Option (DataW Unit × List MemPlace):=
 match v with
 | .agg cs=>match cs.toList with
  | [.int .i64 a,.int .i64 k,.int .i64 b]=>some (.agg [.lit (.int .i64 a),.lit (.int .i64 k),.lit (.int .i64 b)],[])
  | _=>none
 | _=>none
def Ent.key (e:Ent):Lit × DataW Unit:=(.string e.name,.lit (.int .i64 e.lay.fb))
def mapOf (l:List Ent):DataW Unit:=.map (l.map Ent.key)
def DkC.foot (D:DkC) (p mf mt:Nat):List Nat:=p :: mf :: mt :: D.ents.flatMap fun e=>e.lay.foot
structure Rep (w:World) (lo p mf mt:Nat) (D:DkC):Prop where
 row:w.heap[p]? = some (.cells (dRow D mf mt) 102 (0,0))
 files:w.ownsMap Tryz.prog 9 ptrElem mf D.ents.length (mapOf D.ents)
 troubles:∃ n,w.ownsMap Tryz.prog 3 trElem mt n D.T
 each:∀ e ∈ D.ents,FileAt w D.B e.lay e.file
 apart:(D.foot p mf mt).Nodup
 base:∀ b ∈ D.foot p mf mt,lo ≤ b
 names:∀ e ∈ D.ents,e.name.length ≤ 32
theorem Rep.lt {w:World} {lo p mf mt:Nat} {D:DkC} (h:Rep w lo p mf mt D):∀ b ∈ D.foot p mf mt,b < w.heap.size:=by
 intro b hb
 obtain ⟨n,ht⟩:=h.troubles
 simp only [DkC.foot,List.mem_cons,List.mem_flatMap] at hb
 rcases hb with rfl | rfl | rfl | ⟨e,he,hb⟩
 ·exact ltB h.row
 ·exact h.files.lt
 ·exact ht.lt
 ·exact (h.each e he).lt b hb
theorem ownsMap_kept {w w':World} {k:TypeId} {R:Value → Option (DataW Unit × List MemPlace)} {b n:Nat} {D:DataW Unit} (h:w.ownsMap Tryz.prog k R b n D) (hk:w'.heap[b]? = w.heap[b]?):w'.ownsMap Tryz.prog k R b n D:=by
 obtain ⟨es,clock,hb,r⟩:=h
 exact ⟨es,clock,hk.trans hb,r⟩
theorem Rep.kept {w w':World} {lo p mf mt:Nat} {D:DkC} (h:Rep w lo p mf mt D) (hk:∀ b ∈ D.foot p mf mt,w'.heap[b]? = w.heap[b]?):Rep w' lo p mf mt D:=by
 obtain ⟨n,ht⟩:=h.troubles
 refine ⟨(hk p (by simp [DkC.foot])).trans h.row,ownsMap_kept h.files (hk mf (by simp [DkC.foot])),⟨n,ownsMap_kept ht (hk mt (by simp [DkC.foot]))⟩,fun e he=>(h.each e he).kept fun b hb=>hk b ?_,h.apart,h.base,h.names⟩
 simp only [DkC.foot,List.mem_cons,List.mem_flatMap]
 exact .inr (.inr (.inr ⟨e,he,hb⟩))
theorem Rep.touch {w w':World} {lo p mf mt:Nat} {D:DkC} {F:List Nat} (h:Rep w lo p mf mt D) (ht:Tc F w w') (hF:∀ b ∈ D.foot p mf mt,b ∉ F):Rep w' lo p mf mt D:=
 h.kept fun b hb=>ht.block b (h.lt b hb) (hF b hb)
theorem Rep.reset {w w':World} {lo p mf mt:Nat} {D D':DkC} (h:Rep w lo p mf mt D) (hB:D'.B = D.B) (he:D'.ents = D.ents) (hrow:w'.heap[p]? = some (.cells (dRow D' mf mt) 102 (0,0)))
  (hT:∃ n,w'.ownsMap Tryz.prog 3 trElem mt n D'.T) (ht:Tc [p,mt] w w'):Rep w' lo p mf mt D':=by
 have hne:p ≠ mt ∧ p ≠ mf ∧ mf ≠ mt:=by
  have:=h.apart
  simp [DkC.foot] at this
  exact ⟨this.1.2.1,this.1.1,this.2.1.1⟩
 have hf:D'.foot p mf mt = D.foot p mf mt:=by simp [DkC.foot,he]
 have hk:∀ b ∈ D.foot p mf mt,b ≠ p → b ≠ mt → w'.heap[b]? = w.heap[b]?:=fun b hb h1 h2=>ht.block b (h.lt b hb) (by simp [h1,h2])
 refine ⟨hrow,by rw [he]; exact ownsMap_kept h.files (hk mf (by simp [DkC.foot]) hne.2.1.symm hne.2.2),hT,fun e hm=>?_,by rw [hf]; exact h.apart,by rw [hf]; exact h.base,by rw [he]; exact h.names⟩
 rw [he] at hm
 rw [hB]
 refine (h.each e hm).kept fun b hb=>?_
 have hm':b ∈ D.ents.flatMap fun e=>e.lay.foot:=List.mem_flatMap.2 ⟨e,hm,hb⟩
 have ha:=h.apart
 simp only [DkC.foot,List.nodup_cons,List.mem_cons,not_or] at ha
 refine hk b ?_ (fun e1=>?_) (fun e1=>?_)
 ·simp only [DkC.foot,List.mem_cons]
  exact .inr (.inr (.inr hm'))
 ·subst e1
  exact ha.1.2.2 hm'
 ·subst e1
  exact ha.2.2.1 hm'
open Go.RowKit Go.Deep
theorem Tryz.info5:(Tryz.prog.info? 5).map (fun i=>(i.zero,i.size,i.bytes)) = some (some (.int .u8 0),1,1):=by kernel_rfl
theorem Tryz.size5:(Tryz.prog.info? 5).map (·.size) = some 1:=by kernel_rfl
theorem Tryz.cells5:Tryz.prog.cellsOf 5 = 1:=by kernel_rfl
set_option maxHeartbeats 1000000 in
set_option maxRecDepth 100000 in
theorem clone_any (s:ByteArray) (w:World) (hlim:s.size ≤ 281474976710656) :
  Calls Tryz.prog 177 #[.string s] w fun e w'=>e = .returned (.string s) ∧ Below w.heap.size w w':=by
 by_cases h0:s.size = 0
 ·have hs:s = ⟨#[]⟩:=by
   apply ByteArray.ext
   exact Array.eq_empty_of_size_eq_zero h0
  subst hs
  go_enter Tryz.func177,Tryz.ntmps177
  go_wp2
  go_ret
  exact ⟨rfl,Below.refl _ _⟩
 ·obtain ⟨M,hM⟩:∃ M,M = madeCells #[(Value.int .u8 0)] s.size:=⟨_,rfl⟩
  have hMs:M.size = s.size:=by rw [hM,size_madeCells]
  have hmk:∀ W:World,(Instr.makeSlice 118 (.int .i64 (s.size:Int)) (.int .i64 (s.size:Int))).run Tryz.prog W = .ok (.slice (some ⟨W.heap.size,0,none⟩) s.size s.size) (W.alloc (.cells M 5)):=fun W=>by
   have h:=run_make_row' (P:=Tryz.prog) 118 5 (.int .u8 0) 1 Tryz.underlying118 Tryz.info5 rfl .i64 .i64 s.size (by omega) (by omega) W
   rw [← hM] at h
   exact h
  clear hM
  have hcp:=Lib.run_copy_row_string (P:=Tryz.prog) (w.alloc (.cells M 5)) 118 9 3 5 w.heap.size 0 s.size s.size s M 5 Tryz.underlying118 Tryz.size5 (heap_alloc_new w _) (Nat.le_refl _) (by omega)
  obtain ⟨Y,hY⟩:∃ Y,Y = (M.toList.take 0 ++ Lib.byteCells s.data.toList ++ M.toList.drop (0 + s.size)).toArray:=⟨_,rfl⟩
  rw [← hY] at hcp
  have hYl:Y.toList = Lib.byteCells s.data.toList:=by
   rw [hY,List.toList_toArray,List.take_zero,List.nil_append,List.drop_of_length_le (by rw [Array.length_toList]; omega),List.append_nil]
  have hYs:Y.size = s.size:=by rw [← Array.length_toList,hYl,Lib.byteCells_length,← Lib.size_eq]
  have hgY:((w.alloc (.cells M 5)).setRow w.heap.size Y).heap[w.heap.size]? = some (.cells Y 5 (0,0)):=setRow_heap _ _ M _ 5 (0,0) (heap_alloc_new w _)
  have hne:s.data.toList ≠ []:=fun e=>h0 (by rw [Lib.size_eq,e]; rfl)
  have hUS:=Lib.run_unsafeString_row (P:=Tryz.prog) ((w.alloc (.cells M 5)).setRow w.heap.size Y) 268 3 9 5 Tryz.underlying268 Tryz.cells5 w.heap.size Y.size (by unfold World.shape?; rw [hgY]) s.data.toList hne (by rw [← Lib.size_eq]; omega) (by rw [← Lib.size_eq]; omega)
   (fun j x hx=>Lib.cells_of_row hgY Y.size j _ (by rw [List.take_of_length_le (by rw [Array.length_toList]; exact Nat.le_refl _),hYl]; simp [Lib.byteCells,hx]))
  rw [← Lib.size_eq] at hUS
  clear hY
  go_enter Tryz.func177,Tryz.ntmps177
  go_wp2
  go_ret
  have hb1:Below w.heap.size w (w.alloc (.cells M 5)):=(Below.refl _ w).alloc (Nat.le_refl _) _
  have hb2:Below w.heap.size (w.alloc (.cells M 5)) ((w.alloc (.cells M 5)).setRow w.heap.size Y):=⟨rfl,rfl,rfl,by simp,fun k hk=>setRow_other _ _ _ _ (by omega)⟩
  exact ⟨rfl,Lib.below_freeze (hb1.trans hb2) (p:=⟨w.heap.size,0,none⟩) (Nat.le_refl _) _⟩
set_option maxHeartbeats 400000 in
theorem ownName_any (s:ByteArray) (w:World) (hlim:s.size ≤ 281474976710656) :
  Calls Tryz.prog 79 #[.string s] w fun e w'=>e = .returned (.string s) ∧ Below w.heap.size w w':=by
 go_enter Tryz.func79,Tryz.ntmps79
 go_wp2_with (first | (go_at_call 177; refine (clone_any _ _ hlim).mono ?_; rintro e w' ⟨rfl,hb⟩) | (go_at_call 129; go_in))
 go_ret
 exact ⟨rfl,hb⟩
def cutB (k:Nat) (bl:List UInt8):List UInt8:=bl.take k ++ List.replicate (bl.length - k) 0
theorem cutB_length (k:Nat) (bl:List UInt8):(cutB k bl).length = bl.length:=by simp [cutB]; omega
theorem cutB_whole {k:Nat} {bl:List UInt8} (h:bl.length ≤ k):cutB k bl = bl:=by
 unfold cutB
 rw [List.take_of_length_le h,Nat.sub_eq_zero_of_le h]
 simp
theorem made_zeros (n m:Nat):(madeCells #[(Value.int .u8 0)] n).toList.drop m = Lib.byteCells (List.replicate (n - m) 0):=by
 rw [toList_madeCells_one]
 simp [Lib.byteCells]
theorem byteCells_one' (bl:List UInt8):∀ v ∈ Lib.byteCells bl,v.oneCell' = true:=Lib.byteCells_one bl
theorem copied (m:Nat) (bl:List UInt8) (hm:m ≤ bl.length) :
  ((madeCells #[(Value.int .u8 0)] bl.length).toList.take 0 ++ Lib.byteCells (bl.take m) ++ (madeCells #[(Value.int .u8 0)] bl.length).toList.drop (0 + (Lib.byteCells (bl.take m)).length)).toArray = (Lib.byteCells (cutB m bl)).toArray:=by
 have h:(Lib.byteCells (bl.take m)).length = m:=by simp [Lib.byteCells_length]; omega
 rw [h,made_zeros,List.take_zero,List.nil_append,Nat.zero_add,← Lib.byteCells_append]
 rfl
set_option maxRecDepth 100000 in
set_option maxHeartbeats 400000 in
theorem copyBlock_any (bl:List UInt8) (a:Addr) (c:Nat) (k:Int) (w:World) (hn:0 < bl.length) (hc:bl.length ≤ c) (hbig:bl.length ≤ 1099511627776) (hk:0 ≤ k)
  (hsrc:∀ j v,(Lib.byteCells bl)[j]? = some v → w.cell? (a.add j) = some v) (ha:a.block < w.heap.size) :
  Calls Tryz.prog 173 #[.slice (some a) bl.length c,.int .i64 k] w fun e w'=>e = .returned (sliceV w.heap.size bl.length) ∧ BytesAt w' w.heap.size (cutB k.toNat bl) ∧ Tc [] w w' ∧ w'.heap.size = w.heap.size + 1:=by
 obtain ⟨m,hm⟩:∃ m,m = min k.toNat bl.length:=⟨_,rfl⟩
 have hml:m ≤ bl.length:=by omega
 have hcut:Hid (cutB k.toNat bl = cutB m bl):=by
  show _ = _
  by_cases h:k.toNat ≤ bl.length
  ·rw [show m = k.toNat by omega]
  ·rw [cutB_whole (by omega),cutB_whole (by omega)]
 have hmk:∀ W:World,(Instr.makeSlice 118 (.int .i64 (bl.length:Int)) (.int .i64 (bl.length:Int))).run Tryz.prog W = .ok (.slice (some ⟨W.heap.size,0,none⟩) bl.length bl.length) (W.alloc (.cells (madeCells #[.int .u8 0] bl.length) 5)):=fun W =>
  run_make_row' (P:=Tryz.prog) 118 5 (.int .u8 0) 1 Tryz.underlying118 Tryz.info5 rfl .i64 .i64 bl.length (by omega) (by omega) W
 have hcl:(Lib.byteCells (bl.take m)).length = m:=by simp [Lib.byteCells_length]; omega
 have hcp:=run_copy_row (P:=Tryz.prog) (w.alloc (.cells (madeCells #[.int .u8 0] bl.length) 5)) 118 118 3 5 w.heap.size 0 bl.length bl.length a m c (madeCells #[.int .u8 0] bl.length) 5 (Lib.byteCells (bl.take m)) Tryz.underlying118 Tryz.size5 (heap_alloc_new w _) (by rw [hcl]; exact (Nat.min_eq_left hml).symm)
  (fun j v hj=>by
   have h1:(Lib.byteCells bl)[j]? = some v:=by
    simp only [Lib.byteCells,List.getElem?_map,List.getElem?_take] at hj ⊢
    split at hj
    ·exact hj
    ·simp at hj
   have h2:=hsrc j v h1
   have hadd:(a.add j).block = a.block:=by unfold Addr.add; split <;> rfl
   rw [← h2]
   exact World.cell?_of_block (by rw [hadd]; exact Below.heap_alloc w _ _ ha))
  (by rw [hcl,size_madeCells]; omega) (byteCells_one' _)
 rw [copied m bl hml,hcl] at hcp
 have HM:Hid (m = min k.toNat bl.length):=hm
 clear hm hsrc hcl
 generalize hR:madeCells #[Value.int .u8 0] bl.length = R at *
 clear hR
 clear hbig
 by_cases hle:k ≤ (bl.length:Int)
 ·have hmm:k = (m:Int):=by have:=HM.out; omega
  subst hmm
  clear HM hk hle
  have hmin:min (m:Int) (bl.length:Int) = (m:Int):=by omega
  go_enter Tryz.func173,Tryz.ntmps173
  go_wp2
  go_ret
  refine ⟨rfl,?_,?_,by simp⟩
  ·rw [hcut.out]
   exact setRow_heap _ _ R _ 5 (0,0) (heap_alloc_new w _)
  ·exact ⟨rfl,rfl,rfl,by simp,fun b hb _=>(setRow_other _ _ _ _ (by omega)).trans (Below.heap_alloc w _ b hb)⟩
 ·have hmm:m = bl.length:=by have:=HM.out; omega
  subst hmm
  clear HM hk hml
  have hmin:min k (bl.length:Int) = (bl.length:Int):=by omega
  go_enter Tryz.func173,Tryz.ntmps173
  go_wp2
  go_ret
  refine ⟨rfl,?_,?_,by simp⟩
  ·rw [hcut.out]
   exact setRow_heap _ _ R _ 5 (0,0) (heap_alloc_new w _)
  ·exact ⟨rfl,rfl,rfl,by simp,fun b hb _=>(setRow_other _ _ _ _ (by omega)).trans (Below.heap_alloc w _ b hb)⟩
abbrev nm (s:ByteArray):List UInt8:=s.data.toList
def findE (l:List Ent) (k:List UInt8):Option Ent:=l.find? fun e=>decide (e.name = k)
theorem find_map (l:List Ent) (k:List UInt8):(l.map Ent.key).find? (fun p=>p.1.sameKey (.string k)) = (findE l k).map Ent.key:=by
 rw [List.find?_map]
 unfold findE
 congr 1
 congr 1
 funext e
 simp only [Function.comp,Ent.key,Lit.sameKey]
 by_cases h:e.name = k
 ·simp [h]
 ·simp [h]
theorem at_map (l:List Ent) (k:List UInt8) (z:DataW Unit):(mapOf l).atKey (.string k) z = match findE l k with | some e=>.lit (.int .i64 e.lay.fb) | none=>z:=by
 unfold mapOf DataW.atKey
 simp only [find_map]
 cases findE l k <;> rfl
theorem has_map (l:List Ent) (k:List UInt8):Maps.has (mapOf l) (.string k) = (findE l k).isSome:=by
 unfold mapOf
 rw [Maps.has_eq]
 have h:=find_map l k
 cases hf:findE l k with
 | none =>
  rw [hf,Option.map_none,List.find?_eq_none] at h
  simpa using h
 | some e =>
  rw [hf,Option.map_some] at h
  have h1:=List.find?_some h
  have h2:=List.mem_of_find?_eq_some h
  simp only [Option.isSome_some,List.any_eq_true]
  exact ⟨_,h2,h1⟩
theorem ptrElem_inv {v:Value} {b:Nat} {ps:List MemPlace} (h:ptrElem v = some (.lit (.int .i64 b),ps)):v = .pointer (some ⟨b,0,none⟩):=by
 unfold ptrElem at h
 split at h
 ·simp at h
  rw [Int.ofNat_inj.1 h.1]
 ·simp at h
 ·simp at h
theorem ptrElem_nil {v:Value} {ps:List MemPlace} (h:ptrElem v = some (.nil,ps)):v = .pointer none:=by
 unfold ptrElem at h
 split at h
 ·simp at h
 ·rfl
 ·simp at h
theorem Tryz.zero128 (w:World):(zeroValue 128).run Tryz.prog w = .ok (.pointer none) w:=by kernel_rfl
theorem Rep.look {w:World} {lo p mf mt:Nat} {D:DkC} (h:Rep w lo p mf mt D) (s:ByteArray) (hs:s.size ≤ 32) :
  (Instr.lookup 97 (.map (some mf)) (.string s) true).run Tryz.prog w = .ok (.tuple #[.pointer ((findE D.ents (nm s)).map fun e=>⟨e.lay.fb,0,none⟩),.bool (findE D.ents (nm s)).isSome]) w:=by
 obtain ⟨v,ps,hrun,hv⟩:=h.files.look_ok (t:=97) (e:=128) (Maps.string_keyed Tryz.underlying9) Tryz.underlying97 (Tryz.zero128 w) (zd:=.nil) (zp:=[]) rfl (WideMaps.keyOf_string_mk Tryz.underlying9 (s:=s) (by unfold maxLen; omega))
 rw [has_map] at hrun
 rw [at_map] at hv
 rw [hrun]
 cases hf:findE D.ents (nm s) with
 | none=>rw [hf] at hv; rw [ptrElem_nil hv]; rfl
 | some e=>rw [hf] at hv; rw [ptrElem_inv hv]; rfl
abbrev ptr (p:Nat):Value:=.pointer (some ⟨p,0,none⟩)
theorem hid {q:Prop} (h:q):Hid q:=h
theorem name_size {s:ByteArray} (h:nameB s = true):s.size ≤ 32:=by
 unfold nameB at h
 simp at h
 omega
section
variable {w:World} {E:Nat → Addr} {lo p mf mt:Nat} {D:DkC}
theorem Rep.cell (h:Rep w lo p mf mt D) (i:Nat):w.cell? ⟨p,i,none⟩ = (dRow D mf mt)[i]?:=cRw h.row i
theorem Rep.unfrozen (h:Rep w lo p mf mt D) (i:Nat):w.frozen? ⟨p,i,none⟩ = false:=uRw h.row i
set_option maxHeartbeats 400000 in
theorem look_bad (S:Sents w E) (s:ByteArray) (hn:nameB s = false) :
  Calls Tryz.prog 139 #[ptr p,.string s] w fun e w'=>e = .returned (.tuple #[.pointer none,errV E 3]) ∧ ∃ n,w' = w.drewN n:=by
 have c3:=S.var3
 go_enter Tryz.func139,Tryz.ntmps139
 go_wp2_with (go_at_call 176; refine (isName_any _ _).mono ?_; rintro e w' ⟨rfl,rfl⟩)
 go_quiet (fail)
 go_wp2
 go_ret2
 exact ⟨rfl,_,rfl⟩
set_option maxHeartbeats 400000 in
theorem look_none (S:Sents w E) (R:Rep w lo p mf mt D) (s:ByteArray) (hn:nameB s = true) (hf:findE D.ents (nm s) = none) :
  Calls Tryz.prog 139 #[ptr p,.string s] w fun e w'=>e = .returned (.tuple #[.pointer none,errV E 4]) ∧ ∃ n,w' = w.drewN n:=by
 have c4:=S.var4
 have k3:=R.cell 3
 have hl:=R.look s (name_size hn)
 rw [hf] at hl
 simp only [dRow,Option.map_none,Option.isSome_none] at k3 hl
 clear hf
 go_enter Tryz.func139,Tryz.ntmps139
 go_wp2_with (go_at_call 176; refine (isName_any _ _).mono ?_; rintro e w' ⟨rfl,rfl⟩)
 go_quiet (fail)
 go_wp2
 go_ret2
 exact ⟨rfl,_,rfl⟩
set_option maxHeartbeats 400000 in
theorem look_some (R:Rep w lo p mf mt D) (s:ByteArray) (hn:nameB s = true) {e0:Ent} (hf:findE D.ents (nm s) = some e0) :
  Calls Tryz.prog 139 #[ptr p,.string s] w fun e w'=>e = .returned (.tuple #[ptr e0.lay.fb,.nilIface]) ∧ ∃ n,w' = w.drewN n:=by
 have k3:=R.cell 3
 have hl:=R.look s (name_size hn)
 rw [hf] at hl
 simp only [dRow,Option.map_some,Option.isSome_some] at k3 hl
 clear hf
 go_enter Tryz.func139,Tryz.ntmps139
 go_wp2_with (go_at_call 176; refine (isName_any _ _).mono ?_; rintro e w' ⟨rfl,rfl⟩)
 go_ret2
 exact ⟨rfl,0,rfl⟩
set_option maxHeartbeats 400000 in
theorem find_off (S:Sents w E) (R:Rep w lo p mf mt D) (s:ByteArray) (ho:D.on = false) :
  Calls Tryz.prog 86 #[ptr p,.string s] w fun e w'=>e = .returned (.tuple #[.pointer none,errV E 2]) ∧ ∃ n,w' = w.drewN n:=by
 have c2:=S.var2
 have k2:=R.cell 2
 simp only [dRow,ho] at k2
 go_enter Tryz.func86,Tryz.ntmps86
 go_wp2
 go_quiet (fail)
 go_wp2
 go_ret2
 exact ⟨rfl,_,rfl⟩
set_option maxHeartbeats 400000 in
theorem find_bad (S:Sents w E) (R:Rep w lo p mf mt D) (s:ByteArray) (ho:D.on = true) (hn:nameB s = false) :
  Calls Tryz.prog 86 #[ptr p,.string s] w fun e w'=>e = .returned (.tuple #[.pointer none,errV E 3]) ∧ ∃ n,w' = w.drewN n:=by
 have k2:=R.cell 2
 simp only [dRow,ho] at k2
 go_enter Tryz.func86,Tryz.ntmps86
 go_wp2_with (go_at_call 139; refine (look_bad S s hn).mono ?_; rintro e w' ⟨rfl,n,rfl⟩)
 go_ret2
 exact ⟨rfl,_,rfl⟩
set_option maxHeartbeats 400000 in
theorem find_none (S:Sents w E) (R:Rep w lo p mf mt D) (s:ByteArray) (ho:D.on = true) (hn:nameB s = true) (hf:findE D.ents (nm s) = none) :
  Calls Tryz.prog 86 #[ptr p,.string s] w fun e w'=>e = .returned (.tuple #[.pointer none,errV E 4]) ∧ ∃ n,w' = w.drewN n:=by
 have k2:=R.cell 2
 simp only [dRow,ho] at k2
 have H:=hid (look_none S R s hn hf)
 clear hf
 go_enter Tryz.func86,Tryz.ntmps86
 go_wp2_with (go_at_call 139; refine H.out.mono ?_; rintro e w' ⟨rfl,n,rfl⟩)
 go_ret2
 exact ⟨rfl,_,rfl⟩
set_option maxHeartbeats 400000 in
theorem find_some (R:Rep w lo p mf mt D) (s:ByteArray) (ho:D.on = true) (hn:nameB s = true) {e0:Ent} (hf:findE D.ents (nm s) = some e0) :
  Calls Tryz.prog 86 #[ptr p,.string s] w fun e w'=>e = .returned (.tuple #[ptr e0.lay.fb,.nilIface]) ∧ ∃ n,w' = w.drewN n:=by
 have k2:=R.cell 2
 simp only [dRow,ho] at k2
 have H:=hid (look_some R s hn hf)
 clear hf
 go_enter Tryz.func86,Tryz.ntmps86
 go_wp2_with (go_at_call 139; refine H.out.mono ?_; rintro e w' ⟨rfl,n,rfl⟩)
 go_ret2
 exact ⟨rfl,_,rfl⟩
end
section
variable {w:World} {E:Nat → Addr} {lo p mf mt:Nat} {D:DkC}
def TrI (T:DataW Unit) (n a k b:Int):Prop:=T.atKey (.int .i64 n) (.agg [.lit (.int .i64 0),.lit (.int .i64 0),.lit (.int .i64 0)]) = .agg [.lit (.int .i64 a),.lit (.int .i64 k),.lit (.int .i64 b)]
theorem trElem_inv {v:Value} {a k b:Int} {ps:List MemPlace} (h:trElem v = some (.agg [.lit (.int .i64 a),.lit (.int .i64 k),.lit (.int .i64 b)],ps)):v = .agg #[.int .i64 a,.int .i64 k,.int .i64 b]:=by
 unfold trElem at h
 split at h
 ·rename_i cs
  split at h
  ·rename_i a' k' b' hl
   simp at h
   obtain ⟨⟨rfl,rfl,rfl⟩,_⟩:=h
   have:cs = #[.int .i64 a',.int .i64 k',.int .i64 b']:=Array.toList_inj.1 hl
   rw [this]
  ·simp at h
 ·simp at h
theorem Tryz.zero67 (w:World):(zeroValue 67).run Tryz.prog w = .ok (.agg #[.int .i64 0,.int .i64 0,.int .i64 0]) w:=by kernel_rfl
theorem i64_wf {n:Int} (h:0 ≤ n) (h2:n ≤ 4611686018427387904):(Lit.int .i64 n).wf = true:=by
 have e1:IntKind.min .i64 = -9223372036854775808:=by decide
 have e2:IntKind.max .i64 = 9223372036854775807:=by decide
 simp only [Lit.wf,e1,e2,Bool.and_eq_true,decide_eq_true_eq]
 omega
theorem trouble_look {n:Nat} {T:DataW Unit} {at_ a k b:Int} (hT:w.ownsMap Tryz.prog 3 trElem mt n T) (h:TrI T at_ a k b) (h0:0 ≤ at_) (h1:at_ ≤ 4611686018427387904) :
  (Instr.lookup 98 (.map (some mt)) (.int .i64 at_) false).run Tryz.prog w = .ok (.agg #[.int .i64 a,.int .i64 k,.int .i64 b]) w:=by
 obtain ⟨v,ps,hrun,hv⟩:=hT.lookup (t:=98) (e:=67) (Maps.int_keyed Tryz.underlying3) Tryz.underlying98 (Tryz.zero67 w) (zd:=.agg [.lit (.int .i64 0),.lit (.int .i64 0),.lit (.int .i64 0)]) (zp:=[]) rfl (Maps.keyOf_int_mk Tryz.underlying3 (i64_wf h0 h1))
 unfold TrI at h
 rw [h] at hv
 rw [hrun,trElem_inv hv]
theorem heap_two (w:World) (o1 o2:Obj):((w.alloc o1).alloc o2).heap[w.heap.size]? = some o1 ∧ ((w.alloc o1).alloc o2).heap[w.heap.size + 1]? = some o2:=by
 refine ⟨?_,?_⟩
 ·rw [Below.heap_alloc _ _ _ (by simp)]; exact heap_alloc_new w o1
 ·have:=heap_alloc_new (w.alloc o1) o2
  simpa using this
set_option maxRecDepth 100000 in
set_option maxHeartbeats 400000 in
theorem number_any (R:Rep w lo p mf mt D) {a k b:Int} (h:TrI D.T D.c.calls a k b) (h0:0 ≤ D.c.calls) (h1:D.c.calls ≤ 1099511627776) :
  Calls Tryz.prog 88 #[ptr p] w fun e w'=>e = .returned (.agg #[.int .i64 a,.int .i64 k,.int .i64 b]) ∧ Rep w' lo p mf mt { D with T:=D.T.del (.int .i64 D.c.calls),c:={ D.c with calls:=D.c.calls + 1 } } ∧ Tc [p,mt] w w':=by
 have k4:=R.cell 4
 have k5:=R.cell 5
 simp only [dRow] at k4 k5
 have f5:=R.unfrozen 5
 have hp:=ltB R.row
 obtain ⟨n,hT⟩:=R.troubles
 have hmt:=hT.lt
 have hne:p ≠ mt ∧ p ≠ mf ∧ mf ≠ mt:=by
  have:=R.apart
  simp [DkC.foot] at this
  exact ⟨this.1.2.1,this.1.1,this.2.1.1⟩
 obtain ⟨W0,hW0⟩:∃ W0,W0 = w.setCell ⟨p,5,none⟩ (.int .i64 (D.c.calls + 1)):=⟨_,rfl⟩
 have hT0:W0.ownsMap Tryz.prog 3 trElem mt n D.T:=by rw [hW0]; exact hT.setCell (by simpa using hne.1.symm) _
 have hz0:W0.heap.size = w.heap.size:=by rw [hW0]; simp [World.setCell]
 have hl:=trouble_look (hT0.alloc (.cells #[.int .i64 0,.int .i64 0,.int .i64 0] 67)) h h0 (by omega)
 obtain ⟨w3,hdel,hT3,hturn⟩:=((hT0.alloc (.cells #[.int .i64 0,.int .i64 0,.int .i64 0] 67)).alloc (.cells #[.int .i64 a,.int .i64 k,.int .i64 b] 67)).drop (t:=98) (e:=67) (Maps.int_keyed Tryz.underlying3) Tryz.underlying98 (Maps.keyOf_int_mk Tryz.underlying3 (i64_wf h0 (by omega))) 0
 have hg:=hturn.grown
 have hb:=heap_two W0 (.cells #[.int .i64 0,.int .i64 0,.int .i64 0] 67) (.cells #[.int .i64 a,.int .i64 k,.int .i64 b] 67)
 have q2:w3.heap[w.heap.size]? = some (.cells #[.int .i64 0,.int .i64 0,.int .i64 0] 67):=by
  rw [hg.block _ (by simp; omega) (by simp; omega),← hz0]
  exact hb.1
 have q4:w3.heap[w.heap.size + 1]? = some (.cells #[.int .i64 a,.int .i64 k,.int .i64 b] 67):=by
  rw [hg.block _ (by simp; omega) (by simp; omega),← hz0]
  exact hb.2
 have d0:=cRw q4 0
 have d1:=cRw q4 1
 have d2:=cRw q4 2
 have e0:=uRw q2 0
 have e1:=uRw q2 1
 have e2:=uRw q2 2
 have q20:=cRw q2 0
 have q21:=cRw q2 1
 have q22:=cRw q2 2
 simp at d0 d1 d2 q20 q21 q22
 have HQ2:=hid q2
 have HQ4:=hid q4
 have HZ:=hid hz0
 clear hb q2 q4 hz0 h
 subst hW0
 go_enter Tryz.func88,Tryz.ntmps88
 go_wp2
 refine bodyPost_ret (v:=.agg #[.int .i64 a,.int .i64 k,.int .i64 b]) (by simp [results,Tryz.results88,go_sem,q20,q21,q22]) rfl ⟨rfl,?_⟩
 have ht:Tc [p,mt] w (((w3.setCell ⟨w.heap.size,0,none⟩ (.int .i64 a)).setCell ⟨w.heap.size,1,none⟩ (.int .i64 k)).setCell ⟨w.heap.size,2,none⟩ (.int .i64 b)):=
  ((((((Tc.refl [p,mt] w).setCell (p:=⟨p,5,none⟩) (by simp) _).alloc _).alloc _).grown hg (by simp)).setCell (by simp) _).setCell (by simp) _ |>.setCell (by simp) _
 have hpz:p ≠ w.heap.size:=by omega
 refine ⟨R.reset rfl rfl ?_ ⟨n,?_⟩ ht,ht⟩
 ·rw [Below.heap_setCell _ _ _ _ hpz,Below.heap_setCell _ _ _ _ hpz,Below.heap_setCell _ _ _ _ hpz,hg.block p (by simp; omega) (by simp [hne.1]),Below.heap_alloc _ _ _ (by simp; omega),Below.heap_alloc _ _ _ (by simp [World.setCell]; omega),sRw R.row 5]
  rfl
 ·have hmz:mt ≠ w.heap.size:=by omega
  exact ((hT3.setCell (by simpa using hmz) _).setCell (by simpa using hmz) _).setCell (by simpa using hmz) _
end
section
variable {w:World} {E:Nat → Addr} {lo p mf mt:Nat} {D:DkC}
theorem Rep.p_ne (R:Rep w lo p mf mt D):p ≠ mt ∧ p ≠ mf ∧ mf ≠ mt:=by
 have:=R.apart
 simp [DkC.foot] at this
 exact ⟨this.1.2.1,this.1.1,this.2.1.1⟩
theorem Rep.setRow (R:Rep w lo p mf mt D) {w':World} {D':DkC} (hB:D'.B = D.B) (he:D'.ents = D.ents) (hT:D'.T = D.T) (ht:Tc [p] w w') (hrow:w'.heap[p]? = some (.cells (dRow D' mf mt) 102 (0,0))):Rep w' lo p mf mt D':=by
 obtain ⟨n,h⟩:=R.troubles
 refine R.reset hB he hrow ⟨n,?_⟩ (ht.mono (by simp))
 rw [hT]
 exact ownsMap_kept h (ht.block mt h.lt (by simp [R.p_ne.1.symm]))
set_option maxRecDepth 100000 in
set_option maxHeartbeats 400000 in
theorem use_any (R:Rep w lo p mf mt D) (n:Int) (h0:0 ≤ D.c.used) (h1:D.c.used ≤ 1099511627776) (h2:-1099511627776 ≤ n) (h3:n ≤ 1099511627776) :
  Calls Tryz.prog 80 #[ptr p,.int .i64 n] w fun e w'=>e = .returned (.tuple #[]) ∧ Rep w' lo p mf mt { D with c:={ D.c with used:=D.c.used + n,most:=max D.c.most (D.c.used + n) } } ∧ Tc [p] w w':=by
 have k10:=R.cell 10
 have k11:=R.cell 11
 simp only [dRow] at k10 k11
 have f10:=R.unfrozen 10
 have f11:=R.unfrozen 11
 have hp:=ltB R.row
 go_enter Tryz.func80,Tryz.ntmps80
 go_wp2
 go_region
 go_wp2
 go_end0
 have ht:Tc [p] w ((w.setCell ⟨p,10,none⟩ (.int .i64 (D.c.used + n))).setCell ⟨p,11,none⟩ (.int .i64 (max D.c.most (D.c.used + n)))).drew:=
  (((Tc.refl [p] w).setCell (by simp) _).setCell (by simp) _).drew
 refine ⟨rfl,R.setRow rfl rfl rfl ht ?_,ht⟩
 show ((w.setCell _ _).setCell _ _).heap[p]? = _
 rw [sRw (sRw R.row 10 _) 11]
 rfl
end
def insE (e:Ent):List Ent → List Ent
 | []=>[e]
 | y :: r=>if (Lit.string e.name).before (.string y.name) then e :: y :: r else y :: insE e r
theorem insE_key (e:Ent):∀ l:List Ent,DataW.insert e.key (l.map Ent.key) = (insE e l).map Ent.key
 | []=>rfl
 | y :: r=>by
  simp only [List.map_cons,DataW.insert,insE]
  have h:(e.key.1.before y.key.1) = (Lit.string e.name).before (.string y.name):=rfl
  rw [h]
  split
  ·rfl
  ·simp [insE_key e r]
theorem insE_perm (e:Ent):∀ l:List Ent,(insE e l).Perm (e :: l)
 | []=>.refl _
 | y :: r=>by
  unfold insE
  split
  ·exact .refl _
  ·exact ((insE_perm e r).cons y).trans (.swap _ _ _)
theorem put_map {e:Ent} {l:List Ent} (h:findE l e.name = none):(mapOf l).put (.string e.name) (.lit (.int .i64 e.lay.fb)) = mapOf (insE e l):=by
 unfold mapOf DataW.put
 have hf:(l.map Ent.key).filter (fun p=>!p.1.sameKey (.string e.name)) = l.map Ent.key:=by
  rw [List.filter_eq_self]
  intro x hx
  obtain ⟨y,hy,rfl⟩:=List.mem_map.1 hx
  have:=List.find?_eq_none.1 h y hy
  simp at this
  simp [Ent.key,Lit.sameKey,this]
 simp only [hf]
 exact congrArg _ (insE_key e l)
def dropE (k:List UInt8) (l:List Ent):List Ent:=l.filter fun e=>!decide (e.name = k)
theorem del_map (l:List Ent) (k:List UInt8):(mapOf l).del (.string k) = mapOf (dropE k l):=by
 unfold mapOf dropE
 show DataW.map ((l.map Ent.key).filter fun p=>!p.1.sameKey (.string k)) = _
 congr 1
 rw [List.filter_map]
 congr 1
 apply List.filter_congr
 intro e _
 simp only [Function.comp,Ent.key,Lit.sameKey]
 by_cases h:e.name = k <;> simp [h]
section
variable {w w':World} {E:Nat → Addr} {lo p mf mt:Nat} {D:DkC}
theorem Rep.ent_ne (R:Rep w lo p mf mt D) {e:Ent} (he:e ∈ D.ents) {b:Nat} (hb:b ∈ e.lay.foot):b ≠ p ∧ b ≠ mf ∧ b ≠ mt ∧ b < w.heap.size ∧ lo ≤ b:=by
 have hm':b ∈ D.ents.flatMap fun e=>e.lay.foot:=List.mem_flatMap.2 ⟨e,he,hb⟩
 have ha:=R.apart
 simp only [DkC.foot,List.nodup_cons,List.mem_cons,not_or] at ha
 have hmem:b ∈ D.foot p mf mt:=by simp only [DkC.foot,List.mem_cons]; exact .inr (.inr (.inr hm'))
 refine ⟨?_,?_,?_,R.lt b hmem,R.base b hmem⟩ <;> intro h <;> subst h
 ·exact ha.1.2.2 hm'
 ·exact ha.2.1.2 hm'
 ·exact ha.2.2.1 hm'
theorem Rep.insert (R:Rep w lo p mf mt D) {s:ByteArray} {fb:Nat} (hs:s.size ≤ 32) (hfind:findE D.ents (nm s) = none) (ht:Tc [mf] w w') (hfb:w.heap.size ≤ fb) (hlo:lo ≤ fb)
  (hrow:w'.heap[fb]? = some (.cells #[.int .i64 0,.slice none 0 0] 160 (0,0))) (hmap:w'.ownsMap Tryz.prog 9 ptrElem mf (D.ents.length + 1) ((mapOf D.ents).put (.string (nm s)) (.lit (.int .i64 fb)))) :
  Rep w' lo p mf mt { D with ents:=insE ⟨nm s,⟨false,[]⟩,⟨fb,.slice none 0 0,[]⟩⟩ D.ents }:=by
 obtain ⟨n,hT⟩:=R.troubles
 have hne:=R.p_ne
 have hperm:=insE_perm ⟨nm s,⟨false,[]⟩,⟨fb,.slice none 0 0,[]⟩⟩ D.ents
 have hfoot:(DkC.foot { D with ents:=insE ⟨nm s,⟨false,[]⟩,⟨fb,.slice none 0 0,[]⟩⟩ D.ents } p mf mt).Perm (fb :: D.foot p mf mt):=by
  simp only [DkC.foot]
  have h1:=hperm.flatMap_right fun e:Ent=>e.lay.foot
  have h2:(({ name:=nm s,file:=⟨false,[]⟩,lay:=⟨fb,.slice none 0 0,[]⟩ }:Ent) :: D.ents).flatMap (fun e=>e.lay.foot) = fb :: D.ents.flatMap fun e=>e.lay.foot:=by
   simp [Lay.foot,Value.ownBlock]
  rw [h2] at h1
  refine (((h1.cons mt).cons mf).cons p).trans ?_
  refine .trans (((List.Perm.swap fb mt _).cons mf).cons p) ?_
  exact .trans ((List.Perm.swap fb mf _).cons p) (.swap fb p _)
 have hold:∀ b ∈ D.foot p mf mt,b ≠ mf → w'.heap[b]? = w.heap[b]?:=fun b hb h=>ht.block b (R.lt b hb) (by simp [h])
 refine ⟨(hold p (by simp [DkC.foot]) hne.2.1).trans R.row,?_,⟨n,ownsMap_kept hT (hold mt (by simp [DkC.foot]) hne.2.2.symm)⟩,?_,?_,?_,?_⟩
 ·have hp:=put_map (e:=⟨nm s,⟨false,[]⟩,⟨fb,.slice none 0 0,[]⟩⟩) hfind
  rw [hp] at hmap
  have hl:(insE ⟨nm s,⟨false,[]⟩,⟨fb,.slice none 0 0,[]⟩⟩ D.ents).length = D.ents.length + 1:=by rw [hperm.length_eq]; rfl
  show w'.ownsMap Tryz.prog 9 ptrElem mf (insE _ D.ents).length _
  rw [hl]
  exact hmap
 ·intro e he
  rcases List.mem_cons.1 (hperm.mem_iff.1 he) with rfl | he
  ·exact ⟨hrow,World.ownsRow_nil _ _ _ _,fun i b bl hb _=>by simp at hb⟩
  ·exact (R.each e he).kept fun b hb=>by
    have:=R.ent_ne he hb
    exact ht.block b this.2.2.2.1 (by simp [this.2.1])
 ·rw [hfoot.nodup_iff,List.nodup_cons]
  exact ⟨fun h=>by have:=R.lt fb h; omega,R.apart⟩
 ·intro b hb
  rcases List.mem_cons.1 (hfoot.mem_iff.1 hb) with rfl | hb
  ·exact hlo
  ·exact R.base b hb
 ·intro e he
  rcases List.mem_cons.1 (hperm.mem_iff.1 he) with rfl | he
  ·show (nm s).length ≤ 32
   rw [Array.length_toList]
   exact hs
  ·exact R.names e he
end
section
variable {w w':World} {E:Nat → Addr} {lo p mf mt:Nat} {D:DkC}
theorem file_store {W:World} {n:Nat} {Dm:DataW Unit} (h:W.ownsMap Tryz.prog 9 ptrElem mf n Dm) (hn:n ≤ 1099511627776) {s:ByteArray} (hs:s.size ≤ 32) (fb:Nat) :
  ∃ w2,(Instr.mapUpdate 97 (.map (some mf)) (.string s) (.pointer (some ⟨fb,0,none⟩))).run Tryz.prog W = .ok () w2 ∧ w2.ownsMap Tryz.prog 9 ptrElem mf (n + 1) (Dm.put (.string (nm s)) (.lit (.int .i64 fb))) ∧ W.grownBy w2 (some mf):=by
 obtain ⟨w2,h1,h2,h3⟩:=h.store (t:=97) (e:=128) (Maps.string_keyed Tryz.underlying9) Tryz.underlying97 (by unfold maxLen; omega) (WideMaps.keyOf_string_mk Tryz.underlying9 (s:=s) (by unfold maxLen; omega)) (val:=.pointer (some ⟨fb,0,none⟩)) (d:=.lit (.int .i64 fb)) (ps:=[]) rfl
 exact ⟨w2,h1,h2,h3.grown⟩
theorem two_stores {X w1:World} {bd bn:Nat} (ht:Tc [] w X) (R:Rep w lo p mf mt D) (hn:D.ents.length ≤ 1099511627776) {s:ByteArray} (hs:s.size ≤ 32) (hbd:w.heap[bd]? = some (.cells #[ptr p] 32 (0,0))) (hbn:w.heap[bn]? = some (.cells #[.string s] 9 (0,0))) (hb:Below X.heap.size X w1) (fb:Nat) :
  ∃ wA wB,(Instr.mapUpdate 97 (.map (some mf)) (.string s) (.pointer (some ⟨w1.heap.size,0,none⟩))).run Tryz.prog (w1.alloc (.cells #[.int .i64 0,.slice none 0 0] 160)) = .ok () wA ∧
   wA.ownsMap Tryz.prog 9 ptrElem mf (D.ents.length + 1) ((mapOf D.ents).put (.string (nm s)) (.lit (.int .i64 w1.heap.size))) ∧ (w1.alloc (.cells #[.int .i64 0,.slice none 0 0] 160)).grownBy wA (some mf) ∧
   (Instr.mapUpdate 97 (.map (some mf)) (.string s) (.pointer (some ⟨fb,0,none⟩))).run Tryz.prog w1 = .ok () wB ∧ wB.ownsMap Tryz.prog 9 ptrElem mf (D.ents.length + 1) ((mapOf D.ents).put (.string (nm s)) (.lit (.int .i64 fb))) ∧ w1.grownBy wB (some mf) ∧
   w1.cell? ⟨p,3,none⟩ = some (.map (some mf)) ∧ w1.cell? ⟨bd,0,none⟩ = some (ptr p) ∧ w1.cell? ⟨bn,0,none⟩ = some (.string s) ∧ (p < w1.heap.size ∧ bd < w1.heap.size ∧ bn < w1.heap.size) ∧ (wA.cell? ⟨p,3,none⟩ = some (.map (some mf)) ∧ wA.cell? ⟨bd,0,none⟩ = some (ptr p) ∧ wA.cell? ⟨bn,0,none⟩ = some (.string s)) ∧ (wB.cell? ⟨p,3,none⟩ = some (.map (some mf)) ∧ wB.cell? ⟨bd,0,none⟩ = some (ptr p) ∧ wB.cell? ⟨bn,0,none⟩ = some (.string s)) ∧ Hid (Tc [] w w1) ∧ Hid (∀ b,b < X.heap.size → w1.heap[b]? = X.heap[b]?):=by
 have hT:Tc [] w w1:=ht.trans (Tc.of_below (F:=[]) hb (Nat.le_refl _)) (by simp)
 have h1:=ownsMap_kept R.files (hT.block mf R.files.lt (by simp))
 obtain ⟨wA,a1,a2,a3⟩:=file_store (h1.alloc (.cells #[.int .i64 0,.slice none 0 0] 160)) hn hs w1.heap.size
 obtain ⟨wB,b1,b2,b3⟩:=file_store h1 hn hs fb
 have q1:w1.cell? ⟨p,3,none⟩ = some (.map (some mf)):=by rw [hT.cell (p:=⟨p,3,none⟩) (ltB R.row) (by simp),R.cell 3]; rfl
 have q2:w1.cell? ⟨bd,0,none⟩ = some (ptr p):=by rw [hT.cell (p:=⟨bd,0,none⟩) (ltB hbd) (by simp),cRw hbd]; rfl
 have q3:w1.cell? ⟨bn,0,none⟩ = some (.string s):=by rw [hT.cell (p:=⟨bn,0,none⟩) (ltB hbn) (by simp),cRw hbn]; rfl
 have l1:=Nat.lt_of_lt_of_le (ltB R.row) hT.size
 have l2:=Nat.lt_of_lt_of_le (ltB hbd) hT.size
 have l3:=Nat.lt_of_lt_of_le (ltB hbn) hT.size
 obtain ⟨es,clock,hes,_⟩:=R.files
 have n1:some p ≠ some mf:=by simp [R.p_ne.2.1]
 have n2:some bd ≠ some mf:=by intro e; simp at e; subst e; rw [hes] at hbd; simp at hbd
 have n3:some bn ≠ some mf:=by intro e; simp at e; subst e; rw [hes] at hbn; simp at hbn
 have al:∀ b o v,b < w1.heap.size → w1.cell? ⟨b,o,none⟩ = some v → (w1.alloc (.cells #[.int .i64 0,.slice none 0 0] 160)).cell? ⟨b,o,none⟩ = some v:=fun b o v hlt hv=>(World.cell?_of_block (Below.heap_alloc w1 _ b hlt)).trans hv
 exact ⟨wA,wB,a1,a2,a3,b1,b2,b3,q1,q2,q3,⟨l1,l2,l3⟩,⟨a3.cell (al _ _ _ l1 q1) n1,a3.cell (al _ _ _ l2 q2) n2,a3.cell (al _ _ _ l3 q3) n3⟩,⟨b3.cell q1 n1,b3.cell q2 n2,b3.cell q3 n3⟩,hT,fun b hlt=>hb.block b hlt⟩
set_option maxRecDepth 100000 in
set_option maxHeartbeats 400000 in
theorem create1_any (R:Rep w lo p mf mt D) {s:ByteArray} (k:Int) (bd bn:Nat) (hs:s.size ≤ 32) (hfind:findE D.ents (nm s) = none) (hlo:lo ≤ w.heap.size) (hsmall:D.ents.length ≤ 1099511627776)
  (hbd:w.heap[bd]? = some (.cells #[ptr p] 32 (0,0))) (hbn:w.heap[bn]? = some (.cells #[.string s] 9 (0,0))) :
  Calls Tryz.prog 89 #[.int .i64 k,ptr bd,ptr bn] w fun e w'=>e = .returned (.tuple #[]) ∧ (∃ fb,w.heap.size ≤ fb ∧ Rep w' lo p mf mt { D with ents:=insE ⟨nm s,⟨false,[]⟩,⟨fb,.slice none 0 0,[]⟩⟩ D.ents }) ∧ Tc [mf] w w':=by
 have k3:=R.cell 3
 simp only [dRow] at k3
 have cd:=cRw hbd 0
 have cn:=cRw hbn 0
 simp at cd cn
 go_enter Tryz.func89,Tryz.ntmps89
 go_wp2
 have hmf:=R.files.lt
 have hp:=ltB R.row
 have lbd:=ltB hbd
 have lbn:=ltB hbn
 have HF:=hid R.files
 have HN:=hid hfind
 clear hfind
 have HR:=hid R
 clear R HF
 go_region_held3 (fun W=>W.cell? ⟨p,3,none⟩ = some (.map (some mf)) ∧ W.cell? ⟨bd,0,none⟩ = some (ptr p) ∧ W.cell? ⟨bn,0,none⟩ = some (.string s)) (go_keep)
  (first | (go_at_call 79; refine (ownName_any s _ (by omega)).mono ?_; rintro e w1 ⟨rfl,hb1⟩; obtain ⟨wA,wB,hA,mA,tA,hB,mB,tB,z1,z2,z3,⟨z4,z5,z6⟩,⟨y1,y2,y3⟩,⟨x1,x2,x3⟩,hT1,hX⟩:=two_stores (by first | exact (Tc.refl _ _).drew | exact ((Tc.refl _ _).drew).alloc _ | exact ((Tc.refl _ _).alloc _).drew) HR.out hsmall hs hbd hbn hb1 w.heap.size; clear hb1))
 ·go_wp2
  go_end0
  have hm1:mf ≠ w1.heap.size:=by have:=hT1.out.size; omega
  have ht:Tc [mf] w wA:=((hT1.out.mono (by simp)).alloc _).grown tA (by simp)
  refine ⟨rfl,⟨w1.heap.size,hT1.out.size,HR.out.insert hs HN.out ht hT1.out.size (Nat.le_trans hlo hT1.out.size) ?_ mA⟩,ht⟩
  rw [tA.block _ (by simp) (by simpa using hm1.symm)]
  exact heap_alloc_new w1 _
 ·go_wp2
  go_end0
  have ht:Tc [mf] w wB:=(hT1.out.mono (by simp)).grown tB (by simp)
  have h1:w.heap.size < w1.heap.size:=by
   have h2:=hX.out w.heap.size (by simp)
   have h3:(w.alloc (.cells #[.int .i64 0,.slice none 0 0] 160)).drew.heap[w.heap.size]? = some (.cells #[.int .i64 0,.slice none 0 0] 160):=heap_alloc_new w _
   rw [h3] at h2
   exact ltB h2
  refine ⟨rfl,⟨w.heap.size,Nat.le_refl _,HR.out.insert hs HN.out ht (Nat.le_refl _) hlo ?_ mB⟩,ht⟩
  rw [tB.block _ h1 (by simp; omega),hX.out w.heap.size (by simp)]
  exact heap_alloc_new w _
end
end Go.Proofs.YthehcjjckabljaaGreatDoor
