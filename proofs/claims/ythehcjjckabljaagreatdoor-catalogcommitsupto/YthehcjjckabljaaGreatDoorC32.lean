import Derived.OpenShut
import Derived.Deep.DeepHandedRow
import Derived.Deep.DeepWitnessRowRef
import Derived.SevenTiedAt
import Derived.Test.YthehcjjckabljaaGreatDoorTie
import Derived.Test.YthehcjjckabljaaGreatDoorCards
import Derived.Test.YthehcjjckabljaaGreatDoorC31
namespace Go.Proofs.YthehcjjckabljaaGreatDoor
open Go.ChangeShapes Go.WideShapes Go.ChangeAt Go.RowKit Go.Deep
set_option maxRecDepth 100000
theorem catalogCommits_contract (H:Type) (enc:TypeId × Value → H) (W:World) (base:Nat) (args:Array Value) (ds gs:List (DataW H)) (before:List MemPlace)
  (hval:∀ (j:Nat) t v,Tryz.f7.params[j]? = some t → args[j]? = some v → Value.okWide Tryz.prog W .any base t v)
  (hW:DataW.Whole enc Tryz.prog Tryz.f7.params.toList Rows.catalogCommitsSpec.vars false W args.toList ds gs before) (hk:Rows.uptoSmall H (ds ++ gs) = true) (hL:laidMetH Tryz.prog Rows.catalogCommitsUptoRow.laid W) :
  Calls Tryz.prog 7 args W fun e W'=>∃ v,e = .returned v ∧ Rows.catalogCommitsSpec.post enc Tryz.prog Tryz.f7 false true false false W args v W':=by
 have hW':=hW
 obtain ⟨p,q,hA0,hV,rfl,hfz,hnd⟩:=hW
 have hA:DataW.TrodAll enc Tryz.prog W 0 (fun _=>true) true Tryz.f7.params.toList args.toList ds p:=hA0
 rw [Tryz.params7] at hA hval
 obtain ⟨v0,vs0,d0,ds0,p0,q0,hargs0,rfl,rfl,h0,r0⟩:=trodAll_cons hA
 obtain ⟨v1,vs1,d1,ds1,p1,q1,rfl,rfl,rfl,h1,r1⟩:=trodAll_cons r0
 obtain ⟨v2,vs2,d2,ds2,p2,q2,rfl,rfl,rfl,h2,r2⟩:=trodAll_cons r1
 obtain ⟨rfl,rfl,rfl⟩:=trodAll_nil r2
 obtain rfl:args = #[v0,v1,v2]:=by cases args; simp_all
 obtain ⟨rfl,rfl⟩:=trodVars_none hV
 have hb:=of_decide_eq_true hk
 simp only [List.append_nil,Rows.uptoBulkAll] at hb
 obtain ⟨g,rfl,rfl,rfl,w2⟩:=open_int Tryz.underlying24 (hval 2 24 v2 rfl rfl) h2
 have hg0:=u64_wf w2
 obtain ⟨gen,rfl⟩:∃ k:Nat,g = k:=⟨g.toNat,by omega⟩
 clear hA0
 simp only [List.append_nil] at hW'
 have hlt0:∀ x ∈ p0,x.block < W.heap.size:=fun x hx=>by simpa using hW'.lt x (by simp [hx])
 have hlt1:∀ x ∈ p1,x.block < W.heap.size:=fun x hx=>by simpa using hW'.lt x (by simp [hx])
 obtain ⟨n,sa,m,ca,l,rfl,hin,hm,hmc,hnil,hn⟩:=open_wld (hval 0 57 v0 rfl rfl) h0 (by omega)
 obtain ⟨t,so,sr,co,cr,rfl,ht⟩:=open_tbl (hval 1 26 v1 rfl rfl) h1 (by omega)
 obtain ⟨E,hE,hT,h17⟩:=sents_of_laid (show laidMetH Tryz.prog Rows.catalogFormsUptoRow.laid W from hL)
 refine (commits_any ⟨hE,hT,h17,hin,by omega⟩ hn hm hmc hnil ht (by omega)).mono fun e W' ⟨he,htt⟩=>?_
 subst he
 have hnx:Below W.heap.size W W':=htt.below (Nat.le_refl _) (by simp)
 refine ⟨_,rfl,_,_,_,[],_,[],hW',?_,trodAll_cons_mk (Below.trod laidOut (by kernel_rfl) (of_decide_eq_true (by kernel_rfl)) h0 hnx hlt0) (trodAll_cons_mk (Below.trod laidOut (by kernel_rfl) (of_decide_eq_true (by kernel_rfl)) h1 hnx hlt1) (trodAll_mk1 (shut_int Tryz.underlying24 w2))),rfl,hnx.frame _,fun h=>by cases h⟩
 exact trodAll_mk1 (shut_bool Tryz.underlying4 _)
theorem catalogCommits_lifted (os:Os) (started:os.Started) (H:Type) (enc:TypeId × Value → H) (F:Stop.Interp) :
  ReturnsInHanded {} Tryz.checked os 7 .any ((Rows.OpenSpec.upto Rows.catalogCommitsSpec).preRow enc Tryz.prog Tryz.f7 Rows.catalogCommitsUptoRow.domain false Rows.catalogCommitsUptoRow.laid) (((Rows.OpenSpec.upto Rows.catalogCommitsSpec).at F).post enc Tryz.prog Tryz.f7 false true false false):=by
 obtain ⟨lw,hlw⟩:∃ lw:World,lw = (fun w0:World=>{ w0 with heap:=((((((((((((((((w0.heap.modify 15 fun
   | .cells _ t frozen=>.cells #[.int .u8 0,.int .u8 1,.int .u8 28,.int .u8 2,.int .u8 29,.int .u8 14,.int .u8 24,.int .u8 3,.int .u8 30,.int .u8 22,.int .u8 20,.int .u8 15,.int .u8 25,.int .u8 17,.int .u8 4,.int .u8 8,.int .u8 31,.int .u8 27,.int .u8 13,.int .u8 23,.int .u8 21,.int .u8 19,.int .u8 16,.int .u8 7,.int .u8 26,.int .u8 12,.int .u8 18,.int .u8 6,.int .u8 11,.int .u8 5,.int .u8 10,.int .u8 9] t frozen
   | o=>o).modify 16 fun
   | .cells _ t frozen=>.cells #[.int .u8 0,.int .u8 1,.int .u8 56,.int .u8 2,.int .u8 57,.int .u8 49,.int .u8 28,.int .u8 3,.int .u8 61,.int .u8 58,.int .u8 42,.int .u8 50,.int .u8 38,.int .u8 29,.int .u8 17,.int .u8 4,.int .u8 62,.int .u8 47,.int .u8 59,.int .u8 36,.int .u8 45,.int .u8 43,.int .u8 51,.int .u8 22,.int .u8 53,.int .u8 39,.int .u8 33,.int .u8 30,.int .u8 24,.int .u8 18,.int .u8 12,.int .u8 5,.int .u8 63,.int .u8 55,.int .u8 48,.int .u8 27,.int .u8 60,.int .u8 41,.int .u8 37,.int .u8 16,.int .u8 46,.int .u8 35,.int .u8 44,.int .u8 21,.int .u8 52,.int .u8 32,.int .u8 23,.int .u8 11,.int .u8 54,.int .u8 26,.int .u8 40,.int .u8 15,.int .u8 34,.int .u8 20,.int .u8 31,.int .u8 10,.int .u8 25,.int .u8 14,.int .u8 19,.int .u8 9,.int .u8 13,.int .u8 8,.int .u8 7,.int .u8 6] t frozen
   | o=>o).modify 11 fun
   | .cells _ t frozen=>.cells #[.int .u64 1,.int .u64 10,.int .u64 100,.int .u64 1000,.int .u64 10000,.int .u64 100000,.int .u64 1000000,.int .u64 10000000,.int .u64 100000000,.int .u64 1000000000,.int .u64 10000000000,.int .u64 100000000000,.int .u64 1000000000000,.int .u64 10000000000000,.int .u64 100000000000000,.int .u64 1000000000000000,.int .u64 10000000000000000,.int .u64 100000000000000000,.int .u64 1000000000000000000,.int .u64 10000000000000000000] t frozen
   | o=>o).modify 14 fun
   | .cells _ t frozen=>.cells #[.iface 341 (.pointer (some ⟨(World.holding Tryz.prog default ⟨#[],#[],[]⟩).heap.size + 0,0,none⟩))] t frozen
   | o=>o).modify 13 fun
   | .cells _ t frozen=>.cells #[.iface 341 (.pointer (some ⟨(World.holding Tryz.prog default ⟨#[],#[],[]⟩).heap.size + 1,0,none⟩))] t frozen
   | o=>o).modify 10 fun
   | .cells _ t frozen=>.cells #[.iface 341 (.pointer (some ⟨(World.holding Tryz.prog default ⟨#[],#[],[]⟩).heap.size + 2,0,none⟩))] t frozen
   | o=>o).modify 0 fun
   | .cells _ t frozen=>.cells #[.iface 341 (.pointer (some ⟨(World.holding Tryz.prog default ⟨#[],#[],[]⟩).heap.size + 3,0,none⟩))] t frozen
   | o=>o).modify 6 fun
   | .cells _ t frozen=>.cells #[.iface 341 (.pointer (some ⟨(World.holding Tryz.prog default ⟨#[],#[],[]⟩).heap.size + 4,0,none⟩))] t frozen
   | o=>o).modify 7 fun
   | .cells _ t frozen=>.cells #[.iface 341 (.pointer (some ⟨(World.holding Tryz.prog default ⟨#[],#[],[]⟩).heap.size + 5,0,none⟩))] t frozen
   | o=>o).modify 3 fun
   | .cells _ t frozen=>.cells #[.iface 341 (.pointer (some ⟨(World.holding Tryz.prog default ⟨#[],#[],[]⟩).heap.size + 6,0,none⟩))] t frozen
   | o=>o).modify 2 fun
   | .cells _ t frozen=>.cells #[.iface 341 (.pointer (some ⟨(World.holding Tryz.prog default ⟨#[],#[],[]⟩).heap.size + 7,0,none⟩))] t frozen
   | o=>o).modify 4 fun
   | .cells _ t frozen=>.cells #[.iface 341 (.pointer (some ⟨(World.holding Tryz.prog default ⟨#[],#[],[]⟩).heap.size + 8,0,none⟩))] t frozen
   | o=>o).modify 8 fun
   | .cells _ t frozen=>.cells #[.iface 341 (.pointer (some ⟨(World.holding Tryz.prog default ⟨#[],#[],[]⟩).heap.size + 9,0,none⟩))] t frozen
   | o=>o).modify 9 fun
   | .cells _ t frozen=>.cells #[.iface 341 (.pointer (some ⟨(World.holding Tryz.prog default ⟨#[],#[],[]⟩).heap.size + 10,0,none⟩))] t frozen
   | o=>o).modify 1 fun
   | .cells _ t frozen=>.cells #[.iface 341 (.pointer (some ⟨(World.holding Tryz.prog default ⟨#[],#[],[]⟩).heap.size + 11,0,none⟩))] t frozen
   | o=>o).modify 5 fun
   | .cells _ t frozen=>.cells #[.iface 341 (.pointer (some ⟨(World.holding Tryz.prog default ⟨#[],#[],[]⟩).heap.size + 12,0,none⟩))] t frozen
   | o=>o) }) (World.holding Tryz.prog os ⟨#[.cells #[.string ⟨#[118,97,108,117,101,32,111,117,116,32,111,102,32,114,97,110,103,101]⟩] 343,.cells #[.string ⟨#[105,110,118,97,108,105,100,32,115,121,110,116,97,120]⟩] 343,.cells #[.string ⟨#[97,32,115,101,116,117,112,32,116,104,97,116,32,109,97,121,32,110,111,116,32,98,101]⟩] 343,.cells #[.string ⟨#[97,32,102,97,117,108,116,32,98,101,102,97,108,108,115,32,116,104,101,32,99,97,108,108]⟩] 343,.cells #[.string ⟨#[116,104,101,32,112,111,119,101,114,32,105,115,32,111,102,102]⟩] 343,.cells #[.string ⟨#[110,111,32,110,97,109,101]⟩] 343,.cells #[.string ⟨#[110,111,32,102,105,108,101,32,111,102,32,116,104,97,116,32,110,97,109,101]⟩] 343,.cells #[.string ⟨#[97,32,102,105,108,101,32,111,102,32,116,104,97,116,32,110,97,109,101,32,97,108,114,101,97,100,121]⟩] 343,.cells #[.string ⟨#[116,104,101,32,102,105,108,101,32,105,115,32,115,101,97,108,101,100]⟩] 343,.cells #[.string ⟨#[116,104,101,32,102,105,108,101,32,105,115,32,110,111,116,32,115,101,97,108,101,100]⟩] 343,.cells #[.string ⟨#[110,111,32,115,117,99,104,32,98,108,111,99,107]⟩] 343,.cells #[.string ⟨#[110,111,32,98,108,111,99,107,32,105,115,32,102,114,101,101]⟩] 343,.cells #[.string ⟨#[110,111,32,115,116,97,116,101,32,111,102,32,97,32,100,105,115,107]⟩] 343],#[],[]⟩):=⟨_,rfl⟩
 have hos:lw.os = os:=by rw [hlw]; rfl
 have hv:(lw.forCall (fun _ _=>0) ⟨#[],#[.agg #[.int .i64 0,.slice none 0 0],.agg #[.int .i64 0,.slice none 0 0,.slice none 0 0,.int .i64 0,.int .u64 0],.int .u64 0],[]⟩).variablesRefB Tryz.checked.prog = true:=by rw [hlw]; kernel_rfl
 have hr:((lw.forCall (fun _ _=>0) ⟨#[],#[.agg #[.int .i64 0,.slice none 0 0],.agg #[.int .i64 0,.slice none 0 0,.slice none 0 0,.int .i64 0,.int .u64 0],.int .u64 0],[]⟩).heap.toList.drop Tryz.checked.prog.globals.size).take ((begin Tryz.checked.prog (fun _ _=>0) default).world.heap.size - Tryz.checked.prog.globals.size) = (begin Tryz.checked.prog (fun _ _=>0) default).world.heap.toList.drop Tryz.checked.prog.globals.size:=by rw [hlw]; kernel_rfl
 have hok:Input.okWideB Tryz.checked.prog (lw.forCall (fun _ _=>0) ⟨#[],#[.agg #[.int .i64 0,.slice none 0 0],.agg #[.int .i64 0,.slice none 0 0,.slice none 0 0,.int .i64 0,.int .u64 0],.int .u64 0],[]⟩) 7 ⟨#[],#[.agg #[.int .i64 0,.slice none 0 0],.agg #[.int .i64 0,.slice none 0 0,.slice none 0 0,.int .i64 0,.int .u64 0],.int .u64 0],[]⟩ = true:=by rw [hlw]; kernel_rfl
 have hx:DataW.whole enc Tryz.prog (lw.forCall (fun _ _=>0) ⟨#[],#[.agg #[.int .i64 0,.slice none 0 0],.agg #[.int .i64 0,.slice none 0 0,.slice none 0 0,.int .i64 0,.int .u64 0],.int .u64 0],[]⟩).memory Tryz.f7.params.toList Rows.catalogCommitsSpec.vars false #[Value.agg #[.int .i64 0,.slice none 0 0],.agg #[.int .i64 0,.slice none 0 0,.slice none 0 0,.int .i64 0,.int .u64 0],.int .u64 0].toList 8 = some ([.agg [.lit (.int .i64 0),.nil],.agg [.lit (.int .i64 0),.nil,.nil,.lit (.int .i64 0),.lit (.int .u64 0)],.lit (.int .u64 0)],[],[]):=by rw [hlw]; kernel_rfl
 have hlm:laidMet Tryz.prog Rows.catalogCommitsUptoRow.laid (lw.forCall (fun _ _=>0) ⟨#[],#[.agg #[.int .i64 0,.slice none 0 0],.agg #[.int .i64 0,.slice none 0 0,.slice none 0 0,.int .i64 0,.int .u64 0],.int .u64 0],[]⟩).memory:=by rw [hlw]; exact laidMet_of_run' 8 (by kernel_rfl) (by kernel_rfl)
 clear hlw
 refine returnsInHanded_of_row (C:=Tryz.checked) (s:=Rows.OpenSpec.upto Rows.catalogCommitsSpec) own started (by kernel_rfl) Tryz.func7
  (witness_row_atRef (enc:=enc) (C:=Tryz.checked) false lw #[.agg #[.int .i64 0,.slice none 0 0],.agg #[.int .i64 0,.slice none 0 0,.slice none 0 0,.int .i64 0,.int .u64 0],.int .u64 0] hos hv hr hok
   (OpenSpec.preRow_of_cond 8 hx (by kernel_rfl) (fun k hk=>by cases hk; kernel_rfl) (by kernel_rfl) hlm)) ?_
 intro W base args ds gs before hval hW _ hcond _ hL _ _
 exact catalogCommits_contract H enc W base args ds gs before hval hW (hcond _ rfl) hL
end Go.Proofs.YthehcjjckabljaaGreatDoor
