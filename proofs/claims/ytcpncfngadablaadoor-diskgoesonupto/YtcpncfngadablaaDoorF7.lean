import Derived.Test.YtcpncfngadablaaDoorF6
namespace Go.Proofs.YtcpncfngadablaaDoor
open Go.RowKit Go.Deep

section
variable {w W : World} {lo p mf mt p2 mf2 mt2 B t wb : Nat} {x : Cnt} {D D2 : DiskC}

theorem Both.same (h : Both w lo p mf mt p2 mf2 mt2 B t wb x D D2) (ht : t ≤ 1099511627776) {n1 n2 : Nat} {fv1 fv2 : Value} {l1 l2 : List SFile} (h1 : StateAt W n1 B fv1 l1) (e1 : l1.map SFile.pub = D.ents.map Ent.pub) (h2 : StateAt W n2 B fv2 l2) (e2 : l2.map SFile.pub = D2.ents.map Ent.pub) :
    Calls Tryd.prog 11 #[.agg #[.int .i64 (B : Int), fv1], .agg #[.int .i64 (B : Int), fv2]] W fun e w' => e = .returned (.bool true) ∧ Below W.heap.size W w' := by
  have hg := (h.d.good e1 ht).1
  have hf : D.ents.map Ent.pub = D2.ents.map Ent.pub := h.like.files
  refine SameState_true (x := (B : Int)) h1 h2 (e1.trans (hf.trans e2.symm)) hg.few fun e he => ?_
  obtain ⟨i, hi, rfl⟩ := List.getElem_of_mem he
  exact hg.one (k := i) (List.getElem?_eq_getElem hi)

theorem Both.nums (h : Both w lo p mf mt p2 mf2 mt2 B t wb x D D2) (ht : t ≤ 1099511627776) :
    (D.c.calls - x.calls = D2.c.calls ∧ D.c.reads - x.reads = D2.c.reads ∧ D.c.appends - x.appends = D2.c.appends ∧ D.c.used = D2.c.used) ∧ wrap64 (D.c.calls - x.calls) = D2.c.calls ∧ wrap64 (D.c.reads - x.reads) = D2.c.reads ∧ wrap64 (D.c.appends - x.appends) = D2.c.appends := by
  have i1 : 0 ≤ D2.c.calls ∧ D2.c.calls ≤ t := h.c.inv.calls
  have i2 : 0 ≤ D2.c.reads ∧ D2.c.reads ≤ t := h.c.inv.reads
  have i3 : 0 ≤ D2.c.appends ∧ D2.c.appends ≤ t := h.c.inv.appends
  have l1 : D.c.calls - x.calls = D2.c.calls := h.like.calls
  have l2 : D.c.reads - x.reads = D2.c.reads := h.like.reads
  have l3 : D.c.appends - x.appends = D2.c.appends := h.like.appends
  have l4 : D.c.used = D2.c.used := h.like.used
  refine ⟨⟨l1, l2, l3, l4⟩, ?_, ?_, ?_⟩
  · rw [l1]; exact IntWalk.wrap64_in _ ⟨by omega, by omega⟩
  · rw [l2]; exact IntWalk.wrap64_in _ ⟨by omega, by omega⟩
  · rw [l3]; exact IntWalk.wrap64_in _ ⟨by omega, by omega⟩
end
end Go.Proofs.YtcpncfngadablaaDoor
