import Derived.Test.YtcpncfngadablaaDoorE7
import Derived.Test.YtcpncfngadablaaDoorD5
namespace Go.Proofs.YtcpncfngadablaaDoor
open Go.RowKit Go.Deep

/-- an operation of a script. -/
structure OpA where
  kind : Int
  name : ByteArray
  N : Int
  bit : Int
  data : List UInt8

def stepA (o : OpA) (A : PubA) : ToldA × PubA :=
  if o.kind = 1 then (.err (createA o.name A).1, (createA o.name A).2)
  else if o.kind = 2 then (.err (appendA o.name (dataA o.N A.B o.data) A).1, (appendA o.name (dataA o.N A.B o.data) A).2)
  else if o.kind = 3 then (.err (sealA o.name A).1, (sealA o.name A).2)
  else if o.kind = 4 then (⟨(readA o.name o.N A).2.1, 0, false, (readA o.name o.N A).1.getD [], [], cnt0⟩, (readA o.name o.N A).2.2)
  else if o.kind = 5 then (.err (deleteA o.name A).1, (deleteA o.name A).2)
  else if o.kind = 6 then (⟨(lengthA o.name A).2.2, (lengthA o.name A).1, (lengthA o.name A).2.1, [], [], cnt0⟩, A)
  else if o.kind = 7 then (⟨0, 0, false, [], A.files.map Prod.fst, cnt0⟩, A)
  else if o.kind = 8 then (⟨0, 0, false, [], [], A.c⟩, A)
  else if o.kind = 9 then (.err (spoilA o.name o.N o.bit A).1, (spoilA o.name o.N o.bit A).2)
  else (.err 0, A)

section
variable {w w' : World} {E : Nat → Addr} {lo p mf mt : Nat} {D : DiskC}

theorem program_any (V : Env w lo E) (R : Rep w lo p mf mt D) (hT : D.T = .map []) (ho : D.on = true) (hS : Small D.pub) (hcc : D.c.calls + 1 ≤ 1099511627776) (o : OpA) {sa : Option Addr} {n c : Nat} (hd : Shows w sa n c o.data) (hn : n ≤ 1073741824) :
    Calls Tryd.prog 7 #[ptr p, opV o.kind o.name o.N o.bit sa n c, .int .i64 D.B] w fun e w' => ∃ v, e = .returned (.tuple #[v, .bool true]) ∧ ToldAt w' w.heap.size (stepA o D.pub).1 v ∧ Did w w' lo p mf mt D (stepA o D.pub).2 := by
  obtain ⟨k, s, N, bit, d⟩ := o
  unfold stepA
  simp only
  by_cases h1 : k = 1
  · subst h1
    exact program_1 V R hT ho hS hcc s N bit sa n c
  rw [if_neg h1, ]
  by_cases h2 : k = 2
  · subst h2
    exact program_2 V R hT ho hS hcc s N bit hd hn
  rw [if_neg h2]
  by_cases h3 : k = 3
  · subst h3
    exact program_3 V R hT ho hS hcc s N bit sa n c
  rw [if_neg h3]
  by_cases h4 : k = 4
  · subst h4
    exact program_4 V R hT ho hS s N bit sa n c
  rw [if_neg h4]
  by_cases h5 : k = 5
  · subst h5
    exact program_5 V R hT ho hS hcc s N bit sa n c
  rw [if_neg h5]
  by_cases h6 : k = 6
  · subst h6
    exact program_6 V R hT ho s N bit sa n c
  rw [if_neg h6]
  by_cases h7 : k = 7
  · subst h7
    have h := program_7 R hT ho hS s N bit sa n c
    have e : D.pub.files.map Prod.fst = D.ents.map Ent.name := by simp [DiskC.pub, Ent.pub]
    rw [if_pos rfl, e]
    exact h
  rw [if_neg h7]
  by_cases h8 : k = 8
  · subst h8
    exact program_8 R hT s N bit sa n c
  rw [if_neg h8]
  by_cases h9 : k = 9
  · subst h9
    exact program_9 V R hT ho hS hcc s N bit sa n c
  rw [if_neg h9]
  exact program_0 R hT k (by simpa using h1) (by simpa using h2) (by simpa using h3) (by simpa using h4) (by simpa using h5) (by simpa using h6) (by simpa using h7) (by simpa using h8) (by simpa using h9) s N bit sa n c
end

/-- two disks that hold the same; the first has been called before. -/
structure Like (x : Cnt) (A C : PubA) : Prop where
  B : A.B = C.B
  Bs : A.Bs = C.Bs
  on : A.on = C.on
  files : A.files = C.files
  used : A.c.used = C.c.used
  calls : A.c.calls - x.calls = C.c.calls
  reads : A.c.reads - x.reads = C.c.reads
  appends : A.c.appends - x.appends = C.c.appends

theorem Like.create {x : Cnt} {A C : PubA} (h : Like x A C) (s : ByteArray) : (createA s A).1 = (createA s C).1 ∧ Like x (createA s A).2 (createA s C).2 := by
  have h0 := h
  obtain ⟨h1, h2, h3, h4, h5, h6, h7, h8⟩ := h
  unfold createA
  rw [← h4]
  repeat' split
  all_goals first | exact ⟨rfl, h0⟩ | exact ⟨rfl, by constructor <;> first | rfl | assumption | (simp only []; omega) | (simp; omega)⟩

theorem Like.seal {x : Cnt} {A C : PubA} (h : Like x A C) (s : ByteArray) : (sealA s A).1 = (sealA s C).1 ∧ Like x (sealA s A).2 (sealA s C).2 := by
  have h0 := h
  obtain ⟨h1, h2, h3, h4, h5, h6, h7, h8⟩ := h
  unfold sealA
  rw [← h4]
  repeat' split
  all_goals first | exact ⟨rfl, h0⟩ | exact ⟨rfl, by constructor <;> first | rfl | assumption | (simp only []; omega) | (simp; omega)⟩

theorem Like.delete {x : Cnt} {A C : PubA} (h : Like x A C) (s : ByteArray) : (deleteA s A).1 = (deleteA s C).1 ∧ Like x (deleteA s A).2 (deleteA s C).2 := by
  have h0 := h
  obtain ⟨h1, h2, h3, h4, h5, h6, h7, h8⟩ := h
  unfold deleteA
  rw [← h4]
  repeat' split
  all_goals first | exact ⟨rfl, h0⟩ | exact ⟨rfl, by constructor <;> first | rfl | assumption | (simp only []; omega) | (simp; omega)⟩

theorem Like.append {x : Cnt} {A C : PubA} (h : Like x A C) (s : ByteArray) (bl : List UInt8) : (appendA s bl A).1 = (appendA s bl C).1 ∧ Like x (appendA s bl A).2 (appendA s bl C).2 := by
  have h0 := h
  obtain ⟨h1, h2, h3, h4, h5, h6, h7, h8⟩ := h
  unfold appendA
  rw [← h4, ← h1, ← h2, ← h5]
  repeat' split
  all_goals first | exact ⟨rfl, h0⟩ | exact ⟨rfl, by constructor <;> first | rfl | assumption | (simp only []; omega) | (simp; omega)⟩

theorem Like.spoil {x : Cnt} {A C : PubA} (h : Like x A C) (s : ByteArray) (i bit : Int) : (spoilA s i bit A).1 = (spoilA s i bit C).1 ∧ Like x (spoilA s i bit A).2 (spoilA s i bit C).2 := by
  have h0 := h
  obtain ⟨h1, h2, h3, h4, h5, h6, h7, h8⟩ := h
  unfold spoilA
  rw [← h4, ← h1]
  repeat' split
  all_goals first | exact ⟨rfl, h0⟩ | exact ⟨rfl, by constructor <;> first | rfl | assumption | (simp only []; omega) | (simp; omega)⟩

theorem Like.read {x : Cnt} {A C : PubA} (h : Like x A C) (s : ByteArray) (i : Int) : (readA s i A).1 = (readA s i C).1 ∧ (readA s i A).2.1 = (readA s i C).2.1 ∧ Like x (readA s i A).2.2 (readA s i C).2.2 := by
  have h0 := h
  obtain ⟨h1, h2, h3, h4, h5, h6, h7, h8⟩ := h
  unfold readA
  rw [← h4]
  repeat' split
  all_goals first | exact ⟨rfl, rfl, h0⟩ | exact ⟨rfl, rfl, by constructor <;> first | rfl | assumption | (simp only []; omega) | (simp; omega)⟩

theorem Like.length {x : Cnt} {A C : PubA} (h : Like x A C) (s : ByteArray) : lengthA s A = lengthA s C := by
  unfold lengthA
  rw [h.files]

theorem Like.step {x : Cnt} {A C : PubA} (h : Like x A C) (o : OpA) (ho : o.kind ≠ 8) : (stepA o A).1 = (stepA o C).1 ∧ Like x (stepA o A).2 (stepA o C).2 := by
  unfold stepA
  rw [if_neg ho, if_neg ho]
  by_cases h1 : o.kind = 1
  · rw [if_pos h1, if_pos h1]
    exact ⟨by rw [(h.create o.name).1], (h.create o.name).2⟩
  rw [if_neg h1, if_neg h1]
  by_cases h2 : o.kind = 2
  · rw [if_pos h2, if_pos h2, ← h.B]
    exact ⟨by rw [(h.append o.name _).1], (h.append o.name _).2⟩
  rw [if_neg h2, if_neg h2]
  by_cases h3 : o.kind = 3
  · rw [if_pos h3, if_pos h3]
    exact ⟨by rw [(h.seal o.name).1], (h.seal o.name).2⟩
  rw [if_neg h3, if_neg h3]
  by_cases h4 : o.kind = 4
  · rw [if_pos h4, if_pos h4]
    obtain ⟨e1, e2, e3⟩ := h.read o.name o.N
    exact ⟨by rw [e1, e2], e3⟩
  rw [if_neg h4, if_neg h4]
  by_cases h5 : o.kind = 5
  · rw [if_pos h5, if_pos h5]
    exact ⟨by rw [(h.delete o.name).1], (h.delete o.name).2⟩
  rw [if_neg h5, if_neg h5]
  by_cases h6 : o.kind = 6
  · rw [if_pos h6, if_pos h6]
    exact ⟨by rw [h.length], h⟩
  rw [if_neg h6, if_neg h6]
  by_cases h7 : o.kind = 7
  · rw [if_pos h7, if_pos h7]
    exact ⟨by rw [h.files], h⟩
  rw [if_neg h7, if_neg h7]
  by_cases h9 : o.kind = 9
  · rw [if_pos h9, if_pos h9]
    exact ⟨by rw [(h.spoil o.name o.N o.bit).1], (h.spoil o.name o.N o.bit).2⟩
  rw [if_neg h9, if_neg h9]
  exact ⟨rfl, h⟩
end Go.Proofs.YtcpncfngadablaaDoor
