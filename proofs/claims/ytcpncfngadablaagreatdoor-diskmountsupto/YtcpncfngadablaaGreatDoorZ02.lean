import Derived.Test.YtcpncfngadablaaGreatDoorZ01
namespace Go.Proofs.YtcpncfngadablaaGreatDoor
open Go.RowKit Go.Deep

/-- The errors lie below lo. -/
structure Env (w : World) (lo : Nat) (E : Nat → Addr) : Prop where
  sents : Sents w E
  vars : 11 ≤ lo
  objs : ∀ i, i < 11 → (E i).block < lo
  room : lo ≤ w.heap.size

theorem Env.touch {w w' : World} {lo : Nat} {E : Nat → Addr} {F : List Nat} (h : Env w lo E) (ht : Touch F w w') (hF : ∀ b ∈ F, lo ≤ b) : Env w' lo E :=
  ⟨h.sents.below (ht.below h.room hF) h.vars h.objs, h.vars, h.objs, Nat.le_trans h.room ht.size⟩

section
variable {w w' : World} {E : Nat → Addr} {lo p mf mt : Nat} {D : DiskC}

theorem Rep.alloc (R : Rep w lo p mf mt D) (o : Obj) : Rep (w.alloc o) lo p mf mt D := R.touch (F := []) ((Touch.refl _ _).alloc _) (by simp)
theorem Rep.drewN (R : Rep w lo p mf mt D) (n : Nat) : Rep (w.drewN n) lo p mf mt D := R.kept fun _ _ => rfl
theorem Touch.drewN {F : List Nat} {a : World} (h : Touch F a w) (n : Nat) : Touch F a (w.drewN n) := ⟨h.os, h.tape, h.output, h.size, h.block⟩
theorem Env.alloc (h : Env w lo E) (o : Obj) : Env (w.alloc o) lo E := h.touch (F := []) ((Touch.refl _ _).alloc _) (by simp)
theorem Env.drewN (h : Env w lo E) (n : Nat) : Env (w.drewN n) lo E := h.touch (F := []) ((Touch.refl _ _).drewN n) (by simp)

set_option maxRecDepth 100000 in
set_option maxHeartbeats 400000 in
theorem carry_create (R : Rep w lo p mf mt D) {s : ByteArray} {a k b : Int} (bd bn : Nat) (hk1 : (k == 1) = false) (hk2 : (k == 2) = false) (hs : s.size ≤ 32) (hfind : findE D.ents (nm s) = none) (hlo : lo ≤ w.heap.size) (hsmall : D.ents.length ≤ 1099511627776)
    (hbd : w.heap[bd]? = some (.cells #[ptr p] 23 (0, 0))) (hbn : w.heap[bn]? = some (.cells #[.string s] 9 (0, 0))) :
    Calls Tryz.prog 67 #[ptr p, .agg #[.int .i64 a, .int .i64 k, .int .i64 b], .func (.func 69) #[] #[ptr bd, ptr bn]] w fun e w' => e = .returned .nilIface ∧ (∃ fb, w.heap.size ≤ fb ∧ Rep w' lo p mf mt { D with ents := insE ⟨nm s, ⟨false, []⟩, ⟨fb, .slice none 0 0, []⟩⟩ D.ents }) ∧ Touch [mf] w w' := by
  have k0 := R.cell 0
  simp only [dRow] at k0
  have hp := lt_of_block R.row
  have lbd := lt_of_block hbd
  have lbn := lt_of_block hbn
  have H := hid (fun o : Obj => create1_any (R.alloc o) (D.B : Int) bd bn hs hfind (Nat.le_trans hlo (by simp)) hsmall ((Below.heap_alloc w o bd lbd).trans hbd) ((Below.heap_alloc w o bn lbn).trans hbn))
  clear hbd hbn hfind
  go_enter Tryz.func67, Tryz.ntmps67
  go_wp2_with (go_at_call 69; refine (H.out _).mono ?_; rintro e w1 ⟨rfl, ⟨fb, hfb, hR⟩, ht⟩)
  go_ret
  have h1 : Touch [mf] w w1 := ((Touch.refl [mf] w).alloc _).trans ht (by simp)
  exact ⟨rfl, ⟨fb, Nat.le_trans (by simp) hfb, hR⟩, h1⟩

/-! ### create -/
set_option maxHeartbeats 400000 in
theorem create_err (V : Env w lo E) (s : ByteArray) (i : Nat) (hi : i < 11) (h4 : i ≠ 4)
    (hf : ∀ o1 o2 : Obj, Calls Tryz.prog 65 #[ptr p, .string s] ((w.alloc o1).alloc o2) fun e w' => e = .returned (.tuple #[.pointer none, errV E i]) ∧ ∃ n, w' = ((w.alloc o1).alloc o2).drewN n) :
    Calls Tryz.prog 34 #[ptr p, .string s] w fun e w' => e = .returned (errV E i) ∧ Touch [] w w' := by
  have H := hid hf
  have H2 := hid (fun (o1 o2 : Obj) (n : Nat) => is_at (((V.alloc o1).alloc o2).drewN n).sents i 4 hi (by omega))
  have c4 : ∀ (o1 o2 : Obj) (n : Nat), (((w.alloc o1).alloc o2).drewN n).cell? ⟨4, 0, none⟩ = some (errV E 4) := fun o1 o2 n => (((V.alloc o1).alloc o2).drewN n).sents.var 4 (by omega)
  have hd : decide (i = 4) = false := by simp [h4]
  clear hf h4 hi
  go_enter Tryz.func34, Tryz.ntmps34
  go_wp2_with (first | (go_at_call 65; refine (H.out _ _).mono ?_; rintro e w1 ⟨rfl, n, rfl⟩) | (go_at_call 62; refine (H2.out _ _ _).mono ?_; rintro e w1 ⟨rfl, rfl⟩))
  go_ret
  exact ⟨rfl, (((Touch.refl [] w).alloc _).alloc _).drewN _⟩

theorem create_off (V : Env w lo E) (R : Rep w lo p mf mt D) (s : ByteArray) (ho : D.on = false) :
    Calls Tryz.prog 34 #[ptr p, .string s] w fun e w' => e = .returned (errV E 2) ∧ Touch [] w w' :=
  create_err V s 2 (by omega) (by omega) fun o1 o2 => find_off ((V.alloc o1).alloc o2).sents ((R.alloc o1).alloc o2) s ho
theorem create_bad (V : Env w lo E) (R : Rep w lo p mf mt D) (s : ByteArray) (ho : D.on = true) (hn : nameB s = false) :
    Calls Tryz.prog 34 #[ptr p, .string s] w fun e w' => e = .returned (errV E 3) ∧ Touch [] w w' :=
  create_err V s 3 (by omega) (by omega) fun o1 o2 => find_bad ((V.alloc o1).alloc o2).sents ((R.alloc o1).alloc o2) s ho hn

set_option maxHeartbeats 400000 in
theorem create_there (V : Env w lo E) (R : Rep w lo p mf mt D) (s : ByteArray) (ho : D.on = true) (hn : nameB s = true) {e0 : Ent} (hf : findE D.ents (nm s) = some e0) :
    Calls Tryz.prog 34 #[ptr p, .string s] w fun e w' => e = .returned (errV E 5) ∧ Touch [] w w' := by
  have H := hid (fun o1 o2 : Obj => find_some ((R.alloc o1).alloc o2) s ho hn hf)
  have c5 : ∀ (o1 o2 : Obj) (n : Nat), (((w.alloc o1).alloc o2).drewN n).cell? ⟨5, 0, none⟩ = some (errV E 5) := fun o1 o2 n => (((V.alloc o1).alloc o2).drewN n).sents.var 5 (by omega)
  clear hf
  go_enter Tryz.func34, Tryz.ntmps34
  go_wp2_with (go_at_call 65; refine (H.out _ _).mono ?_; rintro e w1 ⟨rfl, n, rfl⟩)
  go_ret
  exact ⟨rfl, (((Touch.refl [] w).alloc _).alloc _).drewN _⟩

/-- the numbers behind a call that is numbered. -/
def DiskC.numbered (D : DiskC) : DiskC := { D with T := D.T.del (.int .i64 D.c.calls), c := { D.c with calls := D.c.calls + 1 } }

theorem number_row {W w2 : World} {b : Nat} {o : Obj} {n : Nat} (hb : W.heap[b]? = some o) (ht : Touch [p, mt] (W.drewN n) w2) (h1 : p < b) (h2 : mt < b) : w2.heap[b]? = some o :=
  (ht.block b (lt_of_block (w := W) hb) (by simp; omega)).trans hb
theorem number_box {W w2 : World} {b : Nat} {v : Value} {t : TypeId} {n : Nat} (hb : W.heap[b]? = some (.cells #[v] t)) (ht : Touch [p, mt] (W.drewN n) w2) (h1 : p < b) (h2 : mt < b) : w2.cell? ⟨b, 0, none⟩ = some v :=
  cell_row (number_row hb ht h1 h2) 0

set_option maxRecDepth 100000 in
set_option maxHeartbeats 400000 in
theorem create_ok (V : Env w lo E) (R : Rep w lo p mf mt D) (s : ByteArray) (ho : D.on = true) (hn : nameB s = true) (hf : findE D.ents (nm s) = none) {a k b : Int} (hT : TroubleIs D.T D.c.calls a k b) (hk1 : (k == 1) = false) (hk2 : (k == 2) = false)
    (h0 : 0 ≤ D.c.calls) (h1 : D.c.calls ≤ 1099511627776) (hsmall : D.ents.length ≤ 1099511627776) :
    Calls Tryz.prog 34 #[ptr p, .string s] w fun e w' => e = .returned .nilIface ∧ (∃ fb, w.heap.size ≤ fb ∧ Rep w' lo p mf mt { D.numbered with ents := insE ⟨nm s, ⟨false, []⟩, ⟨fb, .slice none 0 0, []⟩⟩ D.ents }) ∧ Touch [p, mf, mt] w w' := by
  obtain ⟨W, hW⟩ : ∃ W, W = (w.alloc (.cells #[ptr p] 23)).alloc (.cells #[.string s] 9) := ⟨_, rfl⟩
  have hW1 : W.heap[w.heap.size]? = some (.cells #[ptr p] 23) ∧ W.heap[w.heap.size + 1]? = some (.cells #[.string s] 9) := by rw [hW]; exact heap_two w _ _
  have hTW : Touch [] w W := by rw [hW]; exact ((Touch.refl [] w).alloc _).alloc _
  have VW : Env W lo E := V.touch hTW (by simp)
  have RW : Rep W lo p mf mt D := R.touch hTW (by simp)
  have H := hid (find_none VW.sents RW s ho hn hf)
  have H2 := hid (fun n : Nat => is_at (VW.drewN n).sents 4 4 (by omega) (by omega))
  have c4 : ∀ n : Nat, (W.drewN n).cell? ⟨4, 0, none⟩ = some (errV E 4) := fun n => (VW.drewN n).sents.var 4 (by omega)
  have cd : ∀ n : Nat, (W.drewN n).cell? ⟨w.heap.size, 0, none⟩ = some (ptr p) := fun n => cell_row (w := W.drewN n) hW1.1 0
  have cn : ∀ n : Nat, (W.drewN n).cell? ⟨w.heap.size + 1, 0, none⟩ = some (.string s) := fun n => cell_row (w := W.drewN n) hW1.2 0
  have HV := hid VW
  have HR := hid RW
  have HW := hid hW1
  have HF := hid hf
  have HTW := hid hTW
  have HE := hid hW
  have hp := lt_of_block R.row
  have hmf := R.files.lt
  have hmt : mt < w.heap.size := R.lt mt (by simp [DiskC.foot])
  clear hf V R VW RW hW1 hTW hW
  go_enter Tryz.func34, Tryz.ntmps34
  go_wp2_with fail
  rw [← HE.out]
  refine H.out.mono ?_
  rintro e w1 ⟨rfl, n, rfl⟩
  go_wp2_with (go_at_call 62; refine (H2.out _).mono ?_; rintro e w1 ⟨rfl, rfl⟩)
  go_region_held3 (fun W' => W'.cell? ⟨w.heap.size, 0, none⟩ = some (ptr p)) (go_keep)
    (first
      | (go_at_call 68; refine (number_any (HR.out.drewN _) hT h0 h1).mono ?_; rintro e w2 ⟨rfl, hR2, ht2⟩; have hb2 := HW.out; have z2 : w2.cell? ⟨w.heap.size, 0, none⟩ = some (ptr p) := number_box hb2.1 ht2 hp hmt; have q2 := hid (number_row hb2.1 ht2 hp hmt); have q3 := hid (number_row hb2.2 ht2 (by omega) (by omega)); clear hb2)
      | (go_at_call 67; refine (carry_create hR2 _ _ hk1 hk2 (name_size hn) HF.out ?_ hsmall q2.out q3.out).mono ?_; exact Nat.le_trans HV.out.room ht2.size; rintro e w3 ⟨rfl, ⟨fb, hfb, hR3⟩, ht3⟩; have z3 : w3.cell? ⟨w.heap.size, 0, none⟩ = some (ptr p) := (ht3.cell (p := ⟨w.heap.size, 0, none⟩) (lt_of_block q2.out) (by simp; omega)).trans z2))
  all_goals
    go_wp2
    go_ret
    have t3 : Touch [p, mf, mt] w w3 := (((HTW.out.mono (by simp)).drewN _).trans ht2 (by simp)).trans ht3 (by simp)
    exact ⟨rfl, ⟨fb, Nat.le_trans (Nat.le_trans HTW.out.size ht2.size) hfb, hR3⟩, t3⟩
end
end Go.Proofs.YtcpncfngadablaaGreatDoor
namespace Go.Proofs.YtcpncfngadablaaGreatDoor
open Go.RowKit Go.Deep

section
variable {w w' : World} {E : Nat → Addr} {lo p mf mt : Nat} {D : DiskC}

set_option maxHeartbeats 400000 in
theorem is_nil (b : Addr) (w : World) :
    Calls Tryz.prog 62 #[.nilIface, .iface 183 (.pointer (some b))] w fun e w' => e = .returned (.bool false) ∧ w' = w := by
  have hn := run_eql_iface_nil_left (P := Tryz.prog) w 183 (.pointer (some b)) Tryz.underlying75
  go_enter Tryz.func62, Tryz.ntmps62
  go_wp2
  go_ret
  exact ⟨rfl, rfl⟩

set_option maxHeartbeats 400000 in
theorem answer_nil (S : Sents w E) : Calls Tryz.prog 33 #[ptr p, .nilIface] w fun e w' => e = .returned (.int .i64 0) ∧ w' = w := by
  have c1 := S.var 1 (by omega)
  have c9 := S.var 9 (by omega)
  go_enter Tryz.func33, Tryz.ntmps33
  go_wp2_with (first | (go_at_call 62; refine (is_nil _ _).mono ?_; rintro e w1 ⟨rfl, rfl⟩) | (go_at_call 26; refine (tell_nil _).mono ?_; rintro e w1 ⟨rfl, rfl⟩))
  go_ret
  exact ⟨rfl, rfl⟩

set_option maxHeartbeats 400000 in
theorem answer_err (S : Sents w E) (i : Nat) (hi : i < 11) (h1 : i ≠ 1) (h9 : i ≠ 9) : Calls Tryz.prog 33 #[ptr p, errV E i] w fun e w' => e = .returned (.int .i64 (code i)) ∧ w' = w := by
  have c1 := S.var 1 (by omega)
  have c9 := S.var 9 (by omega)
  have d1 : decide (i = 1) = false := by simp [h1]
  have d9 : decide (i = 9) = false := by simp [h9]
  have H1 := hid (is_at S i 1 hi (by omega))
  have H9 := hid (is_at S i 9 hi (by omega))
  have HT := hid (tell_err S i hi)
  clear h1 h9 hi
  go_enter Tryz.func33, Tryz.ntmps33
  go_wp2_with fail
  refine H1.out.mono ?_
  rintro e w1 ⟨rfl, rfl⟩
  go_wp2_with fail
  refine H9.out.mono ?_
  rintro e w1 ⟨rfl, rfl⟩
  go_wp2_with fail
  refine HT.out.mono ?_
  rintro e w1 ⟨rfl, rfl⟩
  go_wp2
  go_ret
  exact ⟨rfl, rfl⟩
end

/-! ### what a disk holds, without where it lies -/
structure PubA where
  B : Nat
  Bs : Int
  on : Bool
  files : List (List UInt8 × FileA)
  c : Cnt

def Ent.pub (e : Ent) : List UInt8 × FileA := (e.name, e.file)
def DiskC.pub (D : DiskC) : PubA := ⟨D.B, D.Bs, D.on, D.ents.map Ent.pub, D.c⟩
def findA (l : List (List UInt8 × FileA)) (k : List UInt8) : Option FileA := (l.find? fun e => decide (e.1 = k)).map Prod.snd
def insA (e : List UInt8 × FileA) : List (List UInt8 × FileA) → List (List UInt8 × FileA)
  | [] => [e]
  | y :: r => if (Lit.string e.1).before (.string y.1) then e :: y :: r else y :: insA e r
def dropA (k : List UInt8) (l : List (List UInt8 × FileA)) : List (List UInt8 × FileA) := l.filter fun e => !decide (e.1 = k)
def setA (k : List UInt8) (f : FileA) (l : List (List UInt8 × FileA)) : List (List UInt8 × FileA) := l.map fun e => if e.1 = k then (e.1, f) else e

theorem find_pub (l : List Ent) (k : List UInt8) : findA (l.map Ent.pub) k = (findE l k).map Ent.file := by
  unfold findA findE
  rw [List.find?_map, Option.map_map]
  rfl
theorem ins_pub (e : Ent) : ∀ l : List Ent, (insE e l).map Ent.pub = insA e.pub (l.map Ent.pub)
  | [] => rfl
  | y :: r => by
    unfold insE
    simp only [List.map_cons, insA]
    have h : ((Lit.string e.pub.1).before (.string y.pub.1)) = (Lit.string e.name).before (.string y.name) := rfl
    rw [h]
    split
    · rfl
    · simp [ins_pub e r]
theorem drop_pub (k : List UInt8) (l : List Ent) : (dropE k l).map Ent.pub = dropA k (l.map Ent.pub) := by
  unfold dropE dropA
  rw [List.filter_map]
  rfl

/-- the numbers one may hand on. -/
structure Small (A : PubA) : Prop where
  calls : 0 ≤ A.c.calls ∧ A.c.calls ≤ 1099511627776
  reads : 0 ≤ A.c.reads ∧ A.c.reads ≤ 1099511627776
  appends : 0 ≤ A.c.appends ∧ A.c.appends ≤ 1099511627776
  full : 0 ≤ A.c.full ∧ A.c.full ≤ 1099511627776
  used : 0 ≤ A.c.used ∧ A.c.used ≤ 1099511627776
  files : A.files.length ≤ 1099511627776
  blocks : ∀ e ∈ A.files, e.2.blocks.length ≤ 1099511627776
  size : 64 ≤ A.B ∧ A.B ≤ 65536



section
variable {w w' : World} {E : Nat → Addr} {lo p mf mt : Nat} {D : DiskC}


/-! ### Create -/
def createA (s : ByteArray) (A : PubA) : Int × PubA :=
  if nameB s then
    if (findA A.files (nm s)).isSome then (13, A) else (0, { A with files := insA (nm s, ⟨false, []⟩) A.files, c := { A.c with calls := A.c.calls + 1 } })
  else (11, A)

theorem foot_insert {e : Ent} {D' : DiskC} (he : D'.ents = insE e D.ents) (hfoot : ∀ b ∈ e.lay.foot, w.heap.size ≤ b) : ∀ b ∈ D'.foot p mf mt, b ∈ D.foot p mf mt ∨ w.heap.size ≤ b := by
  intro b hb
  simp only [DiskC.foot, List.mem_cons, List.mem_flatMap, he] at hb ⊢
  rcases hb with h | h | h | ⟨x, hx, h⟩
  · exact .inl (.inl h)
  · exact .inl (.inr (.inl h))
  · exact .inl (.inr (.inr (.inl h)))
  · rcases List.mem_cons.1 ((insE_perm e D.ents).mem_iff.1 hx) with rfl | hx
    · exact .inr (hfoot b h)
    · exact .inl (.inr (.inr (.inr ⟨x, hx, h⟩)))

set_option maxHeartbeats 400000 in
theorem Create_of {i : Option Nat} {s : ByteArray} {Post : World → Prop} (h : Calls Tryz.prog 34 #[ptr p, .string s] w fun e w' => e = .returned (i.elim .nilIface (errV E)) ∧ Post w') {v : Int}
    (ha : ∀ w1, Post w1 → Calls Tryz.prog 33 #[ptr p, i.elim .nilIface (errV E)] w1 fun e w' => e = .returned (.int .i64 v) ∧ w' = w1) :
    Calls Tryz.prog 9 #[ptr p, .string s] w fun e w' => e = .returned (.int .i64 v) ∧ Post w' := by
  have H := hid h
  have HA := hid ha
  clear h ha
  go_enter Tryz.func9, Tryz.ntmps9
  go_wp2_with (first | (go_at_call 34; refine H.out.mono ?_; rintro e w1 ⟨rfl, hp⟩) | (go_at_call 33; refine (HA.out _ hp).mono ?_; rintro e w2 ⟨rfl, rfl⟩))
  go_ret
  exact ⟨rfl, hp⟩

end
end Go.Proofs.YtcpncfngadablaaGreatDoor
namespace Go.Proofs.YtcpncfngadablaaGreatDoor
open Go.RowKit Go.Deep

/-- a file's content and place set anew. -/
def setE (k : List UInt8) (f : FileA) (L : Lay) (l : List Ent) : List Ent := l.map fun e => if e.name = k then ⟨e.name, f, L⟩ else e

theorem set_pub (k : List UInt8) (f : FileA) (L : Lay) (l : List Ent) : (setE k f L l).map Ent.pub = setA k f (l.map Ent.pub) := by
  unfold setE setA
  rw [List.map_map, List.map_map]
  apply List.map_congr_left
  intro e _
  simp only [Function.comp]
  by_cases h : e.name = k
  · simp [h, Ent.pub]
  · simp [h, Ent.pub]

theorem findE_mem {l : List Ent} {k : List UInt8} {e : Ent} (h : findE l k = some e) : e ∈ l ∧ e.name = k :=
  ⟨List.mem_of_find?_eq_some h, by simpa using List.find?_some h⟩

section
variable {w w' : World} {E : Nat → Addr} {lo p mf mt : Nat} {D : DiskC}

theorem Rep.uniq (R : Rep w lo p mf mt D) : D.ents.Pairwise fun a b => a.name ≠ b.name := by
  obtain ⟨es, h, hp⟩ := R.files.tidy (Maps.string_keyed Tryz.underlying9)
  simp only [mapOf, DataW.map.injEq] at h
  subst h
  rw [List.pairwise_map] at hp
  exact hp.imp fun h e => h (by simp [Ent.key, e])

theorem pairwise_eq {α : Type} {r : α → α → Prop} {l : List α} (h : l.Pairwise r) {a b : α} (ha : a ∈ l) (hb : b ∈ l) (h1 : ¬ r a b) (h2 : ¬ r b a) : a = b := by
  induction h with
  | nil => cases ha
  | cons hd _ ih =>
    rcases List.mem_cons.1 ha with e1 | ha'
    · rcases List.mem_cons.1 hb with e2 | hb'
      · rw [e1, e2]
      · rw [e1] at h1
        exact absurd (hd _ hb') h1
    · rcases List.mem_cons.1 hb with e2 | hb'
      · rw [e2] at h2
        exact absurd (hd _ ha') h2
      · exact ih ha' hb'

theorem Rep.one (R : Rep w lo p mf mt D) {k : List UInt8} {e0 : Ent} (hf : findE D.ents k = some e0) : ∀ a ∈ D.ents, a.name = k → a = e0 := by
  intro a ha hn
  obtain ⟨he, hk⟩ := findE_mem hf
  exact pairwise_eq R.uniq ha he (fun h => h (hn.trans hk.symm)) (fun h => h (hk.trans hn.symm))

theorem Rep.parts (R : Rep w lo p mf mt D) : (∀ e ∈ D.ents, e.lay.foot.Nodup) ∧ D.ents.Pairwise (fun a b => ∀ x ∈ a.lay.foot, ∀ y ∈ b.lay.foot, x ≠ y) := by
  have ha := R.apart
  simp only [DiskC.foot, List.nodup_cons] at ha
  have h := ha.2.2.2
  unfold List.Nodup at h
  rw [List.pairwise_flatMap] at h
  exact h

/-- One file has been changed, in its own memory. -/
theorem Rep.setFile (R : Rep w lo p mf mt D) {k : List UInt8} {e0 : Ent} (hf : findE D.ents k = some e0) {L : Lay} {f : FileA} (hfb : L.fb = e0.lay.fb) (hat : FileAt w' D.B L f) (hfoot : ∀ b ∈ L.foot, b ∈ e0.lay.foot ∨ w.heap.size ≤ b) (hnd : L.foot.Nodup)
    (ht : Touch e0.lay.foot w w') (hlo : lo ≤ w.heap.size) : Rep w' lo p mf mt { D with ents := setE k f L D.ents } := by
  obtain ⟨he0, hk0⟩ := findE_mem hf
  have h1 := R.one hf
  obtain ⟨n, hT⟩ := R.troubles
  have hin : ∀ b ∈ e0.lay.foot, b ≠ p ∧ b ≠ mf ∧ b ≠ mt := fun b hb => ⟨(R.ent_ne he0 hb).1, (R.ent_ne he0 hb).2.1, (R.ent_ne he0 hb).2.2.1⟩
  have hm : mapOf (setE k f L D.ents) = mapOf D.ents := by
    unfold mapOf setE
    rw [List.map_map]
    congr 1
    apply List.map_congr_left
    intro e he
    simp only [Function.comp]
    by_cases hn : e.name = k
    · rw [if_pos hn]
      have := h1 e he hn
      subst this
      simp [Ent.key, hfb]
    · rw [if_neg hn]
  have hold : ∀ b, b < w.heap.size → (b = p ∨ b = mf ∨ b = mt) → w'.heap[b]? = w.heap[b]? := fun b hb h => ht.block b hb fun hm => by
    have := hin b hm
    rcases h with h | h | h <;> simp [h] at this
  have hlt : ∀ b ∈ [p, mf, mt], b < w.heap.size := fun b hb => R.lt b (by simp at hb; rcases hb with rfl | rfl | rfl <;> simp [DiskC.foot])
  have hLne : ∀ x ∈ L.foot, x ≠ p ∧ x ≠ mf ∧ x ≠ mt := by
    intro x hx
    rcases hfoot x hx with h | h
    · exact hin x h
    · have a := hlt p (by simp); have b := hlt mf (by simp); have c := hlt mt (by simp)
      refine ⟨?_, ?_, ?_⟩ <;> omega
  have hmem : ∀ x ∈ setE k f L D.ents, (∃ e ∈ D.ents, e.name ≠ k ∧ x = e) ∨ (x.name = k ∧ x.file = f ∧ x.lay = L) := by
    intro x hx
    obtain ⟨e, he, rfl⟩ := List.mem_map.1 hx
    by_cases hn : e.name = k
    · right; simp [hn]
    · left; exact ⟨e, he, hn, by simp [hn]⟩
  have hother : ∀ e ∈ D.ents, e.name ≠ k → ∀ x ∈ e.lay.foot, x ∉ e0.lay.foot := by
    intro e he hn x hx hx0
    have hne : e ≠ e0 := fun h => hn (h ▸ hk0)
    exact hne (pairwise_eq R.parts.2 he he0 (fun h => h x hx x hx0 rfl) (fun h => h x hx0 x hx rfl))
  refine ⟨(hold p (hlt p (by simp)) (by simp)).trans R.row, ?_, ⟨n, ownsMap_kept hT (hold mt (hlt mt (by simp)) (by simp))⟩, ?_, ?_, ?_, ?_⟩
  · show w'.ownsMap Tryz.prog 9 ptrElem mf (setE k f L D.ents).length (mapOf (setE k f L D.ents))
    rw [hm]
    have : (setE k f L D.ents).length = D.ents.length := by simp [setE]
    rw [this]
    exact ownsMap_kept R.files (hold mf (hlt mf (by simp)) (by simp))
  · intro x hx
    rcases hmem x hx with ⟨e, he, hn, rfl⟩ | ⟨_, h2, h3⟩
    · exact (R.each _ he).kept fun b hb => ht.block b (R.ent_ne he hb).2.2.2.1 (hother _ he hn b hb)
    · rw [h2, h3]; exact hat
  · simp only [DiskC.foot, List.nodup_cons, List.mem_cons, not_or, List.mem_flatMap, not_exists, not_and]
    have hne := R.p_ne
    have hx : ∀ x ∈ setE k f L D.ents, ∀ b ∈ x.lay.foot, b ≠ p ∧ b ≠ mf ∧ b ≠ mt := by
      intro x hx b hb
      rcases hmem x hx with ⟨e, he, hn, rfl⟩ | ⟨_, h2, h3⟩
      · exact ⟨(R.ent_ne he hb).1, (R.ent_ne he hb).2.1, (R.ent_ne he hb).2.2.1⟩
      · rw [h3] at hb; exact hLne b hb
    refine ⟨⟨hne.2.1, hne.1, fun x hm hb => (hx x hm p hb).1 rfl⟩, ⟨hne.2.2, fun x hm hb => (hx x hm mf hb).2.1 rfl⟩, fun x hm hb => (hx x hm mt hb).2.2 rfl, ?_⟩
    unfold List.Nodup
    rw [List.pairwise_flatMap]
    refine ⟨fun x hx => ?_, ?_⟩
    · rcases hmem x hx with ⟨e, he, hn, rfl⟩ | ⟨_, h2, h3⟩
      · exact R.parts.1 _ he
      · rw [h3]; exact hnd
    · unfold setE
      rw [List.pairwise_map]
      refine (R.parts.2.and R.uniq).imp_of_mem fun {a b} ha hb ⟨hd, hu⟩ => ?_
      intro x hx y hy
      by_cases hna : a.name = k
      · have hnb : b.name ≠ k := fun h => hu (hna.trans h.symm)
        rw [if_pos hna] at hx
        rw [if_neg hnb] at hy
        rcases hfoot x hx with h | h
        · have := h1 a ha hna
          subst this
          exact hd x h y hy
        · have := (R.ent_ne hb hy).2.2.2.1
          omega
      · rw [if_neg hna] at hx
        by_cases hnb : b.name = k
        · rw [if_pos hnb] at hy
          rcases hfoot y hy with h | h
          · have := h1 b hb hnb
            subst this
            exact hd x hx y h
          · have := (R.ent_ne ha hx).2.2.2.1
            omega
        · rw [if_neg hnb] at hy
          exact hd x hx y hy
  · intro b hb
    simp only [DiskC.foot, List.mem_cons, List.mem_flatMap] at hb
    rcases hb with rfl | rfl | rfl | ⟨x, hx, hb⟩
    · exact R.base _ (by simp [DiskC.foot])
    · exact R.base _ (by simp [DiskC.foot])
    · exact R.base _ (by simp [DiskC.foot])
    · rcases hmem x hx with ⟨e, he, hn, rfl⟩ | ⟨_, h2, h3⟩
      · exact (R.ent_ne he hb).2.2.2.2
      · rw [h3] at hb
        rcases hfoot b hb with h | h
        · exact (R.ent_ne he0 h).2.2.2.2
        · omega
  · intro x hx
    rcases hmem x hx with ⟨e, he, hn, rfl⟩ | ⟨h1, _, _⟩
    · exact R.names _ he
    · rw [h1, ← hk0]; exact R.names _ he0

theorem foot_set {k : List UInt8} {e0 : Ent} (hf : findE D.ents k = some e0) {L : Lay} {f : FileA} {D' : DiskC} (he : D'.ents = setE k f L D.ents) (hfoot : ∀ b ∈ L.foot, b ∈ e0.lay.foot ∨ w.heap.size ≤ b) : ∀ b ∈ D'.foot p mf mt, b ∈ D.foot p mf mt ∨ w.heap.size ≤ b := by
  intro b hb
  simp only [DiskC.foot, List.mem_cons, List.mem_flatMap, he] at hb ⊢
  rcases hb with h | h | h | ⟨x, hx, h⟩
  · exact .inl (.inl h)
  · exact .inl (.inr (.inl h))
  · exact .inl (.inr (.inr (.inl h)))
  · obtain ⟨e, hm, rfl⟩ := List.mem_map.1 hx
    by_cases hn : e.name = k
    · rw [if_pos hn] at h
      rcases hfoot b h with h | h
      · exact .inl (.inr (.inr (.inr ⟨e0, (findE_mem hf).1, h⟩)))
      · exact .inr h
    · rw [if_neg hn] at h
      exact .inl (.inr (.inr (.inr ⟨e, hm, h⟩)))
theorem foot_ent {k : List UInt8} {e0 : Ent} (hf : findE D.ents k = some e0) : ∀ b ∈ e0.lay.foot, b ∈ D.foot p mf mt := by
  intro b hb
  simp only [DiskC.foot, List.mem_cons, List.mem_flatMap]
  exact .inr (.inr (.inr ⟨e0, (findE_mem hf).1, hb⟩))
end
end Go.Proofs.YtcpncfngadablaaGreatDoor
namespace Go.Proofs.YtcpncfngadablaaGreatDoor
open Go.RowKit Go.Deep

theorem FileAt.shut {w w' : World} {B : Nat} {L : Lay} {f : FileA} (h : FileAt w B L f) (hnd : L.foot.Nodup) (ht : Touch [L.fb] w w') (hrow : w'.heap[L.fb]? = some (.cells #[.int .i64 1, L.sv] 118 (0, 0))) : FileAt w' B L { f with shut := true } := by
  have hne : ∀ b ∈ L.foot, b ≠ L.fb → w'.heap[b]? = w.heap[b]? := fun b hb hn => ht.block b (h.lt b hb) (by simp [hn])
  unfold Lay.foot at hnd
  rw [List.nodup_cons] at hnd
  refine ⟨hrow, ⟨h.own.1, ?_⟩, fun i b bl hb hbl => ?_⟩
  · rcases h.own.2 with hn | ⟨g, cap, cur, hv, hb, hg, rest⟩
    · exact .inl hn
    · refine .inr ⟨g, cap, cur, hv, hb, (hne g (by simp [Lay.foot, hv, Value.ownBlock]) fun e => ?_).trans hg, rest⟩
      subst e
      exact hnd.1 (by simp [hv, Value.ownBlock])
  · have h1 := h.bytes i b bl hb hbl
    have hm : b ∈ L.bs := List.mem_of_getElem? hb
    refine ⟨h1.1, (hne b (by simp [Lay.foot, hm]) fun e => ?_).trans h1.2⟩
    subst e
    exact hnd.1 (by simp [hm])

/-- nothing but draws. -/
def Quiet (w w' : World) : Prop := ∃ n, w' = w.drewN n
section
variable {w w' : World} {E : Nat → Addr} {lo p mf mt : Nat} {D : DiskC}
theorem Quiet.heap (h : Quiet w w') : w'.heap = w.heap := by obtain ⟨n, rfl⟩ := h; rfl
theorem Quiet.cell (h : Quiet w w') (a : Addr) : w'.cell? a = w.cell? a := by obtain ⟨n, rfl⟩ := h; rfl
theorem Quiet.touch (h : Quiet w w') (F : List Nat) : Touch F w w' := by obtain ⟨n, rfl⟩ := h; exact (Touch.refl F w).drewN n
theorem Quiet.rep (h : Quiet w w') (R : Rep w lo p mf mt D) : Rep w' lo p mf mt D := by obtain ⟨n, rfl⟩ := h; exact R.drewN n
theorem Quiet.env (h : Quiet w w') (V : Env w lo E) : Env w' lo E := by obtain ⟨n, rfl⟩ := h; exact V.drewN n
end

section
variable {w w' : World} {E : Nat → Addr} {lo p mf mt : Nat} {D : DiskC}

set_option maxHeartbeats 400000 in
theorem seal1_any (k : Int) (bf fb : Nat) {v : Value} {sv : Value} (hbf : w.heap[bf]? = some (.cells #[ptr fb] 92 (0, 0))) (hfb : w.heap[fb]? = some (.cells #[v, sv] 118 (0, 0))) :
    Calls Tryz.prog 72 #[.int .i64 k, ptr bf] w fun e w' => e = .returned (.tuple #[]) ∧ w' = w.setCell ⟨fb, 0, none⟩ (.int .i64 1) := by
  have c1 := cell_row hbf 0
  have c2 := cell_row hfb 0
  have f2 := unfrozen_row hfb 0
  simp at c1 c2
  go_enter Tryz.func72, Tryz.ntmps72
  go_wp2
  go_end0
  exact ⟨rfl, rfl⟩

set_option maxRecDepth 100000 in
set_option maxHeartbeats 400000 in
theorem carry_seal (R : Rep w lo p mf mt D) {a k b : Int} (bf fb : Nat) {v : Value} {sv : Value} (hk1 : (k == 1) = false) (hk2 : (k == 2) = false) (hbf : w.heap[bf]? = some (.cells #[ptr fb] 92 (0, 0))) (hfb : w.heap[fb]? = some (.cells #[v, sv] 118 (0, 0))) :
    Calls Tryz.prog 67 #[ptr p, .agg #[.int .i64 a, .int .i64 k, .int .i64 b], .func (.func 72) #[] #[ptr bf]] w fun e w' => e = .returned .nilIface ∧ Touch [fb] w w' ∧ w'.heap[fb]? = some (.cells #[.int .i64 1, sv] 118 (0, 0)) := by
  have k0 := R.cell 0
  simp only [dRow] at k0
  have hp := lt_of_block R.row
  have H := hid (fun o : Obj => seal1_any (w := w.alloc o) (D.B : Int) bf fb ((Below.heap_alloc w o bf (lt_of_block hbf)).trans hbf) ((Below.heap_alloc w o fb (lt_of_block hfb)).trans hfb))
  have HB := hid hfb
  clear hbf hfb
  go_enter Tryz.func67, Tryz.ntmps67
  go_wp2_with (go_at_call 72; refine (H.out _).mono ?_; rintro e w1 ⟨rfl, rfl⟩)
  go_ret
  refine ⟨rfl, ((Touch.refl [fb] w).alloc _).setCell (by simp) _, ?_⟩
  rw [heap_setCell_row ((Below.heap_alloc w _ fb (lt_of_block HB.out)).trans HB.out) 0]
  rfl

/-! ### seal -/
theorem kept_row {F : List Nat} {b : Nat} {o : Obj} (hb : w.heap[b]? = some o) (ht : Touch F w w') (h : b ∉ F) : w'.heap[b]? = some o := (ht.block b (lt_of_block hb) h).trans hb
set_option maxHeartbeats 400000 in
theorem seal_err (s : ByteArray) (i : Nat)
    (hf : Calls Tryz.prog 65 #[ptr p, .string s] w fun e w' => e = .returned (.tuple #[.pointer none, errV E i]) ∧ ∃ n, w' = w.drewN n) :
    Calls Tryz.prog 36 #[ptr p, .string s] w fun e w' => e = .returned (errV E i) ∧ Touch [] w w' := by
  have H := hid hf
  clear hf
  go_enter Tryz.func36, Tryz.ntmps36
  go_wp2_with (go_at_call 65; refine H.out.mono ?_; rintro e w1 ⟨rfl, hq⟩; have HQ := hid (Quiet.touch hq []); clear hq)
  go_ret
  exact ⟨rfl, HQ.out.alloc _⟩

set_option maxHeartbeats 400000 in
theorem seal_shut (V : Env w lo E) (R : Rep w lo p mf mt D) (s : ByteArray) (ho : D.on = true) (hn : nameB s = true) {e0 : Ent} (hf : findE D.ents (nm s) = some e0) (hs : e0.file.shut = true) :
    Calls Tryz.prog 36 #[ptr p, .string s] w fun e w' => e = .returned (errV E 6) ∧ Touch [] w w' := by
  have H := hid (find_some R s ho hn hf)
  have hrow := (R.each e0 (findE_mem hf).1).row
  have lfb := lt_of_block hrow
  have c0 := cell_row hrow 0
  simp [hs] at c0
  have c6 := V.sents.var 6 (by omega)
  have l6 : 6 < w.heap.size := by have := V.vars; have := V.room; omega
  clear hf hs hrow
  go_enter Tryz.func36, Tryz.ntmps36
  go_wp2_with (go_at_call 65; refine H.out.mono ?_; rintro e w1 ⟨rfl, hq⟩; have d0 := (Quiet.cell hq _).trans c0; have d6 := (Quiet.cell hq _).trans c6; rw [← Quiet.heap hq] at lfb l6; have HQ := hid (Quiet.touch hq []); clear hq c0 c6)
  go_ret
  exact ⟨rfl, HQ.out.alloc _⟩

set_option maxRecDepth 100000 in
set_option maxHeartbeats 400000 in
theorem seal_ok (R : Rep w lo p mf mt D) (s : ByteArray) (ho : D.on = true) (hn : nameB s = true) {e0 : Ent} (hf : findE D.ents (nm s) = some e0) (hs : e0.file.shut = false) {a k b : Int} (hT : TroubleIs D.T D.c.calls a k b) (hk1 : (k == 1) = false) (hk2 : (k == 2) = false)
    (h0 : 0 ≤ D.c.calls) (h1 : D.c.calls ≤ 1099511627776) (hlo : lo ≤ w.heap.size) :
    Calls Tryz.prog 36 #[ptr p, .string s] w fun e w' => e = .returned .nilIface ∧ Rep w' lo p mf mt { D.numbered with ents := setE (nm s) { e0.file with shut := true } e0.lay D.ents } ∧ Touch [p, mt, e0.lay.fb] w w' := by
  have H := hid (find_some R s ho hn hf)
  have hat := R.each e0 (findE_mem hf).1
  have hrow := hat.row
  have lfb := lt_of_block hrow
  have c0 := cell_row hrow 0
  simp [hs] at c0
  have hne := R.ent_ne (findE_mem hf).1 (b := e0.lay.fb) (by simp [Lay.foot])
  have hp := lt_of_block R.row
  have hmt : mt < w.heap.size := R.lt mt (by simp [DiskC.foot])
  have HR := hid R
  have HF := hid hf
  have HROW := hid hrow
  clear hf hs hrow hat R
  go_enter Tryz.func36, Tryz.ntmps36
  go_wp2_with (first
    | (go_at_call 65; refine H.out.mono ?_; rintro e w1 ⟨rfl, hq⟩; have d0 := (Quiet.cell hq _).trans c0; rw [← Quiet.heap hq] at lfb hp hmt; have HQ := hid hq; clear hq c0)
    | (go_at_call 68; refine (number_any ((Quiet.rep HQ.out HR.out).alloc (.cells #[ptr e0.lay.fb] 92)) hT h0 h1).mono ?_; rintro e w2 ⟨rfl, hR2, ht2⟩; have q2 := hid (kept_row (heap_alloc_new w1 (.cells #[ptr e0.lay.fb] 92)) ht2 (by simp; omega)); have q3 := hid (kept_row ((Below.heap_alloc w1 (.cells #[ptr e0.lay.fb] 92) e0.lay.fb lfb).trans ((congrArg (fun h => h[e0.lay.fb]?) (Quiet.heap HQ.out)).trans HROW.out)) ht2 (by simp; omega)))
    | (go_at_call 67; refine (carry_seal hR2 _ _ hk1 hk2 q2.out q3.out).mono ?_; rintro e w3 ⟨rfl, ht3, hr3⟩))
  go_ret
  have hm := (findE_mem HF.out).1
  have hnd := hR2.parts.1 e0 hm
  have hat3 := (hR2.each e0 hm).shut hnd ht3 hr3
  have t2 : Touch [p, mt] w w2 := ((Quiet.touch HQ.out [p, mt]).alloc _).trans ht2 (by simp)
  have hl2 : lo ≤ w2.heap.size := Nat.le_trans hlo t2.size
  exact ⟨rfl, hR2.setFile HF.out rfl hat3 (fun b hb => .inl hb) hnd (ht3.mono (by simp [Lay.foot])) hl2, (t2.mono (by simp)).trans ht3 (by simp)⟩

/-! ### Seal -/
def sealA (s : ByteArray) (A : PubA) : Int × PubA :=
  if nameB s then
    match findA A.files (nm s) with
    | none => (12, A)
    | some f => if f.shut then (14, A) else (0, { A with files := setA (nm s) { f with shut := true } A.files, c := { A.c with calls := A.c.calls + 1 } })
  else (11, A)

set_option maxHeartbeats 400000 in
theorem Seal_of {i : Option Nat} {s : ByteArray} {Post : World → Prop} (h : Calls Tryz.prog 36 #[ptr p, .string s] w fun e w' => e = .returned (i.elim .nilIface (errV E)) ∧ Post w') {v : Int}
    (ha : ∀ w1, Post w1 → Calls Tryz.prog 33 #[ptr p, i.elim .nilIface (errV E)] w1 fun e w' => e = .returned (.int .i64 v) ∧ w' = w1) :
    Calls Tryz.prog 12 #[ptr p, .string s] w fun e w' => e = .returned (.int .i64 v) ∧ Post w' := by
  have H := hid h
  have HA := hid ha
  clear h ha
  go_enter Tryz.func12, Tryz.ntmps12
  go_wp2_with (first | (go_at_call 36; refine H.out.mono ?_; rintro e w1 ⟨rfl, hp⟩) | (go_at_call 33; refine (HA.out _ hp).mono ?_; rintro e w2 ⟨rfl, rfl⟩))
  go_ret
  exact ⟨rfl, hp⟩

end
end Go.Proofs.YtcpncfngadablaaGreatDoor
namespace Go.Proofs.YtcpncfngadablaaGreatDoor
open Go.RowKit Go.Deep

theorem ownsMap_tight {w : World} {k : TypeId} {R : Value → Option (DataW Unit × List MemPlace)} {b n : Nat} {L : List (Lit × DataW Unit)} (h : w.ownsMap Tryz.prog k R b n (.map L)) : w.ownsMap Tryz.prog k R b L.length (.map L) := by
  obtain ⟨es, clock, hb, F, _, hD⟩ := h
  refine ⟨es, clock, hb, F, ?_, hD⟩
  simp only [DataW.map.injEq] at hD
  rw [hD, length_sorted]
  simp

section
variable {w w' : World} {E : Nat → Addr} {lo p mf mt : Nat} {D : DiskC}

/-- A file is gone. -/
theorem Rep.remove (R : Rep w lo p mf mt D) {k : List UInt8} {n : Nat} (ht : Touch [mf] w w') (hmap : w'.ownsMap Tryz.prog 9 ptrElem mf n ((mapOf D.ents).del (.string k))) : Rep w' lo p mf mt { D with ents := dropE k D.ents } := by
  obtain ⟨m, hT⟩ := R.troubles
  have hne := R.p_ne
  have hold : ∀ b ∈ D.foot p mf mt, b ≠ mf → w'.heap[b]? = w.heap[b]? := fun b hb h => ht.block b (R.lt b hb) (by simp [h])
  have hsub : (dropE k D.ents).Sublist D.ents := List.filter_sublist
  have hfoot : (DiskC.foot { D with ents := dropE k D.ents } p mf mt).Sublist (D.foot p mf mt) := by
    simp only [DiskC.foot]
    have h : ∀ {l l' : List Ent}, l.Sublist l' → (l.flatMap fun e => e.lay.foot).Sublist (l'.flatMap fun e => e.lay.foot) := by
      intro l l' h
      induction h with
      | slnil => exact .slnil
      | cons a _ ih => exact ih.trans (by simp)
      | cons_cons a _ ih => simpa using ih
    exact ((h hsub).cons_cons _).cons_cons _ |>.cons_cons _
  rw [del_map] at hmap
  refine ⟨(hold p (by simp [DiskC.foot]) hne.2.1).trans R.row, ?_, ⟨m, ownsMap_kept hT (hold mt (by simp [DiskC.foot]) hne.2.2.symm)⟩, ?_, hfoot.nodup R.apart, fun b hb => R.base b (hfoot.subset hb), fun e he => R.names e (hsub.subset he)⟩
  · have := ownsMap_tight hmap
    rw [List.length_map] at this
    exact this
  · intro e he
    have he' := hsub.subset he
    exact (R.each e he').kept fun b hb => by
      have := R.ent_ne he' hb
      exact ht.block b this.2.2.2.1 (by simp [this.2.1])

set_option maxRecDepth 100000 in
set_option maxHeartbeats 400000 in
theorem drop1_any (R : Rep w lo p mf mt D) {s : ByteArray} (k : Int) (bd bn bf : Nat) (hs : s.size ≤ 32) {e0 : Ent} (hf : findE D.ents (nm s) = some e0) (hS : Small D.pub)
    (hbd : w.heap[bd]? = some (.cells #[ptr p] 23 (0, 0))) (hbn : w.heap[bn]? = some (.cells #[.string s] 9 (0, 0))) (hbf : w.heap[bf]? = some (.cells #[ptr e0.lay.fb] 92 (0, 0))) :
    Calls Tryz.prog 76 #[.int .i64 k, ptr bd, ptr bn, ptr bf] w fun e w' => e = .returned (.tuple #[]) ∧ Rep w' lo p mf mt { D with ents := dropE (nm s) D.ents, c := { D.c with used := D.c.used - e0.file.blocks.length, most := max D.c.most (D.c.used - e0.file.blocks.length) } } ∧ Touch [p, mf] w w' := by
  have k3 := R.cell 3
  simp only [dRow] at k3
  have cd := cell_row hbd 0
  have cn := cell_row hbn 0
  have cf := cell_row hbf 0
  simp at cd cn cf
  have hat := R.each e0 (findE_mem hf).1
  have hlen := hat.own
  have cb := cell_row hat.row 1
  simp at cb
  obtain ⟨w1, hdel, hm1, ht1⟩ := (show (w.drew).ownsMap Tryz.prog 9 ptrElem mf D.ents.length (mapOf D.ents) from R.files).drop (t := 88) (e := 92) (Maps.string_keyed Tryz.underlying9) Tryz.underlying88 (WideMaps.keyOf_string_mk Tryz.underlying9 (s := s) (by unfold maxLen; omega)) 0
  have hg := ht1.grown
  obtain ⟨es, clock, hes, _⟩ := R.files
  have n1 : some p ≠ some mf := by simp [R.p_ne.2.1]
  have n2 : some bd ≠ some mf := by intro e; simp at e; subst e; rw [hes] at hbd; simp at hbd
  have n3 : some bn ≠ some mf := by intro e; simp at e; subst e; rw [hes] at hbn; simp at hbn
  have n4 : some bf ≠ some mf := by intro e; simp at e; subst e; rw [hes] at hbf; simp at hbf
  have n5 : some e0.lay.fb ≠ some mf := by intro e; simp at e; have := hat.row; rw [e, hes] at this; simp at this
  have m2 : bd ≠ p := by intro e; have := R.row; rw [← e, hbd] at this; simp at this
  have m4 : bf ≠ p := by intro e; have := R.row; rw [← e, hbf] at this; simp at this
  have m5 : e0.lay.fb ≠ p := by intro e; have := R.row; rw [← e, hat.row] at this; simp at this
  have k3' : w.cell? ⟨p, 3, none⟩ = some (.map (some mf)) := k3
  have y1 := hg.cell (a := ⟨p, 3, none⟩) k3' n1
  have y2 := hg.cell (a := ⟨bd, 0, none⟩) cd n2
  have y3 := hg.cell (a := ⟨bn, 0, none⟩) cn n3
  have y4 := hg.cell (a := ⟨bf, 0, none⟩) cf n4
  have y5 := hg.cell (a := ⟨e0.lay.fb, 1, none⟩) cb n5
  have t1 : Touch [mf] w w1 := (Touch.refl [mf] w).drew.grown hg (by simp)
  have R1 := R.remove t1 hm1
  have HR1 := hid R1
  have HT1 := hid t1
  have hu := hS.used
  have hbl := hS.blocks e0.pub (List.mem_map.2 ⟨e0, (findE_mem hf).1, rfl⟩)
  simp only [DiskC.pub, Ent.pub] at hu hbl
  obtain ⟨hu1, hu2⟩ := hu
  clear hbd hbn hbf hes R R1 t1 hg hm1 ht1 n1 n2 n3 n4 n5 hf hS k3
  have hwr : IntKind.i64.wrap (-(e0.file.blocks.length : Int)) = -(e0.file.blocks.length : Int) := by
    rw [IntKind.wrap_i64]
    omega
  have hz := fun (w2 : World) (ht : Touch [p] w1.drew w2) (b o : Nat) (v : Value) (hb : b ≠ p) (hv : w1.cell? ⟨b, o, none⟩ = some v) => (ht.cell (p := ⟨b, o, none⟩) (World.block_lt_of_cell? w1 _ hv) (by simpa using hb)).trans hv
  have HZ := hid hz
  have hsv : ∃ a cap, e0.lay.sv = .slice a e0.file.blocks.length cap := by
    rcases hlen.2 with ⟨hsv, hl0⟩ | ⟨g, cap, cur, hsv, _⟩
    · exact ⟨none, 0, by rw [hsv, hl0]⟩
    · exact ⟨_, cap, hsv⟩
  obtain ⟨ga, gc, hsv⟩ := hsv
  rw [hsv] at cb y5
  clear hlen hz hsv hat
  go_enter Tryz.func76, Tryz.ntmps76
  go_wp2
  go_region_held3 (fun W => W.cell? ⟨p, 3, none⟩ = some (.map (some mf)) ∧ W.cell? ⟨bd, 0, none⟩ = some (ptr p) ∧ W.cell? ⟨bn, 0, none⟩ = some (.string s)) (go_keep) (fail)
  go_wp2
  go_region_held3 (fun W => W.cell? ⟨bd, 0, none⟩ = some (ptr p) ∧ W.cell? ⟨bf, 0, none⟩ = some (ptr e0.lay.fb) ∧ W.cell? ⟨e0.lay.fb, 1, none⟩ = some (.slice ga e0.file.blocks.length gc)) (go_keep)
    (first | (go_at_call 59; refine (use_any (w := w1.drew) (Quiet.rep ⟨1, rfl⟩ HR1.out) _ hu1 hu2 (by omega) (by omega)).mono ?_; rintro e w2 ⟨rfl, hR2, ht2⟩; have z2 := HZ.out w2 ht2 bd 0 _ m2 y2; have z4 := HZ.out w2 ht2 bf 0 _ m4 y4; have z5 := HZ.out w2 ht2 e0.lay.fb 1 _ m5 y5))
  go_wp2
  go_end0
  refine ⟨rfl, hR2, (HT1.out.mono (by simp)).drew.trans ht2 (by simp)⟩

set_option maxRecDepth 100000 in
set_option maxHeartbeats 400000 in
theorem carry_drop (R : Rep w lo p mf mt D) {s : ByteArray} {a k b : Int} (bd bn bf : Nat) (hk1 : (k == 1) = false) (hk2 : (k == 2) = false) (hs : s.size ≤ 32) {e0 : Ent} (hf : findE D.ents (nm s) = some e0) (hS : Small D.pub)
    (hbd : w.heap[bd]? = some (.cells #[ptr p] 23 (0, 0))) (hbn : w.heap[bn]? = some (.cells #[.string s] 9 (0, 0))) (hbf : w.heap[bf]? = some (.cells #[ptr e0.lay.fb] 92 (0, 0))) :
    Calls Tryz.prog 67 #[ptr p, .agg #[.int .i64 a, .int .i64 k, .int .i64 b], .func (.func 76) #[] #[ptr bd, ptr bn, ptr bf]] w fun e w' => e = .returned .nilIface ∧ Rep w' lo p mf mt { D with ents := dropE (nm s) D.ents, c := { D.c with used := D.c.used - e0.file.blocks.length, most := max D.c.most (D.c.used - e0.file.blocks.length) } } ∧ Touch [p, mf] w w' := by
  have k0 := R.cell 0
  simp only [dRow] at k0
  have hp := lt_of_block R.row
  have H := hid (fun o : Obj => drop1_any (R.alloc o) (D.B : Int) bd bn bf hs hf hS ((Below.heap_alloc w o bd (lt_of_block hbd)).trans hbd) ((Below.heap_alloc w o bn (lt_of_block hbn)).trans hbn) ((Below.heap_alloc w o bf (lt_of_block hbf)).trans hbf))
  clear hbd hbn hbf hf hS
  go_enter Tryz.func67, Tryz.ntmps67
  go_wp2_with (go_at_call 76; refine (H.out _).mono ?_; rintro e w1 ⟨rfl, hR, ht⟩)
  go_ret
  exact ⟨rfl, hR, ((Touch.refl [p, mf] w).alloc _).trans ht (by simp)⟩

set_option maxHeartbeats 400000 in
theorem drop_err (s : ByteArray) (i : Nat)
    (hf : ∀ o1 o2 : Obj, Calls Tryz.prog 65 #[ptr p, .string s] ((w.alloc o1).alloc o2) fun e w' => e = .returned (.tuple #[.pointer none, errV E i]) ∧ ∃ n, w' = ((w.alloc o1).alloc o2).drewN n) :
    Calls Tryz.prog 40 #[ptr p, .string s] w fun e w' => e = .returned (errV E i) ∧ Touch [] w w' := by
  have H := hid hf
  clear hf
  go_enter Tryz.func40, Tryz.ntmps40
  go_wp2_with (go_at_call 65; refine (H.out _ _).mono ?_; rintro e w1 ⟨rfl, hq⟩; have HQ := hid (Quiet.touch hq []); clear hq)
  go_ret
  exact ⟨rfl, ((((Touch.refl [] w).alloc _).alloc _).trans HQ.out (by simp)).alloc _⟩

/-- numbers with room for one more. -/
theorem small_number (hS : Small D.pub) (hc : D.c.calls + 1 ≤ 1099511627776) : Small D.numbered.pub := by
  obtain ⟨h1, h2, h3, h4, h5, h6, h7, h8⟩ := hS
  simp only [DiskC.pub] at h1 h2 h3 h4 h5 h6 h7 h8
  exact ⟨⟨by simp only [DiskC.pub, DiskC.numbered]; omega, hc⟩, h2, h3, h4, h5, h6, h7, h8⟩

end
end Go.Proofs.YtcpncfngadablaaGreatDoor
namespace Go.Proofs.YtcpncfngadablaaGreatDoor
open Go.RowKit Go.Deep

section
variable {w w' : World} {E : Nat → Addr} {lo p mf mt : Nat} {D : DiskC}

theorem FileAt.slice {B : Nat} {L : Lay} {f : FileA} (h : FileAt w B L f) : ∃ a c, L.sv = .slice a f.blocks.length c := by
  rcases h.own.2 with ⟨h1, h2⟩ | ⟨g, cap, cur, h1, _⟩
  · exact ⟨none, 0, by rw [h1, h2]⟩
  · exact ⟨_, cap, h1⟩

/-! ### Length -/
set_option maxHeartbeats 400000 in
theorem Length_err (V : Env w lo E) (s : ByteArray) (i : Nat) (hi : i < 11)
    (hf : Calls Tryz.prog 65 #[ptr p, .string s] w fun e w' => e = .returned (.tuple #[.pointer none, errV E i]) ∧ ∃ n, w' = w.drewN n) :
    Calls Tryz.prog 29 #[ptr p, .string s] w fun e w' => e = .returned (.tuple #[.int .i64 0, .bool false, .int .i64 (code i)]) ∧ Touch [] w w' := by
  have H := hid hf
  clear hf
  go_enter Tryz.func29, Tryz.ntmps29
  go_wp2_with (first | (go_at_call 65; refine H.out.mono ?_; rintro e w1 ⟨rfl, hq⟩; have HT := hid (tell_err (Quiet.env hq V).sents i hi); have HQ := hid (Quiet.touch hq []); clear hq) | (go_at_call 26; refine HT.out.mono ?_; rintro e w2 ⟨rfl, rfl⟩))
  go_ret3
  exact ⟨rfl, HQ.out⟩

set_option maxHeartbeats 400000 in
theorem Length_ok (R : Rep w lo p mf mt D) (s : ByteArray) (ho : D.on = true) (hn : nameB s = true) {e0 : Ent} (hf : findE D.ents (nm s) = some e0) :
    Calls Tryz.prog 29 #[ptr p, .string s] w fun e w' => e = .returned (.tuple #[.int .i64 e0.file.blocks.length, .bool e0.file.shut, .int .i64 0]) ∧ Touch [] w w' := by
  have H := hid (find_some R s ho hn hf)
  have hat := R.each e0 (findE_mem hf).1
  obtain ⟨ga, gc, hsv⟩ := hat.slice
  have c0 := cell_row hat.row 0
  have c1 := cell_row hat.row 1
  rw [hsv] at c0 c1
  simp at c0 c1
  clear hf hat hsv R
  cases hs : e0.file.shut
  all_goals
    rw [hs] at c0
    simp at c0
    go_enter Tryz.func29, Tryz.ntmps29
    go_wp2_with (go_at_call 65; refine H.out.mono ?_; rintro e w1 ⟨rfl, hq⟩; have d0 := (Quiet.cell hq _).trans c0; have d1 := (Quiet.cell hq _).trans c1; have HQ := hid (Quiet.touch hq []); clear hq)
    go_quiet (fail)
    go_wp2
    go_ret3
    exact ⟨rfl, HQ.out.drewN _⟩

def lengthA (s : ByteArray) (A : PubA) : Int × Bool × Int :=
  if nameB s then
    match findA A.files (nm s) with
    | none => (0, false, 12)
    | some f => (f.blocks.length, f.shut, 0)
  else (0, false, 11)

theorem Length_any (V : Env w lo E) (R : Rep w lo p mf mt D) (ho : D.on = true) (s : ByteArray) :
    Calls Tryz.prog 29 #[ptr p, .string s] w fun e w' => e = .returned (.tuple #[.int .i64 (lengthA s D.pub).1, .bool (lengthA s D.pub).2.1, .int .i64 (lengthA s D.pub).2.2]) ∧ Touch [] w w' := by
  unfold lengthA
  have hfp : findA D.pub.files (nm s) = (findE D.ents (nm s)).map Ent.file := find_pub _ _
  by_cases hn : nameB s = true
  · rw [if_pos hn, hfp]
    cases hf : findE D.ents (nm s) with
    | none => exact Length_err V s 4 (by omega) (find_none V.sents R s ho hn hf)
    | some e0 => exact Length_ok R s ho hn hf
  · rw [if_neg hn]
    exact Length_err V s 3 (by omega) (find_bad V.sents R s ho (by simpa using hn))

/-! ### has -/
set_option maxHeartbeats 400000 in
theorem has_any {B : Nat} {L : Lay} {f : FileA} (hat : FileAt w B L f) (i : Int) :
    Calls Tryz.prog 90 #[ptr L.fb, .int .i64 i] w fun e w' => e = .returned (.bool (decide (0 ≤ i ∧ i < f.blocks.length))) ∧ w' = w := by
  obtain ⟨ga, gc, hsv⟩ := hat.slice
  have c1 := cell_row hat.row 1
  rw [hsv] at c1
  simp at c1
  clear hat hsv
  by_cases h0 : 0 ≤ i
  · by_cases h1 : i < (f.blocks.length : Int)
    · have hd : decide (0 ≤ i ∧ i < (f.blocks.length : Int)) = true := by simp [h0, h1]
      rw [hd]
      clear hd
      go_enter Tryz.func90, Tryz.ntmps90
      go_wp2
      go_ret
      exact ⟨rfl, rfl⟩
    · have hd : decide (0 ≤ i ∧ i < (f.blocks.length : Int)) = false := by simp; omega
      rw [hd]
      clear hd
      go_enter Tryz.func90, Tryz.ntmps90
      go_wp2
      go_ret
      exact ⟨rfl, rfl⟩
  · have hd : decide (0 ≤ i ∧ i < (f.blocks.length : Int)) = false := by simp; omega
    rw [hd]
    clear hd
    go_enter Tryz.func90, Tryz.ntmps90
    go_wp2
    go_ret
    exact ⟨rfl, rfl⟩
end
end Go.Proofs.YtcpncfngadablaaGreatDoor
namespace Go.Proofs.YtcpncfngadablaaGreatDoor
open Go.RowKit Go.Deep

section
variable {w w' : World} {E : Nat → Addr} {lo p mf mt : Nat} {D : DiskC}

set_option maxHeartbeats 400000 in
theorem carry_fetch (R : Rep w lo p mf mt D) {a k b : Int} (hk1 : (k == 1) = false) (hk2 : (k == 2) = false) :
    Calls Tryz.prog 67 #[ptr p, .agg #[.int .i64 a, .int .i64 k, .int .i64 b], .func (.func 91) #[] #[]] w fun e w' => e = .returned .nilIface ∧ Touch [] w w' := by
  have k0 := R.cell 0
  simp only [dRow] at k0
  have hp := lt_of_block R.row
  go_enter Tryz.func67, Tryz.ntmps67
  go_wp2_with go_in
  go_end0
  go_wp2
  go_ret
  exact ⟨rfl, (Touch.refl [] w).alloc _⟩

set_option maxHeartbeats 400000 in
theorem fetch_err (s : ByteArray) (i : Int) (j : Nat)
    (hf : Calls Tryz.prog 65 #[ptr p, .string s] w fun e w' => e = .returned (.tuple #[.pointer none, errV E j]) ∧ ∃ n, w' = w.drewN n) :
    Calls Tryz.prog 64 #[ptr p, .string s, .int .i64 i] w fun e w' => e = .returned (.tuple #[.slice none 0 0, errV E j]) ∧ Touch [] w w' := by
  have H := hid hf
  clear hf
  go_enter Tryz.func64, Tryz.ntmps64
  go_wp2_with (go_at_call 65; refine H.out.mono ?_; rintro e w1 ⟨rfl, hq⟩; have HQ := hid (Quiet.touch hq []); clear hq)
  go_ret2
  exact ⟨rfl, HQ.out⟩

set_option maxHeartbeats 400000 in
theorem fetch_open (V : Env w lo E) (R : Rep w lo p mf mt D) (s : ByteArray) (i : Int) (ho : D.on = true) (hn : nameB s = true) {e0 : Ent} (hf : findE D.ents (nm s) = some e0) (hs : e0.file.shut = false) :
    Calls Tryz.prog 64 #[ptr p, .string s, .int .i64 i] w fun e w' => e = .returned (.tuple #[.slice none 0 0, errV E 7]) ∧ Touch [] w w' := by
  have H := hid (find_some R s ho hn hf)
  have c0 := cell_row (R.each e0 (findE_mem hf).1).row 0
  simp [hs] at c0
  have c7 := V.sents.var 7 (by omega)
  clear hf hs
  go_enter Tryz.func64, Tryz.ntmps64
  go_wp2_with (go_at_call 65; refine H.out.mono ?_; rintro e w1 ⟨rfl, hq⟩; have d0 := (Quiet.cell hq _).trans c0; have d7 := (Quiet.cell hq _).trans c7; have HQ := hid (Quiet.touch hq []); clear hq c0 c7)
  go_quiet (fail)
  go_wp2
  go_ret2
  exact ⟨rfl, HQ.out.drewN _⟩

set_option maxHeartbeats 400000 in
theorem fetch_out (V : Env w lo E) (R : Rep w lo p mf mt D) (s : ByteArray) (i : Int) (ho : D.on = true) (hn : nameB s = true) {e0 : Ent} (hf : findE D.ents (nm s) = some e0) (hs : e0.file.shut = true) (hi : ¬ (0 ≤ i ∧ i < e0.file.blocks.length)) :
    Calls Tryz.prog 64 #[ptr p, .string s, .int .i64 i] w fun e w' => e = .returned (.tuple #[.slice none 0 0, errV E 8]) ∧ Touch [] w w' := by
  have H := hid (find_some R s ho hn hf)
  have hat := R.each e0 (findE_mem hf).1
  have c0 := cell_row hat.row 0
  simp [hs] at c0
  have c8 := V.sents.var 8 (by omega)
  have hd : decide (0 ≤ i ∧ i < (e0.file.blocks.length : Int)) = false := by simpa using hi
  have HA := hid hat
  clear hf hs hi hat
  go_enter Tryz.func64, Tryz.ntmps64
  go_wp2_with (first
    | (go_at_call 65; refine H.out.mono ?_; rintro e w1 ⟨rfl, hq⟩; have d0 := (Quiet.cell hq _).trans c0; have d8 := (Quiet.cell hq _).trans c8; have HQ := hid hq; clear hq c0 c8)
    | (go_at_call 90; refine (has_any (HA.out.kept fun b _ => by rw [Quiet.heap HQ.out]) i).mono ?_; rintro e w2 ⟨rfl, rfl⟩))
  go_quiet (fail)
  go_wp2
  go_ret2
  exact ⟨rfl, (Quiet.touch HQ.out []).drewN _⟩

/-- where block i of a file lies. -/
theorem FileAt.at {B : Nat} {L : Lay} {f : FileA} (h : FileAt w B L f) {i : Nat} (hi : i < f.blocks.length) :
    ∃ g cap b, L.sv = .slice (some ⟨g, 0, none⟩) f.blocks.length cap ∧ f.blocks.length ≤ cap ∧ w.cell? ⟨g, i, none⟩ = some (sliceV b B) ∧ f.blocks[i].length = B ∧ BytesAt w b f.blocks[i] ∧ L.bs[i]? = some b ∧ L.sv.ownBlock = some g := by
  have hlen := h.len
  have hb : L.bs[i]? = some (L.bs[i]'(by omega)) := List.getElem?_eq_getElem (by omega)
  have hbl := h.bytes i _ f.blocks[i] hb (List.getElem?_eq_getElem hi)
  rcases h.own.2 with ⟨_, h2⟩ | ⟨g, cap, cur, h1, _, hg, hc, _⟩
  · omega
  · refine ⟨g, cap, _, h1, hc, ?_, hbl.1, hbl.2, hb, by rw [h1]; rfl⟩
    have hc2 := h.own.cells (g := g) (by rw [h1]; rfl) i (sliceV (L.bs[i]'(by omega)) B) (by simp [hb])
    have hadd : (⟨g, 0, none⟩ : Addr).add i = ⟨g, i, none⟩ := by unfold Addr.add; split <;> simp_all
    rw [hadd] at hc2
    exact hc2

theorem bytes_src {b : Nat} {bl : List UInt8} (h : BytesAt w b bl) : ∀ j v, (Lib.byteCells bl)[j]? = some v → w.cell? ((⟨b, 0, none⟩ : Addr).add j) = some v := by
  intro j v hv
  have hadd : (⟨b, 0, none⟩ : Addr).add j = ⟨b, j, none⟩ := by unfold Addr.add; split <;> simp_all
  rw [hadd, cell_row h j]
  simpa using hv

theorem copy_at {b B : Nat} {bl : List UInt8} (h : BytesAt w b bl) (hl : bl.length = B) (h1 : 64 ≤ B) (h2 : B ≤ 65536) :
    Calls Tryz.prog 71 #[sliceV b B, .int .i64 B] w fun e w' => e = .returned (sliceV w.heap.size B) ∧ BytesAt w' w.heap.size bl ∧ Touch [] w w' ∧ w'.heap.size = w.heap.size + 1 := by
  have h3 := copyBlock_any bl ⟨b, 0, none⟩ bl.length (B : Int) w (by omega) (Nat.le_refl _) (by omega) (by omega) (bytes_src h) (lt_of_block h)
  rw [cutB_whole (by omega), hl] at h3
  exact h3

set_option maxRecDepth 100000 in
set_option maxHeartbeats 400000 in
theorem fetch_ok (R : Rep w lo p mf mt D) (s : ByteArray) (i : Int) (ho : D.on = true) (hn : nameB s = true) {e0 : Ent} (hf : findE D.ents (nm s) = some e0) (hs : e0.file.shut = true) (hi0 : 0 ≤ i) (hi1 : i < e0.file.blocks.length) {a k b : Int} (hT : TroubleIs D.T D.c.calls a k b) (hk1 : (k == 1) = false) (hk2 : (k == 2) = false) (hS : Small D.pub) :
    Calls Tryz.prog 64 #[ptr p, .string s, .int .i64 i] w fun e w' => ∃ g, e = .returned (.tuple #[sliceV g D.B, .nilIface]) ∧ w.heap.size ≤ g ∧ BytesAt w' g (e0.file.blocks[i.toNat]'(by omega)) ∧ Rep w' lo p mf mt D.numbered ∧ Touch [p, mt] w w' := by
  have H := hid (find_some R s ho hn hf)
  have hm := (findE_mem hf).1
  have hat := R.each e0 hm
  have c0 := cell_row hat.row 0
  simp [hs] at c0
  have hd : decide (0 ≤ i ∧ i < (e0.file.blocks.length : Int)) = true := by simp; omega
  have h0 := hS.calls.1
  have h1 := hS.calls.2
  have hB := hS.size
  simp only [DiskC.pub] at h0 h1 hB
  obtain ⟨hB1, hB2⟩ := hB
  have HA := hid hat
  have HR := hid R
  clear hf hs hat R hS
  go_enter Tryz.func64, Tryz.ntmps64
  go_wp2_with (first
    | (go_at_call 65; refine H.out.mono ?_; rintro e w1 ⟨rfl, hq⟩; have d0 := (Quiet.cell hq _).trans c0; have HQ := hid hq; clear hq c0)
    | (go_at_call 90; refine (has_any (HA.out.kept fun b _ => by rw [Quiet.heap HQ.out]) i).mono ?_; rintro e w2 ⟨rfl, rfl⟩)
    | (go_at_call 68; refine (number_any (Quiet.rep HQ.out HR.out) hT h0 h1).mono ?_; rintro e w3 ⟨rfl, hR3, ht3⟩)
    | (go_at_call 67; refine (carry_fetch hR3 hk1 hk2).mono ?_; rintro e w4 ⟨rfl, ht4⟩; have hR4 := hR3.touch ht4 (by simp); obtain ⟨g, cap, bb, hsv, hcap, hcg, hlen, hby, _, _⟩ := (hR4.each e0 hm).at (i := i.toNat) (by omega); have r1 := cell_row (hR4.each e0 hm).row 1; have r0 := hR4.cell 0; rw [hsv] at r1; simp only [dRow] at r0; have HC := hid (copy_at (w := w4.drew) hby hlen hB1 hB2); have HR4 := hid hR4; clear hby hlen hR4 hsv))
  go_region_held3 (fun W => W.cell? ⟨e0.lay.fb, 1, none⟩ = some (.slice (some ⟨g, 0, none⟩) e0.file.blocks.length cap) ∧ W.cell? ⟨g, i.toNat, none⟩ = some (sliceV bb D.B) ∧ W.cell? ⟨p, 0, none⟩ = some (.int .i64 D.B)) (go_keep)
    (first | (go_at_call 71; refine HC.out.mono ?_; rintro e w5 ⟨rfl, hb5, ht5, hz5⟩; have HB5 := hid hb5; have HT5 := hid ht5; have v1 := (ht5.cell (p := ⟨e0.lay.fb, 1, none⟩) (World.block_lt_of_cell? w4 _ r1) (by simp)).trans r1; have v2 := (ht5.cell (p := ⟨g, i.toNat, none⟩) (World.block_lt_of_cell? w4 _ hcg) (by simp)).trans hcg; have v3 := (ht5.cell (p := ⟨p, 0, none⟩) (World.block_lt_of_cell? w4 _ r0) (by simp)).trans r0; clear hb5 ht5 hz5))
  go_wp2
  go_ret2
  have t4 : Touch [p, mt] w w4 := ((Quiet.touch HQ.out [p, mt]).trans ht3 (by simp)).trans ht4 (by simp)
  have t5 : Touch [] w4 w5 := (Touch.refl [] w4).drew.trans HT5.out (by simp)
  exact ⟨w4.heap.size, rfl, t4.size, HB5.out, HR4.out.touch t5 (by simp), t4.trans t5 (by simp)⟩

/-! ### Read -/
set_option maxHeartbeats 400000 in
theorem Read_err {s : ByteArray} {i : Int} {j : Nat} (V : Env w lo E) (hj : j < 11) (h1 : j ≠ 1) (h9 : j ≠ 9) (h : Calls Tryz.prog 64 #[ptr p, .string s, .int .i64 i] w fun e w' => e = .returned (.tuple #[.slice none 0 0, errV E j]) ∧ Touch [] w w') :
    Calls Tryz.prog 28 #[ptr p, .string s, .int .i64 i] w fun e w' => e = .returned (.tuple #[.slice none 0 0, .int .i64 (code j)]) ∧ Touch [] w w' := by
  have H := hid h
  clear h
  go_enter Tryz.func28, Tryz.ntmps28
  go_wp2_with (first | (go_at_call 64; refine H.out.mono ?_; rintro e w1 ⟨rfl, ht⟩; have HA := hid (answer_err (p := p) (V.touch ht (by simp)).sents j hj h1 h9)) | (go_at_call 33; refine HA.out.mono ?_; rintro e w2 ⟨rfl, rfl⟩))
  go_ret2
  exact ⟨rfl, ht⟩


def readA (s : ByteArray) (i : Int) (A : PubA) : Option (List UInt8) × Int × PubA :=
  if nameB s then
    match findA A.files (nm s) with
    | none => (none, 12, A)
    | some f => if f.shut then
        if 0 ≤ i ∧ i < f.blocks.length then (f.blocks[i.toNat]?, 0, { A with c := { A.c with calls := A.c.calls + 1, reads := A.c.reads + 1 } }) else (none, 16, A)
      else (none, 15, A)
  else (none, 11, A)

/-- what Read hands back: nothing, or new memory that holds the block. -/
def Told1 (w' : World) (n B : Nat) (o : Option (List UInt8)) (v : Value) : Prop :=
  match o with
  | none => v = .slice none 0 0
  | some bl => ∃ g, v = sliceV g B ∧ n ≤ g ∧ BytesAt w' g bl ∧ bl.length = B


end
end Go.Proofs.YtcpncfngadablaaGreatDoor
