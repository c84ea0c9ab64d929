import Derived.Shelf.SlicesQ.Reverse
import Derived.Test.YtclplbnildnifaaGreatDoorZ09
/-
  Desk.reader, Read, Back.
-/
namespace Go.Proofs.YtclplbnildnifaaGreatDoor
open Go.RowKit Go.Deep
set_option linter.unusedSimpArgs false
set_option linter.unusedVariables false

section
variable {w w' : World} {b : Bn} {n : Nat} {A : PubA} {s : Pu.St} {F : List Nat} {kb : Nat} {K : Nat} {T : Int}


set_option maxRecDepth 100000 in
set_option maxHeartbeats 1000000 in
theorem reader_ok (S : Stand w b n A s F) (hn : n < 1099511627776) (hk : DeskAt w kb b K T) (hkF : kb ∉ F) (x : ByteArray) (kind : Int) (bk : Bool) (he : holdE A s K kind [x] [] = 0) :
    Calls Tryz.prog 41 #[ptr kb, .string x, .int .i64 kind, .bool bk] w fun e w' => ∃ rb, e = .returned (.tuple #[ptr rb, .int .i64 0]) ∧ WentN w w' b n A (s.take K) F [] [rb] ∧ w'.heap[rb]? = some (.cells #[ptr kb, .string x, .int .i64 kind, .slice none 0 0, .int .i64 0, .bool false, .bool bk, .int .i64 (lengthB x A).1, .int .i64 0] 106 (0, 0)) := by
  obtain ⟨W0, hW0⟩ : ∃ W0, W0 = w.alloc (.cells #[.string x] 9) := ⟨_, rfl⟩
  have t0 : Touch [] w W0 := by rw [hW0]; exact (Touch.refl [] w).alloc _
  have hs : StrsAt W0 (some ⟨w.heap.size, 0, none⟩) [x] := ⟨fun k hk => by
    have : k = 0 := by simpa using hk
    subst this
    refine ⟨_, rfl, by rw [hW0]; simp, ?_⟩
    rw [hW0]
    exact cell_row (heap_alloc_new w (.cells #[.string x] 9)) 0⟩
  have H := hid (hold_any (S.quiet t0) hn (hk.touch t0 (by simp)) hkF hs (StrsAt.nil W0 none) (by simp) (by simp) (ci := 1) (co := 0) x kind)
  rw [he] at H
  unfold held0 heldV at H
  have HC : Hid (∀ W F1, Stand W b n A (s.take K) F1 → Calls Tryz.prog 87 #[ptr b.p, .string x] W fun e w' => e = .returned (.tuple #[.int .i64 (lengthB x A).1, .bool (lengthB x A).2.1, .int .i64 (lengthB x A).2.2]) ∧ Touch [] W w') := fun W F1 S1 => length_s S1 hn x
  have HK : Hid (∀ W, Touch F w W → W.cell? ⟨kb, 0, none⟩ = some (ptr b.p) ∧ W.cell? ⟨kb, 2, none⟩ = some (.int .i64 K)) := fun W t => ⟨by rw [cell_row (hk.touch t hkF) 0]; rfl, by rw [cell_row (hk.touch t hkF) 2]; rfl⟩
  generalize (lengthB x A).1 = l1 at HC ⊢
  generalize (lengthB x A).2.1 = l2 at HC
  generalize (lengthB x A).2.2 = l3 at HC
  have HT := hid t0
  have HE := hid hW0
  have HS := hid S
  have HKL := hid (lt_of_block hk)
  clear S hk t0 hs hW0 he
  go_enter Tryz.func41, Tryz.ntmps41
  go_wp2_with fail
  rw [← HE.out]
  go_wp2_with (first
    | (go_at_call 77; refine H.out.mono ?_; rintro e w1 (⟨h0, _⟩ | ⟨_, _, rfl, hg⟩); exact absurd rfl h0; obtain ⟨F1, S1, g1, f1⟩ := hg; have tF := (HT.out.mono (F := []) (G := F) (by simp)).trans g1 (fun y hy => .inl (by simpa using hy)); have hck := (fun o : Obj => HK.out (w1.alloc o) (tF.alloc o)); have hc0 := (fun o : Obj => (hck o).1); have HS1 := hid S1; have HG1 := hid g1; have HF1 := hid f1; have HTF := hid tF; clear S1 g1 f1 tF hck)
    | (go_at_call 87; refine (HC.out _ F1 (HS1.out.quiet ((Touch.refl [] w1).alloc _))).mono ?_; rintro e w3 ⟨rfl, t3⟩; have hb3 := (t3.block w1.heap.size (by simp) (by simp)).trans (heap_alloc_new w1 _); have HB3 := hid hb3; have c3 := (fun i => cell_row hb3 i); have HT3 := hid t3; have l3' := lt_of_block hb3; clear t3 hb3))
  go_ret2
  have tt : Touch [] w1 w3 := ((Touch.refl [] w1).alloc _).trans HT3.out (by simp)
  have hw1 := HTF.out.size
  have hw3 := tt.size
  refine ⟨w3.heap.size, rfl, ⟨F1, (HS1.out.quiet tt).quiet ((Touch.refl [] w3).alloc _), ((HTF.out.trans tt (by simp)).alloc _).mono (by simp), fun y hy => ?_, fun y hy => ?_⟩, heap_alloc_new w3 _⟩
  · rcases HF1.out y hy with h | h
    · exact .inl h
    · exact .inr (Nat.le_trans HT.out.size h)
  · simp only [List.mem_cons, List.not_mem_nil, or_false] at hy
    subst hy
    refine ⟨fun hx => ?_, by omega, by simp⟩
    have := (HS1.out.quiet tt).lt _ hx
    omega

set_option maxRecDepth 100000 in
theorem TRead_ok (S : Stand w b n A s F) (hn : n < 1099511627776) (hk : DeskAt w kb b K T) (hkF : kb ∉ F) (x : ByteArray) (kind : Int) (he : holdE A s K kind [x] [] = 0) :
    Calls Tryz.prog 12 #[ptr kb, .string x, .int .i64 kind] w fun e w' => ∃ rb, e = .returned (.tuple #[ptr rb, .int .i64 0]) ∧ WentN w w' b n A (s.take K) F [] [rb] ∧ w'.heap[rb]? = some (.cells #[ptr kb, .string x, .int .i64 kind, .slice none 0 0, .int .i64 0, .bool false, .bool false, .int .i64 (lengthB x A).1, .int .i64 0] 106 (0, 0)) := by
  have H := hid (reader_ok S hn hk hkF x kind false he)
  clear S hk hkF he
  go_enter Tryz.func12, Tryz.ntmps12
  go_wp2_with (go_at_call 41; refine H.out.mono ?_; rintro e w1 ⟨rb, rfl, hg, hr⟩)
  go_ret2
  exact ⟨rb, rfl, hg, hr⟩

set_option maxRecDepth 100000 in
theorem TBack_ok (S : Stand w b n A s F) (hn : n < 1099511627776) (hk : DeskAt w kb b K T) (hkF : kb ∉ F) (x : ByteArray) (kind : Int) (he : holdE A s K kind [x] [] = 0) :
    Calls Tryz.prog 47 #[ptr kb, .string x, .int .i64 kind] w fun e w' => ∃ rb, e = .returned (.tuple #[ptr rb, .int .i64 0]) ∧ WentN w w' b n A (s.take K) F [] [rb] ∧ w'.heap[rb]? = some (.cells #[ptr kb, .string x, .int .i64 kind, .slice none 0 0, .int .i64 0, .bool false, .bool true, .int .i64 (lengthB x A).1, .int .i64 0] 106 (0, 0)) := by
  have H := hid (reader_ok S hn hk hkF x kind true he)
  clear S hk hkF he
  go_enter Tryz.func47, Tryz.ntmps47
  go_wp2_with (go_at_call 41; refine H.out.mono ?_; rintro e w1 ⟨rb, rfl, hg, hr⟩)
  go_ret2
  exact ⟨rb, rfl, hg, hr⟩
end
end Go.Proofs.YtclplbnildnifaaGreatDoor
/-
  Blocks as numbers; Decode of a block that the disk has handed out.
-/
namespace Go.Proofs.YtclplbnildnifaaGreatDoor
open Go.RowKit Go.Deep
set_option linter.unusedSimpArgs false
set_option linter.unusedVariables false

/-- bytes as numbers. -/
def numsU (bl : List UInt8) : List Nat := bl.map UInt8.toNat
theorem numsU_length (bl : List UInt8) : (numsU bl).length = bl.length := by simp [numsU]
theorem numsU_lt (bl : List UInt8) : ∀ y ∈ numsU bl, y < 256 := by
  intro y hy
  unfold numsU at hy
  obtain ⟨c, _, rfl⟩ := List.mem_map.1 hy
  exact c.toNat_lt
theorem nums_bytes {l : List Nat} (h : ∀ y ∈ l, y < 256) : numsU (bytesU l) = l := by
  unfold numsU bytesU
  rw [List.map_map]
  conv => rhs; rw [← List.map_id l]
  refine List.map_congr_left fun y hy => ?_
  have := h y hy
  simp
  omega
theorem bytes_rd {w : World} {g : Nat} {bl : List UInt8} (h : BytesAt w g bl) : Rx.Rd w g 0 (numsU bl) := fun i hi => by
  have h1 := cell_row h i
  rw [Nat.zero_add, h1]
  have hl : i < bl.length := by simpa [numsU] using hi
  simp [Lib.byteCells, numsU, hl]

section
variable {w w' : World} {b : Bn} {n : Nat} {A : PubA} {s : Pu.St} {F : List Nat} {kb g : Nat} {K : Nat} {T : Int} {x : ByteArray}

theorem Stand.blocks (S : Stand w b n A s F) : ∀ e ∈ A.files, ∀ bl ∈ e.2.blocks, bl.length = A.B := by
  obtain ⟨Fd, ⟨D, R, rfl, _⟩, _⟩ := S.disk
  intro e he bl hbl
  have he' : e ∈ D.ents.map Ent.pub := he
  obtain ⟨e0, h0, rfl⟩ := List.mem_map.1 he'
  obtain ⟨i, hi, rfl⟩ := List.getElem_of_mem hbl
  have hat := R.each e0 h0
  have hlb : i < e0.lay.bs.length := by rw [hat.len]; exact hi
  exact (hat.bytes i _ _ (List.getElem?_eq_getElem hlb) (List.getElem?_eq_getElem hi)).1
theorem findA_mem {l : List (List UInt8 × FileA)} {k : List UInt8} {f : FileA} (h : findA l k = some f) : (k, f) ∈ l := by
  unfold findA at h
  obtain ⟨e, he, rfl⟩ := Option.map_eq_some_iff.1 h
  have h1 := List.mem_of_find?_eq_some he
  have h2 := List.find?_some he
  simp at h2
  subst h2
  exact h1
theorem Stand.readA_len (S : Stand w b n A s F) {i : Int} {bl : List UInt8} (h : (readA x i A).1 = some bl) : bl.length = A.B := by
  unfold readA at h
  split at h
  · split at h
    · cases h
    · next f hf =>
      split at h
      · split at h
        · exact S.blocks _ (findA_mem hf) bl (List.mem_of_getElem? h)
        · cases h
      · cases h
  · cases h
theorem Stand.read_len (S : Stand w b n A s F) {i : Int} {t : TrA} {bl : List UInt8} (h : (readB x i t A).1 = some bl) : bl.length = A.B := by
  unfold readB at h
  by_cases ho : A.on = true
  · rw [if_pos ho] at h
    unfold readX at h
    by_cases h0 : (readA x i A).2.1 = 0
    · rw [if_pos h0] at h
      by_cases h1 : t.kind = 1
      · rw [if_pos h1] at h; cases h
      · rw [if_neg h1] at h
        by_cases h2 : t.kind = 2
        · rw [if_pos h2] at h; cases h
        · rw [if_neg h2] at h; exact S.readA_len h
    · rw [if_neg h0] at h; exact S.readA_len h
  · rw [if_neg ho] at h; cases h

theorem decode_no {kind place e : Nat} {bl : List UInt8} (hA : Fits A K) (hb : BytesAt w g bl) (hl : bl.length = A.B) (hk1 : 1 ≤ kind) (hk2 : kind ≤ 255) (hp : place < 9223372036854775808) (he : Rx.DecE kind place (numsU bl) e) :
    Calls Tryz.prog 152 #[.int .i64 (kind : Int), .int .i64 (place : Int), .slice (some ⟨g, 0, none⟩) A.B A.B] w fun e' w' => e' = .returned (.tuple #[.slice none 0 0, .int .i64 (e : Int)]) ∧ Touch [] w w' := by
  have h1 := hA.h64
  have h2 := hA.hmax
  have h3 := hA.h32
  have := Rx.decode_bad kind place (numsU bl) g 0 A.B w (bytes_rd hb) (lt_of_block hb) (numsU_lt bl) (by rw [numsU_length]; omega) (by rw [numsU_length]; omega) (by rw [numsU_length]; omega) (by rw [numsU_length]; omega) hk1 hk2 hp e he
  rw [numsU_length, hl] at this
  exact this

theorem decode_yes {kind place : Nat} {bl : List UInt8} (hA : Fits A K) (hb : BytesAt w g bl) (hl : bl.length = A.B) (hp : place < 9223372036854775808) (h1 : PureCrc.sumFits (numsU bl)) (h2 : PureCrc.Formed (numsU bl)) (h3 : (numsU bl).getD 5 0 = kind) (h4 : PureCrc.num (PureCrc.cut (numsU bl) 8 8) = place) :
    Calls Tryz.prog 152 #[.int .i64 (kind : Int), .int .i64 (place : Int), .slice (some ⟨g, 0, none⟩) A.B A.B] w fun e' w' => ∃ g', e' = .returned (.tuple #[.slice (some ⟨g', 0, none⟩) (PureCrc.count (numsU bl)) (PureCrc.count (numsU bl)), .int .i64 0]) ∧ Rx.WRow w' g' (PureCrc.words (4 * PureCrc.count (numsU bl)) ((numsU bl).drop 28)) ∧ Touch [] w w' ∧ w.heap.size ≤ g' := by
  have a1 := hA.h64
  have a2 := hA.hmax
  have a3 := hA.h32
  subst h3 h4
  have := Rx.decode_ok (numsU bl) g 0 A.B w (bytes_rd hb) (lt_of_block hb) (numsU_lt bl) (by rw [numsU_length]; omega) (by rw [numsU_length]; omega) (by rw [numsU_length]; omega) (by rw [numsU_length]; omega) hp h1 h2
  rw [numsU_length, hl] at this
  exact this
end
end Go.Proofs.YtclplbnildnifaaGreatDoor
/-
  slices.Reverse at records.
-/
namespace Go.Proofs.YtclplbnildnifaaGreatDoor
open Go.RowKit Go.Deep
set_option linter.unusedSimpArgs false
set_option linter.unusedVariables false

def revRen : Go.Shelf.Ren := ⟨fun | 35 => 153 | n => n, fun | 23 => 38 | n => n, fun | n => n⟩
theorem revLays : Go.Proofs.SlLaysE0.n35 Tryz.prog revRen := {
  mixed := by kernel_rfl
  f35 := ⟨ "slices.Reverse[[]strata/api.Rec,strata/api.Rec]", by decide, Tryz.func153.trans (congrArg some (by kernel_rfl))⟩
  t0 := Tryz.underlying0
  a0 := Tryz.isAgg0
  z0 := Tryz.sizeOf0
  v0 := Tryz.zeroValue0
  t3 := Tryz.underlying3
  a3 := Tryz.isAgg3
  z3 := Tryz.sizeOf3
  v3 := Tryz.zeroValue3
  t4 := Tryz.underlying4
  a4 := Tryz.isAgg4
  z4 := Tryz.sizeOf4
  v4 := Tryz.zeroValue4
  t22 := Tryz.underlying22
  a22 := Tryz.isAgg22
  z22 := Tryz.sizeOf22
  v22 := Tryz.zeroValue22 }

/-- a record. -/
abbrev Rc := Nat × Nat × Nat × Nat
def Rc.words (r : Rc) : List Nat := [r.1, r.2.1, r.2.2.1, r.2.2.2]
def Rc.vals (r : Rc) : List Value := recL r.1 r.2.1 r.2.2.1 r.2.2.2
def flatR (l : List Rc) : List Nat := l.flatMap Rc.words
theorem flatR_length (l : List Rc) : (flatR l).length = 4 * l.length := by
  induction l with
  | nil => rfl
  | cons r t ih => simp only [flatR, List.flatMap_cons, List.length_append, List.length_cons] at ih ⊢; rw [ih]; simp [Rc.words]; omega
theorem flatR_get {l : List Rc} {i c : Nat} (hi : i < l.length) (hc : c < 4) : (flatR l)[i * 4 + c]? = (Rc.words l[i])[c]? := by
  induction l generalizing i with
  | nil => simp at hi
  | cons r t ih =>
    have hw : (Rc.words r).length = 4 := rfl
    show (Rc.words r ++ flatR t)[i * 4 + c]? = _
    cases i with
    | zero => rw [List.getElem?_append_left (by omega)]; simp
    | succ i =>
      rw [List.getElem?_append_right (by omega)]
      have e : (i + 1) * 4 + c - (Rc.words r).length = i * 4 + c := by omega
      rw [e, ih (by simpa using hi)]
      rfl

variable {w : World} {g : Nat}
theorem words_vals (r : Rc) (c : Nat) (hc : c < 4) : ((Rc.words r)[c]?).map (fun x : Nat => Value.int .u64 (x : Int)) = (Rc.vals r)[c]? := by
  have : c = 0 ∨ c = 1 ∨ c = 2 ∨ c = 3 := by omega
  rcases this with rfl | rfl | rfl | rfl <;> rfl

theorem holds_of {l : List Rc} (h : Rx.WRow w g (flatR l)) : Go.Sort.HoldsK Rc.vals 4 w g 0 l.toArray := by
  intro j hj
  rw [Go.Sort.size_flatK] at hj
  have hj' : j < l.length * 4 := by simpa using hj
  refine ⟨?_, unfrozen_row h _⟩
  have hi : j / 4 < l.length := by omega
  have hc : j % 4 < 4 := by omega
  have e : j / 4 * 4 + j % 4 = j := by omega
  have h1 := cell_row h j
  rw [Rx.wc_get, ← e, flatR_get hi hc, words_vals _ _ hc] at h1
  rw [e] at h1
  rw [Nat.zero_add, h1, Go.Sort.get_flatK _ _ _ _ (by simpa using hj')]
  have hv : (Rc.vals l[j / 4]).length = 4 := rfl
  simp only [id]
  rw [getElem!_pos l.toArray (j / 4) (by simpa using hi)]
  simp [hv, hc]

/-- records that can be read, from the cell o on. -/
def RdR (w : World) (g o : Nat) (l : List Rc) : Prop := ∀ i (hi : i < l.length) c, c < 4 → w.cell? ⟨g, o + (i * 4 + c), none⟩ = (Rc.vals l[i])[c]?
theorem RdR.of {w : World} {g : Nat} {l : List Rc} (h : Rx.WRow w g (flatR l)) : RdR w g 0 l := fun i hi c hc => by
  rw [Nat.zero_add, cell_row h, Rx.wc_get, flatR_get hi hc, words_vals _ _ hc]
theorem RdR.touch {w w' : World} {g o : Nat} {l : List Rc} {F : List Nat} (h : RdR w g o l) (t : Touch F w w') (hg : g < w.heap.size) (hF : g ∉ F) : RdR w' g o l := fun i hi c hc => (t.cell (p := ⟨g, o + (i * 4 + c), none⟩) hg hF).trans (h i hi c hc)

theorem reverse_any {l : List Rc} (h : Rx.WRow w g (flatR l)) (hl : l.length ≤ 65536) (cap : Nat) :
    Calls Tryz.prog 153 #[.slice (some ⟨g, 0, none⟩) l.length cap] w fun e w' => e = .returned (.tuple #[]) ∧ RdR w' g 0 l.reverse ∧ Touch [g] w w' := by
  have h0 := holds_of h
  have := Go.Proofs.AnyQ.slices_Reverse revLays 4 Tryz.isAgg38 Tryz.sizeOf38 Rc.vals (fun _ => rfl) (fun r v hv => by
    simp only [Rc.vals, recL, List.mem_cons, List.not_mem_nil, or_false] at hv
    rcases hv with rfl | rfl | rfl | rfl <;> rfl) g 0 cap l.toArray w h0 (by simp; omega)
  have h2 : Calls Tryz.prog 153 #[.slice (some ⟨g, 0, none⟩) l.length cap] w fun e w' => e = .returned (.tuple #[]) ∧ ∃ n, w' = Go.Sort.putRowK Rc.vals 4 (Go.Sort.ahead w n) g 0 l.toArray.reverse := this
  refine h2.mono fun e w' ⟨e1, n, e2⟩ => ⟨e1, ?_, ?_⟩
  · have hh := Go.Sort.holdsK_putRowK (enc := Rc.vals) (k := 4) (Go.Sort.ahead w n) g 0 l.toArray l.toArray.reverse h0 (by simp)
    rw [← e2] at hh
    intro i hi c hc
    have hi' : i < l.length := by simpa using hi
    have h3 := (hh (i * 4 + c) (by rw [Go.Sort.size_flatK]; simp; omega)).1
    rw [Go.Sort.get_flatK _ _ _ _ (by simp; omega)] at h3
    have d1 : (i * 4 + c) / 4 = i := by omega
    have d2 : (i * 4 + c) % 4 = c := by omega
    rw [d1, d2] at h3
    rw [h3]
    have hv : ∀ r, (Rc.vals r).length = 4 := fun _ => rfl
    have e5 : l.toArray.reverse[i]! = l.reverse[i] := by
      rw [getElem!_pos _ i (by simpa using hi')]
      simp
    rw [e5]
    simp [hv, hc]
  · have hb : ∀ k, k ≠ g → w'.heap[k]? = w.heap[k]? := fun k hk => by
      rw [e2]
      simp only [Go.Sort.putRowK, Go.Sort.putRow, Go.Sort.mapBlock, Go.Sort.ahead, Array.getElem?_modify]
      rw [if_neg (fun e => hk e.symm)]
    refine ⟨by rw [e2]; rfl, by rw [e2]; rfl, by rw [e2]; rfl, ?_, fun k _ hk => hb k (by simpa using hk)⟩
    rw [e2]
    simp [Go.Sort.putRowK, Go.Sort.ahead]
end Go.Proofs.YtclplbnildnifaaGreatDoor
/-
  Reader.load.
-/
namespace Go.Proofs.YtclplbnildnifaaGreatDoor
open Go.RowKit Go.Deep
set_option linter.unusedSimpArgs false
set_option linter.unusedVariables false

abbrev rrow (kb : Nat) (x : ByteArray) (kind : Nat) (lv : Value) (dead : Int) (back : Bool) (blocks taken : Nat) : Array Value := #[ptr kb, .string x, .int .i64 (kind : Int), lv, .int .i64 dead, .bool false, .bool back, .int .i64 (blocks : Int), .int .i64 (taken : Int)]

section
variable {w w' : World} {b : Bn} {n : Nat} {A : PubA} {s : Pu.St} {F : List Nat} {kb rb : Nat} {K : Nat} {T : Int} {x : ByteArray}

theorem told1_some {w' : World} {m B : Nat} {bl : List UInt8} {v : Value} (h : Told1 w' m B (some bl) v) : ∃ g, v = .slice (some ⟨g, 0, none⟩) B B ∧ m ≤ g ∧ BytesAt w' g bl := by
  obtain ⟨g, h1, h2, h3⟩ := h
  exact ⟨g, h1, h2, h3.1⟩

set_option maxRecDepth 100000 in
set_option maxHeartbeats 4000000 in
theorem load_no (S : Stand w b n A s F) (hn : n < 1099511627776) (hA : Fits A K) (hk : DeskAt w kb b K T) (hkF : kb ∉ F) {kind blocks taken i : Nat} {lv : Value} {dead : Int} (hrow : w.heap[rb]? = some (.cells (rrow kb x kind lv dead false blocks taken) 106 (0, 0))) (hrF : rb ∉ F) (hlo : b.lo ≤ rb) (hne : rb ≠ kb)
    (hpl : taken = i ∧ i < blocks) (hbl : blocks ≤ 1099511627776) (hk1 : 1 ≤ kind) (hk2 : kind ≤ 5) {bl : List UInt8} (hr : (readB x (i : Int) (b.tr A) A).1 = some bl) (hr0 : (readB x (i : Int) (b.tr A) A).2.1 = 0) {er : Nat} (he : Rx.DecE kind i (numsU bl) er) (her : er ≠ 0) :
    Calls Tryz.prog 88 #[ptr rb] w fun e w' => e = .returned (.int .i64 (er : Int)) ∧ Went w w' b (n + 1) (readB x (i : Int) (b.tr A) A).2.2 s F [] := by
  have hlen := S.read_len hr
  have HRD := hid (read_s S hn x (i : Int))
  have HRD2 : Hid (∀ W, Touch [] w W → Calls Tryz.prog 151 #[ptr b.p, .string x, .int .i64 (i : Int)] W fun e w' => ∃ g0, e = .returned (.tuple #[.slice (some ⟨g0, 0, none⟩) A.B A.B, .int .i64 0]) ∧ BytesAt w' g0 bl ∧ W.heap.size ≤ g0 ∧ Went W w' b (n + 1) (readB x (i : Int) (b.tr A) A).2.2 s F []) := fun W t => by
    refine (read_s (S.quiet t) hn x (i : Int)).mono fun e w' ⟨v, e1, hv, hg⟩ => ?_
    rw [hr] at hv
    rw [hr0] at e1
    obtain ⟨g0, rfl, h1, h2⟩ := told1_some hv
    exact ⟨g0, e1, h2, h1, hg⟩
  have HDC : Hid (∀ W g0, BytesAt W g0 bl → Calls Tryz.prog 152 #[.int .i64 (kind : Int), .int .i64 (i : Int), .slice (some ⟨g0, 0, none⟩) A.B A.B] W fun e' w' => e' = .returned (.tuple #[.slice none 0 0, .int .i64 (er : Int)]) ∧ Touch [] W w') := fun W g0 h => decode_no hA h hlen hk1 (by omega) (by omega) he
  have her' : ¬ (er : Int) = 0 := by omega
  generalize (readB x (i : Int) (b.tr A) A).2.2 = A1 at HRD2 ⊢
  have HS := hid S
  have HR := hid hrow
  have HK := hid hk
  have HF := hid (And.intro hrF (And.intro hkF (And.intro hlo hne)))
  have lw := lt_of_block hrow
  have lk := lt_of_block hk
  have c := fun i => cell_row hrow i
  have k0 := cell_row hk 0
  simp at k0
  have c0 := c 0
  have c1 := c 1
  have c2 := c 2
  have c6 := c 6
  have c7 := c 7
  have c8 := c 8
  simp only [List.getElem?_toArray, List.getElem?_cons_zero, List.getElem?_cons_succ] at c0 c1 c2 c6 c7 c8
  have hti : taken = i := hpl.1
  subst hti
  have HPL := hid hpl
  clear S hrow hk hrF hkF hlo hne c hlen hr hr0 hA hk1 hk2 hpl HRD he her
  go_enter Tryz.func88, Tryz.ntmps88
  go_wp2_with fail
  go_region_held3 (fun W => W.cell? ⟨rb, 0, none⟩ = some (ptr kb) ∧ W.cell? ⟨rb, 1, none⟩ = some (.string x) ∧ W.cell? ⟨kb, 0, none⟩ = some (ptr b.p)) (go_keep)
    (first | (go_at_call 151; refine (HRD2.out _ ((Touch.refl [] w).drew)).mono ?_; rintro e w2 ⟨g0, rfl, hby, hg0, hg2⟩; obtain ⟨F2, S2, t2, f2⟩ := hg2; have z2 : w2.cell? ⟨rb, 0, none⟩ = some (ptr kb) ∧ w2.cell? ⟨rb, 1, none⟩ = some (.string x) ∧ w2.cell? ⟨kb, 0, none⟩ = some (ptr b.p) := ⟨(t2.cell (p := ⟨rb, 0, none⟩) lw (by simpa using HF.out.1)).trans c0, (t2.cell (p := ⟨rb, 1, none⟩) lw (by simpa using HF.out.1)).trans c1, (t2.cell (p := ⟨kb, 0, none⟩) lk (by simpa using HF.out.2.1)).trans k0⟩; have r2 := (t2.block rb lw (by simpa using HF.out.1)).trans HR.out; have q2 := cell_row r2 2; simp only [List.getElem?_toArray, List.getElem?_cons_zero, List.getElem?_cons_succ] at q2; have HS2 := hid S2; have HT2 := hid t2; have HF2 := hid f2; have HBY := hid hby; have HR2 := hid r2; clear S2 t2 f2 hby r2 c0 c1 c2 c6 c7 c8 k0))
  have tw2 : Touch F w w2 := (((Touch.refl [] w).drew).mono (by simp)).trans HT2.out (fun y hy => .inl (by simpa using hy))
  have HW2 : Hid (Went w w2 b (n + 1) A1 s F []) := ⟨F2, HS2.out, tw2.mono (by simp), HF2.out⟩
  have HTW2 := hid tw2
  clear tw2
  go_wp2_with (go_at_call 152; refine (HDC.out _ _ HBY.out).mono ?_; rintro e w3 ⟨rfl, ht3⟩)
  go_ret
  exact ⟨rfl, HW2.out.tail ht3⟩

set_option maxRecDepth 100000 in
set_option maxHeartbeats 4000000 in
theorem load_ok (S : Stand w b n A s F) (hn : n < 1099511627776) (hA : Fits A K) (hk : DeskAt w kb b K T) (hkF : kb ∉ F) {kind blocks taken i : Nat} {lv : Value} {dead : Int} (hrow : w.heap[rb]? = some (.cells (rrow kb x kind lv dead false blocks taken) 106 (0, 0))) (hrF : rb ∉ F) (hlo : b.lo ≤ rb) (hne : rb ≠ kb)
    (hpl : taken = i ∧ i < blocks) (hbl : blocks ≤ 1099511627776) (hk1 : 1 ≤ kind) (hk2 : kind ≤ 5) {bl : List UInt8} (hr : (readB x (i : Int) (b.tr A) A).1 = some bl) (hr0 : (readB x (i : Int) (b.tr A) A).2.1 = 0) (d1 : PureCrc.sumFits (numsU bl)) (d2 : PureCrc.Formed (numsU bl)) (d3 : (numsU bl).getD 5 0 = kind) (d4 : PureCrc.num (PureCrc.cut (numsU bl) 8 8) = i) {l : List Rc} (d5 : PureCrc.count (numsU bl) = l.length) (d6 : PureCrc.words (4 * PureCrc.count (numsU bl)) ((numsU bl).drop 28) = flatR l) (d7 : l.length ≤ 65536) (hfull : K ≤ l.length ∨ i + 1 = blocks) :
    Calls Tryz.prog 88 #[ptr rb] w fun e w' => e = .returned (.int .i64 0) ∧ ∃ g, WentN w w' b (n + 1) (readB x (i : Int) (b.tr A) A).2.2 s F [rb] [g] ∧ w'.heap[rb]? = some (.cells (rrow kb x kind (.slice (some ⟨g, 0, none⟩) l.length l.length) dead false blocks (taken + 1)) 106 (0, 0)) ∧ RdR w' g 0 l := by
  have hlen := S.read_len hr
  have HRD := hid (read_s S hn x (i : Int))
  have HRD2 : Hid (∀ W, Touch [] w W → Calls Tryz.prog 151 #[ptr b.p, .string x, .int .i64 (i : Int)] W fun e w' => ∃ g0, e = .returned (.tuple #[.slice (some ⟨g0, 0, none⟩) A.B A.B, .int .i64 0]) ∧ BytesAt w' g0 bl ∧ W.heap.size ≤ g0 ∧ Went W w' b (n + 1) (readB x (i : Int) (b.tr A) A).2.2 s F []) := fun W t => by
    refine (read_s (S.quiet t) hn x (i : Int)).mono fun e w' ⟨v, e1, hv, hg⟩ => ?_
    rw [hr] at hv
    rw [hr0] at e1
    obtain ⟨g0, rfl, h1, h2⟩ := told1_some hv
    exact ⟨g0, e1, h2, h1, hg⟩
  have HDC : Hid (∀ W g0, BytesAt W g0 bl → Calls Tryz.prog 152 #[.int .i64 (kind : Int), .int .i64 (i : Int), .slice (some ⟨g0, 0, none⟩) A.B A.B] W fun e' w' => ∃ g', e' = .returned (.tuple #[.slice (some ⟨g', 0, none⟩) l.length l.length, .int .i64 0]) ∧ Rx.WRow w' g' (flatR l) ∧ Touch [] W w' ∧ W.heap.size ≤ g') := fun W g0 h => by
    have := decode_yes hA h hlen (by omega) d1 d2 d3 d4
    rw [d6, d5] at this
    exact this
  generalize (readB x (i : Int) (b.tr A) A).2.2 = A1 at HRD2 ⊢
  have HS := hid S
  have HR := hid hrow
  have HK := hid hk
  have HF := hid (And.intro hrF (And.intro hkF (And.intro hlo hne)))
  have lw := lt_of_block hrow
  have lk := lt_of_block hk
  have c := fun i => cell_row hrow i
  have k0 := cell_row hk 0
  simp at k0
  have c0 := c 0
  have c1 := c 1
  have c2 := c 2
  have c6 := c 6
  have c7 := c 7
  have c8 := c 8
  simp only [List.getElem?_toArray, List.getElem?_cons_zero, List.getElem?_cons_succ] at c0 c1 c2 c6 c7 c8
  have hti : taken = i := hpl.1
  subst hti
  have HPL := hid hpl
  clear S hrow hk hrF hkF hlo hne c hlen hr hr0 hA hk1 hk2 hpl HRD d1 d2 d3 d4 d5 d6
  go_enter Tryz.func88, Tryz.ntmps88
  go_wp2_with fail
  go_region_held3 (fun W => W.cell? ⟨rb, 0, none⟩ = some (ptr kb) ∧ W.cell? ⟨rb, 1, none⟩ = some (.string x) ∧ W.cell? ⟨kb, 0, none⟩ = some (ptr b.p)) (go_keep)
    (first | (go_at_call 151; refine (HRD2.out _ ((Touch.refl [] w).drew)).mono ?_; rintro e w2 ⟨g0, rfl, hby, hg0, hg2⟩; obtain ⟨F2, S2, t2, f2⟩ := hg2; have z2 : w2.cell? ⟨rb, 0, none⟩ = some (ptr kb) ∧ w2.cell? ⟨rb, 1, none⟩ = some (.string x) ∧ w2.cell? ⟨kb, 0, none⟩ = some (ptr b.p) := ⟨(t2.cell (p := ⟨rb, 0, none⟩) lw (by simpa using HF.out.1)).trans c0, (t2.cell (p := ⟨rb, 1, none⟩) lw (by simpa using HF.out.1)).trans c1, (t2.cell (p := ⟨kb, 0, none⟩) lk (by simpa using HF.out.2.1)).trans k0⟩; have r2 := (t2.block rb lw (by simpa using HF.out.1)).trans HR.out; have q2 := cell_row r2 2; simp only [List.getElem?_toArray, List.getElem?_cons_zero, List.getElem?_cons_succ] at q2; have HS2 := hid S2; have HT2 := hid t2; have HF2 := hid f2; have HBY := hid hby; have HR2 := hid r2; clear S2 t2 f2 hby r2 c0 c1 c2 c6 c7 c8 k0))
  have tw2 : Touch F w w2 := (((Touch.refl [] w).drew).mono (by simp)).trans HT2.out (fun y hy => .inl (by simpa using hy))
  have HW2 : Hid (Went w w2 b (n + 1) A1 s F []) := ⟨F2, HS2.out, tw2.mono (by simp), HF2.out⟩
  have HTW2 := hid tw2
  clear tw2
  have lw2 : rb < w2.heap.size := lt_of_block HR2.out
  have lk2 : kb < w2.heap.size := Nat.lt_of_lt_of_le lk HTW2.out.size
  have HK2 : Hid (DeskAt w2 kb b K T) := HK.out.touch HTW2.out HF.out.2.1
  have hwt : IntKind.i64.wrap ((taken : Int) + 1) = ((taken + 1 : Nat) : Int) := by rw [IntKind.wrap_i64]; have := HPL.out; omega
  have hwb : IntKind.i64.wrap ((blocks : Int) - 1) = (blocks : Int) - 1 := by rw [IntKind.wrap_i64]; have := HPL.out; omega
  by_cases hlt : l.length < K
  · have hi : ¬ ((taken : Int) < (blocks : Int) - 1) := by omega
    go_wp2_with (first
    | (go_at_call 152; refine (HDC.out _ _ HBY.out).mono ?_; rintro e w3 ⟨g, rfl, hwr, ht3, hg3⟩; have r3 := (ht3.block rb lw2 (by simp)).trans HR2.out; have q := (fun i => cell_row r3 i); have q0 := q 0; have q3 := q 3; have q6 := q 6; have q7 := q 7; have q8 := q 8; have u3 := (fun i => unfrozen_row r3 i); have k3 := cell_row (HK2.out.touch ht3 (by simp)) 2; simp only [List.getElem?_toArray, List.getElem?_cons_zero, List.getElem?_cons_succ] at q0 q3 q6 q7 q8 k3; have HWR := hid hwr; have HT3 := hid ht3; have HG3 := hid hg3; have HR3 := hid r3; clear q hwr ht3 hg3 r3 z2 q2))
    go_ret
    have t4 : Touch [g] w2 w3 := HT3.out.mono (F := []) (G := [g]) (by simp)
    have tf : Touch [rb, g] w2 ((w3.setCell ⟨rb, 3, none⟩ (.slice (some ⟨g, 0, none⟩) l.length l.length)).setCell ⟨rb, 8, none⟩ (.int .i64 ((taken : Int) + 1))) := ((t4.mono (by simp)).setCell (by simp) _).setCell (by simp) _
    have hgs := HG3.out
    have hrb : rb < g := by omega
    have hgF : g ∉ F2 := fun hx => by have := HS2.out.lt _ hx; omega
    have hgl : g < w3.heap.size := lt_of_block HWR.out
    refine ⟨rfl, g, ⟨F2, HS2.out.touch tf (fun y hy => ?_), ?_, HF2.out, fun y hy => ?_⟩, ?_, ?_⟩
    · simp at hy
      rcases hy with rfl | rfl
      · refine ⟨fun hx => ?_, HF.out.2.2.1⟩
        rcases HF2.out _ hx with h | h
        · exact HF.out.1 h
        · have h : w.heap.size ≤ y := h
          omega
      · exact ⟨hgF, by have := HS2.out.room; omega⟩
    · refine (HTW2.out.mono (by intro y hy; simp [hy])).trans tf (fun y hy => ?_)
      simp at hy
      rcases hy with rfl | rfl
      · exact .inl (by simp)
      · exact .inr (by have := HTW2.out.size; omega)
    · simp at hy
      subst hy
      refine ⟨hgF, by have := HTW2.out.size; omega, ?_⟩
      have h9 : w3.heap.size ≤ w3.heap.size := by exact Nat.le_refl _
      simp [World.setCell]
      omega
    · exact (heap_setCell_row (heap_setCell_row HR3.out 3 _) 8 _).trans (by simp)
    · refine RdR.touch (F := [rb]) (RdR.of HWR.out) (((Touch.refl [rb] _).setCell (by simp) _).setCell (by simp) _) ?_ (by simp; omega)
      have h9 : w3.heap.size ≤ w3.heap.size := by exact Nat.le_refl _
      omega
  · go_wp2_with (first
    | (go_at_call 152; refine (HDC.out _ _ HBY.out).mono ?_; rintro e w3 ⟨g, rfl, hwr, ht3, hg3⟩; have r3 := (ht3.block rb lw2 (by simp)).trans HR2.out; have q := (fun i => cell_row r3 i); have q0 := q 0; have q3 := q 3; have q6 := q 6; have q7 := q 7; have q8 := q 8; have u3 := (fun i => unfrozen_row r3 i); have k3 := cell_row (HK2.out.touch ht3 (by simp)) 2; simp only [List.getElem?_toArray, List.getElem?_cons_zero, List.getElem?_cons_succ] at q0 q3 q6 q7 q8 k3; have HWR := hid hwr; have HT3 := hid ht3; have HG3 := hid hg3; have HR3 := hid r3; clear q hwr ht3 hg3 r3 z2 q2))
    go_ret
    have t4 : Touch [g] w2 w3 := HT3.out.mono (F := []) (G := [g]) (by simp)
    have tf : Touch [rb, g] w2 ((w3.setCell ⟨rb, 3, none⟩ (.slice (some ⟨g, 0, none⟩) l.length l.length)).setCell ⟨rb, 8, none⟩ (.int .i64 ((taken : Int) + 1))) := ((t4.mono (by simp)).setCell (by simp) _).setCell (by simp) _
    have hgs := HG3.out
    have hrb : rb < g := by omega
    have hgF : g ∉ F2 := fun hx => by have := HS2.out.lt _ hx; omega
    have hgl : g < w3.heap.size := lt_of_block HWR.out
    refine ⟨rfl, g, ⟨F2, HS2.out.touch tf (fun y hy => ?_), ?_, HF2.out, fun y hy => ?_⟩, ?_, ?_⟩
    · simp at hy
      rcases hy with rfl | rfl
      · refine ⟨fun hx => ?_, HF.out.2.2.1⟩
        rcases HF2.out _ hx with h | h
        · exact HF.out.1 h
        · have h : w.heap.size ≤ y := h
          omega
      · exact ⟨hgF, by have := HS2.out.room; omega⟩
    · refine (HTW2.out.mono (by intro y hy; simp [hy])).trans tf (fun y hy => ?_)
      simp at hy
      rcases hy with rfl | rfl
      · exact .inl (by simp)
      · exact .inr (by have := HTW2.out.size; omega)
    · simp at hy
      subst hy
      refine ⟨hgF, by have := HTW2.out.size; omega, ?_⟩
      have h9 : w3.heap.size ≤ w3.heap.size := by exact Nat.le_refl _
      simp [World.setCell]
      omega
    · exact (heap_setCell_row (heap_setCell_row HR3.out 3 _) 8 _).trans (by simp)
    · refine RdR.touch (F := [rb]) (RdR.of HWR.out) (((Touch.refl [rb] _).setCell (by simp) _).setCell (by simp) _) ?_ (by simp; omega)
      have h9 : w3.heap.size ≤ w3.heap.size := by exact Nat.le_refl _
      omega

set_option maxRecDepth 100000 in
set_option maxHeartbeats 4000000 in
theorem load_no_back (S : Stand w b n A s F) (hn : n < 1099511627776) (hA : Fits A K) (hk : DeskAt w kb b K T) (hkF : kb ∉ F) {kind blocks taken i : Nat} {lv : Value} {dead : Int} (hrow : w.heap[rb]? = some (.cells (rrow kb x kind lv dead true blocks taken) 106 (0, 0))) (hrF : rb ∉ F) (hlo : b.lo ≤ rb) (hne : rb ≠ kb)
    (hpl : blocks = i + 1 + taken) (hbl : blocks ≤ 1099511627776) (hk1 : 1 ≤ kind) (hk2 : kind ≤ 5) {bl : List UInt8} (hr : (readB x (i : Int) (b.tr A) A).1 = some bl) (hr0 : (readB x (i : Int) (b.tr A) A).2.1 = 0) {er : Nat} (he : Rx.DecE kind i (numsU bl) er) (her : er ≠ 0) :
    Calls Tryz.prog 88 #[ptr rb] w fun e w' => e = .returned (.int .i64 (er : Int)) ∧ Went w w' b (n + 1) (readB x (i : Int) (b.tr A) A).2.2 s F [] := by
  have hlen := S.read_len hr
  have HRD := hid (read_s S hn x (i : Int))
  have HRD2 : Hid (∀ W, Touch [] w W → Calls Tryz.prog 151 #[ptr b.p, .string x, .int .i64 (i : Int)] W fun e w' => ∃ g0, e = .returned (.tuple #[.slice (some ⟨g0, 0, none⟩) A.B A.B, .int .i64 0]) ∧ BytesAt w' g0 bl ∧ W.heap.size ≤ g0 ∧ Went W w' b (n + 1) (readB x (i : Int) (b.tr A) A).2.2 s F []) := fun W t => by
    refine (read_s (S.quiet t) hn x (i : Int)).mono fun e w' ⟨v, e1, hv, hg⟩ => ?_
    rw [hr] at hv
    rw [hr0] at e1
    obtain ⟨g0, rfl, h1, h2⟩ := told1_some hv
    exact ⟨g0, e1, h2, h1, hg⟩
  have HDC : Hid (∀ W g0, BytesAt W g0 bl → Calls Tryz.prog 152 #[.int .i64 (kind : Int), .int .i64 (i : Int), .slice (some ⟨g0, 0, none⟩) A.B A.B] W fun e' w' => e' = .returned (.tuple #[.slice none 0 0, .int .i64 (er : Int)]) ∧ Touch [] W w') := fun W g0 h => decode_no hA h hlen hk1 (by omega) (by omega) he
  have her' : ¬ (er : Int) = 0 := by omega
  generalize (readB x (i : Int) (b.tr A) A).2.2 = A1 at HRD2 ⊢
  have HS := hid S
  have HR := hid hrow
  have HK := hid hk
  have HF := hid (And.intro hrF (And.intro hkF (And.intro hlo hne)))
  have lw := lt_of_block hrow
  have lk := lt_of_block hk
  have c := fun i => cell_row hrow i
  have k0 := cell_row hk 0
  simp at k0
  have c0 := c 0
  have c1 := c 1
  have c2 := c 2
  have c6 := c 6
  have c7 := c 7
  have c8 := c 8
  simp only [List.getElem?_toArray, List.getElem?_cons_zero, List.getElem?_cons_succ] at c0 c1 c2 c6 c7 c8
  have hw1 : IntKind.i64.wrap ((blocks : Int) - 1) = (blocks : Int) - 1 := by rw [IntKind.wrap_i64]; omega
  have hw2 : IntKind.i64.wrap ((blocks : Int) - 1 - (taken : Int)) = (i : Int) := by rw [IntKind.wrap_i64]; omega
  have HPL := hid hpl
  clear S hrow hk hrF hkF hlo hne c hlen hr hr0 hA hk1 hk2 hpl HRD he her
  go_enter Tryz.func88, Tryz.ntmps88
  go_wp2_with fail
  go_quiet (fail)
  go_wp2_with fail
  go_region_held3 (fun W => W.cell? ⟨rb, 0, none⟩ = some (ptr kb) ∧ W.cell? ⟨rb, 1, none⟩ = some (.string x) ∧ W.cell? ⟨kb, 0, none⟩ = some (ptr b.p)) (go_keep)
    (first | (go_at_call 151; refine (HRD2.out _ (((Touch.refl [] w).drewN nq).drew)).mono ?_; rintro e w2 ⟨g0, rfl, hby, hg0, hg2⟩; obtain ⟨F2, S2, t2, f2⟩ := hg2; have z2 : w2.cell? ⟨rb, 0, none⟩ = some (ptr kb) ∧ w2.cell? ⟨rb, 1, none⟩ = some (.string x) ∧ w2.cell? ⟨kb, 0, none⟩ = some (ptr b.p) := ⟨(t2.cell (p := ⟨rb, 0, none⟩) lw (by simpa using HF.out.1)).trans c0, (t2.cell (p := ⟨rb, 1, none⟩) lw (by simpa using HF.out.1)).trans c1, (t2.cell (p := ⟨kb, 0, none⟩) lk (by simpa using HF.out.2.1)).trans k0⟩; have r2 := (t2.block rb lw (by simpa using HF.out.1)).trans HR.out; have q2 := cell_row r2 2; simp only [List.getElem?_toArray, List.getElem?_cons_zero, List.getElem?_cons_succ] at q2; have HS2 := hid S2; have HT2 := hid t2; have HF2 := hid f2; have HBY := hid hby; have HR2 := hid r2; clear S2 t2 f2 hby r2 c0 c1 c2 c6 c7 c8 k0))
  have tw2 : Touch F w w2 := ((((Touch.refl [] w).drewN nq).drew).mono (by simp)).trans HT2.out (fun y hy => .inl (by simpa using hy))
  have HW2 : Hid (Went w w2 b (n + 1) A1 s F []) := ⟨F2, HS2.out, tw2.mono (by simp), HF2.out⟩
  have HTW2 := hid tw2
  clear tw2
  go_wp2_with (go_at_call 152; refine (HDC.out _ _ HBY.out).mono ?_; rintro e w3 ⟨rfl, ht3⟩)
  go_ret
  exact ⟨rfl, HW2.out.tail ht3⟩

set_option maxRecDepth 100000 in
set_option maxHeartbeats 4000000 in
theorem load_ok_back (S : Stand w b n A s F) (hn : n < 1099511627776) (hA : Fits A K) (hk : DeskAt w kb b K T) (hkF : kb ∉ F) {kind blocks taken i : Nat} {lv : Value} {dead : Int} (hrow : w.heap[rb]? = some (.cells (rrow kb x kind lv dead true blocks taken) 106 (0, 0))) (hrF : rb ∉ F) (hlo : b.lo ≤ rb) (hne : rb ≠ kb)
    (hpl : blocks = i + 1 + taken) (hbl : blocks ≤ 1099511627776) (hk1 : 1 ≤ kind) (hk2 : kind ≤ 5) {bl : List UInt8} (hr : (readB x (i : Int) (b.tr A) A).1 = some bl) (hr0 : (readB x (i : Int) (b.tr A) A).2.1 = 0) (d1 : PureCrc.sumFits (numsU bl)) (d2 : PureCrc.Formed (numsU bl)) (d3 : (numsU bl).getD 5 0 = kind) (d4 : PureCrc.num (PureCrc.cut (numsU bl) 8 8) = i) {l : List Rc} (d5 : PureCrc.count (numsU bl) = l.length) (d6 : PureCrc.words (4 * PureCrc.count (numsU bl)) ((numsU bl).drop 28) = flatR l) (d7 : l.length ≤ 65536) (hfull : K ≤ l.length ∨ i + 1 = blocks) :
    Calls Tryz.prog 88 #[ptr rb] w fun e w' => e = .returned (.int .i64 0) ∧ ∃ g, WentN w w' b (n + 1) (readB x (i : Int) (b.tr A) A).2.2 s F [rb] [g] ∧ w'.heap[rb]? = some (.cells (rrow kb x kind (.slice (some ⟨g, 0, none⟩) l.length l.length) dead true blocks (taken + 1)) 106 (0, 0)) ∧ RdR w' g 0 l.reverse := by
  have hlen := S.read_len hr
  have HRD := hid (read_s S hn x (i : Int))
  have HRD2 : Hid (∀ W, Touch [] w W → Calls Tryz.prog 151 #[ptr b.p, .string x, .int .i64 (i : Int)] W fun e w' => ∃ g0, e = .returned (.tuple #[.slice (some ⟨g0, 0, none⟩) A.B A.B, .int .i64 0]) ∧ BytesAt w' g0 bl ∧ W.heap.size ≤ g0 ∧ Went W w' b (n + 1) (readB x (i : Int) (b.tr A) A).2.2 s F []) := fun W t => by
    refine (read_s (S.quiet t) hn x (i : Int)).mono fun e w' ⟨v, e1, hv, hg⟩ => ?_
    rw [hr] at hv
    rw [hr0] at e1
    obtain ⟨g0, rfl, h1, h2⟩ := told1_some hv
    exact ⟨g0, e1, h2, h1, hg⟩
  have HDC : Hid (∀ W g0, BytesAt W g0 bl → Calls Tryz.prog 152 #[.int .i64 (kind : Int), .int .i64 (i : Int), .slice (some ⟨g0, 0, none⟩) A.B A.B] W fun e' w' => ∃ g', e' = .returned (.tuple #[.slice (some ⟨g', 0, none⟩) l.length l.length, .int .i64 0]) ∧ Rx.WRow w' g' (flatR l) ∧ Touch [] W w' ∧ W.heap.size ≤ g') := fun W g0 h => by
    have := decode_yes hA h hlen (by omega) d1 d2 d3 d4
    rw [d6, d5] at this
    exact this
  generalize (readB x (i : Int) (b.tr A) A).2.2 = A1 at HRD2 ⊢
  have HS := hid S
  have HR := hid hrow
  have HK := hid hk
  have HF := hid (And.intro hrF (And.intro hkF (And.intro hlo hne)))
  have lw := lt_of_block hrow
  have lk := lt_of_block hk
  have c := fun i => cell_row hrow i
  have k0 := cell_row hk 0
  simp at k0
  have c0 := c 0
  have c1 := c 1
  have c2 := c 2
  have c6 := c 6
  have c7 := c 7
  have c8 := c 8
  simp only [List.getElem?_toArray, List.getElem?_cons_zero, List.getElem?_cons_succ] at c0 c1 c2 c6 c7 c8
  have hw1 : IntKind.i64.wrap ((blocks : Int) - 1) = (blocks : Int) - 1 := by rw [IntKind.wrap_i64]; omega
  have hw2 : IntKind.i64.wrap ((blocks : Int) - 1 - (taken : Int)) = (i : Int) := by rw [IntKind.wrap_i64]; omega
  have HPL := hid hpl
  clear S hrow hk hrF hkF hlo hne c hlen hr hr0 hA hk1 hk2 hpl HRD d1 d2 d3 d4 d5 d6
  go_enter Tryz.func88, Tryz.ntmps88
  go_wp2_with fail
  go_quiet (fail)
  go_wp2_with fail
  go_region_held3 (fun W => W.cell? ⟨rb, 0, none⟩ = some (ptr kb) ∧ W.cell? ⟨rb, 1, none⟩ = some (.string x) ∧ W.cell? ⟨kb, 0, none⟩ = some (ptr b.p)) (go_keep)
    (first | (go_at_call 151; refine (HRD2.out _ (((Touch.refl [] w).drewN nq).drew)).mono ?_; rintro e w2 ⟨g0, rfl, hby, hg0, hg2⟩; obtain ⟨F2, S2, t2, f2⟩ := hg2; have z2 : w2.cell? ⟨rb, 0, none⟩ = some (ptr kb) ∧ w2.cell? ⟨rb, 1, none⟩ = some (.string x) ∧ w2.cell? ⟨kb, 0, none⟩ = some (ptr b.p) := ⟨(t2.cell (p := ⟨rb, 0, none⟩) lw (by simpa using HF.out.1)).trans c0, (t2.cell (p := ⟨rb, 1, none⟩) lw (by simpa using HF.out.1)).trans c1, (t2.cell (p := ⟨kb, 0, none⟩) lk (by simpa using HF.out.2.1)).trans k0⟩; have r2 := (t2.block rb lw (by simpa using HF.out.1)).trans HR.out; have q2 := cell_row r2 2; simp only [List.getElem?_toArray, List.getElem?_cons_zero, List.getElem?_cons_succ] at q2; have HS2 := hid S2; have HT2 := hid t2; have HF2 := hid f2; have HBY := hid hby; have HR2 := hid r2; clear S2 t2 f2 hby r2 c0 c1 c2 c6 c7 c8 k0))
  have tw2 : Touch F w w2 := ((((Touch.refl [] w).drewN nq).drew).mono (by simp)).trans HT2.out (fun y hy => .inl (by simpa using hy))
  have HW2 : Hid (Went w w2 b (n + 1) A1 s F []) := ⟨F2, HS2.out, tw2.mono (by simp), HF2.out⟩
  have HTW2 := hid tw2
  clear tw2
  have lw2 : rb < w2.heap.size := lt_of_block HR2.out
  have lk2 : kb < w2.heap.size := Nat.lt_of_lt_of_le lk HTW2.out.size
  have HK2 : Hid (DeskAt w2 kb b K T) := HK.out.touch HTW2.out HF.out.2.1
  have hwt : IntKind.i64.wrap ((taken : Int) + 1) = ((taken + 1 : Nat) : Int) := by rw [IntKind.wrap_i64]; have := HPL.out; omega
  have hwb : IntKind.i64.wrap ((blocks : Int) - 1) = (blocks : Int) - 1 := by rw [IntKind.wrap_i64]; have := HPL.out; omega
  by_cases hlt : l.length < K
  · have hi : ¬ ((i : Int) < (blocks : Int) - 1) := by omega
    go_wp2_with (first
    | (go_at_call 152; refine (HDC.out _ _ HBY.out).mono ?_; rintro e w3 ⟨g, rfl, hwr, ht3, hg3⟩; have r3 := (ht3.block rb lw2 (by simp)).trans HR2.out; have q := (fun i => cell_row r3 i); have q0 := q 0; have q3 := q 3; have q6 := q 6; have q7 := q 7; have q8 := q 8; have u3 := (fun i => unfrozen_row r3 i); have k3 := cell_row (HK2.out.touch ht3 (by simp)) 2; simp only [List.getElem?_toArray, List.getElem?_cons_zero, List.getElem?_cons_succ] at q0 q3 q6 q7 q8 k3; have HWR := hid hwr; have HT3 := hid ht3; have HG3 := hid hg3; have HR3 := hid r3; clear q hwr ht3 hg3 r3 z2 q2)
    | (go_at_call 153; refine (reverse_any HWR.out d7 l.length).mono ?_; rintro e w4 ⟨rfl, hrd, ht4⟩; have nrg : rb ∉ [g] := (by have := HG3.out; simp; omega); have r4 := (ht4.block rb (lt_of_block HR3.out) nrg).trans HR3.out; have p := (fun i => cell_row r4 i); have p3 := p 3; have p8 := p 8; have v4 := (fun i => unfrozen_row r4 i); simp only [List.getElem?_toArray, List.getElem?_cons_zero, List.getElem?_cons_succ] at p3 p8; have HRDR := hid hrd; have HT4 := hid ht4; have HR4 := hid r4; clear p hrd ht4 r4 q0 q3 q6 q7 q8 u3 k3))
    go_ret
    have t4 : Touch [g] w2 w4 := (HT3.out.mono (F := []) (G := [g]) (by simp)).trans HT4.out (fun y hy => .inl hy)
    have tf : Touch [rb, g] w2 ((w4.setCell ⟨rb, 3, none⟩ (.slice (some ⟨g, 0, none⟩) l.length l.length)).setCell ⟨rb, 8, none⟩ (.int .i64 ((taken : Int) + 1))) := ((t4.mono (by simp)).setCell (by simp) _).setCell (by simp) _
    have hgs := HG3.out
    have hrb : rb < g := by omega
    have hgF : g ∉ F2 := fun hx => by have := HS2.out.lt _ hx; omega
    have hgl : g < w3.heap.size := lt_of_block HWR.out
    refine ⟨rfl, g, ⟨F2, HS2.out.touch tf (fun y hy => ?_), ?_, HF2.out, fun y hy => ?_⟩, ?_, ?_⟩
    · simp at hy
      rcases hy with rfl | rfl
      · refine ⟨fun hx => ?_, HF.out.2.2.1⟩
        rcases HF2.out _ hx with h | h
        · exact HF.out.1 h
        · have h : w.heap.size ≤ y := h
          omega
      · exact ⟨hgF, by have := HS2.out.room; omega⟩
    · refine (HTW2.out.mono (by intro y hy; simp [hy])).trans tf (fun y hy => ?_)
      simp at hy
      rcases hy with rfl | rfl
      · exact .inl (by simp)
      · exact .inr (by have := HTW2.out.size; omega)
    · simp at hy
      subst hy
      refine ⟨hgF, by have := HTW2.out.size; omega, ?_⟩
      have h9 : w3.heap.size ≤ w4.heap.size := by exact HT4.out.size
      simp [World.setCell]
      omega
    · exact (heap_setCell_row (heap_setCell_row HR4.out 3 _) 8 _).trans (by simp)
    · refine RdR.touch (F := [rb]) HRDR.out (((Touch.refl [rb] _).setCell (by simp) _).setCell (by simp) _) ?_ (by simp; omega)
      have h9 : w3.heap.size ≤ w4.heap.size := by exact HT4.out.size
      omega
  · go_wp2_with (first
    | (go_at_call 152; refine (HDC.out _ _ HBY.out).mono ?_; rintro e w3 ⟨g, rfl, hwr, ht3, hg3⟩; have r3 := (ht3.block rb lw2 (by simp)).trans HR2.out; have q := (fun i => cell_row r3 i); have q0 := q 0; have q3 := q 3; have q6 := q 6; have q7 := q 7; have q8 := q 8; have u3 := (fun i => unfrozen_row r3 i); have k3 := cell_row (HK2.out.touch ht3 (by simp)) 2; simp only [List.getElem?_toArray, List.getElem?_cons_zero, List.getElem?_cons_succ] at q0 q3 q6 q7 q8 k3; have HWR := hid hwr; have HT3 := hid ht3; have HG3 := hid hg3; have HR3 := hid r3; clear q hwr ht3 hg3 r3 z2 q2)
    | (go_at_call 153; refine (reverse_any HWR.out d7 l.length).mono ?_; rintro e w4 ⟨rfl, hrd, ht4⟩; have nrg : rb ∉ [g] := (by have := HG3.out; simp; omega); have r4 := (ht4.block rb (lt_of_block HR3.out) nrg).trans HR3.out; have p := (fun i => cell_row r4 i); have p3 := p 3; have p8 := p 8; have v4 := (fun i => unfrozen_row r4 i); simp only [List.getElem?_toArray, List.getElem?_cons_zero, List.getElem?_cons_succ] at p3 p8; have HRDR := hid hrd; have HT4 := hid ht4; have HR4 := hid r4; clear p hrd ht4 r4 q0 q3 q6 q7 q8 u3 k3))
    go_ret
    have t4 : Touch [g] w2 w4 := (HT3.out.mono (F := []) (G := [g]) (by simp)).trans HT4.out (fun y hy => .inl hy)
    have tf : Touch [rb, g] w2 ((w4.setCell ⟨rb, 3, none⟩ (.slice (some ⟨g, 0, none⟩) l.length l.length)).setCell ⟨rb, 8, none⟩ (.int .i64 ((taken : Int) + 1))) := ((t4.mono (by simp)).setCell (by simp) _).setCell (by simp) _
    have hgs := HG3.out
    have hrb : rb < g := by omega
    have hgF : g ∉ F2 := fun hx => by have := HS2.out.lt _ hx; omega
    have hgl : g < w3.heap.size := lt_of_block HWR.out
    refine ⟨rfl, g, ⟨F2, HS2.out.touch tf (fun y hy => ?_), ?_, HF2.out, fun y hy => ?_⟩, ?_, ?_⟩
    · simp at hy
      rcases hy with rfl | rfl
      · refine ⟨fun hx => ?_, HF.out.2.2.1⟩
        rcases HF2.out _ hx with h | h
        · exact HF.out.1 h
        · have h : w.heap.size ≤ y := h
          omega
      · exact ⟨hgF, by have := HS2.out.room; omega⟩
    · refine (HTW2.out.mono (by intro y hy; simp [hy])).trans tf (fun y hy => ?_)
      simp at hy
      rcases hy with rfl | rfl
      · exact .inl (by simp)
      · exact .inr (by have := HTW2.out.size; omega)
    · simp at hy
      subst hy
      refine ⟨hgF, by have := HTW2.out.size; omega, ?_⟩
      have h9 : w3.heap.size ≤ w4.heap.size := by exact HT4.out.size
      simp [World.setCell]
      omega
    · exact (heap_setCell_row (heap_setCell_row HR4.out 3 _) 8 _).trans (by simp)
    · refine RdR.touch (F := [rb]) HRDR.out (((Touch.refl [rb] _).setCell (by simp) _).setCell (by simp) _) ?_ (by simp; omega)
      have h9 : w3.heap.size ≤ w4.heap.size := by exact HT4.out.size
      omega

end
end Go.Proofs.YtclplbnildnifaaGreatDoor
