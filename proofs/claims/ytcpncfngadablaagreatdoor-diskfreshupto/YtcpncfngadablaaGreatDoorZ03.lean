import Derived.Deep.RegionHeld3
import Derived.Test.YtcpncfngadablaaGreatDoorZ02
namespace Go.Proofs.YtcpncfngadablaaGreatDoor
open Go.RowKit Go.Deep

/-- a file put in at its place by name. -/
def insE (e : Ent) : List Ent → List Ent
  | [] => [e]
  | y :: r => if (Lit.string e.name).before (.string y.name) then e :: y :: r else y :: insE e r

theorem insE_key (e : Ent) : ∀ l : List Ent, DataW.insert e.key (l.map Ent.key) = (insE e l).map Ent.key
  | [] => rfl
  | y :: r => by
    simp only [List.map_cons, DataW.insert, insE]
    have h : (e.key.1.before y.key.1) = (Lit.string e.name).before (.string y.name) := rfl
    rw [h]
    split
    · rfl
    · simp [insE_key e r]
theorem insE_perm (e : Ent) : ∀ l : List Ent, (insE e l).Perm (e :: l)
  | [] => .refl _
  | y :: r => by
    unfold insE
    split
    · exact .refl _
    · exact ((insE_perm e r).cons y).trans (.swap _ _ _)
theorem put_map {e : Ent} {l : List Ent} (h : findE l e.name = none) : (mapOf l).put (.string e.name) (.lit (.int .i64 e.lay.fb)) = mapOf (insE e l) := by
  unfold mapOf DataW.put
  have hf : (l.map Ent.key).filter (fun p => !p.1.sameKey (.string e.name)) = l.map Ent.key := by
    rw [List.filter_eq_self]
    intro x hx
    obtain ⟨y, hy, rfl⟩ := List.mem_map.1 hx
    have := List.find?_eq_none.1 h y hy
    simp at this
    simp [Ent.key, Lit.sameKey, this]
  simp only [hf]
  exact congrArg _ (insE_key e l)

def dropE (k : List UInt8) (l : List Ent) : List Ent := l.filter fun e => !decide (e.name = k)
theorem del_map (l : List Ent) (k : List UInt8) : (mapOf l).del (.string k) = mapOf (dropE k l) := by
  unfold mapOf dropE
  show DataW.map ((l.map Ent.key).filter fun p => !p.1.sameKey (.string k)) = _
  congr 1
  rw [List.filter_map]
  congr 1
  apply List.filter_congr
  intro e _
  simp only [Function.comp, Ent.key, Lit.sameKey]
  by_cases h : e.name = k <;> simp [h]

section
variable {w w' : World} {E : Nat → Addr} {lo p mf mt : Nat} {D : DiskC}


/-- the blocks of the files are none of the disk's own three. -/
theorem Rep.ent_ne (R : Rep w lo p mf mt D) {e : Ent} (he : e ∈ D.ents) {b : Nat} (hb : b ∈ e.lay.foot) : b ≠ p ∧ b ≠ mf ∧ b ≠ mt ∧ b < w.heap.size ∧ lo ≤ b := by
  have hm' : b ∈ D.ents.flatMap fun e => e.lay.foot := List.mem_flatMap.2 ⟨e, he, hb⟩
  have ha := R.apart
  simp only [DiskC.foot, List.nodup_cons, List.mem_cons, not_or] at ha
  have hmem : b ∈ D.foot p mf mt := by simp only [DiskC.foot, List.mem_cons]; exact .inr (.inr (.inr hm'))
  refine ⟨?_, ?_, ?_, R.lt b hmem, R.base b hmem⟩ <;> intro h <;> subst h
  · exact ha.1.2.2 hm'
  · exact ha.2.1.2 hm'
  · exact ha.2.2.1 hm'

/-- A new, empty file. -/
theorem Rep.insert (R : Rep w lo p mf mt D) {s : ByteArray} {fb : Nat} (hs : s.size ≤ 32) (hfind : findE D.ents (nm s) = none) (ht : Touch [mf] w w') (hfb : w.heap.size ≤ fb) (hlo : lo ≤ fb)
    (hrow : w'.heap[fb]? = some (.cells #[.int .i64 0, .slice none 0 0] 118 (0, 0))) (hmap : w'.ownsMap Tryz.prog 9 ptrElem mf (D.ents.length + 1) ((mapOf D.ents).put (.string (nm s)) (.lit (.int .i64 fb)))) :
    Rep w' lo p mf mt { D with ents := insE ⟨nm s, ⟨false, []⟩, ⟨fb, .slice none 0 0, []⟩⟩ D.ents } := by
  obtain ⟨n, hT⟩ := R.troubles
  have hne := R.p_ne
  have hperm := insE_perm ⟨nm s, ⟨false, []⟩, ⟨fb, .slice none 0 0, []⟩⟩ D.ents
  have hfoot : (DiskC.foot { D with ents := insE ⟨nm s, ⟨false, []⟩, ⟨fb, .slice none 0 0, []⟩⟩ D.ents } p mf mt).Perm (fb :: D.foot p mf mt) := by
    simp only [DiskC.foot]
    have h1 := hperm.flatMap_right fun e : Ent => e.lay.foot
    have h2 : (({ name := nm s, file := ⟨false, []⟩, lay := ⟨fb, .slice none 0 0, []⟩ } : Ent) :: D.ents).flatMap (fun e => e.lay.foot) = fb :: D.ents.flatMap fun e => e.lay.foot := by
      simp [Lay.foot, Value.ownBlock]
    rw [h2] at h1
    refine (((h1.cons mt).cons mf).cons p).trans ?_
    refine .trans (((List.Perm.swap fb mt _).cons mf).cons p) ?_
    exact .trans ((List.Perm.swap fb mf _).cons p) (.swap fb p _)
  have hold : ∀ b ∈ D.foot p mf mt, b ≠ mf → w'.heap[b]? = w.heap[b]? := fun b hb h => ht.block b (R.lt b hb) (by simp [h])
  refine ⟨(hold p (by simp [DiskC.foot]) hne.2.1).trans R.row, ?_, ⟨n, ownsMap_kept hT (hold mt (by simp [DiskC.foot]) hne.2.2.symm)⟩, ?_, ?_, ?_, ?_⟩
  · have hp := put_map (e := ⟨nm s, ⟨false, []⟩, ⟨fb, .slice none 0 0, []⟩⟩) hfind
    rw [hp] at hmap
    have hl : (insE ⟨nm s, ⟨false, []⟩, ⟨fb, .slice none 0 0, []⟩⟩ D.ents).length = D.ents.length + 1 := by rw [hperm.length_eq]; rfl
    show w'.ownsMap Tryz.prog 9 ptrElem mf (insE _ D.ents).length _
    rw [hl]
    exact hmap
  · intro e he
    rcases List.mem_cons.1 (hperm.mem_iff.1 he) with rfl | he
    · exact ⟨hrow, World.ownsRow_nil _ _ _ _, fun i b bl hb _ => by simp at hb⟩
    · exact (R.each e he).kept fun b hb => by
        have := R.ent_ne he hb
        exact ht.block b this.2.2.2.1 (by simp [this.2.1])
  · rw [hfoot.nodup_iff, List.nodup_cons]
    exact ⟨fun h => by have := R.lt fb h; omega, R.apart⟩
  · intro b hb
    rcases List.mem_cons.1 (hfoot.mem_iff.1 hb) with rfl | hb
    · exact hlo
    · exact R.base b hb
  · intro e he
    rcases List.mem_cons.1 (hperm.mem_iff.1 he) with rfl | he
    · show (nm s).length ≤ 32
      rw [Array.length_toList]
      exact hs
    · exact R.names e he
end
end Go.Proofs.YtcpncfngadablaaGreatDoor
namespace Go.Proofs.YtcpncfngadablaaGreatDoor
open Go.RowKit Go.Deep

section
variable {w w' : World} {E : Nat → Addr} {lo p mf mt : Nat} {D : DiskC}

theorem file_store {W : World} {n : Nat} {Dm : DataW Unit} (h : W.ownsMap Tryz.prog 9 ptrElem mf n Dm) (hn : n ≤ 1099511627776) {s : ByteArray} (hs : s.size ≤ 32) (fb : Nat) :
    ∃ w2, (Instr.mapUpdate 88 (.map (some mf)) (.string s) (.pointer (some ⟨fb, 0, none⟩))).run Tryz.prog W = .ok () w2 ∧ w2.ownsMap Tryz.prog 9 ptrElem mf (n + 1) (Dm.put (.string (nm s)) (.lit (.int .i64 fb))) ∧ W.grownBy w2 (some mf) := by
  obtain ⟨w2, h1, h2, h3⟩ := h.store (t := 88) (e := 92) (Maps.string_keyed Tryz.underlying9) Tryz.underlying88 (by unfold maxLen; omega) (WideMaps.keyOf_string_mk Tryz.underlying9 (s := s) (by unfold maxLen; omega)) (val := .pointer (some ⟨fb, 0, none⟩)) (d := .lit (.int .i64 fb)) (ps := []) rfl
  exact ⟨w2, h1, h2, h3.grown⟩

theorem two_stores {X w1 : World} {bd bn : Nat} (ht : Touch [] w X) (R : Rep w lo p mf mt D) (hn : D.ents.length ≤ 1099511627776) {s : ByteArray} (hs : s.size ≤ 32) (hbd : w.heap[bd]? = some (.cells #[ptr p] 23 (0, 0))) (hbn : w.heap[bn]? = some (.cells #[.string s] 9 (0, 0))) (hb : Below X.heap.size X w1) (fb : Nat) :
    ∃ wA wB, (Instr.mapUpdate 88 (.map (some mf)) (.string s) (.pointer (some ⟨w1.heap.size, 0, none⟩))).run Tryz.prog (w1.alloc (.cells #[.int .i64 0, .slice none 0 0] 118)) = .ok () wA ∧
      wA.ownsMap Tryz.prog 9 ptrElem mf (D.ents.length + 1) ((mapOf D.ents).put (.string (nm s)) (.lit (.int .i64 w1.heap.size))) ∧ (w1.alloc (.cells #[.int .i64 0, .slice none 0 0] 118)).grownBy wA (some mf) ∧
      (Instr.mapUpdate 88 (.map (some mf)) (.string s) (.pointer (some ⟨fb, 0, none⟩))).run Tryz.prog w1 = .ok () wB ∧ wB.ownsMap Tryz.prog 9 ptrElem mf (D.ents.length + 1) ((mapOf D.ents).put (.string (nm s)) (.lit (.int .i64 fb))) ∧ w1.grownBy wB (some mf) ∧
      w1.cell? ⟨p, 3, none⟩ = some (.map (some mf)) ∧ w1.cell? ⟨bd, 0, none⟩ = some (ptr p) ∧ w1.cell? ⟨bn, 0, none⟩ = some (.string s) ∧ (p < w1.heap.size ∧ bd < w1.heap.size ∧ bn < w1.heap.size) ∧ (wA.cell? ⟨p, 3, none⟩ = some (.map (some mf)) ∧ wA.cell? ⟨bd, 0, none⟩ = some (ptr p) ∧ wA.cell? ⟨bn, 0, none⟩ = some (.string s)) ∧ (wB.cell? ⟨p, 3, none⟩ = some (.map (some mf)) ∧ wB.cell? ⟨bd, 0, none⟩ = some (ptr p) ∧ wB.cell? ⟨bn, 0, none⟩ = some (.string s)) ∧ Hid (Touch [] w w1) ∧ Hid (∀ b, b < X.heap.size → w1.heap[b]? = X.heap[b]?) := by
  have hT : Touch [] w w1 := ht.trans (Touch.of_below (F := []) hb (Nat.le_refl _)) (by simp)
  have h1 := ownsMap_kept R.files (hT.block mf R.files.lt (by simp))
  obtain ⟨wA, a1, a2, a3⟩ := file_store (h1.alloc (.cells #[.int .i64 0, .slice none 0 0] 118)) hn hs w1.heap.size
  obtain ⟨wB, b1, b2, b3⟩ := file_store h1 hn hs fb
  have q1 : w1.cell? ⟨p, 3, none⟩ = some (.map (some mf)) := by rw [hT.cell (p := ⟨p, 3, none⟩) (lt_of_block R.row) (by simp), R.cell 3]; rfl
  have q2 : w1.cell? ⟨bd, 0, none⟩ = some (ptr p) := by rw [hT.cell (p := ⟨bd, 0, none⟩) (lt_of_block hbd) (by simp), cell_row hbd]; rfl
  have q3 : w1.cell? ⟨bn, 0, none⟩ = some (.string s) := by rw [hT.cell (p := ⟨bn, 0, none⟩) (lt_of_block hbn) (by simp), cell_row hbn]; rfl
  have l1 := Nat.lt_of_lt_of_le (lt_of_block R.row) hT.size
  have l2 := Nat.lt_of_lt_of_le (lt_of_block hbd) hT.size
  have l3 := Nat.lt_of_lt_of_le (lt_of_block hbn) hT.size
  obtain ⟨es, clock, hes, _⟩ := R.files
  have n1 : some p ≠ some mf := by simp [R.p_ne.2.1]
  have n2 : some bd ≠ some mf := by intro e; simp at e; subst e; rw [hes] at hbd; simp at hbd
  have n3 : some bn ≠ some mf := by intro e; simp at e; subst e; rw [hes] at hbn; simp at hbn
  have al : ∀ b o v, b < w1.heap.size → w1.cell? ⟨b, o, none⟩ = some v → (w1.alloc (.cells #[.int .i64 0, .slice none 0 0] 118)).cell? ⟨b, o, none⟩ = some v := fun b o v hlt hv => (World.cell?_of_block (Below.heap_alloc w1 _ b hlt)).trans hv
  exact ⟨wA, wB, a1, a2, a3, b1, b2, b3, q1, q2, q3, ⟨l1, l2, l3⟩, ⟨a3.cell (al _ _ _ l1 q1) n1, a3.cell (al _ _ _ l2 q2) n2, a3.cell (al _ _ _ l3 q3) n3⟩, ⟨b3.cell q1 n1, b3.cell q2 n2, b3.cell q3 n3⟩, hT, fun b hlt => hb.block b hlt⟩

set_option maxRecDepth 100000 in
set_option maxHeartbeats 400000 in
theorem create1_any (R : Rep w lo p mf mt D) {s : ByteArray} (k : Int) (bd bn : Nat) (hs : s.size ≤ 32) (hfind : findE D.ents (nm s) = none) (hlo : lo ≤ w.heap.size) (hsmall : D.ents.length ≤ 1099511627776)
    (hbd : w.heap[bd]? = some (.cells #[ptr p] 23 (0, 0))) (hbn : w.heap[bn]? = some (.cells #[.string s] 9 (0, 0))) :
    Calls Tryz.prog 69 #[.int .i64 k, ptr bd, ptr bn] w fun e w' => e = .returned (.tuple #[]) ∧ (∃ fb, w.heap.size ≤ fb ∧ Rep w' lo p mf mt { D with ents := insE ⟨nm s, ⟨false, []⟩, ⟨fb, .slice none 0 0, []⟩⟩ D.ents }) ∧ Touch [mf] w w' := by
  have k3 := R.cell 3
  simp only [dRow] at k3
  have cd := cell_row hbd 0
  have cn := cell_row hbn 0
  simp at cd cn
  go_enter Tryz.func69, Tryz.ntmps69
  go_wp2
  have hmf := R.files.lt
  have hp := lt_of_block R.row
  have lbd := lt_of_block hbd
  have lbn := lt_of_block hbn
  have HF := hid R.files
  have HN := hid hfind
  clear hfind
  have HR := hid R
  clear R HF
  go_region_held3 (fun W => W.cell? ⟨p, 3, none⟩ = some (.map (some mf)) ∧ W.cell? ⟨bd, 0, none⟩ = some (ptr p) ∧ W.cell? ⟨bn, 0, none⟩ = some (.string s)) (go_keep)
    (first | (go_at_call 58; refine (ownName_any s _ (by omega)).mono ?_; rintro e w1 ⟨rfl, hb1⟩; obtain ⟨wA, wB, hA, mA, tA, hB, mB, tB, z1, z2, z3, ⟨z4, z5, z6⟩, ⟨y1, y2, y3⟩, ⟨x1, x2, x3⟩, hT1, hX⟩ := two_stores (by first | exact (Touch.refl _ _).drew | exact ((Touch.refl _ _).drew).alloc _ | exact ((Touch.refl _ _).alloc _).drew) HR.out hsmall hs hbd hbn hb1 w.heap.size; clear hb1))
  · go_wp2
    go_end0
    have hm1 : mf ≠ w1.heap.size := by have := hT1.out.size; omega
    have ht : Touch [mf] w wA := ((hT1.out.mono (by simp)).alloc _).grown tA (by simp)
    refine ⟨rfl, ⟨w1.heap.size, hT1.out.size, HR.out.insert hs HN.out ht hT1.out.size (Nat.le_trans hlo hT1.out.size) ?_ mA⟩, ht⟩
    rw [tA.block _ (by simp) (by simpa using hm1.symm)]
    exact heap_alloc_new w1 _
  · go_wp2
    go_end0
    have ht : Touch [mf] w wB := (hT1.out.mono (by simp)).grown tB (by simp)
    have h1 : w.heap.size < w1.heap.size := by
      have h2 := hX.out w.heap.size (by simp)
      have h3 : (w.alloc (.cells #[.int .i64 0, .slice none 0 0] 118)).drew.heap[w.heap.size]? = some (.cells #[.int .i64 0, .slice none 0 0] 118) := heap_alloc_new w _
      rw [h3] at h2
      exact lt_of_block h2
    refine ⟨rfl, ⟨w.heap.size, Nat.le_refl _, HR.out.insert hs HN.out ht (Nat.le_refl _) hlo ?_ mB⟩, ht⟩
    rw [tB.block _ h1 (by simp; omega), hX.out w.heap.size (by simp)]
    exact heap_alloc_new w _
end
end Go.Proofs.YtcpncfngadablaaGreatDoor
namespace Go.Proofs.YtcpncfngadablaaGreatDoor
open Go.RowKit Go.Deep

/-- The errors lie below lo. -/
structure Env (w : World) (lo : Nat) (E : Nat → Addr) : Prop where
  sents : Sents w E
  vars : 11 ≤ lo
  objs : ∀ i, i < 11 → (E i).block < lo
  room : lo ≤ w.heap.size

theorem Env.touch {w w' : World} {lo : Nat} {E : Nat → Addr} {F : List Nat} (h : Env w lo E) (ht : Touch F w w') (hF : ∀ b ∈ F, lo ≤ b) : Env w' lo E :=
  ⟨h.sents.below (ht.below h.room hF) h.vars h.objs, h.vars, h.objs, Nat.le_trans h.room ht.size⟩

section
variable {w w' : World} {E : Nat → Addr} {lo p mf mt : Nat} {D : DiskC}

theorem Rep.alloc (R : Rep w lo p mf mt D) (o : Obj) : Rep (w.alloc o) lo p mf mt D := R.touch (F := []) ((Touch.refl _ _).alloc _) (by simp)
theorem Rep.drewN (R : Rep w lo p mf mt D) (n : Nat) : Rep (w.drewN n) lo p mf mt D := R.kept fun _ _ => rfl
theorem Touch.drewN {F : List Nat} {a : World} (h : Touch F a w) (n : Nat) : Touch F a (w.drewN n) := ⟨h.os, h.tape, h.output, h.size, h.block⟩
theorem Env.alloc (h : Env w lo E) (o : Obj) : Env (w.alloc o) lo E := h.touch (F := []) ((Touch.refl _ _).alloc _) (by simp)
theorem Env.drewN (h : Env w lo E) (n : Nat) : Env (w.drewN n) lo E := h.touch (F := []) ((Touch.refl _ _).drewN n) (by simp)

set_option maxRecDepth 100000 in
set_option maxHeartbeats 400000 in
theorem carry_create (R : Rep w lo p mf mt D) {s : ByteArray} {a k b : Int} (bd bn : Nat) (hk1 : (k == 1) = false) (hk2 : (k == 2) = false) (hs : s.size ≤ 32) (hfind : findE D.ents (nm s) = none) (hlo : lo ≤ w.heap.size) (hsmall : D.ents.length ≤ 1099511627776)
    (hbd : w.heap[bd]? = some (.cells #[ptr p] 23 (0, 0))) (hbn : w.heap[bn]? = some (.cells #[.string s] 9 (0, 0))) :
    Calls Tryz.prog 67 #[ptr p, .agg #[.int .i64 a, .int .i64 k, .int .i64 b], .func (.func 69) #[] #[ptr bd, ptr bn]] w fun e w' => e = .returned .nilIface ∧ (∃ fb, w.heap.size ≤ fb ∧ Rep w' lo p mf mt { D with ents := insE ⟨nm s, ⟨false, []⟩, ⟨fb, .slice none 0 0, []⟩⟩ D.ents }) ∧ Touch [mf] w w' := by
  have k0 := R.cell 0
  simp only [dRow] at k0
  have hp := lt_of_block R.row
  have lbd := lt_of_block hbd
  have lbn := lt_of_block hbn
  have H := hid (fun o : Obj => create1_any (R.alloc o) (D.B : Int) bd bn hs hfind (Nat.le_trans hlo (by simp)) hsmall ((Below.heap_alloc w o bd lbd).trans hbd) ((Below.heap_alloc w o bn lbn).trans hbn))
  clear hbd hbn hfind
  go_enter Tryz.func67, Tryz.ntmps67
  go_wp2_with (go_at_call 69; refine (H.out _).mono ?_; rintro e w1 ⟨rfl, ⟨fb, hfb, hR⟩, ht⟩)
  go_ret
  have h1 : Touch [mf] w w1 := ((Touch.refl [mf] w).alloc _).trans ht (by simp)
  exact ⟨rfl, ⟨fb, Nat.le_trans (by simp) hfb, hR⟩, h1⟩

/-! ### create -/
set_option maxHeartbeats 400000 in
theorem create_err (V : Env w lo E) (s : ByteArray) (i : Nat) (hi : i < 11) (h4 : i ≠ 4)
    (hf : ∀ o1 o2 : Obj, Calls Tryz.prog 65 #[ptr p, .string s] ((w.alloc o1).alloc o2) fun e w' => e = .returned (.tuple #[.pointer none, errV E i]) ∧ ∃ n, w' = ((w.alloc o1).alloc o2).drewN n) :
    Calls Tryz.prog 34 #[ptr p, .string s] w fun e w' => e = .returned (errV E i) ∧ Touch [] w w' := by
  have H := hid hf
  have H2 := hid (fun (o1 o2 : Obj) (n : Nat) => is_at (((V.alloc o1).alloc o2).drewN n).sents i 4 hi (by omega))
  have c4 : ∀ (o1 o2 : Obj) (n : Nat), (((w.alloc o1).alloc o2).drewN n).cell? ⟨4, 0, none⟩ = some (errV E 4) := fun o1 o2 n => (((V.alloc o1).alloc o2).drewN n).sents.var 4 (by omega)
  have hd : decide (i = 4) = false := by simp [h4]
  clear hf h4 hi
  go_enter Tryz.func34, Tryz.ntmps34
  go_wp2_with (first | (go_at_call 65; refine (H.out _ _).mono ?_; rintro e w1 ⟨rfl, n, rfl⟩) | (go_at_call 62; refine (H2.out _ _ _).mono ?_; rintro e w1 ⟨rfl, rfl⟩))
  go_ret
  exact ⟨rfl, (((Touch.refl [] w).alloc _).alloc _).drewN _⟩

theorem create_bad (V : Env w lo E) (R : Rep w lo p mf mt D) (s : ByteArray) (ho : D.on = true) (hn : nameB s = false) :
    Calls Tryz.prog 34 #[ptr p, .string s] w fun e w' => e = .returned (errV E 3) ∧ Touch [] w w' :=
  create_err V s 3 (by omega) (by omega) fun o1 o2 => find_bad ((V.alloc o1).alloc o2).sents ((R.alloc o1).alloc o2) s ho hn

set_option maxHeartbeats 400000 in
theorem create_there (V : Env w lo E) (R : Rep w lo p mf mt D) (s : ByteArray) (ho : D.on = true) (hn : nameB s = true) {e0 : Ent} (hf : findE D.ents (nm s) = some e0) :
    Calls Tryz.prog 34 #[ptr p, .string s] w fun e w' => e = .returned (errV E 5) ∧ Touch [] w w' := by
  have H := hid (fun o1 o2 : Obj => find_some ((R.alloc o1).alloc o2) s ho hn hf)
  have c5 : ∀ (o1 o2 : Obj) (n : Nat), (((w.alloc o1).alloc o2).drewN n).cell? ⟨5, 0, none⟩ = some (errV E 5) := fun o1 o2 n => (((V.alloc o1).alloc o2).drewN n).sents.var 5 (by omega)
  clear hf
  go_enter Tryz.func34, Tryz.ntmps34
  go_wp2_with (go_at_call 65; refine (H.out _ _).mono ?_; rintro e w1 ⟨rfl, n, rfl⟩)
  go_ret
  exact ⟨rfl, (((Touch.refl [] w).alloc _).alloc _).drewN _⟩

/-- the numbers behind a call that is numbered. -/
def DiskC.numbered (D : DiskC) : DiskC := { D with T := D.T.del (.int .i64 D.c.calls), c := { D.c with calls := D.c.calls + 1 } }

theorem number_row {W w2 : World} {b : Nat} {o : Obj} {n : Nat} (hb : W.heap[b]? = some o) (ht : Touch [p, mt] (W.drewN n) w2) (h1 : p < b) (h2 : mt < b) : w2.heap[b]? = some o :=
  (ht.block b (lt_of_block (w := W) hb) (by simp; omega)).trans hb
theorem number_box {W w2 : World} {b : Nat} {v : Value} {t : TypeId} {n : Nat} (hb : W.heap[b]? = some (.cells #[v] t)) (ht : Touch [p, mt] (W.drewN n) w2) (h1 : p < b) (h2 : mt < b) : w2.cell? ⟨b, 0, none⟩ = some v :=
  cell_row (number_row hb ht h1 h2) 0

set_option maxRecDepth 100000 in
set_option maxHeartbeats 400000 in
theorem create_ok (V : Env w lo E) (R : Rep w lo p mf mt D) (s : ByteArray) (ho : D.on = true) (hn : nameB s = true) (hf : findE D.ents (nm s) = none) {a k b : Int} (hT : TroubleIs D.T D.c.calls a k b) (hk1 : (k == 1) = false) (hk2 : (k == 2) = false)
    (h0 : 0 ≤ D.c.calls) (h1 : D.c.calls ≤ 1099511627776) (hsmall : D.ents.length ≤ 1099511627776) :
    Calls Tryz.prog 34 #[ptr p, .string s] w fun e w' => e = .returned .nilIface ∧ (∃ fb, w.heap.size ≤ fb ∧ Rep w' lo p mf mt { D.numbered with ents := insE ⟨nm s, ⟨false, []⟩, ⟨fb, .slice none 0 0, []⟩⟩ D.ents }) ∧ Touch [p, mf, mt] w w' := by
  obtain ⟨W, hW⟩ : ∃ W, W = (w.alloc (.cells #[ptr p] 23)).alloc (.cells #[.string s] 9) := ⟨_, rfl⟩
  have hW1 : W.heap[w.heap.size]? = some (.cells #[ptr p] 23) ∧ W.heap[w.heap.size + 1]? = some (.cells #[.string s] 9) := by rw [hW]; exact heap_two w _ _
  have hTW : Touch [] w W := by rw [hW]; exact ((Touch.refl [] w).alloc _).alloc _
  have VW : Env W lo E := V.touch hTW (by simp)
  have RW : Rep W lo p mf mt D := R.touch hTW (by simp)
  have H := hid (find_none VW.sents RW s ho hn hf)
  have H2 := hid (fun n : Nat => is_at (VW.drewN n).sents 4 4 (by omega) (by omega))
  have c4 : ∀ n : Nat, (W.drewN n).cell? ⟨4, 0, none⟩ = some (errV E 4) := fun n => (VW.drewN n).sents.var 4 (by omega)
  have cd : ∀ n : Nat, (W.drewN n).cell? ⟨w.heap.size, 0, none⟩ = some (ptr p) := fun n => cell_row (w := W.drewN n) hW1.1 0
  have cn : ∀ n : Nat, (W.drewN n).cell? ⟨w.heap.size + 1, 0, none⟩ = some (.string s) := fun n => cell_row (w := W.drewN n) hW1.2 0
  have HV := hid VW
  have HR := hid RW
  have HW := hid hW1
  have HF := hid hf
  have HTW := hid hTW
  have HE := hid hW
  have hp := lt_of_block R.row
  have hmf := R.files.lt
  have hmt : mt < w.heap.size := R.lt mt (by simp [DiskC.foot])
  clear hf V R VW RW hW1 hTW hW
  go_enter Tryz.func34, Tryz.ntmps34
  go_wp2_with fail
  rw [← HE.out]
  refine H.out.mono ?_
  rintro e w1 ⟨rfl, n, rfl⟩
  go_wp2_with (go_at_call 62; refine (H2.out _).mono ?_; rintro e w1 ⟨rfl, rfl⟩)
  go_region_held3 (fun W' => W'.cell? ⟨w.heap.size, 0, none⟩ = some (ptr p)) (go_keep)
    (first
      | (go_at_call 68; refine (number_any (HR.out.drewN _) hT h0 h1).mono ?_; rintro e w2 ⟨rfl, hR2, ht2⟩; have hb2 := HW.out; have z2 : w2.cell? ⟨w.heap.size, 0, none⟩ = some (ptr p) := number_box hb2.1 ht2 hp hmt; have q2 := hid (number_row hb2.1 ht2 hp hmt); have q3 := hid (number_row hb2.2 ht2 (by omega) (by omega)); clear hb2)
      | (go_at_call 67; refine (carry_create hR2 _ _ hk1 hk2 (name_size hn) HF.out ?_ hsmall q2.out q3.out).mono ?_; exact Nat.le_trans HV.out.room ht2.size; rintro e w3 ⟨rfl, ⟨fb, hfb, hR3⟩, ht3⟩; have z3 : w3.cell? ⟨w.heap.size, 0, none⟩ = some (ptr p) := (ht3.cell (p := ⟨w.heap.size, 0, none⟩) (lt_of_block q2.out) (by simp; omega)).trans z2))
  all_goals
    go_wp2
    go_ret
    have t3 : Touch [p, mf, mt] w w3 := (((HTW.out.mono (by simp)).drewN _).trans ht2 (by simp)).trans ht3 (by simp)
    exact ⟨rfl, ⟨fb, Nat.le_trans (Nat.le_trans HTW.out.size ht2.size) hfb, hR3⟩, t3⟩
end
end Go.Proofs.YtcpncfngadablaaGreatDoor
