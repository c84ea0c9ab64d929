import Derived.Test.YtcpncfngadablaaDoorZ25
import Derived.Test.YtcpncfngadablaaDoorZ18
import Derived.Test.YtcpncfngadablaaDoorZ16
/-
  byCall: the map of troubles out of a list.
-/
namespace Go.Proofs.YtcpncfngadablaaDoor
open Go.RowKit Go.Deep

/-- A map whose elements are troubles. -/
def AllT (T : DataW Unit) : Prop := ∃ l, T = .map l ∧ ∀ x ∈ l, ∃ a k b : Int, x.2 = .agg [.lit (.int .i64 a), .lit (.int .i64 k), .lit (.int .i64 b)]

theorem AllT.trouble {T : DataW Unit} (h : AllT T) (n : Int) : ∃ a k b, TroubleIs T n a k b := by
  obtain ⟨l, rfl, hl⟩ := h
  unfold TroubleIs DataW.atKey
  simp only
  split
  · next p hp => obtain ⟨a, k, b, e⟩ := hl p (List.mem_of_find?_eq_some hp); exact ⟨a, k, b, e⟩
  · exact ⟨0, 0, 0, rfl⟩
theorem AllT.nil : AllT (.map []) := ⟨[], rfl, by simp⟩
theorem AllT.del {T : DataW Unit} (h : AllT T) (k : Lit) : AllT (T.del k) := by
  obtain ⟨l, rfl, hl⟩ := h
  exact ⟨_, rfl, fun x hx => hl x (List.mem_filter.1 hx).1⟩
theorem insert_mem {x y : Lit × DataW Unit} : ∀ {l : List (Lit × DataW Unit)}, y ∈ DataW.insert x l → y = x ∨ y ∈ l
  | [], h => by simp [DataW.insert] at h; exact .inl h
  | z :: r, h => by
    unfold DataW.insert at h
    split at h
    · rcases List.mem_cons.1 h with h | h
      · exact .inl h
      · exact .inr h
    · rcases List.mem_cons.1 h with h | h
      · exact .inr (by simp [h])
      · rcases insert_mem h with h | h
        · exact .inl h
        · exact .inr (List.mem_cons_of_mem _ h)
theorem AllT.put {T : DataW Unit} (h : AllT T) (n : Lit) (a k b : Int) : AllT (T.put n (.agg [.lit (.int .i64 a), .lit (.int .i64 k), .lit (.int .i64 b)])) := by
  obtain ⟨l, rfl, hl⟩ := h
  refine ⟨_, rfl, fun x hx => ?_⟩
  rcases insert_mem hx with rfl | hx
  · exact ⟨a, k, b, rfl⟩
  · exact hl x (List.mem_filter.1 hx).1

structure TrA where
  at_ : Int
  kind : Int
  bytes : Int

/-- A list of troubles that came in. -/
structure TrsAt (w : World) (sa : Option Addr) (l : List TrA) : Prop where
  at_ : ∀ k (hk : k < l.length), ∃ a, sa = some a ∧ a.block < w.heap.size ∧ w.cell? (a.add (k * 3)) = some (.int .i64 l[k].at_) ∧ w.cell? ⟨(a.add (k * 3)).block, (a.add (k * 3)).off + 1, none⟩ = some (.int .i64 l[k].kind) ∧ w.cell? ⟨(a.add (k * 3)).block, (a.add (k * 3)).off + 2, none⟩ = some (.int .i64 l[k].bytes)
  wf : ∀ k (hk : k < l.length), (Lit.int .i64 l[k].at_).wf = true

theorem tr_add_block (a : Addr) (i : Nat) : (a.add i).block = a.block := by unfold Addr.add; split <;> rfl

theorem TrsAt.read {w w' : World} {sa : Option Addr} {l : List TrA} (h : TrsAt w sa l) {k : Nat} (hk : k < l.length) (hb : Below w.heap.size w w') :
    ∃ a, sa = some a ∧ a.block < w.heap.size ∧ w'.cell? (a.add (k * 3)) = some (.int .i64 l[k].at_) ∧ w'.cell? ⟨(a.add (k * 3)).block, (a.add (k * 3)).off + 1, none⟩ = some (.int .i64 l[k].kind) ∧ w'.cell? ⟨(a.add (k * 3)).block, (a.add (k * 3)).off + 2, none⟩ = some (.int .i64 l[k].bytes) := by
  obtain ⟨a, e, hl, c0, c1, c2⟩ := h.at_ k hk
  have hc : ∀ q : Addr, q.block = (a.add (k * 3)).block → w'.cell? q = w.cell? q := fun q hq => hb.cell (by rw [hq, tr_add_block]; exact hl)
  exact ⟨a, e, hl, (hc _ rfl).trans c0, (hc ⟨(a.add (k * 3)).block, (a.add (k * 3)).off + 1, none⟩ rfl).trans c1, (hc ⟨(a.add (k * 3)).block, (a.add (k * 3)).off + 2, none⟩ rfl).trans c2⟩

theorem wrap_step {j m : Nat} (h : j < m) (h2 : m ≤ 1099511627776) : wrap64 ((j : Int) + 1) = (j : Int) + 1 := IntWalk.wrap64_in _ ⟨by omega, by omega⟩
theorem next_num (j : Nat) : Value.int .i64 ((j : Int) + 1) = Value.int .i64 ((j + 1 : Nat) : Int) := by simp
theorem less_step {j m : Nat} (h : j < m) : m - (intOf (.int .i64 ((j : Int) + 1))).toNat < m - (intOf (.int .i64 (j : Int))).toNat := by
  simp [intOf]
  omega

theorem tr_look {W : World} {mt n : Nat} {T : DataW Unit} {at_ a k b : Int} (hT : W.ownsMap Tryd.prog 3 trElem mt n T) (h : TroubleIs T at_ a k b) (hw : (Lit.int .i64 at_).wf = true) :
    (Instr.lookup 70 (.map (some mt)) (.int .i64 at_) true).run Tryd.prog W = .ok (.tuple #[.agg #[.int .i64 a, .int .i64 k, .int .i64 b], .bool (Maps.has T (.int .i64 at_))]) W := by
  obtain ⟨v, ps, hrun, hv⟩ := hT.look_ok (t := 70) (e := 110) (Maps.int_keyed Tryd.underlying3) Tryd.underlying70 (Tryd.zero110 W) (zd := .agg [.lit (.int .i64 0), .lit (.int .i64 0), .lit (.int .i64 0)]) (zp := []) rfl (Maps.keyOf_int_mk Tryd.underlying3 hw)
  unfold TroubleIs at h
  rw [h] at hv
  rw [hrun, trElem_inv hv]

theorem tr_store {W : World} {mt n : Nat} {T : DataW Unit} (hT : W.ownsMap Tryd.prog 3 trElem mt n T) (hn : n < 1099511627776) {at_ : Int} (hw : (Lit.int .i64 at_).wf = true) (k b : Int) :
    ∃ w2, (Instr.mapUpdate 70 (.map (some mt)) (.int .i64 at_) (.agg #[.int .i64 at_, .int .i64 k, .int .i64 b])).run Tryd.prog W = .ok () w2 ∧ w2.ownsMap Tryd.prog 3 trElem mt (n + 1) (T.put (.int .i64 at_) (.agg [.lit (.int .i64 at_), .lit (.int .i64 k), .lit (.int .i64 b)])) ∧ W.grownBy w2 (some mt) := by
  obtain ⟨w2, h1, h2, h3⟩ := hT.store (t := 70) (e := 110) (Maps.int_keyed Tryd.underlying3) Tryd.underlying70 (by unfold maxLen; omega) (Maps.keyOf_int_mk Tryd.underlying3 hw) (val := .agg #[.int .i64 at_, .int .i64 k, .int .i64 b]) (d := .agg [.lit (.int .i64 at_), .lit (.int .i64 k), .lit (.int .i64 b)]) (ps := []) rfl
  exact ⟨w2, h1, h2, h3.grown⟩

section
variable {w w' : World}

set_option maxRecDepth 100000 in
set_option maxHeartbeats 1000000 in
theorem byCall_any {sa : Option Addr} {ca : Nat} {l : List TrA} (hl : TrsAt w sa l) (hlen : l.length ≤ 1099511627776) :
    Calls Tryd.prog 40 #[.slice sa l.length ca] w fun e w' => e = .returned (.map (some w.heap.size)) ∧ (∃ n T, w'.ownsMap Tryd.prog 3 trElem w.heap.size n T ∧ AllT T) ∧ Below w.heap.size w w' := by
  have hmm := @run_makeMap Tryd.prog
  have HL := hid hl
  have HLN := hid hlen
  clear hl hlen
  go_enter Tryd.func40, Tryd.ntmps40
  go_wp2
  clear hmm
  go_loopw [11] (fun i wr => ∃ (k n : Nat) (T : DataW Unit), k ≤ l.length ∧ i = .int .i64 k ∧ n ≤ k ∧ wr.ownsMap Tryd.prog 3 trElem w.heap.size n T ∧ AllT T ∧ Below w.heap.size w wr) (fun i _ => l.length - (intOf i).toNat)
  case atStart =>
    exact ⟨0, 0, .map [], Nat.zero_le _, rfl, Nat.le_refl _, empty_map _ _ _ _ (heap_alloc_new w _), AllT.nil, (Below.refl _ w).alloc (Nat.le_refl _) _⟩
  case round =>
    obtain ⟨k, n, T, hk, rfl, hnk, hm, hT, hb⟩ := hrel
    by_cases hlt : k < l.length
    · obtain ⟨a, rfl, hblk, c0, c1, c2⟩ := HL.out.read hlt hb
      have hwf := HL.out.wf k hlt
      obtain ⟨at_, e0⟩ : ∃ x, x = l[k].at_ := ⟨_, rfl⟩
      obtain ⟨kd, e1⟩ : ∃ x, x = l[k].kind := ⟨_, rfl⟩
      obtain ⟨by_, e2⟩ : ∃ x, x = l[k].bytes := ⟨_, rfl⟩
      rw [← e0] at c0 hwf
      rw [← e1] at c1
      rw [← e2] at c2
      clear e0 e1 e2
      have hkI : (k : Int) < (l.length : Int) := by omega
      have hk0 : (0 : Int) ≤ (k : Int) := by omega
      have hwk := wrap_step hlt HLN.out
      obtain ⟨a1, k1, b1, ht⟩ := hT.trouble at_
      have hlw : w.heap.size < wr.heap.size := hm.lt
      have HM := hid hm
      have HB := hid hb
      have HT := hid hT
      have HLT := hid hlt
      have HNK := hid hnk
      have HBX : Hid (∀ o : Obj, Below w.heap.size w (wr.alloc o)) := hid fun o => hb.alloc hb.size o
      clear hk hlt hnk
      by_cases h1 : kd = 1
      · subst h1
        have hmx := hm.alloc (.cells #[.int .i64 at_, .int .i64 1, .int .i64 by_] 110)
        have hlook := tr_look hmx ht hwf
        by_cases hh : Maps.has T (.int .i64 at_) = true
        · rw [hh] at hlook
          clear hm hb hT ht hmx hwf hh
          go_wp2
          try rw [hwk]
          exact ⟨⟨k + 1, n, T, HLT.out, next_num k, Nat.le_succ_of_le HNK.out, (HM.out.alloc _).alloc _, HT.out, ((HB.out.alloc HB.out.size _).alloc (Nat.le_trans HB.out.size (by simp)) _)⟩, less_step HLT.out⟩
        · have hh' : Maps.has T (.int .i64 at_) = false := by simpa using hh
          rw [hh'] at hlook
          obtain ⟨w3, hst, hm3, hg3⟩ := tr_store (hmx.alloc (.cells #[.int .i64 a1, .int .i64 k1, .int .i64 b1] 110)) (Nat.lt_of_le_of_lt HNK.out (Nat.lt_of_lt_of_le HLT.out HLN.out)) hwf 1 by_
          have hb3 : Below w.heap.size w w3 := Below.grown ((HB.out.alloc HB.out.size _).alloc (Nat.le_trans HB.out.size (by simp)) _) hg3 (Nat.le_trans HB.out.size (by simp; omega)) (fun k h => by simp at h; omega)
          have HM3 := hid hm3
          have HB3 := hid hb3
          clear hm hb hT ht hmx hwf hh hh' hm3 hb3 hg3
          go_wp2
          try rw [hwk]
          exact ⟨⟨k + 1, n + 1, _, HLT.out, next_num k, Nat.succ_le_succ HNK.out, HM3.out, HT.out.put _ _ _ _, HB3.out⟩, less_step HLT.out⟩
      · by_cases h2 : kd = 2
        · subst h2
          clear h1
          have hmx := hm.alloc (.cells #[.int .i64 at_, .int .i64 2, .int .i64 by_] 110)
          have hlook := tr_look hmx ht hwf
          by_cases hh : Maps.has T (.int .i64 at_) = true
          · rw [hh] at hlook
            clear hm hb hT ht hmx hwf hh
            go_wp2
            try rw [hwk]
            exact ⟨⟨k + 1, n, T, HLT.out, next_num k, Nat.le_succ_of_le HNK.out, (HM.out.alloc _).alloc _, HT.out, ((HB.out.alloc HB.out.size _).alloc (Nat.le_trans HB.out.size (by simp)) _)⟩, less_step HLT.out⟩
          · have hh' : Maps.has T (.int .i64 at_) = false := by simpa using hh
            rw [hh'] at hlook
            obtain ⟨w3, hst, hm3, hg3⟩ := tr_store (hmx.alloc (.cells #[.int .i64 a1, .int .i64 k1, .int .i64 b1] 110)) (Nat.lt_of_le_of_lt HNK.out (Nat.lt_of_lt_of_le HLT.out HLN.out)) hwf 2 by_
            have hb3 : Below w.heap.size w w3 := Below.grown ((HB.out.alloc HB.out.size _).alloc (Nat.le_trans HB.out.size (by simp)) _) hg3 (Nat.le_trans HB.out.size (by simp; omega)) (fun k h => by simp at h; omega)
            have HM3 := hid hm3
            have HB3 := hid hb3
            clear hm hb hT ht hmx hwf hh hh' hm3 hb3 hg3
            go_wp2
            try rw [hwk]
            exact ⟨⟨k + 1, n + 1, _, HLT.out, next_num k, Nat.succ_le_succ HNK.out, HM3.out, HT.out.put _ _ _ _, HB3.out⟩, less_step HLT.out⟩
        · have n1 : (kd != 1) = true := by simp [h1]
          have n2 : (kd != 2) = true := by simp [h2]
          clear hm hb hT ht h1 h2 hwf
          go_wp2
          try rw [hwk]
          exact ⟨⟨k + 1, n, T, HLT.out, next_num k, Nat.le_succ_of_le HNK.out, HM.out.alloc _, HT.out, HBX.out _⟩, less_step HLT.out⟩
    · have hend : ¬ (k : Int) < (l.length : Int) := by omega
      have HM := hid (⟨n, T, hm, hT⟩ : ∃ n T, wr.ownsMap Tryd.prog 3 trElem w.heap.size n T ∧ AllT T)
      have HB := hid hb
      clear hm hT hb hnk hk hlt
      go_wp2
      go_ret
      exact ⟨rfl, HM.out, HB.out⟩
end

end Go.Proofs.YtcpncfngadablaaDoor
/-
  A new disk with troubles.
-/
namespace Go.Proofs.YtcpncfngadablaaDoor
open Go.RowKit Go.Deep

def DiskC.newT (B : Nat) (Bs : Int) (T : DataW Unit) : DiskC := ⟨B, Bs, true, [], T, ⟨0, 0, 0, 0, 0, 0, 0⟩⟩

theorem TrsAt.below {w w' : World} {sa : Option Addr} {l : List TrA} (h : TrsAt w sa l) (hb : Below w.heap.size w w') : TrsAt w' sa l :=
  ⟨fun k hk => by
    obtain ⟨a, e, h1, c0, c1, c2⟩ := h.read hk hb
    exact ⟨a, e, Nat.lt_of_lt_of_le h1 hb.size, c0, c1, c2⟩, h.wf⟩

section
variable {w : World}

theorem new_repT {w3 : World} {lo p mf mt : Nat} {B : Nat} {Bs : Int} {T : DataW Unit} (hrow : w3.heap[p]? = some (.cells (dRow (.newT B Bs T) mf mt) 72 (0, 0))) (hf : w3.ownsMap Tryd.prog 9 ptrElem mf 0 (.map [])) (ht : ∃ n, w3.ownsMap Tryd.prog 3 trElem mt n T) (h1 : p ≠ mf) (h2 : p ≠ mt) (h3 : mf ≠ mt) (hb : lo ≤ p ∧ lo ≤ mf ∧ lo ≤ mt) : Rep w3 lo p mf mt (.newT B Bs T) :=
  ⟨hrow, hf, ht, by simp [DiskC.newT], by simp [DiskC.foot, DiskC.newT, h1, h2, h3], by simp [DiskC.foot, DiskC.newT]; exact hb, by simp [DiskC.newT]⟩

set_option maxRecDepth 100000 in
set_option maxHeartbeats 600000 in
theorem empty_t {B : Nat} {Bs : Int} {sa : Option Addr} {ca : Nat} {l : List TrA} (hl : TrsAt w sa l) (hlen : l.length ≤ 1099511627776) :
    Calls Tryd.prog 18 #[.agg #[.int .i64 B, .int .i64 Bs, .slice sa l.length ca]] w fun e w' => ∃ p mf mt T, e = .returned (ptr p) ∧ Rep w' w.heap.size p mf mt (.newT B Bs T) ∧ AllT T ∧ Below w.heap.size w w' := by
  have hmm := @run_makeMap Tryd.prog
  have HL := hid (fun (W : World) (hb : Below w.heap.size w W) => byCall_any (ca := ca) (hl.below hb) hlen)
  have HX : Hid (Below w.heap.size w (w.alloc (.cells #[.int .i64 B, .int .i64 Bs, .slice sa l.length ca] 29))) := hid ((Below.refl _ w).alloc (Nat.le_refl _) _)
  have HY : Hid (∀ o, Below w.heap.size w (((w.alloc (.cells #[.int .i64 B, .int .i64 Bs, .slice sa l.length ca] 29)).alloc o).drew)) := hid fun o => (((Below.refl _ w).alloc (Nat.le_refl _) _).alloc (by simp) _).drew
  have HB3 : Hid (∀ W w2 : World, Below W.heap.size W w2 → W.cell? ⟨w.heap.size, 0, none⟩ = some (.int .i64 B) → W.cell? ⟨w.heap.size, 1, none⟩ = some (.int .i64 Bs) → W.cell? ⟨w.heap.size, 2, none⟩ = some (.slice sa l.length ca) →
      w2.cell? ⟨w.heap.size, 0, none⟩ = some (.int .i64 B) ∧ w2.cell? ⟨w.heap.size, 1, none⟩ = some (.int .i64 Bs) ∧ w2.cell? ⟨w.heap.size, 2, none⟩ = some (.slice sa l.length ca)) := hid fun W w2 hb h0 h1 h2 =>
    ⟨(hb.cell (World.block_lt_of_cell? W _ h0)).trans h0, (hb.cell (World.block_lt_of_cell? W _ h1)).trans h1, (hb.cell (World.block_lt_of_cell? W _ h2)).trans h2⟩
  clear hl hlen
  go_enter Tryd.func18, Tryd.ntmps18
  go_wp2
  go_region_held3 (fun V => V.cell? ⟨w.heap.size, 0, none⟩ = some (.int .i64 B) ∧ V.cell? ⟨w.heap.size, 1, none⟩ = some (.int .i64 Bs) ∧ V.cell? ⟨w.heap.size, 2, none⟩ = some (.slice sa l.length ca)) (go_keep)
    (first
      | (go_at_call 40; refine (HL.out _ HX.out.drew).mono ?_; rintro e w2 ⟨rfl, hT2, hb2⟩; have z2 := HB3.out _ w2 hb2 (by simp) (by simp) (by simp); have HT2 := hid hT2; have HBB := hid (HX.out.drew.trans (hb2.mono (by first | (simp; done) | (simp; omega)))); clear hT2 hb2)
      | (go_at_call 40; refine (HL.out _ (HY.out _)).mono ?_; rintro e w2 ⟨rfl, hT2, hb2⟩; have z2 := HB3.out _ w2 hb2 (by simp) (by simp) (by simp); have HT2 := hid hT2; have HBB := hid ((HY.out _).trans (hb2.mono (by first | (simp; done) | (simp; omega)))); have HOB := hid hb2; clear hT2 hb2))
  · go_wp2
    go_ret
    obtain ⟨n, T, hT, hA⟩ := HT2.out
    have hT' : w2.ownsMap Tryd.prog 3 trElem (w.heap.size + 1 + 1) n T := by simpa using hT
    have hz := hT'.lt
    have hm : w2.heap[w.heap.size + 1]? = some (.map #[] 0) := (HOB.out.block _ (by simp)).trans (heap_two w (.cells #[.int .i64 B, .int .i64 Bs, .slice sa l.length ca] 29) (.map #[] 0)).2
    refine ⟨w2.heap.size, w.heap.size + 1, w.heap.size + 1 + 1, T, rfl, new_repT (heap_alloc_new w2 _) (empty_map _ _ _ _ ((Below.heap_alloc w2 _ _ (by omega)).trans hm)) ⟨n, hT'.alloc _⟩ (by omega) (by omega) (by omega) ⟨by omega, by omega, by omega⟩, hA, HBB.out.alloc HBB.out.size _⟩
  · go_wp2
    go_ret
    obtain ⟨n, T, hT, hA⟩ := HT2.out
    have hT' : w2.ownsMap Tryd.prog 3 trElem (w.heap.size + 1) n T := by simpa using hT
    have hz := hT'.lt
    have h2 := heap_two w2 (.map #[] 0) (.cells #[.int .i64 B, .int .i64 Bs, .bool true, .map (some w2.heap.size), .map (some (w.heap.size + 1)), .int .i64 0, .int .i64 0, .int .i64 0, .int .i64 0, .int .i64 0, .int .i64 0, .int .i64 0] 72)
    refine ⟨w2.heap.size + 1, w2.heap.size, w.heap.size + 1, T, rfl, new_repT h2.2 (empty_map _ _ _ _ h2.1) ⟨n, (hT'.alloc _).alloc _⟩ (by omega) (by omega) (by omega) ⟨by omega, by omega, by omega⟩, hA, (HBB.out.alloc HBB.out.size _).alloc (Nat.le_trans HBB.out.size (by simp)) _⟩

set_option maxRecDepth 100000 in
set_option maxHeartbeats 400000 in
theorem New_t {B : Nat} {Bs : Int} (h1 : 64 ≤ B) (h2 : B ≤ 65536) (h3 : (B : Int) % 32 = 0) (h4 : 0 ≤ Bs) (h5 : Bs ≤ 1099511627776) {sa : Option Addr} {ca : Nat} {l : List TrA} (hl : TrsAt w sa l) (hlen : l.length ≤ 1099511627776) :
    Calls Tryd.prog 5 #[.agg #[.int .i64 B, .int .i64 Bs, .slice sa l.length ca]] w fun e w' => ∃ p mf mt T, e = .returned (.tuple #[ptr p, .int .i64 0]) ∧ Rep w' w.heap.size p mf mt (.newT B Bs T) ∧ AllT T ∧ Below w.heap.size w w' := by
  have HC := hid (fun W => checkSetup_ok (B := (B : Int)) (Bs := Bs) (v := .slice sa l.length ca) rfl (by omega) (by omega) h3 h4 h5 W)
  have HE := hid (fun (W : World) (hb : Below w.heap.size w W) => empty_t (B := B) (Bs := Bs) (ca := ca) (hl.below hb) hlen)
  clear h3 hl hlen
  go_enter Tryd.func5, Tryd.ntmps5
  go_wp2_with (first
    | (go_at_call 18; refine (HE.out _ HB0.out).mono ?_; rintro e w2 ⟨p, mf, mt, T, rfl, hR, hA, hb2⟩; have HR := hid hR; have HAT := hid hA; have HB2 := hid hb2; clear hR hA hb2)
    | (go_at_call 16; refine (HC.out _).mono ?_; rintro e w1 ⟨rfl, hb1⟩; obtain ⟨q0, q1, q2, lz⟩ := box_up3 hb1; have HB0 : Hid (Below w.heap.size w w1) := hid (((Below.refl _ w).alloc (Nat.le_refl _) _).trans (hb1.mono (by simp))); clear hb1))
  go_ret2
  exact ⟨p, mf, mt, T, rfl, HR.out.lower (by omega), HAT.out, HB0.out.trans (HB2.out.mono (by omega))⟩
end

end Go.Proofs.YtcpncfngadablaaDoor
namespace Go.Proofs.YtcpncfngadablaaDoor
open Go.RowKit Go.Deep

section
variable {w w' : World} {E : Nat → Addr} {lo p mf mt : Nat} {D : DiskC}

theorem BlocksAt.sliceL {B : Nat} {sv : Value} {bs : List Nat} {blocks : List (List UInt8)} (h : BlocksAt w B sv bs blocks) : ∃ a c, sv = .slice a blocks.length c := by
  by_cases h0 : blocks.length = 0
  · rw [h0]; exact h.slice0 h0
  · obtain ⟨g, c, e⟩ := h.slice1 h0
    exact ⟨_, c, e⟩
theorem StateAt.sliceL {n B : Nat} {fv : Value} {l : List SFile} (h : StateAt w n B fv l) : ∃ a c, fv = .slice a l.length c := by
  by_cases h0 : l.length = 0
  · rw [h0]; exact h.slice0 h0
  · obtain ⟨g, c, e⟩ := h.slice1 h0
    exact ⟨_, c, e⟩

set_option maxRecDepth 100000 in
set_option maxHeartbeats 400000 in
theorem SameFile_some {B : Nat} {s1 s2 : ByteArray} {x1 x2 : Bool} {sv1 sv2 : Value} {bs1 bs2 : List Nat} {bl1 bl2 : List (List UInt8)} (h1 : BlocksAt w B sv1 bs1 bl1) (h2 : BlocksAt w B sv2 bs2 bl2) (hn : bl1.length ≤ 1099511627776) :
    Calls Tryd.prog 35 #[.agg #[.string s1, .bool x1, sv1], .agg #[.string s2, .bool x2, sv2]] w fun e w' => (∃ b, e = .returned (.bool b)) ∧ Below w.heap.size w w' := by
  obtain ⟨a1, c1, e1⟩ := h1.sliceL
  obtain ⟨a2, c2, e2⟩ := h2.sliceL
  by_cases hs : s1.toList = s2.toList
  · by_cases hx : x1 = x2
    · subst hx
      by_cases hl : bl1.length = bl2.length
      · by_cases h0 : bl1.length = 0
        · rw [e1, e2, ← hl, h0]
          clear h1 h2 e1 e2 h0 hl
          cases x1
          all_goals
            go_enter Tryd.func35, Tryd.ntmps35
            go_wp2
            refine wp_loop_rounds 1 ?_
            rw [rounds_succ]
            go_wp2
            go_ret
            exact ⟨⟨_, rfl⟩, ((Below.refl _ w).alloc (Nat.le_refl _) _).alloc (by simp) _⟩
        · clear e1 e2
          obtain ⟨G1, gc1, e1⟩ := h1.slice1 h0
          obtain ⟨G2, gc2, e2⟩ := h2.slice1 (by omega)
          rw [← hl] at e2
          have H1 := hid h1
          have H2 := hid h2
          have E1 := hid e1
          have E2 := hid e2
          have HL := hid hl
          rw [e1, e2]
          clear h1 h2 e1 e2 hl
          obtain ⟨W, hW⟩ : ∃ W, W = (w.alloc (.cells #[.string s1, .bool x1, .slice (some ⟨G1, 0, none⟩) bl1.length gc1] 75)).alloc (.cells #[.string s2, .bool x1, .slice (some ⟨G2, 0, none⟩) bl1.length gc2] 75) := ⟨_, rfl⟩
          have hW1 := heap_two w (.cells #[.string s1, .bool x1, .slice (some ⟨G1, 0, none⟩) bl1.length gc1] 75) (.cells #[.string s2, .bool x1, .slice (some ⟨G2, 0, none⟩) bl1.length gc2] 75)
          rw [← hW] at hW1
          have hTW : Below w.heap.size w W := by rw [hW]; exact ((Below.refl _ w).alloc (Nat.le_refl _) _).alloc (by simp) _
          have b1 := cell_row hW1.1 2
          have b2 := cell_row hW1.2 2
          simp at b1 b2
          have HE := hid hW
          have HTW := hid hTW
          clear hW hW1 hTW
          cases x1
          all_goals
            go_enter Tryd.func35, Tryd.ntmps35
            go_wp2
            rw [← HE.out]
            go_loopw [5] (fun i wr => ∃ k : Nat, k ≤ bl1.length ∧ i = .int .i64 k ∧ Quiet W wr) (fun i _ => bl1.length - (intOf i).toNat)
            case atStart => exact ⟨0, Nat.zero_le _, rfl, 0, rfl⟩
            case round =>
              obtain ⟨k, hk, rfl, hq⟩ := hrel
              have d1 := (Quiet.cell hq _).trans b1
              have d2 := (Quiet.cell hq _).trans b2
              by_cases hlt : k < bl1.length
              · have f1 := hid (H1.out.round hlt HTW.out hq E1.out)
                have f2 := hid (H2.out.round (k := k) (by have := HL.out; omega) HTW.out hq (by rw [E2.out, HL.out]))
                obtain ⟨y1, g1, cv1⟩ := f1.out
                obtain ⟨y2, g2, cv2⟩ := f2.out
                obtain ⟨t1, ht1⟩ : ∃ t, t = encStr bl1[k] := ⟨_, rfl⟩
                obtain ⟨t2, ht2⟩ : ∃ t, t = encStr (bl2[k]'(by have := HL.out; omega)) := ⟨_, rfl⟩
                rw [← ht1] at cv1
                rw [← ht2] at cv2
                have HQ := hid hq
                obtain ⟨z1, hz1⟩ : ∃ z, t1 = .string z := ⟨_, ht1⟩
                obtain ⟨z2, hz2⟩ : ∃ z, t2 = .string z := ⟨_, ht2⟩
                subst hz1 hz2
                clear hq b1 b2 f1 f2 ht1 ht2
                by_cases hz : z1.toList = z2.toList
                · go_wp2
                  go_quiet (fail)
                  go_wp2
                  go_roundw
                  case rel => exact ⟨k + 1, by omega, by go_num, quiet_more HQ.out _⟩
                  case measure => simp [intOf]; omega
                · have hz2 : (!z1.toList == z2.toList) = true := by simp [hz]
                  go_wp2
                  go_quiet (fail)
                  go_wp2
                  go_ret
                  exact ⟨⟨_, rfl⟩, HTW.out.trans ((Quiet.touch (quiet_more HQ.out _) []).below HTW.out.size (by simp))⟩
              · have HQ := hid hq
                clear hq b1 b2
                go_wp2
                go_ret
                exact ⟨⟨_, rfl⟩, HTW.out.trans ((Quiet.touch HQ.out []).below HTW.out.size (by simp))⟩
      · rw [e1, e2]
        have hl2 : ¬ (bl1.length : Int) = bl2.length := by omega
        clear h1 h2 e1 e2
        cases x1
        all_goals
          go_enter Tryd.func35, Tryd.ntmps35
          go_wp2
          go_ret
          exact ⟨⟨_, rfl⟩, ((Below.refl _ w).alloc (Nat.le_refl _) _).alloc (by simp) _⟩
    · rw [e1, e2]
      clear h1 h2 e1 e2
      go_enter Tryd.func35, Tryd.ntmps35
      go_wp2
      go_ret
      exact ⟨⟨_, rfl⟩, ((Below.refl _ w).alloc (Nat.le_refl _) _).alloc (by simp) _⟩
  · rw [e1, e2]
    clear h1 h2 e1 e2
    go_enter Tryd.func35, Tryd.ntmps35
    go_wp2
    go_ret
    exact ⟨⟨_, rfl⟩, ((Below.refl _ w).alloc (Nat.le_refl _) _).alloc (by simp) _⟩
end
end Go.Proofs.YtcpncfngadablaaDoor
