import Derived.Deep.DeepCutAuto
import Derived.Deep.CutBlock
import Derived.Test.YtcpncfngadablaaGreatDoorZ21
/-
  Memory that is written over, each cell by one of its kind.
-/
namespace Go.Proofs.YtcpncfngadablaaGreatDoor
open Go.RowKit Go.Deep ShfKit
set_option maxRecDepth 100000
/-- a value of the same kind: a slice stays as it is. -/
def Kin (u v : Value) : Prop := v = u ∨ (∃ k x y, u = .int k x ∧ v = .int k y) ∨ (∃ x y, u = .bool x ∧ v = .bool y) ∨ (∃ x y, u = .string x ∧ v = .string y)
theorem Kin.refl (u : Value) : Kin u u := .inl rfl
theorem Kin.int {k : IntKind} {x : Int} {v : Value} (h : Kin (.int k x) v) : ∃ y, v = .int k y := by
  rcases h with h | ⟨k', x', y, h, e⟩ | ⟨x', y, h, _⟩ | ⟨x', y, h, _⟩
  · exact ⟨x, h⟩
  · cases h
    exact ⟨y, e⟩
  · cases h
  · cases h
theorem Kin.bool {x : Bool} {v : Value} (h : Kin (.bool x) v) : ∃ y, v = .bool y := by
  rcases h with h | ⟨k', x', y, h, e⟩ | ⟨x', y, h, e⟩ | ⟨x', y, h, _⟩
  · exact ⟨x, h⟩
  · cases h
  · exact ⟨y, e⟩
  · cases h
theorem Kin.str {x : ByteArray} {v : Value} (h : Kin (.string x) v) : ∃ y, v = .string y := by
  rcases h with h | ⟨k', x', y, h, e⟩ | ⟨x', y, h, e⟩ | ⟨x', y, h, e⟩
  · exact ⟨x, h⟩
  · cases h
  · cases h
  · exact ⟨y, e⟩
theorem Kin.slice {a : Option Addr} {n c : Nat} {v : Value} (h : Kin (.slice a n c) v) : v = .slice a n c := by
  rcases h with h | ⟨k', x', y, h, e⟩ | ⟨x', y, h, e⟩ | ⟨x', y, h, _⟩
  · exact h
  · cases h
  · cases h
  · cases h
theorem Kin.trans {u v x : Value} (h : Kin u v) (k : Kin v x) : Kin u x := by
  rcases h with rfl | ⟨k', x', y, rfl, rfl⟩ | ⟨x', y, rfl, rfl⟩ | ⟨x', y, rfl, rfl⟩
  · exact k
  · obtain ⟨z, rfl⟩ := k.int
    exact .inr (.inl ⟨_, _, _, rfl, rfl⟩)
  · obtain ⟨z, rfl⟩ := k.bool
    exact .inr (.inr (.inl ⟨_, _, rfl, rfl⟩))
  · obtain ⟨z, rfl⟩ := k.str
    exact .inr (.inr (.inr ⟨_, _, rfl, rfl⟩))
/-- the rows F are written over, each cell by one of its kind. -/
structure Likw (F : List Nat) (W W' : World) : Prop where
  touch : Touch F W W'
  kin : ∀ (b : Nat) (c : Array Value) (t : Nat) (fz : Nat × Nat), W.heap[b]? = some (Obj.cells c t fz) → ∃ c', W'.heap[b]? = some (Obj.cells c' t fz) ∧ c'.size = c.size ∧ ∀ (j : Nat) u, c[j]? = some u → ∃ u', c'[j]? = some u' ∧ Kin u u'
section
variable {F : List Nat} {W W' : World}
theorem Likw.refl (F : List Nat) (W : World) : Likw F W W := ⟨Touch.refl _ _, fun _ c _ _ h => ⟨c, h, rfl, fun _ u hu => ⟨u, hu, Kin.refl _⟩⟩⟩
theorem Likw.cell (h : Likw F W W') {b j : Nat} {u : Value} (hc : W.cell? ⟨b, j, none⟩ = some u) : ∃ u', W'.cell? ⟨b, j, none⟩ = some u' ∧ Kin u u' := by
  unfold World.cell? at hc
  split at hc
  · rename_i c t fz hr
    simp at hc
    obtain ⟨c', h1, _, h3⟩ := h.kin b c t fz hr
    obtain ⟨u', h4, h5⟩ := h3 j u hc
    exact ⟨u', by simp [World.cell?, h1, h4], h5⟩
  · cases hc
theorem Likw.frozen (h : Likw F W W') {b j : Nat} {u : Value} (hc : W.cell? ⟨b, j, none⟩ = some u) (hf : W.frozen? ⟨b, j, none⟩ = false) : W'.frozen? ⟨b, j, none⟩ = false := by
  unfold World.cell? at hc
  split at hc
  · rename_i c t fz hr
    obtain ⟨c', h1, _, _⟩ := h.kin b c t fz hr
    have hr' : W.heap[b]? = some (Obj.cells c t fz) := hr
    simp [World.frozen?, hr'] at hf
    simp [World.frozen?, h1]
    exact hf
  · cases hc
theorem Likw.setCell (h : Likw F W W') {b j : Nat} {u v : Value} (hb : b ∈ F) (hc : W'.cell? ⟨b, j, none⟩ = some u) (hk : Kin u v) : Likw F W (W'.setCell ⟨b, j, none⟩ v) :=
  ⟨h.touch.setCell (.inl hb) _, fun b2 c t fz hr => by
    obtain ⟨c', h1, h2, h3⟩ := h.kin b2 c t fz hr
    by_cases e : b2 = b
    · subst e
      refine ⟨_, heap_setCell_row h1 j v, by simpa using h2, fun i x hx => ?_⟩
      obtain ⟨x', hx', hkx⟩ := h3 i x hx
      by_cases e2 : i = j
      · subst e2
        have : x' = u := by
          have h4 : W'.cell? ⟨b2, i, none⟩ = c'[i]? := by simp [World.cell?, h1]
          rw [h4, hx'] at hc
          exact Option.some.inj hc
        subst this
        exact ⟨v, by rw [Array.getElem?_setIfInBounds_self_of_lt (Array.getElem?_eq_some_iff.1 hx').1], hkx.trans hk⟩
      · exact ⟨x', by rw [Array.getElem?_setIfInBounds_ne (fun e3 => e2 e3.symm)]; exact hx', hkx⟩
    · exact ⟨c', (Below.heap_setCell _ _ _ _ e).trans h1, h2, h3⟩⟩
end
section
variable {w : World}
set_option maxHeartbeats 400000 in
theorem blot_fz {g m c : Nat} {cs : Array Value} {fz : Nat × Nat} (h : w.heap[g]? = some (.cells cs 5 fz)) (hfz : ∀ j, j < cs.size → ¬ (fz.1 ≤ j ∧ j < fz.2)) (hm : m ≤ cs.size) (hb : ∀ j, j < m → ∃ x : Int, cs[j]? = some (.int .u8 x)) (hm2 : m ≤ 1099511627776) :
    Calls Tryz.prog 24 #[.slice (some ⟨g, 0, none⟩) m c] w fun e w' => e = .returned (.tuple #[]) ∧ Likw [g] w w' := by
  have H := hid h
  have HB := hid hb
  have HZ := hid hfz
  clear h hb hfz
  go_enter Tryz.func24, Tryz.ntmps24
  go_wp2
  go_loopw [2] (fun i wr => Hid (∃ k : Nat, k ≤ m ∧ i = .int .i64 k ∧ Likw [g] w wr)) (fun i _ => m - (intOf i).toNat)
  case atStart => exact ⟨0, Nat.zero_le _, rfl, Likw.refl _ _⟩
  case round =>
    obtain ⟨k, hk, rfl, hlk⟩ := hrel.out
    clear hrel
    by_cases hlt : k < m
    · obtain ⟨x, hx⟩ := HB.out k hlt
      have hc : w.cell? ⟨g, k, none⟩ = some (.int .u8 x) := by rw [cell_row H.out]; exact hx
      have hf : w.frozen? ⟨g, k, none⟩ = false := by
        have h1 := HZ.out k (by omega)
        have h2 := H.out
        simp [World.frozen?, h2]
        omega
      have f0 := hlk.frozen hc hf
      obtain ⟨u, c0, hku⟩ := hlk.cell hc
      obtain ⟨y, rfl⟩ := hku.int
      have NX : Hid (∀ z : Int, Likw [g] w (wr.setCell ⟨g, k, none⟩ (.int .u8 z))) := fun z => hlk.setCell (by simp) c0 (.inr (.inl ⟨_, _, _, rfl, rfl⟩))
      clear hc hf hx hku hlk
      go_wp2
      exact ⟨⟨k + 1, by omega, by go_num, NX.out _⟩, by simp [intOf]; omega⟩
    · have HLK := hid hlk
      clear hlk
      go_wp2
      go_end0
      exact ⟨rfl, HLK.out⟩
theorem Likw.trans {F : List Nat} {W W' W'' : World} {g : Nat} (h : Likw F W W') (k : Likw [g] W' W'') (hg : g ∈ F) : Likw F W W'' :=
  ⟨h.touch.trans k.touch (fun b hb => by simp at hb; subst hb; exact .inl hg), fun b c t fz hc => by
    obtain ⟨c1, h1, h2, h3⟩ := h.kin b c t fz hc
    obtain ⟨c2, k1, k2, k3⟩ := k.kin b c1 t fz h1
    exact ⟨c2, k1, k2.trans h2, fun j u hu => by
      obtain ⟨u1, a1, a2⟩ := h3 j u hu
      obtain ⟨u2, b1, b2⟩ := k3 j u1 a1
      exact ⟨u2, b1, a2.trans b2⟩⟩⟩
/-- a block that was handed out and written over since, is blotted. -/
theorem Likw.blot {F : List Nat} {W : World} {g m c : Nat} {cs : Array Value} {fz : Nat × Nat} {d : List UInt8} (h : Likw F W w) (hr : W.heap[g]? = some (.cells cs 5 fz)) (hfz : ∀ j, j < cs.size → ¬ (fz.1 ≤ j ∧ j < fz.2)) (hs : Shows W (some ⟨g, 0, none⟩) m c d) (hg : g ∈ F) (hm2 : m ≤ 1099511627776) :
    Calls Tryz.prog 24 #[.slice (some ⟨g, 0, none⟩) m c] w fun e w' => e = .returned (.tuple #[]) ∧ Likw F W w' := by
  obtain ⟨c', h1, h2, h3⟩ := h.kin g cs 5 fz hr
  have hcs : ∀ j, j < m → ∃ x : Int, cs[j]? = some (.int .u8 x) := fun j hj => by
    obtain ⟨a, e, _, hc⟩ := hs.at_ (by omega)
    cases e
    have hl := hs.len
    have hj2 : (Lib.byteCells d)[j]? = some ((Lib.byteCells d)[j]'(by rw [Lib.byteCells_length]; omega)) := List.getElem?_eq_getElem _
    have h4 := hc j _ hj2
    rw [add_zero_addr, cell_row hr] at h4
    simp only [Lib.byteCells, List.getElem_map] at h4
    exact ⟨_, h4⟩
  have hms : m ≤ cs.size := by
    rcases Nat.eq_zero_or_pos m with h0 | h0
    · omega
    · obtain ⟨x, hx⟩ := hcs (m - 1) (by omega)
      have := (Array.getElem?_eq_some_iff.1 hx).1
      omega
  refine (blot_fz h1 (by rw [h2]; exact hfz) (by omega) (fun j hj => ?_) hm2).mono fun e w' ⟨e1, k⟩ => ⟨e1, h.trans k hg⟩
  obtain ⟨x, hx⟩ := hcs j hj
  obtain ⟨u, a1, a2⟩ := h3 j _ hx
  obtain ⟨y, rfl⟩ := a2.int
  exact ⟨y, a1⟩
end
end Go.Proofs.YtcpncfngadablaaGreatDoor
/-
  DiskMounts: the law behind the two mounts.
-/
namespace Go.Proofs.YtcpncfngadablaaGreatDoor
open Go.RowKit Go.Deep ShfKit
set_option maxRecDepth 100000
def headM : Code → Option Nat
  | .region n _ _ => some n
  | .seq a _ => headM a
  | _ => none
/-- the code from a region on. -/
def tailM (n : Nat) : Code → Option Code
  | .seq a b => match tailM n b with
    | some c => some c
    | none => if headM a = some n then some (.seq a b) else none
  | _ => none
theorem Kin.symm {u v : Value} (h : Kin u v) : Kin v u := by
  rcases h with rfl | ⟨k', x', y, rfl, rfl⟩ | ⟨x', y, rfl, rfl⟩ | ⟨x', y, rfl, rfl⟩
  · exact Kin.refl _
  · exact .inr (.inl ⟨_, _, _, rfl, rfl⟩)
  · exact .inr (.inr (.inl ⟨_, _, rfl, rfl⟩))
  · exact .inr (.inr (.inr ⟨_, _, rfl, rfl⟩))
theorem Likw.put {F : List Nat} {W W' : World} (h : Likw F W W') {b j : Nat} {u v : Value} (hb : b ∈ F) (hc : W.cell? ⟨b, j, none⟩ = some u) (hk : Kin u v) : Likw F W (W'.setCell ⟨b, j, none⟩ v) := by
  obtain ⟨u', c', k'⟩ := h.cell hc
  exact h.setCell hb c' (k'.symm.trans hk)
/-- what the law has in hand behind the two mounts: the copy `in`, its own list of troubles; all that it writes over lies in F. -/
structure Mo (W : World) (F : List Nat) (p7 p8 : Nat) (fo : Value) (L : Nat) (va : Option Addr) (n vc : Nat) : Prop where
  i7 : W.cell? ⟨p7, 1, none⟩ = some fo
  i8 : W.cell? ⟨p8, 2, none⟩ = some (.slice va n vc)
  sl : ∃ a c, fo = .slice a L c
  tr : ∀ i, i < n → ∃ G, va = some ⟨G, 0, none⟩ ∧ G ∈ F ∧ (∀ j, j < 3 → (∃ y, W.cell? ⟨G, i * 3 + j, none⟩ = some (.int .i64 y)) ∧ W.frozen? ⟨G, i * 3 + j, none⟩ = false)
  fi : ∀ i, i < L → ∃ (G gc : Nat) (s : ByteArray) (x : Bool) (sv : Value) (nb : Nat), fo = .slice (some ⟨G, 0, none⟩) L gc ∧ G ∈ F ∧ G ≠ p7 ∧ W.cell? ⟨G, i * 3, none⟩ = some (.string s) ∧ W.cell? ⟨G, i * 3 + 1, none⟩ = some (.bool x) ∧ W.cell? ⟨G, i * 3 + 2, none⟩ = some sv ∧ W.frozen? ⟨G, i * 3, none⟩ = false ∧ W.frozen? ⟨G, i * 3 + 1, none⟩ = false ∧ nb ≤ 1099511627776 ∧ (∃ a c, sv = .slice a nb c) ∧
    ∀ k, k < nb → ∃ (H hc g m c : Nat) (cs : Array Value) (fz : Nat × Nat) (d : List UInt8), sv = .slice (some ⟨H, 0, none⟩) nb hc ∧ W.cell? ⟨H, k, none⟩ = some (.slice (some ⟨g, 0, none⟩) m c) ∧ W.heap[g]? = some (.cells cs 5 fz) ∧ (∀ j, j < cs.size → ¬ (fz.1 ≤ j ∧ j < fz.2)) ∧ Shows W (some ⟨g, 0, none⟩) m c d ∧ g ∈ F ∧ m ≤ 1099511627776
set_option maxHeartbeats 16000000 in
theorem mounts_tail {w W5 : World} {F : List Nat} {p7 p8 : Nat} {fo : Value} {L : Nat} {va : Option Addr} {n vc : Nat} {d r sc : Value} (h : Mo W5 F p7 p8 fo L va n vc) (hL : L ≤ 1099511627776) (hn : n ≤ 1099511627776)
    (hcall : r = .pointer none ∨ ∃ q, r = .pointer (some q) ∧ ∀ W, Likw F W5 W → Calls Tryz.prog 21 #[d, r, sc] W fun e w' => e = .returned (.bool true) ∧ Below w.heap.size w w')
    (hlow : ∀ W, Likw F W5 W → Below w.heap.size w W) (u0 u1 u3 u4 u5 u6 u10 u12 u13 u14 u15 u16 u17 u18 u19 u20 u21 u22 u23 u24 u25 u26 u27 u28 u29 u30 u31 u32 u33 u34 u35 u36 u37 u38 u39 u40 u41 u42 u43 u44 u45 u46 u47 u48 u49 u50 u51 u52 u53 u54 u55 u56 u57 u58 u59 u60 u61 u62 u63 u64 u65 u66 u67 u68 u69 u70 u71 u72 u73 u74 u75 u76 u77 u78 u79 u80 u81 u82 u83 u84 u85 u86 u87 u88 u89 u90 u91 u92 u93 u94 u95 u96 u97 u98 u99 u100 u101 u102 u103 u104 u105 u106 u107 u108 u109 u110 u111 u112 u113 u114 u115 u116 : Value) :
    Code.wp Tryz.prog ((Tryz.f5.body.bind (tailM 8)).getD .skip) (bodyPost Tryz.prog Tryz.f5 (fun e w' => e = .returned (.bool true) ∧ Below w.heap.size w w')) { tmps := #[u0, u1, sc, u3, u4, u5, u6, .pointer (some ⟨p7, 0, none⟩), .pointer (some ⟨p8, 0, none⟩), d, u10, r, u12, u13, u14, u15, u16, u17, u18, u19, u20, u21, u22, u23, u24, u25, u26, u27, u28, u29, u30, u31, u32, u33, u34, u35, u36, u37, u38, u39, u40, u41, u42, u43, u44, u45, u46, u47, u48, u49, u50, u51, u52, u53, u54, u55, u56, u57, u58, u59, u60, u61, u62, u63, u64, u65, u66, u67, u68, u69, u70, u71, u72, u73, u74, u75, u76, u77, u78, u79, u80, u81, u82, u83, u84, u85, u86, u87, u88, u89, u90, u91, u92, u93, u94, u95, u96, u97, u98, u99, u100, u101, u102, u103, u104, u105, u106, u107, u108, u109, u110, u111, u112, u113, u114, u115, u116], defers := [] } W5 := by
  obtain ⟨fa, fc, hfo⟩ := h.sl
  have H := hid h
  have HC := hid hcall
  have HLOW := hid hlow
  have I7 : Hid (∀ W, Likw F W5 W → W.cell? ⟨p7, 1, none⟩ = some (.slice fa L fc)) := fun W hw => by
    obtain ⟨u, c, k⟩ := hw.cell h.i7
    rw [hfo] at k
    rw [k.slice] at c
    exact c
  have I8 : Hid (∀ W, Likw F W5 W → W.cell? ⟨p8, 2, none⟩ = some (.slice va n vc)) := fun W hw => by
    obtain ⟨u, c, k⟩ := hw.cell h.i8
    rw [k.slice] at c
    exact c
  have HFO := hid hfo
  clear h hcall hlow hfo
  conv in (Option.getD _ _) => whnf
  try dsimp only
  go_wp2_with fail
  go_loopw [13] (fun iv W => Hid (∃ i : Nat, iv = .int .i64 (i : Int) ∧ i ≤ n ∧ Likw F W5 W)) (fun iv _ => match iv with | .int _ i => n + 1 - i.toNat | _ => 0)
  case atStart => exact ⟨0, rfl, Nat.zero_le _, Likw.refl _ _⟩
  case round =>
    obtain ⟨W, hW⟩ : ∃ W, W = wr := ⟨_, rfl⟩
    rw [← hW] at hrel ⊢
    clear hW
    obtain ⟨i, rfl, hi, hlk⟩ := hrel.out
    clear hrel
    have q8 := I8.out W hlk
    have HLK := hid hlk
    clear hlk
    by_cases hlt : i < n
    · obtain ⟨G, hG, hGF, hj⟩ := H.out.tr i hlt
      subst hG
      obtain ⟨⟨y0, d0⟩, e0⟩ := hj 0 (by omega)
      obtain ⟨⟨y1, d1⟩, e1⟩ := hj 1 (by omega)
      obtain ⟨⟨y2, d2⟩, e2⟩ := hj 2 (by omega)
      rw [Nat.add_zero] at d0 e0
      obtain ⟨u0', k0, _⟩ := HLK.out.cell d0
      obtain ⟨u1', k1, _⟩ := HLK.out.cell d1
      obtain ⟨u2', k2, _⟩ := HLK.out.cell d2
      have kf0 := HLK.out.frozen d0 e0
      have kf1 := HLK.out.frozen d1 e1
      have kf2 := HLK.out.frozen d2 e2
      have NX : Hid (∀ z0 z1 z2 : Int, Likw F W5 (((W.setCell ⟨G, i * 3, none⟩ (.int .i64 z0)).setCell ⟨G, i * 3 + 1, none⟩ (.int .i64 z1)).setCell ⟨G, i * 3 + 2, none⟩ (.int .i64 z2))) := fun z0 z1 z2 => ((HLK.out.put hGF d0 (.inr (.inl ⟨_, _, _, rfl, rfl⟩))).put hGF d1 (.inr (.inl ⟨_, _, _, rfl, rfl⟩))).put hGF d2 (.inr (.inl ⟨_, _, _, rfl, rfl⟩))
      have hlt1 : (i : Int) < (n : Int) := by omega
      have i9 : (0 : Int) ≤ (i : Int) := by omega
      have V2 : IntKind.i64.wrap ((i : Int) + 1) = (i : Int) + 1 := by rw [IntKind.wrap_i64]; omega
      clear d0 d1 d2 e0 e1 e2 hj
      go_wp2
      exact ⟨⟨i + 1, by simp, by omega, NX.out _ _ _⟩, by simp; omega⟩
    · have hnlt : ¬ (i : Int) < (n : Int) := by omega
      go_wp2_with fail
      clear q8 hnlt hlt hi
      go_loopw [14] (fun iv W => Hid (∃ i : Nat, iv = .int .i64 (i : Int) ∧ i ≤ L ∧ Likw F W5 W)) (fun iv _ => match iv with | .int _ i => L + 1 - i.toNat | _ => 0)
      case atStart => exact ⟨0, rfl, Nat.zero_le _, HLK.out⟩
      case round =>
        clear HLK
        obtain ⟨W, hW⟩ : ∃ W, W = wr := ⟨_, rfl⟩
        rw [← hW] at hrel ⊢
        clear hW
        obtain ⟨i, rfl, hi, hlk⟩ := hrel.out
        clear hrel
        have q7 := I7.out W hlk
        have HLK := hid hlk
        clear hlk
        by_cases hlt : i < L
        · obtain ⟨G, gc, s, x, sv, nb, hG, hGF, hGp, d0, d1, d2, e0, e1, hnb, ⟨sa, scp, hsv⟩, hbl⟩ := H.out.fi i hlt
          have hG2 := hG
          have e9 := HFO.out
          rw [e9] at hG2
          simp only [Value.slice.injEq, true_and] at hG2
          obtain ⟨rfl, rfl⟩ := hG2
          have C2 : Hid (∀ W, Likw F W5 W → W.cell? ⟨G, i * 3 + 2, none⟩ = some (.slice sa nb scp)) := fun W hw => by
            obtain ⟨u, c, k⟩ := hw.cell d2
            rw [hsv] at k
            rw [k.slice] at c
            exact c
          have C1 : Hid (∀ W, Likw F W5 W → ∃ y, W.cell? ⟨G, i * 3 + 1, none⟩ = some (.bool y)) := fun W hw => by
            obtain ⟨u, c, k⟩ := hw.cell d1
            obtain ⟨y, rfl⟩ := k.bool
            exact ⟨y, c⟩
          have C0 : Hid (∀ W, Likw F W5 W → ∃ y, W.cell? ⟨G, i * 3, none⟩ = some (.string y)) := fun W hw => by
            obtain ⟨u, c, k⟩ := hw.cell d0
            obtain ⟨y, rfl⟩ := k.str
            exact ⟨y, c⟩
          have FZ : Hid (∀ W, Likw F W5 W → W.frozen? ⟨G, i * 3, none⟩ = false ∧ W.frozen? ⟨G, i * 3 + 1, none⟩ = false) := fun W hw => ⟨hw.frozen d0 e0, hw.frozen d1 e1⟩
          have PUT0 : Hid (∀ W, Likw F W5 W → ∀ z : ByteArray, Likw F W5 (W.setCell ⟨G, i * 3, none⟩ (.string z))) := fun W hw z => hw.put hGF d0 (.inr (.inr (.inr ⟨_, _, rfl, rfl⟩)))
          have PUT1 : Hid (∀ W, Likw F W5 W → ∀ z : Bool, Likw F W5 (W.setCell ⟨G, i * 3 + 1, none⟩ (.bool z))) := fun W hw z => hw.put hGF d1 (.inr (.inr (.inl ⟨_, _, rfl, rfl⟩)))
          have HBL := hid hbl
          have HSV := hid hsv
          have hlt1 : (i : Int) < (L : Int) := by omega
          have i9 : (0 : Int) ≤ (i : Int) := by omega
          clear d0 d1 d2 e0 e1 hbl hsv e9 hG hGF
          go_wp2_with fail
          clear q7
          go_loopw [15] (fun iv W => Hid (∃ k : Nat, iv = .int .i64 (k : Int) ∧ k ≤ nb ∧ Likw F W5 W)) (fun iv _ => match iv with | .int _ i => nb + 1 - i.toNat | _ => 0)
          case atStart => exact ⟨0, rfl, Nat.zero_le _, HLK.out⟩
          case round =>
            clear HLK
            obtain ⟨W, hW⟩ : ∃ W, W = wr := ⟨_, rfl⟩
            rw [← hW] at hrel ⊢
            clear hW
            obtain ⟨k, rfl, hk, hlk⟩ := hrel.out
            clear hrel
            have q7 := I7.out W hlk
            have q2 := C2.out W hlk
            have HLK := hid hlk
            clear hlk
            by_cases hltk : k < nb
            · obtain ⟨J, jc, g, m, c, cs, fz, dd, hJ, dk, hr, hz, hsh, hgF, hm⟩ := HBL.out k hltk
              have hJ2 := HSV.out
              rw [hJ] at hJ2
              simp only [Value.slice.injEq, true_and] at hJ2
              obtain ⟨rfl, rfl⟩ := hJ2
              have qk : W.cell? ⟨J, k, none⟩ = some (.slice (some ⟨g, 0, none⟩) m c) := by
                obtain ⟨u, c, k⟩ := HLK.out.cell dk
                rw [k.slice] at c
                exact c
              have C24 := hid (HLK.out.blot hr hz hsh hgF hm)
              have hltk1 : (k : Int) < (nb : Int) := by omega
              have k9 : (0 : Int) ≤ (k : Int) := by omega
              have V2 : IntKind.i64.wrap ((k : Int) + 1) = (k : Int) + 1 := by rw [IntKind.wrap_i64]; omega
              clear hJ dk hr hz hsh hgF hm HBL HSV
              go_wp2_with (go_at_call 24; refine C24.out.mono ?_; rintro e w9 ⟨rfl, hb9⟩; have B9 := hid hb9; clear hb9)
              exact ⟨⟨k + 1, by go_num, by omega, B9.out⟩, by simp; omega⟩
            · have hnlt : ¬ (k : Int) < (nb : Int) := by omega
              have LKD : Hid (Likw F W5 W.drew) := ⟨HLK.out.touch.drew, HLK.out.kin⟩
              have V2 : IntKind.i64.wrap ((i : Int) + 1) = (i : Int) + 1 := by rw [IntKind.wrap_i64]; omega
              have hGp2 : G ≠ p7 := hGp
              clear HBL HSV
              go_wp2_with fail
              clear q2 hnlt
              refine wp_region_noPanic ?_
              refine wp_region_held_drew (S := fun X => X.cell? ⟨p7, 1, none⟩ = some (.slice (some ⟨G, 0, none⟩) L fc)) (by kernel_rfl) (I7.out _ LKD.out) (fun hHeld => ?_)
              obtain ⟨Yd, hYd⟩ : ∃ Yd, Yd = W.drew := ⟨_, rfl⟩
              rw [← hYd] at hHeld LKD ⊢
              clear hYd
              obtain ⟨y, q1⟩ := C1.out Yd LKD.out
              obtain ⟨y0, q0⟩ := C0.out Yd LKD.out
              obtain ⟨qf0, qf1⟩ := FZ.out Yd LKD.out
              refine wpAnyH_take (i := 0) (v := ?_) (by simp only [List.getElem?_toArray, List.getElem?_cons_zero]; rfl) (by kernel_rfl) (by kernel_rfl) (by kernel_rfl) (fun _ _ _ h => h) (Or.inl ⟨by rfl, ?_⟩) (by assumption) ?_
              rotate_left 1
              · intro w hSw; (try dsimp only at hSw); go_simp; (try with_reducible rfl)
              try simp only [Act.put, List.setIfInBounds_toArray, List.set_cons_zero, List.set_cons_succ]
              refine wpAnyH_take (i := 1) (v := ?_) (by simp only [List.getElem?_toArray, List.getElem?_cons_succ, List.getElem?_cons_zero]; rfl) (by kernel_rfl) (by kernel_rfl) (by kernel_rfl) (fun _ _ _ h => h) (Or.inl ⟨by rfl, ?_⟩) (by assumption) ?_
              rotate_left 1
              · intro w hSw; (try dsimp only at hSw); go_simp; (try with_reducible rfl)
              try simp only [Act.put, List.setIfInBounds_toArray, List.set_cons_zero, List.set_cons_succ]
              refine wpAnyH_take (i := 2) (v := ?_) (by simp only [List.getElem?_toArray, List.getElem?_cons_succ, List.getElem?_cons_zero]; rfl) (by kernel_rfl) (by kernel_rfl) (by kernel_rfl) (fun _ _ _ h => h) (Or.inl ⟨by rfl, ?_⟩) (by assumption) ?_
              rotate_left 1
              · intro w hSw; (try dsimp only at hSw); go_simp; (try with_reducible rfl)
              try simp only [Act.put, List.setIfInBounds_toArray, List.set_cons_zero, List.set_cons_succ]
              refine wpAnyH_take (i := 3) (v := ?_) (by simp only [List.getElem?_toArray, List.getElem?_cons_succ, List.getElem?_cons_zero]; rfl) (by kernel_rfl) (by kernel_rfl) (by kernel_rfl) (fun _ _ _ h => h) (Or.inl ⟨by rfl, ?_⟩) (by assumption) ?_
              rotate_left 1
              · intro w hSw; (try dsimp only at hSw); go_simp; (try with_reducible rfl)
              try simp only [Act.put, List.setIfInBounds_toArray, List.set_cons_zero, List.set_cons_succ]
              refine wpAnyH_take (i := 4) (v := ?_) (by simp only [List.getElem?_toArray, List.getElem?_cons_succ, List.getElem?_cons_zero]; rfl) (by kernel_rfl) (by kernel_rfl) (by kernel_rfl) (fun _ _ _ h => h) (Or.inl ⟨by rfl, ?_⟩) (by assumption) ?_
              rotate_left 1
              · intro w hSw; (try dsimp only at hSw); go_simp; (try with_reducible rfl)
              try simp only [Act.put, List.setIfInBounds_toArray, List.set_cons_zero, List.set_cons_succ]
              refine wpAnyH_take (i := 5) (v := ?_) (by simp only [List.getElem?_toArray, List.getElem?_cons_succ, List.getElem?_cons_zero]; rfl) (by kernel_rfl) (by kernel_rfl) (by kernel_rfl) (fun _ _ _ h => h) (Or.inl ⟨by rfl, ?_⟩) (by assumption) ?_
              rotate_left 1
              · intro w hSw; (try dsimp only at hSw); go_simp; (try with_reducible rfl)
              try simp only [Act.put, List.setIfInBounds_toArray, List.set_cons_zero, List.set_cons_succ]
              refine wpAnyH_take (i := 6) (v := ?_) (by simp only [List.getElem?_toArray, List.getElem?_cons_succ, List.getElem?_cons_zero]; rfl) (by kernel_rfl) (by kernel_rfl) (by kernel_rfl) (fun _ _ _ h => h) (Or.inl ⟨by rfl, ?_⟩) (by assumption) ?_
              rotate_left 1
              · intro w hSw; (try dsimp only at hSw); go_simp; (try with_reducible rfl)
              try simp only [Act.put, List.setIfInBounds_toArray, List.set_cons_zero, List.set_cons_succ]
              refine wpAnyH_take (i := 7) (v := ?_) (by simp only [List.getElem?_toArray, List.getElem?_cons_succ, List.getElem?_cons_zero]; rfl) (by kernel_rfl) (by kernel_rfl) (by kernel_rfl) (fun _ _ _ h => h) (Or.inl ⟨by rfl, ?_⟩) (by assumption) ?_
              rotate_left 1
              · intro w hSw; (try dsimp only at hSw); go_simp; (try with_reducible rfl)
              try simp only [Act.put, List.setIfInBounds_toArray, List.set_cons_zero, List.set_cons_succ]
              refine wpAnyH_take (i := 8) (v := ?_) (by simp only [List.getElem?_toArray, List.getElem?_cons_succ, List.getElem?_cons_zero]; rfl) (by kernel_rfl) (by kernel_rfl) (by kernel_rfl) (fun _ _ _ h => h) (Or.inl ⟨by rfl, ?_⟩) (by assumption) ?_
              rotate_left 1
              · intro w hSw; (try dsimp only at hSw); go_simp; (try with_reducible rfl)
              try simp only [Act.put, List.setIfInBounds_toArray, List.set_cons_zero, List.set_cons_succ]
              refine wpAnyH_take (i := 9) (v := ?_) (by simp only [List.getElem?_toArray, List.getElem?_cons_succ, List.getElem?_cons_zero]; rfl) (by kernel_rfl) (by kernel_rfl) (by kernel_rfl) (fun _ _ _ h => h) (Or.inl ⟨by rfl, ?_⟩) (by assumption) ?_
              rotate_left 1
              · intro w hSw; (try dsimp only at hSw); go_simp; (try with_reducible rfl)
              try simp only [Act.put, List.setIfInBounds_toArray, List.set_cons_zero, List.set_cons_succ]
              refine wpAnyH_take (i := 10) (v := ?_) (by simp only [List.getElem?_toArray, List.getElem?_cons_succ, List.getElem?_cons_zero]; rfl) (by kernel_rfl) (by kernel_rfl) (by kernel_rfl) (fun _ _ _ h => h) (Or.inl ⟨by rfl, ?_⟩) (by assumption) ?_
              rotate_left 1
              · intro w hSw; (try dsimp only at hSw); go_simp; (try with_reducible rfl)
              try simp only [Act.put, List.setIfInBounds_toArray, List.set_cons_zero, List.set_cons_succ]
              refine wpAnyH_ready (rs := [11]) (by kernel_rfl) (by simp) ?_
              refine AllReadyH.cons (by simp only [List.getElem?_toArray, List.getElem?_cons_succ, List.getElem?_cons_zero]; rfl) (fun K hK => ?_) AllReadyH.nil
              go_simp
              clear hHeld
              refine hK.out _ _ (I7.out _ LKD.out) (fun hHeld => ?_)
              clear hK K
              try simp only [Act.put, List.setIfInBounds_toArray, List.set_cons_zero, List.set_cons_succ]
              refine wpAnyH_take (i := 12) (v := ?_) (by simp only [List.getElem?_toArray, List.getElem?_cons_succ, List.getElem?_cons_zero]; rfl) (by kernel_rfl) (by kernel_rfl) (by kernel_rfl) (fun _ _ _ h => h) (Or.inl ⟨by rfl, ?_⟩) (by assumption) ?_
              rotate_left 1
              · intro w hSw; (try dsimp only at hSw); go_simp; (try with_reducible rfl)
              try simp only [Act.put, List.setIfInBounds_toArray, List.set_cons_zero, List.set_cons_succ]
              refine wpAnyH_take (i := 13) (v := ?_) (by simp only [List.getElem?_toArray, List.getElem?_cons_succ, List.getElem?_cons_zero]; rfl) (by kernel_rfl) (by kernel_rfl) (by kernel_rfl) (fun _ _ _ h => h) (Or.inl ⟨by rfl, ?_⟩) (by assumption) ?_
              rotate_left 1
              · intro w hSw; (try dsimp only at hSw); go_simp; (try with_reducible rfl)
              try simp only [Act.put, List.setIfInBounds_toArray, List.set_cons_zero, List.set_cons_succ]
              refine wpAnyH_take (i := 14) (v := ?_) (by simp only [List.getElem?_toArray, List.getElem?_cons_succ, List.getElem?_cons_zero]; rfl) (by kernel_rfl) (by kernel_rfl) (by kernel_rfl) (fun _ _ _ h => h) (Or.inl ⟨by rfl, ?_⟩) (by assumption) ?_
              rotate_left 1
              · intro w hSw; (try dsimp only at hSw); go_simp; (try with_reducible rfl)
              try simp only [Act.put, List.setIfInBounds_toArray, List.set_cons_zero, List.set_cons_succ]
              refine wpAnyH_ready (rs := [15]) (by kernel_rfl) (by simp) ?_
              refine AllReadyH.cons (by simp only [List.getElem?_toArray, List.getElem?_cons_succ, List.getElem?_cons_zero]; rfl) (fun K hK => ?_) AllReadyH.nil
              go_simp
              clear hHeld
              refine hK.out _ _ (I7.out _ (PUT0.out _ LKD.out _)) (fun hHeld => ?_)
              clear hK K
              try simp only [Act.put, List.setIfInBounds_toArray, List.set_cons_zero, List.set_cons_succ]
              obtain ⟨Y1, hY1⟩ : ∃ Y1, Y1 = Yd.setCell ⟨G, i * 3, none⟩ (.string ⟨#[98, 108, 111, 116]⟩) := ⟨_, rfl⟩
              rw [← hY1] at hHeld ⊢
              have LK1 : Hid (Likw F W5 Y1) := by rw [hY1]; exact PUT0.out _ LKD.out _
              clear hY1 q1 q0 qf0 qf1
              obtain ⟨y, q1⟩ := C1.out Y1 LK1.out
              obtain ⟨qf0, qf1⟩ := FZ.out Y1 LK1.out
              refine wpAnyH_take (i := 16) (v := ?_) (by simp only [List.getElem?_toArray, List.getElem?_cons_succ, List.getElem?_cons_zero]; rfl) (by kernel_rfl) (by kernel_rfl) (by kernel_rfl) (fun _ _ _ h => h) (Or.inl ⟨by rfl, ?_⟩) (by assumption) ?_
              rotate_left 1
              · intro w hSw; (try dsimp only at hSw); go_simp; (try with_reducible rfl)
              try simp only [Act.put, List.setIfInBounds_toArray, List.set_cons_zero, List.set_cons_succ]
              refine wpAnyH_take (i := 17) (v := ?_) (by simp only [List.getElem?_toArray, List.getElem?_cons_succ, List.getElem?_cons_zero]; rfl) (by kernel_rfl) (by kernel_rfl) (by kernel_rfl) (fun _ _ _ h => h) (Or.inl ⟨by rfl, ?_⟩) (by assumption) ?_
              rotate_left 1
              · intro w hSw; (try dsimp only at hSw); go_simp; (try with_reducible rfl)
              try simp only [Act.put, List.setIfInBounds_toArray, List.set_cons_zero, List.set_cons_succ]
              refine wpAnyH_ready (rs := [18]) (by kernel_rfl) (by simp) ?_
              refine AllReadyH.cons (by simp only [List.getElem?_toArray, List.getElem?_cons_succ, List.getElem?_cons_zero]; rfl) (fun K hK => ?_) AllReadyH.nil
              go_simp
              clear hHeld
              refine hK.out _ _ (I7.out _ (PUT1.out _ LK1.out _)) (fun hHeld => ?_)
              clear hK K
              try simp only [Act.put, List.setIfInBounds_toArray, List.set_cons_zero, List.set_cons_succ]
              refine wpAnyH_done (by kernel_rfl) ?_ _
              refine NoPanic.normal ?_
              clear q1 qf0 qf1 q7 hHeld
              go_wp2_with fail
              clear V2
              exact ⟨⟨i + 1, by go_num, by omega, PUT1.out _ LK1.out _⟩, by simp; omega⟩
        · have hnlt : ¬ (i : Int) < (L : Int) := by omega
          rcases HC.out with hr | ⟨q, hr, hcl⟩
          · subst hr
            have LW := hid (HLOW.out W HLK.out)
            go_wp2
            go_ret
            exact ⟨rfl, LW.out⟩
          · have C21 := hid (hcl W HLK.out)
            subst hr
            clear hcl
            go_wp2_with (go_at_call 21; refine C21.out.mono ?_; rintro e w9 ⟨rfl, hb9⟩; have B9 := hid hb9; clear hb9)
            go_ret
            exact ⟨rfl, B9.out⟩
end Go.Proofs.YtcpncfngadablaaGreatDoor
/-
  The landed Mount's parts over a state that came in: blocks copied, a file made.
-/
namespace Go.Proofs.YtcpncfngadablaaGreatDoor
open Go.RowKit Go.Deep
section
variable {w w' : World}
theorem copyIn_at {a : Addr} {B c : Nat} {bl : List UInt8} (h : ∀ j v, (Lib.byteCells bl)[j]? = some v → w.cell? (a.add j) = some v) (ha : a.block < w.heap.size) (hl : bl.length = B) (hc : B ≤ c) (h1 : 64 ≤ B) (h2 : B ≤ 65536) :
    Calls Tryz.prog 71 #[.slice (some a) B c, .int .i64 B] w fun e w' => e = .returned (sliceV w.heap.size B) ∧ BytesAt w' w.heap.size bl ∧ Touch [] w w' ∧ w'.heap.size = w.heap.size + 1 := by
  have h3 := copyBlock_any bl a c (B : Int) w (by omega) (by omega) (by omega) (by omega) h ha
  rw [cutB_whole (by omega), hl] at h3
  exact h3
set_option maxRecDepth 100000 in
set_option maxHeartbeats 400000 in
theorem copyBlocksIn_any {B : Nat} {sv : Value} {blocks : List (List UInt8)} (h : BlIn w sv blocks) (hlb : ∀ b ∈ blocks, b.length = B) (hB1 : 64 ≤ B) (hB2 : B ≤ 65536) (hn : blocks.length ≤ 1099511627776) :
    Calls Tryz.prog 75 #[sv] w fun e w' => ∃ sv' bs', e = .returned sv' ∧ BlocksAt w' B sv' bs' blocks ∧ FreshB w.heap.size sv' bs' ∧ Below w.heap.size w w' := by
  by_cases h0 : blocks.length = 0
  · obtain ⟨a1, c1, hsv⟩ := h.sl
    have hbl : blocks = [] := List.eq_nil_of_length_eq_zero h0
    subst hbl
    rw [hsv]
    clear h hsv
    simp only [List.length_nil]
    go_enter Tryz.func75, Tryz.ntmps75
    go_wp2
    refine wp_loop_rounds 1 ?_
    rw [rounds_succ]
    go_wp2
    go_ret
    exact ⟨.slice none 0 0, [], rfl, ⟨World.ownsRow_nil _ _ _ _, fun i b bl hb => by simp at hb⟩, ⟨by simp [Value.ownBlock], by simp, by simp [Value.ownBlock]⟩, Below.refl _ _⟩
  · obtain ⟨A, gc, hsv⟩ := h.slice1 h0
    have H := hid h
    have HSV := hid hsv
    have HLB := hid hlb
    rw [hsv]
    clear h hsv hlb
    go_enter Tryz.func75, Tryz.ntmps75
    go_wp2
    go_loopw [3, 8] (fun v i wr => ∃ (k : Nat) (bs' : List Nat), k ≤ blocks.length ∧ i = .int .i64 k ∧ BlocksAt wr B v bs' (blocks.take k) ∧ FreshB w.heap.size v bs' ∧ Below w.heap.size w wr) (fun _ i _ => blocks.length - (intOf i).toNat)
    case atStart => exact ⟨0, [], Nat.zero_le _, rfl, ⟨World.ownsRow_nil _ _ _ _, fun i b bl hb => by simp at hb⟩, ⟨by simp [Value.ownBlock], by simp, by simp [Value.ownBlock]⟩, Below.refl _ _⟩
    case round =>
      obtain ⟨k, bs', hk, rfl, hB, hF, hb⟩ := hrel
      by_cases hlt : k < blocks.length
      · obtain ⟨A', cap, xa, xn, xc, e1, _, cG, hs⟩ := (H.out.below hb).at_ k hlt
        rw [HSV.out] at e1
        simp only [Value.slice.injEq, Option.some.injEq] at e1
        obtain ⟨rfl, -, -⟩ := e1
        have hlen : (blocks[k]'hlt).length = B := HLB.out _ (List.getElem_mem hlt)
        have hxn : xn = B := by rw [← hs.len, hlen]
        rw [hxn] at cG hs
        clear hxn
        obtain ⟨ad, rfl, lad, hcells⟩ := hs.at_ (by omega)
        have HC := hid (copyIn_at hcells lad hlen hs.cap hB1 hB2)
        have hl : (blocks.take k).length = k := by simp; omega
        have HB := hid hB
        have HF := hid hF
        have HBW := hid hb
        have HL := hid hl
        have HLEN := hid hlen
        clear hs hcells lad hB hF hb hl hlen
        go_wp2_with (first
          | (go_at_call 71; refine HC.out.mono ?_; rintro e w2 ⟨rfl, hb2, ht2, hz2⟩; have HB2 := hid hb2; have HT2 := hid ht2; have HZ2 := hid hz2; clear hb2 ht2 hz2)
          | (at_builtin; refine wpList_append_fresh _ rfl _ _ rfl u3 k (bs'.map fun b => sliceV b B) ⟨w2.heap.size, 0, none⟩ (sliceV wr.heap.size B) rfl rfl ?h1 ?h2 rfl ?h3 ?_; rotate_left 3; intro v' w3 r1 r2 r3; have H1 := hid r1; have H2 := hid r2; have H3 := hid r3; clear r1 r2 r3))
        case h1 =>
          have h := ownsRow_touch HB.out.own HT2.out (by simp)
          rw [HL.out] at h
          exact h.alloc _
        case h2 => exact cell_row (heap_alloc_new w2 _) 0
        case h3 => omega
        have hz := HZ2.out
        have hbw := HBW.out.size
        have hl := HL.out
        have hr := HB.out.snoc (nb := blocks[k]) HF.out hbw (Nat.le_refl _) (by omega) HT2.out HLEN.out HB2.out (by rw [hl]; exact H1.out) H2.out H3.out
        have htk : blocks.take (k + 1) = blocks.take k ++ [blocks[k]] := List.take_succ_eq_append_getElem hlt
        have hbel : Below w.heap.size w w3 := HBW.out.trans (hr.2.2.below hbw (fun b hb => HF.out.1 b (by simpa using hb)))
        rw [← htk] at hr
        have HR := hid hr
        have HBE := hid hbel
        clear hr hbel htk hz hl hbw
        go_roundw
        case rel => first | exact ⟨k + 1, bs' ++ [wr.heap.size], by omega, by go_num, HR.out.1, HR.out.2.1, HBE.out⟩ | ((repeat apply Exists.intro); exact ⟨⟨k + 1, bs' ++ [wr.heap.size], by omega, by go_num, HR.out.1, HR.out.2.1, HBE.out⟩, rfl⟩)
        case measure => simp [intOf]; omega
      · go_wp2
        go_ret
        have hk' : k = blocks.length := by omega
        subst hk'
        rw [List.take_length] at hB
        exact ⟨u3, bs', rfl, hB, hF, hb⟩

set_option maxRecDepth 100000 in
set_option maxHeartbeats 400000 in
theorem fileOfIn_any {B : Nat} {s : ByteArray} {x : Bool} {sv : Value} {blocks : List (List UInt8)} (h : BlIn w sv blocks) (hlb : ∀ b ∈ blocks, b.length = B) (hB1 : 64 ≤ B) (hB2 : B ≤ 65536) (hn : blocks.length ≤ 1099511627776) :
    Calls Tryz.prog 57 #[.agg #[.string s, .bool x, sv]] w fun e w' => ∃ L : Lay, e = .returned (ptr L.fb) ∧ FileAt w' B L ⟨x, blocks⟩ ∧ (∀ b ∈ L.foot, w.heap.size ≤ b) ∧ L.foot.Nodup ∧ Below w.heap.size w w' := by
  have HC := hid (fun o : Obj => copyBlocksIn_any (w := w.alloc o) (h.below ((Below.refl _ w).alloc (Nat.le_refl _) o)) hlb hB1 hB2 hn)
  obtain ⟨ga, gc, hsv⟩ := h.sl
  rw [hsv] at HC
  rw [hsv]
  clear h hsv
  cases x
  all_goals
    go_enter Tryz.func57, Tryz.ntmps57
    go_wp2_with (go_at_call 75; refine (HC.out _).mono ?_; rintro e w1 ⟨sv', bs', rfl, hb1, hf1, ht1⟩; have HB1 := hid hb1; have HF1 := hid hf1; have HT1 := hid ht1; obtain ⟨ka, kn, kc, hk⟩ := hb1.own_slice; clear hb1 hf1 ht1)
    go_ret
    first
      | (obtain ⟨h1, h2, h3, h4⟩ := fileOf_fin false HB1.out HF1.out HT1.out
         rw [hk] at h1 h2 h3
         exact ⟨_, rfl, h1, h2, h3, h4 _⟩)
      | (obtain ⟨h1, h2, h3, h4⟩ := fileOf_fin true HB1.out HF1.out HT1.out
         rw [hk] at h1 h2 h3
         exact ⟨_, rfl, h1, h2, h3, h4 _⟩)
end
end Go.Proofs.YtcpncfngadablaaGreatDoor
/-
  The landed Mount's look at a file of a state that came in: told exactly.
-/
namespace Go.Proofs.YtcpncfngadablaaGreatDoor
open Go.RowKit Go.Deep
/-- may the file stand there? -/
def FOk (B : Int) (last s : ByteArray) (blocks : List (List UInt8)) : Prop := nameB s = true ∧ (Op.bytesLess s.toList last.toList || s.toList == last.toList) = false ∧ ∀ b ∈ blocks, (b.length : Int) = B
section
variable {w w' : World} {E : Nat → Addr} {lo : Nat}
set_option maxRecDepth 100000 in
set_option maxHeartbeats 1000000 in
theorem checkFile_first (V : Env w lo E) {B : Int} {s last : ByteArray} {x : Bool} {sa : Option Addr} {n c : Nat} (hs : ¬ (nameB s = true ∧ (Op.bytesLess s.toList last.toList || s.toList == last.toList) = false)) :
    Calls Tryz.prog 86 #[.agg #[.string s, .bool x, .slice sa n c], .string last, .int .i64 B] w fun e w' => e = .returned (errV E 10) ∧ Below w.heap.size w w' := by
  have c10 : ∀ o : Obj, (w.alloc o).cell? ⟨10, 0, none⟩ = some (errV E 10) := fun o => (V.alloc o).sents.var 10 (by omega)
  by_cases h1 : nameB s = true
  · have h2 : (Op.bytesLess s.toList last.toList || s.toList == last.toList) = true := by
      cases hq : (Op.bytesLess s.toList last.toList || s.toList == last.toList) with
      | true => rfl
      | false => exact absurd ⟨h1, hq⟩ hs
    clear hs V
    go_enter Tryz.func86, Tryz.ntmps86
    go_wp2_with (go_at_call 101; refine (isName_any _ _).mono ?_; rintro e w2 ⟨rfl, hw2⟩; rw [hw2]; clear hw2 w2)
    go_ret
    exact ⟨rfl, (Below.refl _ w).alloc (Nat.le_refl _) _⟩
  · have h2 : nameB s = false := by simpa using h1
    clear hs V h1
    go_enter Tryz.func86, Tryz.ntmps86
    go_wp2_with (go_at_call 101; refine (isName_any _ _).mono ?_; rintro e w2 ⟨rfl, hw2⟩; rw [hw2]; clear hw2 w2)
    go_ret
    exact ⟨rfl, (Below.refl _ w).alloc (Nat.le_refl _) _⟩
set_option maxRecDepth 100000 in
set_option maxHeartbeats 1000000 in
theorem checkFile_in (V : Env w lo E) {B : Int} {s last : ByteArray} {x : Bool} {sv : Value} {blocks : List (List UInt8)} (h : BlIn w sv blocks) (hn : blocks.length ≤ 1099511627776) :
    Calls Tryz.prog 86 #[.agg #[.string s, .bool x, sv], .string last, .int .i64 B] w fun e w' => ((FOk B last s blocks ∧ e = .returned .nilIface) ∨ (¬ FOk B last s blocks ∧ e = .returned (errV E 10))) ∧ Below w.heap.size w w' := by
  obtain ⟨sa, sc, hsv⟩ := h.sl
  by_cases hs : nameB s = true ∧ (Op.bytesLess s.toList last.toList || s.toList == last.toList) = false
  · obtain ⟨h1, h2⟩ := hs
    have c10 : ∀ o : Obj, (w.alloc o).cell? ⟨10, 0, none⟩ = some (errV E 10) := fun o => (V.alloc o).sents.var 10 (by omega)
    obtain ⟨m, hm⟩ : ∃ m, m = blocks.length := ⟨_, rfl⟩
    have HH := hid h
    have HM := hid hm
    have HSV := hid hsv
    have YES : Hid ((∀ b ∈ blocks, (b.length : Int) = B) → FOk B last s blocks) := fun h3 => ⟨h1, h2, h3⟩
    have NO : Hid (∀ (k : Nat) b, blocks[k]? = some b → (b.length : Int) ≠ B → ¬ FOk B last s blocks) := fun k b hb hne hf => hne (hf.2.2 b (List.mem_of_getElem? hb))
    rw [hsv, ← hm]
    rw [← hm] at hn
    clear h V hsv hm
    go_enter Tryz.func86, Tryz.ntmps86
    go_wp2_with (go_at_call 101; refine (isName_any _ _).mono ?_; rintro e w2 ⟨rfl, hw2⟩; rw [hw2]; clear hw2 w2)
    go_loopw [23, 8] (fun i _ wr => Hid (∃ k : Nat, k ≤ m ∧ i = .int .i64 (k : Int) ∧ wr = w.alloc (.cells #[.string s, .bool x, .slice sa m sc] 71) ∧ ∀ (j : Nat) b, j < k → blocks[j]? = some b → (b.length : Int) = B)) (fun i _ _ => m - (intOf i).toNat)
    case atStart => exact ⟨0, Nat.zero_le _, rfl, rfl, fun j b hj => by omega⟩
    case round =>
      obtain ⟨k, hk, rfl, hwr, hall⟩ := hrel.out
      subst hwr
      clear hrel
      by_cases hlt : k < m
      · obtain ⟨b, hb⟩ : ∃ b, blocks[k]? = some b := ⟨_, List.getElem?_eq_getElem (by have := HM.out; omega)⟩
        have hbe := (List.getElem?_eq_some_iff.1 hb).2
        obtain ⟨A, gc, xa, xn, xc, e1, lA, cA, sh⟩ := (HH.out.below ((Below.refl _ w).alloc (Nat.le_refl _) (.cells #[.string s, .bool x, .slice sa m sc] 71))).at_ k (by have := HM.out; omega)
        have e2 := HSV.out
        have e3 := HM.out
        rw [e2, ← e3] at e1
        simp only [Value.slice.injEq] at e1
        obtain ⟨rfl, -, -⟩ := e1
        have hxn : b.length = xn := by rw [hbe] at sh; exact sh.len
        have hk1 : (k : Int) < (m : Int) := by omega
        have k0 : (0 : Int) ≤ (k : Int) := by omega
        have V2 : IntKind.i64.wrap ((k : Int) + 1) = (k : Int) + 1 := by rw [IntKind.wrap_i64]; omega
        have HB := hid hb
        have HX := hid hxn
        have HA := hid hall
        clear sh e2 e3 hbe hb hxn hall
        by_cases hxB : (xn : Int) = B
        · have hne : ((xn : Int) != B) = false := by simpa using hxB
          have NX : Hid (∀ (j : Nat) b, j < k + 1 → blocks[j]? = some b → (b.length : Int) = B) := fun j b' hj hb' => by
            by_cases hjk : j < k
            · exact HA.out j b' hjk hb'
            · have : j = k := by omega
              subst this
              have h9 := HB.out
              rw [h9] at hb'
              cases hb'
              have h8 := HX.out
              rw [h8]
              exact hxB
          go_wp2
          exact ⟨⟨k + 1, by omega, by simp, by first | rfl | trivial, NX.out⟩, by simp [intOf]; omega⟩
        · have hne : ((xn : Int) != B) = true := by simpa using hxB
          go_wp2
          go_ret
          refine ⟨.inr ⟨NO.out k b HB.out (by have h8 := HX.out; rw [h8]; exact hxB), rfl⟩, (Below.refl _ w).alloc (Nat.le_refl _) _⟩
      · have hk1 : ¬ (k : Int) < (m : Int) := by omega
        have OK : Hid (∀ b ∈ blocks, (b.length : Int) = B) := fun b hb => by
          obtain ⟨j, hj⟩ := List.getElem?_of_mem hb
          exact hall j b (by have := (List.getElem?_eq_some_iff.1 hj).1; have := HM.out; omega) hj
        clear hall
        go_wp2
        go_ret
        exact ⟨.inl ⟨YES.out OK.out, rfl⟩, (Below.refl _ w).alloc (Nat.le_refl _) _⟩
  · rw [hsv]
    exact (checkFile_first V hs).mono fun e w' ⟨h1, h2⟩ => ⟨.inr ⟨fun hf => hs ⟨hf.1, hf.2.1⟩, h1⟩, h2⟩
end
end Go.Proofs.YtcpncfngadablaaGreatDoor
/-
  The landed Mount's look at a state that came in: told exactly.
-/
namespace Go.Proofs.YtcpncfngadablaaGreatDoor
open Go.RowKit Go.Deep
/-- the first k files may stand there. -/
def FilesOk (B : Int) (l : List SFile) (k : Nat) : Prop := ∀ (j : Nat) (e : SFile), j < k → l[j]? = some e → FOk B ⟨(lastN l j).toArray⟩ ⟨e.name.toArray⟩ e.file.blocks
/-- what Mount answers to a state. -/
def MountV (sB B Bs : Int) (l : List SFile) (c : Option Nat) : Prop :=
  (c = none ∧ SetOk B Bs ∧ sB = B ∧ FilesOk B l l.length ∧ (usedN l l.length : Int) ≤ Bs) ∨
  (c = some 0 ∧ ¬ SetOk B Bs) ∨
  (c = some 10 ∧ SetOk B Bs ∧ ¬ (sB = B ∧ FilesOk B l l.length)) ∨
  (c = some 9 ∧ SetOk B Bs ∧ sB = B ∧ FilesOk B l l.length ∧ ¬ (usedN l l.length : Int) ≤ Bs)
def errOf (E : Nat → Addr) : Option Nat → Value
  | none => .nilIface
  | some c => errV E c
section
variable {w w' : World} {E : Nat → Addr} {lo : Nat}
set_option maxRecDepth 100000 in
set_option maxHeartbeats 1000000 in
theorem checkMount_bad (V : Env w lo E) {sB B Bs : Int} {fa ta : Option Addr} {fn fc tn tc : Nat} (h : ¬ SetOk B Bs) :
    Calls Tryz.prog 56 #[.agg #[.int .i64 sB, .slice fa fn fc], .agg #[.int .i64 B, .int .i64 Bs, .slice ta tn tc]] w fun e w' => e = .returned (errV E 0) ∧ Below w.heap.size w w' := by
  have HC := hid (fun o1 o2 : Obj => checkSetup_bad (w := (w.alloc o1).alloc o2) (E := E) (fun o3 => (((V.alloc o1).alloc o2).alloc o3).sents) (ga := ta) (gn := tn) (gc := tc) h)
  clear h V
  go_enter Tryz.func56, Tryz.ntmps56
  go_wp2_with (go_at_call 25; refine (HC.out _ _).mono ?_; rintro e w1 ⟨rfl, hb1⟩; have HB0 : Hid (Below w.heap.size w w1) := hid ((((Below.refl _ w).alloc (Nat.le_refl _) _).alloc (by simp) _).trans (hb1.mono (by simp; omega))); clear hb1)
  go_ret
  exact ⟨rfl, HB0.out⟩
set_option maxRecDepth 100000 in
set_option maxHeartbeats 1000000 in
theorem checkMount_other (V : Env w lo E) {sB B Bs : Int} {fa ta : Option Addr} {fn fc tn tc : Nat} (h : SetOk B Bs) (hne : ¬ sB = B) :
    Calls Tryz.prog 56 #[.agg #[.int .i64 sB, .slice fa fn fc], .agg #[.int .i64 B, .int .i64 Bs, .slice ta tn tc]] w fun e w' => e = .returned (errV E 10) ∧ Below w.heap.size w w' := by
  have HC := hid (fun W => checkSetup_ok (B := B) (Bs := Bs) (v := .slice ta tn tc) rfl h.1 h.2.1 h.2.2.1 h.2.2.2.1 h.2.2.2.2 W)
  have HV : Hid (∀ W, Below w.heap.size w W → W.cell? ⟨10, 0, none⟩ = some (errV E 10)) := fun W hb => (V.touch (Touch.of_below (F := []) hb (Nat.le_refl _)) (by simp)).sents.var 10 (by omega)
  have hnb : (sB != B) = true := by simpa using hne
  obtain ⟨W, hW⟩ : ∃ W, W = (w.alloc (.cells #[.int .i64 sB, .slice fa fn fc] 47)).alloc (.cells #[.int .i64 B, .int .i64 Bs, .slice ta tn tc] 29) := ⟨_, rfl⟩
  have hW1 := heap_two w (.cells #[.int .i64 sB, .slice fa fn fc] 47) (.cells #[.int .i64 B, .int .i64 Bs, .slice ta tn tc] 29)
  rw [← hW] at hW1
  have hTW : Below w.heap.size w W := by rw [hW]; exact ((Below.refl _ w).alloc (Nat.le_refl _) _).alloc (by simp) _
  have HE := hid hW
  have HW := hid hW1
  have HTW := hid hTW
  clear h V hne hW hW1 hTW
  go_enter Tryz.func56, Tryz.ntmps56
  go_wp2_with fail
  rw [← HE.out]
  refine (HC.out _).mono ?_
  rintro e w1 ⟨rfl, hb1⟩
  have r1 : w1.heap[w.heap.size]? = _ := (hb1.block _ (lt_of_block HW.out.1)).trans HW.out.1
  have r2 : w1.heap[w.heap.size + 1]? = _ := (hb1.block _ (lt_of_block HW.out.2)).trans HW.out.2
  have a0 := cell_row r1 0
  have b0 := cell_row r2 0
  simp at a0 b0
  have hbw : Below w.heap.size w w1 := HTW.out.trans (hb1.mono HTW.out.size)
  have c10 := HV.out _ hbw
  have HBW := hid hbw
  clear r1 r2 hb1 hbw
  go_wp2
  go_ret
  exact ⟨rfl, HBW.out⟩
set_option maxRecDepth 100000 in
set_option maxHeartbeats 1000000 in
theorem checkMount_files (V : Env w lo E) {B Bs : Int} {fv : Value} {l : List SFile} {ta : Option Addr} {tn tc : Nat} (h : StIn w fv l) (hs : SetOk B Bs) (hn : l.length ≤ 1099511627776) (hu : usedN l l.length ≤ 1099511627776) :
    Calls Tryz.prog 56 #[.agg #[.int .i64 B, fv], .agg #[.int .i64 B, .int .i64 Bs, .slice ta tn tc]] w fun e w' => (∃ c, MountV B B Bs l c ∧ e = .returned (errOf E c)) ∧ Below w.heap.size w w' := by
  have HC := hid (fun W => checkSetup_ok (B := B) (Bs := Bs) (v := .slice ta tn tc) rfl hs.1 hs.2.1 hs.2.2.1 hs.2.2.2.1 hs.2.2.2.2 W)
  obtain ⟨fa, fc, hfv⟩ := h.sl
  have HV : Hid (∀ W, Below w.heap.size w W → Env W lo E) := fun W hb => V.touch (Touch.of_below (F := []) hb (Nat.le_refl _)) (by simp)
  have HS := hid h
  have HOK := hid hs
  have HFV := hid hfv
  rw [hfv]
  obtain ⟨W, hW⟩ : ∃ W, W = (w.alloc (.cells #[.int .i64 B, .slice fa l.length fc] 47)).alloc (.cells #[.int .i64 B, .int .i64 Bs, .slice ta tn tc] 29) := ⟨_, rfl⟩
  have hW1 := heap_two w (.cells #[.int .i64 B, .slice fa l.length fc] 47) (.cells #[.int .i64 B, .int .i64 Bs, .slice ta tn tc] 29)
  rw [← hW] at hW1
  have hTW : Below w.heap.size w W := by rw [hW]; exact ((Below.refl _ w).alloc (Nat.le_refl _) _).alloc (by simp) _
  have HE := hid hW
  have HW := hid hW1
  have HTW := hid hTW
  clear h hs V hfv hW hW1 hTW
  go_enter Tryz.func56, Tryz.ntmps56
  go_wp2_with fail
  rw [← HE.out]
  refine (HC.out _).mono ?_
  rintro e w1 ⟨rfl, hb1⟩
  have r1 : w1.heap[w.heap.size]? = _ := (hb1.block _ (lt_of_block HW.out.1)).trans HW.out.1
  have r2 : w1.heap[w.heap.size + 1]? = _ := (hb1.block _ (lt_of_block HW.out.2)).trans HW.out.2
  have a0 := cell_row r1 0
  have a1 := cell_row r1 1
  have b0 := cell_row r2 0
  have b1 := cell_row r2 1
  simp at a0 a1 b0 b1
  have hbw : Below w.heap.size w w1 := HTW.out.trans (hb1.mono HTW.out.size)
  have HBW := hid hbw
  have lz : w.heap.size + 1 < w1.heap.size := lt_of_block r2
  have hnb : (B != B) = false := by simp
  clear r1 r2 hb1 hbw
  go_wp2
  go_loopw [6, 7, 25] (fun la us i wr => ∃ k : Nat, k ≤ l.length ∧ i = .int .i64 k ∧ la = encStr (lastN l k) ∧ us = .int .i64 (usedN l k) ∧ FilesOk B l k ∧ Below w1.heap.size w1 wr) (fun _ _ i _ => l.length - (intOf i).toNat)
  case atStart => exact ⟨0, Nat.zero_le _, rfl, rfl, rfl, fun j e hj => by omega, Below.refl _ _⟩
  case round =>
    obtain ⟨k, hk, rfl, rfl, rfl, hall, hbr⟩ := hrel
    have x0 := hbr.cell (p := ⟨w.heap.size + 1, 0, none⟩) lz
    have x1 := hbr.cell (p := ⟨w.heap.size + 1, 1, none⟩) lz
    rw [b0] at x0
    rw [b1] at x1
    have hzr : w.heap.size + 1 < wr.heap.size := Nat.lt_of_lt_of_le lz hbr.size
    have hub := usedN_le l k
    have hbwr : Below w.heap.size w wr := HBW.out.trans (hbr.mono HBW.out.size)
    have HALL := hid hall
    clear hall
    by_cases hlt : k < l.length
    · obtain ⟨e0, he0⟩ : ∃ e0, l[k]? = some e0 := ⟨l[k], List.getElem?_eq_getElem hlt⟩
      obtain ⟨A, gc, hG⟩ := HS.out.one (by omega)
      rw [HFV.out] at hG
      simp only [Value.slice.injEq, true_and] at hG
      obtain ⟨rfl, rfl⟩ := hG
      obtain ⟨f0, f1, f2, hbl⟩ := (HS.out.below hbwr).read he0 HFV.out
      have hus := usedN_succ he0
      have hle := usedN_le l (k + 1)
      have hone : e0.file.blocks.length ≤ 1099511627776 := by omega
      have HK := hid (fun o : Obj => checkFile_in (w := wr.alloc o) (lo := lo) (E := E) (B := B) (s := ⟨e0.name.toArray⟩) (last := ⟨(lastN l k).toArray⟩) (x := e0.file.shut) ((HV.out _ hbwr).alloc o) (hbl.below ((Below.refl _ wr).alloc (Nat.le_refl _) o)) hone)
      obtain ⟨ga, gk, hsv⟩ := hbl.sl
      rw [hsv] at f2 HK
      have HUS := hid hus
      have HE0 := hid he0
      have HBR := hid hbr
      have HBWR := hid hbwr
      clear he0 hbl hsv hus hbr hbwr
      by_cases hok : FOk B ⟨(lastN l k).toArray⟩ ⟨e0.name.toArray⟩ e0.file.blocks
      · have NX : Hid (FilesOk B l (k + 1)) := fun j e hj he => by
          by_cases hjk : j < k
          · exact HALL.out j e hjk he
          · have : j = k := by omega
            subst this
            have h9 := HE0.out
            rw [h9] at he
            cases he
            exact hok
        have HOKF := hid hok
        clear hok
        go_wp2_with (go_at_call 86; refine (HK.out _).mono ?_; rintro e w2 ⟨hres, ht2⟩; obtain rfl : e = .returned .nilIface := by { rcases hres with ⟨_, h⟩ | ⟨hc, _⟩; exact h; exact absurd HOKF.out hc }; clear hres; obtain ⟨q0, q1, q2, lq⟩ := box_up3 ht2; have HT2 := hid ht2; clear ht2)
        have hbn : Below w1.heap.size w1 w2 := HBR.out.trans (((Below.refl _ wr).alloc (Nat.le_refl _) _).trans (HT2.out.mono (by simp)) |>.mono HBR.out.size)
        have hla : encStr e0.name = encStr (lastN l (k + 1)) := by simp [lastN, HE0.out]
        have hue : (usedN l k : Int) + e0.file.blocks.length = (usedN l (k + 1) : Nat) := by rw [HUS.out]; simp
        have HBN := hid hbn
        have HLA := hid hla
        have HUE := hid hue
        clear hbn hla hue
        go_roundw
        case rel => first | exact ⟨k + 1, by omega, by go_num, HLA.out, by rw [HUE.out], NX.out, HBN.out⟩ | ((repeat apply Exists.intro); exact ⟨⟨k + 1, by omega, by go_num, HLA.out, by rw [HUE.out], NX.out, HBN.out⟩, rfl⟩)
        case measure => simp [intOf]; omega
      · have NX : Hid (¬ FilesOk B l l.length) := fun hf => hok (hf k e0 hlt HE0.out)
        have HOKF := hid hok
        clear hok
        go_wp2_with (go_at_call 86; refine (HK.out _).mono ?_; rintro e w2 ⟨hres, ht2⟩; obtain rfl : e = .returned (errV E 10) := by { rcases hres with ⟨hc, _⟩ | ⟨_, h⟩; exact absurd hc HOKF.out; exact h }; clear hres; obtain ⟨q0, q1, q2, lq⟩ := box_up3 ht2; have HT2 := hid ht2; clear ht2)
        go_ret
        exact ⟨⟨some 10, .inr (.inr (.inl ⟨rfl, HOK.out, fun h => NX.out h.2⟩)), rfl⟩, HBWR.out.trans (((Below.refl _ wr).alloc (Nat.le_refl _) _).trans (HT2.out.mono (by simp)) |>.mono HBWR.out.size)⟩
    · have hkk : k = l.length := by omega
      subst hkk
      have c9 := (HV.out _ hbwr).sents.var 9 (by omega)
      have HBWR := hid hbwr
      have HBR := hid hbr
      clear hbr hbwr
      by_cases hu2 : (usedN l l.length : Int) ≤ Bs
      · go_wp2
        go_ret
        exact ⟨⟨none, .inl ⟨rfl, HOK.out, rfl, HALL.out, hu2⟩, rfl⟩, HBWR.out⟩
      · have hu3 : Bs < (usedN l l.length : Int) := by omega
        go_wp2
        go_ret
        exact ⟨⟨some 9, .inr (.inr (.inr ⟨rfl, HOK.out, rfl, HALL.out, by omega⟩)), rfl⟩, HBWR.out⟩
theorem checkMount_in (V : Env w lo E) {sB B Bs : Int} {fv : Value} {l : List SFile} {ta : Option Addr} {tn tc : Nat} (h : StIn w fv l) (hn : l.length ≤ 1099511627776) (hu : usedN l l.length ≤ 1099511627776) :
    Calls Tryz.prog 56 #[.agg #[.int .i64 sB, fv], .agg #[.int .i64 B, .int .i64 Bs, .slice ta tn tc]] w fun e w' => (∃ c, MountV sB B Bs l c ∧ e = .returned (errOf E c)) ∧ Below w.heap.size w w' := by
  by_cases hs : SetOk B Bs
  · by_cases hb : sB = B
    · subst hb
      exact checkMount_files V h hs hn hu
    · obtain ⟨fa, fc, hfv⟩ := h.sl
      rw [hfv]
      exact (checkMount_other V hs hb).mono fun e w' ⟨h1, h2⟩ => ⟨⟨some 10, .inr (.inr (.inl ⟨rfl, hs, fun h => hb h.1⟩)), h1⟩, h2⟩
  · obtain ⟨fa, fc, hfv⟩ := h.sl
    rw [hfv]
    exact (checkMount_bad V hs).mono fun e w' ⟨h1, h2⟩ => ⟨⟨some 0, .inr (.inl ⟨rfl, hs⟩), h1⟩, h2⟩
end
end Go.Proofs.YtcpncfngadablaaGreatDoor
